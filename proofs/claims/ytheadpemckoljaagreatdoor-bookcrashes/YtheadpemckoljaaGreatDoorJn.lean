/-
  The program's book and the reference's side by side in memory: what each of Add, Sync leaves of both. Conditions: both lie in memory, apart.
-/
import Derived.Test.YtheadpemckoljaaGreatDoorJk
import Derived.Test.YtheadpemckoljaaGreatDoorJ8
namespace Go.Proofs.YtheadpemckoljaaGreatDoor
open Go.RowKit Go.Extern.Stop Go.Stop Go.Extern Go.Maps Go.WideMaps

/-- Both books, apart, in memory from block B on: the program's holds l, the reference's l'. -/
def Two (B : Nat) (w : World) (b r sure : Nat) (l l' : List Ent) : Prop :=
  ∃ cm jv lv, BkAt w b cm jv sure l ∧ RbAt w r lv l' ∧ (∀ k, BkS b cm jv k → B ≤ k) ∧ (∀ k, RbS r lv k → B ≤ k) ∧ ∀ k, BkS b cm jv k → ¬ RbS r lv k
theorem Two.below {B : Nat} {w w' : World} {b r sure : Nat} {l l' : List Ent} (h : Two B w b r sure l l') (hb : Below w.heap.size w w') : Two B w' b r sure l l' := by
  obtain ⟨cm, jv, lv, h1, h2, h3, h4, h5⟩ := h
  exact ⟨cm, jv, lv, h1.below hb, h2.below hb, h3, h4, h5⟩
theorem Two.low {B : Nat} {w : World} {b r sure : Nat} {l l' : List Ent} (h : Two B w b r sure l l') : B ≤ w.heap.size := by
  obtain ⟨cm, jv, lv, h1, h2, h3, h4, h5⟩ := h
  have k1 := h3 b (Or.inl rfl)
  have k2 := h1.lt (Or.inl rfl : BkS b cm jv b)
  omega
theorem ot_below {S : Nat → Prop} {w w' : World} {B : Nat} (h : Ot S w w') (hB : B ≤ w.heap.size) (hS : ∀ k, S k → B ≤ k) : Below B w w' := h.below hB hS
theorem two_new (B : Nat) (w : World) (hB : B ≤ w.heap.size) :
    Two B ((w.alloc (.cells #[.map none, .slice none 0 0, .int .i64 0, .int .i64 0] 28)).alloc (.cells #[.slice none 0 0] 32)) w.heap.size (w.heap.size + 1) 0 [] [] := by
  have h1 := (BkAt.new w).below (Below.alloc (Below.refl (w.alloc (.cells #[.map none, .slice none 0 0, .int .i64 0, .int .i64 0] 28)).heap.size _) (Nat.le_refl _) (.cells #[.slice none 0 0] 32))
  have h2 := RbAt.new (w.alloc (.cells #[.map none, .slice none 0 0, .int .i64 0, .int .i64 0] 28))
  have e : (w.alloc (.cells #[.map none, .slice none 0 0, .int .i64 0, .int .i64 0] 28)).heap.size = w.heap.size + 1 := by simp
  rw [e] at h2
  refine ⟨none, .slice none 0 0, .slice none 0 0, h1, h2, fun k hk => ?_, fun k hk => ?_, fun k hk hr => ?_⟩
  · exact Nat.le_trans hB (bks_new w.heap.size k hk)
  · exact Nat.le_trans (Nat.le_trans hB (Nat.le_succ _)) (rbs_new _ k hk)
  · have k1 := rbs_new _ k hr
    rcases hk with rfl | hk | hk
    · omega
    · cases hk
    · simp [Value.ownBlock] at hk
theorem two_add (B b r sure : Nat) (l : List Ent) (nm : List UInt8) (n : Int) (w : World) (h : Two B w b r sure l l) (hT : Tab w) (he : EntOk (nm, n)) (hl : l.length < 500) :
    Calls Tryz.prog 8 #[.pointer (some ⟨b, 0, none⟩), .string ⟨nm.toArray⟩, .int .i64 n] w fun e w' => e = .returned .nilIface ∧ Two B w' b r sure (l ++ [(nm, n)]) l ∧ Below B w w' := by
  have hB := h.low
  obtain ⟨cm, jv, lv, h1, h2, h3, h4, h5⟩ := h
  refine (add_yes b cm jv sure l nm n w h1 hT he hl).mono ?_
  rintro e w' ⟨a, cm', jv', k1, k2, k3⟩
  refine ⟨a, ⟨cm', jv', lv, k1, h2.oth k2 (fun k hr hb => h5 k hb hr), fun k hk => ?_, h4, fun k hk hr => ?_⟩, k2.below hB h3⟩
  · rcases k3 k hk with q | q
    · exact h3 k q
    · omega
  · rcases k3 k hk with q | q
    · exact h5 k q hr
    · have := h2.lt hr
      omega
theorem two_radd (B b r sure : Nat) (L l : List Ent) (nm : List UInt8) (n : Int) (w : World) (h : Two B w b r sure L l) (he : EntOk (nm, n)) (hl : l.length < 500) :
    Calls Tryz.prog 9 #[.pointer (some ⟨r, 0, none⟩), .string ⟨nm.toArray⟩, .int .i64 n] w fun e w' => e = .returned (.int .i64 0) ∧ Two B w' b r sure L (l ++ [(nm, n)]) ∧ Below B w w' := by
  have hB := h.low
  obtain ⟨cm, jv, lv, h1, h2, h3, h4, h5⟩ := h
  refine (radd_yes r lv l nm n w h2 he hl).mono ?_
  rintro e w' ⟨a, lv', k1, k2, k3⟩
  refine ⟨a, ⟨cm, jv, lv', h1.oth k2 (fun k hb hr => h5 k hb hr), k1, h3, fun k hk => ?_, fun k hb hr => ?_⟩, k2.below hB h4⟩
  · rcases k3 k hk with q | q
    · exact h4 k q
    · omega
  · rcases k3 k hr with q | q
    · exact h5 k hb q
    · have := h1.lt hb
      omega
theorem two_sync (B b r sure : Nat) (l l' : List Ent) (w : World) (h : Two B w b r sure l l') :
    Calls Tryz.prog 12 #[.pointer (some ⟨b, 0, none⟩)] w fun e w' => e = .returned (.tuple #[]) ∧ Two B w' b r (jour l).length l l' ∧ Below B w w' := by
  have hB := h.low
  obtain ⟨cm, jv, lv, h1, h2, h3, h4, h5⟩ := h
  refine (sync_any b cm jv sure l w h1).mono ?_
  rintro e w' ⟨a, k1, k2⟩
  exact ⟨a, ⟨cm, jv, lv, k1, h2.oth k2 (fun k hr hb => h5 k hb hr), h3, h4, h5⟩, k2.below hB h3⟩
theorem two_add_no (B b r sure : Nat) (l l' : List Ent) (nm : List UInt8) (n : Int) (w : World) (h : Two B w b r sure l l') (hs : nm.length ≤ maxLen) (he : addE l.length (nm, n) ≠ 0) :
    Calls Tryz.prog 8 #[.pointer (some ⟨b, 0, none⟩), .string ⟨nm.toArray⟩, .int .i64 n] w fun e w' => e = .returned (.iface 37 (.int .i64 (addE l.length (nm, n)))) ∧ Below w.heap.size w w' := by
  obtain ⟨cm, jv, lv, h1, h2, h3, h4, h5⟩ := h
  exact add_no b cm jv sure l nm n w h1 hs he
theorem two_radd_no (B b r sure : Nat) (l l' : List Ent) (nm : List UInt8) (n : Int) (w : World) (h : Two B w b r sure l l') (hs : nm.length ≤ maxLen) (he : addE l'.length (nm, n) ≠ 0) :
    Calls Tryz.prog 9 #[.pointer (some ⟨r, 0, none⟩), .string ⟨nm.toArray⟩, .int .i64 n] w fun e w' => e = .returned (.int .i64 (addE l'.length (nm, n))) ∧ w' = w := by
  obtain ⟨cm, jv, lv, h1, h2, h3, h4, h5⟩ := h
  exact radd_no r lv l' nm n w h2 hs he
theorem two_get (B b r sure : Nat) (l l' : List Ent) (s : List UInt8) (w : World) (h : Two B w b r sure l l') (hs : s.length ≤ maxLen) :
    Calls Tryz.prog 14 #[.pointer (some ⟨b, 0, none⟩), .string ⟨s.toArray⟩] w fun e w' => e = .returned (.int .i64 (sumE l s)) ∧ Below w.heap.size w w' := by
  obtain ⟨cm, jv, lv, h1, -⟩ := h
  exact get_any b cm jv sure l s w h1 hs
theorem two_rget (B b r sure : Nat) (l l' : List Ent) (s : List UInt8) (w : World) (h : Two B w b r sure l l') :
    Calls Tryz.prog 15 #[.pointer (some ⟨r, 0, none⟩), .string ⟨s.toArray⟩] w fun e w' => e = .returned (.int .i64 (sumE l' s)) ∧ Below w.heap.size w w' := by
  obtain ⟨cm, jv, lv, -, h2, -⟩ := h
  exact rget_any r lv l' s w h2
theorem two_lines (B b r sure : Nat) (l l' : List Ent) (w : World) (h : Two B w b r sure l l') :
    Calls Tryz.prog 16 #[.pointer (some ⟨b, 0, none⟩)] w fun e w' => e = .returned (.int .i64 (l.length : Nat)) ∧ Below w.heap.size w w' := by
  obtain ⟨cm, jv, lv, h1, -⟩ := h
  exact lines_any b cm jv sure l w h1
theorem two_names (B b r sure : Nat) (l l' : List Ent) (w : World) (h : Two B w b r sure l l') :
    Calls Tryz.prog 18 #[.pointer (some ⟨b, 0, none⟩)] w fun e w' => ∃ v ss, e = .returned v ∧ NamesOf l ss ∧ w'.ownsRow w.heap.size 9 1 v ss.length (ss.map encStr) ∧ Below w.heap.size w w' := by
  obtain ⟨cm, jv, lv, h1, -⟩ := h
  exact names_any b cm jv sure l w h1
theorem two_rnames (B b r sure : Nat) (l l' : List Ent) (w : World) (h : Two B w b r sure l l') :
    Calls Tryz.prog 19 #[.pointer (some ⟨r, 0, none⟩)] w fun e w' => ∃ v ss, e = .returned v ∧ NamesOf l' ss ∧ w'.ownsRow w.heap.size 9 1 v ss.length (ss.map encStr) ∧ Below w.heap.size w w' := by
  obtain ⟨cm, jv, lv, -, h2, -⟩ := h
  exact rnames_any r lv l' w h2
theorem two_rjournal (B b r sure : Nat) (l l' : List Ent) (w : World) (h : Two B w b r sure l l') (hT : Tab w) :
    Calls Tryz.prog 13 #[.pointer (some ⟨r, 0, none⟩)] w fun e w' => e = .returned (.string ⟨(jour l').toArray⟩) ∧ Below w.heap.size w w' := by
  obtain ⟨cm, jv, lv, -, h2, -⟩ := h
  exact rjournal_any r lv l' w h2 hT
/-- The cell of the reference's entries. -/
theorem Two.rcell {B : Nat} {w : World} {b r sure : Nat} {l l' : List Ent} (h : Two B w b r sure l l') : ∃ x c, w.cell? ⟨r, 0, none⟩ = some (.slice x l'.length c) := by
  obtain ⟨cm, jv, lv, -, h2, -⟩ := h
  obtain ⟨x, c, rfl⟩ := owns_slice h2.row
  exact ⟨x, c, (one_cellj h2.blk).1⟩
theorem Two.facts {B : Nat} {w : World} {b r sure : Nat} {l l' : List Ent} (h : Two B w b r sure l l') : (∀ e ∈ l, EntOk e) ∧ l.length ≤ 500 ∧ sure ≤ (jour l).length := by
  obtain ⟨cm, jv, lv, h1, -⟩ := h
  exact ⟨h1.ok, h1.few, h1.sr⟩
end Go.Proofs.YtheadpemckoljaaGreatDoor
