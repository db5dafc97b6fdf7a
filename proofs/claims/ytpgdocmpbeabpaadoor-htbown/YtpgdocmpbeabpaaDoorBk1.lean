/-
  A bucket on its way, in memory: worth, pour, pass, draw, Check, tell and Take of package bucket: what each returns, what it leaves in the state, and that nothing else that was there before is otherwise. Conditions: a bucket that may be, a level within its room, times up to MaxTime.
-/
import Derived.Test.YtpgdocmpbeabpaaDoorBkMath
import Derived.Deep.RegionHeld3
import Derived.Deep.RegionWith
namespace Go.Proofs.YtpgdocmpbeabpaaDoor
open Go.RowKit Go.Extern.Stop Go.Stop Go.Extern

/-- Of what was there all is as it was, but blocks of S. -/
structure Oth (S : Nat → Prop) (w w' : World) : Prop where
  os : w'.os = w.os
  tape : w'.tape = w.tape
  output : w'.output = w.output
  size : w.heap.size ≤ w'.heap.size
  block : ∀ k, k < w.heap.size → ¬ S k → w'.heap[k]? = w.heap[k]?
theorem Oth.refl (S : Nat → Prop) (w : World) : Oth S w w := ⟨rfl, rfl, rfl, Nat.le_refl _, fun _ _ _ => rfl⟩
theorem Oth.trans {S : Nat → Prop} {a b c : World} (h : Oth S a b) (k : Oth S b c) : Oth S a c :=
  ⟨k.os.trans h.os, k.tape.trans h.tape, k.output.trans h.output, Nat.le_trans h.size k.size, fun i hi hs => (k.block i (Nat.lt_of_lt_of_le hi h.size) hs).trans (h.block i hi hs)⟩
theorem Oth.alloc {S : Nat → Prop} {a w : World} (h : Oth S a w) (o : Obj) : Oth S a (w.alloc o) :=
  h.trans ⟨rfl, rfl, rfl, by simp, fun k hk _ => Below.heap_alloc _ _ _ hk⟩
theorem Oth.setCell {S : Nat → Prop} {a w : World} (h : Oth S a w) {p : Addr} (hp : S p.block) (u : Value) : Oth S a (w.setCell p u) :=
  h.trans ⟨rfl, rfl, rfl, by simp [World.setCell], fun k _ hs => Below.heap_setCell _ _ _ _ (fun e => hs (e ▸ hp))⟩
theorem Oth.drewN {S : Nat → Prop} {a w : World} (h : Oth S a w) (n : Nat) : Oth S a (w.drewN n) := h.trans ⟨rfl, rfl, rfl, Nat.le_refl _, fun _ _ _ => rfl⟩
theorem Oth.drew {S : Nat → Prop} {a w : World} (h : Oth S a w) : Oth S a w.drew := h.trans ⟨rfl, rfl, rfl, Nat.le_refl _, fun _ _ _ => rfl⟩
theorem Oth.of_below {S : Nat → Prop} {w w' : World} (h : Below w.heap.size w w') : Oth S w w' := ⟨h.os, h.tape, h.output, h.size, fun k hk _ => h.block k hk⟩
theorem Oth.below {S : Nat → Prop} {w w' : World} (h : Oth S w w') {B : Nat} (hB : B ≤ w.heap.size) (hS : ∀ k, S k → B ≤ k) : Below B w w' := ⟨h.os, h.tape, h.output, h.size, fun k hk => h.block k (by omega) (fun hs => by have := hS k hs; omega)⟩
theorem Oth.then_below {S : Nat → Prop} {w a b : World} (h : Oth S w a) (k : Below w.heap.size a b) : Oth S w b := ⟨k.os.trans h.os, k.tape.trans h.tape, k.output.trans h.output, Nat.le_trans h.size k.size, fun i hi hs => (k.block i hi).trans (h.block i hi hs)⟩
theorem Oth.mono {S T : Nat → Prop} {w w' : World} (h : Oth S w w') (hST : ∀ k, S k → T k) : Oth T w w' := ⟨h.os, h.tape, h.output, h.size, fun k hk hs => h.block k hk (fun x => hs (hST k x))⟩
theorem Oth.cell {S : Nat → Prop} {w w' : World} (h : Oth S w w') {p : Addr} (hp : p.block < w.heap.size) (hs : ¬ S p.block) : w'.cell? p = w.cell? p := World.cell?_of_block (w := w) (h.block p.block hp hs)

/-- A bucket on its way lies in block s from cell o on (pre ahead of it, post behind it): bytes n in t ticks, room R, level, latest time. -/
def StG (w : World) (s o : Nat) (pre post : List Value) (ty : TypeId) (n t R lev lat : Int) : Prop := pre.length = o ∧ w.heap[s]? = some (.cells (pre ++ .int .i64 n :: .int .i64 t :: .int .i64 R :: .int .i64 lev :: .int .i64 lat :: post).toArray ty (0, 0))
/-- One that has a block of its own. -/
abbrev StAt (w : World) (s : Nat) (n t R lev lat : Int) : Prop := StG w s 0 [] [] 117 n t R lev lat
theorem stg_at (pre post : List Value) (a b c d e : Value) : (pre ++ a :: b :: c :: d :: e :: post)[pre.length]? = some a ∧ (pre ++ a :: b :: c :: d :: e :: post)[pre.length + 1]? = some b ∧ (pre ++ a :: b :: c :: d :: e :: post)[pre.length + 2]? = some c ∧ (pre ++ a :: b :: c :: d :: e :: post)[pre.length + 3]? = some d ∧ (pre ++ a :: b :: c :: d :: e :: post)[pre.length + 4]? = some e := by
  refine ⟨?_, ?_, ?_, ?_, ?_⟩
  all_goals
    rw [List.getElem?_append_right (by omega)]
    simp
theorem StG.cells {w : World} {s o : Nat} {pre post : List Value} {ty : TypeId} {n t R lev lat : Int} (h : StG w s o pre post ty n t R lev lat) : w.cell? ⟨s, o, none⟩ = some (.int .i64 n) ∧ w.cell? ⟨s, o + 1, none⟩ = some (.int .i64 t) ∧ w.cell? ⟨s, o + 2, none⟩ = some (.int .i64 R) ∧ w.cell? ⟨s, o + 3, none⟩ = some (.int .i64 lev) ∧ w.cell? ⟨s, o + 4, none⟩ = some (.int .i64 lat) ∧ w.frozen? ⟨s, o + 3, none⟩ = false ∧ w.frozen? ⟨s, o + 4, none⟩ = false := by
  obtain ⟨rfl, h⟩ := h
  obtain ⟨h0, h1, h2, h3, h4⟩ := stg_at pre post (.int .i64 n) (.int .i64 t) (.int .i64 R) (.int .i64 lev) (.int .i64 lat)
  refine ⟨?_, ?_, ?_, ?_, ?_, ?_, ?_⟩
  · simp [World.cell?, h]
  · simp [World.cell?, h]
  · simp [World.cell?, h]
  · simp [World.cell?, h]
  · simp [World.cell?, h]
  · simp [World.frozen?, h]
  · simp [World.frozen?, h]
theorem StAt.cells {w : World} {s : Nat} {n t R lev lat : Int} (h : StAt w s n t R lev lat) : w.cell? ⟨s, 0, none⟩ = some (.int .i64 n) ∧ w.cell? ⟨s, 1, none⟩ = some (.int .i64 t) ∧ w.cell? ⟨s, 2, none⟩ = some (.int .i64 R) ∧ w.cell? ⟨s, 3, none⟩ = some (.int .i64 lev) ∧ w.cell? ⟨s, 4, none⟩ = some (.int .i64 lat) ∧ w.frozen? ⟨s, 3, none⟩ = false ∧ w.frozen? ⟨s, 4, none⟩ = false := StG.cells h
theorem StG.lt {w : World} {s o : Nat} {pre post : List Value} {ty : TypeId} {n t R lev lat : Int} (h : StG w s o pre post ty n t R lev lat) : s < w.heap.size := lt_of_block h.2
theorem StG.same {w w' : World} {s o : Nat} {pre post : List Value} {ty : TypeId} {n t R lev lat : Int} (h : StG w s o pre post ty n t R lev lat) (he : w'.heap[s]? = w.heap[s]?) : StG w' s o pre post ty n t R lev lat := ⟨h.1, he.trans h.2⟩
theorem StG.kept {w w' : World} {s o : Nat} {pre post : List Value} {ty : TypeId} {n t R lev lat : Int} {S : Nat → Prop} (h : StG w s o pre post ty n t R lev lat) (ho : Oth S w w') (hs : ¬ S s) : StG w' s o pre post ty n t R lev lat := h.same (ho.block s h.lt hs)
theorem StG.alloc {w : World} {s o : Nat} {pre post : List Value} {ty : TypeId} {n t R lev lat : Int} (h : StG w s o pre post ty n t R lev lat) (ob : Obj) : StG (w.alloc ob) s o pre post ty n t R lev lat := h.same (Below.heap_alloc w ob s h.lt)
theorem StG.drewN {w : World} {s o : Nat} {pre post : List Value} {ty : TypeId} {n t R lev lat : Int} (h : StG w s o pre post ty n t R lev lat) (k : Nat) : StG (w.drewN k) s o pre post ty n t R lev lat := h
theorem set_at {α : Type} (pre post : List α) (a b : α) (k : Nat) (c : List α) (hk : c.length = k) : (pre ++ (c ++ a :: post)).set (pre.length + k) b = pre ++ (c ++ b :: post) := by
  subst hk
  rw [List.set_append_right _ _ (by omega), Nat.add_sub_cancel_left, List.set_append_right _ _ (Nat.le_refl _), Nat.sub_self]
  rfl
theorem StG.setLev {w : World} {s o : Nat} {pre post : List Value} {ty : TypeId} {n t R lev lat : Int} (h : StG w s o pre post ty n t R lev lat) (v : Int) : StG (w.setCell ⟨s, o + 3, none⟩ (.int .i64 v)) s o pre post ty n t R v lat := by
  refine ⟨h.1, ?_⟩
  obtain ⟨rfl, h⟩ := h
  have hlt := lt_of_block h
  have h' := Option.some.inj ((Array.getElem?_eq_getElem hlt).symm.trans h)
  show (w.heap.modify s _)[s]? = _
  rw [Array.getElem?_eq_getElem (by simpa using hlt), Array.getElem_modify_self, h']
  show some (Obj.cells _ _ _) = _
  rw [List.setIfInBounds_toArray]
  exact congrArg (fun l : List Value => some (Obj.cells l.toArray ty (0, 0))) (set_at pre (.int .i64 lat :: post) (.int .i64 lev) (.int .i64 v) 3 [.int .i64 n, .int .i64 t, .int .i64 R] rfl)
theorem StG.setLat {w : World} {s o : Nat} {pre post : List Value} {ty : TypeId} {n t R lev lat : Int} (h : StG w s o pre post ty n t R lev lat) (v : Int) : StG (w.setCell ⟨s, o + 4, none⟩ (.int .i64 v)) s o pre post ty n t R lev v := by
  refine ⟨h.1, ?_⟩
  obtain ⟨rfl, h⟩ := h
  have hlt := lt_of_block h
  have h' := Option.some.inj ((Array.getElem?_eq_getElem hlt).symm.trans h)
  show (w.heap.modify s _)[s]? = _
  rw [Array.getElem?_eq_getElem (by simpa using hlt), Array.getElem_modify_self, h']
  show some (Obj.cells _ _ _) = _
  rw [List.setIfInBounds_toArray]
  exact congrArg (fun l : List Value => some (Obj.cells l.toArray ty (0, 0))) (set_at pre post (.int .i64 lat) (.int .i64 v) 4 [.int .i64 n, .int .i64 t, .int .i64 R, .int .i64 lev] rfl)

/-- A bucket that may be. -/
def okB (n t R : Int) : Prop := (1 ≤ n ∧ n ≤ 1000000) ∧ (1 ≤ t ∧ t ≤ 1000000) ∧ 0 ≤ R ∧ R ≤ 1000000
theorem okB.room {n t R : Int} (h : okB n t R) : 0 ≤ R * t ∧ R * t ≤ 1000000000000 := by
  obtain ⟨_, h1, h2⟩ := h
  have := prod_bounds (n := t) (R := R) (a := 1000000) (b := 1000000) (by omega) h1.2 h2.1 h2.2
  omega

theorem worth_any {n t R lev lat : Int} (x : Int) {s o : Nat} {pre post : List Value} {ty : TypeId} (w : World) (h : StG w s o pre post ty n t R lev lat) (h0 : 0 ≤ x * t) (h1 : x * t ≤ 1000000000000) :
    Calls Tryd.prog 46 #[.pointer (some ⟨s, o, none⟩), .int .i64 x] w fun e w' => e = .returned (.int .i64 (x * t)) ∧ w' = w := by
  obtain ⟨c0, c1, c2, c3, c4, f3, f4⟩ := h.cells
  go_enter Tryd.func46, Tryd.ntmps46
  go_wp2
  go_ret
  exact ⟨rfl, rfl⟩

/-- What is told of so much more: what finds no room. -/
def ovp (t R lev more : Int) : Int := if lev + more ≤ R * t then 0 else lev + more - R * t
/-- What is left behind a draw of x bytes. -/
def drw (t lev x : Int) : Int := if x * t ≤ lev then lev - x * t else lev
def drwB (t lev x : Int) : Bool := decide (x * t ≤ lev)

theorem pour_any {n t R lev lat : Int} (more : Int) {s o : Nat} {pre post : List Value} {ty : TypeId} (w : World) (h : StG w s o pre post ty n t R lev lat) (hr0 : 0 ≤ R * t) (hr1 : R * t ≤ 1000000000000) (hl0 : 0 ≤ lev) (hl1 : lev ≤ R * t) (hm0 : 0 ≤ more) (hm1 : more ≤ 2000000000000000) :
    Calls Tryd.prog 53 #[.pointer (some ⟨s, o, none⟩), .int .i64 more] w fun e w' => e = .returned (.int .i64 (ovp t R lev more)) ∧ StG w' s o pre post ty n t R (pou t R lev more) lat ∧ Oth (· = s) w w' := by
  obtain ⟨c0, c1, c2, c3, c4, f3, f4⟩ := h.cells
  have H : Hid (StG w s o pre post ty n t R lev lat) := h
  clear h
  by_cases hc : lev + more ≤ R * t
  · have HC : Hid (lev + more ≤ R * t) := hc
    go_enter Tryd.func53, Tryd.ntmps53
    go_wp2
    go_quiet ((go_at_call 46; exact Calls.quiet_of_same (worth_any _ _ H.out hr0 hr1)))
    go_wp2
    go_ret
    refine ⟨by rw [ovp, if_pos HC.out]; rfl, ?_, ((Oth.refl (· = s) w).drewN _).setCell (p := ⟨s, o + 3, none⟩) rfl _⟩
    rw [pou, if_pos HC.out]
    exact (H.out.drewN _).setLev _
  · have HC : Hid (R * t < lev + more) := Int.not_le.1 hc
    go_enter Tryd.func53, Tryd.ntmps53
    go_wp2
    go_quiet ((go_at_call 46; exact Calls.quiet_of_same (worth_any _ _ H.out hr0 hr1)))
    go_wp2
    go_ret
    refine ⟨by rw [ovp, if_neg (Int.not_le.2 HC.out)]; rfl, ?_, ((Oth.refl (· = s) w).drewN _).setCell (p := ⟨s, o + 3, none⟩) rfl _⟩
    have e : pou t R lev more = lev + (more - (lev + more - R * t)) := by rw [pou, if_neg (Int.not_le.2 HC.out)]; omega
    rw [e]
    exact (H.out.drewN _).setLev _

theorem pass_any {n t R lev lat : Int} (now : Int) {s o : Nat} {pre post : List Value} {ty : TypeId} (w : World) (h : StG w s o pre post ty n t R lev lat) (hb : okB n t R) (hl0 : 0 ≤ lev) (hl1 : lev ≤ R * t) (ht0 : 0 ≤ lat) (ht1 : now ≤ 1000000000) :
    Calls Tryd.prog 47 #[.pointer (some ⟨s, o, none⟩), .int .i64 now] w fun e w' => e = .returned (.int .i64 (ovr n t R lev lat now)) ∧ StG w' s o pre post ty n t R (pas n t R lev lat now) (lat1 lat now) ∧ Oth (· = s) w w' := by
  obtain ⟨hr0, hr1⟩ := hb.room
  obtain ⟨c0, c1, c2, c3, c4, f3, f4⟩ := h.cells
  have H : Hid (StG w s o pre post ty n t R lev lat) := h
  clear h
  by_cases hc : now ≤ lat
  · have HC : Hid (now ≤ lat) := hc
    clear hb
    go_enter Tryd.func47, Tryd.ntmps47
    go_wp2
    go_ret
    refine ⟨by rw [ovr, if_pos HC.out]; rfl, ?_, Oth.refl _ _⟩
    rw [pas, lat1, if_pos HC.out, if_pos HC.out]
    exact H.out
  · have HC : Hid (lat < now) := Int.not_le.1 hc
    obtain ⟨hn, _, _⟩ := hb
    have hg := prod_bounds (n := n) (R := now - lat) (a := 1000000) (b := 1000000000) (by omega) hn.2 (by omega) (by omega)
    obtain ⟨hg0, hg1⟩ := hg
    have hg1' : (now - lat) * n ≤ 2000000000000000 := by omega
    have H2 : Hid (StG (w.setCell ⟨s, o + 4, none⟩ (.int .i64 now)) s o pre post ty n t R lev now) := H.out.setLat now
    obtain ⟨d0, d1, d2, d3, d4, g3, g4⟩ := H2.out.cells
    have HP := pour_any ((now - lat) * n) _ H2.out hr0 hr1 hl0 hl1 hg0 hg1'
    go_enter Tryd.func47, Tryd.ntmps47
    go_wp2_with (go_at_call 53; refine HP.mono ?_; rintro e w1 ⟨rfl, hs1, ho1⟩)
    go_ret
    refine ⟨?_, ?_, ((Oth.refl (· = s) w).setCell (p := ⟨s, o + 4, none⟩) rfl _).trans ho1⟩
    · rw [ovr, if_neg (Int.not_le.2 HC.out)]; rfl
    · rw [pas, lat1, if_neg (Int.not_le.2 HC.out), if_neg (Int.not_le.2 HC.out)]
      exact hs1
theorem cell_drewN {w : World} {a : Addr} {v : Value} (h : w.cell? a = some v) (n : Nat) : (w.drewN n).cell? a = some v := h
theorem draw_any {n t R lev lat : Int} (x : Int) {s o : Nat} {pre post : List Value} {ty : TypeId} (w : World) (h : StG w s o pre post ty n t R lev lat) (hb : okB n t R) (hl0 : 0 ≤ lev) (hl1 : lev ≤ R * t) (hx0 : 0 ≤ x) (hx1 : x ≤ 1000000) :
    Calls Tryd.prog 40 #[.pointer (some ⟨s, o, none⟩), .int .i64 x] w fun e w' => e = .returned (.bool (drwB t lev x)) ∧ StG w' s o pre post ty n t R (drw t lev x) lat ∧ Oth (· = s) w w' := by
  obtain ⟨hr0, hr1⟩ := hb.room
  obtain ⟨hg0, hg1⟩ := prod_bounds (n := t) (R := x) (a := 1000000) (b := 1000000) (by have := hb.2.1; omega) hb.2.1.2 hx0 hx1
  have hg1' : x * t ≤ 1000000000000 := by omega
  have hwr : IntKind.i64.wrap (lev - x * t) = lev - x * t := by rw [IntKind.wrap_i64]; omega
  obtain ⟨c0, c1, c2, c3, c4, f3, f4⟩ := h.cells
  have H : Hid (StG w s o pre post ty n t R lev lat) := h
  clear h hb
  by_cases hc : x * t ≤ lev
  · have HC : Hid (x * t ≤ lev) := hc
    go_enter Tryd.func40, Tryd.ntmps40
    go_wp2
    go_quiet ((go_at_call 46; exact Calls.quiet_of_same (worth_any _ _ H.out hg0 hg1')))
    go_wp2
    go_region_with ((go_at_call 46; refine (worth_any _ _ (H.out.drewN _) hg0 hg1').mono ?_; rintro e w' ⟨rfl, rfl⟩))
    all_goals
      go_wp2
      go_ret
      refine ⟨by simp [drwB]; exact HC.out, ?_, ((Oth.refl (· = s) w).drewN _).setCell (p := ⟨s, o + 3, none⟩) rfl _⟩
      rw [drw, if_pos HC.out]
      exact (H.out.drewN _).setLev _
  · have HC : Hid (lev < x * t) := Int.not_le.1 hc
    go_enter Tryd.func40, Tryd.ntmps40
    go_wp2
    go_quiet ((go_at_call 46; exact Calls.quiet_of_same (worth_any _ _ H.out hg0 hg1')))
    go_wp2
    go_ret
    refine ⟨by simp [drwB]; exact HC.out, ?_, (Oth.refl (· = s) w).drewN _⟩
    rw [drw, if_neg (Int.not_le.2 HC.out)]
    exact H.out.drewN _
end Go.Proofs.YtpgdocmpbeabpaaDoor
