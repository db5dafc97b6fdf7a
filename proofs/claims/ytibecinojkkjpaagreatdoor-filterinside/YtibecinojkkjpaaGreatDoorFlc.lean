/-
  package filter: Inside. Conditions: the filter lies in memory, and is not too great.
-/
import Derived.Test.YtibecinojkkjpaaGreatDoorFlb
namespace Go.Proofs.YtibecinojkkjpaaGreatDoor
open Go.RowKit Go.Extern.Stop Go.Stop Go.Extern

theorem taAnyNot (v : Value) (w : World) : (Instr.typeAssert (.iface 76 v) 29 93 true).run Tryz.prog w = .ok (.tuple #[.agg #[.nilIface], .bool false]) w := by kernel_rfl
theorem taAnyAll (v : Value) (w : World) : (Instr.typeAssert (.iface 76 v) 29 94 true).run Tryz.prog w = .ok (.tuple #[.pointer none, .bool false]) w := by kernel_rfl
theorem taAnySome (v : Value) (w : World) : (Instr.typeAssert (.iface 76 v) 29 95 true).run Tryz.prog w = .ok (.tuple #[.pointer none, .bool false]) w := by kernel_rfl
theorem taSpanNot (v : Value) (w : World) : (Instr.typeAssert (.iface 111 v) 29 93 true).run Tryz.prog w = .ok (.tuple #[.agg #[.nilIface], .bool false]) w := by kernel_rfl
theorem taSpanAll (v : Value) (w : World) : (Instr.typeAssert (.iface 111 v) 29 94 true).run Tryz.prog w = .ok (.tuple #[.pointer none, .bool false]) w := by kernel_rfl
theorem taSpanSome (v : Value) (w : World) : (Instr.typeAssert (.iface 111 v) 29 95 true).run Tryz.prog w = .ok (.tuple #[.pointer none, .bool false]) w := by kernel_rfl
theorem taBitsNot (v : Value) (w : World) : (Instr.typeAssert (.iface 134 v) 29 93 true).run Tryz.prog w = .ok (.tuple #[.agg #[.nilIface], .bool false]) w := by kernel_rfl
theorem taBitsAll (v : Value) (w : World) : (Instr.typeAssert (.iface 134 v) 29 94 true).run Tryz.prog w = .ok (.tuple #[.pointer none, .bool false]) w := by kernel_rfl
theorem taBitsSome (v : Value) (w : World) : (Instr.typeAssert (.iface 134 v) 29 95 true).run Tryz.prog w = .ok (.tuple #[.pointer none, .bool false]) w := by kernel_rfl
theorem taNotNot (v : Value) (w : World) : (Instr.typeAssert (.iface 93 v) 29 93 true).run Tryz.prog w = .ok (.tuple #[v, .bool true]) w := by kernel_rfl
theorem taNotAll (v : Value) (w : World) : (Instr.typeAssert (.iface 93 v) 29 94 true).run Tryz.prog w = .ok (.tuple #[.pointer none, .bool false]) w := by kernel_rfl
theorem taNotSome (v : Value) (w : World) : (Instr.typeAssert (.iface 93 v) 29 95 true).run Tryz.prog w = .ok (.tuple #[.pointer none, .bool false]) w := by kernel_rfl
theorem taAllNot (v : Value) (w : World) : (Instr.typeAssert (.iface 94 v) 29 93 true).run Tryz.prog w = .ok (.tuple #[.agg #[.nilIface], .bool false]) w := by kernel_rfl
theorem taAllAll (v : Value) (w : World) : (Instr.typeAssert (.iface 94 v) 29 94 true).run Tryz.prog w = .ok (.tuple #[v, .bool true]) w := by kernel_rfl
theorem taAllSome (v : Value) (w : World) : (Instr.typeAssert (.iface 94 v) 29 95 true).run Tryz.prog w = .ok (.tuple #[.pointer none, .bool false]) w := by kernel_rfl
theorem taSomeNot (v : Value) (w : World) : (Instr.typeAssert (.iface 95 v) 29 93 true).run Tryz.prog w = .ok (.tuple #[.agg #[.nilIface], .bool false]) w := by kernel_rfl
theorem taSomeAll (v : Value) (w : World) : (Instr.typeAssert (.iface 95 v) 29 94 true).run Tryz.prog w = .ok (.tuple #[.pointer none, .bool false]) w := by kernel_rfl
theorem taSomeSome (v : Value) (w : World) : (Instr.typeAssert (.iface 95 v) 29 95 true).run Tryz.prog w = .ok (.tuple #[v, .bool true]) w := by kernel_rfl
set_option maxRecDepth 100000 in
/-- A filter that nothing is within. -/
theorem turn_leaf (ty : TypeId) (p : Value) (no : Bool) (w : World) (hty : ty = 76 ∨ ty = 111 ∨ ty = 134) :
    Calls Tryz.prog 22 #[.iface ty p, .bool no] w fun e w' => e = .returned (if no then .iface 93 (.agg #[.iface ty p]) else .iface ty p) ∧ Below w.heap.size w w' := by
  have a1 := taAnyNot; have a2 := taAnyAll; have a3 := taAnySome
  have b1 := taSpanNot; have b2 := taSpanAll; have b3 := taSpanSome
  have c1 := taBitsNot; have c2 := taBitsAll; have c3 := taBitsSome
  rcases hty with rfl | rfl | rfl <;> cases no
  all_goals
    go_enter Tryz.func22, Tryz.ntmps22
    go_wp2
    go_ret
    exact ⟨rfl, Below.refl _ _⟩
theorem FAt.leaf {w w' : World} {S S' : Nat → Prop} {d : Nat} {t : Ft} {v : Value} (h : FAt w S (d + 1) t v) (hk : t.k < 3) : FAt w' S' (d + 1) t v := by
  rcases h with h | h | h | ⟨y, u, rfl, _⟩ | ⟨k, l, b, sl, vs, rfl, hk2, _⟩
  · exact Or.inl h
  · exact Or.inr (Or.inl h)
  · exact Or.inr (Or.inr (Or.inl h))
  · exact absurd hk (by show ¬ 3 < 3; decide)
  · simp only at hk; omega
theorem FAt.up {w : World} {S : Nat → Prop} : ∀ {d : Nat} {t : Ft} {v : Value}, FAt w S d t v → FAt w S (d + 1) t v
  | 0, _, _, h => h.elim
  | d + 1, t, v, h => by
    rcases h with h | h | h | ⟨y, u, h1, h2, h3⟩ | ⟨k, l, b, sl, vs, h1, h2, h3, h4, h5, h6, h7, h8, h9⟩
    · exact Or.inl h
    · exact Or.inr (Or.inl h)
    · exact Or.inr (Or.inr (Or.inl h))
    · exact Or.inr (Or.inr (Or.inr (Or.inl ⟨y, u, h1, h2, FAt.up h3⟩)))
    · exact Or.inr (Or.inr (Or.inr (Or.inr ⟨k, l, b, sl, vs, h1, h2, h3, h4, h5, h6, h7, h8, fun i y u a b => FAt.up (h9 i y u a b)⟩)))
set_option maxRecDepth 100000 in
set_option maxHeartbeats 4000000 in
theorem turnC : ∀ d : Nat, TurnC d := by
  intro d
  induction d with
  | zero => intro t v no w S h; exact h.elim
  | succ d ih =>
    intro t v no w S h hn
    have leaf : ∀ (ty : TypeId) (p : Value), v = .iface ty p → t.k < 3 → (ty = 76 ∨ ty = 111 ∨ ty = 134) → Calls Tryz.prog 22 #[v, .bool no] w fun e w' => ∃ v', e = .returned v' ∧ FAt w' (fun k => w.heap.size ≤ k) (d + 1 + 1) (turn (d + 1) no t) v' ∧ Below w.heap.size w w' := by
      rintro ty p rfl hk hty
      refine (turn_leaf ty p no w hty).mono ?_
      rintro e w' ⟨rfl, hb⟩
      refine ⟨_, rfl, ?_, hb⟩
      have e1 : turn (d + 1) no t = if no then notT t else t := by rw [turn, if_pos hk]
      rw [e1]
      cases no
      · exact FAt.up (h.leaf hk)
      · exact Or.inr (Or.inr (Or.inr (Or.inl ⟨t, _, rfl, rfl, h.leaf hk⟩)))
    have h0 := h
    rcases h with ⟨rfl, rfl⟩ | ⟨f, lo, hi, rfl, rfl, hf, _⟩ | ⟨f, n, rfl, rfl, hf, _⟩ | ⟨y, u, rfl, rfl, hy⟩ | ⟨k, l, b, sl, vs, rfl, hk, rfl, hS, hb, hsl, hs, hl, hel⟩
    · exact leaf _ _ rfl (by decide) (Or.inl rfl)
    · exact leaf _ _ rfl (by show 1 < 3; decide) (Or.inr (Or.inl rfl))
    · exact leaf _ _ rfl (by show 2 < 3; decide) (Or.inr (Or.inr rfl))
    · clear leaf h0
      have a1 := taNotNot
      rw [nd_not] at hn
      have HC : Hid (∀ w1, Below w.heap.size w w1 → Calls Tryz.prog 22 #[u, .bool (!no)] w1 fun e w' => ∃ v', e = .returned v' ∧ FAt w' (fun k => w1.heap.size ≤ k) (d + 1) (turn d (!no) y) v' ∧ Below w1.heap.size w1 w') := fun w1 h1 => ih y u (!no) w1 S (hy.below h1) (by omega)
      obtain ⟨ty, p, rfl⟩ := hy.form
      clear hy hn
      go_enter Tryz.func22, Tryz.ntmps22
      go_wp2_with fail
      have hbA := below_alloc_ (Below.refl w.heap.size w) (.cells #[.iface ty p] 93)
      refine (HC.out _ hbA).mono ?_
      rintro e w2 ⟨v', rfl, hf2, hb2⟩
      have HF : Hid (FAt w2 (fun k => w.heap.size ≤ k) (d + 1 + 1) (turn d (!no) y) v') := FAt.up (hf2.sub fun k hk => by simp at hk; omega)
      have HB : Hid (Below w.heap.size w w2) := hbA.trans (hb2.mono hbA.size)
      clear hf2 hb2 hbA
      go_wp2
      go_ret
      exact ⟨_, rfl, HF.out, HB.out⟩
    · clear leaf h0
      obtain ⟨y, c, rfl, -⟩ := seg_slice hs
      have hn2 : (l.map (nd d)).sum ≤ 100000 := by rw [nd_lst _ _ hk] at hn; omega
      have HC : Hid (Calls Tryz.prog 36 #[.slice y l.length c, .bool no] w fun e w' => ∃ pv vs', e = .returned pv ∧ GrR w w.heap.size (d + 1) pv (l.map (turn d no)) vs' w') := each_any ih no w S hs hl hel hn2
      have c0 : w.cell? ⟨b, 0, none⟩ = some (.slice y l.length c) := by simp [World.cell?, hb]
      have hbl := lt_of_block hb
      clear hs hl hel hn hn2 hS hsl hb
      have a1 := taAllNot; have a2 := taAllAll
      have b1 := taSomeNot; have b2 := taSomeAll; have b3 := taSomeSome
      rw [turn_lst _ _ _ hk]
      rcases hk with rfl | rfl <;> cases no
      · go_enter Tryz.func22, Tryz.ntmps22
        go_wp2_with fail
        refine HC.out.mono ?_
        rintro e w2 ⟨pv, vs', rfl, hgr⟩
        obtain ⟨y2, c2, e2, -⟩ := seg_slice hgr.seg
        rw [List.length_map] at e2
        subst e2
        have hbA := below_alloc_ (Below.refl w2.heap.size w2) (.cells #[.slice y2 l.length c2] 99)
        have HF : Hid (FAt (w2.alloc (.cells #[.slice y2 l.length c2] 99)) (fun k => w.heap.size ≤ k) (d + 1 + 1) ⟨4, 0, 0, 0, l.map (turn d false)⟩ (.iface 94 (.pointer (some ⟨w2.heap.size, 0, none⟩)))) := hgr.made (K := 4) (B := w2.heap.size) (by decide) hbA (new_block _ _) (Nat.le_refl _)
        have HB : Hid (Below w.heap.size w (w2.alloc (.cells #[.slice y2 l.length c2] 99))) := hgr.isBelow.trans (hbA.mono hgr.isBelow.size)
        clear hbA hgr
        go_wp2
        go_ret
        exact ⟨_, rfl, HF.out, HB.out⟩
      · go_enter Tryz.func22, Tryz.ntmps22
        go_wp2_with fail
        refine HC.out.mono ?_
        rintro e w2 ⟨pv, vs', rfl, hgr⟩
        obtain ⟨y2, c2, e2, -⟩ := seg_slice hgr.seg
        rw [List.length_map] at e2
        subst e2
        have hbA := below_alloc_ (Below.refl w2.heap.size w2) (.cells #[.slice y2 l.length c2] 100)
        have HF : Hid (FAt (w2.alloc (.cells #[.slice y2 l.length c2] 100)) (fun k => w.heap.size ≤ k) (d + 1 + 1) ⟨5, 0, 0, 0, l.map (turn d true)⟩ (.iface 95 (.pointer (some ⟨w2.heap.size, 0, none⟩)))) := hgr.made (K := 5) (B := w2.heap.size) (by decide) hbA (new_block _ _) (Nat.le_refl _)
        have HB : Hid (Below w.heap.size w (w2.alloc (.cells #[.slice y2 l.length c2] 100))) := hgr.isBelow.trans (hbA.mono hgr.isBelow.size)
        clear hbA hgr
        go_wp2
        go_ret
        exact ⟨_, rfl, HF.out, HB.out⟩
      · go_enter Tryz.func22, Tryz.ntmps22
        go_wp2_with fail
        refine HC.out.mono ?_
        rintro e w2 ⟨pv, vs', rfl, hgr⟩
        obtain ⟨y2, c2, e2, -⟩ := seg_slice hgr.seg
        rw [List.length_map] at e2
        subst e2
        have hbA := below_alloc_ (Below.refl w2.heap.size w2) (.cells #[.slice y2 l.length c2] 100)
        have HF : Hid (FAt (w2.alloc (.cells #[.slice y2 l.length c2] 100)) (fun k => w.heap.size ≤ k) (d + 1 + 1) ⟨5, 0, 0, 0, l.map (turn d false)⟩ (.iface 95 (.pointer (some ⟨w2.heap.size, 0, none⟩)))) := hgr.made (K := 5) (B := w2.heap.size) (by decide) hbA (new_block _ _) (Nat.le_refl _)
        have HB : Hid (Below w.heap.size w (w2.alloc (.cells #[.slice y2 l.length c2] 100))) := hgr.isBelow.trans (hbA.mono hgr.isBelow.size)
        clear hbA hgr
        go_wp2
        go_ret
        exact ⟨_, rfl, HF.out, HB.out⟩
      · go_enter Tryz.func22, Tryz.ntmps22
        go_wp2_with fail
        refine HC.out.mono ?_
        rintro e w2 ⟨pv, vs', rfl, hgr⟩
        obtain ⟨y2, c2, e2, -⟩ := seg_slice hgr.seg
        rw [List.length_map] at e2
        subst e2
        have hbA := below_alloc_ (Below.refl w2.heap.size w2) (.cells #[.slice y2 l.length c2] 99)
        have HF : Hid (FAt (w2.alloc (.cells #[.slice y2 l.length c2] 99)) (fun k => w.heap.size ≤ k) (d + 1 + 1) ⟨4, 0, 0, 0, l.map (turn d true)⟩ (.iface 94 (.pointer (some ⟨w2.heap.size, 0, none⟩)))) := hgr.made (K := 4) (B := w2.heap.size) (by decide) hbA (new_block _ _) (Nat.le_refl _)
        have HB : Hid (Below w.heap.size w (w2.alloc (.cells #[.slice y2 l.length c2] 99))) := hgr.isBelow.trans (hbA.mono hgr.isBelow.size)
        clear hbA hgr
        go_wp2
        go_ret
        exact ⟨_, rfl, HF.out, HB.out⟩
theorem inside_any {d : Nat} {t : Ft} {v : Value} (w : World) (S : Nat → Prop) (h : FAt w S d t v) (hn : nd d t ≤ 100000) :
    Calls Tryz.prog 9 #[v] w fun e w' => ∃ v', e = .returned v' ∧ FAt w' (fun k => w.heap.size ≤ k) (d + 1) (turn d false t) v' ∧ Below w.heap.size w w' := by
  have HC := turnC d t v false w S h hn
  obtain ⟨ty, p, rfl⟩ := h.form
  clear h hn
  go_enter Tryz.func9, Tryz.ntmps9
  go_wp2_with fail
  refine HC.mono ?_
  rintro e w2 ⟨v', rfl, hf2, hb2⟩
  go_wp2
  go_ret
  exact ⟨_, rfl, hf2, hb2⟩
end Go.Proofs.YtibecinojkkjpaaGreatDoor
