/-
  millraceref.Hashed: how it lies in memory; Where, of, out, When, All. Conditions: its numbers within their bounds; few packets.
  millraceref.Hashed: what is left of it, step by step (RhO, RhM). Memory alone.
-/
import Derived.Test.YtefflbibacmboaaDoorHz
import Derived.Test.YtefflbibacmboaaDoorRw
import Derived.Deep.DeepCutAuto
import Derived.BigQuiet
namespace Go.Proofs.YtefflbibacmboaaDoor
open Go.RowKit Go.Extern.Stop Go.Stop Go.Extern

theorem fives {w : World} {b : Nat} {t : TypeId} {a0 a1 a2 a3 a4 : Value} (h : w.heap[b]? = some (.cells #[a0, a1, a2, a3, a4] t (0, 0))) : (w.cell? ⟨b, 0, none⟩ = some a0 ∧ w.cell? ⟨b, 1, none⟩ = some a1 ∧ w.cell? ⟨b, 2, none⟩ = some a2 ∧ w.cell? ⟨b, 3, none⟩ = some a3 ∧ w.cell? ⟨b, 4, none⟩ = some a4) ∧ w.frozen? ⟨b, 3, none⟩ = false ∧ w.frozen? ⟨b, 4, none⟩ = false := by
  refine ⟨⟨?_, ?_, ?_, ?_, ?_⟩, ?_, ?_⟩
  all_goals simp [World.cell?, World.frozen?, h]
/-- The reference's Hashed in block b. -/
structure RhP (w : World) (b : Nat) (p : HaC) (v tv : Value) (r : RhS) : Prop where
  blk : w.heap[b]? = some (.cells #[.int .i64 p.many, .int .i64 p.salt, .int .i64 p.room, v, tv] 75 (0, 0))
  row : Ps w v r.L
  trow : Ins w tv r.tn
  ne : v.ownBlock ≠ some b
  tne : tv.ownBlock ≠ some b
  dis : ∀ k, v.ownBlock = some k → tv.ownBlock ≠ some k
/-- Its blocks. -/
def RhF (b : Nat) (v tv : Value) (k : Nat) : Prop := k = b ∨ v.ownBlock = some k ∨ tv.ownBlock = some k
theorem RhP.lt {w : World} {b : Nat} {p : HaC} {v tv : Value} {r : RhS} (h : RhP w b p v tv r) : b < w.heap.size := lt_of_block h.blk
theorem RhP.low {w : World} {b : Nat} {p : HaC} {v tv : Value} {r : RhS} (h : RhP w b p v tv r) {k : Nat} (hk : RhF b v tv k) : k < w.heap.size := by
  rcases hk with rfl | hk | hk
  · exact h.lt
  · exact Seg.lt h.row hk
  · exact Seg.lt h.trow hk
theorem RhP.kept {w w' : World} {b : Nat} {p : HaC} {v tv : Value} {r : RhS} (h : RhP w b p v tv r) (hk : ∀ k, RhF b v tv k → w'.heap[k]? = w.heap[k]?) : RhP w' b p v tv r :=
  ⟨(hk b (Or.inl rfl)).trans h.blk, Seg.kept h.row (fun k hv => hk k (Or.inr (Or.inl hv))), Seg.kept h.trow (fun k hv => hk k (Or.inr (Or.inr hv))), h.ne, h.tne, h.dis⟩
theorem RhP.below {w w' : World} {b : Nat} {p : HaC} {v tv : Value} {r : RhS} (h : RhP w b p v tv r) (hb : Below w.heap.size w w') : RhP w' b p v tv r := h.kept (fun k hk => hb.block k (h.low hk))
theorem RhP.drewN {w : World} {b : Nat} {p : HaC} {v tv : Value} {r : RhS} (h : RhP w b p v tv r) (n : Nat) : RhP (w.drewN n) b p v tv r := h.kept (fun _ _ => rfl)
theorem RhP.cells {w : World} {b : Nat} {p : HaC} {v tv : Value} {r : RhS} (h : RhP w b p v tv r) : (w.cell? ⟨b, 0, none⟩ = some (.int .i64 p.many) ∧ w.cell? ⟨b, 1, none⟩ = some (.int .i64 p.salt) ∧ w.cell? ⟨b, 2, none⟩ = some (.int .i64 p.room) ∧ w.cell? ⟨b, 3, none⟩ = some v ∧ w.cell? ⟨b, 4, none⟩ = some tv) ∧ w.frozen? ⟨b, 3, none⟩ = false ∧ w.frozen? ⟨b, 4, none⟩ = false := fives h.blk
/-- Its list is another one. -/
theorem RhP.setL {w : World} {b : Nat} {p : HaC} {v tv v' : Value} {r : RhS} {L' : List Hd} (h : RhP w b p v tv r) (hv : Ps w v' L') (hne : v'.ownBlock ≠ some b) (hd : ∀ k, v'.ownBlock = some k → tv.ownBlock ≠ some k) : RhP (w.setCell ⟨b, 3, none⟩ v') b p v' tv { r with L := L' } :=
  ⟨by rw [heap_setCell_here h.blk v']; simp, Seg.setCell (p := ⟨b, 3, none⟩) hv hne _, Seg.setCell (p := ⟨b, 3, none⟩) h.trow h.tne _, hne, h.tne, hd⟩
/-- Its turns are others. -/
theorem RhP.setT {w : World} {b : Nat} {p : HaC} {v tv tv' : Value} {r : RhS} {tn' : List Int} (h : RhP w b p v tv r) (hv : Ins w tv' tn') (hne : tv'.ownBlock ≠ some b) (hd : ∀ k, v.ownBlock = some k → tv'.ownBlock ≠ some k) : RhP (w.setCell ⟨b, 4, none⟩ tv') b p v tv' { r with tn := tn' } :=
  ⟨by rw [heap_setCell_here h.blk tv']; simp, Seg.setCell (p := ⟨b, 4, none⟩) h.row h.ne _, Seg.setCell (p := ⟨b, 4, none⟩) hv hne _, h.ne, hne, hd⟩
theorem whereN_eq {p : HaC} (f : Int) : whereN p f = (31 * f + 7 * p.salt + f * p.salt) % p.many := by
  unfold whereN
  have e : f = f % p.many + p.many * (f / p.many) := (Int.emod_add_mul_ediv f p.many).symm
  have e2 : 31 * f + 7 * p.salt + f * p.salt = (31 * (f % p.many) + 7 * p.salt + (f % p.many) * p.salt) + p.many * ((31 + p.salt) * (f / p.many)) := by
    have h1 : 31 * f = 31 * (f % p.many) + p.many * (31 * (f / p.many)) := by
      conv => lhs; rw [e]
      rw [Int.mul_add, Int.mul_left_comm]
    have h2 : f * p.salt = (f % p.many) * p.salt + p.many * (p.salt * (f / p.many)) := by
      conv => lhs; rw [e]
      rw [Int.add_mul, Int.mul_assoc, Int.mul_comm (f / p.many) p.salt]
    rw [h1, h2, Int.add_mul, Int.mul_add]
    omega
  rw [e2, Int.add_mul_emod_self_left]
set_option maxHeartbeats 1000000 in
theorem rwhere_any {b : Nat} {p : HaC} {v tv : Value} {r : RhS} (f : Int) (w : World) (h : RhP w b p v tv r) (hm0 : 1 ≤ p.many) (hm1 : p.many ≤ 64) (hs0 : 0 ≤ p.salt) (hs1 : p.salt ≤ 1000000) (hf0 : 0 ≤ f) (hf1 : f ≤ 1000000) :
    Calls Tryd.prog 23 #[.pointer (some ⟨b, 0, none⟩), .int .i64 f] w fun e w' => e = .returned (.int .i64 (whereN p f)) ∧ ∃ n, w' = w.drewN n := by
  obtain ⟨⟨c0, c1, c2, c3, c4⟩, f3, f4⟩ := h.cells
  have hb := h.lt
  clear h
  have HW : Hid (whereN p f = (31 * f + 7 * p.salt + f * p.salt) % p.many) := whereN_eq f
  generalize p.many = m at *
  generalize p.salt = sl at *
  have hz : ¬ m = 0 := by omega
  have hz2 : (m == 0) = false := by simpa using hz
  have hrs : 0 ≤ f * sl ∧ f * sl ≤ 1000000 * 1000000 := ⟨Int.mul_nonneg hf0 hs0, Int.mul_le_mul hf1 hs1 hs0 (by omega)⟩
  have ht2 : (31 * f + 7 * sl + f * sl).tmod m = (31 * f + 7 * sl + f * sl) % m := Int.tmod_eq_emod_of_nonneg (by omega)
  have k1 : IntKind.i64.wrap (31 * f) = 31 * f := by rw [IntKind.wrap_i64]; omega
  have k2 : IntKind.i64.wrap (7 * sl) = 7 * sl := by rw [IntKind.wrap_i64]; omega
  have k3 : IntKind.i64.wrap (31 * f + 7 * sl) = 31 * f + 7 * sl := by rw [IntKind.wrap_i64]; omega
  have k4 : IntKind.i64.wrap (f * sl) = f * sl := by rw [IntKind.wrap_i64]; omega
  have k5 : IntKind.i64.wrap (31 * f + 7 * sl + f * sl) = 31 * f + 7 * sl + f * sl := by rw [IntKind.wrap_i64]; omega
  rw [HW.out]
  obtain ⟨R, hR⟩ : ∃ R, (31 * f + 7 * sl + f * sl) % m = R := ⟨_, rfl⟩
  have hR1 := Int.emod_nonneg (31 * f + 7 * sl + f * sl) hz
  have hR2 := Int.emod_lt_of_pos (31 * f + 7 * sl + f * sl) (show 0 < m by omega)
  rw [hR] at ht2 hR1 hR2 ⊢
  have k6 : IntKind.i64.wrap R = R := by rw [IntKind.wrap_i64]; omega
  clear hR HW hrs
  go_enter Tryd.func23, Tryd.ntmps23
  go_wp2
  go_quiet (fail)
  go_wp2
  go_ret
  exact ⟨rfl, _, rfl⟩
theorem rhall_any {b : Nat} {p : HaC} {v tv : Value} {r : RhS} (w : World) (h : RhP w b p v tv r) :
    Calls Tryd.prog 127 #[.pointer (some ⟨b, 0, none⟩)] w fun e w' => e = .returned v ∧ w' = w := by
  obtain ⟨⟨c0, c1, c2, c3, c4⟩, f3, f4⟩ := h.cells
  have hb := h.lt
  clear h
  go_enter Tryd.func127, Tryd.ntmps127
  go_wp2
  go_ret
  exact ⟨rfl, rfl⟩
theorem rhwhen_any {b : Nat} {p : HaC} {v tv : Value} {r : RhS} (now : Int) (w : World) (h : RhP w b p v tv r) :
    Calls Tryd.prog 130 #[.pointer (some ⟨b, 0, none⟩), .int .i64 now] w fun e w' => e = .returned (.tuple #[.int .i64 now, .bool (!r.L.isEmpty)]) ∧ ∃ n, w' = w.drewN n := by
  obtain ⟨⟨c0, c1, c2, c3, c4⟩, f3, f4⟩ := h.cells
  have hb := h.lt
  obtain ⟨x, cap, rfl, _⟩ := Ps.shape h.row
  have HE : Hid (decide (0 < r.L.length) = !r.L.isEmpty) := by
    cases r.L with
    | nil => rfl
    | cons x L => simp [Hid]
  clear h
  go_enter Tryd.func130, Tryd.ntmps130
  go_wp2
  go_quiet (fail)
  go_wp2
  go_ret2
  exact ⟨by rw [← HE.out]; rfl, _, rfl⟩
theorem ofL_succ {p : HaC} {L : List Hd} {j : Nat} {y : Hd} {k : Int} (h : L[j]? = some y) : ofL p (L.take (j + 1)) k = if whereN p y.f = k then ofL p (L.take j) k ++ [y] else ofL p (L.take j) k := by
  unfold ofL
  rw [List.take_add_one, h, List.filter_append]
  by_cases e : whereN p y.f = k
  · rw [if_pos e]; simp [e]
  · rw [if_neg e]; simp [e]
theorem rmN_succ {L : List Hd} {j : Nat} {y : Hd} {n : Int} (h : L[j]? = some y) : rmN (L.take (j + 1)) n = if y.n ≠ n then rmN (L.take j) n ++ [y] else rmN (L.take j) n := by
  unfold rmN
  rw [List.take_add_one, h, List.filter_append]
  by_cases e : y.n ≠ n
  · rw [if_pos e]; simp [e]
  · rw [if_neg e]; simp at e; simp [e]
/-- A row of packets of the call's own, and nothing below is otherwise. -/
structure OwP (B : Nat) (w : World) (u : Value) (L : List Hd) (w' : World) : Prop where
  row : Ps w' u L
  new : ∀ k, u.ownBlock = some k → B ≤ k
  bel : Below B w w'
theorem OwP.drewN {B : Nat} {w w' : World} {u : Value} {L : List Hd} (h : OwP B w u L w') (n : Nat) : OwP B w u L (w'.drewN n) := ⟨h.row, h.new, h.bel.trans ⟨rfl, rfl, rfl, Nat.le_refl _, fun _ _ => rfl⟩⟩
theorem OwP.app {B : Nat} {w w7 w8 : World} {u : Value} {L : List Hd} {y : Hd} {g off cap : Nat} {o : Obj} (h : OwP B w u L w7) (hB : B ≤ w7.heap.size) (hs : Seg w8 99 6 (.slice (some ⟨g, off, none⟩) (L.length + 1) cap) (L.length + 1) (flt Hd.cs L ++ y.cs)) (hg : (w7.alloc o).grownBy w8 u.ownBlock) (ha : u.ownBlock = some g ∨ (w7.alloc o).heap.size ≤ g) : OwP B w (.slice (some ⟨g, off, none⟩) (L.length + 1) cap) (L ++ [y]) w8 := by
  refine ⟨Ps.snoc hs rfl, fun k hk => ?_, ?_⟩
  · simp only [Value.ownBlock, Option.some.injEq] at hk
    subst hk
    rcases ha with h1 | h1
    · exact h.new _ h1
    · simp at h1; omega
  · exact h.bel.trans (((Below.refl B w7).alloc hB o).grown hg (by simp; omega) (fun k hk => h.new k hk))
set_option maxRecDepth 20000 in
set_option maxHeartbeats 2000000 in
theorem rof_any {b : Nat} {p : HaC} {v tv : Value} {r : RhS} (k : Int) (w : World) (h : RhP w b p v tv r) (hm0 : 1 ≤ p.many) (hm1 : p.many ≤ 64) (hs0 : 0 ≤ p.salt) (hs1 : p.salt ≤ 1000000) (hl : r.L.length ≤ 1000000) (hf : ∀ y ∈ r.L, 0 ≤ y.f ∧ y.f ≤ 1000000) :
    Calls Tryd.prog 131 #[.pointer (some ⟨b, 0, none⟩), .int .i64 k] w fun e w' => ∃ u, e = .returned u ∧ OwP w.heap.size w u (ofL p r.L k) w' := by
  have H : Hid (RhP w b p v tv r) := h
  obtain ⟨⟨c0, c1, c2, c3, c4⟩, f3, f4⟩ := h.cells
  have hb := h.lt
  have HRW : Hid (Ps w v r.L) := h.row
  obtain ⟨x, cap, hv, _⟩ := Ps.shape h.row
  obtain ⟨L, hL⟩ : ∃ L, r.L = L := ⟨_, rfl⟩
  rw [hL] at HRW hv hl hf ⊢
  subst hv
  obtain ⟨n, hn⟩ : ∃ n, L.length = n := ⟨_, rfl⟩
  have HN : Hid (L.length = n) := hn
  rw [hn] at c3 hl HRW
  have HWH : Hid (∀ (W : World) (f : Int), Below w.heap.size w W → 0 ≤ f → f ≤ 1000000 → Calls Tryd.prog 23 #[.pointer (some ⟨b, 0, none⟩), .int .i64 f] W fun e w' => e = .returned (.int .i64 (whereN p f)) ∧ ∃ n, w' = W.drewN n) := fun W f hW h0 h1 => rwhere_any f W (H.out.below hW) hm0 hm1 hs0 hs1 h0 h1
  have HF : Hid (∀ y ∈ L, 0 ≤ y.f ∧ y.f ≤ 1000000) := hf
  obtain ⟨i0, hi, hz0, hz1, hz2⟩ := info_parts infoPack
  clear h hL hf H hn hs0 hs1 hm0 hm1
  go_enter Tryd.func131, Tryd.ntmps131
  go_wp2
  go_loopw [5, 13] (fun ov iv wr => ∃ j : Nat, j ≤ n ∧ iv = .int .i64 j ∧ OwP w.heap.size w ov (ofL p (L.take j) k) wr) (fun _ i _ => n - (intOf i).toNat)
  case atStart => exact ⟨0, Nat.zero_le _, rfl, by simp [ofL]; exact Ps.nil _, fun k hk => by simp [Value.ownBlock] at hk, Below.refl _ _⟩
  case round =>
    obtain ⟨j, hj, rfl, ho⟩ := hrel
    have HO : Hid (OwP w.heap.size w u5 (ofL p (L.take j) k) wr) := ho
    have hsw := ho.bel.size
    have hfl : (ofL p (L.take j) k).length ≤ j := Nat.le_trans (ofL_sub _ _ _).length_le (List.length_take_le _ _)
    clear ho
    by_cases hlt : j < n
    · obtain ⟨y, hy⟩ : ∃ y, L[j]? = some y := ⟨_, List.getElem?_eq_getElem (by rw [HN.out]; exact hlt)⟩
      have HSU : Hid (ofL p (L.take (j + 1)) k = if whereN p y.f = k then ofL p (L.take j) k ++ [y] else ofL p (L.take j) k) := ofL_succ hy
      obtain ⟨b1, off, cap', hx, hlt1, _⟩ := HRW.out.some (by rw [HN.out]; omega)
      have hx' : x = some ⟨b1, off, none⟩ := by simp at hx; exact hx.1
      subst hx'
      have hb1 : b1 < w.heap.size := Seg.lt HRW.out rfl
      obtain ⟨p0, p1, p2, p3, p4, p5⟩ := (Ps.below HRW.out HO.out.bel).cells hy
      have hyf := HF.out y (List.mem_of_getElem? hy)
      have hb1w : b1 < wr.heap.size := by omega
      obtain ⟨W0, hW0⟩ : ∃ W0, wr.alloc (.cells #[.int .i64 y.a, .int .i64 y.l, .int .i64 y.f, .int .i64 y.b, .int .i64 y.m, .int .i64 y.n] 99) = W0 := ⟨_, rfl⟩
      have HB0 : Hid (Below w.heap.size w W0) := by show Below _ _ _; rw [← hW0]; exact HO.out.bel.alloc hsw _
      have HWC := HWH.out W0 y.f HB0.out hyf.1 hyf.2
      have HO0 : Hid (OwP w.heap.size w u5 (ofL p (L.take j) k) W0) := ⟨by rw [← hW0]; exact Seg.alloc HO.out.row _, HO.out.new, HB0.out⟩
      have HBX : Hid (W0.heap[wr.heap.size]? = some (.cells #[.int .i64 y.a, .int .i64 y.l, .int .i64 y.f, .int .i64 y.b, .int .i64 y.m, .int .i64 y.n] 99 (0, 0))) := by show _ = _; rw [← hW0]; exact new_block wr _
      clear hx hy hlt1
      obtain ⟨X, hX⟩ : ∃ X, ofL p (L.take j) k = X := ⟨_, rfl⟩
      rw [hX] at HSU HO0 hfl
      obtain ⟨⟨t0, t1, t2, t3, t4, t5⟩, _⟩ := six HBX.out
      have hl0 : wr.heap.size < W0.heap.size := lt_of_block HBX.out
      clear hX HO HWH HF
      by_cases hk : whereN p y.f = k
      · have o1 : (whereN p y.f == k) = true := by simpa using hk
        have HS2 : Hid (ofL p (L.take (j + 1)) k = X ++ [y]) := by show _ = _; rw [HSU.out, if_pos hk]
        clear hk
        go_wp2_with (first | (go_at_call 23; refine HWC.mono ?_; rintro e w7 ⟨rfl, n7, hw7⟩; have HO7 : Hid (OwP w.heap.size w u5 X w7) := (by show OwP _ _ _ _ _; rw [hw7]; exact HO0.out.drewN n7); have hbx7 : w7.heap[wr.heap.size]? = some (.cells #[.int .i64 y.a, .int .i64 y.l, .int .i64 y.f, .int .i64 y.b, .int .i64 y.m, .int .i64 y.n] 99 (0, 0)) := (by rw [hw7]; exact HBX.out); clear hw7; obtain ⟨⟨z0, z1, z2, z3, z4, z5⟩, _⟩ := six hbx7; have hl7 : wr.heap.size < w7.heap.size := lt_of_block hbx7) | (at_builtin; refine wpList_append_seg _ rfl (.tmp 24) (.tmp 26) 36 rfl 99 i0 _ 6 48 Tryd.underlying36 hi hz0 hz1 hz2 rfl (by decide) u5 X.length (flt Hd.cs X) rfl (Seg.alloc HO7.out.row _) ⟨w7.heap.size, 0, none⟩ 1 1 y.cs rfl rfl (news_of (new_block_ rfl)) y.one (by decide) (by unfold maxLen; omega) (by omega) _ rfl ?_; intro g off2 cap2 w8 hs8 hg8 ha8 hl8))
        have HO8 : Hid (OwP w.heap.size w (.slice (some ⟨g, off2, none⟩) (X.length + 1) cap2) (X ++ [y]) w8) := HO7.out.app (by omega) hs8 hg8 ha8
        clear hs8 hg8 ha8 hl8
        go_roundw
        case rel => exact ⟨j + 1, by omega, by go_num, by rw [HS2.out]; exact HO8.out⟩
        case measure => simp [intOf]; omega
      · have o1 : (whereN p y.f == k) = false := by simpa using hk
        have HS2 : Hid (ofL p (L.take (j + 1)) k = X) := by show _ = _; rw [HSU.out, if_neg hk]
        clear hk
        go_wp2_with (go_at_call 23; refine HWC.mono ?_; rintro e w7 ⟨rfl, n7, hw7⟩; have HO7 : Hid (OwP w.heap.size w u5 X w7) := (by show OwP _ _ _ _ _; rw [hw7]; exact HO0.out.drewN n7); have hbx7 : w7.heap[wr.heap.size]? = some (.cells #[.int .i64 y.a, .int .i64 y.l, .int .i64 y.f, .int .i64 y.b, .int .i64 y.m, .int .i64 y.n] 99 (0, 0)) := (by rw [hw7]; exact HBX.out); clear hw7; obtain ⟨⟨z0, z1, z2, z3, z4, z5⟩, _⟩ := six hbx7; have hl7 : wr.heap.size < w7.heap.size := lt_of_block hbx7)
        go_roundw
        case rel => exact ⟨j + 1, by omega, by go_num, by rw [HS2.out]; exact HO7.out⟩
        case measure => simp [intOf]; omega
    · obtain rfl : j = n := by omega
      have HE : Hid (ofL p (L.take j) k = ofL p L k) := by show _ = _; rw [List.take_of_length_le (by rw [HN.out]; exact Nat.le_refl _)]
      go_wp2
      go_ret
      exact ⟨_, rfl, by rw [← HE.out]; exact HO.out⟩
set_option maxRecDepth 20000 in
set_option maxHeartbeats 2000000 in
theorem rout_any {b : Nat} {p : HaC} {v tv : Value} {r : RhS} (x : Hd) (w : World) (h : RhP w b p v tv r) (hl : r.L.length ≤ 1000000) :
    Calls Tryd.prog 132 #[.pointer (some ⟨b, 0, none⟩), x.val] w fun e w' => e = .returned (.tuple #[]) ∧ ∃ v', RhP w' b p v' tv { r with L := rmN r.L x.n } ∧ (∀ k, v'.ownBlock = some k → w.heap.size ≤ k) ∧ Ot (· = b) w w' := by
  have H : Hid (RhP w b p v tv r) := h
  obtain ⟨⟨c0, c1, c2, c3, c4⟩, f3, f4⟩ := h.cells
  have hb := h.lt
  have HRW : Hid (Ps w v r.L) := h.row
  obtain ⟨xa, cap, hv, _⟩ := Ps.shape h.row
  obtain ⟨L, hL⟩ : ∃ L, r.L = L := ⟨_, rfl⟩
  rw [hL] at HRW hv hl ⊢
  have HV : Hid (v = .slice xa L.length cap) := hv
  rw [hv] at c3 HRW
  obtain ⟨n, hn⟩ : ∃ n, L.length = n := ⟨_, rfl⟩
  have HN : Hid (L.length = n) := hn
  rw [hn] at c3 hl HRW
  obtain ⟨i0, hi, hz0, hz1, hz2⟩ := info_parts infoPack
  rw [Hd.val_eq x]
  obtain ⟨B, hB⟩ : ∃ B, w.heap.size = B := ⟨_, rfl⟩
  have HBZ : Hid (w.heap.size = B) := hB
  have HW1 : Hid ((w.alloc (.cells #[.int .i64 x.a, .int .i64 x.l, .int .i64 x.f, .int .i64 x.b, .int .i64 x.m, .int .i64 x.n] 99)).heap[B]? = some (.cells #[.int .i64 x.a, .int .i64 x.l, .int .i64 x.f, .int .i64 x.b, .int .i64 x.m, .int .i64 x.n] 99 (0, 0))) := new_block_ hB.symm
  clear h hL hn hv
  clear hB
  go_enter Tryd.func132, Tryd.ntmps132
  go_wp2
  obtain ⟨w1, hw1⟩ : ∃ w1, w.alloc (.cells #[.int .i64 x.a, .int .i64 x.l, .int .i64 x.f, .int .i64 x.b, .int .i64 x.m, .int .i64 x.n] 99) = w1 := ⟨_, rfl⟩
  have HB1 : Hid (Below w.heap.size w w1) := by show Below _ _ _; rw [← hw1]; exact below_alloc_ (Below.refl _ _) _
  have HS1 : Hid (w1.heap.size = B + 1) := by show _ = _; rw [← hw1, ← HBZ.out]; simp
  rw [hw1] at HW1 ⊢
  rw [HBZ.out]
  clear hw1
  go_loopw [4, 12] (fun ov iv wr => ∃ j : Nat, j ≤ n ∧ iv = .int .i64 j ∧ OwP (B + 1) w1 ov (rmN (L.take j) x.n) wr) (fun _ i _ => n - (intOf i).toNat)
  case atStart => exact ⟨0, Nat.zero_le _, rfl, by simp [rmN]; exact Ps.nil _, fun k hk => by simp [Value.ownBlock] at hk, Below.refl _ _⟩
  case round =>
    obtain ⟨j, hj, rfl, ho⟩ := hrel
    have HO : Hid (OwP (B + 1) w1 u4 (rmN (L.take j) x.n) wr) := ho
    have hsw := ho.bel.size
    rw [HS1.out] at hsw
    have hfl : (rmN (L.take j) x.n).length ≤ j := Nat.le_trans (rmN_sub _ _).length_le (List.length_take_le _ _)
    have HBW : Hid (Below w.heap.size w wr) := HB1.out.trans (ho.bel.mono (by rw [HBZ.out]; omega))
    have hbx := (ho.bel.block B (by omega)).trans HW1.out
    obtain ⟨⟨x0, x1, x2, x3, x4, x5⟩, _⟩ := six hbx
    have hBl : B < wr.heap.size := by omega
    clear ho hbx
    by_cases hlt : j < n
    · obtain ⟨y, hy⟩ : ∃ y, L[j]? = some y := ⟨_, List.getElem?_eq_getElem (by rw [HN.out]; exact hlt)⟩
      have HSU : Hid (rmN (L.take (j + 1)) x.n = if y.n ≠ x.n then rmN (L.take j) x.n ++ [y] else rmN (L.take j) x.n) := rmN_succ hy
      obtain ⟨b1, off, cap', hx, _⟩ := HRW.out.some (by rw [HN.out]; omega)
      have hx' : xa = some ⟨b1, off, none⟩ := by simp at hx; exact hx.1
      subst hx'
      have hb1 : b1 < w.heap.size := Seg.lt HRW.out rfl
      obtain ⟨p0, p1, p2, p3, p4, p5⟩ := (Ps.below HRW.out HBW.out).cells hy
      have hb1w : b1 < wr.heap.size := by have := HBZ.out; omega
      have HO0 : Hid (OwP (B + 1) w1 u4 (rmN (L.take j) x.n) (wr.alloc (.cells #[.int .i64 y.a, .int .i64 y.l, .int .i64 y.f, .int .i64 y.b, .int .i64 y.m, .int .i64 y.n] 99))) := ⟨Seg.alloc HO.out.row _, HO.out.new, HO.out.bel.alloc (by omega) _⟩
      obtain ⟨X, hX⟩ : ∃ X, rmN (L.take j) x.n = X := ⟨_, rfl⟩
      rw [hX] at HSU HO0 hfl
      clear hX HO hx hy
      by_cases hk : y.n = x.n
      · have o1 : (y.n == x.n) = true := by simpa using hk
        have o2 : (y.n != x.n) = false := by simpa using hk
        have HS2 : Hid (rmN (L.take (j + 1)) x.n = X) := by show _ = _; rw [HSU.out, if_neg (by simpa using hk)]
        clear hk
        go_wp2
        go_roundw
        case rel => exact ⟨j + 1, by omega, by go_num, by rw [HS2.out]; exact HO0.out⟩
        case measure => simp [intOf]; omega
      · have o1 : (y.n == x.n) = false := by simpa using hk
        have o2 : (y.n != x.n) = true := by simpa using hk
        have HS2 : Hid (rmN (L.take (j + 1)) x.n = X ++ [y]) := by show _ = _; rw [HSU.out, if_pos hk]
        clear hk
        go_wp2_with (at_builtin; refine wpList_append_seg _ rfl (.tmp 21) (.tmp 23) 36 rfl 99 i0 _ 6 48 Tryd.underlying36 hi hz0 hz1 hz2 rfl (by decide) u4 X.length (flt Hd.cs X) rfl (Seg.alloc HO0.out.row _) ⟨wr.heap.size + 1, 0, none⟩ 1 1 y.cs rfl rfl (news_of (new_block_ (by simp))) y.one (by decide) (by unfold maxLen; omega) (by omega) _ rfl ?_; intro g off2 cap2 w8 hs8 hg8 ha8 hl8)
        have HO8 : Hid (OwP (B + 1) w1 (.slice (some ⟨g, off2, none⟩) (X.length + 1) cap2) (X ++ [y]) w8) := HO0.out.app (by simp; omega) hs8 hg8 ha8
        clear hs8 hg8 ha8 hl8
        go_roundw
        case rel => exact ⟨j + 1, by omega, by go_num, by rw [HS2.out]; exact HO8.out⟩
        case measure => simp [intOf]; omega
    · obtain rfl : j = n := by omega
      have HE : Hid (rmN (L.take j) x.n = rmN L x.n) := by show _ = _; rw [List.take_of_length_le (by rw [HN.out]; exact Nat.le_refl _)]
      have hRw := H.out.below HBW.out
      obtain ⟨⟨e0, e1, e2, e3, e4⟩, g3, g4⟩ := hRw.cells
      have hbw := hRw.lt
      have HRw : Hid (RhP wr b p v tv r) := hRw
      obtain ⟨ux, ucap, hu, _⟩ := Ps.shape HO.out.row
      subst hu
      clear hRw
      go_wp2
      go_end0
      refine ⟨rfl, _, HRw.out.setL (by rw [← HE.out]; exact HO.out.row) (fun e => ?_) (fun k hk e => ?_), fun k hk => ?_, ?_⟩
      · have := HO.out.new _ e; have := HBZ.out; omega
      · have := HO.out.new _ hk; have := Seg.lt H.out.trow e; have := HBZ.out; omega
      · have := HO.out.new _ hk; have := HBZ.out; omega
      · exact Ot.setCell (S := (· = b)) (p := ⟨b, 3, none⟩) (Ot.of_below HBW.out) (Or.inl rfl) _
end Go.Proofs.YtefflbibacmboaaDoor
namespace Go.Proofs.YtefflbibacmboaaDoor
open Go.RowKit Go.Extern.Stop Go.Stop Go.Extern

/-- What is left of it behind a call, or a part of one. -/
structure RhO (w : World) (b : Nat) (p : HaC) (v tv : Value) (r' : RhS) (w' : World) (v' tv' : Value) : Prop where
  pos : RhP w' b p v' tv' r'
  own : ∀ k, RhF b v' tv' k → RhF b v tv k ∨ w.heap.size ≤ k
  ot : Ot (RhF b v tv) w w'
theorem RhO.refl {w : World} {b : Nat} {p : HaC} {v tv : Value} {r : RhS} (h : RhP w b p v tv r) : RhO w b p v tv r w v tv := ⟨h, fun _ hk => Or.inl hk, Ot.refl _ _⟩
theorem RhO.trans {w w1 w2 : World} {b : Nat} {p : HaC} {v tv v1 tv1 v2 tv2 : Value} {r1 r2 : RhS} (h : RhO w b p v tv r1 w1 v1 tv1) (k : RhO w1 b p v1 tv1 r2 w2 v2 tv2) : RhO w b p v tv r2 w2 v2 tv2 := by
  have hs := h.ot.size
  refine ⟨k.pos, fun j hj => ?_, h.ot.trans' k.ot (fun j hj hlt => ?_)⟩
  · rcases k.own j hj with h1 | h1
    · exact h.own j h1
    · exact Or.inr (by omega)
  · rcases h.own j hj with h1 | h1
    · exact h1
    · omega
theorem RhO.below {w w1 w2 : World} {b : Nat} {p : HaC} {v tv v1 tv1 : Value} {r1 : RhS} (h : RhO w b p v tv r1 w1 v1 tv1) (hb : Below w1.heap.size w1 w2) : RhO w b p v tv r1 w2 v1 tv1 := h.trans ⟨h.pos.below hb, fun _ hk => Or.inl hk, Ot.of_below hb⟩
/-- Its block behind an append. -/
theorem RhP.mid {w1 W w8 : World} {b : Nat} {p : HaC} {v tv : Value} {r : RhS} {row : Option Nat} (h : RhP w1 b p v tv r) (hB : Below w1.heap.size w1 W) (hg : W.grownBy w8 row) (hr : row ≠ some b) : w8.heap[b]? = some (.cells #[.int .i64 p.many, .int .i64 p.salt, .int .i64 p.room, v, tv] 75 (0, 0)) := by
  have hb := h.lt
  have hs := hB.size
  rw [hg.block b (by omega) (fun e => hr e.symm), hB.block b hb]
  exact h.blk
/-- h.turn = append(h.turn, k). -/
theorem RhP.pushT {w1 W w8 : World} {b g off n cap : Nat} {p : HaC} {v tv : Value} {r : RhS} {tn' : List Int} (h : RhP w1 b p v tv r) (hB : Below w1.heap.size w1 W) (hg : W.grownBy w8 tv.ownBlock) (hs : Ins w8 (.slice (some ⟨g, off, none⟩) n cap) tn') (ha : tv.ownBlock = some g ∨ W.heap.size ≤ g) :
    RhO w1 b p v tv { r with tn := tn' } (w8.setCell ⟨b, 4, none⟩ (.slice (some ⟨g, off, none⟩) n cap)) v (.slice (some ⟨g, off, none⟩) n cap) := by
  have hb := h.lt
  have hsz := hB.size
  have hgb : g ≠ b := by
    rintro rfl
    rcases ha with h1 | h1
    · exact h.tne h1
    · omega
  have hvg : v.ownBlock ≠ some g := by
    intro e
    rcases ha with h1 | h1
    · exact h.dis g e h1
    · have := Seg.lt h.row e; omega
  have hblk := h.mid hB hg h.tne
  have hrow : Ps w8 v r.L := Seg.kept h.row (fun k hk => (hg.block k (by have := Seg.lt h.row hk; omega) (fun e => h.dis k hk e.symm)).trans (hB.block k (Seg.lt h.row hk)))
  refine ⟨⟨by rw [heap_setCell_here hblk]; simp, Seg.setCell (p := ⟨b, 4, none⟩) hrow h.ne _, Seg.setCell (p := ⟨b, 4, none⟩) hs (by simpa [Value.ownBlock] using hgb) _, h.ne, by simpa [Value.ownBlock] using hgb, fun k hk e => ?_⟩, fun k hk => ?_, ?_⟩
  · simp only [Value.ownBlock, Option.some.injEq] at e; subst e; exact hvg hk
  · rcases hk with rfl | hk | hk
    · exact Or.inl (Or.inl rfl)
    · exact Or.inl (Or.inr (Or.inl hk))
    · simp only [Value.ownBlock, Option.some.injEq] at hk
      subst hk
      rcases ha with h1 | h1
      · exact Or.inl (Or.inr (Or.inr h1))
      · exact Or.inr (by omega)
  · exact Ot.setCell (S := RhF b v tv) (p := ⟨b, 4, none⟩) (Ot.grown (row := tv.ownBlock) (Ot.of_below hB) hg (fun k e => Or.inl (Or.inr (Or.inr e)))) (Or.inl (Or.inl rfl)) _
/-- h.l = append(h.l, x). -/
theorem RhP.pushL {w1 W w8 : World} {b g off n cap : Nat} {p : HaC} {v tv : Value} {r : RhS} {L' : List Hd} (h : RhP w1 b p v tv r) (hB : Below w1.heap.size w1 W) (hg : W.grownBy w8 v.ownBlock) (hs : Ps w8 (.slice (some ⟨g, off, none⟩) n cap) L') (ha : v.ownBlock = some g ∨ W.heap.size ≤ g) :
    RhO w1 b p v tv { r with L := L' } (w8.setCell ⟨b, 3, none⟩ (.slice (some ⟨g, off, none⟩) n cap)) (.slice (some ⟨g, off, none⟩) n cap) tv := by
  have hb := h.lt
  have hsz := hB.size
  have hgb : g ≠ b := by
    rintro rfl
    rcases ha with h1 | h1
    · exact h.ne h1
    · omega
  have hvg : tv.ownBlock ≠ some g := by
    intro e
    rcases ha with h1 | h1
    · exact h.dis g h1 e
    · have := Seg.lt h.trow e; omega
  have hblk := h.mid hB hg h.ne
  have hrow : Ins w8 tv r.tn := Seg.kept h.trow (fun k hk => (hg.block k (by have := Seg.lt h.trow hk; omega) (fun e => h.dis k e.symm hk)).trans (hB.block k (Seg.lt h.trow hk)))
  refine ⟨⟨by rw [heap_setCell_here hblk]; simp, Seg.setCell (p := ⟨b, 3, none⟩) hs (by simpa [Value.ownBlock] using hgb) _, Seg.setCell (p := ⟨b, 3, none⟩) hrow h.tne _, by simpa [Value.ownBlock] using hgb, h.tne, fun k hk e => ?_⟩, fun k hk => ?_, ?_⟩
  · simp only [Value.ownBlock, Option.some.injEq] at hk; subst hk; exact hvg e
  · rcases hk with rfl | hk | hk
    · exact Or.inl (Or.inl rfl)
    · simp only [Value.ownBlock, Option.some.injEq] at hk
      subst hk
      rcases ha with h1 | h1
      · exact Or.inl (Or.inr (Or.inl h1))
      · exact Or.inr (by omega)
    · exact Or.inl (Or.inr (Or.inr hk))
  · exact Ot.setCell (S := RhF b v tv) (p := ⟨b, 3, none⟩) (Ot.grown (row := v.ownBlock) (Ot.of_below hB) hg (fun k e => Or.inl (Or.inr (Or.inl e)))) (Or.inl (Or.inl rfl)) _
/-- Its turns are a row of the call's own. -/
theorem RhP.newT {w1 w2 : World} {b : Nat} {p : HaC} {v tv tv' : Value} {r : RhS} {tn' : List Int} (h : RhP w1 b p v tv r) (hB : Below w1.heap.size w1 w2) (hs : Ins w2 tv' tn') (hn : ∀ k, tv'.ownBlock = some k → w1.heap.size ≤ k) : RhO w1 b p v tv { r with tn := tn' } (w2.setCell ⟨b, 4, none⟩ tv') v tv' := by
  have hb := h.lt
  refine ⟨(h.below hB).setT hs (fun e => by have := hn _ e; omega) (fun k hk e => by have := hn _ e; have := Seg.lt h.row hk; omega), fun k hk => ?_, Ot.setCell (S := RhF b v tv) (p := ⟨b, 4, none⟩) (Ot.of_below hB) (Or.inl (Or.inl rfl)) _⟩
  rcases hk with rfl | hk | hk
  · exact Or.inl (Or.inl rfl)
  · exact Or.inl (Or.inr (Or.inl hk))
  · exact Or.inr (hn k hk)
theorem RhO.of_out {w1 w2 : World} {b : Nat} {p : HaC} {v tv v' : Value} {r' : RhS} (h : RhP w2 b p v' tv r') (hn : ∀ k, v'.ownBlock = some k → w1.heap.size ≤ k) (ho : Ot (· = b) w1 w2) : RhO w1 b p v tv r' w2 v' tv := by
  refine ⟨h, fun k hk => ?_, ho.mono (fun k _ e => Or.inl e)⟩
  rcases hk with rfl | hk | hk
  · exact Or.inl (Or.inl rfl)
  · exact Or.inr (hn k hk)
  · exact Or.inl (Or.inr (Or.inr hk))
/-- A packet's block lies beside it. -/
def BxP (w : World) (B : Nat) (x : Hd) : Prop := w.heap[B]? = some (.cells #[.int .i64 x.a, .int .i64 x.l, .int .i64 x.f, .int .i64 x.b, .int .i64 x.m, .int .i64 x.n] 99 (0, 0))
/-- The same, and blocks that are its own apart. -/
structure RhM (w : World) (b : Nat) (p : HaC) (v tv : Value) (B : Nat) (x : Hd) (r' : RhS) (w' : World) (v' tv' : Value) : Prop where
  o : RhO w b p v tv r' w' v' tv'
  box : BxP w' B x
  nb : ¬ RhF b v' tv' B
theorem RhM.step {w w1 w2 : World} {b : Nat} {p : HaC} {v tv v1 tv1 v2 tv2 : Value} {B : Nat} {x : Hd} {r1 r2 : RhS} (h : RhM w b p v tv B x r1 w1 v1 tv1) (k : RhO w1 b p v1 tv1 r2 w2 v2 tv2) : RhM w b p v tv B x r2 w2 v2 tv2 := by
  have hB : B < w1.heap.size := lt_of_block h.box
  refine ⟨h.o.trans k, (k.ot.block B hB h.nb).trans h.box, fun e => ?_⟩
  rcases k.own B e with h1 | h1
  · exact h.nb h1
  · omega
theorem RhM.below {w w1 w2 : World} {b : Nat} {p : HaC} {v tv v1 tv1 : Value} {B : Nat} {x : Hd} {r1 : RhS} (h : RhM w b p v tv B x r1 w1 v1 tv1) (hb : Below w1.heap.size w1 w2) : RhM w b p v tv B x r1 w2 v1 tv1 := h.step ((RhO.refl h.o.pos).below hb)
theorem RhM.al {w : World} {b : Nat} {p : HaC} {v tv : Value} {r : RhS} (h : RhP w b p v tv r) (x : Hd) : RhM w b p v tv w.heap.size x r (w.alloc (.cells #[.int .i64 x.a, .int .i64 x.l, .int .i64 x.f, .int .i64 x.b, .int .i64 x.m, .int .i64 x.n] 99)) v tv :=
  ⟨(RhO.refl h).below (below_alloc_ (Below.refl _ _) _), new_block w _, fun hk => by have := h.low hk; omega⟩
theorem below_dr {w : World} (n : Nat) : Below w.heap.size w (w.drewN n) := ⟨rfl, rfl, rfl, Nat.le_refl _, fun _ _ => rfl⟩
/-- A row of ints of the call's own, and nothing below is otherwise. -/
structure OwI (B : Nat) (w : World) (u : Value) (L : List Int) (w' : World) : Prop where
  row : Ins w' u L
  new : ∀ k, u.ownBlock = some k → B ≤ k
  bel : Below B w w'
theorem OwI.app {B : Nat} {w w7 w8 : World} {u : Value} {L : List Int} {y : Int} {g off cap : Nat} {o : Obj} (h : OwI B w u L w7) (hB : B ≤ w7.heap.size) (hs : Seg w8 3 1 (.slice (some ⟨g, off, none⟩) (L.length + 1) cap) (L.length + 1) (L.map (Value.int .i64) ++ [.int .i64 y])) (hg : (w7.alloc o).grownBy w8 u.ownBlock) (ha : u.ownBlock = some g ∨ (w7.alloc o).heap.size ≤ g) : OwI B w (.slice (some ⟨g, off, none⟩) (L.length + 1) cap) (L ++ [y]) w8 := by
  refine ⟨by unfold Ins; simpa using hs, fun k hk => ?_, ?_⟩
  · simp only [Value.ownBlock, Option.some.injEq] at hk
    subst hk
    rcases ha with h1 | h1
    · exact h.new _ h1
    · simp at h1; omega
  · exact h.bel.trans (((Below.refl B w7).alloc hB o).grown hg (by simp; omega) (fun k hk => h.new k hk))
theorem filt_succ {l : List Int} {j : Nat} {y k : Int} (h : l[j]? = some y) : (l.take (j + 1)).filter (fun i => decide (i ≠ k)) = if y ≠ k then (l.take j).filter (fun i => decide (i ≠ k)) ++ [y] else (l.take j).filter (fun i => decide (i ≠ k)) := by
  rw [List.take_add_one, h, List.filter_append]
  by_cases e : y ≠ k
  · rw [if_pos e]; simp [e]
  · rw [if_neg e]; simp at e; simp [e]
theorem long_ne {p : HaC} {L : List Hd} {x : Hd} {mm : Nat} (hm0 : 1 ≤ p.many) (hm : p.many = (mm : Int)) (hx : x ∈ L) : ofL p L (longX p L mm : Nat) ≠ [] := by
  have hw := whereN_bd hm0 x.f
  have h1 := longK_max (fun i => ofL p L (i : Int)) mm (whereN p x.f).toNat (by omega)
  have h2 : x ∈ ofL p L (((whereN p x.f).toNat : Nat) : Int) := ofL_mem.2 ⟨hx, by omega⟩
  intro e
  have h3 : (ofL p L (((whereN p x.f).toNat : Nat) : Int)).length ≤ 0 := by
    have : (ofL p L ((longK (fun i => ofL p L (i : Int)) mm : Nat) : Int)).length = 0 := by rw [show longK (fun i => ofL p L (i : Int)) mm = longX p L mm from rfl, e]; rfl
    simpa [this] using h1
  have h4 : ofL p L (((whereN p x.f).toNat : Nat) : Int) = [] := List.eq_nil_of_length_eq_zero (by omega)
  rw [h4] at h2
  simp at h2
theorem last_at {M : List Hd} {l : Nat} (h : M.length = l + 1) : M[l]? = some (lsOr M) := by
  have hne : M ≠ [] := by intro e; rw [e] at h; simp at h
  have e := snoc_last hne
  have hl : M.dropLast.length = l := by rw [List.length_dropLast, h]; rfl
  rw [e, List.getElem?_append_right (by omega), hl]
  have : lsOr (M.dropLast ++ [lsOr M]) = lsOr M := by simp [lsOr]
  simp [this]
end Go.Proofs.YtefflbibacmboaaDoor
