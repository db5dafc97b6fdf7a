/-
  millracelaw.BucketTwo is true at every two buckets and every packets; nothing that was there before is otherwise. Conditions: errors.errorType and millraceref.Fine hold what the program's text lays; the packets lie in memory.
-/
import Derived.Test.YtdaapdpbnijefaaGreatDoorLwWr
import Derived.Test.YtdaapdpbnijefaaGreatDoorTwW
import Derived.Test.YtdaapdpbnijefaaGreatDoorBkTwo
namespace Go.Proofs.YtdaapdpbnijefaaGreatDoor
open Go.RowKit Go.Extern.Stop Go.Stop Go.Extern

/-- Ints in memory, or none. -/
def RowIO (w : World) (x : Option Addr) (n : Nat) (r : Nat → Int) : Prop := ∀ j, j < n → ∃ b, x = some ⟨b, 0, none⟩ ∧ w.cell? ⟨b, j, none⟩ = some (.int .i64 (r j))
theorem RowIO.of {w : World} {g n : Nat} {r : Nat → Int} (h : RowI w g n r) : RowIO w (some ⟨g, 0, none⟩) n r := fun j hj => ⟨g, rfl, h j hj⟩
theorem RowIO.nil (w : World) (x : Option Addr) (r : Nat → Int) : RowIO w x 0 r := fun j hj => absurd hj (Nat.not_lt_zero j)
theorem RowIO.below {w w' : World} {x : Option Addr} {n : Nat} {r : Nat → Int} (h : RowIO w x n r) (hb : Below w.heap.size w w') : RowIO w' x n r := fun j hj => by
  obtain ⟨b, e, hc⟩ := h j hj
  exact ⟨b, e, cell_below hb hc⟩
theorem sameI_any (x y : Option Addr) (cx cy n : Nat) (f : Nat → Int) (w : World) (hm : n ≤ maxLen) (hx : RowIO w x n f) (hy : RowIO w y n f) :
    Calls Tryz.prog 16 #[.slice x n cx, .slice y n cy] w fun e w' => e = .returned (.bool true) ∧ ∃ q, w' = w.drewN q := by
  unfold maxLen at hm
  have HX : Hid (RowIO w x n f) := hx
  have HY : Hid (RowIO w y n f) := hy
  clear hx hy
  go_enter Tryz.func16, Tryz.ntmps16
  go_wp2
  go_loopw [5] (fun i wr => ∃ k : Nat, k ≤ n ∧ i = .int .i64 k ∧ ∃ q, wr = w.drewN q) (fun i _ => n - (intOf i).toNat)
  case atStart => exact ⟨0, Nat.zero_le _, rfl, 0, rfl⟩
  case round =>
    obtain ⟨k, hk, rfl, q, rfl⟩ := hrel
    by_cases hlt : k < n
    · obtain ⟨b, rfl, c0⟩ := HX.out k hlt
      obtain ⟨b', rfl, c1⟩ := HY.out k hlt
      have d0 : w.cell? ⟨b, 0 + k, none⟩ = some (.int .i64 (f k)) := by simpa using c0
      have d1 : w.cell? ⟨b', 0 + k, none⟩ = some (.int .i64 (f k)) := by simpa using c1
      generalize f k = u at *
      go_wp2
      go_quiet (fail)
      go_wp2
      go_roundw
      case rel => exact ⟨k + 1, by omega, by go_num, _, rfl⟩
      case measure => simp [intOf]; omega
    · go_wp2
      go_ret
      exact ⟨rfl, _, rfl⟩
theorem its_row {w : World} {v : Value} {n t R n2 t2 R2 : Int} {xs : List It} {m : Nat} (h : Its w v (twcL n t R n2 t2 R2 xs m)) : ∃ y cap, v = .slice y m cap ∧ RowIO w y m (twc n t R n2 t2 R2 xs) := by
  obtain ⟨y, cap, e⟩ := Prw.slice h
  rw [List.length_map, twcL_length] at e
  refine ⟨y, cap, e, fun j hj => ?_⟩
  obtain ⟨g, cap', e', hc⟩ := Prw.at h (j := j) (u := .int .i64 (twc n t R n2 t2 R2 xs j)) (by simp [twcL, hj])
  rw [e] at e'
  simp only [Value.slice.injEq] at e'
  exact ⟨g, e'.1, hc⟩
theorem heap_set_at {w : World} {b o : Nat} {cur : Array Value} {e : TypeId} {fr : Nat × Nat} (h : w.heap[b]? = some (.cells cur e fr)) (u : Value) : (w.setCell ⟨b, o, none⟩ u).heap[b]? = some (.cells (cur.setIfInBounds o u) e fr) := by
  have hlt := lt_of_block h
  have h' : w.heap[b] = .cells cur e fr := by simpa [Array.getElem?_eq_getElem hlt] using h
  show (w.heap.modify b _)[b]? = _
  rw [Array.getElem?_eq_getElem (by simpa using hlt), Array.getElem_modify_self, h']
  rfl
/-- A bucket in its box. -/
def BxAt (w : World) (c : Nat) (n t R : Int) : Prop := w.heap[c]? = some (.cells #[.int .i64 n, .int .i64 t, .int .i64 R] 25 (0, 0))
theorem BxAt.below {w w' : World} {c : Nat} {n t R : Int} (h : BxAt w c n t R) (hb : Below w.heap.size w w') : BxAt w' c n t R := (hb.block _ (lt_of_block h)).trans h
theorem BxAt.cell {w : World} {c : Nat} {n t R : Int} (h : BxAt w c n t R) : w.cell? ⟨c, 0, none⟩ = some (.int .i64 n) ∧ w.cell? ⟨c, 1, none⟩ = some (.int .i64 t) ∧ w.cell? ⟨c, 2, none⟩ = some (.int .i64 R) := by
  have h' : w.heap[c]? = some (.cells #[.int .i64 n, .int .i64 t, .int .i64 R] 25 (0, 0)) := h
  simp [World.cell?, h']
/-- A fault in its box. -/
def FtAt (w : World) (c : Nat) (E P : Int) : Prop := w.heap[c]? = some (.cells #[.int .i64 E, .int .i64 P] 30 (0, 0))
theorem FtAt.below {w w' : World} {c : Nat} {E P : Int} (h : FtAt w c E P) (hb : Below w.heap.size w w') : FtAt w' c E P := (hb.block _ (lt_of_block h)).trans h
theorem FtAt.cell {w : World} {c : Nat} {E P : Int} (h : FtAt w c E P) : w.cell? ⟨c, 0, none⟩ = some (.int .i64 E) ∧ w.cell? ⟨c, 1, none⟩ = some (.int .i64 P) ∧ w.frozen? ⟨c, 0, none⟩ = false ∧ w.frozen? ⟨c, 1, none⟩ = false := by
  have h' : w.heap[c]? = some (.cells #[.int .i64 E, .int .i64 P] 30 (0, 0)) := h
  simp [World.cell?, World.frozen?, h']
theorem below_then {a W w1 : World} (h : Below a.heap.size a W) (hb : Below W.heap.size W w1) : Below a.heap.size a w1 := h.trans (hb.mono h.size)
theorem bxs (w : World) (n t R n2 t2 R2 : Int) : BxAt ((w.alloc (.cells #[.int .i64 n, .int .i64 t, .int .i64 R] 25)).alloc (.cells #[.int .i64 n2, .int .i64 t2, .int .i64 R2] 25)) w.heap.size n t R ∧ BxAt ((w.alloc (.cells #[.int .i64 n, .int .i64 t, .int .i64 R] 25)).alloc (.cells #[.int .i64 n2, .int .i64 t2, .int .i64 R2] 25)) (w.heap.size + 1) n2 t2 R2 ∧ Below w.heap.size w ((w.alloc (.cells #[.int .i64 n, .int .i64 t, .int .i64 R] 25)).alloc (.cells #[.int .i64 n2, .int .i64 t2, .int .i64 R2] 25)) := by
  refine ⟨(Below.heap_alloc _ _ _ (by simp)).trans (heap_alloc_new _ _), ?_, ((Below.refl _ _).alloc (Nat.le_refl _) _).alloc (by simp) _⟩
  have h := heap_alloc_new (w.alloc (.cells #[.int .i64 n, .int .i64 t, .int .i64 R] 25)) (.cells #[.int .i64 n2, .int .i64 t2, .int .i64 R2] 25)
  simpa [BxAt] using h
/-- What wrong tells of the peak, wherever. -/
theorem wrong_at (n2 t2 R2 : Int) (x : Option Addr) (cap : Nat) (xs : List It) (w : World) (hF : FineLaid w) (hI : ItemsAt w x xs) (hm : xs.length ≤ maxLen) : ∃ E P : Int, ((okB n2 t2 R2 ∧ listE xs = (E, P)) ∨ (¬ okB n2 t2 R2 ∧ E = 2 ∧ P = -1)) ∧ ∀ W : World, Below w.heap.size w W → Calls Tryz.prog 8 #[.agg #[.int .i64 n2, .int .i64 t2, .int .i64 R2], .slice x xs.length cap] W fun e w' => e = .returned (.agg #[.int .i64 E, .int .i64 P]) ∧ Below W.heap.size W w' := by
  by_cases hb : okB n2 t2 R2
  · obtain ⟨E, P, hEE⟩ : ∃ E P, listE xs = (E, P) := ⟨_, _, rfl⟩
    refine ⟨E, P, Or.inl ⟨hb, hEE⟩, fun W hW => ?_⟩
    refine (wrong_list n2 t2 R2 x cap xs W hb (hF.below hW) (hI.below hW) hm).mono ?_
    rw [hEE]
    exact fun e w' h => h
  · exact ⟨2, -1, Or.inr ⟨hb, rfl, rfl⟩, fun W _ => wrong_nob n2 t2 R2 _ W hb⟩

set_option maxHeartbeats 1000000 in
theorem btwo_many (n t R n2 t2 R2 : Int) (x : Option Addr) (len cap : Nat) (w : World) (hm : len ≤ maxLen) (h : (40 < len ∧ len ≤ 100) ∨ 150 < len) :
    Calls Tryz.prog 6 #[.agg #[.int .i64 n, .int .i64 t, .int .i64 R], .agg #[.int .i64 n2, .int .i64 t2, .int .i64 R2], .slice x len cap] w fun e w' => e = .returned (.bool true) ∧ Below w.heap.size w w' := by
  have HM : Hid (len ≤ maxLen) := hm
  have HD : Hid (decide ((40 < len ∧ len ≤ 100) ∨ 150 < len) = true) := by simpa [Hid] using h
  clear h hm
  go_enter Tryz.func6, Tryz.ntmps6
  go_wp2_with fail
  refine (many_any x len cap _ HM.out).mono ?_
  rw [HD.out]
  rintro e w1 ⟨rfl, rfl⟩
  go_wp2
  go_ret
  exact ⟨rfl, ((Below.refl _ _).alloc (Nat.le_refl _) _).alloc (by simp) _⟩

set_option maxRecDepth 100000 in
set_option maxHeartbeats 4000000 in
theorem btwo_nob (n t R n2 t2 R2 : Int) (x : Option Addr) (cap : Nat) (xs : List It) (w : World) (hm : xs.length ≤ maxLen) (h : ¬ ((40 < xs.length ∧ xs.length ≤ 100) ∨ 150 < xs.length)) (hb : ¬ okB n t R) (hL : Laid w) (hF : FineLaid w) (hI : ItemsAt w x xs) :
    Calls Tryz.prog 6 #[.agg #[.int .i64 n, .int .i64 t, .int .i64 R], .agg #[.int .i64 n2, .int .i64 t2, .int .i64 R2], .slice x xs.length cap] w fun e w' => e = .returned (.bool true) ∧ Below w.heap.size w w' := by
  obtain ⟨E1, P1, hEP, hwr⟩ := wrong_at n2 t2 R2 x cap xs w hF hI hm
  have HM : Hid (xs.length ≤ maxLen) := hm
  have HD : Hid (decide ((40 < xs.length ∧ xs.length ≤ 100) ∨ 150 < xs.length) = false) := by simpa [Hid] using h
  have HL : Hid (Laid w) := hL
  have HI : Hid (ItemsAt w x xs) := hI
  have HWR : Hid (∀ W : World, Below w.heap.size w W → Calls Tryz.prog 8 #[.agg #[.int .i64 n2, .int .i64 t2, .int .i64 R2], .slice x xs.length cap] W fun e w' => e = .returned (.agg #[.int .i64 E1, .int .i64 P1]) ∧ Below W.heap.size W w') := hwr
  obtain ⟨W0, HW0⟩ : ∃ W0, Hid ((w.alloc (.cells #[.int .i64 n, .int .i64 t, .int .i64 R] 25)).alloc (.cells #[.int .i64 n2, .int .i64 t2, .int .i64 R2] 25) = W0) := ⟨_, rfl⟩
  have HBX : Hid (BxAt W0 w.heap.size n t R ∧ BxAt W0 (w.heap.size + 1) n2 t2 R2 ∧ Below w.heap.size w W0) := by
    have := bxs w n t R n2 t2 R2
    rw [HW0.out] at this
    exact this
  have H : Hid (¬ okB n t R) := hb
  clear hb hEP
  clear h hm hL hF hI hwr
  obtain ⟨len, hlen⟩ : ∃ len, xs.length = len := ⟨_, rfl⟩
  have HN : Hid (xs.length = len) := hlen
  rw [hlen]
  rw [hlen] at HWR
  clear hlen
  go_enter Tryz.func6, Tryz.ntmps6
  go_wp2_with fail
  refine (many_any x len cap _ (HN.out ▸ HM.out)).mono ?_
  rw [← HN.out, HD.out]
  rintro e w1 ⟨rfl, rfl⟩
  rw [HN.out, HW0.out]
  obtain ⟨p0, p1, p2⟩ := HBX.out.2.1.cell
  go_wp2_with fail
  refine (HWR.out W0 HBX.out.2.2).mono ?_
  rintro e w1 ⟨rfl, hb1⟩
  obtain ⟨W1, HW1⟩ : ∃ W1, Hid (w1.alloc (.cells #[.int .i64 E1, .int .i64 P1] 30) = W1) := ⟨_, rfl⟩
  have HA1 : Hid (Below w1.heap.size w1 W1) := by show Below _ _ _; rw [← HW1.out]; exact (Below.refl _ _).alloc (Nat.le_refl _) _
  have HQ1 : Hid (BxAt W1 w.heap.size n t R ∧ BxAt W1 (w.heap.size + 1) n2 t2 R2 ∧ Below w.heap.size w W1 ∧ FtAt W1 w1.heap.size E1 P1) := by
    refine ⟨(HBX.out.1.below hb1).below HA1.out, (HBX.out.2.1.below hb1).below HA1.out, below_then (below_then HBX.out.2.2 hb1) HA1.out, ?_⟩
    rw [← HW1.out]
    exact heap_alloc_new _ _
  have HSZ : Hid (w.heap.size + 1 < w1.heap.size) := Nat.lt_of_lt_of_le (lt_of_block HBX.out.2.1) hb1.size
  clear hb1 p0 p1 p2
  obtain ⟨q0, q1, q2⟩ := HQ1.out.1.cell
  rw [← HW1.out] at q0 q1 q2
  go_wp2_with fail
  rw [HW1.out]
  refine (lof_any n t R _).mono ?_
  rintro e w2 ⟨rfl, hb2⟩
  have HQ2 : Hid (BxAt w2 w.heap.size n t R ∧ BxAt w2 (w.heap.size + 1) n2 t2 R2 ∧ Below w.heap.size w w2 ∧ FtAt w2 w1.heap.size E1 P1) := ⟨HQ1.out.1.below hb2, HQ1.out.2.1.below hb2, below_then HQ1.out.2.2.1 hb2, HQ1.out.2.2.2.below hb2⟩
  clear hb2 q0 q1 q2
  go_wp2_with fail
  refine (rbcheck_no n t R _ H.out).mono ?_
  rintro e w3 ⟨rfl, hb⟩
  have HQ3 : Hid (BxAt w3 w.heap.size n t R ∧ BxAt w3 (w.heap.size + 1) n2 t2 R2 ∧ Below w.heap.size w w3 ∧ FtAt w3 w1.heap.size E1 P1) := ⟨HQ2.out.1.below hb, HQ2.out.2.1.below hb, below_then HQ2.out.2.2.1 hb, HQ2.out.2.2.2.below hb⟩
  clear hb
  go_wp2_with fail
  refine (bareOf _ _).mono ?_
  rintro e w4 ⟨rfl, hb⟩
  have HQ4 : Hid (BxAt w4 w.heap.size n t R ∧ BxAt w4 (w.heap.size + 1) n2 t2 R2 ∧ Below w.heap.size w w4 ∧ FtAt w4 w1.heap.size E1 P1) := ⟨HQ3.out.1.below hb, HQ3.out.2.1.below hb, below_then HQ3.out.2.2.1 hb, HQ3.out.2.2.2.below hb⟩
  clear hb
  obtain ⟨f0, f1, z0, z1⟩ := HQ4.out.2.2.2.cell
  have HS : Hid (BxAt ((w4.setCell ⟨w1.heap.size, 0, none⟩ (.int .i64 2)).setCell ⟨w1.heap.size, 1, none⟩ (.int .i64 (-1))) w.heap.size n t R ∧ BxAt ((w4.setCell ⟨w1.heap.size, 0, none⟩ (.int .i64 2)).setCell ⟨w1.heap.size, 1, none⟩ (.int .i64 (-1))) (w.heap.size + 1) n2 t2 R2 ∧ Below w.heap.size w ((w4.setCell ⟨w1.heap.size, 0, none⟩ (.int .i64 2)).setCell ⟨w1.heap.size, 1, none⟩ (.int .i64 (-1))) ∧ FtAt ((w4.setCell ⟨w1.heap.size, 0, none⟩ (.int .i64 2)).setCell ⟨w1.heap.size, 1, none⟩ (.int .i64 (-1))) w1.heap.size 2 (-1)) := by
    have hsz : w.heap.size + 1 < w1.heap.size := HSZ.out
    refine ⟨?_, ?_, ?_, ?_⟩
    · exact (Below.heap_setCell _ _ _ _ (by simp; omega)).trans ((Below.heap_setCell _ _ _ _ (by simp; omega)).trans HQ4.out.1)
    · exact (Below.heap_setCell _ _ _ _ (by simp; omega)).trans ((Below.heap_setCell _ _ _ _ (by simp; omega)).trans HQ4.out.2.1)
    · exact Below.setCell (Below.setCell HQ4.out.2.2.1 (by simp; omega) _) (by simp; omega) _
    · show _ = _
      rw [heap_set_at (heap_set_at HQ4.out.2.2.2 _) _]
      rfl
  obtain ⟨W4, HW4⟩ : ∃ W4, Hid ((w4.setCell ⟨w1.heap.size, 0, none⟩ (.int .i64 2)).setCell ⟨w1.heap.size, 1, none⟩ (.int .i64 (-1)) = W4) := ⟨_, rfl⟩
  rw [HW4.out] at HS
  obtain ⟨q0, q1, q2⟩ := HS.out.1.cell
  obtain ⟨p0, p1, p2⟩ := HS.out.2.1.cell
  obtain ⟨r0, r1, _, _⟩ := HS.out.2.2.2.cell
  rw [← HW4.out] at q0 q1 q2 p0 p1 p2 r0 r1
  go_wp2_with fail
  rw [HW4.out]
  refine (two_nob n t R n2 t2 R2 _ _ H.out).mono ?_
  rintro e w5 ⟨rfl, hb⟩
  have HB5 : Hid (Below w.heap.size w w5) := below_then HS.out.2.2.1 hb
  obtain ⟨s0, s1, _, _⟩ := (HS.out.2.2.2.below hb : FtAt w5 w1.heap.size 2 (-1)).cell
  clear hb
  go_wp2_with fail
  refine (at_true (E := 2) (P := -1) _ (Or.inr (Or.inl ⟨rfl, by decide, rfl⟩)) (HL.out.below HB5.out)).mono ?_
  rintro e w6 ⟨rfl, hb⟩
  have HB6 : Hid (Below w.heap.size w w6) := below_then HB5.out hb
  clear hb
  go_wp2_with fail
  refine (sameI_any none none 0 0 0 (fun _ => 0) _ (Nat.zero_le _) (RowIO.nil _ _ _) (RowIO.nil _ _ _)).mono ?_
  rintro e w7 ⟨rfl, q, rfl⟩
  go_wp2
  go_ret
  exact ⟨rfl, below_drewN HB6.out _⟩

set_option maxRecDepth 100000 in
set_option maxHeartbeats 4000000 in
theorem btwo_nob2 (n t R n2 t2 R2 : Int) (x : Option Addr) (cap : Nat) (xs : List It) (w : World) (hm : xs.length ≤ maxLen) (h : ¬ ((40 < xs.length ∧ xs.length ≤ 100) ∨ 150 < xs.length)) (hb : okB n t R) (hb2 : ¬ okB n2 t2 R2) (hL : Laid w) (hF : FineLaid w) (hI : ItemsAt w x xs) :
    Calls Tryz.prog 6 #[.agg #[.int .i64 n, .int .i64 t, .int .i64 R], .agg #[.int .i64 n2, .int .i64 t2, .int .i64 R2], .slice x xs.length cap] w fun e w' => e = .returned (.bool true) ∧ Below w.heap.size w w' := by
  obtain ⟨E1, P1, hEP, hwr⟩ := wrong_at n2 t2 R2 x cap xs w hF hI hm
  have HM : Hid (xs.length ≤ maxLen) := hm
  have HD : Hid (decide ((40 < xs.length ∧ xs.length ≤ 100) ∨ 150 < xs.length) = false) := by simpa [Hid] using h
  have HL : Hid (Laid w) := hL
  have HI : Hid (ItemsAt w x xs) := hI
  have HWR : Hid (∀ W : World, Below w.heap.size w W → Calls Tryz.prog 8 #[.agg #[.int .i64 n2, .int .i64 t2, .int .i64 R2], .slice x xs.length cap] W fun e w' => e = .returned (.agg #[.int .i64 E1, .int .i64 P1]) ∧ Below W.heap.size W w') := hwr
  obtain ⟨W0, HW0⟩ : ∃ W0, Hid ((w.alloc (.cells #[.int .i64 n, .int .i64 t, .int .i64 R] 25)).alloc (.cells #[.int .i64 n2, .int .i64 t2, .int .i64 R2] 25) = W0) := ⟨_, rfl⟩
  have HBX : Hid (BxAt W0 w.heap.size n t R ∧ BxAt W0 (w.heap.size + 1) n2 t2 R2 ∧ Below w.heap.size w W0) := by
    have := bxs w n t R n2 t2 R2
    rw [HW0.out] at this
    exact this
  have H : Hid (okB n t R) := hb
  have H2 : Hid (¬ okB n2 t2 R2) := hb2
  have HEP : Hid (E1 = 2 ∧ P1 = -1) := by
    rcases hEP with ⟨h, _⟩ | ⟨_, h⟩
    · exact absurd h hb2
    · exact h
  have hE1 : ¬ E1 = 0 := by rw [HEP.out.1]; decide
  clear hb hb2 hEP
  clear h hm hL hF hI hwr
  obtain ⟨len, hlen⟩ : ∃ len, xs.length = len := ⟨_, rfl⟩
  have HN : Hid (xs.length = len) := hlen
  rw [hlen]
  rw [hlen] at HWR
  clear hlen
  go_enter Tryz.func6, Tryz.ntmps6
  go_wp2_with fail
  refine (many_any x len cap _ (HN.out ▸ HM.out)).mono ?_
  rw [← HN.out, HD.out]
  rintro e w1 ⟨rfl, rfl⟩
  rw [HN.out, HW0.out]
  obtain ⟨p0, p1, p2⟩ := HBX.out.2.1.cell
  go_wp2_with fail
  refine (HWR.out W0 HBX.out.2.2).mono ?_
  rintro e w1 ⟨rfl, hb1⟩
  obtain ⟨W1, HW1⟩ : ∃ W1, Hid (w1.alloc (.cells #[.int .i64 E1, .int .i64 P1] 30) = W1) := ⟨_, rfl⟩
  have HA1 : Hid (Below w1.heap.size w1 W1) := by show Below _ _ _; rw [← HW1.out]; exact (Below.refl _ _).alloc (Nat.le_refl _) _
  have HQ1 : Hid (BxAt W1 w.heap.size n t R ∧ BxAt W1 (w.heap.size + 1) n2 t2 R2 ∧ Below w.heap.size w W1 ∧ FtAt W1 w1.heap.size E1 P1) := by
    refine ⟨(HBX.out.1.below hb1).below HA1.out, (HBX.out.2.1.below hb1).below HA1.out, below_then (below_then HBX.out.2.2 hb1) HA1.out, ?_⟩
    rw [← HW1.out]
    exact heap_alloc_new _ _
  clear hb1 p0 p1 p2
  obtain ⟨q0, q1, q2⟩ := HQ1.out.1.cell
  rw [← HW1.out] at q0 q1 q2
  go_wp2_with fail
  rw [HW1.out]
  refine (lof_any n t R _).mono ?_
  rintro e w2 ⟨rfl, hb2⟩
  have HQ2 : Hid (BxAt w2 w.heap.size n t R ∧ BxAt w2 (w.heap.size + 1) n2 t2 R2 ∧ Below w.heap.size w w2 ∧ FtAt w2 w1.heap.size E1 P1) := ⟨HQ1.out.1.below hb2, HQ1.out.2.1.below hb2, below_then HQ1.out.2.2.1 hb2, HQ1.out.2.2.2.below hb2⟩
  clear hb2 q0 q1 q2
  go_wp2_with fail
  refine (rbcheck_yes n t R _ H.out).mono ?_
  rintro e w3 ⟨rfl, hb⟩
  have HQ3 : Hid (BxAt w3 w.heap.size n t R ∧ BxAt w3 (w.heap.size + 1) n2 t2 R2 ∧ Below w.heap.size w w3 ∧ FtAt w3 w1.heap.size E1 P1) := ⟨HQ2.out.1.below hb, HQ2.out.2.1.below hb, below_then HQ2.out.2.2.1 hb, HQ2.out.2.2.2.below hb⟩
  clear hb
  obtain ⟨q0, q1, q2⟩ := HQ3.out.1.cell
  obtain ⟨p0, p1, p2⟩ := HQ3.out.2.1.cell
  obtain ⟨r0, r1, _, _⟩ := HQ3.out.2.2.2.cell
  have hE1' : (E1 == 0) = false := by simpa using hE1
  go_wp2_with fail
  rw [← HN.out]
  refine (two_nob2 n t R n2 t2 R2 _ _ H.out H2.out).mono ?_
  rintro e w5 ⟨rfl, hb⟩
  rw [HN.out]
  have HB5 : Hid (Below w.heap.size w w5) := below_then HQ3.out.2.2.1 hb
  obtain ⟨s0, s1, _, _⟩ := (HQ3.out.2.2.2.below hb : FtAt w5 w1.heap.size E1 P1).cell
  clear hb
  go_wp2_with fail
  refine (at_true (E := E1) (P := P1) _ (Or.inr (Or.inl ⟨by rw [HEP.out.1], hE1, HEP.out.2⟩)) (HL.out.below HB5.out)).mono ?_
  rintro e w6 ⟨rfl, hb⟩
  have HB6 : Hid (Below w.heap.size w w6) := below_then HB5.out hb
  clear hb
  go_wp2_with fail
  refine (sameI_any none none 0 0 0 (fun _ => 0) _ (Nat.zero_le _) (RowIO.nil _ _ _) (RowIO.nil _ _ _)).mono ?_
  rintro e w7 ⟨rfl, q, rfl⟩
  go_wp2
  go_ret
  exact ⟨rfl, below_drewN HB6.out _⟩

set_option maxRecDepth 100000 in
set_option maxHeartbeats 4000000 in
theorem btwo_nol (n t R n2 t2 R2 : Int) (x : Option Addr) (cap : Nat) (xs : List It) (w : World) (hm : xs.length ≤ maxLen) (h : ¬ ((40 < xs.length ∧ xs.length ≤ 100) ∨ 150 < xs.length)) (hb : okB n t R) (hb2 : okB n2 t2 R2) (hl : ¬ okL xs) (hL : Laid w) (hF : FineLaid w) (hI : ItemsAt w x xs) :
    Calls Tryz.prog 6 #[.agg #[.int .i64 n, .int .i64 t, .int .i64 R], .agg #[.int .i64 n2, .int .i64 t2, .int .i64 R2], .slice x xs.length cap] w fun e w' => e = .returned (.bool true) ∧ Below w.heap.size w w' := by
  obtain ⟨E1, P1, hEP, hwr⟩ := wrong_at n2 t2 R2 x cap xs w hF hI hm
  have HM : Hid (xs.length ≤ maxLen) := hm
  have HD : Hid (decide ((40 < xs.length ∧ xs.length ≤ 100) ∨ 150 < xs.length) = false) := by simpa [Hid] using h
  have HL : Hid (Laid w) := hL
  have HI : Hid (ItemsAt w x xs) := hI
  have HWR : Hid (∀ W : World, Below w.heap.size w W → Calls Tryz.prog 8 #[.agg #[.int .i64 n2, .int .i64 t2, .int .i64 R2], .slice x xs.length cap] W fun e w' => e = .returned (.agg #[.int .i64 E1, .int .i64 P1]) ∧ Below W.heap.size W w') := hwr
  obtain ⟨W0, HW0⟩ : ∃ W0, Hid ((w.alloc (.cells #[.int .i64 n, .int .i64 t, .int .i64 R] 25)).alloc (.cells #[.int .i64 n2, .int .i64 t2, .int .i64 R2] 25) = W0) := ⟨_, rfl⟩
  have HBX : Hid (BxAt W0 w.heap.size n t R ∧ BxAt W0 (w.heap.size + 1) n2 t2 R2 ∧ Below w.heap.size w W0) := by
    have := bxs w n t R n2 t2 R2
    rw [HW0.out] at this
    exact this
  have H : Hid (okB n t R) := hb
  have H2 : Hid (okB n2 t2 R2) := hb2
  have HO : Hid (¬ okL xs) := hl
  have HEP : Hid (listE xs = (E1, P1)) := by
    rcases hEP with ⟨_, h⟩ | ⟨h, _⟩
    · exact h
    · exact absurd hb2 h
  have hE1 : ¬ E1 = 0 := fun h0 => hl (by unfold okL; rw [HEP.out]; exact h0)
  clear hb hb2 hl hEP
  clear h hm hL hF hI hwr
  obtain ⟨len, hlen⟩ : ∃ len, xs.length = len := ⟨_, rfl⟩
  have HN : Hid (xs.length = len) := hlen
  rw [hlen]
  rw [hlen] at HWR
  clear hlen
  go_enter Tryz.func6, Tryz.ntmps6
  go_wp2_with fail
  refine (many_any x len cap _ (HN.out ▸ HM.out)).mono ?_
  rw [← HN.out, HD.out]
  rintro e w1 ⟨rfl, rfl⟩
  rw [HN.out, HW0.out]
  obtain ⟨p0, p1, p2⟩ := HBX.out.2.1.cell
  go_wp2_with fail
  refine (HWR.out W0 HBX.out.2.2).mono ?_
  rintro e w1 ⟨rfl, hb1⟩
  obtain ⟨W1, HW1⟩ : ∃ W1, Hid (w1.alloc (.cells #[.int .i64 E1, .int .i64 P1] 30) = W1) := ⟨_, rfl⟩
  have HA1 : Hid (Below w1.heap.size w1 W1) := by show Below _ _ _; rw [← HW1.out]; exact (Below.refl _ _).alloc (Nat.le_refl _) _
  have HQ1 : Hid (BxAt W1 w.heap.size n t R ∧ BxAt W1 (w.heap.size + 1) n2 t2 R2 ∧ Below w.heap.size w W1 ∧ FtAt W1 w1.heap.size E1 P1) := by
    refine ⟨(HBX.out.1.below hb1).below HA1.out, (HBX.out.2.1.below hb1).below HA1.out, below_then (below_then HBX.out.2.2 hb1) HA1.out, ?_⟩
    rw [← HW1.out]
    exact heap_alloc_new _ _
  clear hb1 p0 p1 p2
  obtain ⟨q0, q1, q2⟩ := HQ1.out.1.cell
  rw [← HW1.out] at q0 q1 q2
  go_wp2_with fail
  rw [HW1.out]
  refine (lof_any n t R _).mono ?_
  rintro e w2 ⟨rfl, hb2⟩
  have HQ2 : Hid (BxAt w2 w.heap.size n t R ∧ BxAt w2 (w.heap.size + 1) n2 t2 R2 ∧ Below w.heap.size w w2 ∧ FtAt w2 w1.heap.size E1 P1) := ⟨HQ1.out.1.below hb2, HQ1.out.2.1.below hb2, below_then HQ1.out.2.2.1 hb2, HQ1.out.2.2.2.below hb2⟩
  clear hb2 q0 q1 q2
  go_wp2_with fail
  refine (rbcheck_yes n t R _ H.out).mono ?_
  rintro e w3 ⟨rfl, hb⟩
  have HQ3 : Hid (BxAt w3 w.heap.size n t R ∧ BxAt w3 (w.heap.size + 1) n2 t2 R2 ∧ Below w.heap.size w w3 ∧ FtAt w3 w1.heap.size E1 P1) := ⟨HQ2.out.1.below hb, HQ2.out.2.1.below hb, below_then HQ2.out.2.2.1 hb, HQ2.out.2.2.2.below hb⟩
  clear hb
  obtain ⟨q0, q1, q2⟩ := HQ3.out.1.cell
  obtain ⟨p0, p1, p2⟩ := HQ3.out.2.1.cell
  obtain ⟨r0, r1, _, _⟩ := HQ3.out.2.2.2.cell
  have hE1' : (E1 == 0) = false := by simpa using hE1
  go_wp2_with fail
  rw [← HN.out]
  refine (two_nol n t R n2 t2 R2 x cap xs _ H.out H2.out HO.out (HL.out.below HQ3.out.2.2.1) (HI.out.below HQ3.out.2.2.1) HM.out).mono ?_
  rw [HEP.out]
  rintro e w5 ⟨t', u', rfl, he, hb⟩
  have HE5 : Hid (ErrIs w5 (.iface t' u') E1 P1) := he
  clear he
  rw [HN.out]
  have HB5 : Hid (Below w.heap.size w w5) := below_then HQ3.out.2.2.1 hb
  obtain ⟨s0, s1, _, _⟩ := (HQ3.out.2.2.2.below hb : FtAt w5 w1.heap.size E1 P1).cell
  clear hb
  go_wp2_with fail
  refine (at_true (E := E1) (P := P1) _ HE5.out (HL.out.below HB5.out)).mono ?_
  rintro e w6 ⟨rfl, hb⟩
  have HB6 : Hid (Below w.heap.size w w6) := below_then HB5.out hb
  clear hb
  go_wp2_with fail
  refine (sameI_any none none 0 0 0 (fun _ => 0) _ (Nat.zero_le _) (RowIO.nil _ _ _) (RowIO.nil _ _ _)).mono ?_
  rintro e w7 ⟨rfl, q, rfl⟩
  go_wp2
  go_ret
  exact ⟨rfl, below_drewN HB6.out _⟩

set_option maxRecDepth 100000 in
set_option maxHeartbeats 4000000 in
theorem btwo_yes (n t R n2 t2 R2 : Int) (x : Option Addr) (cap : Nat) (xs : List It) (w : World) (hm : xs.length ≤ maxLen) (h : ¬ ((40 < xs.length ∧ xs.length ≤ 100) ∨ 150 < xs.length)) (hb : okB n t R) (hb2 : okB n2 t2 R2) (hl : okL xs) (hL : Laid w) (hF : FineLaid w) (hI : ItemsAt w x xs) :
    Calls Tryz.prog 6 #[.agg #[.int .i64 n, .int .i64 t, .int .i64 R], .agg #[.int .i64 n2, .int .i64 t2, .int .i64 R2], .slice x xs.length cap] w fun e w' => e = .returned (.bool true) ∧ Below w.heap.size w w' := by
  obtain ⟨E1, P1, hEP, hwr⟩ := wrong_at n2 t2 R2 x cap xs w hF hI hm
  have HM : Hid (xs.length ≤ maxLen) := hm
  have HD : Hid (decide ((40 < xs.length ∧ xs.length ≤ 100) ∨ 150 < xs.length) = false) := by simpa [Hid] using h
  have HL : Hid (Laid w) := hL
  have HI : Hid (ItemsAt w x xs) := hI
  have HWR : Hid (∀ W : World, Below w.heap.size w W → Calls Tryz.prog 8 #[.agg #[.int .i64 n2, .int .i64 t2, .int .i64 R2], .slice x xs.length cap] W fun e w' => e = .returned (.agg #[.int .i64 E1, .int .i64 P1]) ∧ Below W.heap.size W w') := hwr
  obtain ⟨W0, HW0⟩ : ∃ W0, Hid ((w.alloc (.cells #[.int .i64 n, .int .i64 t, .int .i64 R] 25)).alloc (.cells #[.int .i64 n2, .int .i64 t2, .int .i64 R2] 25) = W0) := ⟨_, rfl⟩
  have HBX : Hid (BxAt W0 w.heap.size n t R ∧ BxAt W0 (w.heap.size + 1) n2 t2 R2 ∧ Below w.heap.size w W0) := by
    have := bxs w n t R n2 t2 R2
    rw [HW0.out] at this
    exact this
  have H : Hid (okB n t R) := hb
  have H2 : Hid (okB n2 t2 R2) := hb2
  have HO : Hid (okL xs) := hl
  have HEP : Hid (E1 = 0 ∧ P1 = -1) := by
    rcases hEP with ⟨_, h⟩ | ⟨h, _⟩
    · rw [okL_at hl] at h
      exact ⟨(Prod.mk.inj h).1.symm, (Prod.mk.inj h).2.symm⟩
    · exact absurd hb2 h
  clear hb hb2 hl hEP
  clear h hm hL hF hI hwr
  obtain ⟨len, hlen⟩ : ∃ len, xs.length = len := ⟨_, rfl⟩
  have HN : Hid (xs.length = len) := hlen
  rw [hlen]
  rw [hlen] at HWR
  clear hlen
  go_enter Tryz.func6, Tryz.ntmps6
  go_wp2_with fail
  refine (many_any x len cap _ (HN.out ▸ HM.out)).mono ?_
  rw [← HN.out, HD.out]
  rintro e w1 ⟨rfl, rfl⟩
  rw [HN.out, HW0.out]
  obtain ⟨p0, p1, p2⟩ := HBX.out.2.1.cell
  go_wp2_with fail
  refine (HWR.out W0 HBX.out.2.2).mono ?_
  rintro e w1 ⟨rfl, hb1⟩
  obtain ⟨W1, HW1⟩ : ∃ W1, Hid (w1.alloc (.cells #[.int .i64 E1, .int .i64 P1] 30) = W1) := ⟨_, rfl⟩
  have HA1 : Hid (Below w1.heap.size w1 W1) := by show Below _ _ _; rw [← HW1.out]; exact (Below.refl _ _).alloc (Nat.le_refl _) _
  have HQ1 : Hid (BxAt W1 w.heap.size n t R ∧ BxAt W1 (w.heap.size + 1) n2 t2 R2 ∧ Below w.heap.size w W1 ∧ FtAt W1 w1.heap.size E1 P1) := by
    refine ⟨(HBX.out.1.below hb1).below HA1.out, (HBX.out.2.1.below hb1).below HA1.out, below_then (below_then HBX.out.2.2 hb1) HA1.out, ?_⟩
    rw [← HW1.out]
    exact heap_alloc_new _ _
  clear hb1 p0 p1 p2
  obtain ⟨q0, q1, q2⟩ := HQ1.out.1.cell
  rw [← HW1.out] at q0 q1 q2
  go_wp2_with fail
  rw [HW1.out]
  refine (lof_any n t R _).mono ?_
  rintro e w2 ⟨rfl, hb2⟩
  have HQ2 : Hid (BxAt w2 w.heap.size n t R ∧ BxAt w2 (w.heap.size + 1) n2 t2 R2 ∧ Below w.heap.size w w2 ∧ FtAt w2 w1.heap.size E1 P1) := ⟨HQ1.out.1.below hb2, HQ1.out.2.1.below hb2, below_then HQ1.out.2.2.1 hb2, HQ1.out.2.2.2.below hb2⟩
  clear hb2 q0 q1 q2
  go_wp2_with fail
  refine (rbcheck_yes n t R _ H.out).mono ?_
  rintro e w3 ⟨rfl, hb⟩
  have HQ3 : Hid (BxAt w3 w.heap.size n t R ∧ BxAt w3 (w.heap.size + 1) n2 t2 R2 ∧ Below w.heap.size w w3 ∧ FtAt w3 w1.heap.size E1 P1) := ⟨HQ2.out.1.below hb, HQ2.out.2.1.below hb, below_then HQ2.out.2.2.1 hb, HQ2.out.2.2.2.below hb⟩
  clear hb
  obtain ⟨rfl, rfl⟩ := HEP.out
  obtain ⟨q0, q1, q2⟩ := HQ3.out.1.cell
  obtain ⟨p0, p1, p2⟩ := HQ3.out.2.1.cell
  obtain ⟨r0, r1, _, _⟩ := HQ3.out.2.2.2.cell
  have HKC : Hid (∀ W : World, Below w3.heap.size w3 W → ((W.cell? ⟨w.heap.size, 0, none⟩ = some (.int .i64 n) ∧ W.cell? ⟨w.heap.size, 1, none⟩ = some (.int .i64 t) ∧ W.cell? ⟨w.heap.size, 2, none⟩ = some (.int .i64 R)) ∧ W.cell? ⟨w.heap.size + 1, 0, none⟩ = some (.int .i64 n2) ∧ W.cell? ⟨w.heap.size + 1, 1, none⟩ = some (.int .i64 t2) ∧ W.cell? ⟨w.heap.size + 1, 2, none⟩ = some (.int .i64 R2))) := fun W hW => ⟨(HQ3.out.1.below hW).cell, (HQ3.out.2.1.below hW).cell⟩
  go_wp2
  go_region_held3 (fun W => ((W.cell? ⟨w.heap.size, 0, none⟩ = some (.int .i64 n) ∧ W.cell? ⟨w.heap.size, 1, none⟩ = some (.int .i64 t) ∧ W.cell? ⟨w.heap.size, 2, none⟩ = some (.int .i64 R)) ∧ W.cell? ⟨w.heap.size + 1, 0, none⟩ = some (.int .i64 n2) ∧ W.cell? ⟨w.heap.size + 1, 1, none⟩ = some (.int .i64 t2) ∧ W.cell? ⟨w.heap.size + 1, 2, none⟩ = some (.int .i64 R2))) (first | (with_reducible exact HKC.out _ HT.out.2) | (with_reducible exact HKC.out _ HCC.out) | (with_reducible exact HKC.out _ HPP.out) | (with_reducible exact HKC.out _ (Below.refl _ _).drew) | exact HKC.out _ (Below.refl _ _))
    (first
      | (go_at_call 21; rw [← HN.out]; (first | refine (rtwo_any n t R n2 t2 R2 x cap xs _ H.out H2.out HO.out (HI.out.below (below_then HQ3.out.2.2.1 HCC.out))).mono ?_ | refine (rtwo_any n t R n2 t2 R2 x cap xs _ H.out H2.out HO.out (HI.out.below (below_then HQ3.out.2.2.1 HPP.out))).mono ?_); rintro e wt ⟨vt, rfl, hvt, hbt⟩; rw [HN.out] at hvt ⊢; obtain ⟨y3, c3, rfl, hr3⟩ := its_row hvt; have HT : Hid (RowIO wt y3 len (twc n t R n2 t2 R2 xs) ∧ Below w3.heap.size w3 wt) := (by first | exact ⟨hr3, HCC.out.trans (hbt.mono HCC.out.size)⟩ | exact ⟨hr3, HPP.out.trans (hbt.mono HPP.out.size)⟩); clear hvt hr3 hbt)
      | (go_at_call 10; refine (lof_any n t R _).mono ?_; rintro e wc ⟨rfl, hbc⟩; have HCC : Hid (Below w3.heap.size w3 wc) := (by first | exact HPP.out.trans (hbc.mono HPP.out.size) | exact (Below.refl _ _).drew.trans hbc); clear hbc)
      | (go_at_call 10; refine (lof_any n2 t2 R2 _).mono ?_; rintro e wp ⟨rfl, hbp⟩; have HPP : Hid (Below w3.heap.size w3 wp) := (by first | exact HCC.out.trans (hbp.mono HCC.out.size) | exact (Below.refl _ _).drew.trans hbp); clear hbp))
  all_goals
    obtain ⟨hr3, hbt⟩ := HT.out
    have HR3 : Hid (RowIO wt y3 len (twc n t R n2 t2 R2 xs)) := hr3
    have HQ4 : Hid (BxAt wt w.heap.size n t R ∧ BxAt wt (w.heap.size + 1) n2 t2 R2 ∧ Below w.heap.size w wt ∧ FtAt wt w1.heap.size 0 (-1)) := ⟨HQ3.out.1.below hbt, HQ3.out.2.1.below hbt, below_then HQ3.out.2.2.1 hbt, HQ3.out.2.2.2.below hbt⟩
    clear hr3 hbt q0 q1 q2 p0 p1 p2 r0 r1
    obtain ⟨q0, q1, q2⟩ := HQ4.out.1.cell
    obtain ⟨p0, p1, p2⟩ := HQ4.out.2.1.cell
    go_wp2_with fail
    rw [← HN.out]
    refine (two_yes n t R n2 t2 R2 x cap xs _ H.out H2.out HO.out (HL.out.below HQ4.out.2.2.1) (HI.out.below HQ4.out.2.2.1)).mono ?_
    rintro e w5 ⟨g5, rfl, _, hr5, hb5⟩
    rw [HN.out] at hr5 ⊢
    have HR5 : Hid (RowIO w5 (some ⟨g5, 0, none⟩) len (twc n t R n2 t2 R2 xs) ∧ RowIO w5 y3 len (twc n t R n2 t2 R2 xs)) := ⟨RowIO.of hr5, HR3.out.below hb5⟩
    have HB5 : Hid (Below w.heap.size w w5) := below_then HQ4.out.2.2.1 hb5
    obtain ⟨s0, s1, _, _⟩ := (HQ4.out.2.2.2.below hb5 : FtAt w5 w1.heap.size 0 (-1)).cell
    clear hb5 hr5
    go_wp2_with fail
    refine (at_true _ (Or.inl ⟨rfl, rfl, rfl⟩) (HL.out.below HB5.out)).mono ?_
    rintro e w6 ⟨rfl, hb6⟩
    have HB6 : Hid (Below w.heap.size w w6) := below_then HB5.out hb6
    have HR6 : Hid (RowIO w6 (some ⟨g5, 0, none⟩) len (twc n t R n2 t2 R2 xs) ∧ RowIO w6 y3 len (twc n t R n2 t2 R2 xs)) := ⟨HR5.out.1.below hb6, HR5.out.2.below hb6⟩
    clear hb6
    go_wp2_with fail
    refine (sameI_any _ _ _ _ len (twc n t R n2 t2 R2 xs) _ (HN.out ▸ HM.out) HR6.out.1 HR6.out.2).mono ?_
    rintro e w7 ⟨rfl, q, rfl⟩
    go_wp2
    go_ret
    exact ⟨rfl, below_drewN HB6.out _⟩

theorem btwo_any (n t R n2 t2 R2 : Int) (x : Option Addr) (cap : Nat) (xs : List It) (w : World) (hL : Laid w) (hF : FineLaid w) (hI : ItemsAt w x xs) (hm : xs.length ≤ maxLen) :
    Calls Tryz.prog 6 #[.agg #[.int .i64 n, .int .i64 t, .int .i64 R], .agg #[.int .i64 n2, .int .i64 t2, .int .i64 R2], .slice x xs.length cap] w fun e w' => e = .returned (.bool true) ∧ Below w.heap.size w w' := by
  by_cases h : (40 < xs.length ∧ xs.length ≤ 100) ∨ 150 < xs.length
  · exact btwo_many n t R n2 t2 R2 x _ cap w hm h
  · by_cases hb : okB n t R
    · by_cases hb2 : okB n2 t2 R2
      · by_cases hl : okL xs
        · exact btwo_yes n t R n2 t2 R2 x cap xs w hm h hb hb2 hl hL hF hI
        · exact btwo_nol n t R n2 t2 R2 x cap xs w hm h hb hb2 hl hL hF hI
      · exact btwo_nob2 n t R n2 t2 R2 x cap xs w hm h hb hb2 hL hF hI
    · exact btwo_nob n t R n2 t2 R2 x cap xs w hm h hb hL hF hI
end Go.Proofs.YtdaapdpbnijefaaGreatDoor
