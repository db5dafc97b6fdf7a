/-
  millracelaw.BucketOne is true at every bucket, excess and every packets; nothing that was there before is otherwise. Conditions: errors.errorType and millraceref.Fine hold what the program's text lays; the packets lie in memory.
-/
import Derived.Test.YtdaapdpbnijefaaGreatDoorLwWr
import Derived.Test.YtdaapdpbnijefaaGreatDoorOnW
import Derived.Test.YtdaapdpbnijefaaGreatDoorGj
namespace Go.Proofs.YtdaapdpbnijefaaGreatDoor
open Go.RowKit Go.Extern.Stop Go.Stop Go.Extern

/-- Ints in memory, or none. -/
def RowIO (w : World) (x : Option Addr) (n : Nat) (r : Nat → Int) : Prop := ∀ j, j < n → ∃ b, x = some ⟨b, 0, none⟩ ∧ w.cell? ⟨b, j, none⟩ = some (.int .i64 (r j))
theorem RowIO.of {w : World} {g n : Nat} {r : Nat → Int} (h : RowI w g n r) : RowIO w (some ⟨g, 0, none⟩) n r := fun j hj => ⟨g, rfl, h j hj⟩
theorem RowIO.nil (w : World) (x : Option Addr) (r : Nat → Int) : RowIO w x 0 r := fun j hj => absurd hj (Nat.not_lt_zero j)
theorem RowIO.below {w w' : World} {x : Option Addr} {n : Nat} {r : Nat → Int} (h : RowIO w x n r) (hb : Below w.heap.size w w') : RowIO w' x n r := fun j hj => by
  obtain ⟨b, e, hc⟩ := h j hj
  exact ⟨b, e, cell_below hb hc⟩
theorem sameI_any (x y : Option Addr) (cx cy n : Nat) (f : Nat → Int) (w : World) (hm : n ≤ maxLen) (hx : RowIO w x n f) (hy : RowIO w y n f) :
    Calls Tryz.prog 16 #[.slice x n cx, .slice y n cy] w fun e w' => e = .returned (.bool true) ∧ ∃ q, w' = w.drewN q := by
  unfold maxLen at hm
  have HX : Hid (RowIO w x n f) := hx
  have HY : Hid (RowIO w y n f) := hy
  clear hx hy
  go_enter Tryz.func16, Tryz.ntmps16
  go_wp2
  go_loopw [5] (fun i wr => ∃ k : Nat, k ≤ n ∧ i = .int .i64 k ∧ ∃ q, wr = w.drewN q) (fun i _ => n - (intOf i).toNat)
  case atStart => exact ⟨0, Nat.zero_le _, rfl, 0, rfl⟩
  case round =>
    obtain ⟨k, hk, rfl, q, rfl⟩ := hrel
    by_cases hlt : k < n
    · obtain ⟨b, rfl, c0⟩ := HX.out k hlt
      obtain ⟨b', rfl, c1⟩ := HY.out k hlt
      have d0 : w.cell? ⟨b, 0 + k, none⟩ = some (.int .i64 (f k)) := by simpa using c0
      have d1 : w.cell? ⟨b', 0 + k, none⟩ = some (.int .i64 (f k)) := by simpa using c1
      generalize f k = u at *
      go_wp2
      go_quiet (fail)
      go_wp2
      go_roundw
      case rel => exact ⟨k + 1, by omega, by go_num, _, rfl⟩
      case measure => simp [intOf]; omega
    · go_wp2
      go_ret
      exact ⟨rfl, _, rfl⟩
theorem its_rowO {w : World} {v : Value} {n t R E : Int} {xs : List It} {m : Nat} (h : Its w v (colL n t R E xs m)) : ∃ y cap, v = .slice y m cap ∧ RowIO w y m (col n t R E xs) := by
  obtain ⟨y, cap, e⟩ := Prw.slice h
  rw [List.length_map, colL_length] at e
  refine ⟨y, cap, e, fun j hj => ?_⟩
  obtain ⟨g, cap', e', hc⟩ := Prw.at h (j := j) (u := .int .i64 (col n t R E xs j)) (by simp [colL, hj])
  rw [e] at e'
  simp only [Value.slice.injEq] at e'
  exact ⟨g, e'.1, hc⟩
theorem heap_set_at {w : World} {b o : Nat} {cur : Array Value} {e : TypeId} {fr : Nat × Nat} (h : w.heap[b]? = some (.cells cur e fr)) (u : Value) : (w.setCell ⟨b, o, none⟩ u).heap[b]? = some (.cells (cur.setIfInBounds o u) e fr) := by
  have hlt := lt_of_block h
  have h' : w.heap[b] = .cells cur e fr := by simpa [Array.getElem?_eq_getElem hlt] using h
  show (w.heap.modify b _)[b]? = _
  rw [Array.getElem?_eq_getElem (by simpa using hlt), Array.getElem_modify_self, h']
  rfl
/-- A bucket in its box. -/
def BxAt (w : World) (c : Nat) (n t R : Int) : Prop := w.heap[c]? = some (.cells #[.int .i64 n, .int .i64 t, .int .i64 R] 25 (0, 0))
theorem BxAt.below {w w' : World} {c : Nat} {n t R : Int} (h : BxAt w c n t R) (hb : Below w.heap.size w w') : BxAt w' c n t R := (hb.block _ (lt_of_block h)).trans h
theorem BxAt.cell {w : World} {c : Nat} {n t R : Int} (h : BxAt w c n t R) : w.cell? ⟨c, 0, none⟩ = some (.int .i64 n) ∧ w.cell? ⟨c, 1, none⟩ = some (.int .i64 t) ∧ w.cell? ⟨c, 2, none⟩ = some (.int .i64 R) := by
  have h' : w.heap[c]? = some (.cells #[.int .i64 n, .int .i64 t, .int .i64 R] 25 (0, 0)) := h
  simp [World.cell?, h']
/-- A fault in its box. -/
def FtAt (w : World) (c : Nat) (E P : Int) : Prop := w.heap[c]? = some (.cells #[.int .i64 E, .int .i64 P] 30 (0, 0))
theorem FtAt.below {w w' : World} {c : Nat} {E P : Int} (h : FtAt w c E P) (hb : Below w.heap.size w w') : FtAt w' c E P := (hb.block _ (lt_of_block h)).trans h
theorem FtAt.cell {w : World} {c : Nat} {E P : Int} (h : FtAt w c E P) : w.cell? ⟨c, 0, none⟩ = some (.int .i64 E) ∧ w.cell? ⟨c, 1, none⟩ = some (.int .i64 P) ∧ w.frozen? ⟨c, 0, none⟩ = false ∧ w.frozen? ⟨c, 1, none⟩ = false := by
  have h' : w.heap[c]? = some (.cells #[.int .i64 E, .int .i64 P] 30 (0, 0)) := h
  simp [World.cell?, World.frozen?, h']
theorem below_then {a W w1 : World} (h : Below a.heap.size a W) (hb : Below W.heap.size W w1) : Below a.heap.size a w1 := h.trans (hb.mono h.size)

theorem okB_ex {n t R E : Int} (h : okB n t R) : okB n t E ↔ 0 ≤ E ∧ E ≤ 1000000 := ⟨fun k => k.2.2, fun k => ⟨h.1, h.2.1, k⟩⟩
/-- What wrong tells, wherever. -/
theorem wrong_at (n t R : Int) (x : Option Addr) (cap : Nat) (xs : List It) (w : World) (hF : FineLaid w) (hI : ItemsAt w x xs) (hm : xs.length ≤ maxLen) : ∃ E P : Int, ((okB n t R ∧ listE xs = (E, P)) ∨ (¬ okB n t R ∧ E = 2 ∧ P = -1)) ∧ ∀ W : World, Below w.heap.size w W → Calls Tryz.prog 8 #[.agg #[.int .i64 n, .int .i64 t, .int .i64 R], .slice x xs.length cap] W fun e w' => e = .returned (.agg #[.int .i64 E, .int .i64 P]) ∧ Below W.heap.size W w' := by
  by_cases hb : okB n t R
  · obtain ⟨E, P, hEE⟩ : ∃ E P, listE xs = (E, P) := ⟨_, _, rfl⟩
    refine ⟨E, P, Or.inl ⟨hb, hEE⟩, fun W hW => ?_⟩
    refine (wrong_list n t R x cap xs W hb (hF.below hW) (hI.below hW) hm).mono ?_
    rw [hEE]
    exact fun e w' h => h
  · exact ⟨2, -1, Or.inr ⟨hb, rfl, rfl⟩, fun W _ => wrong_nob n t R _ W hb⟩

set_option maxHeartbeats 1000000 in
theorem bone_many (n t R E : Int) (x : Option Addr) (len cap : Nat) (w : World) (hm : len ≤ maxLen) (h : (40 < len ∧ len ≤ 100) ∨ 150 < len) :
    Calls Tryz.prog 5 #[.agg #[.int .i64 n, .int .i64 t, .int .i64 R], .int .i64 E, .slice x len cap] w fun e w' => e = .returned (.bool true) ∧ Below w.heap.size w w' := by
  have HM : Hid (len ≤ maxLen) := hm
  have HD : Hid (decide ((40 < len ∧ len ≤ 100) ∨ 150 < len) = true) := by simpa [Hid] using h
  clear h hm
  go_enter Tryz.func5, Tryz.ntmps5
  go_wp2_with fail
  refine (many_any x len cap _ HM.out).mono ?_
  rw [HD.out]
  rintro e w1 ⟨rfl, rfl⟩
  go_wp2
  go_ret
  exact ⟨rfl, (Below.refl _ _).alloc (Nat.le_refl _) _⟩

set_option maxRecDepth 100000 in
set_option maxHeartbeats 4000000 in
theorem bone_nob (n t R E : Int) (x : Option Addr) (cap : Nat) (xs : List It) (w : World) (hm : xs.length ≤ maxLen) (h : ¬ ((40 < xs.length ∧ xs.length ≤ 100) ∨ 150 < xs.length)) (hb : ¬ okB n t R) (hL : Laid w) (hF : FineLaid w) (hI : ItemsAt w x xs) :
    Calls Tryz.prog 5 #[.agg #[.int .i64 n, .int .i64 t, .int .i64 R], .int .i64 E, .slice x xs.length cap] w fun e w' => e = .returned (.bool true) ∧ Below w.heap.size w w' := by
  obtain ⟨E1, P1, hEP, hwr⟩ := wrong_at n t R x cap xs w hF hI hm
  have HM : Hid (xs.length ≤ maxLen) := hm
  have HD : Hid (decide ((40 < xs.length ∧ xs.length ≤ 100) ∨ 150 < xs.length) = false) := by simpa [Hid] using h
  have HL : Hid (Laid w) := hL
  have HI : Hid (ItemsAt w x xs) := hI
  have HWR : Hid (∀ W : World, Below w.heap.size w W → Calls Tryz.prog 8 #[.agg #[.int .i64 n, .int .i64 t, .int .i64 R], .slice x xs.length cap] W fun e w' => e = .returned (.agg #[.int .i64 E1, .int .i64 P1]) ∧ Below W.heap.size W w') := hwr
  obtain ⟨W0, HW0⟩ : ∃ W0, Hid (w.alloc (.cells #[.int .i64 n, .int .i64 t, .int .i64 R] 25) = W0) := ⟨_, rfl⟩
  have HBX : Hid (BxAt W0 w.heap.size n t R ∧ Below w.heap.size w W0) := by
    show _ ∧ _
    rw [← HW0.out]
    exact ⟨heap_alloc_new _ _, (Below.refl _ _).alloc (Nat.le_refl _) _⟩
  have H : Hid (¬ okB n t R) := hb
  have HEP : Hid (E1 = 2 ∧ P1 = -1) := by
    rcases hEP with ⟨h, _⟩ | ⟨_, h⟩
    · exact absurd h hb
    · exact h
  have hE1 : ¬ E1 = 0 := by rw [HEP.out.1]; decide
  have hE1' : (E1 == 0) = false := by simpa using hE1
  clear hb hEP
  clear h hm hL hF hI hwr
  obtain ⟨len, hlen⟩ : ∃ len, xs.length = len := ⟨_, rfl⟩
  have HN : Hid (xs.length = len) := hlen
  rw [hlen]
  rw [hlen] at HWR
  clear hlen
  go_enter Tryz.func5, Tryz.ntmps5
  go_wp2_with fail
  refine (many_any x len cap _ (HN.out ▸ HM.out)).mono ?_
  rw [← HN.out, HD.out]
  rintro e w1 ⟨rfl, rfl⟩
  rw [HN.out, HW0.out]
  obtain ⟨p0, p1, p2⟩ := HBX.out.1.cell
  go_wp2_with fail
  refine (HWR.out W0 HBX.out.2).mono ?_
  rintro e w1 ⟨rfl, hb1⟩
  obtain ⟨W1, HW1⟩ : ∃ W1, Hid (w1.alloc (.cells #[.int .i64 E1, .int .i64 P1] 30) = W1) := ⟨_, rfl⟩
  have HA1 : Hid (Below w1.heap.size w1 W1) := by show Below _ _ _; rw [← HW1.out]; exact (Below.refl _ _).alloc (Nat.le_refl _) _
  have HQ1 : Hid (BxAt W1 w.heap.size n t R ∧ Below w.heap.size w W1 ∧ FtAt W1 w1.heap.size E1 P1) := by
    refine ⟨(HBX.out.1.below hb1).below HA1.out, below_then (below_then HBX.out.2 hb1) HA1.out, ?_⟩
    rw [← HW1.out]
    exact heap_alloc_new _ _
  have HSZ : Hid (w.heap.size < w1.heap.size) := Nat.lt_of_lt_of_le (lt_of_block HBX.out.1) hb1.size
  clear hb1 p0 p1 p2
  obtain ⟨q0, q1, q2⟩ := HQ1.out.1.cell
  rw [← HW1.out] at q0 q1 q2
  go_wp2_with fail
  rw [HW1.out]
  refine (lof_any n t R _).mono ?_
  rintro e w2 ⟨rfl, hb2⟩
  have HQ2 : Hid (BxAt w2 w.heap.size n t R ∧ Below w.heap.size w w2 ∧ FtAt w2 w1.heap.size E1 P1) := ⟨HQ1.out.1.below hb2, below_then HQ1.out.2.1 hb2, HQ1.out.2.2.below hb2⟩
  clear hb2 q0 q1 q2
  go_wp2_with fail
  refine (rbcheck_no n t R _ H.out).mono ?_
  rintro e w3 ⟨rfl, hb⟩
  have HQ3 : Hid (BxAt w3 w.heap.size n t R ∧ Below w.heap.size w w3 ∧ FtAt w3 w1.heap.size E1 P1) := ⟨HQ2.out.1.below hb, below_then HQ2.out.2.1 hb, HQ2.out.2.2.below hb⟩
  clear hb
  obtain ⟨q0, q1, q2⟩ := HQ3.out.1.cell
  obtain ⟨r0, r1, _, _⟩ := HQ3.out.2.2.cell
  go_wp2_with fail
  rw [← HN.out]
  refine (one_nob n t R E _ _ H.out).mono ?_
  rintro e w5 ⟨rfl, hb⟩
  rw [HN.out]
  have HB5 : Hid (Below w.heap.size w w5) := below_then HQ3.out.2.1 hb
  obtain ⟨s0, s1, _, _⟩ := (HQ3.out.2.2.below hb : FtAt w5 w1.heap.size E1 P1).cell
  clear hb
  go_wp2_with fail
  refine (at_true (E := E1) (P := P1) _ (Or.inr (Or.inl ⟨by rw [HEP.out.1], hE1, HEP.out.2⟩)) (HL.out.below HB5.out)).mono ?_
  rintro e w6 ⟨rfl, hb⟩
  have HB6 : Hid (Below w.heap.size w w6) := below_then HB5.out hb
  clear hb
  go_wp2_with fail
  refine (sameI_any none none 0 0 0 (fun _ => 0) _ (Nat.zero_le _) (RowIO.nil _ _ _) (RowIO.nil _ _ _)).mono ?_
  rintro e w7 ⟨rfl, q, rfl⟩
  go_wp2
  go_ret
  exact ⟨rfl, below_drewN HB6.out _⟩

set_option maxRecDepth 100000 in
set_option maxHeartbeats 4000000 in
theorem bone_low (n t R E : Int) (x : Option Addr) (cap : Nat) (xs : List It) (w : World) (hm : xs.length ≤ maxLen) (h : ¬ ((40 < xs.length ∧ xs.length ≤ 100) ∨ 150 < xs.length)) (hb : okB n t R) (he : E < 0) (hL : Laid w) (hF : FineLaid w) (hI : ItemsAt w x xs) :
    Calls Tryz.prog 5 #[.agg #[.int .i64 n, .int .i64 t, .int .i64 R], .int .i64 E, .slice x xs.length cap] w fun e w' => e = .returned (.bool true) ∧ Below w.heap.size w w' := by
  obtain ⟨E1, P1, hEP, hwr⟩ := wrong_at n t R x cap xs w hF hI hm
  have HM : Hid (xs.length ≤ maxLen) := hm
  have HD : Hid (decide ((40 < xs.length ∧ xs.length ≤ 100) ∨ 150 < xs.length) = false) := by simpa [Hid] using h
  have HL : Hid (Laid w) := hL
  have HI : Hid (ItemsAt w x xs) := hI
  have HWR : Hid (∀ W : World, Below w.heap.size w W → Calls Tryz.prog 8 #[.agg #[.int .i64 n, .int .i64 t, .int .i64 R], .slice x xs.length cap] W fun e w' => e = .returned (.agg #[.int .i64 E1, .int .i64 P1]) ∧ Below W.heap.size W w') := hwr
  obtain ⟨W0, HW0⟩ : ∃ W0, Hid (w.alloc (.cells #[.int .i64 n, .int .i64 t, .int .i64 R] 25) = W0) := ⟨_, rfl⟩
  have HBX : Hid (BxAt W0 w.heap.size n t R ∧ Below w.heap.size w W0) := by
    show _ ∧ _
    rw [← HW0.out]
    exact ⟨heap_alloc_new _ _, (Below.refl _ _).alloc (Nat.le_refl _) _⟩
  have H : Hid (okB n t R) := hb
  have H2 : Hid (¬ okB n t E) := fun k => by have := (okB_ex hb).1 k; omega
  clear hb hEP
  clear h hm hL hF hI hwr
  obtain ⟨len, hlen⟩ : ∃ len, xs.length = len := ⟨_, rfl⟩
  have HN : Hid (xs.length = len) := hlen
  rw [hlen]
  rw [hlen] at HWR
  clear hlen
  go_enter Tryz.func5, Tryz.ntmps5
  go_wp2_with fail
  refine (many_any x len cap _ (HN.out ▸ HM.out)).mono ?_
  rw [← HN.out, HD.out]
  rintro e w1 ⟨rfl, rfl⟩
  rw [HN.out, HW0.out]
  obtain ⟨p0, p1, p2⟩ := HBX.out.1.cell
  go_wp2_with fail
  refine (HWR.out W0 HBX.out.2).mono ?_
  rintro e w1 ⟨rfl, hb1⟩
  obtain ⟨W1, HW1⟩ : ∃ W1, Hid (w1.alloc (.cells #[.int .i64 E1, .int .i64 P1] 30) = W1) := ⟨_, rfl⟩
  have HA1 : Hid (Below w1.heap.size w1 W1) := by show Below _ _ _; rw [← HW1.out]; exact (Below.refl _ _).alloc (Nat.le_refl _) _
  have HQ1 : Hid (BxAt W1 w.heap.size n t R ∧ Below w.heap.size w W1 ∧ FtAt W1 w1.heap.size E1 P1) := by
    refine ⟨(HBX.out.1.below hb1).below HA1.out, below_then (below_then HBX.out.2 hb1) HA1.out, ?_⟩
    rw [← HW1.out]
    exact heap_alloc_new _ _
  have HSZ : Hid (w.heap.size < w1.heap.size) := Nat.lt_of_lt_of_le (lt_of_block HBX.out.1) hb1.size
  clear hb1 p0 p1 p2
  obtain ⟨q0, q1, q2⟩ := HQ1.out.1.cell
  rw [← HW1.out] at q0 q1 q2
  go_wp2_with fail
  rw [HW1.out]
  refine (lof_any n t R _).mono ?_
  rintro e w2 ⟨rfl, hb2⟩
  have HQ2 : Hid (BxAt w2 w.heap.size n t R ∧ Below w.heap.size w w2 ∧ FtAt w2 w1.heap.size E1 P1) := ⟨HQ1.out.1.below hb2, below_then HQ1.out.2.1 hb2, HQ1.out.2.2.below hb2⟩
  clear hb2 q0 q1 q2
  go_wp2_with fail
  refine (rbcheck_yes n t R _ H.out).mono ?_
  rintro e w3 ⟨rfl, hb⟩
  have HQ3 : Hid (BxAt w3 w.heap.size n t R ∧ Below w.heap.size w w3 ∧ FtAt w3 w1.heap.size E1 P1) := ⟨HQ2.out.1.below hb, below_then HQ2.out.2.1 hb, HQ2.out.2.2.below hb⟩
  clear hb
  go_wp2_with fail
  refine (bareOf _ _).mono ?_
  rintro e w4 ⟨rfl, hb⟩
  have HQ4 : Hid (BxAt w4 w.heap.size n t R ∧ Below w.heap.size w w4 ∧ FtAt w4 w1.heap.size E1 P1) := ⟨HQ3.out.1.below hb, below_then HQ3.out.2.1 hb, HQ3.out.2.2.below hb⟩
  clear hb
  obtain ⟨f0, f1, z0, z1⟩ := HQ4.out.2.2.cell
  have HS : Hid (BxAt ((w4.setCell ⟨w1.heap.size, 0, none⟩ (.int .i64 2)).setCell ⟨w1.heap.size, 1, none⟩ (.int .i64 (-1))) w.heap.size n t R ∧ Below w.heap.size w ((w4.setCell ⟨w1.heap.size, 0, none⟩ (.int .i64 2)).setCell ⟨w1.heap.size, 1, none⟩ (.int .i64 (-1))) ∧ FtAt ((w4.setCell ⟨w1.heap.size, 0, none⟩ (.int .i64 2)).setCell ⟨w1.heap.size, 1, none⟩ (.int .i64 (-1))) w1.heap.size 2 (-1)) := by
    have hsz : w.heap.size < w1.heap.size := HSZ.out
    refine ⟨?_, ?_, ?_⟩
    · exact (Below.heap_setCell _ _ _ _ (by simp; omega)).trans ((Below.heap_setCell _ _ _ _ (by simp; omega)).trans HQ4.out.1)
    · exact Below.setCell (Below.setCell HQ4.out.2.1 (by simp; omega) _) (by simp; omega) _
    · show _ = _
      rw [heap_set_at (heap_set_at HQ4.out.2.2 _) _]
      rfl
  obtain ⟨W4, HW4⟩ : ∃ W4, Hid (((w4.setCell ⟨w1.heap.size, 0, none⟩ (.int .i64 2)).setCell ⟨w1.heap.size, 1, none⟩ (.int .i64 (-1))) = W4) := ⟨_, rfl⟩
  rw [HW4.out] at HS
  obtain ⟨q0, q1, q2⟩ := HS.out.1.cell
  obtain ⟨r0, r1, _, _⟩ := HS.out.2.2.cell
  rw [← HW4.out] at q0 q1 q2 r0 r1
  go_wp2_with fail
  rw [HW4.out]
  refine (one_nob2 n t R E _ _ H.out H2.out).mono ?_
  rintro e w5 ⟨rfl, hb⟩
  have HB5 : Hid (Below w.heap.size w w5) := below_then HS.out.2.1 hb
  obtain ⟨s0, s1, _, _⟩ := (HS.out.2.2.below hb : FtAt w5 w1.heap.size 2 (-1)).cell
  clear hb
  go_wp2_with fail
  refine (at_true (E := 2) (P := -1) _ (Or.inr (Or.inl ⟨rfl, by decide, rfl⟩)) (HL.out.below HB5.out)).mono ?_
  rintro e w6 ⟨rfl, hb⟩
  have HB6 : Hid (Below w.heap.size w w6) := below_then HB5.out hb
  clear hb
  go_wp2_with fail
  refine (sameI_any none none 0 0 0 (fun _ => 0) _ (Nat.zero_le _) (RowIO.nil _ _ _) (RowIO.nil _ _ _)).mono ?_
  rintro e w7 ⟨rfl, q, rfl⟩
  go_wp2
  go_ret
  exact ⟨rfl, below_drewN HB6.out _⟩

set_option maxRecDepth 100000 in
set_option maxHeartbeats 4000000 in
theorem bone_high (n t R E : Int) (x : Option Addr) (cap : Nat) (xs : List It) (w : World) (hm : xs.length ≤ maxLen) (h : ¬ ((40 < xs.length ∧ xs.length ≤ 100) ∨ 150 < xs.length)) (hb : okB n t R) (he : 1000000 < E) (hL : Laid w) (hF : FineLaid w) (hI : ItemsAt w x xs) :
    Calls Tryz.prog 5 #[.agg #[.int .i64 n, .int .i64 t, .int .i64 R], .int .i64 E, .slice x xs.length cap] w fun e w' => e = .returned (.bool true) ∧ Below w.heap.size w w' := by
  obtain ⟨E1, P1, hEP, hwr⟩ := wrong_at n t R x cap xs w hF hI hm
  have HM : Hid (xs.length ≤ maxLen) := hm
  have HD : Hid (decide ((40 < xs.length ∧ xs.length ≤ 100) ∨ 150 < xs.length) = false) := by simpa [Hid] using h
  have HL : Hid (Laid w) := hL
  have HI : Hid (ItemsAt w x xs) := hI
  have HWR : Hid (∀ W : World, Below w.heap.size w W → Calls Tryz.prog 8 #[.agg #[.int .i64 n, .int .i64 t, .int .i64 R], .slice x xs.length cap] W fun e w' => e = .returned (.agg #[.int .i64 E1, .int .i64 P1]) ∧ Below W.heap.size W w') := hwr
  obtain ⟨W0, HW0⟩ : ∃ W0, Hid (w.alloc (.cells #[.int .i64 n, .int .i64 t, .int .i64 R] 25) = W0) := ⟨_, rfl⟩
  have HBX : Hid (BxAt W0 w.heap.size n t R ∧ Below w.heap.size w W0) := by
    show _ ∧ _
    rw [← HW0.out]
    exact ⟨heap_alloc_new _ _, (Below.refl _ _).alloc (Nat.le_refl _) _⟩
  have H : Hid (okB n t R) := hb
  have H2 : Hid (¬ okB n t E) := fun k => by have := (okB_ex hb).1 k; omega
  have he0 : ¬ E < 0 := by omega
  clear hb hEP
  clear h hm hL hF hI hwr
  obtain ⟨len, hlen⟩ : ∃ len, xs.length = len := ⟨_, rfl⟩
  have HN : Hid (xs.length = len) := hlen
  rw [hlen]
  rw [hlen] at HWR
  clear hlen
  go_enter Tryz.func5, Tryz.ntmps5
  go_wp2_with fail
  refine (many_any x len cap _ (HN.out ▸ HM.out)).mono ?_
  rw [← HN.out, HD.out]
  rintro e w1 ⟨rfl, rfl⟩
  rw [HN.out, HW0.out]
  obtain ⟨p0, p1, p2⟩ := HBX.out.1.cell
  go_wp2_with fail
  refine (HWR.out W0 HBX.out.2).mono ?_
  rintro e w1 ⟨rfl, hb1⟩
  obtain ⟨W1, HW1⟩ : ∃ W1, Hid (w1.alloc (.cells #[.int .i64 E1, .int .i64 P1] 30) = W1) := ⟨_, rfl⟩
  have HA1 : Hid (Below w1.heap.size w1 W1) := by show Below _ _ _; rw [← HW1.out]; exact (Below.refl _ _).alloc (Nat.le_refl _) _
  have HQ1 : Hid (BxAt W1 w.heap.size n t R ∧ Below w.heap.size w W1 ∧ FtAt W1 w1.heap.size E1 P1) := by
    refine ⟨(HBX.out.1.below hb1).below HA1.out, below_then (below_then HBX.out.2 hb1) HA1.out, ?_⟩
    rw [← HW1.out]
    exact heap_alloc_new _ _
  have HSZ : Hid (w.heap.size < w1.heap.size) := Nat.lt_of_lt_of_le (lt_of_block HBX.out.1) hb1.size
  clear hb1 p0 p1 p2
  obtain ⟨q0, q1, q2⟩ := HQ1.out.1.cell
  rw [← HW1.out] at q0 q1 q2
  go_wp2_with fail
  rw [HW1.out]
  refine (lof_any n t R _).mono ?_
  rintro e w2 ⟨rfl, hb2⟩
  have HQ2 : Hid (BxAt w2 w.heap.size n t R ∧ Below w.heap.size w w2 ∧ FtAt w2 w1.heap.size E1 P1) := ⟨HQ1.out.1.below hb2, below_then HQ1.out.2.1 hb2, HQ1.out.2.2.below hb2⟩
  clear hb2 q0 q1 q2
  go_wp2_with fail
  refine (rbcheck_yes n t R _ H.out).mono ?_
  rintro e w3 ⟨rfl, hb⟩
  have HQ3 : Hid (BxAt w3 w.heap.size n t R ∧ Below w.heap.size w w3 ∧ FtAt w3 w1.heap.size E1 P1) := ⟨HQ2.out.1.below hb, below_then HQ2.out.2.1 hb, HQ2.out.2.2.below hb⟩
  clear hb
  go_wp2_with fail
  refine (bareOf _ _).mono ?_
  rintro e w4 ⟨rfl, hb⟩
  have HQ4 : Hid (BxAt w4 w.heap.size n t R ∧ Below w.heap.size w w4 ∧ FtAt w4 w1.heap.size E1 P1) := ⟨HQ3.out.1.below hb, below_then HQ3.out.2.1 hb, HQ3.out.2.2.below hb⟩
  clear hb
  obtain ⟨f0, f1, z0, z1⟩ := HQ4.out.2.2.cell
  have HS : Hid (BxAt ((w4.setCell ⟨w1.heap.size, 0, none⟩ (.int .i64 2)).setCell ⟨w1.heap.size, 1, none⟩ (.int .i64 (-1))) w.heap.size n t R ∧ Below w.heap.size w ((w4.setCell ⟨w1.heap.size, 0, none⟩ (.int .i64 2)).setCell ⟨w1.heap.size, 1, none⟩ (.int .i64 (-1))) ∧ FtAt ((w4.setCell ⟨w1.heap.size, 0, none⟩ (.int .i64 2)).setCell ⟨w1.heap.size, 1, none⟩ (.int .i64 (-1))) w1.heap.size 2 (-1)) := by
    have hsz : w.heap.size < w1.heap.size := HSZ.out
    refine ⟨?_, ?_, ?_⟩
    · exact (Below.heap_setCell _ _ _ _ (by simp; omega)).trans ((Below.heap_setCell _ _ _ _ (by simp; omega)).trans HQ4.out.1)
    · exact Below.setCell (Below.setCell HQ4.out.2.1 (by simp; omega) _) (by simp; omega) _
    · show _ = _
      rw [heap_set_at (heap_set_at HQ4.out.2.2 _) _]
      rfl
  obtain ⟨W4, HW4⟩ : ∃ W4, Hid (((w4.setCell ⟨w1.heap.size, 0, none⟩ (.int .i64 2)).setCell ⟨w1.heap.size, 1, none⟩ (.int .i64 (-1))) = W4) := ⟨_, rfl⟩
  rw [HW4.out] at HS
  obtain ⟨q0, q1, q2⟩ := HS.out.1.cell
  obtain ⟨r0, r1, _, _⟩ := HS.out.2.2.cell
  rw [← HW4.out] at q0 q1 q2 r0 r1
  go_wp2_with fail
  rw [HW4.out]
  refine (one_nob2 n t R E _ _ H.out H2.out).mono ?_
  rintro e w5 ⟨rfl, hb⟩
  have HB5 : Hid (Below w.heap.size w w5) := below_then HS.out.2.1 hb
  obtain ⟨s0, s1, _, _⟩ := (HS.out.2.2.below hb : FtAt w5 w1.heap.size 2 (-1)).cell
  clear hb
  go_wp2_with fail
  refine (at_true (E := 2) (P := -1) _ (Or.inr (Or.inl ⟨rfl, by decide, rfl⟩)) (HL.out.below HB5.out)).mono ?_
  rintro e w6 ⟨rfl, hb⟩
  have HB6 : Hid (Below w.heap.size w w6) := below_then HB5.out hb
  clear hb
  go_wp2_with fail
  refine (sameI_any none none 0 0 0 (fun _ => 0) _ (Nat.zero_le _) (RowIO.nil _ _ _) (RowIO.nil _ _ _)).mono ?_
  rintro e w7 ⟨rfl, q, rfl⟩
  go_wp2
  go_ret
  exact ⟨rfl, below_drewN HB6.out _⟩

set_option maxRecDepth 100000 in
set_option maxHeartbeats 4000000 in
theorem bone_nol (n t R E : Int) (x : Option Addr) (cap : Nat) (xs : List It) (w : World) (hm : xs.length ≤ maxLen) (h : ¬ ((40 < xs.length ∧ xs.length ≤ 100) ∨ 150 < xs.length)) (hb : okB n t R) (he : 0 ≤ E ∧ E ≤ 1000000) (hl : ¬ okL xs) (hL : Laid w) (hF : FineLaid w) (hI : ItemsAt w x xs) :
    Calls Tryz.prog 5 #[.agg #[.int .i64 n, .int .i64 t, .int .i64 R], .int .i64 E, .slice x xs.length cap] w fun e w' => e = .returned (.bool true) ∧ Below w.heap.size w w' := by
  obtain ⟨E1, P1, hEP, hwr⟩ := wrong_at n t R x cap xs w hF hI hm
  have HM : Hid (xs.length ≤ maxLen) := hm
  have HD : Hid (decide ((40 < xs.length ∧ xs.length ≤ 100) ∨ 150 < xs.length) = false) := by simpa [Hid] using h
  have HL : Hid (Laid w) := hL
  have HI : Hid (ItemsAt w x xs) := hI
  have HWR : Hid (∀ W : World, Below w.heap.size w W → Calls Tryz.prog 8 #[.agg #[.int .i64 n, .int .i64 t, .int .i64 R], .slice x xs.length cap] W fun e w' => e = .returned (.agg #[.int .i64 E1, .int .i64 P1]) ∧ Below W.heap.size W w') := hwr
  obtain ⟨W0, HW0⟩ : ∃ W0, Hid (w.alloc (.cells #[.int .i64 n, .int .i64 t, .int .i64 R] 25) = W0) := ⟨_, rfl⟩
  have HBX : Hid (BxAt W0 w.heap.size n t R ∧ Below w.heap.size w W0) := by
    show _ ∧ _
    rw [← HW0.out]
    exact ⟨heap_alloc_new _ _, (Below.refl _ _).alloc (Nat.le_refl _) _⟩
  have H : Hid (okB n t R) := hb
  have H2 : Hid (okB n t E) := (okB_ex hb).2 he
  have HO : Hid (¬ okL xs) := hl
  have he0 : ¬ E < 0 := by omega
  have he1 : ¬ 1000000 < E := by omega
  have HEP : Hid (listE xs = (E1, P1)) := by
    rcases hEP with ⟨_, h⟩ | ⟨h, _⟩
    · exact h
    · exact absurd hb h
  have hE1 : ¬ E1 = 0 := fun h0 => hl (by unfold okL; rw [HEP.out]; exact h0)
  have hE1' : (E1 == 0) = false := by simpa using hE1
  clear hb hl hEP he
  clear h hm hL hF hI hwr
  obtain ⟨len, hlen⟩ : ∃ len, xs.length = len := ⟨_, rfl⟩
  have HN : Hid (xs.length = len) := hlen
  rw [hlen]
  rw [hlen] at HWR
  clear hlen
  go_enter Tryz.func5, Tryz.ntmps5
  go_wp2_with fail
  refine (many_any x len cap _ (HN.out ▸ HM.out)).mono ?_
  rw [← HN.out, HD.out]
  rintro e w1 ⟨rfl, rfl⟩
  rw [HN.out, HW0.out]
  obtain ⟨p0, p1, p2⟩ := HBX.out.1.cell
  go_wp2_with fail
  refine (HWR.out W0 HBX.out.2).mono ?_
  rintro e w1 ⟨rfl, hb1⟩
  obtain ⟨W1, HW1⟩ : ∃ W1, Hid (w1.alloc (.cells #[.int .i64 E1, .int .i64 P1] 30) = W1) := ⟨_, rfl⟩
  have HA1 : Hid (Below w1.heap.size w1 W1) := by show Below _ _ _; rw [← HW1.out]; exact (Below.refl _ _).alloc (Nat.le_refl _) _
  have HQ1 : Hid (BxAt W1 w.heap.size n t R ∧ Below w.heap.size w W1 ∧ FtAt W1 w1.heap.size E1 P1) := by
    refine ⟨(HBX.out.1.below hb1).below HA1.out, below_then (below_then HBX.out.2 hb1) HA1.out, ?_⟩
    rw [← HW1.out]
    exact heap_alloc_new _ _
  have HSZ : Hid (w.heap.size < w1.heap.size) := Nat.lt_of_lt_of_le (lt_of_block HBX.out.1) hb1.size
  clear hb1 p0 p1 p2
  obtain ⟨q0, q1, q2⟩ := HQ1.out.1.cell
  rw [← HW1.out] at q0 q1 q2
  go_wp2_with fail
  rw [HW1.out]
  refine (lof_any n t R _).mono ?_
  rintro e w2 ⟨rfl, hb2⟩
  have HQ2 : Hid (BxAt w2 w.heap.size n t R ∧ Below w.heap.size w w2 ∧ FtAt w2 w1.heap.size E1 P1) := ⟨HQ1.out.1.below hb2, below_then HQ1.out.2.1 hb2, HQ1.out.2.2.below hb2⟩
  clear hb2 q0 q1 q2
  go_wp2_with fail
  refine (rbcheck_yes n t R _ H.out).mono ?_
  rintro e w3 ⟨rfl, hb⟩
  have HQ3 : Hid (BxAt w3 w.heap.size n t R ∧ Below w.heap.size w w3 ∧ FtAt w3 w1.heap.size E1 P1) := ⟨HQ2.out.1.below hb, below_then HQ2.out.2.1 hb, HQ2.out.2.2.below hb⟩
  clear hb
  obtain ⟨q0, q1, q2⟩ := HQ3.out.1.cell
  obtain ⟨r0, r1, _, _⟩ := HQ3.out.2.2.cell
  go_wp2_with fail
  rw [← HN.out]
  refine (one_nol n t R E x cap xs _ H.out H2.out HO.out (HL.out.below HQ3.out.2.1) (HI.out.below HQ3.out.2.1) HM.out).mono ?_
  rw [HEP.out]
  rintro e w5 ⟨t', u', rfl, he, hb⟩
  have HE5 : Hid (ErrIs w5 (.iface t' u') E1 P1) := he
  clear he
  rw [HN.out]
  have HB5 : Hid (Below w.heap.size w w5) := below_then HQ3.out.2.1 hb
  obtain ⟨s0, s1, _, _⟩ := (HQ3.out.2.2.below hb : FtAt w5 w1.heap.size E1 P1).cell
  clear hb
  go_wp2_with fail
  refine (at_true (E := E1) (P := P1) _ HE5.out (HL.out.below HB5.out)).mono ?_
  rintro e w6 ⟨rfl, hb⟩
  have HB6 : Hid (Below w.heap.size w w6) := below_then HB5.out hb
  clear hb
  go_wp2_with fail
  refine (sameI_any none none 0 0 0 (fun _ => 0) _ (Nat.zero_le _) (RowIO.nil _ _ _) (RowIO.nil _ _ _)).mono ?_
  rintro e w7 ⟨rfl, q, rfl⟩
  go_wp2
  go_ret
  exact ⟨rfl, below_drewN HB6.out _⟩

set_option maxRecDepth 100000 in
set_option maxHeartbeats 4000000 in
theorem bone_yes (n t R E : Int) (x : Option Addr) (cap : Nat) (xs : List It) (w : World) (hm : xs.length ≤ maxLen) (h : ¬ ((40 < xs.length ∧ xs.length ≤ 100) ∨ 150 < xs.length)) (hb : okB n t R) (he : 0 ≤ E ∧ E ≤ 1000000) (hl : okL xs) (hL : Laid w) (hF : FineLaid w) (hI : ItemsAt w x xs) :
    Calls Tryz.prog 5 #[.agg #[.int .i64 n, .int .i64 t, .int .i64 R], .int .i64 E, .slice x xs.length cap] w fun e w' => e = .returned (.bool true) ∧ Below w.heap.size w w' := by
  obtain ⟨E1, P1, hEP, hwr⟩ := wrong_at n t R x cap xs w hF hI hm
  have HM : Hid (xs.length ≤ maxLen) := hm
  have HD : Hid (decide ((40 < xs.length ∧ xs.length ≤ 100) ∨ 150 < xs.length) = false) := by simpa [Hid] using h
  have HL : Hid (Laid w) := hL
  have HI : Hid (ItemsAt w x xs) := hI
  have HWR : Hid (∀ W : World, Below w.heap.size w W → Calls Tryz.prog 8 #[.agg #[.int .i64 n, .int .i64 t, .int .i64 R], .slice x xs.length cap] W fun e w' => e = .returned (.agg #[.int .i64 E1, .int .i64 P1]) ∧ Below W.heap.size W w') := hwr
  obtain ⟨W0, HW0⟩ : ∃ W0, Hid (w.alloc (.cells #[.int .i64 n, .int .i64 t, .int .i64 R] 25) = W0) := ⟨_, rfl⟩
  have HBX : Hid (BxAt W0 w.heap.size n t R ∧ Below w.heap.size w W0) := by
    show _ ∧ _
    rw [← HW0.out]
    exact ⟨heap_alloc_new _ _, (Below.refl _ _).alloc (Nat.le_refl _) _⟩
  have H : Hid (okB n t R) := hb
  have H2 : Hid (okB n t E) := (okB_ex hb).2 he
  have HE : Hid (0 ≤ E ∧ E ≤ 1000000) := he
  have HO : Hid (okL xs) := hl
  have he0 : ¬ E < 0 := by omega
  have he1 : ¬ 1000000 < E := by omega
  have HEP : Hid (E1 = 0 ∧ P1 = -1) := by
    rcases hEP with ⟨_, h⟩ | ⟨h, _⟩
    · rw [okL_at hl] at h
      exact ⟨(Prod.mk.inj h).1.symm, (Prod.mk.inj h).2.symm⟩
    · exact absurd hb h
  clear hb hl hEP he
  clear h hm hL hF hI hwr
  obtain ⟨len, hlen⟩ : ∃ len, xs.length = len := ⟨_, rfl⟩
  have HN : Hid (xs.length = len) := hlen
  rw [hlen]
  rw [hlen] at HWR
  clear hlen
  go_enter Tryz.func5, Tryz.ntmps5
  go_wp2_with fail
  refine (many_any x len cap _ (HN.out ▸ HM.out)).mono ?_
  rw [← HN.out, HD.out]
  rintro e w1 ⟨rfl, rfl⟩
  rw [HN.out, HW0.out]
  obtain ⟨p0, p1, p2⟩ := HBX.out.1.cell
  go_wp2_with fail
  refine (HWR.out W0 HBX.out.2).mono ?_
  rintro e w1 ⟨rfl, hb1⟩
  obtain ⟨W1, HW1⟩ : ∃ W1, Hid (w1.alloc (.cells #[.int .i64 E1, .int .i64 P1] 30) = W1) := ⟨_, rfl⟩
  have HA1 : Hid (Below w1.heap.size w1 W1) := by show Below _ _ _; rw [← HW1.out]; exact (Below.refl _ _).alloc (Nat.le_refl _) _
  have HQ1 : Hid (BxAt W1 w.heap.size n t R ∧ Below w.heap.size w W1 ∧ FtAt W1 w1.heap.size E1 P1) := by
    refine ⟨(HBX.out.1.below hb1).below HA1.out, below_then (below_then HBX.out.2 hb1) HA1.out, ?_⟩
    rw [← HW1.out]
    exact heap_alloc_new _ _
  have HSZ : Hid (w.heap.size < w1.heap.size) := Nat.lt_of_lt_of_le (lt_of_block HBX.out.1) hb1.size
  clear hb1 p0 p1 p2
  obtain ⟨q0, q1, q2⟩ := HQ1.out.1.cell
  rw [← HW1.out] at q0 q1 q2
  go_wp2_with fail
  rw [HW1.out]
  refine (lof_any n t R _).mono ?_
  rintro e w2 ⟨rfl, hb2⟩
  have HQ2 : Hid (BxAt w2 w.heap.size n t R ∧ Below w.heap.size w w2 ∧ FtAt w2 w1.heap.size E1 P1) := ⟨HQ1.out.1.below hb2, below_then HQ1.out.2.1 hb2, HQ1.out.2.2.below hb2⟩
  clear hb2 q0 q1 q2
  go_wp2_with fail
  refine (rbcheck_yes n t R _ H.out).mono ?_
  rintro e w3 ⟨rfl, hb⟩
  have HQ3 : Hid (BxAt w3 w.heap.size n t R ∧ Below w.heap.size w w3 ∧ FtAt w3 w1.heap.size E1 P1) := ⟨HQ2.out.1.below hb, below_then HQ2.out.2.1 hb, HQ2.out.2.2.below hb⟩
  clear hb
  obtain ⟨rfl, rfl⟩ := HEP.out
  obtain ⟨q0, q1, q2⟩ := HQ3.out.1.cell
  obtain ⟨r0, r1, _, _⟩ := HQ3.out.2.2.cell
  go_wp2_with fail
  refine (lof_any n t R _).mono ?_
  rintro e w4 ⟨rfl, hb4⟩
  have HQ4 : Hid (BxAt w4 w.heap.size n t R ∧ Below w.heap.size w w4 ∧ FtAt w4 w1.heap.size 0 (-1)) := ⟨HQ3.out.1.below hb4, below_then HQ3.out.2.1 hb4, HQ3.out.2.2.below hb4⟩
  clear hb4 q0 q1 q2 r0 r1
  go_wp2_with fail
  rw [← HN.out]
  refine (rone_any n t R E x cap xs _ H.out HE.out HO.out (HI.out.below HQ4.out.2.1)).mono ?_
  rintro e w5 ⟨v5, rfl, hv5, hb5⟩
  rw [HN.out] at hv5 ⊢
  obtain ⟨y5, c5, rfl, hr5⟩ := its_rowO hv5
  have HR5 : Hid (RowIO w5 y5 len (col n t R E xs)) := hr5
  have HQ5 : Hid (BxAt w5 w.heap.size n t R ∧ Below w.heap.size w w5 ∧ FtAt w5 w1.heap.size 0 (-1)) := ⟨HQ4.out.1.below hb5, below_then HQ4.out.2.1 hb5, HQ4.out.2.2.below hb5⟩
  clear hv5 hr5 hb5
  obtain ⟨q0, q1, q2⟩ := HQ5.out.1.cell
  go_wp2_with fail
  rw [← HN.out]
  refine (one_yes n t R E x cap xs _ H.out H2.out HO.out (HL.out.below HQ5.out.2.1) (HI.out.below HQ5.out.2.1)).mono ?_
  rintro e w6 ⟨g6, rfl, _, hr6, hb6⟩
  rw [HN.out] at hr6 ⊢
  have HR6 : Hid (RowIO w6 (some ⟨g6, 0, none⟩) len (col n t R E xs) ∧ RowIO w6 y5 len (col n t R E xs)) := ⟨RowIO.of hr6, HR5.out.below hb6⟩
  have HB6 : Hid (Below w.heap.size w w6) := below_then HQ5.out.2.1 hb6
  obtain ⟨s0, s1, _, _⟩ := (HQ5.out.2.2.below hb6 : FtAt w6 w1.heap.size 0 (-1)).cell
  clear hb6 hr6
  go_wp2_with fail
  refine (at_true _ (Or.inl ⟨rfl, rfl, rfl⟩) (HL.out.below HB6.out)).mono ?_
  rintro e w7 ⟨rfl, hb7⟩
  have HB7 : Hid (Below w.heap.size w w7) := below_then HB6.out hb7
  have HR7 : Hid (RowIO w7 (some ⟨g6, 0, none⟩) len (col n t R E xs) ∧ RowIO w7 y5 len (col n t R E xs)) := ⟨HR6.out.1.below hb7, HR6.out.2.below hb7⟩
  clear hb7
  go_wp2_with fail
  refine (sameI_any _ _ _ _ len (col n t R E xs) _ (HN.out ▸ HM.out) HR7.out.1 HR7.out.2).mono ?_
  rintro e w8 ⟨rfl, q, rfl⟩
  go_wp2
  go_ret
  exact ⟨rfl, below_drewN HB7.out _⟩

theorem bone_any (n t R E : Int) (x : Option Addr) (cap : Nat) (xs : List It) (w : World) (hL : Laid w) (hF : FineLaid w) (hI : ItemsAt w x xs) (hm : xs.length ≤ maxLen) :
    Calls Tryz.prog 5 #[.agg #[.int .i64 n, .int .i64 t, .int .i64 R], .int .i64 E, .slice x xs.length cap] w fun e w' => e = .returned (.bool true) ∧ Below w.heap.size w w' := by
  by_cases h : (40 < xs.length ∧ xs.length ≤ 100) ∨ 150 < xs.length
  · exact bone_many n t R E x _ cap w hm h
  · by_cases hb : okB n t R
    · by_cases e0 : E < 0
      · exact bone_low n t R E x cap xs w hm h hb e0 hL hF hI
      by_cases e1 : 1000000 < E
      · exact bone_high n t R E x cap xs w hm h hb e1 hL hF hI
      by_cases hl : okL xs
      · exact bone_yes n t R E x cap xs w hm h hb ⟨by omega, by omega⟩ hl hL hF hI
      · exact bone_nol n t R E x cap xs w hm h hb ⟨by omega, by omega⟩ hl hL hF hI
    · exact bone_nob n t R E x cap xs w hm h hb hL hF hI
end Go.Proofs.YtdaapdpbnijefaaGreatDoor
