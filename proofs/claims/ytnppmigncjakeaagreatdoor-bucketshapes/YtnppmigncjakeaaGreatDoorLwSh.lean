/-
  millracelaw.BucketShapes is true at every bucket and every packets; nothing that was there before is otherwise. Conditions: errors.errorType and millraceref.Fine hold what the program's text lays; the packets lie in memory.
-/
import Derived.Test.YtnppmigncjakeaaGreatDoorLwWr
import Derived.Test.YtnppmigncjakeaaGreatDoorSh2
namespace Go.Proofs.YtnppmigncjakeaaGreatDoor
open Go.RowKit Go.Extern.Stop Go.Stop Go.Extern

/-- Ints in memory, or none. -/
def RowIO (w : World) (x : Option Addr) (n : Nat) (r : Nat → Int) : Prop := ∀ j, j < n → ∃ b, x = some ⟨b, 0, none⟩ ∧ w.cell? ⟨b, j, none⟩ = some (.int .i64 (r j))
theorem RowIO.of {w : World} {g n : Nat} {r : Nat → Int} (h : RowI w g n r) : RowIO w (some ⟨g, 0, none⟩) n r := fun j hj => ⟨g, rfl, h j hj⟩
theorem RowIO.nil (w : World) (x : Option Addr) (r : Nat → Int) : RowIO w x 0 r := fun j hj => absurd hj (Nat.not_lt_zero j)
theorem RowIO.below {w w' : World} {x : Option Addr} {n : Nat} {r : Nat → Int} (h : RowIO w x n r) (hb : Below w.heap.size w w') : RowIO w' x n r := fun j hj => by
  obtain ⟨b, e, hc⟩ := h j hj
  exact ⟨b, e, cell_below hb hc⟩
theorem sameI_any (x y : Option Addr) (cx cy n : Nat) (f : Nat → Int) (w : World) (hm : n ≤ maxLen) (hx : RowIO w x n f) (hy : RowIO w y n f) :
    Calls Tryz.prog 16 #[.slice x n cx, .slice y n cy] w fun e w' => e = .returned (.bool true) ∧ ∃ q, w' = w.drewN q := by
  unfold maxLen at hm
  have HX : Hid (RowIO w x n f) := hx
  have HY : Hid (RowIO w y n f) := hy
  clear hx hy
  go_enter Tryz.func16, Tryz.ntmps16
  go_wp2
  go_loopw [5] (fun i wr => ∃ k : Nat, k ≤ n ∧ i = .int .i64 k ∧ ∃ q, wr = w.drewN q) (fun i _ => n - (intOf i).toNat)
  case atStart => exact ⟨0, Nat.zero_le _, rfl, 0, rfl⟩
  case round =>
    obtain ⟨k, hk, rfl, q, rfl⟩ := hrel
    by_cases hlt : k < n
    · obtain ⟨b, rfl, c0⟩ := HX.out k hlt
      obtain ⟨b', rfl, c1⟩ := HY.out k hlt
      have d0 : w.cell? ⟨b, 0 + k, none⟩ = some (.int .i64 (f k)) := by simpa using c0
      have d1 : w.cell? ⟨b', 0 + k, none⟩ = some (.int .i64 (f k)) := by simpa using c1
      generalize f k = u at *
      go_wp2
      go_quiet (fail)
      go_wp2
      go_roundw
      case rel => exact ⟨k + 1, by omega, by go_num, _, rfl⟩
      case measure => simp [intOf]; omega
    · go_wp2
      go_ret
      exact ⟨rfl, _, rfl⟩
theorem go_row {w : World} {v : Value} {n t R : Int} {xs : List It} {m : Nat} (h : Its w v (goL n t R xs m)) : ∃ y cap, v = .slice y m cap ∧ RowIO w y m (goes n t R xs) := by
  obtain ⟨y, cap, e⟩ := Prw.slice h
  rw [List.length_map, goL_length] at e
  refine ⟨y, cap, e, fun j hj => ?_⟩
  obtain ⟨g, cap', e', hc⟩ := Prw.at h (j := j) (u := .int .i64 (goes n t R xs j)) (by simp [goL, hj])
  rw [e] at e'
  simp only [Value.slice.injEq] at e'
  exact ⟨g, e'.1, hc⟩
theorem owns_rowIO {w : World} {B m : Nat} {v : Value} {r : Nat → Int} (h : w.ownsRow B 3 1 v m (toldI r m)) : ∃ y cap, v = .slice y m cap ∧ RowIO w y m r := by
  have h' := h
  rcases h.2 with ⟨rfl, h0⟩ | ⟨g, cap, cur, rfl, _⟩
  · subst h0; exact ⟨none, 0, rfl, RowIO.nil _ _ _⟩
  · exact ⟨_, _, rfl, RowIO.of (rowI_of_owns h')⟩
theorem heap_set_at {w : World} {b o : Nat} {cur : Array Value} {e : TypeId} {fr : Nat × Nat} (h : w.heap[b]? = some (.cells cur e fr)) (u : Value) : (w.setCell ⟨b, o, none⟩ u).heap[b]? = some (.cells (cur.setIfInBounds o u) e fr) := by
  have hlt := lt_of_block h
  have h' : w.heap[b] = .cells cur e fr := by simpa [Array.getElem?_eq_getElem hlt] using h
  show (w.heap.modify b _)[b]? = _
  rw [Array.getElem?_eq_getElem (by simpa using hlt), Array.getElem_modify_self, h']
  rfl
set_option maxHeartbeats 1000000 in
theorem bshape_many (n t R : Int) (x : Option Addr) (len cap : Nat) (w : World) (hm : len ≤ maxLen) (h : (40 < len ∧ len ≤ 100) ∨ 150 < len) :
    Calls Tryz.prog 4 #[.agg #[.int .i64 n, .int .i64 t, .int .i64 R], .slice x len cap] w fun e w' => e = .returned (.bool true) ∧ Below w.heap.size w w' := by
  have HM : Hid (len ≤ maxLen) := hm
  have HD : Hid (decide ((40 < len ∧ len ≤ 100) ∨ 150 < len) = true) := by simpa [Hid] using h
  clear h hm
  go_enter Tryz.func4, Tryz.ntmps4
  go_wp2_with fail
  refine (many_any x len cap _ HM.out).mono ?_
  rw [HD.out]
  rintro e w1 ⟨rfl, rfl⟩
  go_wp2
  go_ret
  exact ⟨rfl, (Below.refl _ _).alloc (Nat.le_refl _) _⟩

set_option maxHeartbeats 2000000 in
theorem bshape_nob (n t R : Int) (x : Option Addr) (len cap : Nat) (w : World) (hm : len ≤ maxLen) (h : ¬ ((40 < len ∧ len ≤ 100) ∨ 150 < len)) (hb : ¬ okB n t R) (hL : Laid w) :
    Calls Tryz.prog 4 #[.agg #[.int .i64 n, .int .i64 t, .int .i64 R], .slice x len cap] w fun e w' => e = .returned (.bool true) ∧ Below w.heap.size w w' := by
  have HM : Hid (len ≤ maxLen) := hm
  have HD : Hid (decide ((40 < len ∧ len ≤ 100) ∨ 150 < len) = false) := by simpa [Hid] using h
  have H : Hid (¬ okB n t R) := hb
  have HL : Hid (Laid w) := hL
  have HB0 : Hid (Below w.heap.size w (w.alloc (.cells #[.int .i64 n, .int .i64 t, .int .i64 R] 25))) := (Below.refl _ _).alloc (Nat.le_refl _) _
  have HC0 : Hid ((w.alloc (.cells #[.int .i64 n, .int .i64 t, .int .i64 R] 25)).heap[w.heap.size]? = some (.cells #[.int .i64 n, .int .i64 t, .int .i64 R] 25 (0, 0))) := heap_alloc_new _ _
  clear h hm hb hL
  go_enter Tryz.func4, Tryz.ntmps4
  go_wp2_with fail
  refine (many_any x len cap _ HM.out).mono ?_
  rw [HD.out]
  rintro e w1 ⟨rfl, rfl⟩
  go_wp2_with fail
  refine (wrong_nob n t R _ _ H.out).mono ?_
  rintro e w1 ⟨rfl, hb1⟩
  have HB1 : Hid (Below w.heap.size w w1) := HB0.out.trans (hb1.mono HB0.out.size)
  have hc1 : w1.heap[w.heap.size]? = some (.cells #[.int .i64 n, .int .i64 t, .int .i64 R] 25 (0, 0)) := (hb1.block _ (by simp)).trans HC0.out
  have g0 : (w1.alloc (.cells #[.int .i64 2, .int .i64 (-1)] 30)).cell? ⟨w.heap.size, 0, none⟩ = some (.int .i64 n) := cell_kept _ (by simp [World.cell?, hc1])
  have g1 : (w1.alloc (.cells #[.int .i64 2, .int .i64 (-1)] 30)).cell? ⟨w.heap.size, 1, none⟩ = some (.int .i64 t) := cell_kept _ (by simp [World.cell?, hc1])
  have g2 : (w1.alloc (.cells #[.int .i64 2, .int .i64 (-1)] 30)).cell? ⟨w.heap.size, 2, none⟩ = some (.int .i64 R) := cell_kept _ (by simp [World.cell?, hc1])
  clear hb1 hc1
  go_wp2_with fail
  refine (shape_nob n t R _ _ H.out).mono ?_
  rintro e w2 ⟨rfl, hb2⟩
  have hc2 : w2.cell? ⟨w1.heap.size, 0, none⟩ = some (.int .i64 2) := by rw [hb2.cell (by simp)]; simp [go_sem]
  have hc3 : w2.cell? ⟨w1.heap.size, 1, none⟩ = some (.int .i64 (-1)) := by rw [hb2.cell (by simp)]; simp [go_sem]
  have hA1 : Below w.heap.size w (w1.alloc (.cells #[.int .i64 2, .int .i64 (-1)] 30)) := HB1.out.trans ((Below.refl _ _).alloc HB1.out.size _)
  have HB2 : Hid (Below w.heap.size w w2) := hA1.trans (hb2.mono hA1.size)
  clear hb2 hA1
  go_wp2_with fail
  refine (at_true (E := 2) (P := -1) _ (Or.inr (Or.inl ⟨rfl, by decide, rfl⟩)) (HL.out.below HB2.out)).mono ?_
  rintro e w3 ⟨rfl, hb3⟩
  have HB3 : Hid (Below w.heap.size w w3) := HB2.out.trans (hb3.mono HB2.out.size)
  clear hb3
  go_wp2_with fail
  refine (sameI_any none none 0 0 0 (fun _ => 0) _ (Nat.zero_le _) (RowIO.nil _ _ _) (RowIO.nil _ _ _)).mono ?_
  rintro e w4 ⟨rfl, q, rfl⟩
  go_wp2
  go_ret
  exact ⟨rfl, below_drewN HB3.out _⟩

set_option maxHeartbeats 2000000 in
theorem bshape_nol (n t R : Int) (x : Option Addr) (cap : Nat) (xs : List It) (w : World) (hm : xs.length ≤ maxLen) (h : ¬ ((40 < xs.length ∧ xs.length ≤ 100) ∨ 150 < xs.length)) (hb : okB n t R) (hl : ¬ okL xs) (hL : Laid w) (hF : FineLaid w) (hI : ItemsAt w x xs) :
    Calls Tryz.prog 4 #[.agg #[.int .i64 n, .int .i64 t, .int .i64 R], .slice x xs.length cap] w fun e w' => e = .returned (.bool true) ∧ Below w.heap.size w w' := by
  have HM : Hid (xs.length ≤ maxLen) := hm
  have HD : Hid (decide ((40 < xs.length ∧ xs.length ≤ 100) ∨ 150 < xs.length) = false) := by simpa [Hid] using h
  have H : Hid (okB n t R) := hb
  have HO : Hid (¬ okL xs) := hl
  have HL : Hid (Laid w) := hL
  have HF : Hid (FineLaid w) := hF
  have HI : Hid (ItemsAt w x xs) := hI
  have HB0 : Hid (Below w.heap.size w (w.alloc (.cells #[.int .i64 n, .int .i64 t, .int .i64 R] 25))) := (Below.refl _ _).alloc (Nat.le_refl _) _
  have HC0 : Hid ((w.alloc (.cells #[.int .i64 n, .int .i64 t, .int .i64 R] 25)).heap[w.heap.size]? = some (.cells #[.int .i64 n, .int .i64 t, .int .i64 R] 25 (0, 0))) := heap_alloc_new _ _
  obtain ⟨E, P, hEE⟩ : ∃ E P, listE xs = (E, P) := ⟨_, _, rfl⟩
  have HEE : Hid (listE xs = (E, P)) := hEE
  have hE0 : E ≠ 0 := fun h0 => hl (by unfold okL; rw [hEE]; exact h0)
  clear hEE
  clear h hm hb hl hL hF hI
  obtain ⟨len, hlen⟩ : ∃ len, xs.length = len := ⟨_, rfl⟩
  have HN : Hid (xs.length = len) := hlen
  rw [hlen]
  clear hlen
  go_enter Tryz.func4, Tryz.ntmps4
  go_wp2_with fail
  refine (many_any x len cap _ (HN.out ▸ HM.out)).mono ?_
  rw [← HN.out, HD.out]
  rintro e w1 ⟨rfl, rfl⟩
  rw [HN.out]
  go_wp2_with fail
  rw [← HN.out]
  refine (wrong_list n t R x cap xs _ H.out (HF.out.below HB0.out) (HI.out.below HB0.out) HM.out).mono ?_
  rw [HEE.out]
  rintro e w1 ⟨rfl, hb1⟩
  rw [HN.out]
  have HB1 : Hid (Below w.heap.size w w1) := HB0.out.trans (hb1.mono HB0.out.size)
  have HA1 : Hid (Below w1.heap.size w1 (w1.alloc (.cells #[.int .i64 E, .int .i64 P] 30))) := (Below.refl _ _).alloc (Nat.le_refl _) _
  have hc1 : w1.heap[w.heap.size]? = some (.cells #[.int .i64 n, .int .i64 t, .int .i64 R] 25 (0, 0)) := (hb1.block _ (by simp)).trans HC0.out
  have g0 : (w1.alloc (.cells #[.int .i64 E, .int .i64 P] 30)).cell? ⟨w.heap.size, 0, none⟩ = some (.int .i64 n) := cell_kept _ (by simp [World.cell?, hc1])
  have g1 : (w1.alloc (.cells #[.int .i64 E, .int .i64 P] 30)).cell? ⟨w.heap.size, 1, none⟩ = some (.int .i64 t) := cell_kept _ (by simp [World.cell?, hc1])
  have g2 : (w1.alloc (.cells #[.int .i64 E, .int .i64 P] 30)).cell? ⟨w.heap.size, 2, none⟩ = some (.int .i64 R) := cell_kept _ (by simp [World.cell?, hc1])
  clear hb1 hc1
  go_wp2_with fail
  rw [← HN.out]
  refine (shape_nol n t R x cap xs _ H.out HO.out (HL.out.below (HB1.out.trans (HA1.out.mono HB1.out.size))) (HI.out.below (HB1.out.trans (HA1.out.mono HB1.out.size))) HM.out).mono ?_
  rw [HEE.out]
  rintro e w2 ⟨t', u', rfl, he2, hb2⟩
  rw [HN.out]
  have HE2 : Hid (ErrIs w2 (.iface t' u') E P) := he2
  have hc2 : w2.cell? ⟨w1.heap.size, 0, none⟩ = some (.int .i64 E) := by rw [hb2.cell (by simp)]; simp [go_sem]
  have hc3 : w2.cell? ⟨w1.heap.size, 1, none⟩ = some (.int .i64 P) := by rw [hb2.cell (by simp)]; simp [go_sem]
  have HB2 : Hid (Below w.heap.size w w2) := (HB1.out.trans (HA1.out.mono HB1.out.size)).trans (hb2.mono (HB1.out.trans (HA1.out.mono HB1.out.size)).size)
  clear hb2 he2
  go_wp2_with fail
  refine (at_true _ HE2.out (HL.out.below HB2.out)).mono ?_
  rintro e w3 ⟨rfl, hb3⟩
  have HB3 : Hid (Below w.heap.size w w3) := HB2.out.trans (hb3.mono HB2.out.size)
  clear hb3
  go_wp2_with fail
  refine (sameI_any none none 0 0 0 (fun _ => 0) _ (Nat.zero_le _) (RowIO.nil _ _ _) (RowIO.nil _ _ _)).mono ?_
  rintro e w4 ⟨rfl, q, rfl⟩
  go_wp2
  go_ret
  exact ⟨rfl, below_drewN HB3.out _⟩

set_option maxHeartbeats 2000000 in
theorem bshape_yes (n t R : Int) (x : Option Addr) (cap : Nat) (xs : List It) (w : World) (hm : xs.length ≤ maxLen) (h : ¬ ((40 < xs.length ∧ xs.length ≤ 100) ∨ 150 < xs.length)) (hb : okB n t R) (hl : okL xs) (hL : Laid w) (hF : FineLaid w) (hI : ItemsAt w x xs) :
    Calls Tryz.prog 4 #[.agg #[.int .i64 n, .int .i64 t, .int .i64 R], .slice x xs.length cap] w fun e w' => e = .returned (.bool true) ∧ Below w.heap.size w w' := by
  have HM : Hid (xs.length ≤ maxLen) := hm
  have HD : Hid (decide ((40 < xs.length ∧ xs.length ≤ 100) ∨ 150 < xs.length) = false) := by simpa [Hid] using h
  have H : Hid (okB n t R) := hb
  have HO : Hid (okL xs) := hl
  have HL : Hid (Laid w) := hL
  have HF : Hid (FineLaid w) := hF
  have HI : Hid (ItemsAt w x xs) := hI
  have HB0 : Hid (Below w.heap.size w (w.alloc (.cells #[.int .i64 n, .int .i64 t, .int .i64 R] 25))) := (Below.refl _ _).alloc (Nat.le_refl _) _
  have HC0 : Hid ((w.alloc (.cells #[.int .i64 n, .int .i64 t, .int .i64 R] 25)).heap[w.heap.size]? = some (.cells #[.int .i64 n, .int .i64 t, .int .i64 R] 25 (0, 0))) := heap_alloc_new _ _
  have HEE : Hid (listE xs = (0, -1)) := okL_at hl
  clear h hm hb hl hL hF hI
  obtain ⟨len, hlen⟩ : ∃ len, xs.length = len := ⟨_, rfl⟩
  have HN : Hid (xs.length = len) := hlen
  rw [hlen]
  clear hlen
  go_enter Tryz.func4, Tryz.ntmps4
  go_wp2_with fail
  refine (many_any x len cap _ (HN.out ▸ HM.out)).mono ?_
  rw [← HN.out, HD.out]
  rintro e w1 ⟨rfl, rfl⟩
  rw [HN.out]
  go_wp2_with fail
  rw [← HN.out]
  refine (wrong_list n t R x cap xs _ H.out (HF.out.below HB0.out) (HI.out.below HB0.out) HM.out).mono ?_
  rw [HEE.out]
  rintro e w1 ⟨rfl, hb1⟩
  rw [HN.out]
  have HB1 : Hid (Below w.heap.size w w1) := HB0.out.trans (hb1.mono HB0.out.size)
  have HB0L : Hid (w.heap.size < w1.heap.size) := by have := hb1.size; simp at this; show _ < _; omega
  have HA1 : Hid (Below w1.heap.size w1 (w1.alloc (.cells #[.int .i64 0, .int .i64 (-1)] 30))) := (Below.refl _ _).alloc (Nat.le_refl _) _
  have hc1 : w1.heap[w.heap.size]? = some (.cells #[.int .i64 n, .int .i64 t, .int .i64 R] 25 (0, 0)) := (hb1.block _ (by simp)).trans HC0.out
  have g0 : (w1.alloc (.cells #[.int .i64 0, .int .i64 (-1)] 30)).cell? ⟨w.heap.size, 0, none⟩ = some (.int .i64 n) := cell_kept _ (by simp [World.cell?, hc1])
  have g1 : (w1.alloc (.cells #[.int .i64 0, .int .i64 (-1)] 30)).cell? ⟨w.heap.size, 1, none⟩ = some (.int .i64 t) := cell_kept _ (by simp [World.cell?, hc1])
  have g2 : (w1.alloc (.cells #[.int .i64 0, .int .i64 (-1)] 30)).cell? ⟨w.heap.size, 2, none⟩ = some (.int .i64 R) := cell_kept _ (by simp [World.cell?, hc1])
  clear hb1 hc1
  have HBA : Hid (Below w.heap.size w (w1.alloc (.cells #[.int .i64 0, .int .i64 (-1)] 30))) := HB1.out.trans (HA1.out.mono HB1.out.size)
  go_wp2_with fail
  refine (lof_any n t R _).mono ?_
  rintro e w2 ⟨rfl, hb2⟩
  have HB2 : Hid (Below w.heap.size w w2) := HBA.out.trans (hb2.mono HBA.out.size)
  go_wp2_with fail
  rw [← HN.out]
  refine (rshape_any n t R x cap xs _ H.out HO.out (HI.out.below HB2.out)).mono ?_
  rintro e w3 ⟨hr, hb3⟩
  have HB3 : Hid (Below w.heap.size w w3) := HB2.out.trans (hb3.mono HB2.out.size)
  have HA3 : Hid (Below (w1.alloc (.cells #[.int .i64 0, .int .i64 (-1)] 30)).heap.size (w1.alloc (.cells #[.int .i64 0, .int .i64 (-1)] 30)) w3) := hb2.trans (hb3.mono hb2.size)
  have k0 := cell_below HA3.out g0
  have k1 := cell_below HA3.out g1
  have k2 := cell_below HA3.out g2
  have hf3 : w3.heap[w1.heap.size]? = some (.cells #[.int .i64 0, .int .i64 (-1)] 30 (0, 0)) := (HA3.out.block _ (by simp)).trans (heap_alloc_new _ _)
  have HF3 : Hid (w3.heap[w1.heap.size]? = some (.cells #[.int .i64 0, .int .i64 (-1)] 30 (0, 0))) := hf3
  clear hb2 hb3 hf3
  rcases hr with ⟨v3, rfl, hG, hv3⟩ | ⟨rfl, hG⟩
  · have HG : Hid (Goes n t R xs xs.length) := hG
    rw [HN.out] at hv3 ⊢
    obtain ⟨y3, c3, rfl, hr3⟩ := go_row hv3
    have HR3 : Hid (RowIO w3 y3 len (goes n t R xs)) := hr3
    clear hv3 hr3 hG
    go_wp2_with fail
    rw [← HN.out]
    refine (shape_ok n t R x cap xs _ H.out HO.out (HL.out.below HB3.out) (HI.out.below HB3.out)).mono ?_
    rintro e w4 ⟨hq, hb4⟩
    rcases hq with ⟨v4, rfl, _, hr4⟩ | ⟨_, hn⟩
    · rw [HN.out] at hr4 ⊢
      obtain ⟨y4, c4, rfl, hr44⟩ := owns_rowIO hr4
      have HR4 : Hid (RowIO w4 y4 len (goes n t R xs)) := hr44
      have HR5 : Hid (RowIO w4 y3 len (goes n t R xs)) := HR3.out.below hb4
      have HB4 : Hid (Below w.heap.size w w4) := HB3.out.trans (hb4.mono HB3.out.size)
      have hf4 : w4.heap[w1.heap.size]? = some (.cells #[.int .i64 0, .int .i64 (-1)] 30 (0, 0)) := (hb4.block _ (lt_of_block HF3.out)).trans HF3.out
      have hc2 : w4.cell? ⟨w1.heap.size, 0, none⟩ = some (.int .i64 0) := by simp [World.cell?, hf4]
      have hc3 : w4.cell? ⟨w1.heap.size, 1, none⟩ = some (.int .i64 (-1)) := by simp [World.cell?, hf4]
      clear hb4 hr4 hr44 hf4
      go_wp2_with fail
      refine (at_true _ (Or.inl ⟨rfl, rfl, rfl⟩) (HL.out.below HB4.out)).mono ?_
      rintro e w5 ⟨rfl, hb5⟩
      have HB5 : Hid (Below w.heap.size w w5) := HB4.out.trans (hb5.mono HB4.out.size)
      have HR6 : Hid (RowIO w5 y4 len (goes n t R xs)) := HR4.out.below hb5
      have HR7 : Hid (RowIO w5 y3 len (goes n t R xs)) := HR5.out.below hb5
      clear hb5
      go_wp2_with fail
      refine (sameI_any _ _ _ _ len (goes n t R xs) _ (HN.out ▸ HM.out) HR6.out HR7.out).mono ?_
      rintro e w6 ⟨rfl, q, rfl⟩
      go_wp2
      go_ret
      exact ⟨rfl, below_drewN HB5.out _⟩
    · exact absurd HG.out hn
  · have HG : Hid (¬ Goes n t R xs xs.length) := hG
    clear hG
    have m0 : w3.cell? ⟨w1.heap.size, 0, none⟩ = some (.int .i64 0) := by simp [World.cell?, HF3.out]
    have m1 : w3.frozen? ⟨w1.heap.size, 0, none⟩ = false := by simp [World.frozen?, HF3.out]
    have hne : w.heap.size ≠ w1.heap.size := by have := HB1.out.size; have h1 := HN.out; intro e; have h2 := HB0L.out; omega
    rw [HN.out]
    go_wp2_with fail
    have HB3' : Hid (Below w.heap.size w (w3.setCell ⟨w1.heap.size, 0, none⟩ (.int .i64 12))) := HB3.out.setCell HB1.out.size _
    have HF4 : Hid ((w3.setCell ⟨w1.heap.size, 0, none⟩ (.int .i64 12)).heap[w1.heap.size]? = some (.cells #[.int .i64 12, .int .i64 (-1)] 30 (0, 0))) := by show _ = _; rw [heap_set_at HF3.out]; simp
    generalize w3.setCell ⟨w1.heap.size, 0, none⟩ (.int .i64 12) = w33 at *
    rw [← HN.out]
    refine (shape_ok n t R x cap xs _ H.out HO.out (HL.out.below HB3'.out) (HI.out.below HB3'.out)).mono ?_
    rintro e w4 ⟨hq, hb4⟩
    rcases hq with ⟨_, _, hgo, _⟩ | ⟨rfl, _⟩
    · exact absurd hgo HG.out
    · rw [HN.out]
      have HB4 : Hid (Below w.heap.size w w4) := HB3'.out.trans (hb4.mono HB3'.out.size)
      have hf4 : w4.heap[w1.heap.size]? = some (.cells #[.int .i64 12, .int .i64 (-1)] 30 (0, 0)) := (hb4.block _ (lt_of_block HF4.out)).trans HF4.out
      have hc2 : w4.cell? ⟨w1.heap.size, 0, none⟩ = some (.int .i64 12) := by simp [World.cell?, hf4]
      have hc3 : w4.cell? ⟨w1.heap.size, 1, none⟩ = some (.int .i64 (-1)) := by simp [World.cell?, hf4]
      clear hb4 hf4
      go_wp2_with fail
      refine (at_true (E := 12) (P := -1) _ (Or.inr (Or.inl ⟨rfl, by decide, rfl⟩)) (HL.out.below HB4.out)).mono ?_
      rintro e w5 ⟨rfl, hb5⟩
      have HB5 : Hid (Below w.heap.size w w5) := HB4.out.trans (hb5.mono HB4.out.size)
      clear hb5
      go_wp2_with fail
      refine (sameI_any none none 0 0 0 (fun _ => 0) _ (Nat.zero_le _) (RowIO.nil _ _ _) (RowIO.nil _ _ _)).mono ?_
      rintro e w6 ⟨rfl, q, rfl⟩
      go_wp2
      go_ret
      exact ⟨rfl, below_drewN HB5.out _⟩

theorem bshape_any (n t R : Int) (x : Option Addr) (cap : Nat) (xs : List It) (w : World) (hL : Laid w) (hF : FineLaid w) (hI : ItemsAt w x xs) (hm : xs.length ≤ maxLen) :
    Calls Tryz.prog 4 #[.agg #[.int .i64 n, .int .i64 t, .int .i64 R], .slice x xs.length cap] w fun e w' => e = .returned (.bool true) ∧ Below w.heap.size w w' := by
  by_cases h : (40 < xs.length ∧ xs.length ≤ 100) ∨ 150 < xs.length
  · exact bshape_many n t R x _ cap w hm h
  · by_cases hb : okB n t R
    · by_cases hl : okL xs
      · exact bshape_yes n t R x cap xs w hm h hb hl hL hF hI
      · exact bshape_nol n t R x cap xs w hm h hb hl hL hF hI
    · exact bshape_nob n t R x _ cap w hm h hb hL
end Go.Proofs.YtnppmigncjakeaaGreatDoor
