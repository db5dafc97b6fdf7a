/-
  millraceref's Filled: what lies in memory; lesser, sub, NewFilled: what each returns, and that nothing that was there before is otherwise. Conditions: numbers of at most thirty digits.
-/
import Derived.Test.YtnppmigncjakeaaGreatDoorRatR
import Derived.Test.YtnppmigncjakeaaGreatDoorPrw
import Derived.Test.YtnppmigncjakeaaGreatDoorBk1
namespace Go.Proofs.YtnppmigncjakeaaGreatDoor
open Go.RowKit Go.Deep

/-- A number or a pointer. -/
def isF (u : Value) : Prop := (∃ k, u = .int .i64 k) ∨ ∃ p, u = .pointer p
/-- A fraction stays where a block of numbers and pointers is written. -/
theorem FracR.oth {w w' : World} {b f : Nat} {P Q : Int} {cs : Array Value} {T : TypeId} (h : FracR w b P Q) (hf : w.heap[f]? = some (.cells cs T (0, 0))) (hk : ∀ (j : Nat) u, cs[j]? = some u → isF u) (ho : Oth (· = f) w w') : FracR w' b P Q := by
  obtain ⟨h0, a, c, h1, h2⟩ := h
  have hcell : ∀ {p : Addr} {u : Value}, w.cell? p = some u → p.block ≠ f → w'.cell? p = some u ∧ w'.frozen? p = w.frozen? p := by
    intro p u hc hne
    have hl := lt_of_cell hc
    have hb : w'.heap[p.block]? = w.heap[p.block]? := ho.block _ hl hne
    exact ⟨(World.cell?_of_block (w := w) hb).trans hc, World.frozen?_of_block (w := w) hb⟩
  have hother : ∀ {b o : Nat} {u : Value}, w.cell? ⟨b, o, none⟩ = some u → ¬ isF u → b ≠ f := by
    intro b o u hc hu he
    subst he
    simp only [World.cell?, hf] at hc
    exact hu (hk o u hc)
  have n32 : ∀ u, ¬ isF (.int .u32 u) := by rintro u (⟨k, h⟩ | ⟨p, h⟩) <;> simp at h
  have nsl : ∀ x n c, ¬ isF (.slice x n c) := by rintro x n c (⟨k, h⟩ | ⟨p, h⟩) <;> simp at h
  have hu32 : ∀ b o (u : Int), w.cell? ⟨b, o, none⟩ = some (.int .u32 u) → w'.cell? ⟨b, o, none⟩ = some (.int .u32 u) := fun b o u hc => (hcell hc (hother hc (n32 u))).1
  obtain ⟨⟨n0, vn, n1, n2⟩, ⟨d0, vd, d1, d2⟩, ⟨s0, s1, s2, s3⟩, ⟨t0, t1, t2, t3⟩⟩ := h1
  have hne : b ≠ f := by
    obtain ⟨x, k, cc, hx⟩ := s1
    exact hother hx (nsl _ _ _)
  refine ⟨h0, a, c, ⟨⟨(hcell n0 hne).1, vn, (hcell n1 hne).1, n2.cells hu32⟩, ⟨(hcell d0 hne).1, vd, (hcell d1 hne).1, d2.cells hu32⟩, ?_, ?_⟩, h2⟩
  · obtain ⟨q0, hq0⟩ := s0
    obtain ⟨x, k, cc, hx⟩ := s1
    exact ⟨⟨q0, (hcell hq0 hne).1⟩, ⟨x, k, cc, (hcell hx hne).1⟩, by rw [(hcell hq0 hne).2]; exact s2, by rw [(hcell hx hne).2]; exact s3⟩
  · obtain ⟨q0, hq0⟩ := t0
    obtain ⟨x, k, cc, hx⟩ := t1
    exact ⟨⟨q0, (hcell hq0 hne).1⟩, ⟨x, k, cc, (hcell hx hne).1⟩, by rw [(hcell hq0 hne).2]; exact t2, by rw [(hcell hx hne).2]; exact t3⟩

/-- In this block lies a Filled: its bucket, its latest time, the fraction lev/t that is in it. -/
def FilAt (w : World) (f : Nat) (n t R lev lat : Int) : Prop := ∃ p, w.heap[f]? = some (.cells #[.int .i64 n, .int .i64 t, .int .i64 R, .int .i64 lat, .pointer (some ⟨p, 0, none⟩)] 87 (0, 0)) ∧ FracR w p lev t
theorem fil_kind {n t R lat : Int} {p : Option Addr} (j : Nat) (u : Value) (h : (#[Value.int .i64 n, .int .i64 t, .int .i64 R, .int .i64 lat, .pointer p] : Array Value)[j]? = some u) : isF u := by
  rcases j with _ | _ | _ | _ | _ | j
  · simp at h; exact Or.inl ⟨_, h.symm⟩
  · simp at h; exact Or.inl ⟨_, h.symm⟩
  · simp at h; exact Or.inl ⟨_, h.symm⟩
  · simp at h; exact Or.inl ⟨_, h.symm⟩
  · simp at h; exact Or.inr ⟨_, h.symm⟩
  · simp at h
theorem FilAt.lt {w : World} {f : Nat} {n t R lev lat : Int} (h : FilAt w f n t R lev lat) : f < w.heap.size := by
  obtain ⟨p, h1, _⟩ := h
  exact lt_of_block h1
theorem FilAt.below {w w' : World} {f : Nat} {n t R lev lat : Int} (h : FilAt w f n t R lev lat) (hb : Below w.heap.size w w') : FilAt w' f n t R lev lat := by
  obtain ⟨p, h1, h2⟩ := h
  exact ⟨p, (hb.block _ (lt_of_block h1)).trans h1, h2.below hb⟩

set_option maxHeartbeats 1000000 in
theorem rSub_any (xb yb : Nat) (P Q R S : Int) (w : World) (hx : FracR w xb P Q) (hy : FracR w yb R S) (lP : P.natAbs ≤ 1000000000000000000000000000000) (lQ : Q.natAbs ≤ 1000000000000000000000000000000) (lR : R.natAbs ≤ 1000000000000000000000000000000) (lS : S.natAbs ≤ 1000000000000000000000000000000) :
    Calls Tryz.prog 41 #[.pointer (some ⟨xb, 0, none⟩), .pointer (some ⟨yb, 0, none⟩)] w fun e w' => ∃ b, e = .returned (.pointer (some ⟨b, 0, none⟩)) ∧ FracR w' b (P * S - R * Q) (Q * S) ∧ Below w.heap.size w w' := by
  have hQS : 1 ≤ Q * S := Int.mul_pos (by have := hx.1; omega) (by have := hy.1; omega)
  obtain ⟨p, q, hx, hq, ex, px, qx⟩ := hx.parts
  obtain ⟨r, s, hy, hs, ey, ry, sy⟩ := hy.parts
  have hb0 := alloc_below w #[.bool false, .slice none 0 0, .bool false, .slice none 0 0] 104
  have HB : Hid (Below w.heap.size w (w.alloc (.cells #[.bool false, .slice none 0 0, .bool false, .slice none 0 0] 104))) := hb0
  have HX : Hid (RatAt (w.alloc (.cells #[.bool false, .slice none 0 0, .bool false, .slice none 0 0] 104)) xb p q ∧ RatAt (w.alloc (.cells #[.bool false, .slice none 0 0, .bool false, .slice none 0 0] 104)) yb r s) := ⟨hx.below hb0, hy.below hb0⟩
  have m1 := lim_mul (Nat.le_trans px lP) (Nat.le_trans sy lS)
  have m2 := lim_mul (Nat.le_trans ry lR) (Nat.le_trans qx lQ)
  have m3 := lim_mul (Nat.le_trans qx lQ) (Nat.le_trans sy lS)
  rw [← Int.natAbs_mul] at m1 m2 m3
  have HL : Hid (1 ≤ q ∧ 1 ≤ s ∧ (p.natAbs < 4294967296 ^ 50 ∧ q.natAbs < 4294967296 ^ 50 ∧ r.natAbs < 4294967296 ^ 50 ∧ s.natAbs < 4294967296 ^ 50) ∧ (p * s).natAbs < 4294967296 ^ 50 ∧ (r * q).natAbs < 4294967296 ^ 50 ∧ (p * s - r * q).natAbs < 4294967296 ^ 50 ∧ (q * s).natAbs < 4294967296 ^ 50) := ⟨hq, hs, ⟨lim_30 (Nat.le_trans px lP), lim_30 (Nat.le_trans qx lQ), lim_30 (Nat.le_trans ry lR), lim_30 (Nat.le_trans sy lS)⟩, lim_50 (by omega), lim_50 (by omega), lim_50 (by omega), lim_50 (by omega)⟩
  have hqs : 1 ≤ q * s := Int.mul_pos (by omega) (by omega)
  have hcr : (p * s - r * q) * (Q * S) = (P * S - R * Q) * (q * s) := by
    have h1 : p * s * (Q * S) = (p * Q) * (s * S) := by ac_rfl
    have h2 : r * q * (Q * S) = (r * S) * (q * Q) := by ac_rfl
    have h3 : P * S * (q * s) = (P * q) * (s * S) := by ac_rfl
    have h4 : R * Q * (q * s) = (R * s) * (q * Q) := by ac_rfl
    rw [Int.sub_mul, Int.sub_mul, h1, h2, h3, h4, ex, ey]
  have HF : Hid (∀ w' b, RatAt w' b ((p * s - r * q) / (gcdOf (p * s - r * q) (q * s) : Int)) (q * s / (gcdOf (p * s - r * q) (q * s) : Int)) → FracR w' b (P * S - R * Q) (Q * S)) := fun w' b h => FracR.of hqs h hQS hcr
  clear hx hq ex px qx hy hs ey ry sy hb0 m1 m2 m3 hqs hcr lP lQ lR lS hQS
  go_enter Tryz.func41, Tryz.ntmps41
  go_wp2_with fail
  refine (rsub_any w.heap.size xb yb p q r s _ (slot_rat w).1 (slot_rat w).2 HX.out.1 HX.out.2 HL.out.1 HL.out.2.1 HL.out.2.2.1.1 HL.out.2.2.1.2.1 HL.out.2.2.1.2.2.1 HL.out.2.2.1.2.2.2 HL.out.2.2.2.1 HL.out.2.2.2.2.1 HL.out.2.2.2.2.2.1 HL.out.2.2.2.2.2.2).mono ?_
  rintro e w1 ⟨rfl, h1, u1⟩
  have H1 : Hid (FracR w1 w.heap.size (P * S - R * Q) (Q * S) ∧ Below w.heap.size w w1) := ⟨HF.out _ _ h1, HB.out.trans (u1.below (Nat.le_refl _) HB.out.size)⟩
  clear h1 u1
  go_wp2
  go_ret
  exact ⟨_, rfl, H1.out.1, H1.out.2⟩
theorem rLesser_any (xb yb : Nat) (P Q R S : Int) (w : World) (hx : FracR w xb P Q) (hy : FracR w yb R S) (lP : P.natAbs ≤ 1000000000000000000000000000000) (lQ : Q.natAbs ≤ 1000000000000000000000000000000) (lR : R.natAbs ≤ 1000000000000000000000000000000) (lS : S.natAbs ≤ 1000000000000000000000000000000) :
    Calls Tryz.prog 40 #[.pointer (some ⟨xb, 0, none⟩), .pointer (some ⟨yb, 0, none⟩)] w fun e w' => e = .returned (.pointer (some ⟨if cmpZ (P * S) (R * Q) = -1 then xb else yb, 0, none⟩)) ∧ Below w.heap.size w w' := by
  have HC := rCmp_any xb yb P Q R S w hx hy lP lQ lR lS
  have hr : cmpZ (P * S) (R * Q) = -1 ∨ cmpZ (P * S) (R * Q) = 0 ∨ cmpZ (P * S) (R * Q) = 1 := by
    unfold cmpZ
    split
    · exact Or.inl rfl
    · split
      · exact Or.inr (Or.inl rfl)
      · exact Or.inr (Or.inr rfl)
  generalize cmpZ (P * S) (R * Q) = cz at *
  clear hx hy lP lQ lR lS
  rcases hr with rfl | rfl | rfl
  all_goals
    go_enter Tryz.func40, Tryz.ntmps40
    go_wp2_with (go_at_call 39; refine HC.mono ?_; rintro e w1 ⟨rfl, hb1⟩)
    go_ret
    exact ⟨rfl, hb1⟩
/-- Of R and X/t the lesser. -/
theorem fLesser_any (xb yb : Nat) (R X t : Int) (w : World) (hx : FracR w xb R 1) (hy : FracR w yb X t) (hR : 0 ≤ R ∧ R ≤ 1000000) (hX : 0 ≤ X ∧ X ≤ 1000000000000000000000) (ht : 1 ≤ t ∧ t ≤ 1000000) :
    Calls Tryz.prog 40 #[.pointer (some ⟨xb, 0, none⟩), .pointer (some ⟨yb, 0, none⟩)] w fun e w' => ∃ b, e = .returned (.pointer (some ⟨b, 0, none⟩)) ∧ FracR w' b (if X ≤ R * t then X else R * t) t ∧ Below w.heap.size w w' := by
  refine (rLesser_any xb yb R 1 X t w hx hy (by omega) (by decide) (by omega) (by omega)).mono ?_
  rintro e w' ⟨rfl, h2⟩
  refine ⟨_, rfl, ?_, h2⟩
  have hx' : FracR w' xb (R * t) t := (hx.same ht.1 (by rw [Int.mul_one])).below h2
  have hy' := hy.below h2
  rw [Int.mul_one]
  by_cases hc : X ≤ R * t
  · rw [if_pos hc, if_neg]
    · exact hy'
    · unfold cmpZ
      rw [if_neg (by omega)]
      split <;> decide
  · rw [if_neg hc, if_pos]
    · exact hx'
    · unfold cmpZ
      rw [if_pos (by omega)]
theorem fMul_any (xb yb : Nat) (d n t : Int) (w : World) (hx : FracR w xb d 1) (hy : FracR w yb n t) (hd : 0 ≤ d ∧ d ≤ 1000000000) (hn : 1 ≤ n ∧ n ≤ 1000000) (ht : 1 ≤ t ∧ t ≤ 1000000) :
    Calls Tryz.prog 37 #[.pointer (some ⟨xb, 0, none⟩), .pointer (some ⟨yb, 0, none⟩)] w fun e w' => ∃ b, e = .returned (.pointer (some ⟨b, 0, none⟩)) ∧ FracR w' b (d * n) t ∧ Below w.heap.size w w' := by
  refine (rMul_any xb yb d 1 n t w hx hy (by omega) (by decide) (by omega) (by omega)).mono ?_
  rintro e w' ⟨b, rfl, h1, h2⟩
  exact ⟨b, rfl, by rw [Int.one_mul] at h1; exact h1, h2⟩
theorem fAdd_any (xb yb : Nat) (X Y t : Int) (w : World) (hx : FracR w xb X t) (hy : FracR w yb Y t) (hX : 0 ≤ X ∧ X ≤ 1000000000000000000) (hY : 0 ≤ Y ∧ Y ≤ 1000000000000000000) (ht : 1 ≤ t ∧ t ≤ 1000000) :
    Calls Tryz.prog 36 #[.pointer (some ⟨xb, 0, none⟩), .pointer (some ⟨yb, 0, none⟩)] w fun e w' => ∃ b, e = .returned (.pointer (some ⟨b, 0, none⟩)) ∧ FracR w' b (X + Y) t ∧ Below w.heap.size w w' := by
  refine (rAdd_any xb yb X t Y t w hx hy (by omega) (by omega) (by omega) (by omega)).mono ?_
  rintro e w' ⟨b, rfl, h1, h2⟩
  exact ⟨b, rfl, h1.same ht.1 (by rw [← Int.add_mul, Int.mul_assoc]), h2⟩
theorem fSub_any (xb yb : Nat) (X l t : Int) (w : World) (hx : FracR w xb X t) (hy : FracR w yb l 1) (hX : 0 ≤ X ∧ X ≤ 1000000000000000000) (hl : 0 ≤ l ∧ l ≤ 1000000) (ht : 1 ≤ t ∧ t ≤ 1000000) :
    Calls Tryz.prog 41 #[.pointer (some ⟨xb, 0, none⟩), .pointer (some ⟨yb, 0, none⟩)] w fun e w' => ∃ b, e = .returned (.pointer (some ⟨b, 0, none⟩)) ∧ FracR w' b (X - l * t) t ∧ Below w.heap.size w w' := by
  refine (rSub_any xb yb X t l 1 w hx hy (by omega) (by omega) (by omega) (by decide)).mono ?_
  rintro e w' ⟨b, rfl, h1, h2⟩
  rw [Int.mul_one, Int.mul_one] at h1
  exact ⟨b, rfl, h1, h2⟩
theorem fCmp_any (xb yb : Nat) (X l t : Int) (w : World) (hx : FracR w xb X t) (hy : FracR w yb l 1) (hX : 0 ≤ X ∧ X ≤ 1000000000000000000) (hl : 0 ≤ l ∧ l ≤ 1000000) (ht : 1 ≤ t ∧ t ≤ 1000000) :
    Calls Tryz.prog 39 #[.pointer (some ⟨xb, 0, none⟩), .pointer (some ⟨yb, 0, none⟩)] w fun e w' => e = .returned (.int .i64 (cmpZ X (l * t))) ∧ Below w.heap.size w w' := by
  have := rCmp_any xb yb X t l 1 w hx hy (by omega) (by omega) (by omega) (by decide)
  rw [Int.mul_one] at this
  exact this
theorem cmpZ_lt (X Y : Int) : decide (cmpZ X Y < 0) = decide (X < Y) := by
  unfold cmpZ
  by_cases h1 : X < Y
  · rw [if_pos h1]; simp [h1]
  · rw [if_neg h1]
    by_cases h2 : X = Y
    · rw [if_pos h2]; simp [h1]
    · rw [if_neg h2]; simp [h1]

set_option maxHeartbeats 1000000 in
theorem newFilled_any (n t R : Int) (w : World) (hR : 0 ≤ R ∧ R ≤ 1000000) (ht : 1 ≤ t) :
    Calls Tryz.prog 24 #[.agg #[.int .i64 n, .int .i64 t, .int .i64 R]] w fun e w' => ∃ f, e = .returned (.pointer (some ⟨f, 0, none⟩)) ∧ w.heap.size ≤ f ∧ FilAt w' f n t R (R * t) 0 ∧ Below w.heap.size w w' := by
  have HB0 : Hid (Below w.heap.size w (w.alloc (.cells #[.int .i64 n, .int .i64 t, .int .i64 R] 34))) := (Below.refl _ _).alloc (Nat.le_refl _) _
  have HC0 : Hid ((w.alloc (.cells #[.int .i64 n, .int .i64 t, .int .i64 R] 34)).heap[w.heap.size]? = some (.cells #[.int .i64 n, .int .i64 t, .int .i64 R] 34 (0, 0))) := heap_alloc_new _ _
  have HR : Hid ((0 ≤ R ∧ R ≤ 1000000) ∧ 1 ≤ t) := ⟨hR, ht⟩
  have HZ : Hid (w.heap.size < (w.alloc (.cells #[.int .i64 n, .int .i64 t, .int .i64 R] 34)).heap.size) := by show _ < _; simp
  clear hR ht
  go_enter Tryz.func24, Tryz.ntmps24
  go_wp2_with fail
  generalize w.alloc (.cells #[.int .i64 n, .int .i64 t, .int .i64 R] 34) = w0 at *
  have HK : Hid (∀ W : World, Below w0.heap.size w0 W → W.cell? ⟨w.heap.size, 0, none⟩ = some (.int .i64 n) ∧ W.cell? ⟨w.heap.size, 1, none⟩ = some (.int .i64 t) ∧ W.cell? ⟨w.heap.size, 2, none⟩ = some (.int .i64 R)) := by
    intro W hW
    have h2 := (hW.block _ (lt_of_block HC0.out)).trans HC0.out
    exact ⟨by simp [World.cell?, h2], by simp [World.cell?, h2], by simp [World.cell?, h2]⟩
  obtain ⟨c0, c1, c2⟩ := HK.out w0 (Below.refl _ _)
  go_region_held3 (fun W => W.cell? ⟨w.heap.size, 0, none⟩ = some (.int .i64 n) ∧ W.cell? ⟨w.heap.size, 1, none⟩ = some (.int .i64 t) ∧ W.cell? ⟨w.heap.size, 2, none⟩ = some (.int .i64 R)) (first | (with_reducible exact HK.out _ HA.out.2) | (with_reducible exact HK.out _ (Below.refl _ _).drew) | (with_reducible exact HK.out _ (HA.out.2.alloc HA.out.2.size _)) | exact ⟨c0, c1, c2⟩)
    ((go_at_call 35; refine (rInt_any R _ (by have := HR.out; omega)).mono ?_; rintro e wa ⟨ba, rfl, ha, hba⟩; have HA : Hid (FracR wa ba R 1 ∧ Below w0.heap.size w0 wa) := ⟨ha, (Below.refl _ _).drew.trans hba⟩; clear ha))
  all_goals
    have HE : Hid (Below w.heap.size w wa) := HB0.out.trans (HA.out.2.mono HB0.out.size)
    go_wp2
    go_ret
    refine ⟨_, rfl, HE.out.size, ⟨ba, heap_alloc_new _ _, ?_⟩, HE.out.alloc HE.out.size _⟩
    exact (HA.out.1.same HR.out.2 (by rw [Int.mul_one])).below ((Below.refl _ _).alloc (Nat.le_refl _) _)
end Go.Proofs.YtnppmigncjakeaaGreatDoor
