/-
  Cormode and Muthukrishnan as mathematics; three grids side by side in memory. Conditions: as each says.
-/
import Derived.Test.YtkmbnklfaaopaaaGd4
import Derived.Test.YtkmbnklfaaopaaaSkV
namespace Go.Proofs.Ytkmbnklfaaopaaa
open Go.RowKit Go.Extern.Stop Go.Stop Go.Extern

/-- How many of the first k keys have the cell c in row r. -/
def cntM (C : Nat) (f : Nat → Int) : Nat → Nat → Nat → Int
  | 0, _, _ => 0
  | k + 1, r, c => cntM C f k r c + if c = cellN C r (f k) then 1 else 0
theorem cntM_bd (C : Nat) (f : Nat → Int) (r c : Nat) : ∀ k, 0 ≤ cntM C f k r c ∧ cntM C f k r c ≤ k
  | 0 => ⟨Int.le_refl _, Int.le_refl _⟩
  | k + 1 => by have := cntM_bd C f r c k; simp only [cntM]; split <;> omega
theorem cntM_ge (C : Nat) (f : Nat → Int) (r : Nat) (key : Int) : ∀ k, cnt f key k ≤ cntM C f k r (cellN C r key)
  | 0 => Int.le_refl _
  | k + 1 => by
    have := cntM_ge C f r key k
    simp only [cntM, cnt]
    by_cases e : f k = key
    · rw [if_pos e, if_pos (by rw [e])]; omega
    · rw [if_neg e]; split <;> omega
theorem addM_cnt (C : Nat) (f : Nat → Int) (R k r c : Nat) (hr : r < R) : addM C (f k) R (cntM C f k) r c = cntM C f (k + 1) r c := by
  unfold addM
  simp only [cntM]
  by_cases e : c = cellN C r (f k)
  · rw [if_pos ⟨hr, e⟩, if_pos e]
  · rw [if_neg (fun h => e h.2), if_neg e]; omega
theorem addM_sum (C : Nat) (f : Nat → Int) (N : Nat → Nat → Int) (R k r c : Nat) (hr : r < R) : addM C (f k) R (fun r c => N r c + cntM C f k r c) r c = N r c + cntM C f (k + 1) r c := by
  unfold addM
  simp only [cntM]
  by_cases e : c = cellN C r (f k)
  · rw [if_pos ⟨hr, e⟩, if_pos e]; omega
  · rw [if_neg (fun h => e h.2), if_neg e]; omega
theorem gs_bd {C : Nat} {key : Int} {M : Nat → Nat → Int} {x y : Int} {R : Nat} (h : ∀ r, r < R → x ≤ M r (cellN C r key) ∧ M r (cellN C r key) ≤ y) (hR : 1 ≤ R) : ∀ k, k ≤ R → x ≤ gsM C key M k ∧ gsM C key M k ≤ y
  | 0, _ => h 0 (by omega)
  | k + 1, hk => by
    have h1 := gs_bd h hR k (by omega)
    have h2 := h k (by omega)
    simp only [gsM]; omega
theorem gs_congr {C : Nat} {key : Int} {M M' : Nat → Nat → Int} {R : Nat} (h : ∀ r c, r < R → c < C → M r c = M' r c) (hR : 1 ≤ R) (hC : 1 ≤ C) : ∀ k, k ≤ R → gsM C key M k = gsM C key M' k
  | 0, _ => h 0 _ (by omega) (cellN_lt hC)
  | k + 1, hk => by
    simp only [gsM]
    rw [gs_congr h hR hC k (by omega), h k _ (by omega) (cellN_lt hC)]
/-- Where a grid lies. -/
structure Gp where
  g : Nat
  v : Value
  gb : Nat → Nat
  lo : Nat
  hi : Nat
def GrP (W : World) (p : Gp) (C R : Nat) (M : Nat → Nat → Int) : Prop := GrS W p.g p.v p.gb p.lo p.hi C R M
/-- Three grids. -/
structure G3 (W : World) (a b c : Gp) (C R : Nat) (A B D : Nat → Nat → Int) : Prop where
  ga : GrP W a C R A
  gb : GrP W b C R B
  gc : GrP W c C R D
  ab : a.hi ≤ b.lo
  bc : b.hi ≤ c.lo
  b0 : b.lo ≤ b.hi
  hc : c.hi ≤ W.heap.size
  c0 : c.lo ≤ c.hi
theorem G3.kept {W W' : World} {a b c : Gp} {C R : Nat} {A B D : Nat → Nat → Int} (h : G3 W a b c C R A B D) (hb : Below W.heap.size W W') : G3 W' a b c C R A B D := by
  have h1 := h.ab; have h2 := h.bc; have h3 := h.b0; have h4 := h.hc; have h5 := h.c0
  exact ⟨GrS.below h.ga hb (by omega), GrS.below h.gb hb (by omega), GrS.below h.gc hb h4, h1, h2, h3, Nat.le_trans h4 hb.size, h5⟩
theorem G3.drewN {W : World} {a b c : Gp} {C R : Nat} {A B D : Nat → Nat → Int} (h : G3 W a b c C R A B D) (q : Nat) : G3 (W.drewN q) a b c C R A B D :=
  ⟨GrS.kept h.ga (fun _ _ _ => rfl), GrS.kept h.gb (fun _ _ _ => rfl), GrS.kept h.gc (fun _ _ _ => rfl), h.ab, h.bc, h.b0, h.hc, h.c0⟩
def Okm (R C : Nat) (M : Nat → Nat → Int) : Prop := ∀ r c, r < R → c < C → 0 ≤ M r c ∧ M r c ≤ 1000000
theorem G3.addA {W : World} {a b c : Gp} {C R : Nat} {A B D : Nat → Nat → Int} (h : G3 W a b c C R A B D) (key : Int) (hR0 : 1 ≤ R) (hR : R ≤ 8) (hC0 : 1 ≤ C) (hC : C ≤ 1000) (hM : Okm R C A) {A' : Nat → Nat → Int} (hA : ∀ r d, r < R → d < C → addM C key R A r d = A' r d) :
    Calls Try.prog 12 #[.pointer (some ⟨a.g, 0, none⟩), .int .i64 key] W fun e w' => e = .returned (.tuple #[]) ∧ G3 w' a b c C R A' B D ∧ Ot (Btw a.lo c.hi) W w' := by
  refine (add_any _ _ _ _ _ C R A key W h.ga hR0 hR hC0 hC hM).mono ?_
  rintro e w' ⟨rfl, hg, ho, hs⟩
  have h1 := h.ab; have h2 := h.bc; have h3 := h.b0; have h4 := h.hc; have h5 := h.c0
  refine ⟨rfl, ⟨GrS.congr hg hA, GrS.oth h.gb ho (by omega) (fun k k1 k2 => by unfold Btw; omega), GrS.oth h.gc ho h4 (fun k k1 k2 => by unfold Btw; omega), h1, h2, h3, by omega, h5⟩, ho.mono fun k _ hk => by unfold Btw at *; omega⟩
theorem G3.addB {W : World} {a b c : Gp} {C R : Nat} {A B D : Nat → Nat → Int} (h : G3 W a b c C R A B D) (key : Int) (hR0 : 1 ≤ R) (hR : R ≤ 8) (hC0 : 1 ≤ C) (hC : C ≤ 1000) (hM : Okm R C B) {B' : Nat → Nat → Int} (hA : ∀ r d, r < R → d < C → addM C key R B r d = B' r d) (ha : a.lo ≤ b.lo) :
    Calls Try.prog 12 #[.pointer (some ⟨b.g, 0, none⟩), .int .i64 key] W fun e w' => e = .returned (.tuple #[]) ∧ G3 w' a b c C R A B' D ∧ Ot (Btw a.lo c.hi) W w' := by
  refine (add_any _ _ _ _ _ C R B key W h.gb hR0 hR hC0 hC hM).mono ?_
  rintro e w' ⟨rfl, hg, ho, hs⟩
  have h1 := h.ab; have h2 := h.bc; have h3 := h.b0; have h4 := h.hc; have h5 := h.c0
  refine ⟨rfl, ⟨GrS.oth h.ga ho (by omega) (fun k k1 k2 => by unfold Btw; omega), GrS.congr hg hA, GrS.oth h.gc ho h4 (fun k k1 k2 => by unfold Btw; omega), h1, h2, h3, by omega, h5⟩, ho.mono fun k _ hk => by unfold Btw at *; omega⟩
theorem G3.addC {W : World} {a b c : Gp} {C R : Nat} {A B D : Nat → Nat → Int} (h : G3 W a b c C R A B D) (key : Int) (hR0 : 1 ≤ R) (hR : R ≤ 8) (hC0 : 1 ≤ C) (hC : C ≤ 1000) (hM : Okm R C D) {D' : Nat → Nat → Int} (hA : ∀ r d, r < R → d < C → addM C key R D r d = D' r d) (ha : a.lo ≤ b.lo) :
    Calls Try.prog 12 #[.pointer (some ⟨c.g, 0, none⟩), .int .i64 key] W fun e w' => e = .returned (.tuple #[]) ∧ G3 w' a b c C R A B D' ∧ Ot (Btw a.lo c.hi) W w' := by
  refine (add_any _ _ _ _ _ C R D key W h.gc hR0 hR hC0 hC hM).mono ?_
  rintro e w' ⟨rfl, hg, ho, hs⟩
  have h1 := h.ab; have h2 := h.bc; have h3 := h.b0; have h4 := h.hc; have h5 := h.c0
  refine ⟨rfl, ⟨GrS.oth h.ga ho (by omega) (fun k k1 k2 => by unfold Btw; omega), GrS.oth h.gb ho (by omega) (fun k k1 k2 => by unfold Btw; omega), GrS.congr hg hA, h1, h2, h3, by omega, h5⟩, ho.mono fun k _ hk => by unfold Btw at *; omega⟩
theorem G3.merge {W : World} {a b c : Gp} {C R : Nat} {A B D : Nat → Nat → Int} (h : G3 W a b c C R A B D) (hR0 : 1 ≤ R) (hR : R ≤ 8) (hC0 : 1 ≤ C) (hC : C ≤ 1000) (hA : Okm R C A) (hB : Okm R C B) :
    Calls Try.prog 14 #[.pointer (some ⟨a.g, 0, none⟩), .pointer (some ⟨b.g, 0, none⟩)] W fun e w' => e = .returned .nilIface ∧ G3 w' a b c C R (fun r d => A r d + B r d) B D ∧ Ot (Btw a.lo c.hi) W w' := by
  have h1 := h.ab; have h2 := h.bc; have h3 := h.b0; have h4 := h.hc; have h5 := h.c0
  refine (merge_any _ _ _ _ _ _ _ _ _ _ C R A B W h.ga h.gb (Or.inl h1) (by omega) hR0 hR hC0 hC (fun r d hr hd => ⟨hA r d hr hd, hB r d hr hd⟩)).mono ?_
  rintro e w' ⟨rfl, hg, q, ho, hs⟩
  refine ⟨rfl, ⟨hg, GrS.oth h.gb ho (by omega) (fun k k1 k2 => by unfold Btw; omega), GrS.oth h.gc ho h4 (fun k k1 k2 => by unfold Btw; omega), h1, h2, h3, by omega, h5⟩, ho.mono fun k _ hk => by unfold Btw at *; omega⟩
end Go.Proofs.Ytkmbnklfaaopaaa
