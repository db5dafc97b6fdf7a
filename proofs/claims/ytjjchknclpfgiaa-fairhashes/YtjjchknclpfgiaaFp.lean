/-
  A queue in which each flow keeps its order: what was taken goes up, flow by flow, step by step. Mathematics of a model alone.
-/
import Derived.Test.YtjjchknclpfgiaaKm
import Derived.Test.YtjjchknclpfgiaaPz
import Derived.Test.YtjjchknclpfgiaaPk
import Derived.Test.YtjjchknclpfgiaaFi
namespace Go.Proofs.Ytjjchknclpfgiaa
open Go.RowKit Go.Extern.Stop Go.Stop Go.Extern

def flowS (F : List Int) (st : Stp) : List Int := if st.what = 0 then F ++ [st.f] else F
def flowD (ts : List Stp) : Nat → List Int
  | 0 => []
  | i + 1 => match ts[i]? with
    | none => flowD ts i
    | some t => flowS (flowD ts i) t
def lastT (F : List Int) (l : Nat → Int) (sn : Sn) : Nat → Int := if 0 ≤ sn.taken then updF l (F.getD sn.taken.toNat 0).toNat (sn.taken + 1) else l
def lastO (ts : List Stp) (ss : List Sn) : Nat → Nat → Int
  | 0 => fun _ => 0
  | i + 1 => match ts[i]?, ss[i]? with
    | some _, some sn => lastT (flowD ts (i + 1)) (lastO ts ss i) sn
    | _, _ => lastO ts ss i
theorem flowD_succ {ts : List Stp} {i : Nat} {t : Stp} (h : ts[i]? = some t) : flowD ts (i + 1) = flowS (flowD ts i) t := by simp only [flowD, h]
theorem lastO_succ {ts : List Stp} {ss : List Sn} {i : Nat} {t : Stp} {sn : Sn} (h : ts[i]? = some t) (h2 : ss[i]? = some sn) : lastO ts ss (i + 1) = lastT (flowD ts (i + 1)) (lastO ts ss i) sn := by simp only [lastO, h, h2]
theorem flowD_len (ts : List Stp) (i : Nat) : (flowD ts i).length ≤ i := by
  induction i with
  | zero => simp [flowD]
  | succ i ih =>
    simp only [flowD]
    split
    · omega
    · unfold flowS
      split
      · simp; omega
      · omega
/-- What ordered looks at in one step. -/
def OStep (F : List Int) (l : Nat → Int) (sn : Sn) : Prop := 0 ≤ sn.taken → ∃ f : Nat, f < 16 ∧ F[sn.taken.toNat]? = some (f : Int) ∧ l f < sn.taken + 1
/-- Each flow keeps its order. -/
structure QM.Orders (M : QM) (cont : M.σ → List Hd) : Prop where
  put : ∀ (s : M.σ) (now : Int) (x y : Hd), y ∈ cont (M.put s now x).1 → y = x ∨ y ∈ cont s
  take : ∀ {s : M.σ} {t : Int} {n : Nat} (now : Int), M.inv t n s → ((M.take s now).2.2.2 = true → (M.take s now).2.2.1 ∈ cont s) ∧ ∀ y ∈ cont (M.take s now).1, y ∈ cont s ∧ ((M.take s now).2.2.2 = true → y.f = (M.take s now).2.2.1.f → (M.take s now).2.2.1.n < y.n)
  when : ∀ (s : M.σ) (now : Int), ∀ y ∈ cont (M.when s now).1, y ∈ cont s
structure OInv (F : List Int) (l : Nat → Int) (n : Nat) (c : List Hd) : Prop where
  len : F.length = n
  all : ∀ f, l f ≤ n
  has : ∀ y ∈ c, 0 ≤ y.f ∧ y.f < 16 ∧ 0 ≤ y.n ∧ y.n < n ∧ F[y.n.toNat]? = some y.f ∧ l y.f.toNat ≤ y.n
theorem ostep {M : QM} {cont : M.σ → List Hd} (hO : M.Orders cont) {s : M.σ} {t : Int} {n : Nat} {F : List Int} {l : Nat → Int} {st : Stp} (h : OInv F l n (cont s)) (hI : M.inv t n s) (hok : st.what = 0 → It.ok ⟨st.a, st.l, st.f, st.b, st.m⟩ = true) :
    OStep (flowS F st) l (stepQ M s n st).2 ∧ OInv (flowS F st) (lastT (flowS F st) l (stepQ M s n st).2) (stepQ M s n st).1.2 (cont (stepQ M s n st).1.1) := by
  by_cases hw : st.what = 0
  · have hf := ok_flow (x := hdOf st n) (hok hw)
    have hf' : 0 ≤ st.f ∧ st.f < 16 := by simp only [hdOf] at hf; omega
    simp only [stepQ, if_pos hw, flowS, OStep, lastT]
    refine ⟨fun h => absurd h (by decide), ?_⟩
    rw [if_neg (by decide)]
    refine ⟨by simp [h.len], fun f => by have := h.all f; omega, fun y hy => ?_⟩
    rcases hO.put s st.lt (hdOf st n) y hy with rfl | hy
    · refine ⟨hf'.1, hf'.2, Int.natCast_nonneg n, by show (n : Int) < _; omega, ?_, h.all _⟩
      show (F ++ [st.f])[((n : Int)).toNat]? = some st.f
      rw [Int.toNat_natCast, List.getElem?_append_right (by rw [h.len]; omega), h.len]
      simp
    · obtain ⟨a1, a2, a3, a4, a5, a6⟩ := h.has y hy
      refine ⟨a1, a2, a3, by omega, ?_, a6⟩
      rw [List.getElem?_append_left (by rw [h.len]; omega)]
      exact a5
  · simp only [stepQ, if_neg hw, flowS]
    by_cases hw1 : st.what = 1
    · simp only [if_pos hw1]
      obtain ⟨k1, k2⟩ := hO.take (s := s) st.lt hI
      generalize M.take s st.lt = Tk at *
      obtain ⟨s2, L2, x, ok⟩ := Tk
      cases ok with
      | false =>
        simp only [Bool.false_eq_true, if_false, OStep, lastT]
        refine ⟨fun h => absurd h (by decide), ?_⟩
        rw [if_neg (by decide)]
        exact ⟨h.len, h.all, fun y hy => h.has y (k2 y hy).1⟩
      | true =>
        obtain ⟨a1, a2, a3, a4, a5, a6⟩ := h.has x (k1 rfl)
        simp only [if_true, OStep, lastT, if_pos a3]
        obtain ⟨f, hf⟩ : ∃ f : Nat, x.f = f := ⟨x.f.toNat, by omega⟩
        have hft : x.f.toNat = f := by omega
        rw [hft] at a6
        rw [hf] at a5
        have hg : (F.getD x.n.toNat 0).toNat = f := by rw [List.getD_eq_getElem?_getD, a5]; simp
        rw [hg]
        refine ⟨fun _ => ⟨f, by omega, a5, by omega⟩, h.len, fun g => ?_, fun y hy => ?_⟩
        · by_cases e : g = f
          · subst e; rw [updF_same]; show x.n + 1 ≤ _; omega
          · rw [updF_ne e]; exact h.all g
        · obtain ⟨b1, b2⟩ := k2 y hy
          obtain ⟨c1, c2, c3, c4, c5, c6⟩ := h.has y b1
          refine ⟨c1, c2, c3, c4, c5, ?_⟩
          by_cases e : y.f.toNat = f
          · rw [e, updF_same]
            have := b2 rfl (by show y.f = x.f; omega)
            show x.n + 1 ≤ y.n
            have h3 : x.n < y.n := this
            omega
          · rw [updF_ne e]; exact c6
    · simp only [if_neg hw1, OStep, lastT]
      refine ⟨fun h => absurd h (by decide), ?_⟩
      rw [if_neg (by decide)]
      exact ⟨h.len, h.all, fun y hy => h.has y (hO.when s st.lt y hy)⟩
theorem orders_run {M : QM} {cont : M.σ → List Hd} (hM : M.Fine) (hO : M.Orders cont) (xs : List Stp) (hn : xs.length ≤ 1000) (s0 : M.σ) (h0 : cont s0 = []) (hI0 : M.inv 0 0 s0) :
    ∀ i t sn, (timesL 0 xs)[i]? = some t → (playFrom M s0 0 (timesL 0 xs))[i]? = some sn → OStep (flowD (timesL 0 xs) (i + 1)) (lastO (timesL 0 xs) (playFrom M s0 0 (timesL 0 xs)) i) sn := by
  have hall : ∀ i, i ≤ (timesL 0 xs).length → OInv (flowD (timesL 0 xs) i) (lastO (timesL 0 xs) (playFrom M s0 0 (timesL 0 xs)) i) (stFrom M s0 0 (timesL 0 xs) i).2 (cont (stFrom M s0 0 (timesL 0 xs) i).1) ∧ M.inv (nowAt 0 xs i) (stFrom M s0 0 (timesL 0 xs) i).2 (stFrom M s0 0 (timesL 0 xs) i).1 := by
    intro i
    induction i with
    | zero =>
      intro _
      have e := stFrom_zero M s0 0 (timesL 0 xs)
      rw [e]
      have e0 : nowAt 0 xs 0 = 0 := by cases xs <;> rfl
      rw [e0]
      refine ⟨⟨rfl, fun f => Int.le_refl _, fun y hy => ?_⟩, hI0⟩
      show _
      rw [h0] at hy
      simp at hy
    | succ i ih =>
      intro hi
      obtain ⟨st, hst⟩ : ∃ st, (timesL 0 xs)[i]? = some st := ⟨_, List.getElem?_eq_getElem (by omega)⟩
      have e := stFrom_succ (M := M) (s := s0) (n := 0) hst
      obtain ⟨h1, h2⟩ := ih (by omega)
      obtain ⟨t1, t2, t3, t4, t5, t6⟩ := timesL_get hst hn
      have hlen := stFrom_le M s0 0 (timesL 0 xs) i
      rw [timesL_length] at hi
      have hstep := ostep hO (st := st) h1 h2 t6
      have hinv := stepQ_inv hM (st := st) h2 t3 t2 t4 t6 t1 (by omega)
      rw [e, lastO_succ hst (playFrom_at hst), flowD_succ hst, ← t5]
      exact ⟨hstep.2, hinv.1⟩
  intro i st sn hst hsn
  have hi := (List.getElem?_eq_some_iff.1 hst).1
  rw [playFrom_at hst] at hsn
  obtain rfl := Option.some.inj hsn
  obtain ⟨h1, h2⟩ := hall i (by omega)
  obtain ⟨t1, t2, t3, t4, t5, t6⟩ := timesL_get hst hn
  rw [flowD_succ hst]
  exact (ostep hO (st := st) h1 h2 t6).1
/-- The inv at the end of a play. -/
theorem inv_run {M : QM} (hM : M.Fine) (xs : List Stp) (hn : xs.length ≤ 1000) (s0 : M.σ) (hI0 : M.inv 0 0 s0) :
    ∀ i, i ≤ xs.length → M.inv (nowAt 0 xs i) (stFrom M s0 0 (timesL 0 xs) i).2 (stFrom M s0 0 (timesL 0 xs) i).1 := by
  intro i
  induction i with
  | zero =>
    intro _
    have e := stFrom_zero M s0 0 (timesL 0 xs)
    rw [e]
    have e0 : nowAt 0 xs 0 = 0 := by cases xs <;> rfl
    rw [e0]
    exact hI0
  | succ i ih =>
    intro hi
    obtain ⟨st, hst⟩ : ∃ st, (timesL 0 xs)[i]? = some st := ⟨_, List.getElem?_eq_getElem (by rw [timesL_length]; omega)⟩
    have e := stFrom_succ (M := M) (s := s0) (n := 0) hst
    obtain ⟨t1, t2, t3, t4, t5, t6⟩ := timesL_get hst hn
    have hlen := stFrom_le M s0 0 (timesL 0 xs) i
    have hinv := stepQ_inv hM (st := st) (ih (by omega)) t3 t2 t4 t6 t1 (by omega)
    rw [e, ← t5]
    exact hinv.1
end Go.Proofs.Ytjjchknclpfgiaa
