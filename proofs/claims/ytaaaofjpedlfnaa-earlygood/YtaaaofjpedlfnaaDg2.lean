/-
  millracekeep.EarlyGood: it returns true at every target, span and all steps; nothing that was there before is otherwise. Conditions: the steps lie in memory.
-/
import Derived.Test.YtaaaofjpedlfnaaDg1
import Derived.Deep.DeepCutAuto
namespace Go.Proofs.Ytaaaofjpedlfnaa
open Go.RowKit Go.Extern.Stop Go.Stop Go.Extern

def cameD (ts : List Stp) : Nat → List Int
  | 0 => []
  | i + 1 => match ts[i]? with
    | none => cameD ts i
    | some t => cameS (cameD ts i) t
def lastDl (ts : List Stp) (ss : List Sn) : Nat → Int
  | 0 => -1
  | i + 1 => match ts[i]?, ss[i]? with
    | some t, some sn => lastG (lastDl ts ss i) t sn
    | _, _ => lastDl ts ss i
theorem cameD_succ {ts : List Stp} {i : Nat} {t : Stp} (h : ts[i]? = some t) : cameD ts (i + 1) = cameS (cameD ts i) t := by simp only [cameD, h]
theorem lastDl_succ {ts : List Stp} {ss : List Sn} {i : Nat} {t : Stp} {sn : Sn} (h : ts[i]? = some t) (h2 : ss[i]? = some sn) : lastDl ts ss (i + 1) = lastG (lastDl ts ss i) t sn := by simp only [lastDl, h, h2]
theorem cameD_len (ts : List Stp) (i : Nat) : (cameD ts i).length ≤ i := by
  induction i with
  | zero => simp [cameD]
  | succ i ih =>
    simp only [cameD]
    split
    · omega
    · unfold cameS
      split
      · simp; omega
      · omega
theorem timesL_get {xs : List Stp} {i : Nat} {st : Stp} (h : (timesL 0 xs)[i]? = some st) (hn : xs.length ≤ 1000) : st.a = st.lt ∧ nowAt 0 xs i ≤ st.lt ∧ 0 ≤ nowAt 0 xs i ∧ st.lt ≤ 1000000 ∧ st.lt = nowAt 0 xs (i + 1) ∧ (st.what = 0 → It.ok ⟨st.a, st.l, st.f, st.b, st.m⟩ = true) := by
  have hi := (List.getElem?_eq_some_iff.1 h).1
  rw [timesL_length] at hi
  obtain ⟨y, hy⟩ : ∃ y, xs[i]? = some y := ⟨_, List.getElem?_eq_getElem hi⟩
  rw [timesL_at hy] at h
  obtain rfl := Option.some.inj h
  have h1 := nowAt_succ (t := 0) hy
  have h2 := later_le y
  have h3 := nowAt_le 0 xs i
  have h4 := nowAt_le 0 xs (i + 1)
  exact ⟨rfl, by show nowAt 0 xs i ≤ nowAt 0 xs (i + 1); omega, by omega, by show nowAt 0 xs (i + 1) ≤ _; omega, rfl, fun h0 => timed_ok (t := nowAt 0 xs (i + 1)) (s := y) h0⟩
theorem delay_run (b : Nat) {P R T S : Int} (hP : 0 ≤ P) (hR : 0 ≤ R) (hR1 : R ≤ 1000000) (hS : 0 ≤ S) (hS1 : S ≤ 1000000) (xs : List Stp) (hn : xs.length ≤ 1000) (s0 : (DelayM b P R T S).σ) (h0 : GInv (-1) (DlS.L s0) 0 []) (hI0 : (DelayM b P R T S).inv 0 0 s0) :
    ∀ i t sn, (timesL 0 xs)[i]? = some t → (playFrom (DelayM b P R T S) s0 0 (timesL 0 xs))[i]? = some sn → GStep T (lastDl (timesL 0 xs) (playFrom (DelayM b P R T S) s0 0 (timesL 0 xs)) i) (cameD (timesL 0 xs) (i + 1)) t sn ∧ (∀ a ∈ cameD (timesL 0 xs) (i + 1), 0 ≤ a ∧ a ≤ 1000000) := by
  have hM := delayM_fine b P R T S hP hR hR1 hS hS1
  have hall : ∀ i, i ≤ (timesL 0 xs).length → GInv (lastDl (timesL 0 xs) (playFrom (DelayM b P R T S) s0 0 (timesL 0 xs)) i) (DlS.L (stFrom (DelayM b P R T S) s0 0 (timesL 0 xs) i).1) (stFrom (DelayM b P R T S) s0 0 (timesL 0 xs) i).2 (cameD (timesL 0 xs) i) ∧ (DelayM b P R T S).inv (nowAt 0 xs i) (stFrom (DelayM b P R T S) s0 0 (timesL 0 xs) i).2 (stFrom (DelayM b P R T S) s0 0 (timesL 0 xs) i).1 := by
    intro i
    induction i with
    | zero =>
      intro _
      have e := stFrom_zero (DelayM b P R T S) s0 0 (timesL 0 xs)
      rw [e]
      have e0 : nowAt 0 xs 0 = 0 := by cases xs <;> rfl
      rw [e0]
      exact ⟨h0, hI0⟩
    | succ i ih =>
      intro hi
      obtain ⟨st, hst⟩ : ∃ st, (timesL 0 xs)[i]? = some st := ⟨_, List.getElem?_eq_getElem (by omega)⟩
      have e := stFrom_succ (M := DelayM b P R T S) (s := s0) (n := 0) hst
      obtain ⟨h1, h2⟩ := ih (by omega)
      obtain ⟨t1, t2, t3, t4, t5, t6⟩ := timesL_get hst hn
      have hlen := stFrom_le (DelayM b P R T S) s0 0 (timesL 0 xs) i
      rw [timesL_length] at hi
      have hstep := gstep (b := b) (P := P) (R := R) (T := T) (S := S) (st := st) h1 hS hS1 (by omega) t4 t1 ⟨h2.2.2.1, h2.2.2.2.2.1, h2.2.2.2.2.2⟩
      have hinv := stepQ_inv hM (st := st) h2 t3 t2 t4 t6 t1 (by omega)
      rw [e, lastDl_succ hst (playFrom_at hst), cameD_succ hst, ← t5]
      exact ⟨hstep.2, hinv.1⟩
  intro i st sn hst hsn
  have hi := (List.getElem?_eq_some_iff.1 hst).1
  rw [playFrom_at hst] at hsn
  obtain rfl := Option.some.inj hsn
  obtain ⟨h1, h2⟩ := hall i (by omega)
  obtain ⟨t1, t2, t3, t4, t5, t6⟩ := timesL_get hst hn
  have hstep := gstep (b := b) (P := P) (R := R) (T := T) (S := S) (st := st) h1 hS hS1 (by omega) t4 t1 ⟨h2.2.2.1, h2.2.2.2.2.1, h2.2.2.2.2.2⟩
  rw [cameD_succ hst]
  exact ⟨hstep.1, hstep.2.cbd⟩
def pickN (a n : Int) : Int := (a % 18446744073709551616) % n
theorem pickN_bd (a n : Int) (h : 1 ≤ n) : 0 ≤ pickN a n ∧ pickN a n < n := ⟨Int.emod_nonneg _ (by omega), Int.emod_lt_of_pos _ (by omega)⟩
theorem pick_any (a m : Int) (w : World) (h0 : 1 ≤ m) (h1 : m ≤ 1000000) : Calls Try.prog 5 #[.int .i64 a, .int .i64 m] w fun e w' => e = .returned (.int .i64 (pickN a m)) ∧ w' = w := by
  have hz : ¬ m = 0 := by omega
  have hu : IntKind.u64.wrap m = m := by rw [IntKind.wrap_u64]; omega
  have he : wrap64 ((IntKind.u64.wrap a).tmod m) = pickN a m := by
    unfold pickN
    rw [IntKind.wrap_u64, Int.tmod_eq_emod_of_nonneg (by omega)]
    have h1 := Int.emod_nonneg (a % 18446744073709551616) hz
    have h2 := Int.emod_lt_of_pos (a % 18446744073709551616) (by omega : (0 : Int) < m)
    generalize a % 18446744073709551616 % m = r at *
    unfold wrap64; omega
  have HE : Hid (wrap64 ((IntKind.u64.wrap a).tmod m) = pickN a m) := he
  clear he
  go_enter Try.func5, Try.ntmps5
  go_wp2
  go_ret
  refine ⟨?_, rfl⟩
  rw [← HE.out]; rfl
theorem ginv0 : GInv (-1) dl0.L 0 [] := ⟨by simp [dl0], by simp [dl0], by decide, rfl, by simp⟩
end Go.Proofs.Ytaaaofjpedlfnaa
