/-
  millracelaw.played without a last question: true, where a queue and one of the reference agree. Conditions: the steps lie in memory, a thousand at most; the queues' methods do what models of them tell (a premise).
-/
import Derived.Test.YtefflbibacmboaaDoorSw
import Derived.Test.YtefflbibacmboaaDoorRm
namespace Go.Proofs.YtefflbibacmboaaDoor
open Go.RowKit Go.Extern.Stop Go.Stop Go.Extern

/-- Two queues agree. -/
structure Agree (M : QM) (R : RM) (Rel : M.σ → R.σ → Prop) : Prop where
  put : ∀ {s : M.σ} {r : R.σ} {t : Int} {n : Nat} (now : Int) (x : Hd), Rel s r → M.inv t n s → R.inv t n r → 0 ≤ t → t ≤ now → now ≤ 1000000 → x.ok = true → x.a = now → x.n = n → n ≤ 1000 → (M.put s now x).2 = (R.put r now x).2 ∧ Rel (M.put s now x).1 (R.put r now x).1
  take : ∀ {s : M.σ} {r : R.σ} {t : Int} {n : Nat} (now : Int), Rel s r → M.inv t n s → R.inv t n r → 0 ≤ t → t ≤ now → now ≤ 1000000 → n ≤ 1000 → (M.take s now).2 = (R.take r now).2 ∧ Rel (M.take s now).1 (R.take r now).1
  when : ∀ {s : M.σ} {r : R.σ} {t : Int} {n : Nat} (now : Int), Rel s r → M.inv t n s → R.inv t n r → 0 ≤ t → t ≤ now → now ≤ 1000000 → n ≤ 1000 → (M.when s now).2.2 = (R.when r now).2.2 ∧ ((R.when r now).2.2 = true → (M.when s now).2.1 = (R.when r now).2.1) ∧ Rel (M.when s now).1 (R.when r now).1
  len : ∀ {s : M.σ} {r : R.σ} {t : Int} {n : Nat}, Rel s r → M.inv t n s → n ≤ 1001 → M.len s = (R.all r).length ∧ M.bytes s = sumL (R.all r)
/-- A step of the reference: its state, the next number; which was taken, its mark, when, what was lost. -/
def stepR (R : RM) (r : R.σ) (n : Nat) (st : Stp) : (R.σ × Nat) × Int × Int × Int × List Hd :=
  if st.what = 0 then (((R.put r st.lt (hdOf st n)).1, n + 1), -1, 0, -1, (R.put r st.lt (hdOf st n)).2)
  else if st.what = 1 then (((R.take r st.lt).1, n), if (R.take r st.lt).2.2.2 then (R.take r st.lt).2.2.1.n else -1, if (R.take r st.lt).2.2.2 then (R.take r st.lt).2.2.1.m else 0, -1, (R.take r st.lt).2.1)
  else (((R.when r st.lt).1, n), -1, 0, if (R.when r st.lt).2.2 then (R.when r st.lt).2.1 else -1, [])
theorem agree_step {M : QM} {R : RM} {Rel : M.σ → R.σ → Prop} (hA : Agree M R Rel) (hM : M.Fine) {s : M.σ} {r : R.σ} {t : Int} {n : Nat} {st : Stp} (h : Rel s r) (hI : M.inv t n s) (hJ : R.inv t n r) (ht0 : 0 ≤ t) (ht1 : t ≤ st.lt) (ht2 : st.lt ≤ 1000000) (hok : st.what = 0 → It.ok ⟨st.a, st.l, st.f, st.b, st.m⟩ = true) (hsa : st.a = st.lt) (hn : n ≤ 1000) :
    (stepQ M s n st).1.2 = (stepR R r n st).1.2 ∧ Rel (stepQ M s n st).1.1 (stepR R r n st).1.1 ∧ (stepQ M s n st).2.taken = (stepR R r n st).2.1 ∧ (stepQ M s n st).2.mark = (stepR R r n st).2.2.1 ∧ (stepQ M s n st).2.when = (stepR R r n st).2.2.2.1 ∧ (stepQ M s n st).2.lost = (stepR R r n st).2.2.2.2.map Hd.n ∧
    (stepQ M s n st).2.len = (R.all (stepR R r n st).1.1).length ∧ (stepQ M s n st).2.bytes = sumL (R.all (stepR R r n st).1.1) := by
  have hinv := stepQ_inv hM hI ht0 ht1 ht2 hok hsa hn
  have hlen := stepQ_len M s n st
  have key : (stepQ M s n st).1.2 = (stepR R r n st).1.2 ∧ Rel (stepQ M s n st).1.1 (stepR R r n st).1.1 ∧ (stepQ M s n st).2.taken = (stepR R r n st).2.1 ∧ (stepQ M s n st).2.mark = (stepR R r n st).2.2.1 ∧ (stepQ M s n st).2.when = (stepR R r n st).2.2.2.1 ∧ (stepQ M s n st).2.lost = (stepR R r n st).2.2.2.2.map Hd.n := by
    by_cases hw : st.what = 0
    · obtain ⟨h1, h2⟩ := hA.put st.lt (hdOf st n) h hI hJ ht0 ht1 ht2 (hok hw) hsa rfl hn
      simp only [stepQ, stepR, if_pos hw]
      exact ⟨trivial, h2, trivial, trivial, trivial, by rw [h1]⟩
    · by_cases hw1 : st.what = 1
      · obtain ⟨h1, h2⟩ := hA.take st.lt h hI hJ ht0 ht1 ht2 hn
        simp only [stepQ, stepR, if_neg hw, if_pos hw1]
        exact ⟨trivial, h2, by rw [h1], by rw [h1], trivial, by rw [h1]⟩
      · obtain ⟨h1, h2, h3⟩ := hA.when st.lt h hI hJ ht0 ht1 ht2 hn
        simp only [stepQ, stepR, if_neg hw, if_neg hw1]
        refine ⟨trivial, h3, trivial, trivial, ?_, rfl⟩
        rw [h1]
        split
        · rename_i h4; exact h2 h4
        · rfl
  obtain ⟨k1, k2, k3, k4, k5, k6⟩ := key
  obtain ⟨l1, l2⟩ := hA.len k2 hinv.1 (by omega)
  exact ⟨k1, k2, k3, k4, k5, k6, by rw [hlen.1, l1], by rw [hlen.2, l2]⟩
theorem stepR_inv {R : RM} (hR : R.Fine) {r : R.σ} {n : Nat} {st : Stp} {t0 : Int} (hI : R.inv t0 n r) (h0 : 0 ≤ t0) (h1 : t0 ≤ st.lt) (h2 : st.lt ≤ 1000000) (hok : st.what = 0 → It.ok ⟨st.a, st.l, st.f, st.b, st.m⟩ = true) (ha : st.a = st.lt) (hn : n ≤ 1000) : R.inv st.lt (stepR R r n st).1.2 (stepR R r n st).1.1 ∧ (stepR R r n st).1.2 ≤ n + 1 ∧ (stepR R r n st).2.2.2.2.length ≤ 1000000 := by
  unfold stepR
  split
  · rename_i hw
    have := hR.iP st.lt (hdOf st n) hI h0 h1 h2 (hok hw) ha rfl hn
    exact ⟨this.1, Nat.le_refl _, this.2⟩
  · split
    · have := hR.iT st.lt hI h0 h1 h2 hn
      exact ⟨this.1, Nat.le_succ _, this.2⟩
    · exact ⟨hR.iW st.lt hI h0 h1 h2 hn, Nat.le_succ _, Nat.zero_le _⟩
set_option maxHeartbeats 1000000 in
theorem sameIns_any {a b : Value} {l : List Int} (w : World) (ha : Ins w a l) (hb : Ins w b l) : Calls Tryd.prog 34 #[a, b] w fun e w' => e = .returned (.bool true) ∧ ∃ q, w' = w.drewN q := by
  have HA : Hid (Ins w a l) := ha
  have HB : Hid (Ins w b l) := hb
  obtain ⟨xa, ca, rfl, la⟩ := Seg.lies ha
  obtain ⟨xb, cb, rfl, lb⟩ := Seg.lies hb
  have hmx : l.length ≤ 9223372036854775807 := by
    rcases ha.form with ⟨_, h0, _⟩ | ⟨_, _, _, _, h1, h2, _⟩
    · omega
    · unfold maxLen at h2; omega
  obtain ⟨n, hn⟩ : ∃ n, l.length = n := ⟨_, rfl⟩
  have HN : Hid (l.length = n) := hn
  rw [hn] at hmx ⊢
  have HLA : Hid (Lies w xa (l.map (Value.int .i64))) := la
  have HLB : Hid (Lies w xb (l.map (Value.int .i64))) := lb
  clear ha hb hn la lb
  go_enter Tryd.func34, Tryd.ntmps34
  go_wp2
  go_loopw [5] (fun i wr => ∃ k q : Nat, k ≤ n ∧ i = .int .i64 k ∧ wr = w.drewN q) (fun i _ => n - (intOf i).toNat)
  case atStart => exact ⟨0, 0, Nat.zero_le _, rfl, rfl⟩
  case round =>
    obtain ⟨k, q, hk, rfl, rfl⟩ := hrel
    by_cases hlt : k < n
    · obtain ⟨u, hu⟩ : ∃ u, l[k]? = some u := ⟨_, List.getElem?_eq_getElem (by rw [HN.out]; exact hlt)⟩
      have hu' : (l.map (Value.int .i64))[k]? = some (.int .i64 u) := by simp [hu]
      rcases HLA.out with h | ⟨b1, o1, rfl, _, h1⟩
      · rw [h] at hu'; simp at hu'
      rcases HLB.out with h | ⟨b2, o2, rfl, _, h2⟩
      · rw [h] at hu'; simp at hu'
      have c1 := h1 k _ hu'
      have c2 := h2 k _ hu'
      clear h1 h2 hu hu'
      go_wp2
      go_quiet (fail)
      go_wp2
      go_roundw
      case rel => exact ⟨k + 1, _, by omega, by go_num, rfl⟩
      case measure => simp [intOf]; omega
    · obtain rfl : k = n := by omega
      go_wp2
      go_ret
      exact ⟨rfl, _, rfl⟩
theorem neqNil (w : World) : (binOp .neq 43 .nilFunc .nilFunc).run Tryd.prog w = .ok (.bool false) w := by kernel_rfl
end Go.Proofs.YtefflbibacmboaaDoor
