/-
  The reference's bands as a queue as millracelaw.played asks it: their model. Conditions: one queue at least, eight at most; the queues' methods do what models of them tell (a premise).
-/
import Derived.Test.YtpjhiioecigfhaaDoorSd
namespace Go.Proofs.YtpjhiioecigfhaaDoor
open Go.RowKit Go.Extern.Stop Go.Stop Go.Extern

theorem mRBandsP (a : Addr) (W : World) : (Go.method 297 25 (.pointer (some a)) "Put").run Tryd.prog W = .ok (62, .pointer (some a)) W := by kernel_rfl
theorem mRBandsT (a : Addr) (W : World) : (Go.method 297 25 (.pointer (some a)) "Take").run Tryd.prog W = .ok (63, .pointer (some a)) W := by kernel_rfl
theorem mRBandsW (a : Addr) (W : World) : (Go.method 297 25 (.pointer (some a)) "When").run Tryd.prog W = .ok (64, .pointer (some a)) W := by kernel_rfl
theorem mRBandsA (a : Addr) (W : World) : (Go.method 297 25 (.pointer (some a)) "All").run Tryd.prog W = .ok (61, .pointer (some a)) W := by kernel_rfl
theorem eRBandsP (args : Array Value) (W : World) : (callFunc 62 args).run Tryd.prog W = .ok (.enter 62 args) W := enters_of Tryd.func62 (by kernel_rfl) rfl args W
theorem eRBandsT (args : Array Value) (W : World) : (callFunc 63 args).run Tryd.prog W = .ok (.enter 63 args) W := enters_of Tryd.func63 (by kernel_rfl) rfl args W
theorem eRBandsW (args : Array Value) (W : World) : (callFunc 64 args).run Tryd.prog W = .ok (.enter 64 args) W := enters_of Tryd.func64 (by kernel_rfl) rfl args W
theorem eRBandsA (args : Array Value) (W : World) : (callFunc 61 args).run Tryd.prog W = .ok (.enter 61 args) W := enters_of Tryd.func61 (by kernel_rfl) rfl args W

/-- Bands in block B of N queues. -/
def RBandsM (Q : Nat → RM) (N B ob oo oc : Nat) : RM where
  σ := ∀ i, (Q i).σ
  ty := 25
  rv := .pointer (some ⟨B, 0, none⟩)
  fP := 62
  fT := 63
  fW := 64
  fA := 61
  rP := .pointer (some ⟨B, 0, none⟩)
  rT := .pointer (some ⟨B, 0, none⟩)
  rW := .pointer (some ⟨B, 0, none⟩)
  rA := .pointer (some ⟨B, 0, none⟩)
  At := fun w F s => ∃ Fs, RBAt Q N B ob oo oc w Fs s ∧ ∀ k, F k ↔ foot N B ob Fs k
  put := fun s now x => (rupd s (bandOf N x) ((Q (bandOf N x)).put (s (bandOf N x)) now x).1, ((Q (bandOf N x)).put (s (bandOf N x)) now x).2)
  take := fun s now => rtakeB now N 0 s []
  when := fun s now => rwhenTo s now N
  all := fun s => rallTo s N
  inv := fun t n s => ∀ i, i < N → (Q i).inv t n (s i)
theorem rtakeB_inv {Q : Nat → RM} {N : Nat} {t now : Int} {n : Nat} (hS : RSmall Q N) (h0 : 0 ≤ t) (h1 : t ≤ now) (h2 : now ≤ 1000000) (hn : n ≤ 1000) : ∀ (m i : Nat) (s : ∀ i, (Q i).σ) (acc : List Hd), m + i = N → (∀ j, j < i → (Q j).inv now n (s j)) → (∀ j, i ≤ j → j < N → (Q j).inv t n (s j)) → acc.length ≤ 100000 * i →
    (∀ j, j < N → (Q j).inv now n ((rtakeB now m i s acc).1 j)) ∧ (rtakeB now m i s acc).2.1.length ≤ 100000 * N := by
  intro m
  induction m with
  | zero =>
    intro i s acc hm hl _ ha
    obtain rfl : i = N := by omega
    exact ⟨hl, ha⟩
  | succ m ih =>
    intro i s acc hm hl hg ha
    have hi : i < N := by omega
    have hf := hS.few i hi now (hg i (Nat.le_refl _) hi) hn
    have hinv := (hS.fine i hi).iT now (hg i (Nat.le_refl _) hi) h0 h1 h2 hn
    have hlen : (acc ++ ((Q i).take (s i) now).2.1).length ≤ 100000 * (i + 1) := by rw [List.length_append]; omega
    have hl' : ∀ j, j < i + 1 → (Q j).inv now n (rupd s i ((Q i).take (s i) now).1 j) := by
      intro j hj
      by_cases e : j = i
      · subst e; rw [rupd_same]; exact hinv.1
      · rw [rupd_ne _ _ e]; exact hl j (by omega)
    have hg' : ∀ j, i + 1 ≤ j → j < N → (Q j).inv t n (rupd s i ((Q i).take (s i) now).1 j) := by
      intro j hj hjN
      rw [rupd_ne _ _ (by omega)]; exact hg j (by omega) hjN
    simp only [rtakeB]
    split
    · refine ⟨fun j hj => ?_, Nat.le_trans hlen (by omega)⟩
      by_cases hji : j < i + 1
      · exact hl' j hji
      · exact hS.mono j hj (hg' j (by omega) hj) h1 (Nat.le_refl _)
    · exact ih (i + 1) _ _ (by omega) hl' hg' hlen
theorem rbandsM_fine {Q : Nat → RM} {N B ob oo oc : Nat} (hS : RSmall Q N) : (RBandsM Q N B ob oo oc).Fine where
  kept := by
    rintro w w' F s ⟨Fs, h, hF⟩ hk
    exact ⟨Fs, h.kept hS.fine (fun k hf => hk k ((hF k).2 hf)), hF⟩
  low := by
    rintro w F s ⟨Fs, h, hF⟩ k hk
    exact h.low hS.fine k ((hF k).1 hk)
  mP := mRBandsP _
  mT := mRBandsT _
  mW := mRBandsW _
  mA := mRBandsA _
  eP := eRBandsP
  eT := eRBandsT
  eW := eRBandsW
  eA := eRBandsA
  cP := by
    rintro w F s t n now x ⟨Fs, h, hF⟩ hI ht0 ht1 ht2 hok hxa hxn hn
    refine (rbands_put now x hS w h hI ht0 ht1 ht2 hok hxa hxn hn).mono ?_
    rintro e w' ⟨u, rfl, Fs', hu, hb, hf, hk, ho⟩
    exact ⟨u, foot N B ob Fs', rfl, hu, ⟨Fs', hb, fun k => Iff.rfl⟩, fun k hk => by rw [hF]; exact hf k hk, fun k hk' => by rw [hF]; exact hk k hk', ho.mono (fun k _ h => (hF k).2 h)⟩
  iP := by
    intro (s : ∀ i, (Q i).σ) t n now x hI ht0 ht1 ht2 hok hxa hxn hn
    have hj := bandOf_lt hS.one x
    have h1 := (hS.fine _ hj).iP now x (hI _ hj) ht0 ht1 ht2 hok hxa hxn hn
    refine ⟨fun i hi => ?_, h1.2⟩
    show (Q i).inv now (n + 1) (rupd s (bandOf N x) ((Q (bandOf N x)).put (s (bandOf N x)) now x).1 i)
    by_cases e : i = bandOf N x
    · subst e; rw [rupd_same]; exact h1.1
    · rw [rupd_ne _ _ e]; exact hS.mono i hi (hI i hi) ht1 (Nat.le_succ _)
  cT := by
    rintro w F s t n now ⟨Fs, h, hF⟩ hI ht0 ht1 ht2 hn
    refine (rbands_take now hS w h hI hn ht0 ht1 ht2).mono ?_
    rintro e w' ⟨u, rfl, Fs', hu, hb, hf, hk, ho⟩
    exact ⟨u, foot N B ob Fs', rfl, hu, ⟨Fs', hb, fun k => Iff.rfl⟩, fun k hk => by rw [hF]; exact hf k hk, fun k hk' => by rw [hF]; exact hk k hk', ho.mono (fun k _ h => (hF k).2 h)⟩
  iT := by
    intro (s : ∀ i, (Q i).σ) t n now hI ht0 ht1 ht2 hn
    have h1 := rtakeB_inv hS ht0 ht1 ht2 hn N 0 s [] (by omega) (fun j hj => by omega) (fun j _ hj => hI j hj) (by simp)
    have h8 := hS.eight
    exact ⟨h1.1, Nat.le_trans h1.2 (by omega)⟩
  cW := by
    rintro w F s t n now ⟨Fs, h, hF⟩ hI ht0 ht1 ht2 hn
    refine (rbands_when now hS w h hI hn ht0 ht1 ht2).mono ?_
    rintro e w' ⟨Fs', rfl, hb, hf, ho⟩
    exact ⟨foot N B ob Fs', rfl, ⟨Fs', hb, fun k => Iff.rfl⟩, fun k hk => by rw [hF]; exact hf k hk, ho.mono (fun k _ h => (hF k).2 h)⟩
  iW := by
    intro (s : ∀ i, (Q i).σ) t n now hI ht0 ht1 ht2 hn i hi
    show (Q i).inv now n ((rwhenTo s now N).1 i)
    rw [rwhenTo_lt s now N hi]
    exact (hS.fine i hi).iW now (hI i hi) ht0 ht1 ht2 hn
  cA := by
    rintro w F s t n ⟨Fs, h, hF⟩ hI hn
    exact rbands_all hS w h hI hn
end Go.Proofs.YtpjhiioecigfhaaDoor
