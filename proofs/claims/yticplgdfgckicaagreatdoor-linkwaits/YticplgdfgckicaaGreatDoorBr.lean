/-
  queue.NewBands: bands of queues; and bands as a queue as plain.Play asks it: their model. Conditions: one queue at least, eight at most; the queues' methods do what models of them tell (a premise).
-/
import Derived.Test.YticplgdfgckicaaGreatDoorBq
namespace Go.Proofs.YticplgdfgckicaaGreatDoor
open Go.RowKit Go.Extern.Stop Go.Stop Go.Extern

theorem mBandsP (a : Addr) (W : World) : (Go.method 393 136 (.pointer (some a)) "Put").run Tryz.prog W = .ok (196, .pointer (some a)) W := by kernel_rfl
theorem mBandsT (a : Addr) (W : World) : (Go.method 393 136 (.pointer (some a)) "Take").run Tryz.prog W = .ok (197, .pointer (some a)) W := by kernel_rfl
theorem mBandsW (a : Addr) (W : World) : (Go.method 393 136 (.pointer (some a)) "When").run Tryz.prog W = .ok (198, .pointer (some a)) W := by kernel_rfl
theorem mBandsL (a : Addr) (W : World) : (Go.method 393 136 (.pointer (some a)) "Len").run Tryz.prog W = .ok (195, .pointer (some a)) W := by kernel_rfl
theorem mBandsB (a : Addr) (W : World) : (Go.method 393 136 (.pointer (some a)) "Bytes").run Tryz.prog W = .ok (194, .pointer (some a)) W := by kernel_rfl
theorem eBandsP (args : Array Value) (W : World) : (callFunc 196 args).run Tryz.prog W = .ok (.enter 196 args) W := enters_of Tryz.func196 (by kernel_rfl) rfl args W
theorem eBandsT (args : Array Value) (W : World) : (callFunc 197 args).run Tryz.prog W = .ok (.enter 197 args) W := enters_of Tryz.func197 (by kernel_rfl) rfl args W
theorem eBandsW (args : Array Value) (W : World) : (callFunc 198 args).run Tryz.prog W = .ok (.enter 198 args) W := enters_of Tryz.func198 (by kernel_rfl) rfl args W
theorem eBandsL (args : Array Value) (W : World) : (callFunc 195 args).run Tryz.prog W = .ok (.enter 195 args) W := enters_of Tryz.func195 (by kernel_rfl) rfl args W
theorem eBandsB (args : Array Value) (W : World) : (callFunc 194 args).run Tryz.prog W = .ok (.enter 194 args) W := enters_of Tryz.func194 (by kernel_rfl) rfl args W

/-- Bands in block B of N queues. -/
def BandsM (Q : Nat → QM) (N B ob oo oc : Nat) : QM where
  σ := ∀ i, (Q i).σ
  ty := 136
  rv := .pointer (some ⟨B, 0, none⟩)
  fP := 196
  fT := 197
  fW := 198
  fL := 195
  fB := 194
  rP := .pointer (some ⟨B, 0, none⟩)
  rT := .pointer (some ⟨B, 0, none⟩)
  rW := .pointer (some ⟨B, 0, none⟩)
  rL := .pointer (some ⟨B, 0, none⟩)
  rB := .pointer (some ⟨B, 0, none⟩)
  At := fun w F s => ∃ Fs, BAt Q N B ob oo oc w Fs s ∧ ∀ k, F k ↔ foot N B ob Fs k
  put := fun s now x => (upd s (bandOf N x) ((Q (bandOf N x)).put (s (bandOf N x)) now x).1, ((Q (bandOf N x)).put (s (bandOf N x)) now x).2)
  take := fun s now => takeB now N 0 s []
  when := fun s now => whenTo s now N
  len := fun s => sumTo (fun i => (Q i).len (s i)) N
  bytes := fun s => sumTo (fun i => (Q i).bytes (s i)) N
  inv := fun t n s => ∀ i, i < N → (Q i).inv t n (s i)
theorem takeB_inv {Q : Nat → QM} {N : Nat} {t now : Int} {n : Nat} (hS : Small Q N) (h0 : 0 ≤ t) (h1 : t ≤ now) (h2 : now ≤ 20000000) (hn : n ≤ 1000) : ∀ (m i : Nat) (s : ∀ i, (Q i).σ) (acc : List Hd), m + i = N → (∀ j, j < i → (Q j).inv now n (s j)) → (∀ j, i ≤ j → j < N → (Q j).inv t n (s j)) → acc.length ≤ 100000 * i →
    (∀ j, j < N → (Q j).inv now n ((takeB now m i s acc).1 j)) ∧ (takeB now m i s acc).2.1.length ≤ 100000 * N := by
  intro m
  induction m with
  | zero =>
    intro i s acc hm hl _ ha
    obtain rfl : i = N := by omega
    exact ⟨hl, ha⟩
  | succ m ih =>
    intro i s acc hm hl hg ha
    have hi : i < N := by omega
    have hf := hS.few i hi now (hg i (Nat.le_refl _) hi) hn
    have hinv := (hS.fine i hi).iT now (hg i (Nat.le_refl _) hi) h0 h1 h2 hn
    have hlen : (acc ++ ((Q i).take (s i) now).2.1).length ≤ 100000 * (i + 1) := by rw [List.length_append]; omega
    have hl' : ∀ j, j < i + 1 → (Q j).inv now n (upd s i ((Q i).take (s i) now).1 j) := by
      intro j hj
      by_cases e : j = i
      · subst e; rw [upd_same]; exact hinv.1
      · rw [upd_ne _ _ e]; exact hl j (by omega)
    have hg' : ∀ j, i + 1 ≤ j → j < N → (Q j).inv t n (upd s i ((Q i).take (s i) now).1 j) := by
      intro j hj hjN
      rw [upd_ne _ _ (by omega)]; exact hg j (by omega) hjN
    simp only [takeB]
    split
    · refine ⟨fun j hj => ?_, Nat.le_trans hlen (by omega)⟩
      by_cases hji : j < i + 1
      · exact hl' j hji
      · exact hS.mono j hj (hg' j (by omega) hj) h1 (Nat.le_refl _)
    · exact ih (i + 1) _ _ (by omega) hl' hg' hlen
theorem bandsM_fine {Q : Nat → QM} {N B ob oo oc : Nat} (hS : Small Q N) : (BandsM Q N B ob oo oc).Fine where
  kept := by
    rintro w w' F s ⟨Fs, h, hF⟩ hk
    exact ⟨Fs, h.kept hS.fine (fun k hf => hk k ((hF k).2 hf)), hF⟩
  low := by
    rintro w F s ⟨Fs, h, hF⟩ k hk
    exact h.low hS.fine k ((hF k).1 hk)
  mP := mBandsP _
  mT := mBandsT _
  mW := mBandsW _
  mL := mBandsL _
  mB := mBandsB _
  eP := eBandsP
  eT := eBandsT
  eW := eBandsW
  eL := eBandsL
  eB := eBandsB
  cP := by
    rintro w F s t n now x ⟨Fs, h, hF⟩ hI ht0 ht1 ht2 hok hxa hxn hn
    refine (bands_put now x hS w h hI ht0 ht1 ht2 hok hxa hxn hn).mono ?_
    rintro e w' ⟨u, rfl, Fs', hu, hb, hf, hk, ho⟩
    exact ⟨u, foot N B ob Fs', rfl, hu, ⟨Fs', hb, fun k => Iff.rfl⟩, fun k hk => by rw [hF]; exact hf k hk, fun k hk' => by rw [hF]; exact hk k hk', ho.mono (fun k _ h => (hF k).2 h)⟩
  iP := by
    intro (s : ∀ i, (Q i).σ) t n now x hI ht0 ht1 ht2 hok hxa hxn hn
    have hj := bandOf_lt hS.one x
    have h1 := (hS.fine _ hj).iP now x (hI _ hj) ht0 ht1 ht2 hok hxa hxn hn
    refine ⟨fun i hi => ?_, h1.2⟩
    show (Q i).inv now (n + 1) (upd s (bandOf N x) ((Q (bandOf N x)).put (s (bandOf N x)) now x).1 i)
    by_cases e : i = bandOf N x
    · subst e; rw [upd_same]; exact h1.1
    · rw [upd_ne _ _ e]; exact hS.mono i hi (hI i hi) ht1 (Nat.le_succ _)
  cT := by
    rintro w F s t n now ⟨Fs, h, hF⟩ hI ht0 ht1 ht2 hn
    refine (bands_take now hS w h hI hn ht0 ht1 ht2).mono ?_
    rintro e w' ⟨u, rfl, Fs', hu, hb, hf, hk, ho⟩
    exact ⟨u, foot N B ob Fs', rfl, hu, ⟨Fs', hb, fun k => Iff.rfl⟩, fun k hk => by rw [hF]; exact hf k hk, fun k hk' => by rw [hF]; exact hk k hk', ho.mono (fun k _ h => (hF k).2 h)⟩
  iT := by
    intro (s : ∀ i, (Q i).σ) t n now hI ht0 ht1 ht2 hn
    have h1 := takeB_inv hS ht0 ht1 ht2 hn N 0 s [] (by omega) (fun j hj => by omega) (fun j _ hj => hI j hj) (by simp)
    have h8 := hS.eight
    exact ⟨h1.1, Nat.le_trans h1.2 (by omega)⟩
  cW := by
    rintro w F s t n now ⟨Fs, h, hF⟩ hI ht0 ht1 ht2 hn
    refine (bands_when now hS w h hI hn ht0 ht1 ht2).mono ?_
    rintro e w' ⟨Fs', rfl, hb, hf, ho⟩
    exact ⟨foot N B ob Fs', rfl, ⟨Fs', hb, fun k => Iff.rfl⟩, fun k hk => by rw [hF]; exact hf k hk, ho.mono (fun k _ h => (hF k).2 h)⟩
  iW := by
    intro (s : ∀ i, (Q i).σ) t n now hI ht0 ht1 ht2 hn i hi
    show (Q i).inv now n ((whenTo s now N).1 i)
    rw [whenTo_lt s now N hi]
    exact (hS.fine i hi).iW now (hI i hi) ht0 ht1 ht2 hn
  cL := by
    rintro w F s t n ⟨Fs, h, hF⟩ hI hn
    exact bands_len hS w h hI hn
  cB := by
    rintro w F s t n ⟨Fs, h, hF⟩ hI hn
    exact bands_bytes hS w h hI hn
end Go.Proofs.YticplgdfgckicaaGreatDoor
