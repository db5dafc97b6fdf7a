/-
  early: a Red is a queue as plain.Play and millracelaw.played ask it: its model. Conditions: room and setup within their bounds.
-/
import Derived.Test.YtejomfmbhifeaaaDoorRd7
import Derived.Test.YtejomfmbhifeaaaDoorFm
namespace Go.Proofs.YtejomfmbhifeaaaDoor
open Go.RowKit Go.Extern.Stop Go.Stop Go.Extern

theorem mRedP (a : Addr) (W : World) : (Go.method 314 29 (.pointer (some ⟨a.block, 0, none⟩)) "Put").run Tryd.prog W = .ok (72, .pointer (some ⟨a.block, 0, none⟩)) W := by kernel_rfl
theorem mRedT (a : Addr) (W : World) : (Go.method 314 29 (.pointer (some ⟨a.block, 0, none⟩)) "Take").run Tryd.prog W = .ok (73, .pointer (some ⟨a.block, 0, none⟩)) W := by kernel_rfl
theorem mRedW (a : Addr) (W : World) : (Go.method 314 29 (.pointer (some ⟨a.block, 0, none⟩)) "When").run Tryd.prog W = .ok (74, .pointer (some ⟨a.block, 0, none⟩)) W := by kernel_rfl
theorem mRedL (a : Addr) (W : World) : (Go.method 314 29 (.pointer (some ⟨a.block, 0, none⟩)) "Len").run Tryd.prog W = .ok (71, .pointer (some ⟨a.block, 0, none⟩)) W := by kernel_rfl
theorem mRedB (a : Addr) (W : World) : (Go.method 314 29 (.pointer (some ⟨a.block, 0, none⟩)) "Bytes").run Tryd.prog W = .ok (70, .pointer (some ⟨a.block, 0, none⟩)) W := by kernel_rfl
theorem eRedP (args : Array Value) (W : World) : (callFunc 72 args).run Tryd.prog W = .ok (.enter 72 args) W := enters_of Tryd.func72 (by kernel_rfl) rfl args W
/-- A Red in block b. -/
def RedM (b : Nat) (P R : Int) (q : RSet) : QM where
  σ := RdS
  ty := 29
  rv := .pointer (some ⟨b, 0, none⟩)
  fP := 72
  fT := 73
  fW := 74
  fL := 71
  fB := 70
  rP := .pointer (some ⟨b, 0, none⟩)
  rT := .pointer (some ⟨b, 0, none⟩)
  rW := .pointer (some ⟨b, 0, none⟩)
  rL := .pointer (some ⟨b, 0, none⟩)
  rB := .pointer (some ⟨b, 0, none⟩)
  At := fun w F s => ∃ v tv, RedP w b P R q v tv s ∧ ∀ k, F k ↔ k = b ∨ v.ownBlock = some k ∨ tv.ownBlock = some k
  put := fun s _ x => putR P R q s x
  take := fun s _ => ({ s with L := s.L.tail }, [], hdOr s.L, !s.L.isEmpty)
  when := fun s now => (s, now, !s.L.isEmpty)
  len := fun s => s.L.length
  bytes := fun s => sumL s.L
  inv := fun _ n s => s.L.length ≤ n ∧ (∀ x ∈ s.L, 0 ≤ x.l ∧ x.l ≤ 10000) ∧ (0 ≤ s.since ∧ s.since ≤ n) ∧ 0 ≤ s.sum ∧ s.sum ≤ 10000000 * n
theorem putR_L {P R : Int} {q : RSet} {s : RdS} {x : Hd} (h0 : 0 ≤ s.since) : (∀ y ∈ (putR P R q s x).1.L, y ∈ s.L ∨ y = x ∨ y = marked x) ∧ (putR P R q s x).1.L.length ≤ s.L.length + 1 ∧ (putR P R q s x).2.length ≤ 1 + s.L.length ∧ (putR P R q s x).1.sum = s.sum + (sumL s.L - meanR q s.sum) ∧ 0 ≤ (putR P R q s x).1.since ∧ (putR P R q s x).1.since ≤ s.since + 1 := by
  obtain ⟨e1, e2, e3, e4⟩ := hitR_L q (sumR q s) h0
  have e2' : (hitR q (sumR q s)).2.sum = s.sum + (sumL s.L - meanR q s.sum) := e2
  have e1' : (hitR q (sumR q s)).2.L = s.L := e1
  have e4' : (hitR q (sumR q s)).2.since ≤ s.since + 1 := e4
  unfold putR
  split
  · split
    · obtain ⟨h1, h2, h3⟩ := putF_mem (P := P) (R := R) (hd := false) (L := s.L) (x := marked x)
      refine ⟨fun y hy => ?_, h2, by show (putF P R false s.L (marked x)).1.length ≤ _; omega, e2', e3, e4'⟩
      rcases List.mem_append.1 (h1 y hy) with h | h
      · exact Or.inl h
      · simp at h; exact Or.inr (Or.inr h)
    · refine ⟨fun y hy => Or.inl ?_, ?_, by simp, e2', e3, e4'⟩
      · rw [e1'] at hy; exact hy
      · show (hitR q (sumR q s)).2.L.length ≤ _; rw [e1']; omega
  · obtain ⟨h1, h2, h3⟩ := putF_mem (P := P) (R := R) (hd := false) (L := s.L) (x := x)
    refine ⟨fun y hy => ?_, h2, by show (putF P R false s.L x).1.length ≤ _; omega, e2', e3, e4'⟩
    rcases List.mem_append.1 (h1 y hy) with h | h
    · exact Or.inl h
    · simp at h; exact Or.inr (Or.inl h)
theorem redM_fine (b : Nat) (P R : Int) (q : RSet) (hq : q.Ok) (hP : 0 ≤ P) (hR : 0 ≤ R) (hR1 : R ≤ 1000000) : (RedM b P R q).Fine where
  kept := by
    rintro w w' F s ⟨v, tv, h, hF⟩ hk
    exact ⟨v, tv, h.kept (hk b ((hF b).2 (Or.inl rfl))) (fun k hv => hk k ((hF k).2 (Or.inr (Or.inl hv)))) (fun k hv => hk k ((hF k).2 (Or.inr (Or.inr hv)))), hF⟩
  low := by
    rintro w F s ⟨v, tv, h, hF⟩ k hk
    rcases (hF k).1 hk with rfl | hv | hv
    · exact LAt.lt h.pos
    · exact h.pos.row.lt hv
    · exact Seg.lt h.tape hv
  mP := mRedP ⟨b, 0, none⟩
  mT := mRedT ⟨b, 0, none⟩
  mW := mRedW ⟨b, 0, none⟩
  mL := mRedL ⟨b, 0, none⟩
  mB := mRedB ⟨b, 0, none⟩
  eP := eRedP
  eT := eFifoT
  eW := eFifoW
  eL := eFifoL
  eB := eFifoB
  cP := by
    rintro w F (s : RdS) t n now x ⟨v, tv, h, hF⟩ hI ht0 ht1 ht2 hok hxa hxn hn
    obtain ⟨i1, i2, i3, i4, i5⟩ := hI
    have hxl := ok_len hok
    have hfit : Fit (s.L ++ [x]) := ⟨by simp; omega, fun y hy => by rcases List.mem_append.1 hy with h | h; exact i2 y h; simp at h; subst h; omega⟩
    refine (rput_any now x w h hq hfit hP hR hR1 i3.1 (by omega) i4 (by omega)).mono ?_
    rintro e w' ⟨u, v', tv', rfl, hu, hr, hk, hkt, hn', ho⟩
    refine ⟨u, fun k => k = b ∨ v'.ownBlock = some k ∨ tv'.ownBlock = some k, rfl, hu, ⟨v', tv', hr, fun k => Iff.rfl⟩, ?_, fun k hk => Or.inr (hn' k hk), ho.mono (fun k _ h => ?_)⟩
    · intro k hk'
      rcases hk' with rfl | h | h
      · exact Or.inl ((hF _).2 (Or.inl rfl))
      · rcases hk k h with h | h
        · exact Or.inl ((hF k).2 (Or.inr (Or.inl h)))
        · exact Or.inr h
      · exact Or.inl ((hF k).2 (Or.inr (Or.inr (by rw [← hkt]; exact h))))
    · rcases h with h | h
      · exact (hF k).2 (Or.inl h)
      · exact (hF k).2 (Or.inr (Or.inl h))
  iP := by
    intro (s : RdS) t n now x hI ht0 ht1 ht2 hok hxa hxn hn
    obtain ⟨i1, i2, i3, i4, i5⟩ := hI
    have hxl := ok_len hok
    obtain ⟨h1, h2, h3, h4, h5, h6⟩ := putR_L (P := P) (R := R) (q := q) (s := s) (x := x) i3.1
    have hsum := Fit.sum i2
    have hm := meanR_bd q i4
    refine ⟨⟨by show (putR P R q s x).1.L.length ≤ n + 1; omega, fun y hy => ?_, ⟨h5, by show (putR P R q s x).1.since ≤ _; omega⟩, ?_, ?_⟩, by show (putR P R q s x).2.length ≤ _; omega⟩
    · rcases h1 y hy with h | h | h
      · exact i2 y h
      · subst h; omega
      · subst h; show 0 ≤ x.l ∧ x.l ≤ 10000; omega
    · show 0 ≤ (putR P R q s x).1.sum
      rw [h4]; omega
    · show (putR P R q s x).1.sum ≤ 10000000 * ((n + 1 : Nat) : Int)
      rw [h4]; omega
  cT := by
    rintro w F (s : RdS) t n now ⟨v, tv, h, hF⟩ hI ht0 ht1 ht2 hn
    obtain ⟨i1, i2, i3, i4, i5⟩ := hI
    refine (fifo_take now w h.pos ⟨by omega, i2⟩).mono ?_
    rintro e w' ⟨rfl, v', hl, hk, ho⟩
    refine ⟨_, F, rfl, Hs.nil _, ⟨v', tv, ⟨hl, Seg.oth h.tape ho (fun k hk' e => h.tb (by rw [← e]; exact hk')), h.tb, fun k hk' => by rw [hk]; exact h.tvv k hk'⟩, fun k => by rw [hF, hk]⟩, fun k hk => Or.inl hk, fun k hk => by simp [Value.ownBlock] at hk, ho.mono (fun k _ h => (hF k).2 (Or.inl h))⟩
  iT := by
    intro (s : RdS) t n now hI ht0 ht1 ht2 hn
    obtain ⟨i1, i2, i3, i4, i5⟩ := hI
    exact ⟨⟨by show s.L.tail.length ≤ n; rw [List.length_tail]; omega, fun y hy => i2 y (List.mem_of_mem_tail hy), i3, i4, i5⟩, by simp [RedM]⟩
  cW := by
    rintro w F (s : RdS) t n now ⟨v, tv, h, hF⟩ hI ht0 ht1 ht2 hn
    refine (fifo_when now w h.pos).mono ?_
    rintro e w' ⟨rfl, rfl⟩
    exact ⟨F, rfl, ⟨v, tv, h, hF⟩, fun k hk => Or.inl hk, Ot.refl _ _⟩
  iW := by
    intro (s : RdS) t n now hI ht0 ht1 ht2 hn
    exact hI
  cL := by
    rintro w F (s : RdS) t n ⟨v, tv, h, hF⟩ hI hn
    exact (len_any w h.pos).mono (by rintro e w' ⟨rfl, rfl⟩; exact ⟨rfl, Below.refl _ _⟩)
  cB := by
    rintro w F (s : RdS) t n ⟨v, tv, h, hF⟩ hI hn
    exact (bytes_any w h.pos).mono (by rintro e w' ⟨rfl, rfl⟩; exact ⟨rfl, Below.refl _ _⟩)
end Go.Proofs.YtejomfmbhifeaaaDoor
