/-
  millraceref.Delayed as millracelaw.played asks it: its model; it agrees with the program's Delay. Conditions: room and span within their bounds.
-/
import Derived.Test.YtljciioooojpeaaDoorRl7
import Derived.Test.YtljciioooojpeaaDoorPd
namespace Go.Proofs.YtljciioooojpeaaDoor
open Go.RowKit Go.Extern.Stop Go.Stop Go.Extern

theorem rtake_any {b : Nat} {P R T S : Int} {v av : Value} {s : DlS} (now : Int) (w : World) (h : QP w b P R T S v av s) (hF : Fit s.L) (hS : 0 ≤ S) (hS1 : S ≤ 1000000) (hn0 : 0 ≤ now) (hn1 : now ≤ 1000000) (ha : ∀ x ∈ s.L, 0 ≤ x.a ∧ x.a ≤ 1000000) (hc0 : 0 ≤ s.count) (hc1 : s.count + s.L.length ≤ 900000) (hx0 : 0 ≤ s.next) (hx1 : s.next ≤ 10000000000) :
    Calls Tryd.prog 87 #[.pointer (some ⟨b, 0, none⟩), .int .i64 now] w fun e w' => ∃ u v' av', e = .returned (.tuple #[(takeD T S s now).2.2.1.val, u, .bool (takeD T S s now).2.2.2]) ∧ QTk w b P R T S v av (takeD T S s now) u w' v' av' := by
  cases hbad : (pullD T S s now).2.2.2 with
  | false => exact rtake_plain now w h hF hS hS1 hn0 hn1 ha hbad
  | true =>
    cases hth : s.throws with
    | false => exact rtake_begin now w h hF hS hS1 hn0 hn1 ha hc0 hc1 hx0 hx1 hbad hth
    | true => exact rtake_go now w h hF hS hS1 hn0 hn1 ha hc0 hc1 hx0 hx1 hbad hth
theorem mRDelP (a : Addr) (W : World) : (Go.method 314 39 (.pointer (some ⟨a.block, 0, none⟩)) "Put").run Tryd.prog W = .ok (86, .pointer (some ⟨a.block, 0, none⟩)) W := by kernel_rfl
theorem mRDelT (a : Addr) (W : World) : (Go.method 314 39 (.pointer (some ⟨a.block, 0, none⟩)) "Take").run Tryd.prog W = .ok (87, .pointer (some ⟨a.block, 0, none⟩)) W := by kernel_rfl
theorem mRDelW (a : Addr) (W : World) : (Go.method 314 39 (.pointer (some ⟨a.block, 0, none⟩)) "When").run Tryd.prog W = .ok (88, .pointer (some ⟨a.block, 0, none⟩)) W := by kernel_rfl
theorem mRDelA (a : Addr) (W : World) : (Go.method 314 39 (.pointer (some ⟨a.block, 0, none⟩)) "All").run Tryd.prog W = .ok (85, .pointer (some ⟨a.block, 0, none⟩)) W := by kernel_rfl
theorem eRDelT (args : Array Value) (W : World) : (callFunc 87 args).run Tryd.prog W = .ok (.enter 87 args) W := enters_of Tryd.func87 (by kernel_rfl) rfl args W
/-- The reference's Delayed in block b. -/
def RDelM (b : Nat) (P R T S : Int) : RM where
  σ := DlS
  ty := 39
  rv := .pointer (some ⟨b, 0, none⟩)
  fP := 86
  fT := 87
  fW := 88
  fA := 85
  rP := .pointer (some ⟨b, 0, none⟩)
  rT := .pointer (some ⟨b, 0, none⟩)
  rW := .pointer (some ⟨b, 0, none⟩)
  rA := .pointer (some ⟨b, 0, none⟩)
  At := fun w F s => ∃ v av, QP w b P R T S v av s ∧ ∀ k, F k ↔ k = b ∨ v.ownBlock = some k ∨ av.ownBlock = some k
  put := fun s _ x => ({ s with L := (putF P R false s.L x).2 }, (putF P R false s.L x).1)
  take := fun s now => takeD T S s now
  when := fun s now => (s, now, !s.L.isEmpty)
  all := fun s => s.L
  inv := fun _ n s => (s.L.length ≤ n ∧ ∀ x ∈ s.L, x.ok = true) ∧ (∀ x ∈ s.L, 0 ≤ x.a ∧ x.a ≤ 1000000) ∧ 0 ≤ s.count ∧ s.count + s.L.length ≤ n ∧ 0 ≤ s.next ∧ s.next ≤ 10000000000
theorem rdelM_fine (b : Nat) (P R T S : Int) (hP : 0 ≤ P) (hR : 0 ≤ R) (hR1 : R ≤ 1000000) (hS : 0 ≤ S) (hS1 : S ≤ 1000000) : (RDelM b P R T S).Fine where
  kept := by
    rintro w w' F s ⟨v, av, h, hF⟩ hk
    have hb := hk b ((hF b).2 (Or.inl rfl))
    refine ⟨v, av, ⟨RAt.kept h.pos hb (fun k hv => hk k ((hF k).2 (Or.inr (Or.inl hv)))), h.anone, fun hl => ?_, h.nb, h.nv, fun k hv => ?_⟩, hF⟩
    · obtain ⟨g, rfl, hg⟩ := h.asome hl
      exact ⟨g, rfl, (hk g ((hF g).2 (Or.inr (Or.inr rfl)))).trans hg⟩
    · have e1 := hk k ((hF k).2 (Or.inr (Or.inr hv)))
      have e2 := h.low k hv
      rcases Nat.lt_or_ge k w'.heap.size with h3 | h3
      · exact h3
      · rw [Array.getElem?_eq_none h3] at e1
        rw [Array.getElem?_eq_getElem e2] at e1
        cases e1
  low := by
    rintro w F s ⟨v, av, h, hF⟩ k hk
    rcases (hF k).1 hk with rfl | hv | hv
    · exact RAt.lt h.pos
    · exact h.pos.row.lt hv
    · exact h.low k hv
  mP := mRDelP ⟨b, 0, none⟩
  mT := mRDelT ⟨b, 0, none⟩
  mW := mRDelW ⟨b, 0, none⟩
  mA := mRDelA ⟨b, 0, none⟩
  eP := eRFifoP
  eT := eRDelT
  eW := eRFifoW
  eA := eRFifoA
  cP := by
    rintro w F (s : DlS) t n now x ⟨v, av, h, hF⟩ hI ht0 ht1 ht2 hok hxa hxn hn
    have hfit : Fit (s.L ++ [x]) := fit_of (n := n + 1) ⟨by simpa using hI.1.1, fun y hy => by rcases List.mem_append.1 hy with h | h; exact hI.1.2 y h; simp at h; exact h ▸ hok⟩ (by omega)
    refine (rfifo_put now x w h.pos hfit hP hR).mono ?_
    rintro e w' ⟨u, v', rfl, hp⟩
    have hsz := hp.ot.size
    refine ⟨u, fun k => k = b ∨ v'.ownBlock = some k ∨ av.ownBlock = some k, rfl, hp.lost, ⟨v', av, ⟨hp.list, h.anone, fun hl => ?_, h.nb, fun k hk e => ?_, fun k hk => Nat.lt_of_lt_of_le (h.low k hk) hsz⟩, fun k => Iff.rfl⟩, ?_, fun k hk => Or.inr (hp.new k hk), hp.ot.mono (fun k _ h => (hF k).2 (by rcases h with h | h; exact Or.inl h; exact Or.inr (Or.inl h)))⟩
    · obtain ⟨g, rfl, hg⟩ := h.asome hl
      refine ⟨g, rfl, (hp.ot.block g (h.low g rfl) ?_).trans hg⟩
      rintro (e | e)
      · exact h.nb (by rw [← e]; rfl)
      · exact h.nv g rfl e
    · rcases hp.own k e with h1 | h1
      · exact h.nv k hk h1
      · have := h.low k hk; omega
    · intro k hk'
      rcases hk' with rfl | h1 | h1
      · exact Or.inl ((hF _).2 (Or.inl rfl))
      · rcases hp.own k h1 with h1 | h1
        · exact Or.inl ((hF k).2 (Or.inr (Or.inl h1)))
        · exact Or.inr h1
      · exact Or.inl ((hF k).2 (Or.inr (Or.inr h1)))
  iP := (delayM_fine b P R T S hP hR hR1 hS hS1).iP
  cT := by
    rintro w F (s : DlS) t n now ⟨v, av, h, hF⟩ hI ht0 ht1 ht2 hn
    obtain ⟨i1, i3, i4, i5, i6, i7⟩ := hI
    refine (rtake_any now w h (fit_of i1 (by omega)) hS hS1 (by omega) ht2 i3 i4 (by omega) i6 i7).mono ?_
    rintro e w' ⟨u, v', av', rfl, hq⟩
    refine ⟨u, fun k => k = b ∨ v'.ownBlock = some k ∨ av'.ownBlock = some k, rfl, hq.lost, ⟨v', av', hq.pos, fun k => Iff.rfl⟩, ?_, fun k hk => Or.inr (hq.new k hk), hq.ot.mono (fun k _ h => (hF k).2 (Or.inl h))⟩
    intro k hk'
    rcases hk' with rfl | h1 | h1
    · exact Or.inl ((hF _).2 (Or.inl rfl))
    · rcases hq.own k h1 with h1 | h1
      · exact Or.inl ((hF k).2 (Or.inr (Or.inl h1)))
      · exact Or.inr h1
    · rcases hq.aown k h1 with h1 | h1
      · exact Or.inl ((hF k).2 (Or.inr (Or.inr h1)))
      · exact Or.inr h1
  iT := (delayM_fine b P R T S hP hR hR1 hS hS1).iT
  cW := by
    rintro w F (s : DlS) t n now ⟨v, av, h, hF⟩ hI ht0 ht1 ht2 hn
    refine (rfifo_when now w h.pos).mono ?_
    rintro e w' ⟨rfl, q, rfl⟩
    exact ⟨F, rfl, ⟨v, av, h.drewN q, hF⟩, fun k hk => Or.inl hk, (Ot.refl _ _).drewN q⟩
  iW := by
    intro (s : DlS) t n now hI ht0 ht1 ht2 hn
    exact hI
  cA := by
    rintro w F (s : DlS) t n ⟨v, av, h, hF⟩ hI hn
    refine (rfifo_all w h.pos).mono ?_
    rintro e w' ⟨rfl, rfl⟩
    exact ⟨v, rfl, h.pos.row, fit_of hI.1 (by omega), Below.refl _ _⟩
theorem delay_agree (b b' : Nat) (P R T S : Int) : Agree (DelayM b P R T S) (RDelM b' P R T S) (fun (s : DlS) (r : DlS) => s = r) where
  put := by
    rintro (s : DlS) (r : DlS) t n now x rfl _ _ _ _ _ _ _ _ _
    exact ⟨rfl, rfl⟩
  take := by
    rintro (s : DlS) (r : DlS) t n now rfl _ _ _ _ _ _
    exact ⟨rfl, rfl⟩
  when := by
    rintro (s : DlS) (r : DlS) t n now rfl _ _ _ _ _ _
    exact ⟨rfl, fun _ => rfl, rfl⟩
  len := by
    rintro (s : DlS) (r : DlS) t n rfl _ _
    exact ⟨rfl, rfl⟩
end Go.Proofs.YtljciioooojpeaaDoor
