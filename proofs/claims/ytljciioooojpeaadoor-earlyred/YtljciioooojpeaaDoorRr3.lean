/-
  millraceref.Red as millracelaw.played asks it: its model; it agrees with the program's Red; the question whether both means are the same. Conditions: room and setup within their bounds.
-/
import Derived.Test.YtljciioooojpeaaDoorRr2
import Derived.Test.YtljciioooojpeaaDoorPd
namespace Go.Proofs.YtljciioooojpeaaDoor
open Go.RowKit Go.Extern.Stop Go.Stop Go.Extern

theorem mRRedP (a : Addr) (W : World) : (Go.method 314 54 (.pointer (some ⟨a.block, 0, none⟩)) "Put").run Tryd.prog W = .ok (97, .pointer (some ⟨a.block, 0, none⟩)) W := by kernel_rfl
theorem mRRedT (a : Addr) (W : World) : (Go.method 314 54 (.pointer (some ⟨a.block, 0, none⟩)) "Take").run Tryd.prog W = .ok (91, .pointer (some ⟨a.block, 0, none⟩)) W := by kernel_rfl
theorem mRRedW (a : Addr) (W : World) : (Go.method 314 54 (.pointer (some ⟨a.block, 0, none⟩)) "When").run Tryd.prog W = .ok (88, .pointer (some ⟨a.block, 0, none⟩)) W := by kernel_rfl
theorem mRRedA (a : Addr) (W : World) : (Go.method 314 54 (.pointer (some ⟨a.block, 0, none⟩)) "All").run Tryd.prog W = .ok (85, .pointer (some ⟨a.block, 0, none⟩)) W := by kernel_rfl
theorem eRRedP (args : Array Value) (W : World) : (callFunc 97 args).run Tryd.prog W = .ok (.enter 97 args) W := enters_of Tryd.func97 (by kernel_rfl) rfl args W
/-- The reference's Red in block b, its tape as in w0. -/
def RRedM (w0 : World) (b : Nat) (P R : Int) (q : RSet) (px : Option Addr) (m pcap : Nat) (f : Nat → Int) : RM where
  σ := RdS × Nat
  ty := 54
  rv := .pointer (some ⟨b, 0, none⟩)
  fP := 97
  fT := 91
  fW := 88
  fA := 85
  rP := .pointer (some ⟨b, 0, none⟩)
  rT := .pointer (some ⟨b, 0, none⟩)
  rW := .pointer (some ⟨b, 0, none⟩)
  rA := .pointer (some ⟨b, 0, none⟩)
  At := fun w F s => ∃ v used, XP w0 w b P R q px m pcap f v s.1 used ∧ used ≤ s.2 ∧ ∀ k, F k ↔ k = b ∨ v.ownBlock = some k ∨ TB px m k
  put := fun s _ x => (((putR P R q s.1 x).1, s.2 + 1), (putR P R q s.1 x).2)
  take := fun s _ => (({ s.1 with L := s.1.L.tail }, s.2), [], hdOr s.1.L, !s.1.L.isEmpty)
  when := fun s now => (s, now, !s.1.L.isEmpty)
  all := fun s => s.1.L
  inv := fun t n s => (RedM 0 P R q).inv t n s.1 ∧ s.2 ≤ n
theorem rredM_fine (w0 : World) (b : Nat) (P R : Int) (q : RSet) (px : Option Addr) (m pcap : Nat) (f : Nat → Int) (hq : q.Ok) (hP : 0 ≤ P) (hR : 0 ≤ R) (hR1 : R ≤ 1000000) : (RRedM w0 b P R q px m pcap f).Fine where
  kept := by
    rintro w w' F s ⟨v, used, h, hu, hF⟩ hk
    exact ⟨v, used, h.kept (hk b ((hF b).2 (Or.inl rfl))) (fun k hv => hk k ((hF k).2 (Or.inr (Or.inl hv)))) (fun k hv => hk k ((hF k).2 (Or.inr (Or.inr hv)))), hu, hF⟩
  low := by
    rintro w F s ⟨v, used, h, hu, hF⟩ k hk
    rcases (hF k).1 hk with rfl | hv | hv
    · exact RAt.lt h.pos
    · exact h.pos.row.lt hv
    · exact h.lt hv
  mP := mRRedP ⟨b, 0, none⟩
  mT := mRRedT ⟨b, 0, none⟩
  mW := mRRedW ⟨b, 0, none⟩
  mA := mRRedA ⟨b, 0, none⟩
  eP := eRRedP
  eT := eRFifoT
  eW := eRFifoW
  eA := eRFifoA
  cP := by
    rintro w F (s : RdS × Nat) t n now x ⟨v, used, h, hu, hF⟩ hI ht0 ht1 ht2 hok hxa hxn hn
    obtain ⟨⟨i1, i2, i3, i4, i5⟩, i6⟩ := hI
    have hxl := ok_len hok
    have hfit : Fit (s.1.L ++ [x]) := ⟨by simp; omega, fun y hy => by rcases List.mem_append.1 hy with h | h; exact i2 y h; simp at h; subst h; omega⟩
    refine (rrput_any now x w h hq hfit hP hR i3.1 (by omega) i4 (by omega) (by omega)).mono ?_
    rintro e w' ⟨u, v', used', rfl, hp⟩
    have hus := hp.use
    refine ⟨u, fun k => k = b ∨ v'.ownBlock = some k ∨ TB px m k, rfl, hp.lost, ⟨v', used', hp.pos, by show used' ≤ s.2 + 1; omega, fun k => Iff.rfl⟩, ?_, fun k hk => Or.inr (hp.new k hk), hp.ot.mono (fun k _ h => ?_)⟩
    · intro k hk'
      rcases hk' with rfl | h | h
      · exact Or.inl ((hF _).2 (Or.inl rfl))
      · rcases hp.own k h with h | h
        · exact Or.inl ((hF k).2 (Or.inr (Or.inl h)))
        · exact Or.inr h
      · exact Or.inl ((hF k).2 (Or.inr (Or.inr h)))
    · rcases h with h | h
      · exact (hF k).2 (Or.inl h)
      · exact (hF k).2 (Or.inr (Or.inl h))
  iP := by
    intro (s : RdS × Nat) t n now x hI ht0 ht1 ht2 hok hxa hxn hn
    obtain ⟨h1, h2⟩ := (redM_fine 0 P R q hq hP hR hR1).iP now x hI.1 ht0 ht1 ht2 hok hxa hxn hn
    exact ⟨⟨h1, by show s.2 + 1 ≤ n + 1; have := hI.2; omega⟩, h2⟩
  cT := by
    rintro w F (s : RdS × Nat) t n now ⟨v, used, h, hu, hF⟩ hI ht0 ht1 ht2 hn
    obtain ⟨⟨i1, i2, i3, i4, i5⟩, i6⟩ := hI
    refine (rfifo_take now w h.pos ⟨by omega, i2⟩).mono ?_
    rintro e w' ⟨rfl, v', hp⟩
    refine ⟨_, fun k => k = b ∨ v'.ownBlock = some k ∨ TB px m k, rfl, Ps.nil _, ⟨v', used, ⟨hp.list, h.tape, h.row, fun k hk => (hp.ot.block k (h.lt hk) (fun e => h.nb (by rw [← e]; exact hk))).trans (h.same k hk), h.nb, fun k hk e => ?_, h.ub⟩, hu, fun k => Iff.rfl⟩, ?_, fun k hk => by simp [Value.ownBlock] at hk, hp.ot.mono (fun k _ h => (hF k).2 (Or.inl h))⟩
    · rcases hp.own k e with h1 | h1
      · exact h.nv k hk h1
      · have := h.lt hk; omega
    · intro k hk'
      rcases hk' with rfl | h | h
      · exact Or.inl ((hF _).2 (Or.inl rfl))
      · rcases hp.own k h with h | h
        · exact Or.inl ((hF k).2 (Or.inr (Or.inl h)))
        · exact Or.inr h
      · exact Or.inl ((hF k).2 (Or.inr (Or.inr h)))
  iT := by
    intro (s : RdS × Nat) t n now hI ht0 ht1 ht2 hn
    obtain ⟨h1, h2⟩ := (redM_fine 0 P R q hq hP hR hR1).iT now hI.1 ht0 ht1 ht2 hn
    exact ⟨⟨h1, hI.2⟩, h2⟩
  cW := by
    rintro w F (s : RdS × Nat) t n now ⟨v, used, h, hu, hF⟩ hI ht0 ht1 ht2 hn
    refine (rfifo_when now w h.pos).mono ?_
    rintro e w' ⟨rfl, c, rfl⟩
    exact ⟨F, rfl, ⟨v, used, h.drewN c, hu, hF⟩, fun k hk => Or.inl hk, (Ot.refl _ _).drewN c⟩
  iW := by
    intro (s : RdS × Nat) t n now hI ht0 ht1 ht2 hn
    exact hI
  cA := by
    rintro w F (s : RdS × Nat) t n ⟨v, used, h, hu, hF⟩ hI hn
    refine (rfifo_all w h.pos).mono ?_
    rintro e w' ⟨rfl, rfl⟩
    exact ⟨v, rfl, h.pos.row, ⟨by have h1 := hI.1.1; show s.1.L.length ≤ _; omega, hI.1.2.1⟩, Below.refl _ _⟩
theorem red_agree (w0 : World) (b b' : Nat) (P R : Int) (q : RSet) (px : Option Addr) (m pcap : Nat) (f : Nat → Int) : Agree (RedM b P R q) (RRedM w0 b' P R q px m pcap f) (fun (s : RdS) (r : RdS × Nat) => s = r.1) where
  put := by
    rintro (s : RdS) (r : RdS × Nat) t n now x rfl _ _ _ _ _ _ _ _ _
    exact ⟨rfl, rfl⟩
  take := by
    rintro (s : RdS) (r : RdS × Nat) t n now rfl _ _ _ _ _ _
    exact ⟨rfl, rfl⟩
  when := by
    rintro (s : RdS) (r : RdS × Nat) t n now rfl _ _ _ _ _ _
    exact ⟨rfl, fun _ => rfl, rfl⟩
  len := by
    rintro (s : RdS) (r : RdS × Nat) t n rfl _ _
    exact ⟨rfl, rfl⟩
theorem eRedQ (args : Array Value) (W : World) : (callFunc 13 args).run Tryd.prog W = .ok (.enter 13 args) W := enters_of Tryd.func13 (by kernel_rfl) rfl args W
set_option maxHeartbeats 1000000 in
theorem redQ_any {w0 : World} {b b' : Nat} {P R : Int} {q : RSet} {px : Option Addr} {m pcap : Nat} {f : Nat → Int} {v tv v' : Value} {s : RdS} {used : Nat} {c c' : Nat} (w : World) (h : RedP w b P R q v tv s) (h' : XP w0 w b' P R q px m pcap f v' s used) (hq : q.Ok) (h0 : 0 ≤ s.sum) (h1 : s.sum ≤ 1000000000000) (hc : w.cell? ⟨c, 0, none⟩ = some (.pointer (some ⟨b, 0, none⟩))) (hc' : w.cell? ⟨c', 0, none⟩ = some (.pointer (some ⟨b', 0, none⟩))) :
    Calls Tryd.prog 13 #[.pointer (some ⟨c, 0, none⟩), .pointer (some ⟨c', 0, none⟩)] w fun e w' => e = .returned (.bool true) ∧ Below w.heap.size w w' := by
  have H : Hid (∀ n, RedP (w.drewN n) b P R q v tv s) := fun n => h.drewN n
  have H' : Hid (∀ n, XP w0 (w.drewN n) b' P R q px m pcap f v' s used) := fun n => h'.drewN n
  have hcl := World.block_lt_of_cell? _ _ hc
  have hcl' := World.block_lt_of_cell? _ _ hc'
  clear h h'
  have HM1 : Hid (∀ n, Calls Tryd.prog 14 #[.pointer (some ⟨b, 0, none⟩)] (w.drewN n) fun e w' => e = .returned (.int .i64 (meanR q s.sum)) ∧ ∃ k, w' = (w.drewN n).drewN k) := fun n => mean_any _ (H.out n).pos hq
  have HM2 : Hid (∀ n, Calls Tryd.prog 15 #[.pointer (some ⟨b', 0, none⟩)] (w.drewN n) fun e w' => e = .returned (.int .i64 (meanR q s.sum)) ∧ w' = w.drewN n) := fun n => rmean_any _ (H'.out n) hq h0 (by omega)
  obtain ⟨mv, hmv⟩ : ∃ mv, meanR q s.sum = mv := ⟨_, rfl⟩
  rw [hmv] at HM1 HM2
  clear hmv
  go_enter Tryd.func13, Tryd.ntmps13
  go_wp2
  go_quiet (first | (go_at_call 14; exact Calls.quiet_of (HM1.out _)) | (go_at_call 15; exact Calls.quiet_of_same (HM2.out _)))
  go_wp2
  go_ret
  exact ⟨rfl, below_drewN_ (Below.refl _ _) _⟩
end Go.Proofs.YtljciioooojpeaaDoor
