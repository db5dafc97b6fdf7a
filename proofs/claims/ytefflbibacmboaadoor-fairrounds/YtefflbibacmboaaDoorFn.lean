/-
  fair.Rounds are a queue as plain.Play and millracelaw.played ask it: a model; New's errors. Conditions: quanta and room within their bounds.
-/
import Derived.Test.YtefflbibacmboaaDoorFv
import Derived.Test.YtefflbibacmboaaDoorKm
namespace Go.Proofs.YtefflbibacmboaaDoor
open Go.RowKit Go.Extern.Stop Go.Stop Go.Extern

theorem mRnP (a : Addr) (W : World) : (Go.method 314 61 (.pointer (some a)) "Put").run Tryd.prog W = .ok (100, .pointer (some a)) W := by kernel_rfl
theorem mRnT (a : Addr) (W : World) : (Go.method 314 61 (.pointer (some a)) "Take").run Tryd.prog W = .ok (101, .pointer (some a)) W := by kernel_rfl
theorem mRnW (a : Addr) (W : World) : (Go.method 314 61 (.pointer (some a)) "When").run Tryd.prog W = .ok (102, .pointer (some a)) W := by kernel_rfl
theorem mRnL (a : Addr) (W : World) : (Go.method 314 61 (.pointer (some a)) "Len").run Tryd.prog W = .ok (99, .pointer (some a)) W := by kernel_rfl
theorem mRnB (a : Addr) (W : World) : (Go.method 314 61 (.pointer (some a)) "Bytes").run Tryd.prog W = .ok (98, .pointer (some a)) W := by kernel_rfl
theorem eRnP (args : Array Value) (W : World) : (callFunc 100 args).run Tryd.prog W = .ok (.enter 100 args) W := enters_of Tryd.func100 (by kernel_rfl) rfl args W
theorem eRnT (args : Array Value) (W : World) : (callFunc 101 args).run Tryd.prog W = .ok (.enter 101 args) W := enters_of Tryd.func101 (by kernel_rfl) rfl args W
theorem eRnW (args : Array Value) (W : World) : (callFunc 102 args).run Tryd.prog W = .ok (.enter 102 args) W := enters_of Tryd.func102 (by kernel_rfl) rfl args W
theorem eRnL (args : Array Value) (W : World) : (callFunc 99 args).run Tryd.prog W = .ok (.enter 99 args) W := enters_of Tryd.func99 (by kernel_rfl) rfl args W
theorem eRnB (args : Array Value) (W : World) : (callFunc 98 args).run Tryd.prog W = .ok (.enter 98 args) W := enters_of Tryd.func98 (by kernel_rfl) rfl args W
/-- Rounds in block b. -/
def RoundsM (b : Nat) (room : Int) (q : Nat → Int) : QM where
  σ := RnS
  ty := 61
  rv := .pointer (some ⟨b, 0, none⟩)
  fP := 100
  fT := 101
  fW := 102
  fL := 99
  fB := 98
  rP := .pointer (some ⟨b, 0, none⟩)
  rT := .pointer (some ⟨b, 0, none⟩)
  rW := .pointer (some ⟨b, 0, none⟩)
  rL := .pointer (some ⟨b, 0, none⟩)
  rB := .pointer (some ⟨b, 0, none⟩)
  At := fun w F s => ∃ C vs tv, RnP w b room q C vs tv s ∧ ∀ k, F k ↔ RnF b vs tv k
  put := fun s _ x => putW room s x
  take := fun s _ => takeW q s
  when := fun s now => (s, now, !s.tn.isEmpty)
  len := fun s => (allF s.fl 16).length
  bytes := fun s => sumL (allF s.fl 16)
  inv := fun _ n s => RnI q s ∧ (allF s.fl 16).length ≤ n ∧ SO n s
theorem allF_len {fl : Nat → List Hd} {N f : Nat} (hf : f < N) : (fl f).length ≤ (allF fl N).length := by
  obtain ⟨R, h1, _⟩ := allF_split (fl := fl) hf []
  rw [h1.length_eq, List.length_append]
  omega
theorem allF_mem {fl : Nat → List Hd} {N : Nat} {x : Hd} (h : x ∈ allF fl N) : ∃ f, f < N ∧ x ∈ fl f := by
  unfold allF at h
  obtain ⟨f, hf, hx⟩ := List.mem_flatMap.1 h
  exact ⟨f, List.mem_range.1 hf, hx⟩
theorem rn_fit {q : Nat → Int} {s : RnS} {n : Nat} (h : RnI q s) (hn : (allF s.fl 16).length ≤ n) (hn1 : n ≤ 1001) : Fit (allF s.fl 16) := by
  refine ⟨by omega, fun x hx => ?_⟩
  obtain ⟨f, hf, hx⟩ := allF_mem hx
  have := ok_len (h.ok f hf x hx).1
  omega
theorem roundsM_fine (b : Nat) (room : Int) (q : Nat → Int) : (RoundsM b room q).Fine where
  kept := by
    rintro w w' F s ⟨C, vs, tv, h, hF⟩ hk
    exact ⟨C, vs, tv, h.kept (fun k hk' => hk k ((hF k).2 hk')), hF⟩
  low := by
    rintro w F s ⟨C, vs, tv, h, hF⟩ k hk
    exact h.low ((hF k).1 hk)
  mP := mRnP ⟨b, 0, none⟩
  mT := mRnT ⟨b, 0, none⟩
  mW := mRnW ⟨b, 0, none⟩
  mL := mRnL ⟨b, 0, none⟩
  mB := mRnB ⟨b, 0, none⟩
  eP := eRnP
  eT := eRnT
  eW := eRnW
  eL := eRnL
  eB := eRnB
  cP := by
    rintro w F (s : RnS) t n now x ⟨C, vs, tv, h, hF⟩ hI ht0 ht1 ht2 hok hxa hxn hn
    have hfl := ok_flow hok
    have hxl := ok_len hok
    have hfit : Fit (s.fl x.f.toNat ++ [x]) := by
      have h1 := allF_len (fl := s.fl) (N := 16) (show x.f.toNat < 16 by omega)
      have h2 := hI.1.fit (show x.f.toNat < 16 by omega)
      have h3 := hI.2.1
      refine ⟨by simp; omega, fun y hy => ?_⟩
      rcases List.mem_append.1 hy with h4 | h4
      · exact h2.2 y h4
      · simp at h4; subst h4; omega
    refine (rpt_any now x w h hI.1 hok hfit).mono ?_
    rintro e w' ⟨u, C', vs', tv', rfl, hT⟩
    exact ⟨u, RnF b vs' tv', rfl, hT.lost, ⟨C', vs', tv', hT.pos.pos, fun k => Iff.rfl⟩, fun k hk => by rcases hT.pos.own k hk with h1 | h1; exact Or.inl ((hF k).2 h1); exact Or.inr h1, fun k hk => Or.inr (hT.new k hk), hT.pos.ot.mono (fun k _ h1 => (hF k).2 h1)⟩
  iP := by
    intro (s : RnS) t n now x hI ht0 ht1 ht2 hok hxa hxn hn
    have hfl := ok_flow hok
    have h1 := allF_len (fl := s.fl) (N := 16) (show x.f.toNat < 16 by omega)
    have h2 := hI.2.1
    have h3 := (putW_keeps room s x).length_eq
    simp only [List.length_append, List.length_cons, List.length_nil] at h3
    refine ⟨⟨hI.1.put (by omega), ?_, hI.2.2.put hxn⟩, ?_⟩
    · show (allF (putW room s x).1.fl 16).length ≤ n + 1
      omega
    · show (putW room s x).2.length ≤ _
      omega
  cT := by
    rintro w F (s : RnS) t n now ⟨C, vs, tv, h, hF⟩ hI ht0 ht1 ht2 hn
    refine (rtk_any now w h hI.1).mono ?_
    rintro e w' ⟨rfl, C', vs', tv', hT⟩
    have hl : (takeW q s).2.1 = [] := by
      rcases takeW_fl q (mu s + 1) s (Nat.lt_succ_self _) with ⟨_, _, h3⟩ | ⟨_, _, _, _, _, _, h3⟩
      · exact h3
      · rw [h3]
    refine ⟨.slice none 0 0, RnF b vs' tv', rfl, ?_, ⟨C', vs', tv', hT.pos, fun k => Iff.rfl⟩, fun k hk => by rcases hT.own k hk with h1 | h1; exact Or.inl ((hF k).2 h1); exact Or.inr h1, fun k hk => by simp [Value.ownBlock] at hk, hT.ot.mono (fun k _ h1 => (hF k).2 h1)⟩
    show Hs w' _ (takeW q s).2.1
    rw [hl]
    exact Hs.nil _
  iT := by
    intro (s : RnS) t n now hI ht0 ht1 ht2 hn
    have h2 := hI.2.1
    have h3 := (takeW_keeps q s).length_eq
    rw [List.length_append, List.length_append] at h3
    refine ⟨⟨RnI.take (mu s + 1) s (Nat.lt_succ_self _) hI.1, ?_, hI.2.2.take⟩, ?_⟩
    · show (allF (takeW q s).1.fl 16).length ≤ n
      omega
    · show (takeW q s).2.1.length ≤ _
      omega
  cW := by
    rintro w F (s : RnS) t n now ⟨C, vs, tv, h, hF⟩ hI ht0 ht1 ht2 hn
    refine (rwhen_any now w h).mono ?_
    rintro e w' ⟨rfl, rfl⟩
    exact ⟨F, rfl, ⟨C, vs, tv, h, hF⟩, fun k hk => Or.inl hk, Ot.refl _ _⟩
  iW := by
    intro (s : RnS) t n now hI ht0 ht1 ht2 hn
    exact hI
  cL := by
    rintro w F (s : RnS) t n ⟨C, vs, tv, h, hF⟩ hI hn
    exact (rlen_any w h (rn_fit hI.1 hI.2.1 hn)).mono (by rintro e w' ⟨rfl, rfl⟩; exact ⟨rfl, Below.refl _ _⟩)
  cB := by
    rintro w F (s : RnS) t n ⟨C, vs, tv, h, hF⟩ hI hn
    exact (rbts_any w h (rn_fit hI.1 hI.2.1 hn)).mono (by rintro e w' ⟨rfl, rfl⟩; exact ⟨rfl, Below.refl _ _⟩)
theorem rounds_keeps (b : Nat) (room : Int) (q : Nat → Int) : (RoundsM b room q).Keeps (fun s => allF s.fl 16) where
  put := fun s _ x => putW_keeps room s x
  take := fun s _ => takeW_keeps q s
  when := fun _ _ => List.Perm.refl _
  len := fun _ => rfl
  bytes := fun _ => rfl
theorem rn0_inv {q : Nat → Int} (hq : ∀ f, f < 16 → 1 ≤ q f ∧ q f ≤ 1000000) : RnI q rn0 := ⟨by simp [rn0], by simp [rn0], by simp [rn0], by simp [rn0], by simp [rn0], by simp [rn0], by simp [rn0], hq⟩
theorem qF_ok {f : Nat → Int} {m : Nat} (hm : 1 ≤ m) (hq : allQ f m = true) : ∀ i, i < 16 → 1 ≤ qF f m 16 i ∧ qF f m 16 i ≤ 1000000 := by
  intro i hi
  rw [qF, if_pos hi]
  exact allQ_yes hq (by omega)
theorem newRn_len {px : Option Addr} {m pcap : Nat} (room : Int) (w : World) (hm : m < 1 ∨ 16 < m) (hm1 : m ≤ 9223372036854775807) :
    Calls Tryd.prog 17 #[.int .i64 room, .slice px m pcap] w fun e w' => e = .returned (.tuple #[.pointer none, .iface 27 (.int .i64 4)]) ∧ w' = w := by
  rcases hm with h | h
  · obtain rfl : m = 0 := by omega
    go_enter Tryd.func17, Tryd.ntmps17
    go_wp2
    go_ret2
    exact ⟨rfl, rfl⟩
  · go_enter Tryd.func17, Tryd.ntmps17
    go_wp2
    go_ret2
    exact ⟨rfl, rfl⟩
theorem newRn_range {px : Option Addr} {m pcap : Nat} {f : Nat → Int} (room : Int) (w : World) (h : IRow w px m f) (hm0 : 1 ≤ m) (hm : m ≤ 16) (hr : room < 0 ∨ 1000000 < room ∨ allQ f m = false) :
    Calls Tryd.prog 17 #[.int .i64 room, .slice px m pcap] w fun e w' => e = .returned (.tuple #[.pointer none, .iface 27 (.int .i64 2)]) ∧ w' = w := by
  have HC := qcont_any (pcap := pcap) w h (by omega)
  have hmi : (1 : Int) ≤ m ∧ (m : Int) ≤ 16 := by omega
  clear h
  by_cases h1 : room < 0
  · clear hr
    go_enter Tryd.func17, Tryd.ntmps17
    go_wp2
    go_ret2
    exact ⟨rfl, rfl⟩
  · by_cases h2 : 1000000 < room
    · clear hr
      go_enter Tryd.func17, Tryd.ntmps17
      go_wp2
      go_ret2
      exact ⟨rfl, rfl⟩
    · have h3 : allQ f m = false := by
        rcases hr with h | h | h
        · exact absurd h h1
        · exact absurd h h2
        · exact h
      rw [h3] at HC
      clear hr h3
      go_enter Tryd.func17, Tryd.ntmps17
      go_wp2_with (go_at_call 36; refine HC.mono ?_; rintro e w2 ⟨rfl, hw2⟩; subst hw2)
      go_ret2
      exact ⟨rfl, rfl⟩
end Go.Proofs.YtefflbibacmboaaDoor
