/-
  millracekeep.borrows: it returns true. No condition but that errors.errorType is laid.
  HtbCeils: true where there are too many steps or classes, or classes that may not be. Conditions: the classes lie in memory; errors.errorType is laid.
-/
import Derived.Test.YtpgdocmpbeabpaaDoorZtm
import Derived.Test.YtpgdocmpbeabpaaDoorU34
import Derived.Test.YtpgdocmpbeabpaaDoorPy
namespace Go.Proofs.YtpgdocmpbeabpaaDoor
open Go.RowKit Go.Extern.Stop Go.Stop Go.Extern

def bCl : List HCl := [⟨-1, 1, 1, 100, 1, 1, 100, 0⟩, ⟨0, 1, 1, 10, 1, 1, 100, 0⟩]
def bSt : List Stp := [⟨0, 0, 0, 50, 1, 0, 0⟩, ⟨0, 0, 0, 50, 0, 0, 0⟩, ⟨1, 0, 0, 0, 0, 0, 0⟩]
def bSn : List Sn := [⟨-1, 0, -1, 1, 50, []⟩, ⟨-1, 0, -1, 1, 50, [1]⟩, ⟨0, 0, -1, 0, 0, []⟩]
def bK (tb g gcap : Nat) (nb rb cb : Nat → Nat) : HtK := ⟨tb, g, gcap, 2, 5, clsL bCl, innL bCl, nb, rb, cb⟩
theorem b_play (tb g gcap : Nat) (nb rb cb : Nat → Nat) : playFrom (HtM (bK tb g gcap nb rb cb)) ⟨nd0 (bK tb g gcap nb rb cb), 0, 0⟩ 0 (timesL 0 bSt) = bSn := by
  rfl
theorem b_ok : OkH bCl := by
  refine ⟨by decide, by decide, fun i c h => ?_⟩
  match i, h with
  | 0, h => cases h; rfl
  | 1, h => cases h; rfl
theorem NewH.bK {K : HtK} {base : Nat} {w : World} (h : NewH K bCl 5 base w) : K = Go.Proofs.YtpgdocmpbeabpaaDoor.bK K.tb K.g K.gcap K.nb K.rb K.cb := by
  obtain ⟨e1, e2, e3⟩ := h.of.eq
  have e4 := h.room
  obtain ⟨tb, g, gcap, N, room, cls, inner, nb, rb, cb⟩ := K
  simp only at e1 e2 e3 e4
  subst e1 e2 e3 e4
  rfl
theorem ptrTr (b : Nat) (w : World) : (binOp .eql 24 (.pointer (some ⟨b, 0, none⟩)) (.pointer none)).run Tryd.prog w = .ok (.bool false) w := by kernel_rfl
theorem bCl_at {w : World} {p : Nat} (h : w.heap[p]? = some (.cells #[.int .i64 (-1), .int .i64 1, .int .i64 1, .int .i64 100, .int .i64 1, .int .i64 1, .int .i64 100, .int .i64 0, .int .i64 0, .int .i64 1, .int .i64 1, .int .i64 10, .int .i64 1, .int .i64 1, .int .i64 100, .int .i64 0] 48 (0, 0))) : ArgAt HCl.cs w (some ⟨p, 0, none⟩) bCl :=
  Or.inr ⟨p, 0, rfl, lt_of_block h, fun j u hj => by
    have := news_of (l := flt HCl.cs bCl) h j u hj
    rw [Addr.add_lit] at this
    exact this⟩
set_option maxRecDepth 20000 in
set_option maxHeartbeats 4000000 in
theorem borrows_any (w : World) (hL : Laid w) : Calls Tryd.prog 6 #[] w fun e w' => e = .returned (.bool true) ∧ Below w.heap.size w w' := by
  have hp1 := ptrTr
  have HNW : Hid (∀ W p, Laid W → W.heap[p]? = some (.cells #[.int .i64 (-1), .int .i64 1, .int .i64 1, .int .i64 100, .int .i64 1, .int .i64 1, .int .i64 100, .int .i64 0, .int .i64 0, .int .i64 1, .int .i64 1, .int .i64 10, .int .i64 1, .int .i64 1, .int .i64 100, .int .i64 0] 48 (0, 0)) → Calls Tryd.prog 5 #[.slice (some ⟨p, 0, none⟩) 2 2, .int .i64 5] W fun e w' => Below W.heap.size W w' ∧ ∃ K, e = .returned (.tuple #[.pointer (some ⟨K.tb, 0, none⟩), .nilIface]) ∧ Hid (NewH K bCl 5 W.heap.size w')) := by
    intro W p hW hp
    refine (hnew_any bCl (some ⟨p, 0, none⟩) 2 5 W (bCl_at hp) hW (by decide)).mono ?_
    rintro e w' ⟨hb, ⟨hno, _⟩ | ⟨_, K, he, hK⟩⟩
    · exact absurd ⟨b_ok, by decide, by decide⟩ hno
    · exact ⟨hb, K, he, hK⟩
  have HL : Hid (Laid w) := hL
  clear hL
  go_enter Tryd.func6, Tryd.ntmps6
  go_wp2_with (go_at_call 5; fail)
  refine (HNW.out _ _ (HL.out.below (below_alloc_ (below_alloc_ (Below.refl _ _) _) _)) (new_block_ (by simp))).mono ?_
  rintro e w1 ⟨hb1, K, rfl, HK⟩
  have HB1 : Hid (Below w.heap.size w w1) := (below_alloc_ (below_alloc_ (Below.refl _ _) _) _).trans (hb1.mono (by simp <;> omega))
  clear hb1
  go_wp2_with (go_at_call 7; fail)
  obtain ⟨vs, ow, hAt, hF⟩ := HK.out.at'
  refine (play_any (HtM K) (htM_fine HK.out.ok) (HtF K vs) (⟨nd0 K, 0, 0⟩ : HtS) (some ⟨w1.heap.size, 0, none⟩) 3 bSt _ ?_ (by decide) ⟨vs, ow, hAt.below (below_alloc_ (Below.refl _ _) _), fun _ => Iff.rfl⟩ HK.out.inv).mono ?_
  · refine Or.inr ⟨w1.heap.size, 0, rfl, by simp, fun j u hj => ?_⟩
    have := news_of (new_block_ (w := w1) (o := .cells (flt Stp.cs bSt).toArray 39) (n := w1.heap.size) rfl) j u hj
    rw [Addr.add_lit] at this
    exact this
  rintro e w3 ⟨u, us, F, rfl, hsn, hot⟩
  have hpl : playFrom (HtM K) (⟨nd0 K, 0, 0⟩ : HtS) 0 (timesL 0 bSt) = bSn := by
    rw [HK.out.bK]
    exact b_play _ _ _ _ _ _
  rw [hpl] at hsn
  have hlen := hsn.len
  obtain ⟨u0, u1, u2, rfl⟩ : ∃ u0 u1 u2, us = [u0, u1, u2] := by
    match us, hlen with
    | [a, b, c], _ => exact ⟨a, b, c, rfl⟩
  obtain ⟨x, cap, rfl, hlies⟩ := hsn.lies
  obtain ⟨h0, _⟩ := hsn.lost 0 ⟨-1, 0, -1, 1, 50, []⟩ u0 rfl rfl
  obtain ⟨h1, _⟩ := hsn.lost 1 ⟨-1, 0, -1, 1, 50, [1]⟩ u1 rfl rfl
  obtain ⟨x0, c0, rfl⟩ : ∃ x c, u0 = .slice x 0 c := by
    rcases h0.form with ⟨h, _⟩ | ⟨b, off, cap, h, _⟩
    · exact ⟨_, _, h⟩
    · exact ⟨_, _, h⟩
  obtain ⟨x1, c1, rfl⟩ : ∃ x c, u1 = .slice x 1 c := by
    rcases h1.form with ⟨_, h, _⟩ | ⟨b, off, cap, h, _⟩
    · cases h
    · exact ⟨_, _, h⟩
  obtain ⟨b, off, rfl, hb, a0, a1, a2, a3, a4, a5⟩ := hlies.seen (k := 0) (p := (⟨-1, 0, -1, 1, 50, []⟩, .slice x0 0 c0)) rfl
  obtain ⟨b', off', e', hb', d0, d1, d2, d3, d4, d5⟩ := hlies.seen (k := 1) (p := (⟨-1, 0, -1, 1, 50, [1]⟩, .slice x1 1 c1)) rfl
  simp only [Option.some.injEq, Addr.mk.injEq, and_true] at e'
  obtain ⟨rfl, rfl⟩ := e'
  obtain ⟨b', off', e', hb'', f0, f1, f2, f3, f4, f5⟩ := hlies.seen (k := 2) (p := (⟨0, 0, -1, 0, 0, []⟩, u2)) rfl
  simp only [Option.some.injEq, Addr.mk.injEq, and_true] at e'
  obtain ⟨rfl, rfl⟩ := e'
  have HF : Hid (Below w.heap.size w w3) := HB1.out.trans ((below_alloc_ (Below.refl _ _) _ : Below w1.heap.size w1 _).mono HB1.out.size |>.trans (hot.below (by simp; have := HB1.out.size; omega) (fun k hk => by have := hF k hk; simp at this; omega)))
  clear hsn hlies h0 h1 hot hAt hF hpl
  simp only [Nat.reduceMul, Nat.add_zero] at a0 a1 a2 a3 a4 a5 d0 d1 d2 d3 d4 d5 f0 f1 f2 f3 f4 f5
  go_wp2
  go_ret
  exact ⟨rfl, HF.out⟩
end Go.Proofs.YtpgdocmpbeabpaaDoor
namespace Go.Proofs.YtpgdocmpbeabpaaDoor
open Go.RowKit Go.Extern.Stop Go.Stop Go.Extern

theorem ptrTrN (w : World) : (binOp .eql 24 (.pointer none) (.pointer none)).run Tryd.prog w = .ok (.bool true) w := by kernel_rfl
set_option maxRecDepth 20000 in
set_option maxHeartbeats 4000000 in
theorem ceils_long (n m : Nat) (px : Option Addr) (cap : Nat) (room : Int) (x : Option Addr) (xcap : Nat) (w : World) (hn : n ≤ maxLen) (hm : m ≤ maxLen) (hlong : 120 < m ∨ 20 < n) :
    Calls Tryd.prog 3 #[.slice px n cap, .int .i64 room, .slice x m xcap] w fun e w' => e = .returned (.bool true) ∧ Below w.heap.size w w' := by
  unfold maxLen at hn hm
  by_cases h1 : 120 < m
  · have g1 : (120 : Int) < (m : Int) := by omega
    clear hlong h1
    go_enter Tryd.func3, Tryd.ntmps3
    go_wp2
    go_ret
    exact ⟨rfl, Below.refl _ _⟩
  · have g1 : ¬ ((120 : Int) < (m : Int)) := by omega
    have g2 : (20 : Int) < (n : Int) := by omega
    clear hlong h1
    go_enter Tryd.func3, Tryd.ntmps3
    go_wp2
    go_ret
    exact ⟨rfl, Below.refl _ _⟩
set_option maxRecDepth 20000 in
set_option maxHeartbeats 4000000 in
theorem ceils_no (n m : Nat) (px : Option Addr) (cap : Nat) (room : Int) (x : Option Addr) (xcap : Nat) (w : World) (hn : n ≤ 20) (hm : m ≤ 120) (hL : Laid w)
    (hC : Calls Tryd.prog 5 #[.slice px n cap, .int .i64 room] w fun e w' => Below w.heap.size w w' ∧ ∃ ty v, e = .returned (.tuple #[.pointer none, .iface ty v])) :
    Calls Tryd.prog 3 #[.slice px n cap, .int .i64 room, .slice x m xcap] w fun e w' => e = .returned (.bool true) ∧ Below w.heap.size w w' := by
  have g1 : ¬ ((120 : Int) < (m : Int)) := by omega
  have g2 : ¬ ((20 : Int) < (n : Int)) := by omega
  have hp1 := ptrTrN
  have HL : Hid (∀ W, Below w.heap.size w W → Laid W) := fun W hW => hL.below hW
  have HCC : Hid (Calls Tryd.prog 5 #[.slice px n cap, .int .i64 room] w fun e w' => Below w.heap.size w w' ∧ ∃ ty v, e = .returned (.tuple #[.pointer none, .iface ty v])) := hC
  clear hC hL
  go_enter Tryd.func3, Tryd.ntmps3
  go_wp2_with (go_at_call 5; fail)
  refine HCC.out.mono ?_
  rintro e w1 ⟨hb1, ty, v, rfl⟩
  have HB1 : Hid (Below w.heap.size w w1) := hb1
  clear hb1
  go_wp2_with (go_at_call 6; fail)
  refine (borrows_any w1 (HL.out w1 HB1.out)).mono ?_
  rintro e w2 ⟨rfl, hb2⟩
  have HB2 : Hid (Below w.heap.size w w2) := HB1.out.trans (hb2.mono HB1.out.size)
  clear hb2
  go_wp2_with (go_at_call 6; fail)
  refine (borrows_any w2 (HL.out w2 HB2.out)).mono ?_
  rintro e w3 ⟨rfl, hb3⟩
  have HB3 : Hid (Below w.heap.size w w3) := HB2.out.trans (hb3.mono HB2.out.size)
  clear hb3
  go_wp2
  go_ret
  exact ⟨rfl, HB3.out⟩
end Go.Proofs.YtpgdocmpbeabpaaDoor
