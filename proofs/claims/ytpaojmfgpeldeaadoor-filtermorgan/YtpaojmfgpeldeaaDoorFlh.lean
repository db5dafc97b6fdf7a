/-
  The law FilterMorgan, walked: with not ahead of tests alone the same packets are meant; once more it is written the same. Conditions: what the program lays is laid.
-/
import Derived.Test.YtpaojmfgpeldeaaDoorFlg
import Derived.Test.YtpaojmfgpeldeaaDoorFlc
namespace Go.Proofs.YtpaojmfgpeldeaaDoor
open Go.RowKit Go.Extern.Stop Go.Stop Go.Extern

set_option maxRecDepth 100000 in
set_option maxHeartbeats 8000000 in
theorem morgan_any (s : ByteArray) (x : It) (w : World) (hG : GlobF w) (hs0 : s.size ≤ maxLen) :
    Calls Tryd.prog 3 #[.string s, .agg #[.int .i64 x.a, .int .i64 x.l, .int .i64 x.f, .int .i64 x.b, .int .i64 x.m]] w fun e w' => e = .returned (.bool true) ∧ Below w.heap.size w w' := by
  have HMT : Hid (∀ w1, Below w.heap.size w w1 → Calls Tryd.prog 5 #[] w1 fun e w' => e = .returned (.bool true) ∧ Below w1.heap.size w1 w') := fun w1 h => meant_true w1 (hG.below h)
  have HPA : Hid (∀ w1, Below w.heap.size w w1 → Calls Tryd.prog 4 #[.string s] w1 fun e w' => Below w1.heap.size w1 w' ∧ ((∃ t fv, parseF s.data.toList = some t ∧ e = .returned (.tuple #[fv, .nilIface]) ∧ FAt w' (fun k => w1.heap.size ≤ k) 20 t fv) ∨ (parseF s.data.toList = none ∧ ∃ ty p, e = .returned (.tuple #[.nilIface, .iface ty p])))) := fun w1 h => fparse_some s w1 (hG.below h)
  have HGB : Hid (∀ w1, Below w.heap.size w w1 → GlobF w1) := fun w1 h => hG.below h
  have hsz : s.data.toList.length = s.size := Array.length_toList
  clear hG
  obtain ⟨xa, xl, xf, xb, xm⟩ := x
  simp only
  unfold maxLen at hs0
  by_cases h1000 : 1000 < s.size
  · have d1 : decide ((1000 : Int) < (s.size : Int)) = true := by simp; omega
    go_enter Tryd.func3, Tryd.ntmps3
    go_wp2
    go_ret
    exact ⟨rfl, below_alloc_ (Below.refl _ _) _⟩
  · have d1 : decide ((1000 : Int) < (s.size : Int)) = false := by simp; omega
    go_enter Tryd.func3, Tryd.ntmps3
    go_wp2_with fail
    have hbA : Below w.heap.size w (w.alloc (.cells #[.int .i64 xa, .int .i64 xl, .int .i64 xf, .int .i64 xb, .int .i64 xm] 23)) := below_alloc_ (Below.refl _ _) _
    refine (HPA.out _ hbA).mono ?_
    rintro e w1 ⟨hb1, ⟨t, fv, hpf, rfl, hfa⟩ | ⟨hpf, ty, p, rfl⟩⟩
    · have hB1 : Below w.heap.size w w1 := hbA.trans (hb1.mono hbA.size)
      have k1 : w1.heap[w.heap.size]? = some (.cells #[.int .i64 xa, .int .i64 xl, .int .i64 xf, .int .i64 xb, .int .i64 xm] 23 (0, 0)) := (hb1.block w.heap.size (by simp)).trans (new_block _ _)
      have hnd : nd 20 t ≤ 1000 := by have := parse_nd hpf; omega
      have hok := hfa.ok
      obtain ⟨fty, frv, ff, frc, rfl, fm, fe, fc⟩ := means_all hfa (by omega)
      have HFA : Hid (FAt w1 (fun k => (w.alloc (.cells #[.int .i64 xa, .int .i64 xl, .int .i64 xf, .int .i64 xb, .int .i64 xm] 23)).heap.size ≤ k) 20 t (.iface fty frv)) := hfa
      have HB1 : Hid (Below w.heap.size w w1) := hB1
      clear hfa hb1 hbA hpf
      go_wp2_with fail
      refine (HMT.out _ hB1).mono ?_
      rintro e w2 ⟨rfl, hb2⟩
      have hB2 : Below w.heap.size w w2 := hB1.trans (hb2.mono hB1.size)
      go_wp2_with fail
      refine (inside_any w2 _ (HFA.out.below hb2) (by omega)).mono ?_
      rintro e wc ⟨gv, rfl, hga, hb3⟩
      have hok2 := hga.ok
      have hnd2 : nd (20 + 1) (turn 20 false t) ≤ 2000 := by have := nd_turn 20 false t hok; omega
      have hnd3 : nd (20 + 1) (turn 20 false t) ≤ 100000 := by omega
      obtain ⟨gty, grv, gf, grc, rfl, gm, ge, gc⟩ := means_all hga hnd3
      have hB3 : Below w.heap.size w wc := hB2.trans (hb3.mono hB2.size)
      obtain ⟨gty', grv', tf, trc, e', tm, te, tc⟩ := text_at wc _ (HGB.out wc hB3) 21 _ _ hga hnd3
      injection e' with e1 e2
      subst e1 e2
      have hb13 : Below w1.heap.size w1 wc := hb2.trans (hb3.mono hb2.size)
      have k3 : wc.heap[w.heap.size]? = some (.cells #[.int .i64 xa, .int .i64 xl, .int .i64 xf, .int .i64 xb, .int .i64 xm] 23 (0, 0)) := (hb13.block w.heap.size (lt_of_block k1)).trans k1
      have HF : Hid (∀ w', Below wc.heap.size wc w' → Calls Tryd.prog ff #[frc, .agg #[.int .i64 xa, .int .i64 xl, .int .i64 xf, .int .i64 xb, .int .i64 xm]] w' fun e w'' => e = .returned (.bool (means ⟨xa, xl, xf, xb, xm⟩ 20 t)) ∧ Below wc.heap.size wc w'') := fun w' h => (fc ⟨xa, xl, xf, xb, xm⟩ w' (hb13.trans (h.mono hb13.size))).mono fun e w'' ⟨a, b⟩ => ⟨a, h.trans (b.mono h.size)⟩
      have HGM : Hid (∀ w', Below wc.heap.size wc w' → Calls Tryd.prog gf #[grc, .agg #[.int .i64 xa, .int .i64 xl, .int .i64 xf, .int .i64 xb, .int .i64 xm]] w' fun e w'' => e = .returned (.bool (means ⟨xa, xl, xf, xb, xm⟩ 20 t)) ∧ Below wc.heap.size wc w'') := fun w' h => (gc ⟨xa, xl, xf, xb, xm⟩ w' h).mono fun e w'' ⟨a, b⟩ => ⟨by rw [a, means_turn _ 20 false t hok]; simp, h.trans (b.mono h.size)⟩
      have HGT : Hid (∀ w', Below wc.heap.size wc w' → Calls Tryd.prog tf #[trc] w' fun e w'' => e = .returned (.string ⟨(textF 21 (turn 20 false t)).toArray⟩) ∧ Below wc.heap.size wc w'') := fun w' h => (tc w' h).mono fun e w'' ⟨a, b⟩ => ⟨a, h.trans (b.mono h.size)⟩
      have HIN : Hid (∀ w', Below wc.heap.size wc w' → Calls Tryd.prog 6 #[.iface gty grv] w' fun e w'' => (∃ (ty : TypeId) (rv : Value) (f : FuncId) (rc : Value), e = .returned (.iface ty rv) ∧ (∀ W : World, (Go.method 259 ty rv "Text").run Tryd.prog W = .ok (f, rc) W) ∧ (∀ (args : Array Value) (W : World), (callFunc f args).run Tryd.prog W = .ok (.enter f args) W) ∧ ∀ w2, Below w''.heap.size w'' w2 → Calls Tryd.prog f #[rc] w2 fun e w3 => e = .returned (.string ⟨(textF 21 (turn 20 false t)).toArray⟩) ∧ (Below wc.heap.size wc w2 → Below wc.heap.size wc w3)) ∧ Below wc.heap.size wc w'') := by
        intro w' h
        refine (inside_any w' _ (hga.below h) hnd3).mono ?_
        rintro e w'' ⟨v', rfl, hv, hb⟩
        rw [turn_turn 20 false t hok] at hv
        have hB'' : Below wc.heap.size wc w'' := h.trans (hb.mono h.size)
        obtain ⟨ty, rv, f, rc, rfl, m1, m2, m3⟩ := text_at w'' _ (HGB.out w'' (hB3.trans (hB''.mono hB3.size))) 22 _ _ hv (Nat.le_trans (Nat.le_of_eq (nd_up _ _ hok2)) hnd3)
        rw [textF_up _ _ hok2] at m3
        exact ⟨⟨ty, rv, f, rc, rfl, m1, m2, fun w2 h2 => (m3 w2 h2).mono fun e w3 ⟨a, b⟩ => ⟨a, fun hh => hh.trans (b.mono hh.size)⟩⟩, hB''⟩
      generalize means ⟨xa, xl, xf, xb, xm⟩ 20 t = r at *
      generalize textF 21 (turn 20 false t) = tx at *
      have HSC : Hid (∀ w', Below wc.heap.size wc w' → w'.cell? ⟨w.heap.size, 0, none⟩ = some (.int .i64 xa) ∧ w'.cell? ⟨w.heap.size, 1, none⟩ = some (.int .i64 xl) ∧ w'.cell? ⟨w.heap.size, 2, none⟩ = some (.int .i64 xf) ∧ w'.cell? ⟨w.heap.size, 3, none⟩ = some (.int .i64 xb) ∧ w'.cell? ⟨w.heap.size, 4, none⟩ = some (.int .i64 xm) ∧ Below wc.heap.size wc w') := by
        intro w' hb
        have e3 := (hb.block w.heap.size (lt_of_block k3)).trans k3
        exact ⟨by simp [World.cell?, e3], by simp [World.cell?, e3], by simp [World.cell?, e3], by simp [World.cell?, e3], by simp [World.cell?, e3], hb⟩
      have HE : Hid (∀ w', Below wc.heap.size wc w' → Below w.heap.size w w') := fun w' hb => hB3.trans (hb.mono hB3.size)
      clear hga gc tc fc k1 k3 hb13 hB3 hB2 hB1 hb2 hb3 hok hok2 hnd hnd2 hnd3 HFA HB1 HMT HPA HGB
      go_wp2_with fail
      go_region_held3 (fun w' => w'.cell? ⟨w.heap.size, 0, none⟩ = some (.int .i64 xa) ∧ w'.cell? ⟨w.heap.size, 1, none⟩ = some (.int .i64 xl) ∧ w'.cell? ⟨w.heap.size, 2, none⟩ = some (.int .i64 xf) ∧ w'.cell? ⟨w.heap.size, 3, none⟩ = some (.int .i64 xb) ∧ w'.cell? ⟨w.heap.size, 4, none⟩ = some (.int .i64 xm) ∧ Below wc.heap.size wc w') ((refine HSC.out _ ?_; (repeat (first | exact Below.refl _ _ | assumption | refine Below.drew ?_ | refine below_alloc_ ?_ _)))) (first
        | (refine (HGM.out _ (by (repeat (first | exact Below.refl _ _ | assumption | refine Below.drew ?_ | refine below_alloc_ ?_ _)))).mono ?_; rintro e wa ⟨rfl, hba⟩; have qa := HSC.out _ hba; obtain ⟨qa0, qa1, qa2, qa3, qa4, -⟩ := qa)
        | (refine (HF.out _ (by (repeat (first | exact Below.refl _ _ | assumption | refine Below.drew ?_ | refine below_alloc_ ?_ _)))).mono ?_; rintro e wb ⟨rfl, hbb⟩; have qb := HSC.out _ hbb; obtain ⟨qb0, qb1, qb2, qb3, qb4, -⟩ := qb)
        | (go_at_call 6; refine (HIN.out _ (by (repeat (first | exact Below.refl _ _ | assumption | refine Below.drew ?_ | refine below_alloc_ ?_ _)))).mono ?_; rintro e wd ⟨⟨ity, irv, itf, itc, rfl, im, ie, ic⟩, hbd⟩)
        | (refine (HGT.out _ (by (repeat (first | exact Below.refl _ _ | assumption | refine Below.drew ?_ | refine below_alloc_ ?_ _)))).mono ?_; rintro e wf ⟨rfl, hbf⟩)
        | (refine (ic _ (by (repeat (first | exact Below.refl _ _ | assumption | refine Below.drew ?_ | refine below_alloc_ ?_ _)))).mono ?_; rintro e wg ⟨rfl, hbg0⟩; have hbg := hbg0 (by (repeat (first | exact Below.refl _ _ | assumption | refine Below.drew ?_ | refine below_alloc_ ?_ _)))))
      go_wp2
      go_ret
      exact ⟨rfl, HE.out _ hbf⟩
    · have hB1 : Below w.heap.size w w1 := hbA.trans (hb1.mono hbA.size)
      clear hb1 hbA hpf
      go_wp2_with fail
      refine (HMT.out _ hB1).mono ?_
      rintro e w2 ⟨rfl, hb2⟩
      have hB2 : Below w.heap.size w w2 := hB1.trans (hb2.mono hB1.size)
      go_wp2_with fail
      refine (HMT.out _ hB2).mono ?_
      rintro e w3 ⟨rfl, hb3⟩
      go_wp2
      go_ret
      exact ⟨rfl, hB2.trans (hb3.mono hB2.size)⟩
end Go.Proofs.YtpaojmfgpeldeaaDoor
