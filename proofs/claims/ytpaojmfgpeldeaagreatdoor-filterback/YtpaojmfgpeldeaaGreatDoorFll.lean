/-
  The law FilterBack, walked: what a filter's text tells is that filter again; not of it means all other packets. Conditions: what the program lays is laid.
-/
import Derived.Test.YtpaojmfgpeldeaaGreatDoorFlg
import Derived.Test.YtpaojmfgpeldeaaGreatDoorFlk
import Derived.Test.YtpaojmfgpeldeaaGreatDoorErrs
namespace Go.Proofs.YtpaojmfgpeldeaaGreatDoor
open Go.RowKit Go.Extern.Stop Go.Stop Go.Extern

theorem seg_two {w : World} {a b : Value} : Seg (w.alloc (.cells #[a, b] 25)) 25 1 (.slice (some ⟨w.heap.size, 0, none⟩) 2 2) 2 [a, b] :=
  ⟨rfl, Or.inr ⟨w.heap.size, 0, 2, #[a, b], rfl, new_block _ _, by decide, by unfold maxLen; decide, by simp, fun j u h => by
    match j with
    | 0 => simpa using h
    | 1 => simpa using h
    | j + 2 => simp at h⟩⟩
theorem MeansAll.at {w : World} {v : Value} {d : Nat} {t : Ft} (h : MeansAll w v d t) (x : It) : MeansAt w v x (means x d t) := by
  obtain ⟨ty, rv, f, rc, h1, h2, h3, h4⟩ := h
  exact ⟨ty, rv, f, rc, h1, h2, h3, h4 x⟩
set_option maxRecDepth 100000 in
set_option maxHeartbeats 8000000 in
theorem back_any (s : ByteArray) (x : It) (w : World) (hG : GlobF w) (hLd : Laid w) (hs0 : s.size ≤ maxLen) :
    Calls Tryz.prog 3 #[.string s, .agg #[.int .i64 x.a, .int .i64 x.l, .int .i64 x.f, .int .i64 x.b, .int .i64 x.m]] w fun e w' => e = .returned (.bool true) ∧ Below w.heap.size w w' := by
  have HMT : Hid (∀ w1, Below w.heap.size w w1 → Calls Tryz.prog 5 #[] w1 fun e w' => e = .returned (.bool true) ∧ Below w1.heap.size w1 w') := fun w1 h => meant_true w1 (hG.below h)
  have HPA : Hid (∀ (u : ByteArray) w1, Below w.heap.size w w1 → Calls Tryz.prog 4 #[.string u] w1 fun e w' => Below w1.heap.size w1 w' ∧ ((∃ t fv, parseF u.data.toList = some t ∧ e = .returned (.tuple #[fv, .nilIface]) ∧ FAt w' (fun k => w1.heap.size ≤ k) 20 t fv) ∨ (parseF u.data.toList = none ∧ ∃ ty p, e = .returned (.tuple #[.nilIface, .iface ty p])))) := fun u w1 h => fparse_some u w1 (hG.below h)
  have HPE : Hid (∀ (u : ByteArray) w1, Below w.heap.size w w1 → Calls Tryz.prog 4 #[.string u] w1 fun e w' => Below w1.heap.size w1 w' ∧ ((∃ t fv, parseF u.data.toList = some t ∧ e = .returned (.tuple #[fv, .nilIface]) ∧ FAt w' (fun k => w1.heap.size ≤ k) 20 t fv) ∨ (2000 < u.size ∧ e = .returned (.tuple #[.nilIface, .iface 33 (.int .i64 4)])) ∨ (u.size ≤ 2000 ∧ ∃ (c : Int) (p B : Nat), parseG u.data.toList = .error (c, p) ∧ e = .returned (.tuple #[.nilIface, .iface 60 (.pointer (some ⟨B, 0, none⟩))]) ∧ w'.heap[B]? = some (.cells #[.int .i64 c, .int .i64 p] 62 (0, 0))))) := fun u w1 h => fparse_any u w1 (hG.below h)
  have HGB : Hid (∀ w1, Below w.heap.size w w1 → GlobF w1) := fun w1 h => hG.below h
  have HLD : Hid (∀ w1, Below w.heap.size w w1 → Laid w1) := fun w1 h => by
    have := hLd
    unfold Laid at this ⊢
    rw [h.cell (p := ⟨0, 0, none⟩) (lt_of_cell this)]; exact this
  have hsz : s.data.toList.length = s.size := Array.length_toList
  clear hG hLd
  unfold maxLen at hs0
  by_cases h1000 : 1000 < s.size
  · obtain ⟨xa, xl, xf, xb, xm⟩ := x
    simp only
    have d1 : decide ((1000 : Int) < (s.size : Int)) = true := by simp; omega
    go_enter Tryz.func3, Tryz.ntmps3
    go_wp2
    go_ret
    exact ⟨rfl, below_alloc_ (Below.refl _ _) _⟩
  · have d1 : decide ((1000 : Int) < (s.size : Int)) = false := by simp; omega
    obtain ⟨xa, xl, xf, xb, xm⟩ := x
    simp only
    go_enter Tryz.func3, Tryz.ntmps3
    go_wp2_with fail
    have hbA : Below w.heap.size w (w.alloc (.cells #[.int .i64 xa, .int .i64 xl, .int .i64 xf, .int .i64 xb, .int .i64 xm] 23)) := below_alloc_ (Below.refl _ _) _
    refine (HPA.out s _ hbA).mono ?_
    rintro e w1 ⟨hb1, ⟨t, fv, hpf, rfl, hfa⟩ | ⟨hpf, ty, p, rfl⟩⟩
    · have hB1 : Below w.heap.size w w1 := hbA.trans (hb1.mono hbA.size)
      have k1 : w1.heap[w.heap.size]? = some (.cells #[.int .i64 xa, .int .i64 xl, .int .i64 xf, .int .i64 xb, .int .i64 xm] 23 (0, 0)) := (hb1.block w.heap.size (by simp)).trans (new_block _ _)
      have hnd : nd 20 t ≤ 1000 := by have := parse_nd hpf; omega
      have hshp := parse_shp hpf
      have hok := hfa.ok
      have hfM := means_all hfa (by omega)
      have hfM0 := hfM
      obtain ⟨fty, frv, ff, frc, rfl, fm, fe, fc⟩ := hfM
      have HFM : Hid (MeansAll w1 (.iface fty frv) 20 t) := hfM0
      obtain ⟨fty', frv', xf', xrc, e', xm', xe, xc⟩ := text_at w1 _ (HGB.out w1 hB1) 20 _ _ hfa (by omega)
      injection e' with e1 e2
      subst e1 e2
      have htl := textF_len 20 t hok
      have hb1o := back_one hshp
      have hbno := back_not hshp
      have HFC : Hid (∀ w2, Below w1.heap.size w1 w2 → Calls Tryz.prog ff #[frc, .agg #[.int .i64 xa, .int .i64 xl, .int .i64 xf, .int .i64 xb, .int .i64 xm]] w2 fun e w' => e = .returned (.bool (means ⟨xa, xl, xf, xb, xm⟩ 20 t)) ∧ Below w2.heap.size w2 w') := fun w2 h => fc ⟨xa, xl, xf, xb, xm⟩ w2 h
      have HXC : Hid (∀ w2, Below w1.heap.size w1 w2 → Calls Tryz.prog xf' #[xrc] w2 fun e w' => e = .returned (.string ⟨(textF 20 t).toArray⟩) ∧ Below w2.heap.size w2 w') := xc
      generalize htx : textF 20 t = tx at *
      have HTX : Hid (textF 20 t = tx) := htx
      clear hfa hb1 hbA hpf fc xc hfM0 htx
      have htx2 : tx.length ≤ 60000 := by omega
      go_wp2_with fail
      refine (HMT.out _ hB1).mono ?_
      rintro e w2 ⟨rfl, hb2⟩
      have hB2 : Below w.heap.size w w2 := hB1.trans (hb2.mono hB1.size)
      have HB12 : Hid (Below w1.heap.size w1 w2) := hb2
      go_wp2_with fail
      refine (HXC.out _ hb2).mono ?_
      rintro e w3 ⟨rfl, hb3⟩
      have hB3 : Below w.heap.size w w3 := hB2.trans (hb3.mono hB2.size)
      have hb13 : Below w1.heap.size w1 w3 := hb2.trans (hb3.mono hb2.size)
      go_wp2_with fail
      refine (HPA.out _ _ hB3).mono ?_
      rintro e wc ⟨hb4, hcase⟩
      have hB4 : Below w.heap.size w wc := hB3.trans (hb4.mono hB3.size)
      have hb14 : Below w1.heap.size w1 wc := hb13.trans (hb4.mono hb13.size)
      by_cases h2000 : 2000 < tx.length
      · have d2 : decide ((2000 : Int) < (tx.length : Int)) = true := by simp; omega
        rcases hcase with ⟨t2, gv, _, rfl, hga⟩ | ⟨_, ty, p, rfl⟩
        · obtain ⟨gty, grv, rfl⟩ := hga.form
          clear hga
          go_wp2
          go_ret
          exact ⟨rfl, hB4⟩
        · go_wp2
          go_ret
          exact ⟨rfl, hB4⟩
      · have d2 : decide ((2000 : Int) < (tx.length : Int)) = false := by simp; omega
        have hp2 : parseF tx = some t := by unfold parseF; rw [if_neg h2000, hb1o]
        rcases hcase with ⟨t2, gv, hq, rfl, hga⟩ | ⟨hq, _⟩
        · obtain rfl : t = t2 := by
            have hq' : parseF tx = some t2 := hq
            rw [hp2] at hq'; exact Option.some.inj hq'
          obtain ⟨gty, grv, gf, grc, rfl, gm, ge, gc⟩ := means_all hga (by omega)
          obtain ⟨gty', grv', tf, trc, e', tm, te, tc⟩ := text_at wc _ (HGB.out wc hB4) 20 _ _ hga (by omega)
          injection e' with e1 e2
          subst e1 e2
          rw [HTX.out] at tc
          have HGM : Hid (∀ w', Below wc.heap.size wc w' → Calls Tryz.prog gf #[grc, .agg #[.int .i64 xa, .int .i64 xl, .int .i64 xf, .int .i64 xb, .int .i64 xm]] w' fun e w'' => e = .returned (.bool (means ⟨xa, xl, xf, xb, xm⟩ 20 t)) ∧ Below wc.heap.size wc w'') := fun w' h => (gc ⟨xa, xl, xf, xb, xm⟩ w' h).mono fun e w'' ⟨a, b⟩ => ⟨a, h.trans (b.mono h.size)⟩
          have HGT : Hid (∀ w', Below wc.heap.size wc w' → Calls Tryz.prog tf #[trc] w' fun e w'' => e = .returned (.string ⟨tx.toArray⟩) ∧ Below wc.heap.size wc w'') := fun w' h => (tc w' h).mono fun e w'' ⟨a, b⟩ => ⟨a, h.trans (b.mono h.size)⟩
          have HF2 : Hid (∀ w', Below wc.heap.size wc w' → Calls Tryz.prog ff #[frc, .agg #[.int .i64 xa, .int .i64 xl, .int .i64 xf, .int .i64 xb, .int .i64 xm]] w' fun e w'' => e = .returned (.bool (means ⟨xa, xl, xf, xb, xm⟩ 20 t)) ∧ Below wc.heap.size wc w'') := fun w' h => (HFC.out w' (hb14.trans (h.mono hb14.size))).mono fun e w'' ⟨a, b⟩ => ⟨a, h.trans (b.mono h.size)⟩
          have k3 : wc.heap[w.heap.size]? = some (.cells #[.int .i64 xa, .int .i64 xl, .int .i64 xf, .int .i64 xb, .int .i64 xm] 23 (0, 0)) := (hb14.block w.heap.size (lt_of_block k1)).trans k1
          have HSC : Hid (∀ w', Below wc.heap.size wc w' → w'.cell? ⟨w.heap.size, 0, none⟩ = some (.int .i64 xa) ∧ w'.cell? ⟨w.heap.size, 1, none⟩ = some (.int .i64 xl) ∧ w'.cell? ⟨w.heap.size, 2, none⟩ = some (.int .i64 xf) ∧ w'.cell? ⟨w.heap.size, 3, none⟩ = some (.int .i64 xb) ∧ w'.cell? ⟨w.heap.size, 4, none⟩ = some (.int .i64 xm) ∧ Below wc.heap.size wc w') := by
            intro w' hb
            have e3 := (hb.block w.heap.size (lt_of_block k3)).trans k3
            exact ⟨by simp [World.cell?, e3], by simp [World.cell?, e3], by simp [World.cell?, e3], by simp [World.cell?, e3], by simp [World.cell?, e3], hb⟩
          have HE : Hid (∀ w', Below wc.heap.size wc w' → Below w.heap.size w w' ∧ Below w1.heap.size w1 w') := fun w' hb => ⟨hB4.trans (hb.mono hB4.size), hb14.trans (hb.mono hb14.size)⟩
          have HK1 : Hid (w1.heap[w.heap.size]? = some (.cells #[.int .i64 xa, .int .i64 xl, .int .i64 xf, .int .i64 xb, .int .i64 xm] 23 (0, 0))) := k1
          have HBN : Hid (parseG ([110, 111, 116, 32] ++ tx) = .ok (notT t) ∨ ∃ p, parseG ([110, 111, 116, 32] ++ tx) = .error (4, p)) := hbno
          have s1 : ¬ (9223372036854775807 < 4 + tx.length) := by omega
          clear hga gc tc k1 k3 hB4 hb14 hB3 hb13 hB2 hB1 hb2 hb3 hb4 hq hp2 hb1o hbno htl
          generalize hr : means ⟨xa, xl, xf, xb, xm⟩ 20 t = r at *
          have HR : Hid (means ⟨xa, xl, xf, xb, xm⟩ 20 t = r) := hr
          clear hr
          go_wp2_with fail
          go_region_held3 (fun w' => w'.cell? ⟨w.heap.size, 0, none⟩ = some (.int .i64 xa) ∧ w'.cell? ⟨w.heap.size, 1, none⟩ = some (.int .i64 xl) ∧ w'.cell? ⟨w.heap.size, 2, none⟩ = some (.int .i64 xf) ∧ w'.cell? ⟨w.heap.size, 3, none⟩ = some (.int .i64 xb) ∧ w'.cell? ⟨w.heap.size, 4, none⟩ = some (.int .i64 xm) ∧ Below wc.heap.size wc w') ((refine HSC.out _ ?_; (repeat (first | exact Below.refl _ _ | assumption | refine Below.drew ?_ | refine below_alloc_ ?_ _)))) (first
            | (refine (HGM.out _ (by (repeat (first | exact Below.refl _ _ | assumption | refine Below.drew ?_ | refine below_alloc_ ?_ _)))).mono ?_; rintro e wa ⟨rfl, hba⟩; have qa := HSC.out _ hba; obtain ⟨qa0, qa1, qa2, qa3, qa4, -⟩ := qa)
            | (refine (HF2.out _ (by (repeat (first | exact Below.refl _ _ | assumption | refine Below.drew ?_ | refine below_alloc_ ?_ _)))).mono ?_; rintro e wb ⟨rfl, hbb⟩; have qb := HSC.out _ hbb; obtain ⟨qb0, qb1, qb2, qb3, qb4, -⟩ := qb)
            | (refine (HGT.out _ (by (repeat (first | exact Below.refl _ _ | assumption | refine Below.drew ?_ | refine below_alloc_ ?_ _)))).mono ?_; rintro e wf ⟨rfl, hbf⟩; have qf := HSC.out _ hbf; obtain ⟨qf0, qf1, qf2, qf3, qf4, -⟩ := qf))
          go_wp2_with fail
          obtain ⟨hB5, hb15⟩ := HE.out _ hbb
          have eu : ((⟨#[110, 111, 116, 32]⟩ : ByteArray) ++ ⟨tx.toArray⟩).data.toList = [110, 111, 116, 32] ++ tx := by
            have := app_ba [110, 111, 116, 32] tx
            rw [show (⟨#[110, 111, 116, 32]⟩ : ByteArray) = ⟨[110, 111, 116, 32].toArray⟩ from rfl, this]
          have HEU : Hid (((⟨#[110, 111, 116, 32]⟩ : ByteArray) ++ ⟨tx.toArray⟩).data.toList = [110, 111, 116, 32] ++ tx) := eu
          clear eu
          refine (HPE.out _ _ hB5).mono ?_
          rintro e wd ⟨hb6, hcase⟩
          have hB6 : Below w.heap.size w wd := hB5.trans (hb6.mono hB5.size)
          have hb16 : Below w1.heap.size w1 wd := hb15.trans (hb6.mono hb15.size)
          rcases hcase with ⟨t2, nv, hq, rfl, hna⟩ | ⟨_, rfl⟩ | ⟨_, c, p, B, hq, rfl, hBk⟩
          · obtain rfl : t2 = notT t := by
              rw [HEU.out] at hq
              have h2 := (parseF_ok hq).2
              rcases HBN.out with h | ⟨p, h⟩
              · rw [h] at h2; injection h2 with h2; exact h2.symm
              · rw [h] at h2; cases h2
            have hokN := hna.ok
            have hok19 : okF 19 t := by
              rcases hokN with h | ⟨h, _⟩ | ⟨h, _⟩ | ⟨z, h, hz⟩ | ⟨k, l, h, hk, _⟩
              · injection h with h; cases h
              · simp [notT] at h
              · simp [notT] at h
              · injection h with _ _ _ _ h; injection h with h; subst h; exact hz
              · injection h with h; omega
            have hnn : nd 20 (notT t) ≤ 100000 := by
              have h1 : nd 20 (notT t) = 1 + nd 19 t := nd_not 19 t
              have h2 : nd 20 t = nd 19 t := nd_up 19 t hok19
              omega
            have hmn : means ⟨xa, xl, xf, xb, xm⟩ 20 (notT t) = !r := by
              have h1 : means ⟨xa, xl, xf, xb, xm⟩ 20 (notT t) = !means ⟨xa, xl, xf, xb, xm⟩ 19 t := means_not _ 19 t
              have h2 : means ⟨xa, xl, xf, xb, xm⟩ 20 t = means ⟨xa, xl, xf, xb, xm⟩ 19 t := means_up _ 19 t hok19
              rw [h1, ← h2, HR.out]
            have hnM := means_all hna hnn
            have hnM0 := hnM
            obtain ⟨nty, nrv, nf, nrc, rfl, nm, ne, nc⟩ := hnM
            have HNM : Hid (∀ w', Below wd.heap.size wd w' → Calls Tryz.prog nf #[nrc, .agg #[.int .i64 xa, .int .i64 xl, .int .i64 xf, .int .i64 xb, .int .i64 xm]] w' fun e w'' => e = .returned (.bool (!r)) ∧ Below wd.heap.size wd w'') := fun w' h => (nc ⟨xa, xl, xf, xb, xm⟩ w' h).mono fun e w'' ⟨a, b⟩ => ⟨by rw [a, hmn], h.trans (b.mono h.size)⟩
            have HF3 : Hid (∀ w', Below wd.heap.size wd w' → Calls Tryz.prog ff #[frc, .agg #[.int .i64 xa, .int .i64 xl, .int .i64 xf, .int .i64 xb, .int .i64 xm]] w' fun e w'' => e = .returned (.bool r) ∧ Below wd.heap.size wd w'') := fun w' h => (HFC.out w' (hb16.trans (h.mono hb16.size))).mono fun e w'' ⟨a, b⟩ => ⟨a, h.trans (b.mono h.size)⟩
            have HFI : Hid (∀ w', Below wd.heap.size wd w' → Calls Tryz.prog 7 #[.slice (some ⟨w'.heap.size, 0, none⟩) 2 2, .agg #[.int .i64 xa, .int .i64 xl, .int .i64 xf, .int .i64 xb, .int .i64 xm]] (w'.alloc (.cells #[.iface nty nrv, .iface fty frv] 25)) fun e w'' => ∃ q : Int, e = .returned (.int .i64 q) ∧ decide (0 ≤ q) = true ∧ Below wd.heap.size wd w'') := by
              intro w' h
              have hA : Below w'.heap.size w' (w'.alloc (.cells #[.iface nty nrv, .iface fty frv] 25)) := below_alloc_ (Below.refl _ _) _
              have hAd : Below wd.heap.size wd (w'.alloc (.cells #[.iface nty nrv, .iface fty frv] 25)) := h.trans (hA.mono h.size)
              have hA1 : Below w1.heap.size w1 (w'.alloc (.cells #[.iface nty nrv, .iface fty frv] 25)) := hb16.trans (hAd.mono hb16.size)
              refine (first_any ⟨xa, xl, xf, xb, xm⟩ (d := 20) (l := [notT t, t]) (vs := [.iface nty nrv, .iface fty frv]) (w'.alloc (.cells #[.iface nty nrv, .iface fty frv] 25)) seg_two rfl (by unfold maxLen; simp) (fun i y u h1 h2 => ?_) _ (Below.refl _ _)).mono ?_
              · match i with
                | 0 =>
                  simp at h1 h2; subst h1 h2
                  exact (hnM0.at _).below hAd
                | 1 =>
                  simp at h1 h2; subst h1 h2
                  exact (HFM.out.at _).below hA1
                | i + 2 => simp at h1
              · rintro e w'' ⟨q, a, b, c⟩
                refine ⟨q, a, ?_, hAd.trans (c.mono hAd.size)⟩
                rw [b]
                simp only [List.any_cons, List.any_nil, hmn, HR.out]
                cases r <;> rfl
            have k3 : wd.heap[w.heap.size]? = some (.cells #[.int .i64 xa, .int .i64 xl, .int .i64 xf, .int .i64 xb, .int .i64 xm] 23 (0, 0)) := (hb16.block w.heap.size (lt_of_block HK1.out)).trans HK1.out
            have HSD : Hid (∀ w', Below wd.heap.size wd w' → w'.cell? ⟨w.heap.size, 0, none⟩ = some (.int .i64 xa) ∧ w'.cell? ⟨w.heap.size, 1, none⟩ = some (.int .i64 xl) ∧ w'.cell? ⟨w.heap.size, 2, none⟩ = some (.int .i64 xf) ∧ w'.cell? ⟨w.heap.size, 3, none⟩ = some (.int .i64 xb) ∧ w'.cell? ⟨w.heap.size, 4, none⟩ = some (.int .i64 xm) ∧ Below wd.heap.size wd w') := by
              intro w' hb
              have e3 := (hb.block w.heap.size (lt_of_block k3)).trans k3
              exact ⟨by simp [World.cell?, e3], by simp [World.cell?, e3], by simp [World.cell?, e3], by simp [World.cell?, e3], by simp [World.cell?, e3], hb⟩
            have HED : Hid (∀ w', Below wd.heap.size wd w' → Below w.heap.size w w') := fun w' hb => hB6.trans (hb.mono hB6.size)
            have o5 : ((!r) != r) = true := by cases r <;> rfl
            clear hna hnM0 nc hmn hnn hok19 hokN k3 hB6 hb16 hB5 hb15 hb6 hq HFM HGM HF2 HGT HSC HE
            go_wp2_with fail
            go_region_held3 (fun w' => w'.cell? ⟨w.heap.size, 0, none⟩ = some (.int .i64 xa) ∧ w'.cell? ⟨w.heap.size, 1, none⟩ = some (.int .i64 xl) ∧ w'.cell? ⟨w.heap.size, 2, none⟩ = some (.int .i64 xf) ∧ w'.cell? ⟨w.heap.size, 3, none⟩ = some (.int .i64 xb) ∧ w'.cell? ⟨w.heap.size, 4, none⟩ = some (.int .i64 xm) ∧ Below wd.heap.size wd w') ((refine HSD.out _ ?_; (repeat (first | exact Below.refl _ _ | assumption | refine Below.drew ?_ | refine below_alloc_ ?_ _)))) (first
              | (refine (HNM.out _ (by (repeat (first | exact Below.refl _ _ | assumption | refine Below.drew ?_ | refine below_alloc_ ?_ _)))).mono ?_; rintro e wg ⟨rfl, hbg⟩; have qg := HSD.out _ hbg; obtain ⟨qg0, qg1, qg2, qg3, qg4, -⟩ := qg)
              | (refine (HF3.out _ (by (repeat (first | exact Below.refl _ _ | assumption | refine Below.drew ?_ | refine below_alloc_ ?_ _)))).mono ?_; rintro e wh ⟨rfl, hbh⟩; have qh := HSD.out _ hbh; obtain ⟨qh0, qh1, qh2, qh3, qh4, -⟩ := qh)
              | (go_at_call 7; refine (HFI.out _ (by (repeat (first | exact Below.refl _ _ | assumption | refine Below.drew ?_ | refine below_alloc_ ?_ _)))).mono ?_; rintro e wi ⟨qq, rfl, hqq, hbi⟩))
            go_wp2
            go_ret
            exact ⟨rfl, HED.out _ hbi⟩
          · go_wp2_with fail
            refine (tell_errno 4 wd (HLD.out wd hB6)).mono ?_
            rintro e we ⟨rfl, hb7⟩
            go_wp2
            go_ret
            exact ⟨rfl, hB6.trans (hb7.mono hB6.size)⟩
          · obtain rfl : c = 4 := by
              rw [HEU.out] at hq
              rcases HBN.out with h | ⟨p, h⟩
              · rw [h] at hq; cases hq
              · rw [h] at hq; injection hq with hq; injection hq with h1 h2; exact h1.symm
            have kB : wd.cell? ⟨B, 0, none⟩ = some (.int .i64 4) := by simp [World.cell?, hBk]
            have HT := tell_at B 0 4 wd kB (HLD.out wd hB6)
            clear hq hBk kB
            go_wp2_with fail
            refine HT.mono ?_
            rintro e we ⟨rfl, hb7⟩
            go_wp2
            go_ret
            exact ⟨rfl, hB6.trans (hb7.mono hB6.size)⟩
        · have hq' : parseF tx = none := hq
          rw [hp2] at hq'; cases hq'
    · have hB1 : Below w.heap.size w w1 := hbA.trans (hb1.mono hbA.size)
      clear hb1 hbA hpf
      go_wp2_with fail
      refine (HMT.out _ hB1).mono ?_
      rintro e w2 ⟨rfl, hb2⟩
      have hB2 : Below w.heap.size w w2 := hB1.trans (hb2.mono hB1.size)
      go_wp2_with fail
      refine (HMT.out _ hB2).mono ?_
      rintro e w3 ⟨rfl, hb3⟩
      go_wp2
      go_ret
      exact ⟨rfl, hB2.trans (hb3.mono hB2.size)⟩
end Go.Proofs.YtpaojmfgpeldeaaGreatDoor
