/-
  The law FilterMeans, walked: which packets a filter means is what the reference tells. Conditions: what the program and the reference lay is laid.
-/
import Derived.Test.YtibecinojkkjpaaDoorRpa
import Derived.Test.YtibecinojkkjpaaDoorRq5
import Derived.Test.YtibecinojkkjpaaDoorFla
namespace Go.Proofs.YtibecinojkkjpaaDoor
open Go.RowKit Go.Extern.Stop Go.Stop Go.Extern

theorem parseF_of_G {l : List UInt8} {t : Ft} (hl : l.length ≤ 2000) (h : parseG l = .ok t) : parseF l = some t := by
  unfold parseF
  rw [if_neg (by omega), h]
theorem parse_nd2 {l : List UInt8} {t : Ft} (h : parseF l = some t) : nd 20 t ≤ l.length := parse_nd h
set_option maxRecDepth 100000 in
set_option maxHeartbeats 8000000 in
theorem meansLaw_any (s : ByteArray) (x : It) (w : World) (hG : GlobF w) (hR : GlobR w) (hF : ∀ w', Below w.heap.size w w' → GFine w') (hs0 : s.size ≤ maxLen) :
    Calls Tryd.prog 3 #[.string s, .agg #[.int .i64 x.a, .int .i64 x.l, .int .i64 x.f, .int .i64 x.b, .int .i64 x.m]] w fun e w' => e = .returned (.bool true) ∧ Below w.heap.size w w' := by
  have HPA : Hid (∀ w1, Below w.heap.size w w1 → Calls Tryd.prog 6 #[.string s] w1 fun e w' => Below w1.heap.size w1 w' ∧ ((∃ t fv, parseF s.data.toList = some t ∧ e = .returned (.tuple #[fv, .nilIface]) ∧ FAt w' (fun k => w1.heap.size ≤ k) 20 t fv) ∨ (parseF s.data.toList = none ∧ ∃ ty p, e = .returned (.tuple #[.nilIface, .iface ty p])))) := fun w1 h => fparse_some s w1 (hG.below h)
  have HPR : Hid (s.size ≤ 2000 → ∀ w1, Below w.heap.size w w1 → Calls Tryd.prog 5 #[.string s] w1 fun e w' => Below w1.heap.size w1 w' ∧ ((∃ t tb, parseG s.data.toList = .ok t ∧ e = .returned (.tuple #[.pointer (some ⟨tb, 0, none⟩), .agg #[.int .i64 0, .int .i64 (-1)]]) ∧ RfAt w' (fun k => w1.heap.size ≤ k) 20 t tb) ∨ (∃ (c : Int) (q : Nat) (x : Option Addr), parseG s.data.toList = .error (c, q) ∧ c ≠ 0 ∧ e = .returned (.tuple #[.pointer x, .agg #[.int .i64 c, .int .i64 q]])))) := fun h0 w1 h => rparse_any s w1 h0 (hR.below h) (fun w' h' => hF w' (h.trans (h'.mono h.size)))
  have hsz : s.data.toList.length = s.size := Array.length_toList
  clear hG hR hF
  obtain ⟨xa, xl, xf, xb, xm⟩ := x
  simp only
  unfold maxLen at hs0
  by_cases h2000 : 2000 < s.size
  · have d1 : decide ((2000 : Int) < (s.size : Int)) = true := by simp; omega
    go_enter Tryd.func3, Tryd.ntmps3
    go_wp2
    go_ret
    exact ⟨rfl, below_alloc_ (Below.refl _ _) _⟩
  · have d1 : decide ((2000 : Int) < (s.size : Int)) = false := by simp; omega
    have HFG : Hid (∀ t, parseG s.data.toList = .ok t → parseF s.data.toList = some t) := fun t h => parseF_of_G (by omega) h
    have HND : Hid (∀ t, parseF s.data.toList = some t → nd 20 t ≤ 100000) := fun t h => by have := parse_nd2 h; omega
    go_enter Tryd.func3, Tryd.ntmps3
    go_wp2_with fail
    have hbA : Below w.heap.size w (w.alloc (.cells #[.int .i64 xa, .int .i64 xl, .int .i64 xf, .int .i64 xb, .int .i64 xm] 23)) := below_alloc_ (Below.refl _ _) _
    refine (HPR.out (by omega) _ hbA).mono ?_
    rintro e w1 ⟨hb1, ⟨t, tb, hpg, rfl, hrf⟩ | ⟨c, q, px, hpg, hcn, rfl⟩⟩
    · have hB1 : Below w.heap.size w w1 := hbA.trans (hb1.mono hbA.size)
      have k1 : w1.heap[w.heap.size]? = some (.cells #[.int .i64 xa, .int .i64 xl, .int .i64 xf, .int .i64 xb, .int .i64 xm] 23 (0, 0)) := (hb1.block w.heap.size (by simp)).trans (new_block _ _)
      have hpf := HFG.out t hpg
      have hnd := HND.out t hpf
      have HM := rmeant_at ⟨xa, xl, xf, xb, xm⟩ w1 _ 20 t tb hrf hnd
      have HME : Hid (∀ w2, Below w1.heap.size w1 w2 → Calls Tryd.prog 7 #[.pointer (some ⟨tb, 0, none⟩), .agg #[.int .i64 xa, .int .i64 xl, .int .i64 xf, .int .i64 xb, .int .i64 xm]] w2 fun e w' => e = .returned (.bool (means ⟨xa, xl, xf, xb, xm⟩ 20 t)) ∧ Below w2.heap.size w2 w') := HM
      have HPF : Hid (parseF s.data.toList = some t) := hpf
      have HB1 : Hid (Below w.heap.size w w1) := hB1
      have HK1 : Hid (w1.heap[w.heap.size]? = some (.cells #[.int .i64 xa, .int .i64 xl, .int .i64 xf, .int .i64 xb, .int .i64 xm] 23 (0, 0))) := k1
      clear HM hrf hb1 hbA hpf hpg hB1 k1
      go_wp2_with fail
      refine (HPA.out _ (by refine HB1.out.trans ?_; exact (below_alloc_ (Below.refl _ _) _).mono HB1.out.size)).mono ?_
      rintro e wc ⟨hb2, ⟨t', fv, hpf, rfl, hfa⟩ | ⟨hpf, ty, p, rfl⟩⟩
      · obtain rfl : t' = t := Option.some.inj (hpf.symm.trans HPF.out)
        obtain ⟨fty, frv, ff, frc, rfl, fm, fe, fc⟩ := means_at ⟨xa, xl, xf, xb, xm⟩ wc _ 20 t' fv hfa hnd
        have hb12 : Below w1.heap.size w1 wc := (below_alloc_ (Below.refl _ _) _).trans (hb2.mono (by simp))
        have k3 : wc.heap[w.heap.size]? = some (.cells #[.int .i64 xa, .int .i64 xl, .int .i64 xf, .int .i64 xb, .int .i64 xm] 23 (0, 0)) := (hb12.block w.heap.size (lt_of_block HK1.out)).trans HK1.out
        have hB3 : Below w.heap.size w wc := HB1.out.trans (hb12.mono HB1.out.size)
        have HF : Hid (∀ w', Below wc.heap.size wc w' → Calls Tryd.prog ff #[frc, .agg #[.int .i64 xa, .int .i64 xl, .int .i64 xf, .int .i64 xb, .int .i64 xm]] w' fun e w'' => e = .returned (.bool (means ⟨xa, xl, xf, xb, xm⟩ 20 t')) ∧ Below wc.heap.size wc w'') := fun w' h => (fc w' h).mono fun e w'' ⟨a, b⟩ => ⟨a, h.trans (b.mono h.size)⟩
        have HGM : Hid (∀ w', Below wc.heap.size wc w' → Calls Tryd.prog 7 #[.pointer (some ⟨tb, 0, none⟩), .agg #[.int .i64 xa, .int .i64 xl, .int .i64 xf, .int .i64 xb, .int .i64 xm]] w' fun e w'' => e = .returned (.bool (means ⟨xa, xl, xf, xb, xm⟩ 20 t')) ∧ Below wc.heap.size wc w'') := fun w' h => (HME.out w' (hb12.trans (h.mono hb12.size))).mono fun e w'' ⟨a, b⟩ => ⟨a, h.trans (b.mono h.size)⟩
        generalize means ⟨xa, xl, xf, xb, xm⟩ 20 t' = r at *
        have HSC : Hid (∀ w', Below wc.heap.size wc w' → w'.cell? ⟨w.heap.size, 0, none⟩ = some (.int .i64 xa) ∧ w'.cell? ⟨w.heap.size, 1, none⟩ = some (.int .i64 xl) ∧ w'.cell? ⟨w.heap.size, 2, none⟩ = some (.int .i64 xf) ∧ w'.cell? ⟨w.heap.size, 3, none⟩ = some (.int .i64 xb) ∧ w'.cell? ⟨w.heap.size, 4, none⟩ = some (.int .i64 xm) ∧ Below wc.heap.size wc w') := by
          intro w' hb
          obtain ⟨x0, x1, x2, x3, x4⟩ := cells5 ((hb.block w.heap.size (lt_of_block k3)).trans k3)
          exact ⟨x0, x1, x2, x3, x4, hb⟩
        have HE : Hid (∀ w', Below wc.heap.size wc w' → Below w.heap.size w w') := fun w' hb => hB3.trans (hb.mono hB3.size)
        clear hfa fc k3 hb12 hB3 hb2 hnd HPA HPR HND HFG hpf HPF HME HB1 HK1
        go_wp2_with fail
        go_region_held3 (fun w' => w'.cell? ⟨w.heap.size, 0, none⟩ = some (.int .i64 xa) ∧ w'.cell? ⟨w.heap.size, 1, none⟩ = some (.int .i64 xl) ∧ w'.cell? ⟨w.heap.size, 2, none⟩ = some (.int .i64 xf) ∧ w'.cell? ⟨w.heap.size, 3, none⟩ = some (.int .i64 xb) ∧ w'.cell? ⟨w.heap.size, 4, none⟩ = some (.int .i64 xm) ∧ Below wc.heap.size wc w') ((refine HSC.out _ ?_; (repeat (first | exact Below.refl _ _ | assumption | refine Below.drew ?_ | refine below_alloc_ ?_ _)))) (first
          | (go_at_call 7; refine (HGM.out _ (by (repeat (first | exact Below.refl _ _ | assumption | refine Below.drew ?_ | refine below_alloc_ ?_ _)))).mono ?_; rintro e wa ⟨rfl, hba⟩; have qa := HSC.out _ hba; obtain ⟨qa0, qa1, qa2, qa3, qa4, -⟩ := qa)
          | (refine (HF.out _ (by (repeat (first | exact Below.refl _ _ | assumption | refine Below.drew ?_ | refine below_alloc_ ?_ _)))).mono ?_; rintro e wb ⟨rfl, hbb⟩; have qb := HSC.out _ hbb; obtain ⟨qb0, qb1, qb2, qb3, qb4, -⟩ := qb))
        go_wp2
        go_ret
        exact ⟨rfl, HE.out _ (by assumption)⟩
      · exact absurd (hpf.symm.trans HPF.out) (by simp)
    · have hB1 : Below w.heap.size w w1 := hbA.trans (hb1.mono hbA.size)
      have d2 : (c == 0) = false := by simpa using hcn
      clear hb1 hbA hpg
      go_wp2
      go_ret
      exact ⟨rfl, hB1.trans ((below_alloc_ (Below.refl _ _) _).mono hB1.size)⟩
end Go.Proofs.YtibecinojkkjpaaDoor
