/-
  The law FilterInside, walked: the same filter with not ahead of tests alone is written as the reference tells. Conditions: what the program and the reference lay is laid.
-/
import Derived.Test.YtibecinojkkjpaaGreatDoorRt3
import Derived.Test.YtibecinojkkjpaaGreatDoorRt6c
import Derived.Test.YtibecinojkkjpaaGreatDoorRpa
import Derived.Test.YtibecinojkkjpaaGreatDoorFlc
namespace Go.Proofs.YtibecinojkkjpaaGreatDoor
open Go.RowKit Go.Extern.Stop Go.Stop Go.Extern

theorem parseF_of_Gi {l : List UInt8} {t : Ft} (hl : l.length ≤ 2000) (h : parseG l = .ok t) : parseF l = some t := by
  unfold parseF
  rw [if_neg (by omega), h]
set_option maxRecDepth 100000 in
set_option maxHeartbeats 8000000 in
theorem insideLaw_any (s : ByteArray) (w : World) (hG : GlobF w) (hR : GlobR w) (hF : ∀ w', Below w.heap.size w w' → GFine w') (hs0 : s.size ≤ maxLen) :
    Calls Tryz.prog 4 #[.string s] w fun e w' => e = .returned (.bool true) ∧ Below w.heap.size w w' := by
  have HPA : Hid (∀ w1, Below w.heap.size w w1 → Calls Tryz.prog 6 #[.string s] w1 fun e w' => Below w1.heap.size w1 w' ∧ ((∃ t fv, parseF s.data.toList = some t ∧ e = .returned (.tuple #[fv, .nilIface]) ∧ FAt w' (fun k => w1.heap.size ≤ k) 20 t fv) ∨ (parseF s.data.toList = none ∧ ∃ ty p, e = .returned (.tuple #[.nilIface, .iface ty p])))) := fun w1 h => fparse_some s w1 (hG.below h)
  have HPR : Hid (s.size ≤ 2000 → Calls Tryz.prog 5 #[.string s] w fun e w' => Below w.heap.size w w' ∧ ((∃ t tb, parseG s.data.toList = .ok t ∧ e = .returned (.tuple #[.pointer (some ⟨tb, 0, none⟩), .agg #[.int .i64 0, .int .i64 (-1)]]) ∧ RfAt w' (fun k => w.heap.size ≤ k) 20 t tb) ∨ (∃ (c : Int) (q : Nat) (x : Option Addr), parseG s.data.toList = .error (c, q) ∧ c ≠ 0 ∧ e = .returned (.tuple #[.pointer x, .agg #[.int .i64 c, .int .i64 q]])))) := fun h0 => rparse_any s w h0 hR hF
  have HGR : Hid (∀ w1, Below w.heap.size w w1 → GlobF w1 ∧ GlobR w1) := fun w1 h => ⟨hG.below h, hR.below h⟩
  have hsz : s.data.toList.length = s.size := Array.length_toList
  clear hG hR hF
  unfold maxLen at hs0
  by_cases h2000 : 2000 < s.size
  · have d1 : decide ((2000 : Int) < (s.size : Int)) = true := by simp; omega
    go_enter Tryz.func4, Tryz.ntmps4
    go_wp2
    go_ret
    exact ⟨rfl, Below.refl _ _⟩
  · have d1 : decide ((2000 : Int) < (s.size : Int)) = false := by simp; omega
    go_enter Tryz.func4, Tryz.ntmps4
    go_wp2_with fail
    refine (HPR.out (by omega)).mono ?_
    rintro e w1 ⟨hb1, ⟨t, tb, hpg, rfl, hrf⟩ | ⟨c, q, px, hpg, hcn, rfl⟩⟩
    · have hpf := parseF_of_Gi (by omega) hpg
      have hnd : nd 20 t ≤ 2000 := by have := parse_nd hpf; omega
      have HB1 : Hid (Below w.heap.size w (w1.alloc (.cells #[.int .i64 0, .int .i64 (-1)] 25))) := below_alloc_ hb1 _
      have HRF : Hid (RfAt (w1.alloc (.cells #[.int .i64 0, .int .i64 (-1)] 25)) (fun k => k < (w1.alloc (.cells #[.int .i64 0, .int .i64 (-1)] 25)).heap.size) 20 t tb) := (hrf.below (below_alloc_ (Below.refl _ _) _)).kept fun k _ hk => ⟨rfl, hk⟩
      have HPF : Hid (parseF s.data.toList = some t) := hpf
      clear hb1 hrf hpg hpf
      go_wp2_with fail
      refine (HPA.out _ HB1.out).mono ?_
      rintro e w2 ⟨hb2, ⟨t', fv, hpf, rfl, hfa⟩ | ⟨hpf, ty, p, rfl⟩⟩
      · obtain rfl : t' = t := Option.some.inj (hpf.symm.trans HPF.out)
        have HB2 : Hid (Below w.heap.size w w2) := HB1.out.trans (hb2.mono HB1.out.size)
        have HR2 : Hid (RfAt w2 (fun k => k < w2.heap.size) 20 t' tb) := (HRF.out.below hb2).kept fun k _ hk => ⟨rfl, hk⟩
        obtain ⟨fty, frv, rfl⟩ := hfa.form
        have hok := hfa.ok
        have HIN := inside_any w2 _ hfa (by omega)
        clear hb2 hpf hfa HRF
        go_wp2_with fail
        refine HIN.mono ?_
        rintro e w3 ⟨gv, rfl, hga, hb3⟩
        have hnd2 : nd (20 + 1) (turn 20 false t') ≤ 100000 := by have := nd_turn 20 false t' hok; omega
        have HB3 : Hid (Below w.heap.size w w3) := HB2.out.trans (hb3.mono HB2.out.size)
        obtain ⟨gty, grv, gf, grc, rfl, gm, ge, gc⟩ := text_at w3 _ (HGR.out w3 HB3.out).1 21 _ _ hga hnd2
        have HRI : Hid (∀ w4, Below w3.heap.size w3 w4 → Calls Tryz.prog 10 #[.pointer (some ⟨tb, 0, none⟩), .bool false] w4 fun e w' => ∃ b', e = .returned (.pointer (some ⟨b', 0, none⟩)) ∧ Below w4.heap.size w4 w' ∧ Calls Tryz.prog 8 #[.pointer (some ⟨b', 0, none⟩)] w' fun e w'' => e = .returned (.string ⟨(textF 21 (turn 20 false t')).toArray⟩) ∧ Below w'.heap.size w' w'') := by
          intro w4 hb4
          have hb24 : Below w2.heap.size w2 w4 := hb3.trans (hb4.mono hb3.size)
          refine (rinside_at 20 t' tb false w4 (fun k => k < w4.heap.size) ((HR2.out.below hb24).kept fun k _ hk => ⟨rfl, hk⟩) (fun _ h => h) (by omega)).mono ?_
          rintro e w' ⟨b', rfl, hr', hb'⟩
          have hbw : Below w.heap.size w w' := (HB3.out.trans (hb4.mono HB3.out.size)).trans (hb'.mono (HB3.out.trans (hb4.mono HB3.out.size)).size)
          exact ⟨b', rfl, hb', rtext_at w' _ (HGR.out w' hbw).2 (HGR.out w' hbw).1 21 _ b' hr' hnd2 w' (Below.refl _ _)⟩
        generalize textF 21 (turn 20 false t') = tx at *
        clear hga hb3 hnd2 HR2 HB2
        go_wp2_with fail
        refine (gc w3 (Below.refl _ _)).mono ?_
        rintro e w4 ⟨rfl, hb4⟩
        have HB4 : Hid (Below w3.heap.size w3 w4) := hb4
        clear hb4 gc
        go_wp2_with fail
        refine (HRI.out w4 HB4.out).mono ?_
        rintro e w5 ⟨b', rfl, hb5, hc5⟩
        have HB5 : Hid (Below w3.heap.size w3 w5) := HB4.out.trans (hb5.mono HB4.out.size)
        clear hb5
        go_wp2_with fail
        refine hc5.mono ?_
        rintro e w6 ⟨rfl, hb6⟩
        have HB6 : Hid (Below w3.heap.size w3 w6) := HB5.out.trans (hb6.mono HB5.out.size)
        clear hb6 hc5
        go_wp2
        go_ret
        exact ⟨by simp, HB3.out.trans (HB6.out.mono HB3.out.size)⟩
      · exact absurd (hpf.symm.trans HPF.out) (by simp)
    · have d2 : (c == 0) = false := by simpa using hcn
      have HB1 : Hid (Below w.heap.size w (w1.alloc (.cells #[.int .i64 c, .int .i64 ((q : Nat) : Int)] 25))) := below_alloc_ hb1 _
      clear hb1 hpg
      go_wp2
      go_ret
      exact ⟨rfl, HB1.out⟩
end Go.Proofs.YtibecinojkkjpaaGreatDoor
