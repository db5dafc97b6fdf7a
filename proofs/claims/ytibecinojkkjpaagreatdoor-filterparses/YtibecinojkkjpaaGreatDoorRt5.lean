/-
  The law FilterParses, walked: any text is read, or refused with the place, as the reference tells, and its text is the reference's. Conditions: what the program and the reference lay is laid; errors.errorType holds its handle.
-/
import Derived.Test.YtibecinojkkjpaaGreatDoorRt3
import Derived.Test.YtibecinojkkjpaaGreatDoorRpa
import Derived.Test.YtibecinojkkjpaaGreatDoorErrsP
namespace Go.Proofs.YtibecinojkkjpaaGreatDoor
open Go.RowKit Go.Extern.Stop Go.Stop Go.Extern

theorem parseF_of_G {l : List UInt8} {t : Ft} (hl : l.length ≤ 2000) (h : parseG l = .ok t) : parseF l = some t := by
  unfold parseF
  rw [if_neg (by omega), h]
set_option maxHeartbeats 1000000 in
theorem at_placed {v : Value} {E P : Int} (w : World) (hp : ∀ W, Below w.heap.size w W → Calls Tryz.prog 20 #[v] W fun e w' => e = .returned (.tuple #[.int .i64 E, .int .i64 P]) ∧ Below W.heap.size W w') : Calls Tryz.prog 7 #[v, .agg #[.int .i64 E, .int .i64 P]] w fun e w' => e = .returned (.bool true) ∧ Below w.heap.size w w' := by
  have hA : Below w.heap.size w (w.alloc (.cells #[.int .i64 E, .int .i64 P] 25)) := (Below.refl _ _).alloc (Nat.le_refl _) _
  have HP := hp _ hA
  clear hp
  go_enter Tryz.func7, Tryz.ntmps7
  go_wp2_with fail
  refine HP.mono ?_
  rintro e w1 ⟨rfl, hb⟩
  have c0 : w1.cell? ⟨w.heap.size, 0, none⟩ = some (.int .i64 E) := by rw [hb.cell (by simp)]; simp
  have c1 : w1.cell? ⟨w.heap.size, 0 + 1, none⟩ = some (.int .i64 P) := by rw [hb.cell (by simp)]; simp
  have c1' : w1.cell? ⟨w.heap.size, 1, none⟩ = some (.int .i64 P) := c1
  go_wp2
  go_ret
  exact ⟨by simp, hA.trans (hb.mono (by simp))⟩
theorem bareOf (n : Int) (w : World) : Calls Tryz.prog 11 #[.int .i64 n] w fun e w' => e = .returned (.agg #[.int .i64 n, .int .i64 (-1)]) ∧ Below w.heap.size w w' := by
  go_enter Tryz.func11, Tryz.ntmps11
  go_wp2
  refine bodyPost_ret (v := .agg #[.int .i64 n, .int .i64 (-1)]) (by simp [results, Tryz.results11, go_sem]) rfl ⟨rfl, ?_⟩
  repeat' (first | exact Below.refl _ _ | refine Below.drew ?_ | refine Below.alloc ?_ ?_ _ | refine Below.setCell ?_ ?_ _)
  all_goals (simp <;> omega)
set_option maxHeartbeats 1000000 in
theorem rparse_long (s : ByteArray) (w : World) (hs : 2000 < s.size) :
    Calls Tryz.prog 5 #[.string s] w fun e w' => Below w.heap.size w w' ∧ e = .returned (.tuple #[.pointer none, .agg #[.int .i64 4, .int .i64 (-1)]]) := by
  have a1 : decide ((2000 : Int) < (s.size : Int)) = true := by simp; omega
  go_enter Tryz.func5, Tryz.ntmps5
  go_wp2_with fail
  refine (bareOf 4 _).mono ?_
  rintro e w1 ⟨rfl, hb⟩
  have hrb : w1.heap[w.heap.size]? = some (.cells #[.int .i64 0, .int .i64 0] 25 (0, 0)) := (hb.block w.heap.size (by simp)).trans (new_block _ _)
  have HB1 : Hid (Below w.heap.size w w1) := (below_alloc_ (Below.refl _ _) _).trans (hb.mono (by simp))
  obtain ⟨r0, r1, r2, r3⟩ := cells2r hrb
  have hrl := lt_of_block hrb
  clear hb
  go_wp2
  (try simp only [Exit.inBlock, Exit.then])
  refine bodyPost_ret (v := .tuple #[.pointer none, .agg #[.int .i64 4, .int .i64 (-1)]]) ?_ rfl ⟨?_, rfl⟩
  · rw [results_tmp_cell rfl]
    go_simp
    try rfl
  · exact (HB1.out.setCell (Nat.le_refl _) _).setCell (Nat.le_refl _) _
set_option maxRecDepth 100000 in
set_option maxHeartbeats 8000000 in
theorem parsesLaw_any (s : ByteArray) (w : World) (hG : GlobF w) (hR : GlobR w) (hF : ∀ w', Below w.heap.size w w' → GFine w') (hL : Laid w) (hs0 : s.size ≤ maxLen) :
    Calls Tryz.prog 3 #[.string s] w fun e w' => e = .returned (.bool true) ∧ Below w.heap.size w w' := by
  have HPA : Hid (∀ w1, Below w.heap.size w w1 → Calls Tryz.prog 6 #[.string s] w1 fun e w' => Below w1.heap.size w1 w' ∧ ((∃ t fv, parseF s.data.toList = some t ∧ e = .returned (.tuple #[fv, .nilIface]) ∧ FAt w' (fun k => w1.heap.size ≤ k) 20 t fv) ∨ (2000 < s.size ∧ e = .returned (.tuple #[.nilIface, .iface 23 (.int .i64 4)])) ∨ (s.size ≤ 2000 ∧ ∃ (c : Int) (p B : Nat), parseG s.data.toList = .error (c, p) ∧ e = .returned (.tuple #[.nilIface, .iface 82 (.pointer (some ⟨B, 0, none⟩))]) ∧ w'.heap[B]? = some (.cells #[.int .i64 c, .int .i64 p] 83 (0, 0))))) := fun w1 h => fparse_any s w1 (hG.below h)
  have HPR : Hid (s.size ≤ 2000 → Calls Tryz.prog 5 #[.string s] w fun e w' => Below w.heap.size w w' ∧ ((∃ t tb, parseG s.data.toList = .ok t ∧ e = .returned (.tuple #[.pointer (some ⟨tb, 0, none⟩), .agg #[.int .i64 0, .int .i64 (-1)]]) ∧ RfAt w' (fun k => w.heap.size ≤ k) 20 t tb) ∨ (∃ (c : Int) (q : Nat) (x : Option Addr), parseG s.data.toList = .error (c, q) ∧ c ≠ 0 ∧ e = .returned (.tuple #[.pointer x, .agg #[.int .i64 c, .int .i64 q]])))) := fun h0 => rparse_any s w h0 hR hF
  have HPL : Hid (2000 < s.size → Calls Tryz.prog 5 #[.string s] w fun e w' => Below w.heap.size w w' ∧ e = .returned (.tuple #[.pointer none, .agg #[.int .i64 4, .int .i64 (-1)]])) := fun h0 => rparse_long s w h0
  have HGR : Hid (∀ w1, Below w.heap.size w w1 → GlobF w1 ∧ GlobR w1) := fun w1 h => ⟨hG.below h, hR.below h⟩
  have HLL : Hid (∀ w1, Below w.heap.size w w1 → Laid w1) := fun w1 h => hL.below h
  have hsz : s.data.toList.length = s.size := Array.length_toList
  have HGF : Hid (∀ t, parseF s.data.toList = some t → s.size ≤ 2000 ∧ parseG s.data.toList = .ok t) := fun t h => by have := parseF_ok h; rw [hsz] at this; exact this
  clear hG hR hF hL
  unfold maxLen at hs0
  by_cases h2100 : 2100 < s.size
  · have d1 : decide ((2100 : Int) < (s.size : Int)) = true := by simp; omega
    go_enter Tryz.func3, Tryz.ntmps3
    go_wp2
    go_ret
    exact ⟨rfl, Below.refl _ _⟩
  · have d1 : decide ((2100 : Int) < (s.size : Int)) = false := by simp; omega
    by_cases h2000 : 2000 < s.size
    · go_enter Tryz.func3, Tryz.ntmps3
      go_wp2_with fail
      refine (HPL.out h2000).mono ?_
      rintro e w1 ⟨hb1, rfl⟩
      have HB1 : Hid (Below w.heap.size w (w1.alloc (.cells #[.int .i64 4, .int .i64 (-1)] 25))) := below_alloc_ hb1 _
      clear hb1
      go_wp2_with fail
      refine (HPA.out _ HB1.out).mono ?_
      rintro e w2 ⟨hb2, ⟨t, fv, hpf, rfl, hfa⟩ | ⟨_, rfl⟩ | ⟨h0, _⟩⟩
      · have := (HGF.out t hpf).1; omega
      · have kf : w2.heap[w1.heap.size]? = some (.cells #[.int .i64 4, .int .i64 (-1)] 25 (0, 0)) := (hb2.block w1.heap.size (by simp)).trans (new_block _ _)
        have HB2 : Hid (Below w.heap.size w w2) := HB1.out.trans (hb2.mono HB1.out.size)
        have HAT := at_placed (v := .iface 23 (.int .i64 4)) (E := 4) (P := -1) w2 (fun W hW => place_errno 4 W (HLL.out W (HB2.out.trans (hW.mono HB2.out.size))))
        obtain ⟨f0, f1, -, -⟩ := cells2r kf
        clear hb2
        go_wp2_with fail
        refine HAT.mono ?_
        rintro e w3 ⟨rfl, hb3⟩
        have k3 := (hb3.block w1.heap.size (lt_of_block kf)).trans kf
        obtain ⟨f0, f1, -, -⟩ := cells2r k3
        go_wp2
        go_ret
        exact ⟨rfl, HB2.out.trans (hb3.mono HB2.out.size)⟩
      · omega
    · go_enter Tryz.func3, Tryz.ntmps3
      go_wp2_with fail
      refine (HPR.out (by omega)).mono ?_
      rintro e w1 ⟨hb1, ⟨t, tb, hpg, rfl, hrf⟩ | ⟨c, q, px, hpg, hcn, rfl⟩⟩
      · have hpf := parseF_of_G (by omega) hpg
        have hnd : nd 20 t ≤ 100000 := by have := parse_nd hpf; omega
        have HB1 : Hid (Below w.heap.size w (w1.alloc (.cells #[.int .i64 0, .int .i64 (-1)] 25))) := below_alloc_ hb1 _
        have HRF : Hid (RfAt (w1.alloc (.cells #[.int .i64 0, .int .i64 (-1)] 25)) (fun k => w.heap.size ≤ k) 20 t tb) := hrf.below (below_alloc_ (Below.refl _ _) _)
        have HPF : Hid (parseF s.data.toList = some t) := hpf
        clear hb1 hrf hpg hpf
        go_wp2_with fail
        refine (HPA.out _ HB1.out).mono ?_
        rintro e w2 ⟨hb2, ⟨t', fv, hpf, rfl, hfa⟩ | ⟨h0, rfl⟩ | ⟨h0, c, p, B, hg, _⟩⟩
        · obtain rfl : t' = t := Option.some.inj (hpf.symm.trans HPF.out)
          have kf : w2.heap[w1.heap.size]? = some (.cells #[.int .i64 0, .int .i64 (-1)] 25 (0, 0)) := (hb2.block w1.heap.size (by simp)).trans (new_block _ _)
          have HB2 : Hid (Below w.heap.size w w2) := HB1.out.trans (hb2.mono HB1.out.size)
          have HAT := at_placed (v := .nilIface) (E := 0) (P := -1) w2 (fun W hW => place_nil W)
          have HRT := rtext_at w2 _ (HGR.out w2 HB2.out).2 (HGR.out w2 HB2.out).1 20 t' tb (HRF.out.below hb2) hnd
          obtain ⟨fty, frv, ff, frc, rfl, fm, fe, fc⟩ := text_at w2 _ (HGR.out w2 HB2.out).1 20 t' fv hfa hnd
          obtain ⟨f0, f1, -, -⟩ := cells2r kf
          generalize textF 20 t' = tx at *
          clear hb2 hpf hfa
          go_wp2_with fail
          refine HAT.mono ?_
          rintro e w3 ⟨rfl, hb3⟩
          have k3 := (hb3.block w1.heap.size (lt_of_block kf)).trans kf
          obtain ⟨f0, f1, -, -⟩ := cells2r k3
          have HB3 : Hid (Below w2.heap.size w2 w3) := hb3
          clear hb3
          go_wp2_with fail
          refine (fc w3 HB3.out).mono ?_
          rintro e w4 ⟨rfl, hb4⟩
          have HB4 : Hid (Below w2.heap.size w2 w4) := HB3.out.trans (hb4.mono HB3.out.size)
          clear hb4
          go_wp2_with fail
          refine (HRT w4 HB4.out).mono ?_
          rintro e w5 ⟨rfl, hb5⟩
          have HB5 : Hid (Below w2.heap.size w2 w5) := HB4.out.trans (hb5.mono HB4.out.size)
          go_wp2
          go_ret
          exact ⟨by simp, HB2.out.trans (HB5.out.mono HB2.out.size)⟩
        · omega
        · have := (HGF.out t HPF.out).2; rw [hg] at this; cases this
      · have HB1 : Hid (Below w.heap.size w (w1.alloc (.cells #[.int .i64 c, .int .i64 ((q : Nat) : Int)] 25))) := below_alloc_ hb1 _
        have HPG : Hid (parseG s.data.toList = .error (c, q)) := hpg
        have d2 : (c == 0) = false := by simpa using hcn
        clear hb1 hpg hcn
        go_wp2_with fail
        refine (HPA.out _ HB1.out).mono ?_
        rintro e w2 ⟨hb2, ⟨t', fv, hpf, rfl, hfa⟩ | ⟨h0, rfl⟩ | ⟨h0, c', p, B, hg, rfl, hBk⟩⟩
        · have := (HGF.out t' hpf).2; rw [HPG.out] at this; cases this
        · omega
        · have hcp : (c', p) = (c, q) := by have := hg.symm.trans HPG.out; injection this
          obtain ⟨rfl, rfl⟩ := Prod.mk.inj hcp
          have kf : w2.heap[w1.heap.size]? = some (.cells #[.int .i64 c', .int .i64 ((p : Nat) : Int)] 25 (0, 0)) := (hb2.block w1.heap.size (by simp)).trans (new_block _ _)
          have HB2 : Hid (Below w.heap.size w w2) := HB1.out.trans (hb2.mono HB1.out.size)
          have HAT := at_placed (v := .iface 82 (.pointer (some ⟨B, 0, none⟩))) (E := c') (P := ((p : Nat) : Int)) w2 (fun W hW => by
            have k := (hW.block B (lt_of_block hBk)).trans hBk
            obtain ⟨g0, g1, -, -⟩ := cells2r k
            exact place_at B 0 c' ((p : Nat) : Int) W g0 g1 (HLL.out W (HB2.out.trans (hW.mono HB2.out.size))))
          obtain ⟨f0, f1, -, -⟩ := cells2r kf
          clear hb2 hBk hg hcp
          go_wp2_with fail
          refine HAT.mono ?_
          rintro e w3 ⟨rfl, hb3⟩
          have k3 := (hb3.block w1.heap.size (lt_of_block kf)).trans kf
          obtain ⟨f0, f1, -, -⟩ := cells2r k3
          go_wp2
          go_ret
          exact ⟨rfl, HB2.out.trans (hb3.mono HB2.out.size)⟩
end Go.Proofs.YtibecinojkkjpaaGreatDoor
