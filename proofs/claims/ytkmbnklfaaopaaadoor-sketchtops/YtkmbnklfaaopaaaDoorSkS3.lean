/-
  millracelaw.samePairs of like pairs is true; millracelaw.SketchTops returns true at every argument; nothing that was there before is otherwise. Conditions: the keys lie in memory, numbers of 64 bits, and errors.errorType holds its handle.
-/
import Derived.Test.YtkmbnklfaaopaaaDoorSkS2
import Derived.Test.YtkmbnklfaaopaaaDoorLwE
namespace Go.Proofs.YtkmbnklfaaopaaaDoor
open Go.RowKit Go.Extern.Stop Go.Stop Go.Extern Go.Maps

set_option maxRecDepth 20000 in
set_option maxHeartbeats 2000000 in
theorem samePairs_any (x y : Option Addr) (cx cy : Nat) (M : List (Int × Int)) (w : World) (hx : PrR w x M) (hy : PrR w y M) (hM : M.length ≤ 1000000) :
    Calls Tryd.prog 9 #[.slice x M.length cx, .slice y M.length cy] w fun e w' => e = .returned (.bool true) ∧ ∃ q, w' = w.drewN q := by
  have HX : Hid (PrR w x M) := hx
  have HY : Hid (PrR w y M) := hy
  clear hx hy
  go_enter Tryd.func9, Tryd.ntmps9
  go_wp2
  go_loopw [5] (fun i wr => ∃ k : Nat, k ≤ M.length ∧ i = .int .i64 k ∧ ∃ q, wr = w.drewN q) (fun i _ => M.length - (intOf i).toNat)
  case atStart => exact ⟨0, Nat.zero_le _, rfl, 0, rfl⟩
  case round =>
    obtain ⟨k, hk, rfl, q, rfl⟩ := hrel
    by_cases hlt : k < M.length
    · obtain ⟨p, hp⟩ : ∃ p, M[k]? = some p := ⟨_, List.getElem?_eq_getElem hlt⟩
      obtain ⟨b, off, rfl, c0, c1⟩ := HX.out.at hp
      obtain ⟨b', off', rfl, d0, d1⟩ := HY.out.at hp
      have e0 : (p.1 != p.1) = false := by simp
      have e1 : (p.2 != p.2) = false := by simp
      go_wp2
      go_quiet (fail)
      go_wp2
      go_roundw
      case rel => exact ⟨k + 1, by omega, by go_num, _, rfl⟩
      case measure => simp [intOf]; omega
    · go_wp2
      go_ret
      exact ⟨rfl, _, rfl⟩
theorem tops_eq {L M1 M2 : List (Int × Int)} (ha : Ap L) (h1 : M1.Perm L) (h2 : Srt M1) (h3 : M2.Perm L) (h4 : M2.Pairwise PLt) : M1 = M2 :=
  perm_sorted_eq (srt_pairs h2 (ha.perm h1.symm)) h4 (h1.trans h3.symm)
set_option maxRecDepth 20000 in
set_option maxHeartbeats 4000000 in
theorem topsLaw_any (x : Option Addr) (cap n : Nat) (f : Nat → Int) (c : Int) (w : World) (hL : Laid w) (hx : Row w x n f) (hw : ∀ i, i < n → I64 (f i)) (b0 : n ≤ maxLen) :
    Calls Tryd.prog 3 #[.slice x n cap, .int .i64 c] w fun e w' => e = .returned (.bool true) ∧ Below w.heap.size w w' := by
  have HX : Hid (Row w x n f) := hx
  have HW : Hid (∀ i, i < n → I64 (f i)) := hw
  have HL : Hid (Laid w) := hL
  unfold maxLen at b0
  clear hx hw hL
  by_cases hn : 200 < n
  · go_enter Tryd.func3, Tryd.ntmps3
    go_wp2
    go_ret
    exact ⟨rfl, Below.refl _ _⟩
  clear b0
  have hmm := @run_makeMap Tryd.prog
  go_enter Tryd.func3, Tryd.ntmps3
  go_wp2
  clear hmm
  go_loopw [6] (fun i wr => ∃ k : Nat, k ≤ n ∧ i = .int .i64 k ∧ MpI wr w.heap.size (exN f k) ∧ Below w.heap.size w wr) (fun i _ => n - (intOf i).toNat)
  case atStart => exact ⟨0, Nat.zero_le _, rfl, MpI.made w, (Below.refl _ _).alloc (Nat.le_refl _) _⟩
  case round =>
    obtain ⟨k, hk, rfl, hm, hbel⟩ := hrel
    have HM : Hid (MpI wr w.heap.size (exN f k)) := hm
    have HB : Hid (Below w.heap.size w wr) := hbel
    have hc := exN_ok f k
    by_cases hlt : k < n
    · obtain ⟨b, off, rfl⟩ := HX.out.some (by omega)
      have c0 := (HX.out.below hbel).at hlt
      have hki := HW.out k hlt
      have hv := hc.vl (f k)
      have hlk := hm.look hki
      have hlen := hc.len
      obtain ⟨w2, hrun, hm2, hg2⟩ := hm.upd (x := vl (exN f k) (f k) + 1) hki ⟨by omega, by omega⟩ (by omega)
      have HM2 : Hid (MpI w2 w.heap.size (exN f (k + 1))) := hm2
      have HB2 : Hid (Below w.heap.size w w2) := below_upd hbel (Nat.le_refl _) hg2
      have ew : IntKind.i64.wrap (vl (exN f k) (f k) + 1) = vl (exN f k) (f k) + 1 := by rw [IntKind.wrap_i64]; omega
      clear hm hbel hc hm2 hg2 hv hlen
      go_wp2
      go_roundw
      case rel => exact ⟨k + 1, by omega, by go_num, HM2.out, HB2.out⟩
      case measure => simp [intOf]; omega
    · obtain rfl : k = n := by omega
      clear hm hbel hc
      by_cases hbad : c < 1 ∨ 100 < c
      · have HTN : Hid (∀ W, Calls Tryd.prog 7 #[.slice x k cap, .int .i64 c] W fun e w' => e = .returned (.tuple #[.slice none 0 0, .iface 24 (.int .i64 2)]) ∧ w' = W) := fun W => top_no x cap k c W hbad
        by_cases h1 : c < 1
        · go_wp2_with fail
          refine (HTN.out wr).mono ?_
          rintro e w1 ⟨rfl, rfl⟩
          go_wp2_with fail
          refine (bare_no 2 w1 (HL.out.below HB.out) (by decide)).mono ?_
          rintro e w2 ⟨rfl, hb2⟩
          have HB2 : Hid (Below w.heap.size w w2) := HB.out.trans (hb2.mono HB.out.size)
          have HM2 : Hid (MpI w2 w.heap.size (exN f k)) := HM.out.below hb2
          clear hb2
          go_wp2_with fail
          refine (samePairs_any none none 0 0 [] w2 (Or.inl rfl) (Or.inl rfl) (by simp)).mono ?_
          rintro e w4 ⟨rfl, q4, rfl⟩
          have HB4 : Hid (Below w.heap.size w (w2.drewN q4)) := below_drewN' HB2.out q4
          have HM4 : Hid (MpI (w2.drewN q4) w.heap.size (exN f k)) := HM2.out.block rfl
          generalize w2.drewN q4 = w5 at *
          clear HM2 HB2
          go_wp2_with fail
          refine (exact_any x cap k f w5 (HX.out.below HB4.out) HW.out (by omega)).mono ?_
          rintro e w6 ⟨⟨x6, cap6, M6, rfl, p1, p2, p3⟩, hb6⟩
          have HP6 : Hid (PrR w6 x6 M6) := p3
          have HPS : Hid (M6.Perm (exN f k) ∧ Srt M6) := ⟨p1, p2⟩
          have HB6 : Hid (Below w.heap.size w w6) := HB4.out.trans (hb6.mono HB4.out.size)
          have HM6 : Hid (MpI w6 w.heap.size (exN f k)) := HM4.out.below hb6
          clear p1 p2 p3 hb6
          go_wp2_with fail
          refine (sorted_any w.heap.size (exN f k) w6 HM6.out (by have := (exN_ok f k).len; omega)).mono ?_
          rintro e w7 ⟨⟨x7, cap7, M7, rfl, p1, p2, p3⟩, hb7⟩
          obtain rfl : M6 = M7 := tops_eq (exN_ok f k).ap HPS.out.1 HPS.out.2 p1 p2
          have HP7 : Hid (PrR w7 x6 M6) := HP6.out.below hb7
          have HP8 : Hid (PrR w7 x7 M6) := p3
          have HB7 : Hid (Below w.heap.size w w7) := HB6.out.trans (hb7.mono HB6.out.size)
          have HML7 : Hid (M6.length ≤ 1000000) := by show _ ≤ _; rw [p1.length_eq]; have := (exN_ok f k).len; omega
          clear p1 p2 p3 hb7
          go_wp2_with fail
          refine (samePairs_any x6 x7 cap6 cap7 M6 w7 HP7.out HP8.out HML7.out).mono ?_
          rintro e w8 ⟨rfl, q8, rfl⟩
          go_wp2
          go_ret
          exact ⟨rfl, below_drewN' HB7.out q8⟩
        · have h2 : 100 < c := by omega
          go_wp2_with fail
          refine (HTN.out wr).mono ?_
          rintro e w1 ⟨rfl, rfl⟩
          go_wp2_with fail
          refine (bare_no 2 w1 (HL.out.below HB.out) (by decide)).mono ?_
          rintro e w2 ⟨rfl, hb2⟩
          have HB2 : Hid (Below w.heap.size w w2) := HB.out.trans (hb2.mono HB.out.size)
          have HM2 : Hid (MpI w2 w.heap.size (exN f k)) := HM.out.below hb2
          clear hb2
          go_wp2_with fail
          refine (samePairs_any none none 0 0 [] w2 (Or.inl rfl) (Or.inl rfl) (by simp)).mono ?_
          rintro e w4 ⟨rfl, q4, rfl⟩
          have HB4 : Hid (Below w.heap.size w (w2.drewN q4)) := below_drewN' HB2.out q4
          have HM4 : Hid (MpI (w2.drewN q4) w.heap.size (exN f k)) := HM2.out.block rfl
          generalize w2.drewN q4 = w5 at *
          clear HM2 HB2
          go_wp2_with fail
          refine (exact_any x cap k f w5 (HX.out.below HB4.out) HW.out (by omega)).mono ?_
          rintro e w6 ⟨⟨x6, cap6, M6, rfl, p1, p2, p3⟩, hb6⟩
          have HP6 : Hid (PrR w6 x6 M6) := p3
          have HPS : Hid (M6.Perm (exN f k) ∧ Srt M6) := ⟨p1, p2⟩
          have HB6 : Hid (Below w.heap.size w w6) := HB4.out.trans (hb6.mono HB4.out.size)
          have HM6 : Hid (MpI w6 w.heap.size (exN f k)) := HM4.out.below hb6
          clear p1 p2 p3 hb6
          go_wp2_with fail
          refine (sorted_any w.heap.size (exN f k) w6 HM6.out (by have := (exN_ok f k).len; omega)).mono ?_
          rintro e w7 ⟨⟨x7, cap7, M7, rfl, p1, p2, p3⟩, hb7⟩
          obtain rfl : M6 = M7 := tops_eq (exN_ok f k).ap HPS.out.1 HPS.out.2 p1 p2
          have HP7 : Hid (PrR w7 x6 M6) := HP6.out.below hb7
          have HP8 : Hid (PrR w7 x7 M6) := p3
          have HB7 : Hid (Below w.heap.size w w7) := HB6.out.trans (hb7.mono HB6.out.size)
          have HML7 : Hid (M6.length ≤ 1000000) := by show _ ≤ _; rw [p1.length_eq]; have := (exN_ok f k).len; omega
          clear p1 p2 p3 hb7
          go_wp2_with fail
          refine (samePairs_any x6 x7 cap6 cap7 M6 w7 HP7.out HP8.out HML7.out).mono ?_
          rintro e w8 ⟨rfl, q8, rfl⟩
          go_wp2
          go_ret
          exact ⟨rfl, below_drewN' HB7.out q8⟩
      · have g0 : ¬ c < 1 := by omega
        have g1 : ¬ 100 < c := by omega
        have r0 : 1 ≤ c := by omega
        have r1 : c ≤ 100 := by omega
        clear hbad
        go_wp2_with fail
        refine (rtop_any x cap k f c wr (HX.out.below HB.out) HW.out (by omega) r0 r1).mono ?_
        rintro e w1 ⟨⟨x1, cap1, M1, rfl, p1, p2, p3⟩, hb1⟩
        have HR1 : Hid (M1.Perm (topN c f k) ∧ M1.Pairwise PLt ∧ PrR w1 x1 M1) := ⟨p1, p2, p3⟩
        have HB1 : Hid (Below w.heap.size w w1) := HB.out.trans (hb1.mono HB.out.size)
        have HM1 : Hid (MpI w1 w.heap.size (exN f k)) := HM.out.below hb1
        clear p1 p2 p3 hb1
        go_wp2_with fail
        refine (top_yes x cap k f c w1 (HX.out.below HB1.out) HW.out (by omega) r0 r1).mono ?_
        rintro e w2 ⟨⟨x2, cap2, M2, rfl, p1, p2, p3⟩, hb2⟩
        obtain rfl : M2 = M1 := tops_eq (topN_ok c f k).ap p1 p2 HR1.out.1 HR1.out.2.1
        have HP1 : Hid (PrR w2 x1 M2) := HR1.out.2.2.below hb2
        have HP2 : Hid (PrR w2 x2 M2) := p3
        have HML : Hid (M2.length ≤ 1000000) := by show _ ≤ _; rw [p1.length_eq]; have := (topN_ok c f k).len; omega
        have HB2 : Hid (Below w.heap.size w w2) := HB1.out.trans (hb2.mono HB1.out.size)
        have HM2 : Hid (MpI w2 w.heap.size (exN f k)) := HM1.out.below hb2
        clear p1 p2 p3 hb2
        go_wp2_with fail
        refine (bare_nil w2 (HL.out.below HB2.out)).mono ?_
        rintro e w3 ⟨rfl, hb3⟩
        have HB3 : Hid (Below w.heap.size w w3) := HB2.out.trans (hb3.mono HB2.out.size)
        have HM3 : Hid (MpI w3 w.heap.size (exN f k)) := HM2.out.below hb3
        have HQ1 : Hid (PrR w3 x1 M2) := HP1.out.below hb3
        have HQ2 : Hid (PrR w3 x2 M2) := HP2.out.below hb3
        clear hb3
        go_wp2_with fail
        refine (samePairs_any x2 x1 cap2 cap1 M2 w3 HQ2.out HQ1.out HML.out).mono ?_
        rintro e w4 ⟨rfl, q4, rfl⟩
        have HB4 : Hid (Below w.heap.size w (w3.drewN q4)) := below_drewN' HB3.out q4
        have HM4 : Hid (MpI (w3.drewN q4) w.heap.size (exN f k)) := HM3.out.block rfl
        generalize w3.drewN q4 = w5 at *
        clear HQ1 HQ2 HP1 HP2 HM3 HM2 HM1 HB3 HB2 HB1
        go_wp2_with fail
        refine (exact_any x cap k f w5 (HX.out.below HB4.out) HW.out (by omega)).mono ?_
        rintro e w6 ⟨⟨x6, cap6, M6, rfl, p1, p2, p3⟩, hb6⟩
        have HP6 : Hid (PrR w6 x6 M6) := p3
        have HPS : Hid (M6.Perm (exN f k) ∧ Srt M6) := ⟨p1, p2⟩
        have HB6 : Hid (Below w.heap.size w w6) := HB4.out.trans (hb6.mono HB4.out.size)
        have HM6 : Hid (MpI w6 w.heap.size (exN f k)) := HM4.out.below hb6
        clear p1 p2 p3 hb6
        go_wp2_with fail
        refine (sorted_any w.heap.size (exN f k) w6 HM6.out (by have := (exN_ok f k).len; omega)).mono ?_
        rintro e w7 ⟨⟨x7, cap7, M7, rfl, p1, p2, p3⟩, hb7⟩
        obtain rfl : M6 = M7 := tops_eq (exN_ok f k).ap HPS.out.1 HPS.out.2 p1 p2
        have HP7 : Hid (PrR w7 x6 M6) := HP6.out.below hb7
        have HP8 : Hid (PrR w7 x7 M6) := p3
        have HB7 : Hid (Below w.heap.size w w7) := HB6.out.trans (hb7.mono HB6.out.size)
        have HML7 : Hid (M6.length ≤ 1000000) := by show _ ≤ _; rw [p1.length_eq]; have := (exN_ok f k).len; omega
        clear p1 p2 p3 hb7
        go_wp2_with fail
        refine (samePairs_any x6 x7 cap6 cap7 M6 w7 HP7.out HP8.out HML7.out).mono ?_
        rintro e w8 ⟨rfl, q8, rfl⟩
        go_wp2
        go_ret
        exact ⟨rfl, below_drewN' HB7.out q8⟩
end Go.Proofs.YtkmbnklfaaopaaaDoor
