/-
  millracekeep.FairKeeps: it returns true at every room, quanta and all steps; nothing that was there before is otherwise. Conditions: the quanta and the steps lie in memory.
-/
import Derived.Test.YtjjchknclpfgiaaFq
import Derived.Test.YtjjchknclpfgiaaFo
namespace Go.Proofs.Ytjjchknclpfgiaa
open Go.RowKit Go.Extern.Stop Go.Stop Go.Extern

theorem allF_in {fl : Nat → List Hd} {N f : Nat} {x : Hd} (hf : f < N) (h : x ∈ fl f) : x ∈ allF fl N := List.mem_flatMap.2 ⟨f, List.mem_range.2 hf, h⟩
theorem rounds_orders (b : Nat) (room : Int) (q : Nat → Int) : (RoundsM b room q).Orders (fun s => allF s.fl 16) where
  put := by
    intro (s : RnS) now x y hy
    have h1 := (putW_keeps room s x).mem_iff (a := y)
    have h2 : y ∈ allF s.fl 16 ++ [x] := h1.2 (List.mem_append_right _ hy)
    rcases List.mem_append.1 h2 with h | h
    · exact Or.inr h
    · exact Or.inl (by simpa using h)
  take := by
    intro (s : RnS) t n now hI
    show ((takeW q s).2.2.2 = true → (takeW q s).2.2.1 ∈ allF s.fl 16) ∧ ∀ y ∈ allF (takeW q s).1.fl 16, y ∈ allF s.fl 16 ∧ ((takeW q s).2.2.2 = true → y.f = (takeW q s).2.2.1.f → (takeW q s).2.2.1.n < y.n)
    rcases takeW_fl q (mu s + 1) s (Nat.lt_succ_self _) with ⟨h1, h2, _⟩ | ⟨f, x, L, hf, hL, h2, h3⟩
    · rw [h1, h2]
      exact ⟨fun h => (by cases h), fun y hy => ⟨hy, fun h => (by cases h)⟩⟩
    · rw [h2, h3]
      have hx : x ∈ s.fl f := by rw [hL]; simp
      refine ⟨fun _ => allF_in hf hx, fun y hy => ?_⟩
      obtain ⟨g, hg, hy⟩ := allF_mem hy
      by_cases e : g = f
      · subst e
        rw [updF_same] at hy
        have h4 := (hI.2.2 g hg).1
        rw [hL, List.map_cons, List.pairwise_cons] at h4
        exact ⟨allF_in hg (by rw [hL]; simp [hy]), fun _ _ => h4.1 y.n (List.mem_map.2 ⟨y, hy, rfl⟩)⟩
      · rw [updF_ne e] at hy
        refine ⟨allF_in hg hy, fun _ hyf => ?_⟩
        have h5 := (hI.1.ok g hg y hy).2
        have h6 := (hI.1.ok f hf x hx).2
        have h7 : y.f = x.f := hyf
        omega
  when := fun s now y hy => hy
set_option maxRecDepth 20000 in
set_option maxHeartbeats 4000000 in
theorem fairKeeps_any (R : Int) (y : Option Addr) (m ycap : Nat) (f : Nat → Int) (x : Option Addr) (cap : Nat) (xs : List Stp) (w : World) (hr : IRow w y m f) (hmm : m ≤ maxLen) (hl : Lies w x (flt Stp.cs xs)) (hm : xs.length ≤ maxLen) :
    Calls Try.prog 5 #[.int .i64 R, .slice y m ycap, .slice x xs.length cap] w fun e w' => e = .returned (.bool true) ∧ Below w.heap.size w w' := by
  have HL : Hid (Lies w x (flt Stp.cs xs)) := hl
  have HR : Hid (IRow w y m f) := hr
  clear hl hr
  unfold maxLen at hm hmm
  obtain ⟨q, hq⟩ : ∃ q, xs.length = q := ⟨_, rfl⟩
  have HN : Hid (xs.length = q) := hq
  rw [hq] at hm ⊢
  clear hq
  have hp1 := ptrRn
  have hp2 := ptrRnN
  by_cases hlen : 120 < q
  · go_enter Try.func5, Try.ntmps5
    go_wp2
    go_ret
    exact ⟨rfl, Below.refl _ _⟩
  by_cases hml : 16 < m
  · go_enter Try.func5, Try.ntmps5
    go_wp2
    go_ret
    exact ⟨rfl, Below.refl _ _⟩
  clear hm hmm
  go_enter Try.func5, Try.ntmps5
  go_wp2
  go_loopw [7] (fun i wr => ∃ k : Nat, k ≤ m ∧ i = .int .i64 k ∧ wr = w) (fun i _ => m - (intOf i).toNat)
  case atStart => exact ⟨0, Nat.zero_le _, rfl, rfl⟩
  case round =>
    obtain ⟨k, hk, rfl, rfl⟩ := hrel
    by_cases hlt : k < m
    · rcases HR.out with h0 | ⟨b, off, rfl, hb, hc⟩
      · omega
      have hck := hc k hlt
      clear hc
      by_cases h20 : f k < 20
      · have o1 : decide (f k < 20) = true := decide_eq_true h20
        clear h20
        go_wp2
        go_ret
        exact ⟨rfl, Below.refl _ _⟩
      · have o1 : decide (f k < 20) = false := decide_eq_false h20
        clear h20
        go_wp2
        go_roundw
        case rel => exact ⟨k + 1, by omega, by go_num, by first | trivial | rfl⟩
        case measure => simp [intOf]; omega
    · obtain rfl : k = m := by omega
      clear hk hlt
      by_cases hbad : k < 1 ∨ (R < 0 ∨ 1000000 < R ∨ allQ f k = false)
      · have HC : ∃ ec : Int, Calls Try.prog 16 #[.int .i64 R, .slice y k ycap] wr fun e w' => e = .returned (.tuple #[.pointer none, .iface 71 (.int .i64 ec)]) ∧ w' = wr := by
          by_cases h1 : k < 1
          · exact ⟨4, newRn_len R wr (Or.inl h1) (by omega)⟩
          · refine ⟨2, newRn_range R wr HR.out (by omega) (by omega) ?_⟩
            rcases hbad with h | h
            · exact absurd h h1
            · exact h
        obtain ⟨ec, HC⟩ := HC
        clear hbad
        go_wp2_with (go_at_call 16; fail)
        refine HC.mono ?_
        rintro e w1 ⟨rfl, hw1⟩
        subst hw1
        go_wp2_with (go_at_call 17; fail)
        refine (turns_any _).mono ?_
        rintro e w2 ⟨rfl, hb2⟩
        have HB2 : Hid (Below w1.heap.size w1 w2) := hb2
        clear hb2 HC
        go_wp2_with (go_at_call 17; fail)
        refine (turns_any _).mono ?_
        rintro e w3 ⟨rfl, hb3⟩
        have HB3 : Hid (Below w1.heap.size w1 w3) := HB2.out.trans (hb3.mono HB2.out.size)
        clear hb3
        go_wp2
        go_ret
        exact ⟨rfl, HB3.out⟩
      · have hk1 : 1 ≤ k := by omega
        have hR : 0 ≤ R ∧ R ≤ 1000000 := by omega
        have hQ : allQ f k = true := by
          cases h : allQ f k with
          | true => rfl
          | false => exact absurd (Or.inr (Or.inr (Or.inr h))) hbad
        clear hbad
        have HC := newRn_yes (pcap := ycap) R wr HR.out hk1 (by omega) hR.1 hR.2 hQ
        have HQ : Hid (∀ i, i < 16 → 1 ≤ qF f k 16 i ∧ qF f k 16 i ≤ 1000000) := qF_ok hk1 hQ
        clear hQ
        generalize qF f k 16 = Q at HC HQ
        go_wp2_with (go_at_call 16; fail)
        refine HC.mono ?_
        rintro e w1 ⟨rfl, C1, hP1, hb1⟩
        obtain ⟨b, hb⟩ : ∃ b, wr.heap.size = b := ⟨_, rfl⟩
        have HBZ : Hid (wr.heap.size = b) := hb
        have HB1 : Hid (Below wr.heap.size wr w1) := hb1
        rw [hb] at hP1 ⊢
        have HP1 : Hid (RnP w1 b R Q C1 (fun _ => .slice none 0 0) (.slice none 0 0) rn0) := hP1
        clear hP1 hb1 hb HC
        go_wp2_with (go_at_call 17; fail)
        refine (turns_any _).mono ?_
        rintro e w2 ⟨rfl, hb2⟩
        have HB2 : Hid (Below wr.heap.size wr w2) := HB1.out.trans (hb2.mono HB1.out.size)
        have HA2 : Hid ((RoundsM b R Q).At w2 (RnF b (fun _ => .slice none 0 0) (.slice none 0 0)) rn0) := ⟨C1, _, _, HP1.out.below hb2, fun k => Iff.rfl⟩
        have HI0 : Hid ((RoundsM b R Q).inv 0 0 rn0) := ⟨rn0_inv HQ.out, by decide, fun f hf => ⟨by simp [rn0], by simp [rn0]⟩⟩
        clear hb2 HP1
        go_wp2_with (go_at_call 20; fail)
        have HP := playA_any (RoundsM b R Q) (roundsM_fine b R Q) (RnF b (fun _ => .slice none 0 0) (.slice none 0 0)) rn0 x cap xs w2 (HL.out.below HB2.out) (by rw [HN.out]; omega) HA2.out HI0.out
        rw [HN.out] at HP
        refine HP.mono ?_
        rintro e w3 ⟨u, us, F, rfl, hsn, hot, hA3, hF3⟩
        have hrun := orders_run (roundsM_fine b R Q) (rounds_orders b R Q) xs (by rw [HN.out]; omega) rn0 rfl HI0.out
        have hinv := inv_run (roundsM_fine b R Q) xs (by rw [HN.out]; omega) rn0 HI0.out q (by rw [HN.out]; exact Nat.le_refl _)
        obtain ⟨G, G2, hG0, hG⟩ := play_keeps (rounds_keeps b R Q) (s0 := rn0) rfl (timesL 0 xs)
        have hsl : (playFrom (RoundsM b R Q) rn0 0 (timesL 0 xs)).length = q := by
          have := playFrom_length (RoundsM b R Q) rn0 0 (timesL 0 xs)
          rw [timesL_length, HN.out] at this
          exact this
        have hb3 : Below wr.heap.size wr w3 := HB2.out.trans (hot.below HB2.out.size (fun k hk => by
          rcases hk with h | ⟨g, _, h⟩ | h
          · have := HBZ.out; omega
          · simp [Value.ownBlock] at h
          · simp [Value.ownBlock] at h))
        generalize playFrom (RoundsM b R Q) rn0 0 (timesL 0 xs) = ss at *
        obtain ⟨sE, hsE⟩ : ∃ sE, (stFrom (RoundsM b R Q) rn0 0 (timesL 0 xs) q).1 = sE := ⟨_, rfl⟩
        rw [hsE] at hA3 hinv
        have HA3 : Hid ((RoundsM b R Q).At w3 F sE) := hA3
        have HCR : Hid (∀ i, i < 16 → 0 ≤ RnS.cr sE i) := fun i hi => (hinv.1.cr0 i hi).1
        clear hsE hinv hA3 hF3
        have hk := kept_any xs ss us G G2 x cap u _ F w3 (HL.out.below hb3) (by rw [HN.out]; omega) hsn (by rw [hsl, HN.out]) hG0 hG
        rw [HN.out] at hk
        have HSN : Hid (Sns w3 w2.heap.size F u ss us) := hsn
        have HB3 : Hid (Below wr.heap.size wr w3) := hb3
        have HRUN : Hid (∀ i t sn, (timesL 0 xs)[i]? = some t → ss[i]? = some sn → OStep (flowD (timesL 0 xs) (i + 1)) (lastO (timesL 0 xs) ss i) sn) := hrun
        have HSL : Hid (ss.length = q) := hsl
        obtain ⟨sx, scap, hu, _⟩ := hsn.lies
        rw [hsl] at hu
        subst hu
        clear hsn hot hrun hG0 hG hsl hb3 HP
        go_wp2_with (go_at_call 21; fail)
        refine hk.mono ?_
        rintro e w4 ⟨rfl, hb4⟩
        have HB4 : Hid (Below wr.heap.size wr w4) := HB3.out.trans (hb4.mono HB3.out.size)
        have HS4 : Hid (Sns w4 w2.heap.size F (.slice sx q scap) ss us) := HSN.out.ot (F' := F) (Ot.of_below (S := fun _ => False) hb4) (fun _ _ _ _ h => h) (fun _ _ h => h)
        have HA4 : Hid ((RoundsM b R Q).At w4 F sE) := (roundsM_fine b R Q).kept HA3.out (fun j hj => hb4.block j ((roundsM_fine b R Q).low HA3.out j hj))
        clear hb4 hk HSN HA3
        have HO := ordered_any xs ss us x cap (.slice sx q scap) _ F w4 (HL.out.below HB4.out) (by rw [HN.out]; omega) HS4.out (by rw [HSL.out, HN.out]) HRUN.out
        rw [HN.out] at HO
        go_wp2_with (go_at_call 22; fail)
        refine HO.mono ?_
        rintro e w5 ⟨rfl, hb5⟩
        have HB5 : Hid (Below wr.heap.size wr w5) := HB4.out.trans (hb5.mono HB4.out.size)
        have hA5 : (RoundsM b R Q).At w5 F sE := (roundsM_fine b R Q).kept HA4.out (fun j hj => hb5.block j ((roundsM_fine b R Q).low HA4.out j hj))
        obtain ⟨C5, vs5, tv5, hP5, _⟩ := hA5
        have HP5 : Hid (RnP w5 b R Q C5 vs5 tv5 sE) := hP5
        clear hb5 HO hP5
        go_wp2
        go_loopw [11] (fun i wl => ∃ n : Nat, n ≤ 16 ∧ i = .int .i64 n ∧ wl = w5) (fun i _ => 16 - (intOf i).toNat)
        case atStart => exact ⟨0, Nat.zero_le _, rfl, rfl⟩
        case round =>
          obtain ⟨n, hn, rfl, rfl⟩ := hrel
          by_cases hn16 : n < 16
          · have HCC := rcred_any n hn16 _ HP5.out
            have o1 : decide (RnS.cr sE n < 0) = false := by
              have := HCR.out n hn16
              simp only [decide_eq_false_iff_not]
              omega
            go_wp2_with (go_at_call 23; fail)
            refine HCC.mono ?_
            rintro e w6 ⟨rfl, hw6⟩
            subst hw6
            go_wp2
            go_roundw
            case rel => exact ⟨n + 1, by omega, by go_num, by first | trivial | rfl⟩
            case measure => simp [intOf]; omega
          · obtain rfl : n = 16 := by omega
            go_wp2
            go_ret
            exact ⟨rfl, HB5.out⟩
end Go.Proofs.Ytjjchknclpfgiaa
