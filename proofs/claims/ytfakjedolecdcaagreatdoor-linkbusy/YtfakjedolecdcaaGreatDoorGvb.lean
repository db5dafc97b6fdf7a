/-
  package plant: turns that a text tells. Conditions: their numbers may be.
  package plant: turns that a text tells; and plant.Parse of a text whose queue lets go at once. Conditions: their numbers may be.
-/
import Derived.Test.YtfakjedolecdcaaGreatDoorGva
namespace Go.Proofs.YtfakjedolecdcaaGreatDoor
open Go.RowKit Go.Extern.Stop Go.Stop Go.Extern

set_option maxHeartbeats 4000000 in
theorem quanta_yes {b : Nat} {n : Nat} {rest : List Value} {v : Value} {o s : List UInt8 × Nat} {L R : List (List UInt8 × Nat)} (w : World) (h : RdAt w b 65 n rest v (o :: (L ++ s :: R))) (hB : ∀ w', Ot (fun k => k = b) w w' → Glob w') (ho : (o.1 == [40]) = true) (hs : (s.1 == [41]) = true) (hn : ∀ x ∈ L, (numL x.1).isSome = true ∧ x.1.length ≤ 2000 ∧ (x.1 == [41]) = false) (hl : L.length ≤ 10) :
    Calls Tryz.prog 50 #[.pointer (some ⟨b, 0, none⟩)] w fun e w' => ∃ u v', e = .returned (.tuple #[u, .nilIface]) ∧ RdAt w' b 65 n rest v' R ∧ v'.ownBlock = v.ownBlock ∧ Seg w' 3 1 u L.length ((numsL L).map (Value.int .i64)) ∧ (∀ k, u.ownBlock = some k → w.heap.size ≤ k) ∧ Ot (fun k => k = b) w w' := by
  have HOP : Hid (Calls Tryz.prog 66 #[.pointer (some ⟨b, 0, none⟩)] w fun e w' => e = .returned .nilIface ∧ ∃ v', RdAt w' b 65 n rest v' (L ++ s :: R) ∧ v'.ownBlock = v.ownBlock ∧ Ot (fun k => k = b) w w') := opens_yes w h ho
  have hb := h.lt
  have HN : Hid (∀ x ∈ L, (numL x.1).isSome = true ∧ x.1.length ≤ 2000 ∧ (x.1 == [41]) = false) := hn
  have HG : Hid (∀ w', Ot (fun k => k = b) w w' → Glob w') := hB
  have HVL : Hid (∀ j, v.ownBlock = some j → j < w.heap.size) := fun j hj => by have h := h.row.lt hj; exact h
  obtain ⟨i0, hi, hz0, hz1, hz2⟩ := info_parts infoIntP
  clear h hn hB ho
  generalize hm : L.length = m at *
  have HM : Hid (L.length = m) := hm
  clear hm
  go_enter Tryz.func50, Tryz.ntmps50
  go_wp2_with (go_at_call 66; refine HOP.out.mono ?_; rintro e w1 ⟨rfl, v1, hr1, hv1, ho1⟩)
  go_loopw [5] (fun u wr => ∃ (k : Nat) (v' : Value), k ≤ m ∧ RdAt wr b 65 n rest v' (L.drop k ++ s :: R) ∧ v'.ownBlock = v.ownBlock ∧ Seg wr 3 1 u k ((numsL (L.take k)).map (Value.int .i64)) ∧ (∀ j, u.ownBlock = some j → w.heap.size ≤ j) ∧ Ot (fun k => k = b) w wr) (fun u _ => m - lenV u)
  case atStart => exact ⟨0, v1, Nat.zero_le _, by simpa using hr1, hv1, Seg.nil _ _ _, fun j hj => by simp [Value.ownBlock] at hj, ho1⟩
  case round =>
    clear hr1 hv1 ho1 HOP
    obtain ⟨k, v', hk, hrd, hvo, hseg, hun, hot⟩ := hrel
    have HR : Hid (RdAt wr b 65 n rest v' (L.drop k ++ s :: R)) := hrd
    have HV : Hid (v'.ownBlock = v.ownBlock) := hvo
    have HS : Hid (Seg wr 3 1 u5 k ((numsL (L.take k)).map (Value.int .i64))) := hseg
    have HU : Hid (∀ j, u5.ownBlock = some j → w.heap.size ≤ j) := hun
    have HOT : Hid (Ot (fun k => k = b) w wr) := hot
    have hws := hot.size
    have hform : ∃ x c, u5 = .slice x k c := by
      rcases Seg.form hseg with ⟨h, h0⟩ | ⟨g, o, c, h, _⟩
      · exact ⟨none, 0, by rw [h, h0.1]⟩
      · exact ⟨_, _, h⟩
    obtain ⟨ux, uc, rfl⟩ := hform
    clear hrd hvo hseg hun hot
    by_cases hlt : k < m
    · obtain ⟨x, hx⟩ : ∃ x, L[k]? = some x := ⟨_, List.getElem?_eq_getElem (by have := HM.out; omega)⟩
      have hdr : L.drop k = x :: L.drop (k + 1) := by
        obtain ⟨h1, h2⟩ := List.getElem?_eq_some_iff.1 hx
        rw [← h2]; exact List.drop_eq_getElem_cons h1
      have HTK : Hid (numsL (L.take (k + 1)) = numsL (L.take k) ++ [(numL x.1).getD 0]) := by
        show _ = _
        rw [List.take_add_one, hx]; simp [numsL]
      obtain ⟨hy, hy2, hy3⟩ := HN.out x (List.mem_of_getElem? hx)
      obtain ⟨z, hz⟩ : ∃ z, numL x.1 = some z := Option.isSome_iff_exists.1 hy
      have HNX : Hid (Calls Tryz.prog 20 #[.pointer (some ⟨b, 0, none⟩)] wr fun e w' => e = .returned (.agg #[.string ⟨x.1.toArray⟩, .int .i64 x.2]) ∧ ∃ v2, RdAt w' b 65 n rest v2 (L.drop (k + 1) ++ s :: R) ∧ v2.ownBlock = v.ownBlock ∧ Ot (fun k => k = b) wr w') := by
        refine (sgnext_any wr HR.out).mono ?_
        rw [hdr]
        rintro e w' ⟨rfl, v2, h1, h2, h3⟩
        exact ⟨rfl, v2, h1, h2.trans HV.out, h3⟩
      have HNB : Hid (∀ w1, Ot (fun k => k = b) w w1 → Calls Tryz.prog 62 #[.string ⟨x.1.toArray⟩] w1 fun e w' => e = .returned (.tuple #[.int .i64 z, .bool true]) ∧ Below w1.heap.size w1 w') := by
        intro w1 h1
        refine (number_any ⟨x.1.toArray⟩ w1 (by show x.1.toArray.size ≤ 2000; simpa using hy2) (HG.out w1 h1)).mono ?_
        rw [hz]
        rintro e w' ⟨rfl, h⟩
        exact ⟨rfl, h⟩
      rw [hz] at HTK
      clear hx hdr hy hy2 hz
      go_wp2_with (go_at_call 20; refine HNX.out.mono ?_; rintro e w1 ⟨rfl, v2, hr1, hv1, ho1⟩)
      have ho01 : Ot (fun k => k = b) w (w1.alloc (.cells #[.string ⟨x.1.toArray⟩, .int .i64 x.2] 60)) := (HOT.out.trans ho1).alloc _
      refine (HNB.out _ ho01).mono ?_
      rintro e w2 ⟨rfl, hb2⟩
      have HO2 : Hid (Ot (fun k => k = b) w w2) := ho01.trans (Ot.of_below hb2)
      have HS2 : Hid (Seg w2 3 1 (.slice ux k uc) k ((numsL (L.take k)).map (Value.int .i64))) := ((HS.out.oth ho1 (fun j hj e => by have := HU.out j hj; omega)).alloc _).below hb2
      have HR2 : Hid (RdAt w2 b 65 n rest v2 (L.drop (k + 1) ++ s :: R)) := (hr1.below (below_alloc_ (Below.refl _ _) _)).below hb2
      have HV2 : Hid (v2.ownBlock = v.ownBlock) := hv1
      clear hr1 hv1 ho1 ho01 hb2
      go_wp2_with (at_builtin; refine wpList_append_seg _ rfl _ _ 22 rfl 3 i0 _ 1 8 Tryz.underlying22 hi hz0 hz1 hz2 rfl (by decide) _ _ _ rfl (HS2.out.below (by repeat' (first | with_reducible exact Below.refl _ _ | with_reducible refine Below.drew ?_ | with_reducible refine below_alloc_ ?_ _))) _ 1 1 _ rfl rfl (news_of (new_block_ (by simp))) (by simp [Value.oneCell']) (by decide) (by unfold maxLen; omega) (by omega) _ rfl ?_; intro g goff gcap w3 hs3 hg3 ha3 hl3)
      have hgn : w.heap.size ≤ g := by
        rcases ha3 with ha3 | ha3
        · exact HU.out _ ha3
        · have := HO2.out.size; simp at ha3; omega
      go_roundw
      case rel =>
        refine ⟨k + 1, v2, by omega, ?_, HV2.out, ?_, ?_, ?_⟩
        · refine (HR2.out.below (below_alloc_ (Below.refl _ _) _)).kept (hg3.block b (by simp; have := HO2.out.size; omega) (fun e => ?_)) (fun j hj => hg3.block j (by simp; have := HR2.out.row.lt hj; omega) (fun e => ?_))
          · have := HU.out b e.symm; omega
          · have h1 := HU.out j e.symm
            rw [HV2.out] at hj
            have h2 := HVL.out j hj
            omega
        · rw [HTK.out, List.map_append]
          exact hs3
        · intro j hj
          simp only [Value.ownBlock, Option.some.injEq] at hj
          subst hj
          exact hgn
        · exact (HO2.out.alloc _).grown hg3 (fun j hj => Or.inr (HU.out j hj))
      case measure => simp [lenV]; omega
    · obtain rfl : k = m := by omega
      have e1 : L.drop k = [] := by rw [List.drop_eq_nil_iff]; have := HM.out; omega
      have e2 : L.take k = L := by rw [List.take_of_length_le]; have := HM.out; omega
      have HR' : Hid (RdAt wr b 65 n rest v' (s :: R)) := by have := HR.out; rw [e1, List.nil_append] at this; exact this
      have HS' : Hid (Seg wr 3 1 (.slice ux k uc) k ((numsL L).map (Value.int .i64))) := by have := HS.out; rw [e2] at this; exact this
      have HNX : Hid (Calls Tryz.prog 20 #[.pointer (some ⟨b, 0, none⟩)] wr fun e w' => e = .returned (.agg #[.string ⟨s.1.toArray⟩, .int .i64 s.2]) ∧ ∃ v2, RdAt w' b 65 n rest v2 R ∧ v2.ownBlock = v.ownBlock ∧ Ot (fun k => k = b) wr w') := by
        refine (sgnext_any wr HR'.out).mono ?_
        rintro e w' ⟨rfl, v2, h1, h2, h3⟩
        exact ⟨rfl, v2, h1, h2.trans HV.out, h3⟩
      clear e1 e2
      go_wp2_with (go_at_call 20; refine HNX.out.mono ?_; rintro e w1 ⟨rfl, v2, hr1, hv1, ho1⟩)
      (try simp only [Exit.inBlock, Exit.then])
      go_ret2
      exact ⟨_, v2, rfl, hr1.below (below_alloc_ (Below.refl _ _) _), hv1, (HS'.out.oth ho1 (fun j hj e => by have := HU.out j hj; omega)).alloc _, HU.out, (HOT.out.trans ho1).alloc _⟩
end Go.Proofs.YtfakjedolecdcaaGreatDoor
namespace Go.Proofs.YtfakjedolecdcaaGreatDoor
open Go.RowKit Go.Extern.Stop Go.Stop Go.Extern

theorem irow_of {w : World} {x : Option Addr} {m c : Nat} {l : List Int} (h : Seg w 3 1 (.slice x m c) m (l.map (Value.int .i64))) (hl : l.length = m) : IRow w x m (fun i => l.getD i 0) := by
  by_cases h0 : m = 0
  · exact Or.inl h0
  obtain ⟨b, off, cap, e, h1, h2, h3, h4⟩ := h.some (by omega)
  simp only [Value.slice.injEq, true_and] at e
  refine Or.inr ⟨b, off, e.1, h3, fun i hi => h4 i _ ?_⟩
  show _ = some (Value.int .i64 (l.getD i 0))
  rw [List.getElem?_map, List.getElem?_eq_getElem (by omega), List.getD_eq_getElem?_getD, List.getElem?_eq_getElem (by omega)]
  rfl
set_option maxHeartbeats 4000000 in
theorem rounds_yes {b : Nat} {n : Nat} {rest : List Value} {v : Value} {x1 o s : List UInt8 × Nat} {L R : List (List UInt8 × Nat)} (f : List UInt8 × Nat) (w : World) (h : RdAt w b 65 n rest v (x1 :: o :: (L ++ s :: R))) (hB : ∀ w', Ot (fun k => k = b) w w' → Glob w') (h1 : numL x1.1 = some 1000) (hl1 : x1.1.length ≤ 2000) (ho : (o.1 == [40]) = true) (hs : (s.1 == [41]) = true) (hn : ∀ x ∈ L, (numL x.1).isSome = true ∧ x.1.length ≤ 2000 ∧ (x.1 == [41]) = false) (hm0 : 1 ≤ L.length) (hl : L.length ≤ 10) (hq : allQ (fun i => (numsL L).getD i 0) L.length = true) :
    Calls Tryz.prog 35 #[.pointer (some ⟨b, 0, none⟩), .agg #[.string ⟨f.1.toArray⟩, .int .i64 f.2]] w fun e w' => ∃ q C v', e = .returned (.tuple #[.iface 126 (.pointer (some ⟨q, 0, none⟩)), .nilIface]) ∧ w.heap.size ≤ q ∧ RnP w' q 1000 (qF (fun i => (numsL L).getD i 0) L.length 16) C (fun _ => .slice none 0 0) (.slice none 0 0) rn0 ∧ RdAt w' b 65 n rest v' R ∧ v'.ownBlock = v.ownBlock ∧ Ot (fun k => k = b) w w' := by
  have HNS : Hid (∀ w1, Ot (fun k => k = b) w w1 → RdAt w1 b 65 n rest v (x1 :: o :: (L ++ s :: R)) → Calls Tryz.prog 45 #[.pointer (some ⟨b, 0, none⟩), .int .i64 1] w1 fun e w' => ∃ u v', e = .returned (.tuple #[u, .nilIface]) ∧ RdAt w' b 65 n rest v' (o :: (L ++ s :: R)) ∧ v'.ownBlock = v.ownBlock ∧ Seg w' 3 1 u 1 [.int .i64 1000] ∧ (∀ k, u.ownBlock = some k → w1.heap.size ≤ k) ∧ Ot (fun k => k = b) w1 w') := by
    intro w1 ho hr
    refine (numbers_yes (L := [x1]) w1 hr (fun w' h' => hB w' (ho.trans h')) ?_ (by simp)).mono ?_
    · intro x hx
      simp at hx
      subst hx
      exact ⟨by rw [h1]; rfl, hl1⟩
    · rintro e w' ⟨u, v', rfl, hr', hv', hs', hn', ho'⟩
      simp only [numsL, List.map, h1, Option.getD, List.length_cons, List.length_nil] at hs'
      exact ⟨u, v', rfl, hr', hv', hs', hn', ho'⟩
  have HQU : Hid (∀ w1 v1, Ot (fun k => k = b) w w1 → RdAt w1 b 65 n rest v1 (o :: (L ++ s :: R)) → v1.ownBlock = v.ownBlock → Calls Tryz.prog 50 #[.pointer (some ⟨b, 0, none⟩)] w1 fun e w' => ∃ x c v', e = .returned (.tuple #[.slice x L.length c, .nilIface]) ∧ RdAt w' b 65 n rest v' R ∧ v'.ownBlock = v.ownBlock ∧ IRow w' x L.length (fun i => (numsL L).getD i 0) ∧ Ot (fun k => k = b) w1 w') := by
    intro w1 v1 ho' hr hv
    refine (quanta_yes w1 hr (fun w' h' => hB w' (ho'.trans h')) ho hs hn hl).mono ?_
    rintro e w' ⟨u, v', rfl, hr', hv', hs', hn', ho''⟩
    obtain ⟨ux, uc, rfl⟩ : ∃ x c, u = .slice x L.length c := by
      rcases Seg.form hs' with ⟨h, h0⟩ | ⟨g, o, c, h, _⟩
      · exact ⟨none, 0, by rw [h, h0.1]⟩
      · exact ⟨_, _, h⟩
    exact ⟨ux, uc, v', rfl, hr', hv'.trans hv, irow_of hs' (by simp [numsL]), ho''⟩
  have H : Hid (RdAt w b 65 n rest v (x1 :: o :: (L ++ s :: R))) := h
  have hb := h.lt
  have HNR : Hid (∀ w2 x c, IRow w2 x L.length (fun i => (numsL L).getD i 0) → Calls Tryz.prog 51 #[.int .i64 1000, .slice x L.length c] w2 fun e w' => e = .returned (.tuple #[.pointer (some ⟨w2.heap.size, 0, none⟩), .nilIface]) ∧ ∃ C, RnP w' w2.heap.size 1000 (qF (fun i => (numsL L).getD i 0) L.length 16) C (fun _ => .slice none 0 0) (.slice none 0 0) rn0 ∧ Below w2.heap.size w2 w') := fun w2 x c hi => newRn_yes 1000 w2 hi hm0 (by omega) (by decide) (by decide) hq
  clear h hB h1 hl1 ho hs hn hq
  go_enter Tryz.func35, Tryz.ntmps35
  go_wp2_with (go_at_call 45; refine (HNS.out _ ?_ ?_).mono ?_; exact (Ot.refl _ _).alloc _; exact H.out.below (below_alloc_ (Below.refl _ _) _); rintro e w1 ⟨u, v', rfl, hr1, hv1, hs1, hn1, ho1⟩; obtain ⟨g, off, cap, rfl, hg1, hg2, hg3, hgc⟩ := hs1.some (by decide))
  have c0 : w1.cell? ⟨g, off, none⟩ = some (.int .i64 1000) := hgc 0 _ rfl
  have hgb : g ≠ b := by have := hn1 g rfl; simp at this; omega
  have hbx : w1.heap[w.heap.size]? = some (.cells #[.string ⟨f.1.toArray⟩, .int .i64 f.2] 60 (0, 0)) := (ho1.block w.heap.size (by simp) (by omega)).trans (new_block _ _)
  have HO1 : Hid (Ot (fun k => k = b) w w1) := ((Ot.refl _ _).alloc _).trans ho1
  have HBX : Hid (w1.heap[w.heap.size]? = some (.cells #[.string ⟨f.1.toArray⟩, .int .i64 f.2] 60 (0, 0))) := hbx
  have HC0 : Hid (w1.cell? ⟨g, off, none⟩ = some (.int .i64 1000)) := c0
  have HQ1 := HQU.out w1 v' HO1.out hr1 hv1
  clear hs1 hgc hbx hr1 hv1 ho1 hn1 HNS c0 HQU hg1 hg2
  refine HQ1.mono ?_
  rintro e w2 ⟨qx, qc, v2, rfl, hr2, hv2, hi2, ho2⟩
  have hbx2 : w2.heap[w.heap.size]? = some (.cells #[.string ⟨f.1.toArray⟩, .int .i64 f.2] 60 (0, 0)) := (ho2.block w.heap.size (lt_of_block HBX.out) (by omega)).trans HBX.out
  have c0 : w2.cell? ⟨g, off, none⟩ = some (.int .i64 1000) := (ho2.cell (p := ⟨g, off, none⟩) hg3 hgb).trans HC0.out
  have HO2 : Hid (Ot (fun k => k = b) w w2) := HO1.out.trans ho2
  have HBX2 : Hid (w2.heap[w.heap.size]? = some (.cells #[.string ⟨f.1.toArray⟩, .int .i64 f.2] 60 (0, 0))) := hbx2
  have HR2 : Hid (RdAt w2 b 65 n rest v2 R) := hr2
  have HV2 : Hid (v2.ownBlock = v.ownBlock) := hv2
  have HN2 := HNR.out w2 qx qc hi2
  clear HQ1 hr2 hv2 hi2 ho2 hbx2 HNR
  go_wp2_with fail
  refine HN2.mono ?_
  rintro e w3 ⟨rfl, CC, hp3, hb3⟩
  have hbx3 : w3.heap[w.heap.size]? = some (.cells #[.string ⟨f.1.toArray⟩, .int .i64 f.2] 60 (0, 0)) := (hb3.block _ (lt_of_block HBX2.out)).trans HBX2.out
  have b0 : w3.cell? ⟨w.heap.size, 0, none⟩ = some (.string ⟨f.1.toArray⟩) := by simp [World.cell?, hbx3]
  have b1 : w3.cell? ⟨w.heap.size, 1, none⟩ = some (.int .i64 f.2) := by simp [World.cell?, hbx3]
  have hbl2 := lt_of_block hbx3
  have HP3 : Hid (RnP w3 w2.heap.size 1000 (qF (fun i => (numsL L).getD i 0) L.length 16) CC (fun _ => .slice none 0 0) (.slice none 0 0) rn0) := hp3
  have HB3 : Hid (Below w2.heap.size w2 w3) := hb3
  clear hp3 hb3 hbx3 HN2
  go_wp2_with (go_at_call 46; refine (made_yes f _ _).mono ?_; rintro e w4 ⟨rfl, hb4⟩)
  go_ret2
  exact ⟨w2.heap.size, CC, v2, rfl, HO2.out.size, HP3.out.below hb4, (HR2.out.below HB3.out).below hb4, HV2.out, (HO2.out.trans (Ot.of_below HB3.out)).trans (Ot.of_below hb4)⟩
theorem rounds_qd {w0 w' : World} {q : Nat} {fq : Nat → Int} {m : Nat} {C : Nat → Value} (h : RnP w' q 1000 (qF fq m 16) C (fun _ => .slice none 0 0) (.slice none 0 0) rn0) (hq : w0.heap.size ≤ q) (hm : 1 ≤ m) (ha : allQ fq m = true) :
    Qd w0 w' (.returned (.tuple #[.iface 126 (.pointer (some ⟨q, 0, none⟩)), .nilIface])) :=
  ⟨RoundsM q 1000 (qF fq m 16), (fun s => allF s.fl 16), rn0, RnF q (fun _ => .slice none 0 0) (.slice none 0 0), rfl, roundsM_fine q 1000 _, rounds_prompt q _, ⟨rn0_inv (qF_ok hm ha), Nat.le_refl _, by simp [SO, rn0]⟩, rfl, ⟨C, _, _, h, fun k => Iff.rfl⟩, fun k hk => by
    rcases hk with rfl | ⟨f, _, hk⟩ | hk
    · exact hq
    · simp [Value.ownBlock] at hk
    · simp [Value.ownBlock] at hk⟩
set_option maxHeartbeats 4000000 in
theorem queue_rounds' {b : Nat} {n : Nat} {tv : Value} {k ar : Int} {v : Value} {f x1 o s : List UInt8 × Nat} {L R : List (List UInt8 × Nat)} (w : World) (h : RdAt w b 65 n [tv, .int .i64 k] v (f :: x1 :: o :: (L ++ s :: R))) (hB : ∀ w', Ot (fun k => k = b) w w' → Glob w') (hf : f.1 = roundsB) (h1 : numL x1.1 = some 1000) (hl1 : x1.1.length ≤ 2000) (ho : (o.1 == [40]) = true) (hs : (s.1 == [41]) = true) (hn : ∀ x ∈ L, (numL x.1).isSome = true ∧ x.1.length ≤ 2000 ∧ (x.1 == [41]) = false) (hm0 : 1 ≤ L.length) (hl : L.length ≤ 10) (hq : allQ (fun i => (numsL L).getD i 0) L.length = true) (hk : 0 ≤ k ∧ k ≤ 19) (ha : 0 ≤ ar ∧ ar ≤ 7) :
    Calls Tryz.prog 19 #[.pointer (some ⟨b, 0, none⟩), .int .i64 ar] w fun e w' => ∃ q, e = .returned (.tuple #[.iface 126 (.pointer (some ⟨q, 0, none⟩)), .nilIface]) ∧ QdR w w' b n [tv, .int .i64 (k + 1)] v R (.returned (.tuple #[.iface 126 (.pointer (some ⟨q, 0, none⟩)), .nilIface])) := by
  have HNX : Hid (Calls Tryz.prog 20 #[.pointer (some ⟨b, 0, none⟩)] w fun e w' => e = .returned (.agg #[.string ⟨f.1.toArray⟩, .int .i64 f.2]) ∧ ∃ v2, RdAt w' b 65 n [tv, .int .i64 k] v2 (x1 :: o :: (L ++ s :: R)) ∧ v2.ownBlock = v.ownBlock ∧ Ot (fun k => k = b) w w') := by
    refine (sgnext_any w h).mono ?_
    rintro e w' ⟨rfl, v2, h1, h2, h3⟩
    exact ⟨rfl, v2, h1, h2, h3⟩
  have HFF : Hid (∀ w1 v2, Ot (fun k => k = b) w w1 → RdAt w1 b 65 n [tv, .int .i64 (k + 1)] v2 (x1 :: o :: (L ++ s :: R)) → v2.ownBlock = v.ownBlock → Calls Tryz.prog 35 #[.pointer (some ⟨b, 0, none⟩), .agg #[.string ⟨f.1.toArray⟩, .int .i64 f.2]] w1 fun e w' => ∃ q, e = .returned (.tuple #[.iface 126 (.pointer (some ⟨q, 0, none⟩)), .nilIface]) ∧ QdR w w' b n [tv, .int .i64 (k + 1)] v R (.returned (.tuple #[.iface 126 (.pointer (some ⟨q, 0, none⟩)), .nilIface]))) := by
    intro w1 v2 ho' hr' hv
    refine (rounds_yes f w1 hr' (fun w' h' => hB w' (ho'.trans h')) h1 hl1 ho hs hn hm0 hl hq).mono ?_
    rintro e w' ⟨q, C, v', rfl, hq', hl', hr', hv', ho''⟩
    exact ⟨q, rfl, v', rounds_qd hl' (Nat.le_trans ho'.size hq') hm0 hq, hr', hv'.trans hv, ho'.trans ho''⟩
  have hb := h.lt
  have a1 : decide ((7 : Int) < ar) = false := by simp; omega
  have a2 : decide ((20 : Int) < k + 1) = false := by simp; omega
  have a3 : IntKind.i64.wrap (k + 1) = k + 1 := by rw [IntKind.wrap_i64]; omega
  have o1 : (f.1 == [102, 105, 102, 111]) = false := by rw [hf]; rfl
  have o2 : (f.1 == [104, 101, 97, 100]) = false := by rw [hf]; rfl
  have o3 : (f.1 == [114, 101, 100]) = false := by rw [hf]; rfl
  have o4 : (f.1 == [109, 97, 114, 107]) = false := by rw [hf]; rfl
  have o5 : (f.1 == [100, 101, 108, 97, 121]) = false := by rw [hf]; rfl
  have o6 : (f.1 == [104, 97, 115, 104, 101, 100]) = false := by rw [hf]; rfl
  have o7 : (f.1 == [114, 111, 117, 110, 100, 115]) = true := by rw [hf]; rfl
  clear h hB h1 hl1 ho hs hn hm0 hl hq hf
  go_enter Tryz.func19, Tryz.ntmps19
  go_wp2_with (go_at_call 20; refine HNX.out.mono ?_; rintro e w1 ⟨rfl, v2, hr1, hv1, ho1⟩; have HR1 : Hid (RdAt w1 b 65 n [tv, .int .i64 k] v2 (x1 :: o :: (L ++ s :: R))) := hr1; have HV1 : Hid (v2.ownBlock = v.ownBlock) := hv1; have HO1 : Hid (Ot (fun k => k = b) w w1) := ho1; obtain ⟨r4, f4⟩ := hr1.begun; have hl1 := hr1.lt; clear hr1 hv1 ho1)
  refine (HFF.out _ v2 ((HO1.out.setCell (p := ⟨b, 4, none⟩) (Or.inl rfl) _).alloc _) ((HR1.out.begin_ (k + 1)).below (below_alloc_ (Below.refl _ _) _)) HV1.out).mono ?_
  rintro e w2 ⟨q, rfl, hr⟩
  go_wp2
  go_ret2
  exact ⟨q, rfl, hr⟩
end Go.Proofs.YtfakjedolecdcaaGreatDoor
