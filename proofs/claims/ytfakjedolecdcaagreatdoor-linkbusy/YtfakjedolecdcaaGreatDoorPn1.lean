/-
  package plant: a reader's numbers, where numbers stand. Conditions: the words are numbers; few of them.
-/
import Derived.Test.YtfakjedolecdcaaGreatDoorGb
namespace Go.Proofs.YtfakjedolecdcaaGreatDoor
open Go.RowKit Go.Extern.Stop Go.Stop Go.Extern

theorem infoIntP : (Tryz.prog.info? 3).map (fun i => (i.zero, i.size, i.bytes)) = some (some (.int .i64 0), 1, 8) := by kernel_rfl
/-- The numbers that words are. -/
def numsL (L : List (List UInt8 × Nat)) : List Int := L.map fun x => (numL x.1).getD 0
set_option maxHeartbeats 2000000 in
theorem numbers_yes {b : Nat} {n : Nat} {rest : List Value} {v : Value} {L R : List (List UInt8 × Nat)} (w : World) (h : RdAt w b 65 n rest v (L ++ R)) (hB : ∀ w', Ot (fun k => k = b) w w' → Glob w') (hn : ∀ x ∈ L, (numL x.1).isSome = true ∧ x.1.length ≤ 2000) (hl : L.length ≤ 10) :
    Calls Tryz.prog 45 #[.pointer (some ⟨b, 0, none⟩), .int .i64 L.length] w fun e w' => ∃ u v', e = .returned (.tuple #[u, .nilIface]) ∧ RdAt w' b 65 n rest v' R ∧ v'.ownBlock = v.ownBlock ∧ Seg w' 3 1 u L.length ((numsL L).map (Value.int .i64)) ∧ (∀ k, u.ownBlock = some k → w.heap.size ≤ k) ∧ Ot (fun k => k = b) w w' := by
  have H : Hid (RdAt w b 65 n rest v (L ++ R)) := h
  have hb := h.lt
  have HN : Hid (∀ x ∈ L, (numL x.1).isSome = true ∧ x.1.length ≤ 2000) := hn
  have HG : Hid (∀ w', Ot (fun k => k = b) w w' → Glob w') := hB
  obtain ⟨i0, hi, hz0, hz1, hz2⟩ := info_parts infoIntP
  clear h hn hB
  generalize hm : L.length = m at *
  have HM : Hid (L.length = m) := hm
  clear hm
  go_enter Tryz.func45, Tryz.ntmps45
  go_wp2_with (at_make; refine wpList_make_own _ rfl _ _ 22 rfl w.heap.size 3 i0 (.int .i64 0) 1 Tryz.underlying22 hi hz0 hz1 _ _ _ m rfl rfl (by omega) (by rw [hz2]; omega) (by unfold maxLen; omega) (Nat.le_refl _) ?_; intro w1 hown1 hgrow1)
  go_loopw [6, 13] (fun o i wr => ∃ (k : Nat) (v' : Value), k ≤ m ∧ i = .int .i64 k ∧ RdAt wr b 65 n rest v' (L.drop k ++ R) ∧ v'.ownBlock = v.ownBlock ∧ Seg wr 3 1 o k ((numsL (L.take k)).map (Value.int .i64)) ∧ (∀ j, o.ownBlock = some j → w.heap.size ≤ j) ∧ Ot (fun k => k = b) w wr) (fun _ i _ => m - (intOf i).toNat)
  case atStart =>
    have hb1 : Below w.heap.size w w1 := (Below.refl _ _).grown hgrow1 (Nat.le_refl _) (by simp)
    exact ⟨0, v, Nat.zero_le _, rfl, H.out.below hb1, rfl, Seg.of_owns hown1, fun j hj => by simp [Value.ownBlock] at hj; omega, Ot.of_below hb1⟩
  case round =>
    clear hown1 hgrow1
    obtain ⟨k, v', hk, rfl, hrd, hvo, hseg, hun, hot⟩ := hrel
    have HR : Hid (RdAt wr b 65 n rest v' (L.drop k ++ R)) := hrd
    have HV : Hid (v'.ownBlock = v.ownBlock) := hvo
    have HS : Hid (Seg wr 3 1 u6 k ((numsL (L.take k)).map (Value.int .i64))) := hseg
    have HU : Hid (∀ j, u6.ownBlock = some j → w.heap.size ≤ j) := hun
    have HOT : Hid (Ot (fun k => k = b) w wr) := hot
    have hws := hot.size
    clear hrd hvo hseg hun hot
    by_cases hlt : k < m
    · obtain ⟨x, hx⟩ : ∃ x, L[k]? = some x := ⟨_, List.getElem?_eq_getElem (by have := HM.out; omega)⟩
      have hdr : L.drop k = x :: L.drop (k + 1) := by
        obtain ⟨h1, h2⟩ := List.getElem?_eq_some_iff.1 hx
        rw [← h2]; exact List.drop_eq_getElem_cons h1
      have HTK : Hid (numsL (L.take (k + 1)) = numsL (L.take k) ++ [(numL x.1).getD 0]) := by
        show _ = _
        rw [List.take_add_one, hx]; simp [numsL]
      obtain ⟨hy, hy2⟩ := HN.out x (List.mem_of_getElem? hx)
      obtain ⟨z, hz⟩ : ∃ z, numL x.1 = some z := Option.isSome_iff_exists.1 hy
      have HNX : Hid (Calls Tryz.prog 20 #[.pointer (some ⟨b, 0, none⟩)] wr fun e w' => e = .returned (.agg #[.string ⟨x.1.toArray⟩, .int .i64 x.2]) ∧ ∃ v2, RdAt w' b 65 n rest v2 (L.drop (k + 1) ++ R) ∧ v2.ownBlock = v.ownBlock ∧ Ot (fun k => k = b) wr w') := by
        refine (sgnext_any wr HR.out).mono ?_
        rw [hdr]
        rintro e w' ⟨rfl, v2, h1, h2, h3⟩
        exact ⟨rfl, v2, h1, h2.trans HV.out, h3⟩
      have HNB : Hid (∀ w1, Ot (fun k => k = b) w w1 → Calls Tryz.prog 62 #[.string ⟨x.1.toArray⟩] w1 fun e w' => e = .returned (.tuple #[.int .i64 z, .bool true]) ∧ Below w1.heap.size w1 w') := by
        intro w1 h1
        refine (number_any ⟨x.1.toArray⟩ w1 (by show x.1.toArray.size ≤ 2000; simpa using hy2) (HG.out w1 h1)).mono ?_
        rw [hz]
        rintro e w' ⟨rfl, h⟩
        exact ⟨rfl, h⟩
      rw [hz] at HTK
      clear hx hdr hy hy2 hz
      go_wp2_with (go_at_call 20; refine HNX.out.mono ?_; rintro e w1 ⟨rfl, v2, hr1, hv1, ho1⟩)
      have ho01 : Ot (fun k => k = b) w (w1.alloc (.cells #[.string ⟨x.1.toArray⟩, .int .i64 x.2] 60)) := (HOT.out.trans ho1).alloc _
      refine (HNB.out _ ho01).mono ?_
      rintro e w2 ⟨rfl, hb2⟩
      have HO2 : Hid (Ot (fun k => k = b) w w2) := ho01.trans (Ot.of_below hb2)
      have HS2 : Hid (Seg w2 3 1 u6 k ((numsL (L.take k)).map (Value.int .i64))) := ((HS.out.oth ho1 (fun j hj e => by have := HU.out j hj; omega)).alloc _).below hb2
      have HR2 : Hid (RdAt w2 b 65 n rest v2 (L.drop (k + 1) ++ R)) := (hr1.below (below_alloc_ (Below.refl _ _) _)).below hb2
      have HV2 : Hid (v2.ownBlock = v.ownBlock) := hv1
      have HVL : Hid (∀ j, v.ownBlock = some j → j < w.heap.size) := fun j hj => by have h := H.out.row.lt hj; exact h
      clear hr1 hv1 ho1 ho01 hb2
      go_wp2_with (at_builtin; refine wpList_append_seg _ rfl (.tmp 29) (.tmp 31) 22 rfl 3 i0 _ 1 8 Tryz.underlying22 hi hz0 hz1 hz2 rfl (by decide) _ _ _ rfl (HS2.out.below (by repeat' (first | with_reducible exact Below.refl _ _ | with_reducible refine Below.drew ?_ | with_reducible refine below_alloc_ ?_ _))) _ 1 1 _ rfl rfl (news_of (new_block_ (by simp))) (by simp [Value.oneCell']) (by decide) (by unfold maxLen; omega) (by omega) _ rfl ?_; intro g goff gcap w3 hs3 hg3 ha3 hl3)
      have hgn : w.heap.size ≤ g := by
        rcases ha3 with ha3 | ha3
        · exact HU.out _ ha3
        · have := HO2.out.size; simp at ha3; omega
      go_roundw
      case rel =>
        refine ⟨k + 1, v2, by omega, by go_num, ?_, HV2.out, ?_, ?_, ?_⟩
        · refine (HR2.out.below (below_alloc_ (Below.refl _ _) _)).kept (hg3.block b (by simp; have := HO2.out.size; omega) (fun e => ?_)) (fun j hj => hg3.block j (by simp; have := HR2.out.row.lt hj; omega) (fun e => ?_))
          · have := HU.out b e.symm; omega
          · have h1 := HU.out j e.symm
            rw [HV2.out] at hj
            have h2 := HVL.out j hj
            omega
        · rw [HTK.out, List.map_append]
          exact hs3
        · intro j hj
          simp only [Value.ownBlock, Option.some.injEq] at hj
          subst hj
          exact hgn
        · exact (HO2.out.alloc _).grown hg3 (fun j hj => Or.inr (HU.out j hj))
      case measure => simp [intOf]; omega
    · obtain rfl : k = m := by omega
      go_wp2
      (try simp only [Exit.inBlock, Exit.then])
      go_ret2
      have e1 : L.drop k = [] := by rw [List.drop_eq_nil_iff]; have := HM.out; omega
      have e2 : L.take k = L := by rw [List.take_of_length_le]; have := HM.out; omega
      have hr := HR.out
      have hs := HS.out
      rw [e1, List.nil_append] at hr
      rw [e2] at hs
      exact ⟨u6, v', rfl, hr, HV.out, hs, HU.out, HOT.out⟩
end Go.Proofs.YtfakjedolecdcaaGreatDoor
