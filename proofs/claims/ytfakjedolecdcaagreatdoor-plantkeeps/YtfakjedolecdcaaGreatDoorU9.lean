/-
  package plant: a reader's numbers, where numbers stand. Conditions: the words are numbers; few of them.
  package plant: a reader's numbers, whatever stands there: so many numbers, or an error. Conditions: no sign has more than 2000 bytes; what strconv lays is laid; few numbers are asked for.
  plain.Play with whatever queue: what is seen step by step, in memory of the call's own. Conditions: the steps lie in memory, a thousand at most; the queue's methods do what a model of it tells (a premise).
-/
import Derived.Test.YtfakjedolecdcaaGreatDoorU8
import Derived.Test.YtfakjedolecdcaaGreatDoorU5
namespace Go.Proofs.YtfakjedolecdcaaGreatDoor
open Go.RowKit Go.Extern.Stop Go.Stop Go.Extern

theorem infoIntP : (Tryz.prog.info? 3).map (fun i => (i.zero, i.size, i.bytes)) = some (some (.int .i64 0), 1, 8) := by kernel_rfl
/-- The numbers that words are. -/
def numsL (L : List (List UInt8 × Nat)) : List Int := L.map fun x => (numL x.1).getD 0
set_option maxHeartbeats 2000000 in
theorem numbers_yes {b : Nat} {n : Nat} {rest : List Value} {v : Value} {L R : List (List UInt8 × Nat)} (w : World) (h : RdAt w b 65 n rest v (L ++ R)) (hB : ∀ w', Ot (fun k => k = b) w w' → Glob w') (hn : ∀ x ∈ L, (numL x.1).isSome = true ∧ x.1.length ≤ 2000) (hl : L.length ≤ 10) :
    Calls Tryz.prog 45 #[.pointer (some ⟨b, 0, none⟩), .int .i64 L.length] w fun e w' => ∃ u v', e = .returned (.tuple #[u, .nilIface]) ∧ RdAt w' b 65 n rest v' R ∧ v'.ownBlock = v.ownBlock ∧ Seg w' 3 1 u L.length ((numsL L).map (Value.int .i64)) ∧ (∀ k, u.ownBlock = some k → w.heap.size ≤ k) ∧ Ot (fun k => k = b) w w' := by
  have H : Hid (RdAt w b 65 n rest v (L ++ R)) := h
  have hb := h.lt
  have HN : Hid (∀ x ∈ L, (numL x.1).isSome = true ∧ x.1.length ≤ 2000) := hn
  have HG : Hid (∀ w', Ot (fun k => k = b) w w' → Glob w') := hB
  obtain ⟨i0, hi, hz0, hz1, hz2⟩ := info_parts infoIntP
  clear h hn hB
  generalize hm : L.length = m at *
  have HM : Hid (L.length = m) := hm
  clear hm
  go_enter Tryz.func45, Tryz.ntmps45
  go_wp2_with (at_make; refine wpList_make_own _ rfl _ _ 22 rfl w.heap.size 3 i0 (.int .i64 0) 1 Tryz.underlying22 hi hz0 hz1 _ _ _ m rfl rfl (by omega) (by rw [hz2]; omega) (by unfold maxLen; omega) (Nat.le_refl _) ?_; intro w1 hown1 hgrow1)
  go_loopw [6, 13] (fun o i wr => ∃ (k : Nat) (v' : Value), k ≤ m ∧ i = .int .i64 k ∧ RdAt wr b 65 n rest v' (L.drop k ++ R) ∧ v'.ownBlock = v.ownBlock ∧ Seg wr 3 1 o k ((numsL (L.take k)).map (Value.int .i64)) ∧ (∀ j, o.ownBlock = some j → w.heap.size ≤ j) ∧ Ot (fun k => k = b) w wr) (fun _ i _ => m - (intOf i).toNat)
  case atStart =>
    have hb1 : Below w.heap.size w w1 := (Below.refl _ _).grown hgrow1 (Nat.le_refl _) (by simp)
    exact ⟨0, v, Nat.zero_le _, rfl, H.out.below hb1, rfl, Seg.of_owns hown1, fun j hj => by simp [Value.ownBlock] at hj; omega, Ot.of_below hb1⟩
  case round =>
    clear hown1 hgrow1
    obtain ⟨k, v', hk, rfl, hrd, hvo, hseg, hun, hot⟩ := hrel
    have HR : Hid (RdAt wr b 65 n rest v' (L.drop k ++ R)) := hrd
    have HV : Hid (v'.ownBlock = v.ownBlock) := hvo
    have HS : Hid (Seg wr 3 1 u6 k ((numsL (L.take k)).map (Value.int .i64))) := hseg
    have HU : Hid (∀ j, u6.ownBlock = some j → w.heap.size ≤ j) := hun
    have HOT : Hid (Ot (fun k => k = b) w wr) := hot
    have hws := hot.size
    clear hrd hvo hseg hun hot
    by_cases hlt : k < m
    · obtain ⟨x, hx⟩ : ∃ x, L[k]? = some x := ⟨_, List.getElem?_eq_getElem (by have := HM.out; omega)⟩
      have hdr : L.drop k = x :: L.drop (k + 1) := by
        obtain ⟨h1, h2⟩ := List.getElem?_eq_some_iff.1 hx
        rw [← h2]; exact List.drop_eq_getElem_cons h1
      have HTK : Hid (numsL (L.take (k + 1)) = numsL (L.take k) ++ [(numL x.1).getD 0]) := by
        show _ = _
        rw [List.take_add_one, hx]; simp [numsL]
      obtain ⟨hy, hy2⟩ := HN.out x (List.mem_of_getElem? hx)
      obtain ⟨z, hz⟩ : ∃ z, numL x.1 = some z := Option.isSome_iff_exists.1 hy
      have HNX : Hid (Calls Tryz.prog 20 #[.pointer (some ⟨b, 0, none⟩)] wr fun e w' => e = .returned (.agg #[.string ⟨x.1.toArray⟩, .int .i64 x.2]) ∧ ∃ v2, RdAt w' b 65 n rest v2 (L.drop (k + 1) ++ R) ∧ v2.ownBlock = v.ownBlock ∧ Ot (fun k => k = b) wr w') := by
        refine (sgnext_any wr HR.out).mono ?_
        rw [hdr]
        rintro e w' ⟨rfl, v2, h1, h2, h3⟩
        exact ⟨rfl, v2, h1, h2.trans HV.out, h3⟩
      have HNB : Hid (∀ w1, Ot (fun k => k = b) w w1 → Calls Tryz.prog 62 #[.string ⟨x.1.toArray⟩] w1 fun e w' => e = .returned (.tuple #[.int .i64 z, .bool true]) ∧ Below w1.heap.size w1 w') := by
        intro w1 h1
        refine (number_any ⟨x.1.toArray⟩ w1 (by show x.1.toArray.size ≤ 2000; simpa using hy2) (HG.out w1 h1)).mono ?_
        rw [hz]
        rintro e w' ⟨rfl, h⟩
        exact ⟨rfl, h⟩
      rw [hz] at HTK
      clear hx hdr hy hy2 hz
      go_wp2_with (go_at_call 20; refine HNX.out.mono ?_; rintro e w1 ⟨rfl, v2, hr1, hv1, ho1⟩)
      have ho01 : Ot (fun k => k = b) w (w1.alloc (.cells #[.string ⟨x.1.toArray⟩, .int .i64 x.2] 60)) := (HOT.out.trans ho1).alloc _
      refine (HNB.out _ ho01).mono ?_
      rintro e w2 ⟨rfl, hb2⟩
      have HO2 : Hid (Ot (fun k => k = b) w w2) := ho01.trans (Ot.of_below hb2)
      have HS2 : Hid (Seg w2 3 1 u6 k ((numsL (L.take k)).map (Value.int .i64))) := ((HS.out.oth ho1 (fun j hj e => by have := HU.out j hj; omega)).alloc _).below hb2
      have HR2 : Hid (RdAt w2 b 65 n rest v2 (L.drop (k + 1) ++ R)) := (hr1.below (below_alloc_ (Below.refl _ _) _)).below hb2
      have HV2 : Hid (v2.ownBlock = v.ownBlock) := hv1
      have HVL : Hid (∀ j, v.ownBlock = some j → j < w.heap.size) := fun j hj => by have h := H.out.row.lt hj; exact h
      clear hr1 hv1 ho1 ho01 hb2
      go_wp2_with (at_builtin; refine wpList_append_seg _ rfl (.tmp 29) (.tmp 31) 22 rfl 3 i0 _ 1 8 Tryz.underlying22 hi hz0 hz1 hz2 rfl (by decide) _ _ _ rfl (HS2.out.below (by repeat' (first | with_reducible exact Below.refl _ _ | with_reducible refine Below.drew ?_ | with_reducible refine below_alloc_ ?_ _))) _ 1 1 _ rfl rfl (news_of (new_block_ (by simp))) (by simp [Value.oneCell']) (by decide) (by unfold maxLen; omega) (by omega) _ rfl ?_; intro g goff gcap w3 hs3 hg3 ha3 hl3)
      have hgn : w.heap.size ≤ g := by
        rcases ha3 with ha3 | ha3
        · exact HU.out _ ha3
        · have := HO2.out.size; simp at ha3; omega
      go_roundw
      case rel =>
        refine ⟨k + 1, v2, by omega, by go_num, ?_, HV2.out, ?_, ?_, ?_⟩
        · refine (HR2.out.below (below_alloc_ (Below.refl _ _) _)).kept (hg3.block b (by simp; have := HO2.out.size; omega) (fun e => ?_)) (fun j hj => hg3.block j (by simp; have := HR2.out.row.lt hj; omega) (fun e => ?_))
          · have := HU.out b e.symm; omega
          · have h1 := HU.out j e.symm
            rw [HV2.out] at hj
            have h2 := HVL.out j hj
            omega
        · rw [HTK.out, List.map_append]
          exact hs3
        · intro j hj
          simp only [Value.ownBlock, Option.some.injEq] at hj
          subst hj
          exact hgn
        · exact (HO2.out.alloc _).grown hg3 (fun j hj => Or.inr (HU.out j hj))
      case measure => simp [intOf]; omega
    · obtain rfl : k = m := by omega
      go_wp2
      (try simp only [Exit.inBlock, Exit.then])
      go_ret2
      have e1 : L.drop k = [] := by rw [List.drop_eq_nil_iff]; have := HM.out; omega
      have e2 : L.take k = L := by rw [List.take_of_length_le]; have := HM.out; omega
      have hr := HR.out
      have hs := HS.out
      rw [e1, List.nil_append] at hr
      rw [e2] at hs
      exact ⟨u6, v', rfl, hr, HV.out, hs, HU.out, HOT.out⟩
end Go.Proofs.YtfakjedolecdcaaGreatDoor
namespace Go.Proofs.YtfakjedolecdcaaGreatDoor
open Go.RowKit Go.Extern.Stop Go.Stop Go.Extern

theorem wrongS_any (t : ByteArray) (p c : Int) (w : World) : Calls Tryz.prog 22 #[.agg #[.string t, .int .i64 p], .int .i64 c] w fun e w' => ∃ B, e = .returned (.iface 97 (.pointer (some ⟨B, 0, none⟩))) ∧ Below w.heap.size w w' := by
  go_enter Tryz.func22, Tryz.ntmps22
  go_wp2
  go_ret
  exact ⟨w.heap.size + 1, rfl, below_alloc_ (below_alloc_ (Below.refl _ _) _) _⟩
/-- What a reader leaves. -/
def RdL (w w' : World) (b n : Nat) (rest : List Value) (v : Value) (L : List (List UInt8 × Nat)) (L' : List (List UInt8 × Nat)) : Prop := ∃ v', RdAt w' b 65 n rest v' L' ∧ v'.ownBlock = v.ownBlock ∧ (∀ y ∈ L', y ∈ L) ∧ Ot (fun k => k = b) w w'
def errV (B : Nat) : Value := .iface 97 (.pointer (some ⟨B, 0, none⟩))
set_option maxHeartbeats 2000000 in
theorem numbers_gen {b : Nat} {n m : Nat} {rest : List Value} {v : Value} {L : List (List UInt8 × Nat)} (w : World) (h : RdAt w b 65 n rest v L) (hB : ∀ w', Ot (fun k => k = b) w w' → Glob w') (hn : ∀ x ∈ L, x.1.length ≤ 2000) (hl : m ≤ 10) :
    Calls Tryz.prog 45 #[.pointer (some ⟨b, 0, none⟩), .int .i64 m] w fun e w' => (∃ L', RdL w w' b n rest v L L') ∧ ((∃ (u : Value) (zs : List Int), e = .returned (.tuple #[u, .nilIface]) ∧ zs.length = m ∧ Seg w' 3 1 u m (zs.map (Value.int .i64)) ∧ (∀ k, u.ownBlock = some k → w.heap.size ≤ k)) ∨ (∃ B, e = .returned (.tuple #[.slice none 0 0, errV B]))) := by
  have H : Hid (RdAt w b 65 n rest v L) := h
  have hb := h.lt
  have HN : Hid (∀ x ∈ L, x.1.length ≤ 2000) := hn
  have HG : Hid (∀ w', Ot (fun k => k = b) w w' → Glob w') := hB
  obtain ⟨i0, hi, hz0, hz1, hz2⟩ := info_parts infoIntP
  clear h hn hB
  go_enter Tryz.func45, Tryz.ntmps45
  go_wp2_with (at_make; refine wpList_make_own _ rfl _ _ 22 rfl w.heap.size 3 i0 (.int .i64 0) 1 Tryz.underlying22 hi hz0 hz1 _ _ _ m rfl rfl (by omega) (by rw [hz2]; omega) (by unfold maxLen; omega) (Nat.le_refl _) ?_; intro w1 hown1 hgrow1)
  go_loopw [6, 13] (fun o i wr => ∃ (k : Nat) (v' : Value) (L' : List (List UInt8 × Nat)) (zs : List Int), k ≤ m ∧ i = .int .i64 k ∧ zs.length = k ∧ (∀ y ∈ L', y ∈ L) ∧ RdAt wr b 65 n rest v' L' ∧ v'.ownBlock = v.ownBlock ∧ Seg wr 3 1 o k (zs.map (Value.int .i64)) ∧ (∀ j, o.ownBlock = some j → w.heap.size ≤ j) ∧ Ot (fun k => k = b) w wr) (fun _ i _ => m - (intOf i).toNat)
  case atStart =>
    have hb1 : Below w.heap.size w w1 := (Below.refl _ _).grown hgrow1 (Nat.le_refl _) (by simp)
    exact ⟨0, v, L, [], Nat.zero_le _, rfl, rfl, fun _ h => h, H.out.below hb1, rfl, Seg.of_owns hown1, fun j hj => by simp [Value.ownBlock] at hj; omega, Ot.of_below hb1⟩
  case round =>
    clear hown1 hgrow1
    obtain ⟨k, v', L', zs, hk, rfl, hzl, hin, hrd, hvo, hseg, hun, hot⟩ := hrel
    have HR : Hid (RdAt wr b 65 n rest v' L') := hrd
    have HV : Hid (v'.ownBlock = v.ownBlock) := hvo
    have HZ : Hid (zs.length = k) := hzl
    have HI : Hid (∀ y ∈ L', y ∈ L) := hin
    have HS : Hid (Seg wr 3 1 u6 k (zs.map (Value.int .i64))) := hseg
    have HU : Hid (∀ j, u6.ownBlock = some j → w.heap.size ≤ j) := hun
    have HOT : Hid (Ot (fun k => k = b) w wr) := hot
    have hws := hot.size
    clear hrd hvo hseg hun hot hzl hin
    by_cases hlt : k < m
    · obtain ⟨x, hx⟩ : ∃ x, L'.headD (endS n) = x := ⟨_, rfl⟩
      have hxl : x.1.length ≤ 2000 := by
        rw [← hx]
        cases hL : L' with
        | nil => exact Nat.zero_le _
        | cons y R => exact HN.out y (HI.out y (by rw [hL]; exact List.mem_cons_self ..))
      have HNX : Hid (Calls Tryz.prog 20 #[.pointer (some ⟨b, 0, none⟩)] wr fun e w' => e = .returned (.agg #[.string ⟨x.1.toArray⟩, .int .i64 x.2]) ∧ ∃ v2, RdAt w' b 65 n rest v2 L'.tail ∧ v2.ownBlock = v.ownBlock ∧ Ot (fun k => k = b) wr w') := by
        refine (sgnext_any wr HR.out).mono ?_
        rw [hx]
        rintro e w' ⟨rfl, v2, h1, h2, h3⟩
        exact ⟨rfl, v2, h1, h2.trans HV.out, h3⟩
      have HIT : Hid (∀ y ∈ L'.tail, y ∈ L) := fun y hy => HI.out y (List.mem_of_mem_tail hy)
      cases hz : numL x.1 with
      | none =>
        have HNB : Hid (∀ w1, Ot (fun k => k = b) w w1 → Calls Tryz.prog 62 #[.string ⟨x.1.toArray⟩] w1 fun e w' => e = .returned (.tuple #[.int .i64 0, .bool false]) ∧ Below w1.heap.size w1 w') := by
          intro w1 h1
          refine (number_any ⟨x.1.toArray⟩ w1 (by show x.1.toArray.size ≤ 2000; simpa using hxl) (HG.out w1 h1)).mono ?_
          rw [hz]
          rintro e w' ⟨rfl, h⟩
          exact ⟨rfl, h⟩
        clear hx hxl hz
        go_wp2_with (go_at_call 20; refine HNX.out.mono ?_; rintro e w1 ⟨rfl, v2, hr1, hv1, ho1⟩)
        have ho01 : Ot (fun k => k = b) w (w1.alloc (.cells #[.string ⟨x.1.toArray⟩, .int .i64 x.2] 60)) := (HOT.out.trans ho1).alloc _
        refine (HNB.out _ ho01).mono ?_
        rintro e w2 ⟨rfl, hb2⟩
        have HO2 : Hid (Ot (fun k => k = b) w w2) := ho01.trans (Ot.of_below hb2)
        have HR2 : Hid (RdAt w2 b 65 n rest v2 L'.tail) := (hr1.below (below_alloc_ (Below.refl _ _) _)).below hb2
        have HV2 : Hid (v2.ownBlock = v.ownBlock) := hv1
        have HX2 : Hid (w2.heap[w1.heap.size]? = some (.cells #[.string ⟨x.1.toArray⟩, .int .i64 x.2] 60 (0, 0))) := (hb2.block _ (by simp)).trans (new_block _ _)
        have hx0 : w2.cell? ⟨w1.heap.size, 0, none⟩ = some (.string ⟨x.1.toArray⟩) := by simp [World.cell?, HX2.out]
        have hx1 : w2.cell? ⟨w1.heap.size, 1, none⟩ = some (.int .i64 x.2) := by simp [World.cell?, HX2.out]
        clear hr1 hv1 ho1 ho01 hb2
        go_wp2_with (go_at_call 22; refine (wrongS_any _ _ _ _).mono ?_; rintro e w3 ⟨B, rfl, hb3⟩)
        (try simp only [Exit.inBlock, Exit.then])
        go_ret2
        exact ⟨⟨L'.tail, v2, HR2.out.below hb3, HV2.out, HIT.out, HO2.out.trans (Ot.of_below hb3)⟩, Or.inr ⟨B, rfl⟩⟩
      | some z =>
        have HNB : Hid (∀ w1, Ot (fun k => k = b) w w1 → Calls Tryz.prog 62 #[.string ⟨x.1.toArray⟩] w1 fun e w' => e = .returned (.tuple #[.int .i64 z, .bool true]) ∧ Below w1.heap.size w1 w') := by
          intro w1 h1
          refine (number_any ⟨x.1.toArray⟩ w1 (by show x.1.toArray.size ≤ 2000; simpa using hxl) (HG.out w1 h1)).mono ?_
          rw [hz]
          rintro e w' ⟨rfl, h⟩
          exact ⟨rfl, h⟩
        clear hx hxl hz
        go_wp2_with (go_at_call 20; refine HNX.out.mono ?_; rintro e w1 ⟨rfl, v2, hr1, hv1, ho1⟩)
        have ho01 : Ot (fun k => k = b) w (w1.alloc (.cells #[.string ⟨x.1.toArray⟩, .int .i64 x.2] 60)) := (HOT.out.trans ho1).alloc _
        refine (HNB.out _ ho01).mono ?_
        rintro e w2 ⟨rfl, hb2⟩
        have HO2 : Hid (Ot (fun k => k = b) w w2) := ho01.trans (Ot.of_below hb2)
        have HS2 : Hid (Seg w2 3 1 u6 k (zs.map (Value.int .i64))) := ((HS.out.oth ho1 (fun j hj e => by have := HU.out j hj; omega)).alloc _).below hb2
        have HR2 : Hid (RdAt w2 b 65 n rest v2 L'.tail) := (hr1.below (below_alloc_ (Below.refl _ _) _)).below hb2
        have HV2 : Hid (v2.ownBlock = v.ownBlock) := hv1
        have HVL : Hid (∀ j, v.ownBlock = some j → j < w.heap.size) := fun j hj => by have h := H.out.row.lt hj; exact h
        clear hr1 hv1 ho1 ho01 hb2
        go_wp2_with (at_builtin; refine wpList_append_seg _ rfl (.tmp 29) (.tmp 31) 22 rfl 3 i0 _ 1 8 Tryz.underlying22 hi hz0 hz1 hz2 rfl (by decide) _ _ _ rfl (HS2.out.below (by repeat' (first | with_reducible exact Below.refl _ _ | with_reducible refine Below.drew ?_ | with_reducible refine below_alloc_ ?_ _))) _ 1 1 _ rfl rfl (news_of (new_block_ (by simp))) (by simp [Value.oneCell']) (by decide) (by unfold maxLen; omega) (by omega) _ rfl ?_; intro g goff gcap w3 hs3 hg3 ha3 hl3)
        have hgn : w.heap.size ≤ g := by
          rcases ha3 with ha3 | ha3
          · exact HU.out _ ha3
          · have := HO2.out.size; simp at ha3; omega
        go_roundw
        case rel =>
          refine ⟨k + 1, v2, L'.tail, zs ++ [z], by omega, by go_num, by rw [List.length_append, HZ.out]; rfl, HIT.out, ?_, HV2.out, ?_, ?_, ?_⟩
          · refine (HR2.out.below (below_alloc_ (Below.refl _ _) _)).kept (hg3.block b (by simp; have := HO2.out.size; omega) (fun e => ?_)) (fun j hj => hg3.block j (by simp; have := HR2.out.row.lt hj; omega) (fun e => ?_))
            · have := HU.out b e.symm; omega
            · have h1 := HU.out j e.symm
              rw [HV2.out] at hj
              have h2 := HVL.out j hj
              omega
          · rw [List.map_append]
            exact hs3
          · intro j hj
            simp only [Value.ownBlock, Option.some.injEq] at hj
            subst hj
            exact hgn
          · exact (HO2.out.alloc _).grown hg3 (fun j hj => Or.inr (HU.out j hj))
        case measure => simp [intOf]; omega
    · obtain rfl : k = m := by omega
      go_wp2
      (try simp only [Exit.inBlock, Exit.then])
      go_ret2
      exact ⟨⟨L', v', HR.out, HV.out, HI.out, HOT.out⟩, Or.inl ⟨u6, zs, rfl, HZ.out, HS.out, HU.out⟩⟩
end Go.Proofs.YtfakjedolecdcaaGreatDoor
namespace Go.Proofs.YtfakjedolecdcaaGreatDoor
open Go.RowKit Go.Extern.Stop Go.Stop Go.Extern

/-- A queue as the interface has it, and what its methods tell of its state. -/
structure QM where
  σ : Type
  ty : TypeId
  rv : Value
  fP : FuncId
  fT : FuncId
  fW : FuncId
  fL : FuncId
  fB : FuncId
  rP : Value
  rT : Value
  rW : Value
  rL : Value
  rB : Value
  At : World → (Nat → Prop) → σ → Prop
  put : σ → Int → Hd → σ × List Hd
  take : σ → Int → σ × List Hd × Hd × Bool
  when : σ → Int → σ × Int × Bool
  len : σ → Int
  bytes : σ → Int
  inv : Int → Nat → σ → Prop
def Hd.ok (x : Hd) : Bool := It.ok ⟨x.a, x.l, x.f, x.b, x.m⟩
/-- The methods do so. -/
structure QM.Fine (M : QM) : Prop where
  kept : ∀ {w w' : World} {F : Nat → Prop} {s : M.σ}, M.At w F s → (∀ k, F k → w'.heap[k]? = w.heap[k]?) → M.At w' F s
  low : ∀ {w : World} {F : Nat → Prop} {s : M.σ}, M.At w F s → ∀ k, F k → k < w.heap.size
  mP : ∀ W : World, (Go.method 395 M.ty M.rv "Put").run Tryz.prog W = .ok (M.fP, M.rP) W
  mT : ∀ W : World, (Go.method 395 M.ty M.rv "Take").run Tryz.prog W = .ok (M.fT, M.rT) W
  mW : ∀ W : World, (Go.method 395 M.ty M.rv "When").run Tryz.prog W = .ok (M.fW, M.rW) W
  mL : ∀ W : World, (Go.method 395 M.ty M.rv "Len").run Tryz.prog W = .ok (M.fL, M.rL) W
  mB : ∀ W : World, (Go.method 395 M.ty M.rv "Bytes").run Tryz.prog W = .ok (M.fB, M.rB) W
  eP : ∀ (args : Array Value) (W : World), (callFunc M.fP args).run Tryz.prog W = .ok (.enter M.fP args) W
  eT : ∀ (args : Array Value) (W : World), (callFunc M.fT args).run Tryz.prog W = .ok (.enter M.fT args) W
  eW : ∀ (args : Array Value) (W : World), (callFunc M.fW args).run Tryz.prog W = .ok (.enter M.fW args) W
  eL : ∀ (args : Array Value) (W : World), (callFunc M.fL args).run Tryz.prog W = .ok (.enter M.fL args) W
  eB : ∀ (args : Array Value) (W : World), (callFunc M.fB args).run Tryz.prog W = .ok (.enter M.fB args) W
  cP : ∀ {w : World} {F : Nat → Prop} {s : M.σ} {t : Int} {n : Nat} (now : Int) (x : Hd), M.At w F s → M.inv t n s → 0 ≤ t → t ≤ now → now ≤ 20000000 → x.ok = true → x.a = now → x.n = n → n ≤ 1000 →
    Calls Tryz.prog M.fP #[M.rP, .int .i64 now, x.val] w fun e w' => ∃ u F', e = .returned u ∧ Hs w' u (M.put s now x).2 ∧ M.At w' F' (M.put s now x).1 ∧ (∀ k, F' k → F k ∨ w.heap.size ≤ k) ∧ (∀ k, u.ownBlock = some k → F k ∨ w.heap.size ≤ k) ∧ Ot F w w'
  iP : ∀ {s : M.σ} {t : Int} {n : Nat} (now : Int) (x : Hd), M.inv t n s → 0 ≤ t → t ≤ now → now ≤ 20000000 → x.ok = true → x.a = now → x.n = n → n ≤ 1000 → M.inv now (n + 1) (M.put s now x).1 ∧ (M.put s now x).2.length ≤ 1000000
  cT : ∀ {w : World} {F : Nat → Prop} {s : M.σ} {t : Int} {n : Nat} (now : Int), M.At w F s → M.inv t n s → 0 ≤ t → t ≤ now → now ≤ 20000000 → n ≤ 1000 →
    Calls Tryz.prog M.fT #[M.rT, .int .i64 now] w fun e w' => ∃ u F', e = .returned (.tuple #[(M.take s now).2.2.1.val, u, .bool (M.take s now).2.2.2]) ∧ Hs w' u (M.take s now).2.1 ∧ M.At w' F' (M.take s now).1 ∧ (∀ k, F' k → F k ∨ w.heap.size ≤ k) ∧ (∀ k, u.ownBlock = some k → F k ∨ w.heap.size ≤ k) ∧ Ot F w w'
  iT : ∀ {s : M.σ} {t : Int} {n : Nat} (now : Int), M.inv t n s → 0 ≤ t → t ≤ now → now ≤ 20000000 → n ≤ 1000 → M.inv now n (M.take s now).1 ∧ (M.take s now).2.1.length ≤ 1000000
  cW : ∀ {w : World} {F : Nat → Prop} {s : M.σ} {t : Int} {n : Nat} (now : Int), M.At w F s → M.inv t n s → 0 ≤ t → t ≤ now → now ≤ 20000000 → n ≤ 1000 →
    Calls Tryz.prog M.fW #[M.rW, .int .i64 now] w fun e w' => ∃ F', e = .returned (.tuple #[.int .i64 (M.when s now).2.1, .bool (M.when s now).2.2]) ∧ M.At w' F' (M.when s now).1 ∧ (∀ k, F' k → F k ∨ w.heap.size ≤ k) ∧ Ot F w w'
  iW : ∀ {s : M.σ} {t : Int} {n : Nat} (now : Int), M.inv t n s → 0 ≤ t → t ≤ now → now ≤ 20000000 → n ≤ 1000 → M.inv now n (M.when s now).1
  cL : ∀ {w : World} {F : Nat → Prop} {s : M.σ} {t : Int} {n : Nat}, M.At w F s → M.inv t n s → n ≤ 1001 → Calls Tryz.prog M.fL #[M.rL] w fun e w' => e = .returned (.int .i64 (M.len s)) ∧ Below w.heap.size w w'
  cB : ∀ {w : World} {F : Nat → Prop} {s : M.σ} {t : Int} {n : Nat}, M.At w F s → M.inv t n s → n ≤ 1001 → Calls Tryz.prog M.fB #[M.rB] w fun e w' => e = .returned (.int .i64 (M.bytes s)) ∧ Below w.heap.size w w'

/-- What a step told: which was taken, its mark, when, how many wait, how many bytes, which were lost. -/
structure Sn where
  taken : Int
  mark : Int
  when : Int
  len : Int
  bytes : Int
  lost : List Int
def Sn.cs (p : Sn × Value) : List Value := [.int .i64 p.1.taken, .int .i64 p.1.mark, .int .i64 p.1.when, .int .i64 p.1.len, .int .i64 p.1.bytes, p.2]
theorem Sn.len6 (p : Sn × Value) : (Sn.cs p).length = 6 := rfl
def hdOf (st : Stp) (n : Nat) : Hd := ⟨st.a, st.l, st.f, st.b, st.m, n⟩
/-- One step. -/
def stepQ (M : QM) (s : M.σ) (n : Nat) (st : Stp) : (M.σ × Nat) × Sn :=
  if st.what = 0 then (((M.put s st.lt (hdOf st n)).1, n + 1), ⟨-1, 0, -1, M.len (M.put s st.lt (hdOf st n)).1, M.bytes (M.put s st.lt (hdOf st n)).1, (M.put s st.lt (hdOf st n)).2.map Hd.n⟩)
  else if st.what = 1 then (((M.take s st.lt).1, n), ⟨if (M.take s st.lt).2.2.2 then (M.take s st.lt).2.2.1.n else -1, if (M.take s st.lt).2.2.2 then (M.take s st.lt).2.2.1.m else 0, -1, M.len (M.take s st.lt).1, M.bytes (M.take s st.lt).1, (M.take s st.lt).2.1.map Hd.n⟩)
  else (((M.when s st.lt).1, n), ⟨-1, 0, if (M.when s st.lt).2.2 then (M.when s st.lt).2.1 else -1, M.len (M.when s st.lt).1, M.bytes (M.when s st.lt).1, []⟩)
def stFrom (M : QM) : M.σ → Nat → List Stp → Nat → M.σ × Nat
  | s, n, _, 0 => (s, n)
  | s, n, [], _ + 1 => (s, n)
  | s, n, st :: r, k + 1 => stFrom M (stepQ M s n st).1.1 (stepQ M s n st).1.2 r k
def playFrom (M : QM) : M.σ → Nat → List Stp → List Sn
  | _, _, [] => []
  | s, n, st :: r => (stepQ M s n st).2 :: playFrom M (stepQ M s n st).1.1 (stepQ M s n st).1.2 r
theorem stFrom_zero (M : QM) (s : M.σ) (n : Nat) (xs : List Stp) : stFrom M s n xs 0 = (s, n) := by cases xs <;> rfl
theorem stFrom_succ {M : QM} {s : M.σ} {n : Nat} {xs : List Stp} {k : Nat} {st : Stp} (h : xs[k]? = some st) : stFrom M s n xs (k + 1) = (stepQ M (stFrom M s n xs k).1 (stFrom M s n xs k).2 st).1 := by
  induction xs generalizing s n k with
  | nil => simp at h
  | cons y r ih =>
    cases k with
    | zero =>
      simp at h; subst h
      simp [stFrom]
    | succ k => simpa [stFrom] using ih (s := (stepQ M s n y).1.1) (n := (stepQ M s n y).1.2) (by simpa using h)
theorem playFrom_length (M : QM) (s : M.σ) (n : Nat) (xs : List Stp) : (playFrom M s n xs).length = xs.length := by
  induction xs generalizing s n with
  | nil => rfl
  | cons y r ih => simp [playFrom, ih]
theorem playFrom_at {M : QM} {s : M.σ} {n : Nat} {xs : List Stp} {k : Nat} {st : Stp} (h : xs[k]? = some st) : (playFrom M s n xs)[k]? = some (stepQ M (stFrom M s n xs k).1 (stFrom M s n xs k).2 st).2 := by
  induction xs generalizing s n k with
  | nil => simp at h
  | cons y r ih =>
    cases k with
    | zero => simp at h; subst h; simp [playFrom, stFrom]
    | succ k => simpa [playFrom, stFrom] using ih (s := (stepQ M s n y).1.1) (n := (stepQ M s n y).1.2) (by simpa using h)
theorem stFrom_le (M : QM) (s : M.σ) (n : Nat) (xs : List Stp) (k : Nat) : (stFrom M s n xs k).2 ≤ n + k := by
  induction xs generalizing s n k with
  | nil => cases k <;> simp [stFrom]
  | cons y r ih =>
    cases k with
    | zero => simp [stFrom]
    | succ k =>
      have := ih (stepQ M s n y).1.1 (stepQ M s n y).1.2 k
      have h2 : (stepQ M s n y).1.2 ≤ n + 1 := by unfold stepQ; split; exact Nat.le_refl _; split <;> exact Nat.le_succ _
      simp only [stFrom]
      omega
theorem timed_lt (t : Int) (s : Stp) : (timed t s).lt = t ∧ (timed t s).a = t := ⟨rfl, rfl⟩
theorem timed_ok {t : Int} {s : Stp} (h : (timed t s).what = 0) : It.ok ⟨t, s.l, s.f, s.b, s.m⟩ = true := by
  cases hok : It.ok ⟨t, s.l, s.f, s.b, s.m⟩ with
  | true => rfl
  | false =>
    exfalso
    simp only [timed, hok, and_true] at h
    by_cases hw : s.what = 0
    · rw [if_pos hw] at h; omega
    · rw [if_neg hw] at h; exact hw h
/-- What is seen of the first k steps. -/
def Psn (M : QM) (s0 : M.σ) (ts : List Stp) (k : Nat) : List Sn := (playFrom M s0 0 ts).take k
theorem Psn_succ {M : QM} {s0 : M.σ} {ts : List Stp} {k : Nat} {st : Stp} (h : ts[k]? = some st) : Psn M s0 ts (k + 1) = Psn M s0 ts k ++ [(stepQ M (stFrom M s0 0 ts k).1 (stFrom M s0 0 ts k).2 st).2] := by
  unfold Psn
  rw [List.take_add_one, playFrom_at h]
  rfl
theorem Psn_length {M : QM} {s0 : M.σ} {ts : List Stp} {k : Nat} (h : k ≤ ts.length) : (Psn M s0 ts k).length = k := by simp [Psn, playFrom_length]; omega
theorem Psn_all (M : QM) (s0 : M.σ) (ts : List Stp) : Psn M s0 ts ts.length = playFrom M s0 0 ts := by rw [Psn, List.take_of_length_le (by rw [playFrom_length]; exact Nat.le_refl _)]

/-- What was seen lies in memory of the call's own, from block base on, apart from F. -/
structure Sns (w : World) (base : Nat) (F : Nat → Prop) (v : Value) (ss : List Sn) (us : List Value) : Prop where
  len : us.length = ss.length
  row : Seg w 72 6 v ss.length (flt Sn.cs (ss.zip us))
  new : ∀ b, v.ownBlock = some b → base ≤ b ∧ ¬ F b
  lost : ∀ (i : Nat) (sn : Sn) (u : Value), ss[i]? = some sn → us[i]? = some u → Ins w u sn.lost ∧ ∀ b, u.ownBlock = some b → base ≤ b ∧ ¬ F b
theorem Sns.nil (w : World) (base : Nat) (F : Nat → Prop) : Sns w base F (.slice none 0 0) [] [] := ⟨rfl, Seg.nil _ _ _, fun b hb => by simp [Value.ownBlock] at hb, fun i sn u h => by simp at h⟩
theorem Sns.ot {w w' : World} {base : Nat} {F F' G : Nat → Prop} {v : Value} {ss : List Sn} {us : List Value} (h : Sns w base F v ss us) (ho : Ot G w w') (hG : ∀ k, base ≤ k → k < w.heap.size → ¬ F k → ¬ G k) (hF : ∀ k, k < w.heap.size → F' k → F k) : Sns w' base F' v ss us := by
  refine ⟨h.len, Seg.oth h.row ho (fun b hb => hG b (h.new b hb).1 (h.row.lt hb) (h.new b hb).2), fun b hb => ⟨(h.new b hb).1, fun x => (h.new b hb).2 (hF b (h.row.lt hb) x)⟩, ?_⟩
  intro i sn u h1 h2
  obtain ⟨h3, h4⟩ := h.lost i sn u h1 h2
  exact ⟨Seg.oth h3 ho (fun b hb => hG b (h4 b hb).1 (Seg.lt h3 hb) (h4 b hb).2), fun b hb => ⟨(h4 b hb).1, fun x => (h4 b hb).2 (hF b (Seg.lt h3 hb) x)⟩⟩
end Go.Proofs.YtfakjedolecdcaaGreatDoor
