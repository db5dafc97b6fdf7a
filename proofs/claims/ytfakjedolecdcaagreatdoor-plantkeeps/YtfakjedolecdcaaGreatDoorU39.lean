/-
  package plant: a reader's numbers, where numbers stand. Conditions: the words are numbers; few of them.
  package plant: a reader's numbers, whatever stands there: so many numbers, or an error. Conditions: no sign has more than 2000 bytes; what strconv lays is laid; few numbers are asked for.
  package plant: a Fifo that a text tells. Conditions: its two numbers are room that may be.
  package plant: a Fifo that a text tells, or an error, whatever stands there. Conditions: as for numbers; errors.errorType is laid.
  package plant: a queue that begins with fifo or head. Conditions: as for a Fifo; not too many queues have begun, nor stand around.
-/
import Derived.Test.YtfakjedolecdcaaGreatDoorU38
import Derived.Test.YtfakjedolecdcaaGreatDoorU10
import Derived.Test.YtfakjedolecdcaaGreatDoorU15
import Derived.Test.YtfakjedolecdcaaGreatDoorU2
namespace Go.Proofs.YtfakjedolecdcaaGreatDoor
open Go.RowKit Go.Extern.Stop Go.Stop Go.Extern

theorem infoIntP : (Tryz.prog.info? 3).map (fun i => (i.zero, i.size, i.bytes)) = some (some (.int .i64 0), 1, 8) := by kernel_rfl
/-- The numbers that words are. -/
def numsL (L : List (List UInt8 × Nat)) : List Int := L.map fun x => (numL x.1).getD 0
set_option maxHeartbeats 2000000 in
theorem numbers_yes {b : Nat} {n : Nat} {rest : List Value} {v : Value} {L R : List (List UInt8 × Nat)} (w : World) (h : RdAt w b 65 n rest v (L ++ R)) (hB : ∀ w', Ot (fun k => k = b) w w' → Glob w') (hn : ∀ x ∈ L, (numL x.1).isSome = true ∧ x.1.length ≤ 2000) (hl : L.length ≤ 10) :
    Calls Tryz.prog 45 #[.pointer (some ⟨b, 0, none⟩), .int .i64 L.length] w fun e w' => ∃ u v', e = .returned (.tuple #[u, .nilIface]) ∧ RdAt w' b 65 n rest v' R ∧ v'.ownBlock = v.ownBlock ∧ Seg w' 3 1 u L.length ((numsL L).map (Value.int .i64)) ∧ (∀ k, u.ownBlock = some k → w.heap.size ≤ k) ∧ Ot (fun k => k = b) w w' := by
  have H : Hid (RdAt w b 65 n rest v (L ++ R)) := h
  have hb := h.lt
  have HN : Hid (∀ x ∈ L, (numL x.1).isSome = true ∧ x.1.length ≤ 2000) := hn
  have HG : Hid (∀ w', Ot (fun k => k = b) w w' → Glob w') := hB
  obtain ⟨i0, hi, hz0, hz1, hz2⟩ := info_parts infoIntP
  clear h hn hB
  generalize hm : L.length = m at *
  have HM : Hid (L.length = m) := hm
  clear hm
  go_enter Tryz.func45, Tryz.ntmps45
  go_wp2_with (at_make; refine wpList_make_own _ rfl _ _ 22 rfl w.heap.size 3 i0 (.int .i64 0) 1 Tryz.underlying22 hi hz0 hz1 _ _ _ m rfl rfl (by omega) (by rw [hz2]; omega) (by unfold maxLen; omega) (Nat.le_refl _) ?_; intro w1 hown1 hgrow1)
  go_loopw [6, 13] (fun o i wr => ∃ (k : Nat) (v' : Value), k ≤ m ∧ i = .int .i64 k ∧ RdAt wr b 65 n rest v' (L.drop k ++ R) ∧ v'.ownBlock = v.ownBlock ∧ Seg wr 3 1 o k ((numsL (L.take k)).map (Value.int .i64)) ∧ (∀ j, o.ownBlock = some j → w.heap.size ≤ j) ∧ Ot (fun k => k = b) w wr) (fun _ i _ => m - (intOf i).toNat)
  case atStart =>
    have hb1 : Below w.heap.size w w1 := (Below.refl _ _).grown hgrow1 (Nat.le_refl _) (by simp)
    exact ⟨0, v, Nat.zero_le _, rfl, H.out.below hb1, rfl, Seg.of_owns hown1, fun j hj => by simp [Value.ownBlock] at hj; omega, Ot.of_below hb1⟩
  case round =>
    clear hown1 hgrow1
    obtain ⟨k, v', hk, rfl, hrd, hvo, hseg, hun, hot⟩ := hrel
    have HR : Hid (RdAt wr b 65 n rest v' (L.drop k ++ R)) := hrd
    have HV : Hid (v'.ownBlock = v.ownBlock) := hvo
    have HS : Hid (Seg wr 3 1 u6 k ((numsL (L.take k)).map (Value.int .i64))) := hseg
    have HU : Hid (∀ j, u6.ownBlock = some j → w.heap.size ≤ j) := hun
    have HOT : Hid (Ot (fun k => k = b) w wr) := hot
    have hws := hot.size
    clear hrd hvo hseg hun hot
    by_cases hlt : k < m
    · obtain ⟨x, hx⟩ : ∃ x, L[k]? = some x := ⟨_, List.getElem?_eq_getElem (by have := HM.out; omega)⟩
      have hdr : L.drop k = x :: L.drop (k + 1) := by
        obtain ⟨h1, h2⟩ := List.getElem?_eq_some_iff.1 hx
        rw [← h2]; exact List.drop_eq_getElem_cons h1
      have HTK : Hid (numsL (L.take (k + 1)) = numsL (L.take k) ++ [(numL x.1).getD 0]) := by
        show _ = _
        rw [List.take_add_one, hx]; simp [numsL]
      obtain ⟨hy, hy2⟩ := HN.out x (List.mem_of_getElem? hx)
      obtain ⟨z, hz⟩ : ∃ z, numL x.1 = some z := Option.isSome_iff_exists.1 hy
      have HNX : Hid (Calls Tryz.prog 20 #[.pointer (some ⟨b, 0, none⟩)] wr fun e w' => e = .returned (.agg #[.string ⟨x.1.toArray⟩, .int .i64 x.2]) ∧ ∃ v2, RdAt w' b 65 n rest v2 (L.drop (k + 1) ++ R) ∧ v2.ownBlock = v.ownBlock ∧ Ot (fun k => k = b) wr w') := by
        refine (sgnext_any wr HR.out).mono ?_
        rw [hdr]
        rintro e w' ⟨rfl, v2, h1, h2, h3⟩
        exact ⟨rfl, v2, h1, h2.trans HV.out, h3⟩
      have HNB : Hid (∀ w1, Ot (fun k => k = b) w w1 → Calls Tryz.prog 62 #[.string ⟨x.1.toArray⟩] w1 fun e w' => e = .returned (.tuple #[.int .i64 z, .bool true]) ∧ Below w1.heap.size w1 w') := by
        intro w1 h1
        refine (number_any ⟨x.1.toArray⟩ w1 (by show x.1.toArray.size ≤ 2000; simpa using hy2) (HG.out w1 h1)).mono ?_
        rw [hz]
        rintro e w' ⟨rfl, h⟩
        exact ⟨rfl, h⟩
      rw [hz] at HTK
      clear hx hdr hy hy2 hz
      go_wp2_with (go_at_call 20; refine HNX.out.mono ?_; rintro e w1 ⟨rfl, v2, hr1, hv1, ho1⟩)
      have ho01 : Ot (fun k => k = b) w (w1.alloc (.cells #[.string ⟨x.1.toArray⟩, .int .i64 x.2] 60)) := (HOT.out.trans ho1).alloc _
      refine (HNB.out _ ho01).mono ?_
      rintro e w2 ⟨rfl, hb2⟩
      have HO2 : Hid (Ot (fun k => k = b) w w2) := ho01.trans (Ot.of_below hb2)
      have HS2 : Hid (Seg w2 3 1 u6 k ((numsL (L.take k)).map (Value.int .i64))) := ((HS.out.oth ho1 (fun j hj e => by have := HU.out j hj; omega)).alloc _).below hb2
      have HR2 : Hid (RdAt w2 b 65 n rest v2 (L.drop (k + 1) ++ R)) := (hr1.below (below_alloc_ (Below.refl _ _) _)).below hb2
      have HV2 : Hid (v2.ownBlock = v.ownBlock) := hv1
      have HVL : Hid (∀ j, v.ownBlock = some j → j < w.heap.size) := fun j hj => by have h := H.out.row.lt hj; exact h
      clear hr1 hv1 ho1 ho01 hb2
      go_wp2_with (at_builtin; refine wpList_append_seg _ rfl (.tmp 29) (.tmp 31) 22 rfl 3 i0 _ 1 8 Tryz.underlying22 hi hz0 hz1 hz2 rfl (by decide) _ _ _ rfl (HS2.out.below (by repeat' (first | with_reducible exact Below.refl _ _ | with_reducible refine Below.drew ?_ | with_reducible refine below_alloc_ ?_ _))) _ 1 1 _ rfl rfl (news_of (new_block_ (by simp))) (by simp [Value.oneCell']) (by decide) (by unfold maxLen; omega) (by omega) _ rfl ?_; intro g goff gcap w3 hs3 hg3 ha3 hl3)
      have hgn : w.heap.size ≤ g := by
        rcases ha3 with ha3 | ha3
        · exact HU.out _ ha3
        · have := HO2.out.size; simp at ha3; omega
      go_roundw
      case rel =>
        refine ⟨k + 1, v2, by omega, by go_num, ?_, HV2.out, ?_, ?_, ?_⟩
        · refine (HR2.out.below (below_alloc_ (Below.refl _ _) _)).kept (hg3.block b (by simp; have := HO2.out.size; omega) (fun e => ?_)) (fun j hj => hg3.block j (by simp; have := HR2.out.row.lt hj; omega) (fun e => ?_))
          · have := HU.out b e.symm; omega
          · have h1 := HU.out j e.symm
            rw [HV2.out] at hj
            have h2 := HVL.out j hj
            omega
        · rw [HTK.out, List.map_append]
          exact hs3
        · intro j hj
          simp only [Value.ownBlock, Option.some.injEq] at hj
          subst hj
          exact hgn
        · exact (HO2.out.alloc _).grown hg3 (fun j hj => Or.inr (HU.out j hj))
      case measure => simp [intOf]; omega
    · obtain rfl : k = m := by omega
      go_wp2
      (try simp only [Exit.inBlock, Exit.then])
      go_ret2
      have e1 : L.drop k = [] := by rw [List.drop_eq_nil_iff]; have := HM.out; omega
      have e2 : L.take k = L := by rw [List.take_of_length_le]; have := HM.out; omega
      have hr := HR.out
      have hs := HS.out
      rw [e1, List.nil_append] at hr
      rw [e2] at hs
      exact ⟨u6, v', rfl, hr, HV.out, hs, HU.out, HOT.out⟩
end Go.Proofs.YtfakjedolecdcaaGreatDoor
namespace Go.Proofs.YtfakjedolecdcaaGreatDoor
open Go.RowKit Go.Extern.Stop Go.Stop Go.Extern

theorem wrongS_any (t : ByteArray) (p c : Int) (w : World) : Calls Tryz.prog 22 #[.agg #[.string t, .int .i64 p], .int .i64 c] w fun e w' => ∃ B, e = .returned (.iface 97 (.pointer (some ⟨B, 0, none⟩))) ∧ Below w.heap.size w w' := by
  go_enter Tryz.func22, Tryz.ntmps22
  go_wp2
  go_ret
  exact ⟨w.heap.size + 1, rfl, below_alloc_ (below_alloc_ (Below.refl _ _) _) _⟩
/-- What a reader leaves. -/
def RdL (w w' : World) (b n : Nat) (rest : List Value) (v : Value) (L : List (List UInt8 × Nat)) (L' : List (List UInt8 × Nat)) : Prop := ∃ v', RdAt w' b 65 n rest v' L' ∧ v'.ownBlock = v.ownBlock ∧ (∀ y ∈ L', y ∈ L) ∧ Ot (fun k => k = b) w w'
def errV (B : Nat) : Value := .iface 97 (.pointer (some ⟨B, 0, none⟩))
set_option maxHeartbeats 2000000 in
theorem numbers_gen {b : Nat} {n m : Nat} {rest : List Value} {v : Value} {L : List (List UInt8 × Nat)} (w : World) (h : RdAt w b 65 n rest v L) (hB : ∀ w', Ot (fun k => k = b) w w' → Glob w') (hn : ∀ x ∈ L, x.1.length ≤ 2000) (hl : m ≤ 10) :
    Calls Tryz.prog 45 #[.pointer (some ⟨b, 0, none⟩), .int .i64 m] w fun e w' => (∃ L', RdL w w' b n rest v L L') ∧ ((∃ (u : Value) (zs : List Int), e = .returned (.tuple #[u, .nilIface]) ∧ zs.length = m ∧ Seg w' 3 1 u m (zs.map (Value.int .i64)) ∧ (∀ k, u.ownBlock = some k → w.heap.size ≤ k)) ∨ (∃ B, e = .returned (.tuple #[.slice none 0 0, errV B]))) := by
  have H : Hid (RdAt w b 65 n rest v L) := h
  have hb := h.lt
  have HN : Hid (∀ x ∈ L, x.1.length ≤ 2000) := hn
  have HG : Hid (∀ w', Ot (fun k => k = b) w w' → Glob w') := hB
  obtain ⟨i0, hi, hz0, hz1, hz2⟩ := info_parts infoIntP
  clear h hn hB
  go_enter Tryz.func45, Tryz.ntmps45
  go_wp2_with (at_make; refine wpList_make_own _ rfl _ _ 22 rfl w.heap.size 3 i0 (.int .i64 0) 1 Tryz.underlying22 hi hz0 hz1 _ _ _ m rfl rfl (by omega) (by rw [hz2]; omega) (by unfold maxLen; omega) (Nat.le_refl _) ?_; intro w1 hown1 hgrow1)
  go_loopw [6, 13] (fun o i wr => ∃ (k : Nat) (v' : Value) (L' : List (List UInt8 × Nat)) (zs : List Int), k ≤ m ∧ i = .int .i64 k ∧ zs.length = k ∧ (∀ y ∈ L', y ∈ L) ∧ RdAt wr b 65 n rest v' L' ∧ v'.ownBlock = v.ownBlock ∧ Seg wr 3 1 o k (zs.map (Value.int .i64)) ∧ (∀ j, o.ownBlock = some j → w.heap.size ≤ j) ∧ Ot (fun k => k = b) w wr) (fun _ i _ => m - (intOf i).toNat)
  case atStart =>
    have hb1 : Below w.heap.size w w1 := (Below.refl _ _).grown hgrow1 (Nat.le_refl _) (by simp)
    exact ⟨0, v, L, [], Nat.zero_le _, rfl, rfl, fun _ h => h, H.out.below hb1, rfl, Seg.of_owns hown1, fun j hj => by simp [Value.ownBlock] at hj; omega, Ot.of_below hb1⟩
  case round =>
    clear hown1 hgrow1
    obtain ⟨k, v', L', zs, hk, rfl, hzl, hin, hrd, hvo, hseg, hun, hot⟩ := hrel
    have HR : Hid (RdAt wr b 65 n rest v' L') := hrd
    have HV : Hid (v'.ownBlock = v.ownBlock) := hvo
    have HZ : Hid (zs.length = k) := hzl
    have HI : Hid (∀ y ∈ L', y ∈ L) := hin
    have HS : Hid (Seg wr 3 1 u6 k (zs.map (Value.int .i64))) := hseg
    have HU : Hid (∀ j, u6.ownBlock = some j → w.heap.size ≤ j) := hun
    have HOT : Hid (Ot (fun k => k = b) w wr) := hot
    have hws := hot.size
    clear hrd hvo hseg hun hot hzl hin
    by_cases hlt : k < m
    · obtain ⟨x, hx⟩ : ∃ x, L'.headD (endS n) = x := ⟨_, rfl⟩
      have hxl : x.1.length ≤ 2000 := by
        rw [← hx]
        cases hL : L' with
        | nil => exact Nat.zero_le _
        | cons y R => exact HN.out y (HI.out y (by rw [hL]; exact List.mem_cons_self ..))
      have HNX : Hid (Calls Tryz.prog 20 #[.pointer (some ⟨b, 0, none⟩)] wr fun e w' => e = .returned (.agg #[.string ⟨x.1.toArray⟩, .int .i64 x.2]) ∧ ∃ v2, RdAt w' b 65 n rest v2 L'.tail ∧ v2.ownBlock = v.ownBlock ∧ Ot (fun k => k = b) wr w') := by
        refine (sgnext_any wr HR.out).mono ?_
        rw [hx]
        rintro e w' ⟨rfl, v2, h1, h2, h3⟩
        exact ⟨rfl, v2, h1, h2.trans HV.out, h3⟩
      have HIT : Hid (∀ y ∈ L'.tail, y ∈ L) := fun y hy => HI.out y (List.mem_of_mem_tail hy)
      cases hz : numL x.1 with
      | none =>
        have HNB : Hid (∀ w1, Ot (fun k => k = b) w w1 → Calls Tryz.prog 62 #[.string ⟨x.1.toArray⟩] w1 fun e w' => e = .returned (.tuple #[.int .i64 0, .bool false]) ∧ Below w1.heap.size w1 w') := by
          intro w1 h1
          refine (number_any ⟨x.1.toArray⟩ w1 (by show x.1.toArray.size ≤ 2000; simpa using hxl) (HG.out w1 h1)).mono ?_
          rw [hz]
          rintro e w' ⟨rfl, h⟩
          exact ⟨rfl, h⟩
        clear hx hxl hz
        go_wp2_with (go_at_call 20; refine HNX.out.mono ?_; rintro e w1 ⟨rfl, v2, hr1, hv1, ho1⟩)
        have ho01 : Ot (fun k => k = b) w (w1.alloc (.cells #[.string ⟨x.1.toArray⟩, .int .i64 x.2] 60)) := (HOT.out.trans ho1).alloc _
        refine (HNB.out _ ho01).mono ?_
        rintro e w2 ⟨rfl, hb2⟩
        have HO2 : Hid (Ot (fun k => k = b) w w2) := ho01.trans (Ot.of_below hb2)
        have HR2 : Hid (RdAt w2 b 65 n rest v2 L'.tail) := (hr1.below (below_alloc_ (Below.refl _ _) _)).below hb2
        have HV2 : Hid (v2.ownBlock = v.ownBlock) := hv1
        have HX2 : Hid (w2.heap[w1.heap.size]? = some (.cells #[.string ⟨x.1.toArray⟩, .int .i64 x.2] 60 (0, 0))) := (hb2.block _ (by simp)).trans (new_block _ _)
        have hx0 : w2.cell? ⟨w1.heap.size, 0, none⟩ = some (.string ⟨x.1.toArray⟩) := by simp [World.cell?, HX2.out]
        have hx1 : w2.cell? ⟨w1.heap.size, 1, none⟩ = some (.int .i64 x.2) := by simp [World.cell?, HX2.out]
        clear hr1 hv1 ho1 ho01 hb2
        go_wp2_with (go_at_call 22; refine (wrongS_any _ _ _ _).mono ?_; rintro e w3 ⟨B, rfl, hb3⟩)
        (try simp only [Exit.inBlock, Exit.then])
        go_ret2
        exact ⟨⟨L'.tail, v2, HR2.out.below hb3, HV2.out, HIT.out, HO2.out.trans (Ot.of_below hb3)⟩, Or.inr ⟨B, rfl⟩⟩
      | some z =>
        have HNB : Hid (∀ w1, Ot (fun k => k = b) w w1 → Calls Tryz.prog 62 #[.string ⟨x.1.toArray⟩] w1 fun e w' => e = .returned (.tuple #[.int .i64 z, .bool true]) ∧ Below w1.heap.size w1 w') := by
          intro w1 h1
          refine (number_any ⟨x.1.toArray⟩ w1 (by show x.1.toArray.size ≤ 2000; simpa using hxl) (HG.out w1 h1)).mono ?_
          rw [hz]
          rintro e w' ⟨rfl, h⟩
          exact ⟨rfl, h⟩
        clear hx hxl hz
        go_wp2_with (go_at_call 20; refine HNX.out.mono ?_; rintro e w1 ⟨rfl, v2, hr1, hv1, ho1⟩)
        have ho01 : Ot (fun k => k = b) w (w1.alloc (.cells #[.string ⟨x.1.toArray⟩, .int .i64 x.2] 60)) := (HOT.out.trans ho1).alloc _
        refine (HNB.out _ ho01).mono ?_
        rintro e w2 ⟨rfl, hb2⟩
        have HO2 : Hid (Ot (fun k => k = b) w w2) := ho01.trans (Ot.of_below hb2)
        have HS2 : Hid (Seg w2 3 1 u6 k (zs.map (Value.int .i64))) := ((HS.out.oth ho1 (fun j hj e => by have := HU.out j hj; omega)).alloc _).below hb2
        have HR2 : Hid (RdAt w2 b 65 n rest v2 L'.tail) := (hr1.below (below_alloc_ (Below.refl _ _) _)).below hb2
        have HV2 : Hid (v2.ownBlock = v.ownBlock) := hv1
        have HVL : Hid (∀ j, v.ownBlock = some j → j < w.heap.size) := fun j hj => by have h := H.out.row.lt hj; exact h
        clear hr1 hv1 ho1 ho01 hb2
        go_wp2_with (at_builtin; refine wpList_append_seg _ rfl (.tmp 29) (.tmp 31) 22 rfl 3 i0 _ 1 8 Tryz.underlying22 hi hz0 hz1 hz2 rfl (by decide) _ _ _ rfl (HS2.out.below (by repeat' (first | with_reducible exact Below.refl _ _ | with_reducible refine Below.drew ?_ | with_reducible refine below_alloc_ ?_ _))) _ 1 1 _ rfl rfl (news_of (new_block_ (by simp))) (by simp [Value.oneCell']) (by decide) (by unfold maxLen; omega) (by omega) _ rfl ?_; intro g goff gcap w3 hs3 hg3 ha3 hl3)
        have hgn : w.heap.size ≤ g := by
          rcases ha3 with ha3 | ha3
          · exact HU.out _ ha3
          · have := HO2.out.size; simp at ha3; omega
        go_roundw
        case rel =>
          refine ⟨k + 1, v2, L'.tail, zs ++ [z], by omega, by go_num, by rw [List.length_append, HZ.out]; rfl, HIT.out, ?_, HV2.out, ?_, ?_, ?_⟩
          · refine (HR2.out.below (below_alloc_ (Below.refl _ _) _)).kept (hg3.block b (by simp; have := HO2.out.size; omega) (fun e => ?_)) (fun j hj => hg3.block j (by simp; have := HR2.out.row.lt hj; omega) (fun e => ?_))
            · have := HU.out b e.symm; omega
            · have h1 := HU.out j e.symm
              rw [HV2.out] at hj
              have h2 := HVL.out j hj
              omega
          · rw [List.map_append]
            exact hs3
          · intro j hj
            simp only [Value.ownBlock, Option.some.injEq] at hj
            subst hj
            exact hgn
          · exact (HO2.out.alloc _).grown hg3 (fun j hj => Or.inr (HU.out j hj))
        case measure => simp [intOf]; omega
    · obtain rfl : k = m := by omega
      go_wp2
      (try simp only [Exit.inBlock, Exit.then])
      go_ret2
      exact ⟨⟨L', v', HR.out, HV.out, HI.out, HOT.out⟩, Or.inl ⟨u6, zs, rfl, HZ.out, HS.out, HU.out⟩⟩
end Go.Proofs.YtfakjedolecdcaaGreatDoor
namespace Go.Proofs.YtfakjedolecdcaaGreatDoor
open Go.RowKit Go.Extern.Stop Go.Stop Go.Extern

theorem made_yes (x : List UInt8 × Nat) (qv : Value) (w : World) :
    Calls Tryz.prog 46 #[.agg #[.string ⟨x.1.toArray⟩, .int .i64 x.2], qv, .nilIface] w fun e w' => e = .returned (.tuple #[qv, .nilIface]) ∧ Below w.heap.size w w' := by
  go_enter Tryz.func46, Tryz.ntmps46
  go_wp2
  go_ret2
  exact ⟨rfl, below_alloc_ (Below.refl _ _) _⟩
theorem end_any (x : List UInt8 × Nat) (w : World) :
    Calls Tryz.prog 21 #[.agg #[.string ⟨x.1.toArray⟩, .int .i64 x.2]] w fun e w' => e = .returned (.bool (x.1 == [])) ∧ Below w.heap.size w w' := by
  go_enter Tryz.func21, Tryz.ntmps21
  go_wp2
  go_ret
  exact ⟨by simp, below_alloc_ (Below.refl _ _) _⟩
def headB : List UInt8 := [104, 101, 97, 100]
def fifoB : List UInt8 := [102, 105, 102, 111]
set_option maxHeartbeats 2000000 in
theorem fifo_yes {b : Nat} {n : Nat} {rest : List Value} {v : Value} {x1 x2 : List UInt8 × Nat} {R : List (List UInt8 × Nat)} (f : List UInt8 × Nat) (P Rm : Int) (w : World) (h : RdAt w b 65 n rest v (x1 :: x2 :: R)) (hB : ∀ w', Ot (fun k => k = b) w w' → Glob w') (h1 : numL x1.1 = some P) (h2 : numL x2.1 = some Rm) (hl1 : x1.1.length ≤ 2000) (hl2 : x2.1.length ≤ 2000) (hP : 0 ≤ P ∧ P ≤ 1000000) (hR : 0 ≤ Rm ∧ Rm ≤ 1000000) :
    Calls Tryz.prog 31 #[.pointer (some ⟨b, 0, none⟩), .agg #[.string ⟨f.1.toArray⟩, .int .i64 f.2]] w fun e w' => ∃ q v', e = .returned (.tuple #[.iface 86 (.pointer (some ⟨q, 0, none⟩)), .nilIface]) ∧ w.heap.size ≤ q ∧ LAt w' q 110 (frest P Rm (f.1 == headB) []) (.slice none 0 0) [] ∧ RdAt w' b 65 n rest v' R ∧ v'.ownBlock = v.ownBlock ∧ Ot (fun k => k = b) w w' := by
  have HNS : Hid (∀ w1, Ot (fun k => k = b) w w1 → RdAt w1 b 65 n rest v (x1 :: x2 :: R) → Calls Tryz.prog 45 #[.pointer (some ⟨b, 0, none⟩), .int .i64 2] w1 fun e w' => ∃ u v', e = .returned (.tuple #[u, .nilIface]) ∧ RdAt w' b 65 n rest v' R ∧ v'.ownBlock = v.ownBlock ∧ Seg w' 3 1 u 2 [.int .i64 P, .int .i64 Rm] ∧ (∀ k, u.ownBlock = some k → w1.heap.size ≤ k) ∧ Ot (fun k => k = b) w1 w') := by
    intro w1 ho hr
    refine (numbers_yes (L := [x1, x2]) w1 hr (fun w' h' => hB w' (ho.trans h')) ?_ (by simp)).mono ?_
    · intro x hx
      simp at hx
      rcases hx with rfl | rfl
      · exact ⟨by rw [h1]; rfl, hl1⟩
      · exact ⟨by rw [h2]; rfl, hl2⟩
    · rintro e w' ⟨u, v', rfl, hr', hv', hs', hn', ho'⟩
      simp only [numsL, List.map, h1, h2, Option.getD, List.length_cons, List.length_nil] at hs'
      exact ⟨u, v', rfl, hr', hv', hs', hn', ho'⟩
  have H : Hid (RdAt w b 65 n rest v (x1 :: x2 :: R)) := h
  have hb := h.lt
  clear h hB h1 h2 hl1 hl2
  go_enter Tryz.func31, Tryz.ntmps31
  go_wp2_with (go_at_call 45; refine (HNS.out _ ?_ ?_).mono ?_; exact (Ot.refl _ _).alloc _; exact H.out.below (below_alloc_ (Below.refl _ _) _); rintro e w1 ⟨u, v', rfl, hr1, hv1, hs1, hn1, ho1⟩)
  obtain ⟨g, off, cap, rfl, hg1, hg2, hg3, hgc⟩ := hs1.some (by decide)
  have c0 : w1.cell? ⟨g, off, none⟩ = some (.int .i64 P) := hgc 0 _ rfl
  have c1 : w1.cell? ⟨g, off + 1, none⟩ = some (.int .i64 Rm) := hgc 1 _ rfl
  have hbx : w1.heap[w.heap.size]? = some (.cells #[.string ⟨f.1.toArray⟩, .int .i64 f.2] 60 (0, 0)) := (ho1.block w.heap.size (by simp) (by omega)).trans (new_block _ _)
  have b0 : w1.cell? ⟨w.heap.size, 0, none⟩ = some (.string ⟨f.1.toArray⟩) := by simp [World.cell?, hbx]
  have b1 : w1.cell? ⟨w.heap.size, 1, none⟩ = some (.int .i64 f.2) := by simp [World.cell?, hbx]
  have hbl := lt_of_block hbx
  have HR1 : Hid (RdAt w1 b 65 n rest v' R) := hr1
  have HV1 : Hid (v'.ownBlock = v.ownBlock) := hv1
  have HO1 : Hid (Ot (fun k => k = b) w w1) := ((Ot.refl _ _).alloc _).trans ho1
  have HBX : Hid (w1.heap[w.heap.size]? = some (.cells #[.string ⟨f.1.toArray⟩, .int .i64 f.2] 60 (0, 0))) := hbx
  have HNF : Hid (∀ w2, Calls Tryz.prog 27 #[.int .i64 P, .int .i64 Rm, .bool (f.1 == [104, 101, 97, 100])] w2 fun e w' => e = .returned (.tuple #[.pointer (some ⟨w2.heap.size, 0, none⟩), .nilIface]) ∧ LAt w' w2.heap.size 110 (frest P Rm (f.1 == headB) []) (.slice none 0 0) [] ∧ Below w2.heap.size w2 w') := fun w2 => (newFifo_yes P Rm (f.1 == headB) w2 hP.1 hP.2 hR.1 hR.2).mono fun e w' ⟨h1, h2, h3⟩ => ⟨h1, h2, by rw [h3]; exact below_alloc_ (Below.refl _ _) _⟩
  clear hs1 hgc hbx hr1 hv1 ho1 hn1 hP hR HNS
  go_cut [8, 7] (fun qv ev wx => ev = .nilIface ∧ qv = .pointer (some ⟨w1.heap.size, 0, none⟩) ∧ LAt wx w1.heap.size 110 (frest P Rm (f.1 == headB) []) (.slice none 0 0) [] ∧ Below w1.heap.size w1 wx)
  case first =>
    go_region_with (go_at_call 27; refine (HNF.out _).mono ?_; rintro e w2 ⟨rfl, hl2, hb2⟩)
    all_goals go_wp2_with fail
    all_goals go_meet
    all_goals exact ⟨rfl, rfl, hl2, ⟨hb2.os, hb2.tape, hb2.output, hb2.size, hb2.block⟩⟩
  case rest =>
  obtain ⟨rfl, rfl, hlc, hbc⟩ := hcut
  clear b0 b1 c0 c1
  generalize wc = w2 at *
  have hbx : w2.heap[w.heap.size]? = some (.cells #[.string ⟨f.1.toArray⟩, .int .i64 f.2] 60 (0, 0)) := (hbc.block _ hbl).trans HBX.out
  have b0 : w2.cell? ⟨w.heap.size, 0, none⟩ = some (.string ⟨f.1.toArray⟩) := by simp [World.cell?, hbx]
  have b1 : w2.cell? ⟨w.heap.size, 1, none⟩ = some (.int .i64 f.2) := by simp [World.cell?, hbx]
  have hbl2 := lt_of_block hbx
  have HLC : Hid (LAt w2 w1.heap.size 110 (frest P Rm (f.1 == headB) []) (.slice none 0 0) []) := hlc
  have HBC : Hid (Below w1.heap.size w1 w2) := hbc
  clear hbx hlc hbc
  go_wp2_with (go_at_call 46; refine (made_yes f _ _).mono ?_; rintro e w3 ⟨rfl, hb3⟩)
  go_ret2
  exact ⟨w1.heap.size, v', rfl, HO1.out.size, HLC.out.below hb3, (HR1.out.below HBC.out).below hb3, HV1.out, (HO1.out.trans (Ot.of_below HBC.out)).trans (Ot.of_below hb3)⟩
end Go.Proofs.YtfakjedolecdcaaGreatDoor
namespace Go.Proofs.YtfakjedolecdcaaGreatDoor
open Go.RowKit Go.Extern.Stop Go.Stop Go.Extern
variable {E : Prop}

theorem fifo_at0 (b : Nat) (P R : Int) (hd : Bool) {w : World} (h : LAt w b 110 (frest P R hd []) (.slice none 0 0) []) : (FifoM b P R hd).At w (· = b) ([] : List Hd) := ⟨_, h, fun k => by simp [Value.ownBlock]⟩
theorem fifo_inv00 (b : Nat) (P R : Int) (hd : Bool) : (FifoM b P R hd).inv 0 0 ([] : List Hd) := ⟨Nat.le_refl _, by simp⟩

/-- An error, or some queue that is fine, holds nothing, loses and makes no packet, and lies in new memory; k queues stand in it. -/
def Qk (E : Prop) (k : Nat) (w0 w' : World) (e : Ending) : Prop := (∃ B, e = .returned (.tuple #[.nilIface, errV B])) ∨ ∃ (M : QM) (cont : M.σ → List (Int × Int)) (s0 : M.σ) (F : Nat → Prop), e = .returned (.tuple #[.iface M.ty M.rv, .nilIface]) ∧ M.Fine ∧ M.Late E cont ∧ M.Tame k ∧ M.inv 0 0 s0 ∧ cont s0 = [] ∧ M.At w' F s0 ∧ (∀ k, F k → w0.heap.size ≤ k)
theorem Qk.ot {k : Nat} {w0 w1 w2 : World} {e : Ending} {S : Nat → Prop} (h : Qk E k w0 w1 e) (ho : Ot S w1 w2) (hS : ∀ k, w0.heap.size ≤ k → k < w1.heap.size → ¬ S k) : Qk E k w0 w2 e := by
  rcases h with h | ⟨M, cont, s0, F, he, hM, hK, hT, hi, hc, ha, hF⟩
  · exact Or.inl h
  · exact Or.inr ⟨M, cont, s0, F, he, hM, hK, hT, hi, hc, hM.kept ha (fun k hk => ho.block k (hM.low ha k hk) (hS k (hF k hk) (hM.low ha k hk))), hF⟩
theorem Qk.below {k : Nat} {w0 w1 w2 : World} {e : Ending} (h : Qk E k w0 w1 e) (hb : Below w1.heap.size w1 w2) : Qk E k w0 w2 e := h.ot (S := fun _ => False) (Ot.of_below hb) (fun _ _ _ h => h)
theorem Qk.mono {k : Nat} {w0 w0' w1 : World} {e : Ending} (h : Qk E k w0 w1 e) (hs : w0'.heap.size ≤ w0.heap.size) : Qk E k w0' w1 e := by
  rcases h with h | ⟨M, cont, s0, F, he, hM, hK, hT, hi, hc, ha, hF⟩
  · exact Or.inl h
  · exact Or.inr ⟨M, cont, s0, F, he, hM, hK, hT, hi, hc, ha, fun k hk => Nat.le_trans hs (hF k hk)⟩
/-- So too, and a reader that has read. -/
def QkR (E : Prop) (k : Nat) (w w' : World) (b n : Nat) (rest : List Value) (v : Value) (L : List (List UInt8 × Nat)) (e : Ending) : Prop := Qk E k w w' e ∧ ∃ L', RdL w w' b n rest v L L'
theorem made_no (x : List UInt8 × Nat) (qv : Value) (c : Int) (w : World) (hL : Laid w) :
    Calls Tryz.prog 46 #[.agg #[.string ⟨x.1.toArray⟩, .int .i64 x.2], qv, .iface 57 (.int .i64 c)] w fun e w' => ∃ B, e = .returned (.tuple #[.nilIface, errV B]) ∧ Below w.heap.size w w' := by
  have HT : Hid (∀ w1, Below w.heap.size w w1 → Calls Tryz.prog 63 #[.iface 57 (.int .i64 c)] w1 fun e w' => e = .returned (.int .i64 c) ∧ Below w1.heap.size w1 w') := fun w1 h => tell_errno c w1 (hL.below h)
  clear hL
  go_enter Tryz.func46, Tryz.ntmps46
  go_wp2_with fail
  have HB0 : Hid (Below w.heap.size w (w.alloc (.cells #[.string ⟨x.1.toArray⟩, .int .i64 x.2] 60))) := below_alloc_ (Below.refl _ _) _
  have HX0 : Hid ((w.alloc (.cells #[.string ⟨x.1.toArray⟩, .int .i64 x.2] 60)).heap[w.heap.size]? = some (.cells #[.string ⟨x.1.toArray⟩, .int .i64 x.2] 60 (0, 0))) := new_block _ _
  generalize w.alloc (.cells #[.string ⟨x.1.toArray⟩, .int .i64 x.2] 60) = W0 at *
  have HC0 : Hid (∀ W, Below W0.heap.size W0 W → W.cell? ⟨w.heap.size, 0, none⟩ = some (.string ⟨x.1.toArray⟩) ∧ W.cell? ⟨w.heap.size, 1, none⟩ = some (.int .i64 x.2)) := fun W h => by
    have h2 := (h.block _ (lt_of_block HX0.out)).trans HX0.out
    exact ⟨by simp [World.cell?, h2], by simp [World.cell?, h2]⟩
  have HT0 : Hid (∀ w1, Below W0.heap.size W0 w1 → Calls Tryz.prog 63 #[.iface 57 (.int .i64 c)] w1 fun e w' => e = .returned (.int .i64 c) ∧ Hid (Below W0.heap.size W0 w')) := fun w1 h => (HT.out w1 (HB0.out.trans (h.mono HB0.out.size))).mono fun e w' ⟨h1, h2⟩ => ⟨h1, h.trans (h2.mono h.size)⟩
  have HU0 : Hid (∀ w1, Below W0.heap.size W0 w1 → Calls Tryz.prog 22 #[.agg #[.string ⟨x.1.toArray⟩, .int .i64 x.2], .int .i64 c] w1 fun e w' => ∃ B, e = .returned (errV B) ∧ Hid (Below W0.heap.size W0 w')) := fun w1 h => (wrongS_any _ _ _ w1).mono fun e w' ⟨B, h1, h2⟩ => ⟨B, h1, h.trans (h2.mono h.size)⟩
  go_region_held3 (fun W => W.cell? ⟨w.heap.size, 0, none⟩ = some (.string ⟨x.1.toArray⟩) ∧ W.cell? ⟨w.heap.size, 1, none⟩ = some (.int .i64 x.2))
    (first
      | (with_reducible exact HC0.out _ HW2.out)
      | (with_reducible exact HC0.out _ HW1.out)
      | (with_reducible exact HC0.out _ (Below.refl _ _).drew)
      | (with_reducible exact HC0.out _ (Below.refl _ _)))
    (first
      | (go_at_call 63; refine (HT0.out _ (Below.refl _ _).drew).mono ?_; rintro e w1 ⟨rfl, HW1⟩)
      | (go_at_call 22; refine (HU0.out _ HW1.out).mono ?_; rintro e w2 ⟨B, rfl, HW2⟩))
  all_goals
    go_wp2
    (try simp only [Exit.inBlock, Exit.then])
    go_ret2
    exact ⟨B, rfl, HB0.out.trans (HW2.out.mono HB0.out.size)⟩
end Go.Proofs.YtfakjedolecdcaaGreatDoor
namespace Go.Proofs.YtfakjedolecdcaaGreatDoor
open Go.RowKit Go.Extern.Stop Go.Stop Go.Extern

section
variable {w w' : World} {b : Nat} {T : TypeId} {n : Nat} {tv : Value} {k : Int} {v : Value} {L : List (List UInt8 × Nat)}
theorem RdAt.begun (h : RdAt w b T n [tv, .int .i64 k] v L) : w.cell? ⟨b, 4, none⟩ = some (.int .i64 k) ∧ w.frozen? ⟨b, 4, none⟩ = false := by
  have hb := h.blk
  constructor <;> simp [World.cell?, World.frozen?, hb]
theorem RdAt.begin_ (h : RdAt w b T n [tv, .int .i64 k] v L) (j : Int) : RdAt (w.setCell ⟨b, 4, none⟩ (.int .i64 j)) b T n [tv, .int .i64 j] v L :=
  ⟨by rw [heap_setCell_here h.blk _]; simp, h.row.setCell (p := ⟨b, 4, none⟩) h.ne _, h.ne⟩
end
/-- What a Fifo by its text is. -/
def FifoT (w w' : World) (b n : Nat) (rest : List Value) (v : Value) (P Rm : Int) (hd : Bool) (R : List (List UInt8 × Nat)) (e : Ending) : Prop :=
  ∃ q v', e = .returned (.tuple #[.iface 86 (.pointer (some ⟨q, 0, none⟩)), .nilIface]) ∧ w.heap.size ≤ q ∧ LAt w' q 110 (frest P Rm hd []) (.slice none 0 0) [] ∧ RdAt w' b 65 n rest v' R ∧ v'.ownBlock = v.ownBlock ∧ Ot (fun k => k = b) w w'
set_option maxHeartbeats 4000000 in
theorem queue_fifo {b : Nat} {n : Nat} {tv : Value} {k ar : Int} {v : Value} {f x1 x2 : List UInt8 × Nat} {R : List (List UInt8 × Nat)} (P Rm : Int) (w : World) (h : RdAt w b 65 n [tv, .int .i64 k] v (f :: x1 :: x2 :: R)) (hB : ∀ w', Ot (fun k => k = b) w w' → Glob w') (hf : (f.1 == fifoB) = true ∨ (f.1 == fifoB) = false ∧ (f.1 == headB) = true) (h1 : numL x1.1 = some P) (h2 : numL x2.1 = some Rm) (hl1 : x1.1.length ≤ 2000) (hl2 : x2.1.length ≤ 2000) (hP : 0 ≤ P ∧ P ≤ 1000000) (hR : 0 ≤ Rm ∧ Rm ≤ 1000000) (hk : 0 ≤ k ∧ k ≤ 19) (ha : 0 ≤ ar ∧ ar ≤ 7) :
    Calls Tryz.prog 19 #[.pointer (some ⟨b, 0, none⟩), .int .i64 ar] w fun e w' => FifoT w w' b n [tv, .int .i64 (k + 1)] v P Rm (f.1 == headB) R e := by
  have HNX : Hid (Calls Tryz.prog 20 #[.pointer (some ⟨b, 0, none⟩)] w fun e w' => e = .returned (.agg #[.string ⟨f.1.toArray⟩, .int .i64 f.2]) ∧ ∃ v2, RdAt w' b 65 n [tv, .int .i64 k] v2 (x1 :: x2 :: R) ∧ v2.ownBlock = v.ownBlock ∧ Ot (fun k => k = b) w w') := by
    refine (sgnext_any w h).mono ?_
    rintro e w' ⟨rfl, v2, h1, h2, h3⟩
    exact ⟨rfl, v2, h1, h2, h3⟩
  have HFF : Hid (∀ w1 v2, Ot (fun k => k = b) w w1 → RdAt w1 b 65 n [tv, .int .i64 (k + 1)] v2 (x1 :: x2 :: R) → v2.ownBlock = v.ownBlock → Calls Tryz.prog 31 #[.pointer (some ⟨b, 0, none⟩), .agg #[.string ⟨f.1.toArray⟩, .int .i64 f.2]] w1 fun e w' => FifoT w w' b n [tv, .int .i64 (k + 1)] v P Rm (f.1 == headB) R e) := by
    intro w1 v2 ho hr hv
    refine (fifo_yes f P Rm w1 hr (fun w' h' => hB w' (ho.trans h')) h1 h2 hl1 hl2 hP hR).mono ?_
    rintro e w' ⟨q, v', rfl, hq, hl', hr', hv', ho'⟩
    exact ⟨q, v', rfl, Nat.le_trans ho.size hq, hl', hr', hv'.trans hv, ho.trans ho'⟩
  have hb := h.lt
  have a1 : decide ((7 : Int) < ar) = false := by simp; omega
  have a2 : decide ((20 : Int) < k + 1) = false := by simp; omega
  have a3 : IntKind.i64.wrap (k + 1) = k + 1 := by rw [IntKind.wrap_i64]; omega
  clear h hB h1 h2 hl1 hl2 hP hR
  unfold fifoB headB at hf
  rcases hf with o1 | ⟨o1, o2⟩
  all_goals
    go_enter Tryz.func19, Tryz.ntmps19
    go_wp2_with (go_at_call 20; refine HNX.out.mono ?_; rintro e w1 ⟨rfl, v2, hr1, hv1, ho1⟩; have HR1 : Hid (RdAt w1 b 65 n [tv, .int .i64 k] v2 (x1 :: x2 :: R)) := hr1; have HV1 : Hid (v2.ownBlock = v.ownBlock) := hv1; have HO1 : Hid (Ot (fun k => k = b) w w1) := ho1; obtain ⟨r4, f4⟩ := hr1.begun; have hl1 := hr1.lt; clear hr1 hv1 ho1)
  all_goals
    refine (HFF.out _ v2 ((HO1.out.setCell (p := ⟨b, 4, none⟩) (Or.inl rfl) _).alloc _) ((HR1.out.begin_ (k + 1)).below (below_alloc_ (Below.refl _ _) _)) HV1.out).mono ?_
    rintro e w2 ⟨q, v', rfl, hr⟩
    go_wp2
    go_ret2
    exact ⟨q, v', rfl, hr⟩
end Go.Proofs.YtfakjedolecdcaaGreatDoor
