/-
  package filter: what stands in parentheses is read, where what is within is read. Conditions: signs have 2000 bytes at most, there are 2000 at most; what the program lays is laid.
-/
import Derived.Test.YtibecinojkkjpaaGreatDoorFl6
namespace Go.Proofs.YtibecinojkkjpaaGreatDoor
open Go.RowKit Go.Extern.Stop Go.Stop Go.Extern

/-- Filters are read, so many of which may stand one in the other. -/
def FilterC (d : Nat) : Prop := ∀ {b n : Nat} {v : Value} {L : List (List UInt8 × Nat)} (ar : Int) (w : World), RdAt w b 54 n [] v L → (∀ w', Ot (fun k => k = b) w w' → GlobF w') → shortL L → L.length ≤ 2000 → 0 ≤ ar → ar + d = 20 →
  Calls Tryz.prog 16 #[.pointer (some ⟨b, 0, none⟩), .int .i64 ar] w fun e w' => RdP w w' b n v L d (readF n d L) e
theorem grp_err {n : Nat} {rd : List (List UInt8 × Nat) → Rd} {k : Nat} {word : List UInt8} {parts : List Ft} {L : List (List UInt8 × Nat)} {e : Int × Nat} (h : rd L = .error e) : grpF n rd (k + 1) word parts L = .error e := by rw [grpF, h]
theorem grp_some {n : Nat} {rd : List (List UInt8 × Nat) → Rd} {k : Nat} {word : List UInt8} {parts : List Ft} {L R : List (List UInt8 × Nat)} {t : Ft} (h : rd L = .ok (t, R)) : grpF n rd (k + 1) word parts L = if hdW R == [41] then .ok (⟨if word == [111, 114] then 5 else 4, 0, 0, 0, parts ++ [t]⟩, R.tail)
      else if (hdW R == (wdF word (hdW R))) && ((wdF word (hdW R)) == [97, 110, 100] || (wdF word (hdW R)) == [111, 114]) then grpF n rd k (wdF word (hdW R)) (parts ++ [t]) R.tail
      else .error (3, hdP n R) := by rw [grpF, h]
set_option maxRecDepth 100000 in
set_option maxHeartbeats 8000000 in
theorem group_any {d b n : Nat} {v : Value} {L : List (List UInt8 × Nat)} (hC : FilterC d) (ar : Int) (w : World) (h : RdAt w b 54 n [] v L) (hB : ∀ w', Ot (fun k => k = b) w w' → GlobF w') (hs : shortL L) (hL : L.length ≤ 2000) (ha : 0 ≤ ar) (hd : ar + d = 20) :
    Calls Tryz.prog 30 #[.pointer (some ⟨b, 0, none⟩), .int .i64 ar] w fun e w' => RdP w w' b n v L (d + 1) (grpF n (readF n d) (L.length + 1) [] [] L) e := by
  have hb := h.lt
  have HVL : Hid (∀ j, v.ownBlock = some j → j < w.heap.size) := fun j hj => by have h := h.row.lt hj; exact h
  have HFC : Hid (∀ (w1 : World) (v1 : Value) (L1 : List (List UInt8 × Nat)), RdAt w1 b 54 n [] v1 L1 → Ot (fun k => k = b) w w1 → (∀ y ∈ L1, y ∈ L) → L1.length ≤ L.length → Calls Tryz.prog 16 #[.pointer (some ⟨b, 0, none⟩), .int .i64 ar] w1 fun e w' => RdP w1 w' b n v1 L1 d (readF n d L1) e) := fun w1 v1 L1 h1 h2 h3 h4 => hC ar w1 h1 (fun w' h' => hB w' (h2.trans h')) (fun y hy => hs y (h3 y hy)) (by omega) ha hd
  have HRL : Hid (∀ L1 t R, readF n d L1 = .ok (t, R) → 1 + R.length ≤ L1.length) := fun L1 t R h1 => by have := readF_len n d L1 t R h1; have := nd_pos d t; omega
  have HR0 : Hid (RdAt w b 54 n [] v L) := h
  obtain ⟨i0, hi, hz0, hz1, hz2⟩ := info_parts infoFilter
  clear h hB hs hC ha hd
  go_enter Tryz.func30, Tryz.ntmps30
  go_wp2_with fail
  go_loopw [6, 7] (fun pv wv wr => ∃ (parts : List Ft) (vs : List Value) (word : List UInt8) (k : Nat) (Lr : List (List UInt8 × Nat)) (v' : Value), wv = .string ⟨word.toArray⟩ ∧ GrR w b d pv parts vs wr ∧ RdAt wr b 54 n [] v' Lr ∧ v'.ownBlock = v.ownBlock ∧ (∀ y ∈ Lr, y ∈ L) ∧ Lr.length < k ∧ parts.length + Lr.length ≤ L.length ∧ grpF n (readF n d) k word parts Lr = grpF n (readF n d) (L.length + 1) [] [] L) (fun pv _ _ => L.length + 1 - lenV pv)
  case atStart => exact ⟨[], [], [], L.length + 1, L, v, rfl, GrR.start w b d (Ot.refl _ _), HR0.out, rfl, fun y hy => hy, by omega, by simp, rfl⟩
  case round =>
    obtain ⟨parts, vs, word, k, Lr, v', rfl, hgr, hrd, hvo, hsub, hk, hpl, hgf⟩ := hrel
    obtain ⟨k, rfl⟩ : ∃ k', k = k' + 1 := ⟨k - 1, by omega⟩
    have HGR : Hid (GrR w b d u6 parts vs wr) := hgr
    have HLV : Hid (lenV u6 = parts.length) := hgr.lenV_eq
    have HF := HFC.out wr v' Lr hrd hgr.ot hsub (by omega)
    have HSUB : Hid (∀ y ∈ Lr, y ∈ L) := hsub
    have HGF : Hid (grpF n (readF n d) (k + 1) word parts Lr = grpF n (readF n d) (L.length + 1) [] [] L) := hgf
    have HVO : Hid (v'.ownBlock = v.ownBlock) := hvo
    clear hgr hrd hsub hgf hvo
    go_wp2_with fail
    refine HF.mono ?_
    rintro e w2 ⟨v2, L2, hr2, hv2, ho2, hsub2, ⟨t, fv, hres, rfl, hfa⟩ | ⟨ec, ep, B, hres, rfl, hBk, hBn⟩⟩
    · have hrl := HRL.out Lr t L2 hres
      obtain ⟨ft, fp, rfl⟩ := hfa.form
      have HS2 : Hid (Seg w2 29 1 u6 parts.length vs) := (HGR.out.ots hb ho2).seg
      have HFA : Hid (FAt w2 (fun k => wr.heap.size ≤ k) d t (.iface ft fp)) := hfa
      have HR2 : Hid (RdAt w2 b 54 n [] v2 L2) := hr2
      have HV2 : Hid (v2.ownBlock = v.ownBlock) := hv2.trans HVO.out
      have HO2 : Hid (Ot (fun k => k = b) wr w2) := ho2
      have HSB2 : Hid (∀ y ∈ L2, y ∈ L) := fun y hy => HSUB.out y (hsub2 y hy)
      have HGS : Hid (grpF n (readF n d) (L.length + 1) [] [] L = if hdW L2 == [41] then .ok (⟨if word == [111, 114] then 5 else 4, 0, 0, 0, parts ++ [t]⟩, L2.tail)
        else if (hdW L2 == (wdF word (hdW L2))) && ((wdF word (hdW L2)) == [97, 110, 100] || (wdF word (hdW L2)) == [111, 114]) then grpF n (readF n d) k (wdF word (hdW L2)) (parts ++ [t]) L2.tail
        else .error (3, hdP n L2)) := by show _ = _; rw [← HGF.out]; exact grp_some hres
      have hws2 := ho2.size
      have hwsr := HGR.out.ot.size
      have hown := HGR.out.own
      clear hres hfa hr2 hv2 ho2 hsub2
      go_wp2_with (at_builtin; refine wpList_append_seg _ rfl (.tmp 20) (.tmp 22) 96 rfl 29 i0 _ 1 16 Tryz.underlying96 hi hz0 hz1 hz2 rfl (by decide) _ _ _ rfl (HS2.out.below (by repeat' (first | with_reducible exact Below.refl _ _ | with_reducible refine Below.drew ?_ | with_reducible refine below_alloc_ ?_ _))) _ 1 1 _ rfl rfl (news_of (new_block_ (by simp))) (by simp [Value.oneCell']) (by decide) (by unfold maxLen; omega) (by omega) _ rfl ?_; intro g goff gcap w3 hs3 hg3 ha3 hl3)
      have HG3 : Hid (GrR w b d (.slice (some ⟨g, goff, none⟩) (parts.length + 1) gcap) (parts ++ [t]) (vs ++ [.iface ft fp]) w3) := HGR.out.step (HGR.out.ots hb HO2.out) HO2.out.size HFA.out hs3 hg3 ha3
      have HR3 : Hid (RdAt w3 b 54 n [] v2 L2) := (HR2.out.below (below_alloc_ (Below.refl _ _) _)).kept (hg3.block b (by simp; omega) (fun e => by have := hown b e.symm; omega)) (fun j hj => hg3.block j (by have := HVL.out j (by rw [← HV2.out]; exact hj); simp; omega) (fun e => by have := hown j e.symm; have := HVL.out j (by rw [← HV2.out]; exact hj); omega))
      clear hs3 hg3 ha3 hl3 hown
      go_wp2_with fail
      refine (fnext_any _ HR3.out).mono ?_
      rintro e w4 ⟨p, v4, rfl, hr4, hv4, ho4, hp4⟩
      have HP4 : Hid (p = ((hdP n L2 : Nat) : Int)) := hp4
      clear hp4
      have HG4 : Hid (GrR w b d (.slice (some ⟨g, goff, none⟩) (parts.length + 1) gcap) (parts ++ [t]) (vs ++ [.iface ft fp]) w4) := HG3.out.ots hb ho4
      have HR4 : Hid (RdAt w4 b 54 n [] v4 L2.tail) := hr4
      have HV4 : Hid (v4.ownBlock = v.ownBlock) := hv4.trans HV2.out
      have HSB4 : Hid (∀ y ∈ L2.tail, y ∈ L) := fun y hy => HSB2.out y (tail_mem y hy)
      have htl := tail_le L2
      generalize hdP n L2 = pp at *
      generalize L2.tail = L4 at *
      generalize hdW L2 = x at *
      clear hr4 hv4 ho4
      cases hx : (x == [41])
      case true =>
        have HRS : Hid (grpF n (readF n d) (L.length + 1) [] [] L = .ok (⟨if word == [111, 114] then 5 else 4, 0, 0, 0, parts ++ [t]⟩, L4)) := by show _ = _; rw [HGS.out, hx]; rfl
        clear HGS
        go_wp2_with fail
        refine (gathered_any _ _ _ _ _).mono ?_
        rintro e w5 ⟨B, rfl, hB5, hn5, hb5⟩
        have hbA := below_alloc_ (Below.refl w4.heap.size w4) (.cells #[.string ⟨x.toArray⟩, .int .i64 p] 49)
        have hFF := (HG4.out.ots hb ((Ot.refl _ _).alloc (.cells #[.string ⟨x.toArray⟩, .int .i64 p] 49))).made (K := if word == [111, 114] then 5 else 4) (by split <;> simp) hb5 hB5 hn5
        have HFF : Hid (FAt w5 (fun k => w.heap.size ≤ k) (d + 1) ⟨if word == [111, 114] then 5 else 4, 0, 0, 0, parts ++ [t]⟩ (.iface (if (if word == [111, 114] then 5 else 4) = 4 then 94 else 95) (.pointer (some ⟨B, 0, none⟩)))) := hFF
        have HR5 : Hid (RdAt w5 b 54 n [] v4 L4) := (HR4.out.below hbA).below hb5
        have HO5 : Hid (Ot (fun k => k = b) w w5) := (HG4.out.ot.alloc _).trans (Ot.of_below hb5)
        clear hFF hb5 hB5 hbA
        generalize (if (if word == [111, 114] then 5 else 4) = 4 then 94 else 95) = ty at *
        go_wp2
        go_ret2
        exact ⟨v4, L4, HR5.out, HV4.out, HO5.out, HSB4.out, Or.inl ⟨_, _, HRS.out, rfl, HFF.out⟩⟩
      case false =>
        cases hw : (word == [])
        case false =>
          have hwn : ¬ word = [] := by simpa using hw
          cases hxw : (x == word)
          case false =>
            have hxn : ¬ x = word := by simpa using hxw
            have o1 : (x != word) = true := by simpa using hxn
            have HRS : Hid (grpF n (readF n d) (L.length + 1) [] [] L = .error (3, pp)) := by show _ = _; rw [HGS.out, hx]; simp [wdF, hwn, hxn]
            clear HGS
            go_wp2_with fail
            refine (wrong_any _ _ _ _).mono ?_
            rintro e w5 ⟨B, rfl, hBk, hBn, hb5⟩
            have HR5 : Hid (RdAt w5 b 54 n [] v4 L4) := (HR4.out.below (below_alloc_ (Below.refl _ _) _)).below hb5
            have HO5 : Hid (Ot (fun k => k = b) w w5) := (HG4.out.ot.alloc _).trans (Ot.of_below hb5)
            clear hb5
            go_wp2
            go_ret2
            exact ⟨v4, L4, HR5.out, HV4.out, HO5.out, HSB4.out, Or.inr ⟨3, _, B, HRS.out, rfl, by rw [hBk, HP4.out], by have := HG4.out.ot.size; simp at hBn; omega⟩⟩
          case true =>
            obtain rfl : x = word := by simpa using hxw
            have o1 : (x != x) = false := by simp
            cases ha1 : (x == [97, 110, 100])
            case true =>
              have o2 : (x != [97, 110, 100]) = false := by rw [bne, ha1]; rfl
              have ha1' : x = [97, 110, 100] := by simpa using ha1
              have HRS : Hid (grpF n (readF n d) (L.length + 1) [] [] L = grpF n (readF n d) k x (parts ++ [t]) L4) := by show _ = _; rw [HGS.out, hx]; simp [wdF, ha1']
              clear HGS
              clear ha1'
              go_wp2
              go_roundw
              case rel =>
                refine ⟨parts ++ [t], vs ++ [.iface ft fp], x, k, L4, v4, rfl, HG4.out.ots hb ((Ot.refl _ _).alloc _), HR4.out.below (below_alloc_ (Below.refl _ _) _), HV4.out, HSB4.out, by omega, by rw [List.length_append]; simp; omega, HRS.out.symm⟩
              case measure =>
                show L.length + 1 - (parts.length + 1) < L.length + 1 - lenV u6
                rw [HLV.out]; omega
            case false =>
              have o2 : (x != [97, 110, 100]) = true := by rw [bne, ha1]; rfl
              have ha1' : ¬ x = [97, 110, 100] := by simpa using ha1
              cases ha2 : (x == [111, 114])
              case true =>
                have o3 : (x != [111, 114]) = false := by rw [bne, ha2]; rfl
                have ha2' : x = [111, 114] := by simpa using ha2
                have HRS : Hid (grpF n (readF n d) (L.length + 1) [] [] L = grpF n (readF n d) k x (parts ++ [t]) L4) := by show _ = _; rw [HGS.out, hx]; simp [wdF, ha2']
                clear HGS
                clear ha2'
                go_wp2
                go_roundw
                case rel =>
                  refine ⟨parts ++ [t], vs ++ [.iface ft fp], x, k, L4, v4, rfl, HG4.out.ots hb ((Ot.refl _ _).alloc _), HR4.out.below (below_alloc_ (Below.refl _ _) _), HV4.out, HSB4.out, by omega, by rw [List.length_append]; simp; omega, HRS.out.symm⟩
                case measure =>
                  show L.length + 1 - (parts.length + 1) < L.length + 1 - lenV u6
                  rw [HLV.out]; omega
              case false =>
                have o3 : (x != [111, 114]) = true := by rw [bne, ha2]; rfl
                have ha2' : ¬ x = [111, 114] := by simpa using ha2
                have HRS : Hid (grpF n (readF n d) (L.length + 1) [] [] L = .error (3, pp)) := by show _ = _; rw [HGS.out, hx]; simp [wdF, hwn, ha1', ha2']
                clear HGS
                go_wp2_with fail
                refine (wrong_any _ _ _ _).mono ?_
                rintro e w5 ⟨B, rfl, hBk, hBn, hb5⟩
                have HR5 : Hid (RdAt w5 b 54 n [] v4 L4) := (HR4.out.below (below_alloc_ (Below.refl _ _) _)).below hb5
                have HO5 : Hid (Ot (fun k => k = b) w w5) := (HG4.out.ot.alloc _).trans (Ot.of_below hb5)
                clear hb5
                go_wp2
                go_ret2
                exact ⟨v4, L4, HR5.out, HV4.out, HO5.out, HSB4.out, Or.inr ⟨3, _, B, HRS.out, rfl, by rw [hBk, HP4.out], by have := HG4.out.ot.size; simp at hBn; omega⟩⟩
        case true =>
          obtain rfl : word = [] := by simpa using hw
          have o1 : (x != x) = false := by simp
          cases ha1 : (x == [97, 110, 100])
          case true =>
            have o2 : (x != [97, 110, 100]) = false := by rw [bne, ha1]; rfl
            have ha1' : x = [97, 110, 100] := by simpa using ha1
            have HRS : Hid (grpF n (readF n d) (L.length + 1) [] [] L = grpF n (readF n d) k x (parts ++ [t]) L4) := by show _ = _; rw [HGS.out, hx]; simp [wdF, ha1']
            clear HGS
            clear ha1'
            go_wp2
            go_roundw
            case rel =>
              refine ⟨parts ++ [t], vs ++ [.iface ft fp], x, k, L4, v4, rfl, HG4.out.ots hb ((Ot.refl _ _).alloc _), HR4.out.below (below_alloc_ (Below.refl _ _) _), HV4.out, HSB4.out, by omega, by rw [List.length_append]; simp; omega, HRS.out.symm⟩
            case measure =>
              show L.length + 1 - (parts.length + 1) < L.length + 1 - lenV u6
              rw [HLV.out]; omega
          case false =>
            have o2 : (x != [97, 110, 100]) = true := by rw [bne, ha1]; rfl
            have ha1' : ¬ x = [97, 110, 100] := by simpa using ha1
            cases ha2 : (x == [111, 114])
            case true =>
              have o3 : (x != [111, 114]) = false := by rw [bne, ha2]; rfl
              have ha2' : x = [111, 114] := by simpa using ha2
              have HRS : Hid (grpF n (readF n d) (L.length + 1) [] [] L = grpF n (readF n d) k x (parts ++ [t]) L4) := by show _ = _; rw [HGS.out, hx]; simp [wdF, ha2']
              clear HGS
              clear ha2'
              go_wp2
              go_roundw
              case rel =>
                refine ⟨parts ++ [t], vs ++ [.iface ft fp], x, k, L4, v4, rfl, HG4.out.ots hb ((Ot.refl _ _).alloc _), HR4.out.below (below_alloc_ (Below.refl _ _) _), HV4.out, HSB4.out, by omega, by rw [List.length_append]; simp; omega, HRS.out.symm⟩
              case measure =>
                show L.length + 1 - (parts.length + 1) < L.length + 1 - lenV u6
                rw [HLV.out]; omega
            case false =>
              have o3 : (x != [111, 114]) = true := by rw [bne, ha2]; rfl
              have ha2' : ¬ x = [111, 114] := by simpa using ha2
              have HRS : Hid (grpF n (readF n d) (L.length + 1) [] [] L = .error (3, pp)) := by show _ = _; rw [HGS.out, hx]; simp [wdF, ha1', ha2']
              clear HGS
              go_wp2_with fail
              refine (wrong_any _ _ _ _).mono ?_
              rintro e w5 ⟨B, rfl, hBk, hBn, hb5⟩
              have HR5 : Hid (RdAt w5 b 54 n [] v4 L4) := (HR4.out.below (below_alloc_ (Below.refl _ _) _)).below hb5
              have HO5 : Hid (Ot (fun k => k = b) w w5) := (HG4.out.ot.alloc _).trans (Ot.of_below hb5)
              clear hb5
              go_wp2
              go_ret2
              exact ⟨v4, L4, HR5.out, HV4.out, HO5.out, HSB4.out, Or.inr ⟨3, _, B, HRS.out, rfl, by rw [hBk, HP4.out], by have := HG4.out.ot.size; simp at hBn; omega⟩⟩
    · have HN : Hid (grpF n (readF n d) (L.length + 1) [] [] L = .error (ec, ep)) := by show _ = _; rw [← HGF.out]; exact grp_err hres
      have HG2 : Hid (GrR w b d u6 parts vs w2) := HGR.out.ots hb ho2
      clear hres
      go_wp2
      go_ret2
      exact ⟨v2, L2, hr2, hv2.trans HVO.out, HG2.out.ot, fun y hy => HSUB.out y (hsub2 y hy), Or.inr ⟨ec, ep, B, HN.out, rfl, hBk, Nat.le_trans HGR.out.ot.size hBn⟩⟩
end Go.Proofs.YtibecinojkkjpaaGreatDoor
