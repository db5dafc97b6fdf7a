/-
  package filter: a filter is read; Parse. Conditions: what the program lays is laid.
-/
import Derived.Test.YtibecinojkkjpaaGreatDoorFl7
namespace Go.Proofs.YtibecinojkkjpaaGreatDoor
open Go.RowKit Go.Extern.Stop Go.Stop Go.Extern

def notR : Rd → Rd
  | .ok p => .ok (notT p.1, p.2)
  | .error e => .error e
theorem fnot_any {d b n : Nat} {v : Value} {L : List (List UInt8 × Nat)} (hC : FilterC d) (ar : Int) (w : World) (h : RdAt w b 54 n [] v L) (hB : ∀ w', Ot (fun k => k = b) w w' → GlobF w') (hs : shortL L) (hL : L.length ≤ 2000) (ha : 0 ≤ ar) (hd : ar + d = 20) :
    Calls Tryz.prog 29 #[.pointer (some ⟨b, 0, none⟩), .int .i64 ar] w fun e w' => RdP w w' b n v L (d + 1) (notR (readF n d L)) e := by
  have HF := hC ar w h hB hs hL ha hd
  clear h hB hs hL ha hd hC
  go_enter Tryz.func29, Tryz.ntmps29
  go_wp2_with fail
  refine HF.mono ?_
  rintro e w2 ⟨v2, L2, hr2, hv2, ho2, hsub2, ⟨t, fv, hres, rfl, hfa⟩ | ⟨ec, ep, B, hres, rfl, hBk, hBn⟩⟩
  · obtain ⟨ft, fp, rfl⟩ := hfa.form
    go_wp2
    go_ret2
    exact ⟨v2, L2, hr2, hv2, ho2, hsub2, Or.inl ⟨notT t, _, by rw [hres]; rfl, rfl, Or.inr (Or.inr (Or.inr (Or.inl ⟨t, _, rfl, rfl, hfa⟩)))⟩⟩
  · go_wp2
    go_ret2
    exact ⟨v2, L2, hr2, hv2, ho2, hsub2, Or.inr ⟨ec, ep, B, by rw [hres]; rfl, rfl, hBk, hBn⟩⟩
theorem read_any_ {n d : Nat} {L : List (List UInt8 × Nat)} (h : (hdW L == [97, 110, 121]) = true) : readF n (d + 1) L = .ok (anyT, L.tail) := by rw [readF, if_pos h]
theorem read_not_ {n d : Nat} {L : List (List UInt8 × Nat)} (h0 : (hdW L == [97, 110, 121]) = false) (h : (hdW L == [110, 111, 116]) = true) : readF n (d + 1) L = notR (readF n d L.tail) := by
  rw [readF, if_neg (by rw [h0]; decide), if_pos h]; cases readF n d L.tail <;> rfl
theorem read_grp_ {n d : Nat} {L : List (List UInt8 × Nat)} (h0 : (hdW L == [97, 110, 121]) = false) (h1 : (hdW L == [110, 111, 116]) = false) (h : (hdW L == [40]) = true) : readF n (d + 1) L = grpF n (readF n d) (L.tail.length + 1) [] [] L.tail := by
  rw [readF, if_neg (by rw [h0]; decide), if_neg (by rw [h1]; decide), if_pos h]
theorem read_fld_ {n d : Nat} {L : List (List UInt8 × Nat)} (h0 : (hdW L == [97, 110, 121]) = false) (h1 : (hdW L == [110, 111, 116]) = false) (h2 : (hdW L == [40]) = false) : readF n (d + 1) L = (match fieldL (hdW L) with | some f => tstF n f L.tail | none => .error (3, hdP n L)) := by
  rw [readF, if_neg (by rw [h0]; decide), if_neg (by rw [h1]; decide), if_neg (by rw [h2]; decide)]; cases fieldL (hdW L) <;> rfl
theorem fieldL_lt {l : List UInt8} {f : Nat} (h : fieldL l = some f) : f < 5 := by
  unfold fieldL at h
  repeat' split at h
  all_goals first | (obtain rfl := Option.some.inj h; decide) | cases h
set_option maxHeartbeats 4000000 in
theorem filterC : ∀ d : Nat, FilterC d := by
  intro d
  induction d with
  | zero =>
    intro b n v L ar w h hB hs hL ha hd
    have hb := h.lt
    obtain rfl : ar = 20 := by omega
    have HNX := fnext_any w h
    clear h hB hs hL ha hd
    go_enter Tryz.func16, Tryz.ntmps16
    go_wp2_with fail
    refine HNX.mono ?_
    rintro e w1 ⟨p, v1, rfl, hr1, hv1, ho1, hp1⟩
    have HP1 : Hid (p = ((hdP n L : Nat) : Int)) := hp1
    clear hp1
    have HR1 : Hid (RdAt w1 b 54 n [] v1 L.tail) := hr1
    have HO1 : Hid (Ot (fun k => k = b) w w1) := ho1
    clear hr1 ho1 HNX
    go_wp2_with fail
    refine (wrong_any _ _ _ _).mono ?_
    rintro e w3 ⟨B, rfl, hBk, hBn, hb3⟩
    go_wp2
    go_ret2
    exact ⟨v1, L.tail, (HR1.out.below (below_alloc_ (Below.refl _ _) _)).below hb3, hv1, (HO1.out.alloc _).trans (Ot.of_below hb3), tail_mem, Or.inr ⟨4, _, B, rfl, rfl, by rw [hBk, HP1.out], by have := HO1.out.size; simp at hBn; omega⟩⟩
  | succ d ih =>
    intro b n v L ar w h hB hs hL ha hd
    have hb := h.lt
    have d0 : decide (19 < ar) = false := by simp; omega
    have har : ar ≤ 19 := by omega
    have HNX : Hid (Calls Tryz.prog 17 #[.pointer (some ⟨b, 0, none⟩)] w fun e w' => ∃ (p : Int) (v' : Value), e = .returned (.agg #[.string ⟨(hdW L).toArray⟩, .int .i64 p]) ∧ RdAt w' b 54 n [] v' L.tail ∧ v'.ownBlock = v.ownBlock ∧ Ot (fun k => k = b) w w' ∧ p = (hdP n L : Nat)) := fnext_any w h
    have htl := tail_le L
    have HNT : Hid (∀ w1 v1, RdAt w1 b 54 n [] v1 L.tail → Ot (fun k => k = b) w w1 → Calls Tryz.prog 29 #[.pointer (some ⟨b, 0, none⟩), .int .i64 (ar + 1)] w1 fun e w' => RdP w1 w' b n v1 L.tail (d + 1) (notR (readF n d L.tail)) e) := fun w1 v1 h1 h2 => fnot_any ih (ar + 1) w1 h1 (fun w' h' => hB w' (h2.trans h')) hs.tl (by omega) (by omega) (by omega)
    have HGT : Hid (∀ w1 v1, RdAt w1 b 54 n [] v1 L.tail → Ot (fun k => k = b) w w1 → Calls Tryz.prog 30 #[.pointer (some ⟨b, 0, none⟩), .int .i64 (ar + 1)] w1 fun e w' => RdP w1 w' b n v1 L.tail (d + 1) (grpF n (readF n d) (L.tail.length + 1) [] [] L.tail) e) := fun w1 v1 h1 h2 => group_any ih (ar + 1) w1 h1 (fun w' h' => hB w' (h2.trans h')) hs.tl (by omega) (by omega) (by omega)
    have HFO : Hid (∀ w1, Ot (fun k => k = b) w w1 → Calls Tryz.prog 31 #[.string ⟨(hdW L).toArray⟩] w1 fun e w' => e = .returned (.tuple #[.int .i64 (((fieldL (hdW L)).getD 0 : Nat) : Int), .bool (fieldL (hdW L)).isSome]) ∧ w' = w1) := fun w1 h1 => fieldOf_any _ w1 (hB w1 h1)
    have HTE : Hid (∀ (f : Nat) w1 v1, f < 5 → RdAt w1 b 54 n [] v1 L.tail → Ot (fun k => k = b) w w1 → Calls Tryz.prog 32 #[.pointer (some ⟨b, 0, none⟩), .int .i64 f] w1 fun e w' => RdP w1 w' b n v1 L.tail (d + 1) (tstF n f L.tail) e) := fun f w1 v1 hf h1 h2 => test_any w1 h1 (fun w' h' => hB w' (h2.trans h')) hs.tl hf
    have HRF := @read_fld_ n d L
    have HRG := @read_grp_ n d L
    have HRN := @read_not_ n d L
    have HRA := @read_any_ n d L
    have HFL := @fieldL_lt (hdW L)
    clear h hB hs hL htl
    generalize hdW L = x at *
    generalize L.tail.length = tl at *
    cases hx0 : (x == [97, 110, 121])
    case true =>
      have HRS : Hid (readF n (d + 1) L = .ok (anyT, L.tail)) := HRA hx0
      clear HRF HRG HRN HRA HFL
      go_enter Tryz.func16, Tryz.ntmps16
      go_wp2_with fail
      refine HNX.out.mono ?_
      rintro e w1 ⟨p, v1, rfl, hr1, hv1, ho1, hp1⟩
      have HP1 : Hid (p = ((hdP n L : Nat) : Int)) := hp1
      clear hp1
      go_wp2
      go_ret2
      exact ⟨v1, L.tail, hr1.below (below_alloc_ (Below.refl _ _) _), hv1, ho1.alloc _, tail_mem, Or.inl ⟨_, _, HRS.out, rfl, Or.inl ⟨rfl, rfl⟩⟩⟩
    case false =>
      cases hx1 : (x == [110, 111, 116])
      case true =>
        have HRS : Hid (readF n (d + 1) L = notR (readF n d L.tail)) := HRN hx0 hx1
        clear HRF HRG HRN HRA HFL
        go_enter Tryz.func16, Tryz.ntmps16
        go_wp2_with fail
        refine HNX.out.mono ?_
        rintro e w1 ⟨p, v1, rfl, hr1, hv1, ho1, hp1⟩
        have HP1 : Hid (p = ((hdP n L : Nat) : Int)) := hp1
        clear hp1
        have HR1 : Hid (RdAt w1 b 54 n [] v1 L.tail) := hr1
        have HO1 : Hid (Ot (fun k => k = b) w w1) := ho1
        clear hr1 ho1
        go_wp2_with fail
        refine (HNT.out _ v1 (HR1.out.below (below_alloc_ (Below.refl _ _) _)) (HO1.out.alloc _)).mono ?_
        intro e w2 hp
        obtain ⟨v2, L2, g1, g2, g3, g4, g5⟩ := hp.after (w := w) (L := L) (HO1.out.alloc _) hv1 tail_mem
        rcases g5 with ⟨t, fv, e1, rfl, e3⟩ | ⟨ec, ep, B, e1, rfl, e3, e4⟩
        · go_wp2
          go_ret2
          exact ⟨v2, L2, g1, g2, g3, g4, Or.inl ⟨t, fv, HRS.out.trans e1, rfl, e3⟩⟩
        · go_wp2
          go_ret2
          exact ⟨v2, L2, g1, g2, g3, g4, Or.inr ⟨ec, ep, B, HRS.out.trans e1, rfl, e3, e4⟩⟩
      case false =>
        cases hx2 : (x == [40])
        case true =>
          have HRS : Hid (readF n (d + 1) L = grpF n (readF n d) (tl + 1) [] [] L.tail) := HRG hx0 hx1 hx2
          clear HRF HRG HRN HRA HFL
          go_enter Tryz.func16, Tryz.ntmps16
          go_wp2_with fail
          refine HNX.out.mono ?_
          rintro e w1 ⟨p, v1, rfl, hr1, hv1, ho1, hp1⟩
          have HP1 : Hid (p = ((hdP n L : Nat) : Int)) := hp1
          clear hp1
          have HR1 : Hid (RdAt w1 b 54 n [] v1 L.tail) := hr1
          have HO1 : Hid (Ot (fun k => k = b) w w1) := ho1
          clear hr1 ho1
          go_wp2_with fail
          refine (HGT.out _ v1 (HR1.out.below (below_alloc_ (Below.refl _ _) _)) (HO1.out.alloc _)).mono ?_
          intro e w2 hp
          obtain ⟨v2, L2, g1, g2, g3, g4, g5⟩ := hp.after (w := w) (L := L) (HO1.out.alloc _) hv1 tail_mem
          rcases g5 with ⟨t, fv, e1, rfl, e3⟩ | ⟨ec, ep, B, e1, rfl, e3, e4⟩
          · go_wp2
            go_ret2
            exact ⟨v2, L2, g1, g2, g3, g4, Or.inl ⟨t, fv, HRS.out.trans e1, rfl, e3⟩⟩
          · go_wp2
            go_ret2
            exact ⟨v2, L2, g1, g2, g3, g4, Or.inr ⟨ec, ep, B, HRS.out.trans e1, rfl, e3, e4⟩⟩
        case false =>
          have hrs := HRF hx0 hx1 hx2
          clear HRF HRG HRN HRA
          generalize fieldL x = fx at *
          cases fx with
          | none =>
            have HRS : Hid (readF n (d + 1) L = .error (3, hdP n L)) := hrs
            have HFO' : Hid (∀ w1, Ot (fun k => k = b) w w1 → Calls Tryz.prog 31 #[.string ⟨x.toArray⟩] w1 fun e w' => e = .returned (.tuple #[.int .i64 0, .bool false]) ∧ w' = w1) := HFO.out
            clear HFL hrs HFO
            go_enter Tryz.func16, Tryz.ntmps16
            go_wp2_with fail
            refine HNX.out.mono ?_
            rintro e w1 ⟨p, v1, rfl, hr1, hv1, ho1, hp1⟩
            have HP1 : Hid (p = ((hdP n L : Nat) : Int)) := hp1
            clear hp1
            have HR1 : Hid (RdAt w1 b 54 n [] v1 L.tail) := hr1
            have HO1 : Hid (Ot (fun k => k = b) w w1) := ho1
            clear hr1 ho1
            go_wp2_with fail
            refine (HFO'.out _ (HO1.out.alloc _)).mono ?_
            rintro e w2 ⟨rfl, rfl⟩
            go_wp2_with fail
            refine (wrong_any _ _ _ _).mono ?_
            rintro e w3 ⟨B, rfl, hBk, hBn, hb3⟩
            go_wp2
            go_ret2
            exact ⟨v1, L.tail, (HR1.out.below (below_alloc_ (Below.refl _ _) _)).below hb3, hv1, (HO1.out.alloc _).trans (Ot.of_below hb3), tail_mem, Or.inr ⟨3, _, B, HRS.out, rfl, by rw [hBk, HP1.out], by have := HO1.out.size; simp at hBn; omega⟩⟩
          | some f =>
            have hf : f < 5 := HFL rfl
            have HRS : Hid (readF n (d + 1) L = tstF n f L.tail) := hrs
            have HFO' : Hid (∀ w1, Ot (fun k => k = b) w w1 → Calls Tryz.prog 31 #[.string ⟨x.toArray⟩] w1 fun e w' => e = .returned (.tuple #[.int .i64 (f : Int), .bool true]) ∧ w' = w1) := HFO.out
            clear HFL hrs HFO
            go_enter Tryz.func16, Tryz.ntmps16
            go_wp2_with fail
            refine HNX.out.mono ?_
            rintro e w1 ⟨p, v1, rfl, hr1, hv1, ho1, hp1⟩
            have HP1 : Hid (p = ((hdP n L : Nat) : Int)) := hp1
            clear hp1
            have HR1 : Hid (RdAt w1 b 54 n [] v1 L.tail) := hr1
            have HO1 : Hid (Ot (fun k => k = b) w w1) := ho1
            clear hr1 ho1
            go_wp2_with fail
            refine (HFO'.out _ (HO1.out.alloc _)).mono ?_
            rintro e w2 ⟨rfl, rfl⟩
            go_wp2_with fail
            refine (HTE.out f _ v1 hf (HR1.out.below (below_alloc_ (Below.refl _ _) _)) (HO1.out.alloc _)).mono ?_
            intro e w2 hp
            obtain ⟨v2, L2, g1, g2, g3, g4, g5⟩ := hp.after (w := w) (L := L) (HO1.out.alloc _) hv1 tail_mem
            rcases g5 with ⟨t, fv, e1, rfl, e3⟩ | ⟨ec, ep, B, e1, rfl, e3, e4⟩
            · go_wp2
              go_ret2
              exact ⟨v2, L2, g1, g2, g3, g4, Or.inl ⟨t, fv, HRS.out.trans e1, rfl, e3⟩⟩
            · go_wp2
              go_ret2
              exact ⟨v2, L2, g1, g2, g3, g4, Or.inr ⟨ec, ep, B, HRS.out.trans e1, rfl, e3, e4⟩⟩
theorem signF_bd (al : List UInt8) : ∀ (f : Nat) (l : List UInt8) (p : Nat), (signF al f l p).length ≤ l.length ∧ ∀ y ∈ signF al f l p, y.1.length ≤ l.length
  | 0, l, p => by simp [signF]
  | f + 1, [], p => by simp [signF]
  | f + 1, b :: l, p => by
    have hb := lenL_bd (al := al) (l := b :: l) (by simp)
    obtain ⟨h1, h2⟩ := signF_bd al f ((b :: l).drop (lenL al (b :: l))) (p + lenL al (b :: l))
    rw [List.length_drop] at h1 h2
    rw [signF]
    constructor
    · rw [List.length_append]
      split <;> simp only [List.length_nil, List.length_cons] <;> simp only [List.length_cons] at hb h1 <;> omega
    · intro y hy
      rcases List.mem_append.1 hy with hy | hy
      · split at hy
        · cases hy
        · obtain rfl := List.mem_singleton.1 hy
          simp only [List.length_take]; omega
      · have := h2 y hy; omega
/-- The filter that a text tells. -/
def parseG (l : List UInt8) : Except (Int × Nat) Ft := match readF l.length 20 (signsL [32, 40, 41] l 0) with | .ok (t, R) => if hdW R == [] then .ok t else .error (3, hdP l.length R) | .error e => .error e
def parseF (l : List UInt8) : Option Ft := if 2000 < l.length then none else match parseG l with | .ok t => some t | .error _ => none
theorem parse_nd {l : List UInt8} {t : Ft} (h : parseF l = some t) : nd 20 t ≤ l.length := by
  unfold parseF at h
  split at h
  · cases h
  · split at h
    · rename_i t' hg
      obtain rfl := Option.some.inj h
      unfold parseG at hg
      split at hg
      · rename_i t2 R hr
        split at hg
        · injection hg with hg
          subst hg
          have h1 := readF_len _ _ _ _ _ hr
          have h2 := (signF_bd [32, 40, 41] l.length l 0).1
          have h3 : (signsL [32, 40, 41] l 0).length ≤ l.length := h2
          omega
        · cases hg
      · cases hg
    · cases h
set_option maxHeartbeats 4000000 in
theorem fparse_any (s : ByteArray) (w : World) (hG : GlobF w) :
    Calls Tryz.prog 6 #[.string s] w fun e w' => Below w.heap.size w w' ∧ ((∃ t fv, parseF s.data.toList = some t ∧ e = .returned (.tuple #[fv, .nilIface]) ∧ FAt w' (fun k => w.heap.size ≤ k) 20 t fv) ∨ (2000 < s.size ∧ e = .returned (.tuple #[.nilIface, .iface 23 (.int .i64 4)])) ∨ (s.size ≤ 2000 ∧ ∃ (c : Int) (p B : Nat), parseG s.data.toList = .error (c, p) ∧ e = .returned (.tuple #[.nilIface, .iface 82 (.pointer (some ⟨B, 0, none⟩))]) ∧ w'.heap[B]? = some (.cells #[.int .i64 c, .int .i64 p] 83 (0, 0)))) := by
  have hsz : s.data.toList.length = s.size := Array.length_toList
  by_cases hs : 2000 < s.size
  · have HPN : Hid (2000 < s.size) := hs
    have a1 : decide ((2000 : Int) < (s.size : Int)) = true := by simp; omega
    clear hG hsz
    go_enter Tryz.func6, Tryz.ntmps6
    go_wp2
    go_ret2
    exact ⟨Below.refl _ _, Or.inr (Or.inl ⟨HPN.out, rfl⟩)⟩
  · have HS : Hid (s.size ≤ 2000) := by show _ ≤ _; omega
    have HPF : Hid (parseF s.data.toList = match parseG s.data.toList with | .ok t => some t | .error _ => none) := by show _ = _; unfold parseF; rw [if_neg (by omega)]
    have HPG : Hid (parseG s.data.toList = match readF s.size 20 (signsL [32, 40, 41] s.data.toList 0) with | .ok (t, R) => if hdW R == [] then .ok t else .error (3, hdP s.size R) | .error e => .error e) := by show _ = _; unfold parseG; rw [hsz]
    have HRD : Hid (Calls Tryz.prog 15 #[.string s, .string ⟨#[40, 41]⟩] w fun e w' => ∃ rv, e = .returned (.agg #[rv, .string ⟨#[]⟩, .int .i64 s.size]) ∧ Seg w' 49 2 rv (signsL [32, 40, 41] s.data.toList 0).length (flt sgc (signsL [32, 40, 41] s.data.toList 0)) ∧ (∀ b, rv.ownBlock = some b → w.heap.size ≤ b) ∧ Below w.heap.size w w') := by
      refine read_any s ⟨#[40, 41]⟩ w (by omega) (by decide) (by decide) ?_
      intro j b hj
      match j with
      | 0 => simp at hj; subst hj; decide
      | 1 => simp at hj; subst hj; decide
      | j + 2 => simp at hj
    have hb1 : (signsL [32, 40, 41] s.data.toList 0).length ≤ 2000 := by have := (signF_bd [32, 40, 41] s.data.toList.length s.data.toList 0).1; have h3 : (signsL [32, 40, 41] s.data.toList 0).length ≤ s.data.toList.length := this; omega
    have hb2 : shortL (signsL [32, 40, 41] s.data.toList 0) := fun y hy => by have := (signF_bd [32, 40, 41] s.data.toList.length s.data.toList 0).2 y hy; omega
    generalize signsL [32, 40, 41] s.data.toList 0 = L at *
    have HQ : Hid (∀ w1 b v, w.heap.size ≤ b → Below w.heap.size w w1 → RdAt w1 b 54 s.size [] v L → Calls Tryz.prog 16 #[.pointer (some ⟨b, 0, none⟩), .int .i64 0] w1 fun e w' => RdP w1 w' b s.size v L 20 (readF s.size 20 L) e) := by
      intro w1 b v hb hw hr
      refine filterC 20 0 w1 hr (fun w' h' => hG.below ?_) hb2 hb1 (by decide) (by decide)
      exact hw.trans (h'.below hw.size (fun k hk => by omega))
    have a1 : decide ((2000 : Int) < (s.size : Int)) = false := by simp; omega
    clear hG hs hb1 hb2
    go_enter Tryz.func6, Tryz.ntmps6
    go_wp2_with (go_at_call 15; refine HRD.out.mono ?_; rintro e w1 ⟨rv, rfl, hsg, hn, hb1⟩; obtain ⟨rx, rn, rcap, rfl⟩ : ∃ x n c, rv = .slice x n c := (by rcases hsg.form with ⟨h, _⟩ | ⟨b, o, c, h, _⟩ <;> exact ⟨_, _, _, h⟩))
    have hrd : RdAt (w1.alloc (.cells #[.slice rx rn rcap, .string ⟨#[]⟩, .int .i64 s.size] 54)) w1.heap.size 54 s.size [] (.slice rx rn rcap) L :=
      ⟨new_block _ _, hsg.alloc _, fun e => by have := hsg.lt e; omega⟩
    refine (HQ.out _ _ _ hb1.size (hb1.alloc hb1.size _) hrd).mono ?_
    rintro e w2 ⟨v2, L2, hr2, hv2, ho2, hsub2, hcase⟩
    have hw1 := hb1.size
    have hbl := hr2.lt
    have HB2 : Hid (Below w.heap.size w w2) := (hb1.alloc hb1.size _).trans (ho2.below (by simp; omega) (fun k hk => by omega))
    clear hrd hsg hn hb1 hv2 ho2 hsub2 HQ HRD
    rcases hcase with ⟨t, fv, hres, rfl, hfa⟩ | ⟨ec, ep, B, hres, rfl, hBk, hBn⟩
    · obtain ⟨ft, fp, rfl⟩ := hfa.form
      have HFA : Hid (FAt w2 (fun k => (w1.alloc (.cells #[.slice rx rn rcap, .string ⟨#[]⟩, .int .i64 s.size] 54)).heap.size ≤ k) 20 t (.iface ft fp)) := hfa
      have HPS : Hid (parseG s.data.toList = if hdW L2 == [] then .ok t else .error (3, hdP s.size L2)) := by show _ = _; rw [HPG.out, hres]
      have HNX := fnext_any w2 hr2
      clear hfa hres hr2
      generalize hdP s.size L2 = pp at *
      generalize hdW L2 = x at *
      go_wp2_with fail
      refine HNX.mono ?_
      rintro e w3 ⟨p, v3, rfl, hr3, hv3, ho3, hp3⟩
      have HP3 : Hid (p = ((pp : Nat) : Int)) := hp3
      clear hp3
      have hb3 : Below w.heap.size w2 w3 := ho3.below HB2.out.size (fun k hk => by omega)
      have HB3 : Hid (Below w.heap.size w w3) := HB2.out.trans hb3
      have HF3 : Hid (FAt w3 (fun k => w.heap.size ≤ k) 20 t (.iface ft fp)) := (HFA.out.ot ho3 (fun k hk e => by simp at hk; omega)).sub fun k hk => by simp at hk; omega
      clear hr3 hv3 ho3 hb3 HNX
      go_wp2_with fail
      refine (end_any' _ _ _).mono ?_
      rintro e w4 ⟨rfl, hb4⟩
      have hbA : Below w.heap.size w (w3.alloc (.cells #[.string ⟨x.toArray⟩, .int .i64 p] 49)) := HB3.out.alloc HB3.out.size _
      have HB4 : Hid (Below w.heap.size w w4) := hbA.trans (hb4.mono hbA.size)
      have HF4 : Hid (FAt w4 (fun k => w.heap.size ≤ k) 20 t (.iface ft fp)) := (HF3.out.below (below_alloc_ (Below.refl _ _) _)).below hb4
      have k2 : w4.heap[w3.heap.size]? = some (.cells #[.string ⟨x.toArray⟩, .int .i64 p] 49 (0, 0)) := (hb4.block w3.heap.size (by simp)).trans (new_block _ _)
      have k0 : w4.cell? ⟨w3.heap.size, 0, none⟩ = some (.string ⟨x.toArray⟩) := by simp [World.cell?, k2]
      have k1 : w4.cell? ⟨w3.heap.size, 1, none⟩ = some (.int .i64 p) := by simp [World.cell?, k2]
      clear hb4 hbA k2
      simp only []
      cases hx : (x == [])
      case true =>
        have HRS : Hid (parseF s.data.toList = some t) := by show _ = _; rw [HPF.out, HPS.out, hx]; rfl
        go_wp2
        go_ret2
        exact ⟨HB4.out, Or.inl ⟨t, _, HRS.out, rfl, HF4.out⟩⟩
      case false =>
        have HRS : Hid (parseG s.data.toList = .error (3, pp)) := by show _ = _; rw [HPS.out, hx]; rfl
        go_wp2_with fail
        refine (wrong_any _ _ _ _).mono ?_
        rintro e w5 ⟨B, rfl, hBk, hBn, hb5⟩
        go_wp2
        go_ret2
        exact ⟨HB4.out.trans (hb5.mono HB4.out.size), Or.inr (Or.inr ⟨HS.out, 3, _, B, HRS.out, rfl, by rw [hBk, HP3.out]⟩)⟩
    · have HRS : Hid (parseG s.data.toList = .error (ec, ep)) := by show _ = _; rw [HPG.out, hres]
      go_wp2
      go_ret2
      exact ⟨HB2.out, Or.inr (Or.inr ⟨HS.out, ec, ep, B, HRS.out, rfl, hBk⟩)⟩
theorem parseF_ok {l : List UInt8} {t : Ft} (h : parseF l = some t) : l.length ≤ 2000 ∧ parseG l = .ok t := by
  unfold parseF at h
  split at h
  · cases h
  · refine ⟨by omega, ?_⟩
    split at h
    · rename_i t' hg
      obtain rfl := Option.some.inj h
      exact hg
    · cases h
/-- Parse, without what is wrong. -/
theorem fparse_some (s : ByteArray) (w : World) (hG : GlobF w) :
    Calls Tryz.prog 6 #[.string s] w fun e w' => Below w.heap.size w w' ∧ ((∃ t fv, parseF s.data.toList = some t ∧ e = .returned (.tuple #[fv, .nilIface]) ∧ FAt w' (fun k => w.heap.size ≤ k) 20 t fv) ∨ (parseF s.data.toList = none ∧ ∃ ty p, e = .returned (.tuple #[.nilIface, .iface ty p]))) := by
  have hsz : s.data.toList.length = s.size := Array.length_toList
  refine (fparse_any s w hG).mono ?_
  rintro e w' ⟨hb, h | ⟨h1, h2⟩ | ⟨h1, c, p, B, h2, h3, _⟩⟩
  · exact ⟨hb, Or.inl h⟩
  · exact ⟨hb, Or.inr ⟨by unfold parseF; rw [if_pos (by omega)], _, _, h2⟩⟩
  · exact ⟨hb, Or.inr ⟨by unfold parseF; rw [if_neg (by omega), h2], _, _, h3⟩⟩
end Go.Proofs.YtibecinojkkjpaaGreatDoor
