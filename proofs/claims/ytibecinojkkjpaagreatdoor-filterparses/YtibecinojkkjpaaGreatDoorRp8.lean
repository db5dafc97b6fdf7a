/-
  The reference reads a test. Conditions: as FilterRC's. Written by wip/mkrp8.py.
-/
import Derived.Test.YtibecinojkkjpaaGreatDoorRp7
namespace Go.Proofs.YtibecinojkkjpaaGreatDoor
open Go.RowKit Go.Extern.Stop Go.Stop Go.Extern

theorem numF_in {l : List UInt8} {q : Int} (h : numF l = some q) : 0 ≤ q ∧ q ≤ 1000000000 := by
  unfold numF at h
  split at h
  · split at h
    · rename_i hh; obtain rfl := Option.some.inj h; exact hh
    · cases h
  · cases h
/-- A test under way. -/
def TB (w : World) (fb : Nat) (K : ByteArray) (f lo hi : Int) : Prop := w.heap[fb]? = some (.cells #[.string K, .int .i64 f, .int .i64 lo, .int .i64 hi, .slice none 0 0] 63 (0, 0))
section
variable {w w' : World} {fb : Nat} {K : ByteArray} {f lo hi : Int}
theorem TB.lt (h : TB w fb K f lo hi) : fb < w.heap.size := lt_of_block h
theorem TB.cells (h : TB w fb K f lo hi) : w.cell? ⟨fb, 0, none⟩ = some (.string K) ∧ w.cell? ⟨fb, 2, none⟩ = some (.int .i64 lo) ∧ w.cell? ⟨fb, 3, none⟩ = some (.int .i64 hi) ∧ w.frozen? ⟨fb, 0, none⟩ = false ∧ w.frozen? ⟨fb, 2, none⟩ = false ∧ w.frozen? ⟨fb, 3, none⟩ = false := by
  unfold TB at h
  refine ⟨?_, ?_, ?_, ?_, ?_, ?_⟩
  all_goals simp [World.cell?, World.frozen?, h]
theorem TB.keep (h : TB w fb K f lo hi) (hk : w'.heap[fb]? = w.heap[fb]?) : TB w' fb K f lo hi := hk.trans h
theorem TB.set0 (h : TB w fb K f lo hi) (K' : ByteArray) : TB (w.setCell ⟨fb, 0, none⟩ (.string K')) fb K' f lo hi := by unfold TB; rw [heap_setCell_here h]; simp
theorem TB.set2 (h : TB w fb K f lo hi) (q : Int) : TB (w.setCell ⟨fb, 2, none⟩ (.int .i64 q)) fb K f q hi := by unfold TB; rw [heap_setCell_here h]; simp
theorem TB.set3 (h : TB w fb K f lo hi) (q : Int) : TB (w.setCell ⟨fb, 3, none⟩ (.int .i64 q)) fb K f lo q := by unfold TB; rw [heap_setCell_here h]; simp
end
theorem TB.test {w w' : World} {fb f d : Nat} {lo hi : Int} (h : TB w' fb ⟨#[116, 101, 115, 116]⟩ f lo hi) (hn : w.heap.size ≤ fb) (hf : f < 5) (h0 : 0 ≤ lo) (h1 : lo ≤ hi) (h2 : hi ≤ 1000000000) : RfAt w' (fun k => w.heap.size ≤ k) (d + 1) ⟨1, f, lo, hi, []⟩ fb :=
  ⟨Or.inr (Or.inl ⟨rfl, hf, h0, h1, h2⟩), hn, .slice none 0 0, [], h, fun j hj => by simp [Value.ownBlock] at hj, Seg.nil _ _ _, rfl, fun i y k hy => by simp at hy⟩
theorem TB.has {w w' : World} {fb f d : Nat} {q : Int} (h : TB w' fb ⟨#[104, 97, 115]⟩ f q q) (hn : w.heap.size ≤ fb) (hf : f < 5) (h0 : 0 ≤ q) (h1 : q ≤ 1000000000) : RfAt w' (fun k => w.heap.size ≤ k) (d + 1) ⟨2, f, q, 0, []⟩ fb :=
  ⟨Or.inr (Or.inr (Or.inl ⟨rfl, hf, h0, h1⟩)), hn, .slice none 0 0, [], h, fun j hj => by simp [Value.ownBlock] at hj, Seg.nil _ _ _, rfl, fun i y k hy => by simp at hy⟩
theorem PsAt.setO {w : World} {b n fb k : Nat} {er at' : Int} {v u : Value} {L : List (List UInt8 × Nat)} (h : PsAt w b n er at' v L) (hb : b ≠ fb) (hv : ∀ j, v.ownBlock = some j → j ≠ fb) : PsAt (w.setCell ⟨fb, k, none⟩ u) b n er at' v L :=
  h.kept (heap_setCell_other _ ⟨fb, k, none⟩ b _ hb) fun j hj => heap_setCell_other _ ⟨fb, k, none⟩ j _ (hv j hj)
set_option maxRecDepth 100000 in
set_option maxHeartbeats 4000000 in
theorem rf_fld {b n d f : Nat} {at' : Int} {v : Value} {L : List (List UInt8 × Nat)} (ar : Int) (w : World) (h : PsAt w b n 0 at' v L) (hB : ∀ w', Ot (fun k => k = b) w w' → GlobR w') (hs : shortL L) (ha : ar ≤ 19) (h0 : hdW L ≠ [97, 110, 121]) (h1 : hdW L ≠ [110, 111, 116]) (h2 : hdW L ≠ [40]) (hfl : fieldL (hdW L) = some f) :
    Calls Tryz.prog 13 #[.pointer (some ⟨b, 0, none⟩), .int .i64 ar] w fun e w' => RpP w w' b n at' v L (d + 1) (tstF n f L.tail) e := by
  have H : Hid (PsAt w b n 0 at' v L) := h
  have hb := h.lt
  have HVL : Hid (∀ j, v.ownBlock = some j → j < w.heap.size) := fun j hj => by have h := h.row.lt hj; exact h
  obtain ⟨c0, c1, c2, c3, f0, f2, f3⟩ := h.cells
  obtain ⟨nb, noff, ncap, g0, hnm⟩ := (hB w (Ot.refl _ _)).fs
  have HGL : Hid (∀ w', Ot (fun k => k = b) w w' → GlobR w') := hB
  have HSH : Hid (shortL L) := hs
  have HNM : Hid (∀ i, i < 5 → w.cell? ⟨nb, noff + i, none⟩ = some (.string ⟨(nameF i).toArray⟩)) := hnm
  have hf := (fieldL_yes hfl).2
  have HFE : Hid (hdW L = nameF f) := (fieldL_yes hfl).1
  have HN : Hid (hdW L ≠ [97, 110, 121]) := h0
  have HN1 : Hid (hdW L ≠ [110, 111, 116]) := h1
  have HN2 : Hid (hdW L ≠ [40]) := h2
  clear h h0 h1 h2 hfl hB hnm hs
  go_enter Tryz.func13, Tryz.ntmps13
  go_wp2_with fail
  refine (is_no w H.out ⟨#[97, 110, 121]⟩ HN.out).mono ?_
  rintro e w ⟨rfl, rfl⟩
  go_wp2_with fail
  refine (is_no _ H.out ⟨#[110, 111, 116]⟩ HN1.out).mono ?_
  rintro e w ⟨rfl, rfl⟩
  go_wp2_with fail
  refine (is_no _ H.out ⟨#[40]⟩ HN2.out).mono ?_
  rintro e w ⟨rfl, rfl⟩
  go_wp2
  go_loopw [84] (fun iv wr => ∃ i : Nat, i ≤ f ∧ iv = .int .i64 i ∧ wr = w) (fun iv _ => 5 - (intOf iv).toNat)
  case atStart => exact ⟨0, Nat.zero_le _, rfl, rfl⟩
  case round =>
    obtain ⟨i, hi, rfl, rfl⟩ := hrel
    have k0 := HNM.out i (by omega)
    have o1 : (i : Int) < 5 := by omega
    by_cases hlt : i < f
    · have HX : Hid (hdW L ≠ nameF i) := by show hdW L ≠ nameF i; rw [HFE.out]; intro e; have := nameF_inj _ hf _ (by omega) e; omega
      go_wp2_with fail
      refine (is_no _ H.out ⟨(nameF i).toArray⟩ (by show hdW L ≠ (nameF i).toArray.toList; rw [List.toList_toArray]; exact HX.out)).mono ?_
      rintro e w7 ⟨rfl, rfl⟩
      go_wp2
      exact ⟨⟨i + 1, by omega, by go_num, trivial⟩, by simp [intOf]; omega⟩
    · obtain rfl : i = f := by omega
      rename_i w
      clear c0 c1 c2 c3 f0 f2 f3
      go_wp2_with fail
      refine (is_yes _ H.out ⟨(nameF i).toArray⟩ (by show (nameF i).toArray.toList ≠ []; rw [List.toList_toArray]; exact nameF_ne i hf) (by show hdW L = (nameF i).toArray.toList; rw [List.toList_toArray]; exact HFE.out)).mono ?_
      rintro e w1 ⟨rfl, v1, hp1, hv1, ho1⟩
      have HP1 : Hid (PsAt w1 b n 0 at' v1 L.tail) := hp1
      have HV1 : Hid (v1.ownBlock = v.ownBlock) := hv1
      have HO1 : Hid (Ot (fun k => k = b) wr w1) := ho1
      have hfb := ho1.size
      clear hp1 hv1 ho1
      have hbf0 := HP1.out.lt
      cases hh : (hdW L.tail == [104, 97, 115])
      case true =>
        have HX : Hid (hdW L.tail = [104, 97, 115]) := by show hdW L.tail = [104, 97, 115]; simpa using hh
        have HRS : Hid (tstF n i L.tail = (match numF (hdW L.tail.tail) with | some q => .ok (⟨2, i, q, 0, []⟩, L.tail.tail.tail) | none => .error (numC (hdW L.tail.tail), hdP n L.tail.tail))) := tst_has hh
        clear hh
        go_wp2_with fail
        refine (is_yes _ (HP1.out.below (below_alloc_ (Below.refl _ _) _)) ⟨#[104, 97, 115]⟩ (by simp) HX.out).mono ?_
        rintro e w2 ⟨rfl, v3, hp2, hv2, ho2⟩
        have ht2 : TB w2 w1.heap.size ⟨#[116, 101, 115, 116]⟩ i 0 0 := (ho2.block w1.heap.size (by simp) (fun e => by omega)).trans (new_block _ _)
        have HO2 : Hid (Ot (fun k => k = b) wr w2) := (HO1.out.alloc _).trans ho2
        have HP2 : Hid (PsAt w2 b n 0 at' v3 L.tail.tail) := hp2
        have HV3 : Hid (v3.ownBlock = v.ownBlock) := hv2.trans HV1.out
        obtain ⟨fb, hfbe⟩ : ∃ fb, fb = w1.heap.size := ⟨_, rfl⟩
        rw [← hfbe] at ht2
        rw [← hfbe]
        rw [← hfbe] at hfb hbf0
        have HT2 : Hid (TB w2 fb ⟨#[116, 101, 115, 116]⟩ i 0 0) := ht2
        obtain ⟨t0, t2, t3, y0, y2, y3⟩ := ht2.cells
        have hlt2 := ht2.lt
        clear hp2 hv2 ho2 hfbe ht2 HX
        go_upto_region 31 with fail
        have HP3 : Hid (PsAt (w2.setCell ⟨fb, 0, none⟩ (.string ⟨#[104, 97, 115]⟩)) b n 0 at' v3 L.tail.tail) := HP2.out.setO (by omega) (fun j hj => by have := HVL.out j (HV3.out ▸ hj); omega)
        have HT3 : Hid (TB (w2.setCell ⟨fb, 0, none⟩ (.string ⟨#[104, 97, 115]⟩)) fb ⟨#[104, 97, 115]⟩ i 0 0) := HT2.out.set0 _
        have HO3 : Hid (Ot (fun k => k = b) wr (w2.setCell ⟨fb, 0, none⟩ (.string ⟨#[104, 97, 115]⟩))) := HO2.out.setCell (p := ⟨fb, 0, none⟩) (Or.inr hfb) _
        clear HT2 HO2 HP2 t0 t2 t3 y0 y2 y3
        generalize w2.setCell ⟨fb, 0, none⟩ (.string ⟨#[104, 97, 115]⟩) = w3 at *
        obtain ⟨L3, hL3⟩ : ∃ L3, L3 = L.tail.tail := ⟨_, rfl⟩
        have HS3 : Hid (∀ y ∈ L3, y ∈ L) := fun y hy => by rw [hL3] at hy; exact tail_mem _ (tail_mem _ hy)
        rw [← hL3] at HP3 HRS
        have HRS3 : Hid (tstF n i L.tail = (match numF (hdW L3) with | some q => .ok (⟨2, i, q, 0, []⟩, L3.tail) | none => .error (numC (hdW L3), hdP n L3))) := HRS
        clear hL3 HRS
        rcases L3 with _ | ⟨x, L4⟩
        · obtain ⟨sx, cap, rfl⟩ : ∃ x cap, v3 = .slice x 0 cap := by rcases HP3.out.row.form with ⟨h, _⟩ | ⟨b, o, c, h, _⟩ <;> exact ⟨_, _, h⟩
          have HRE : Hid (tstF n i L.tail = .error (3, n)) := by show _ = _; rw [HRS3.out]; rfl
          obtain ⟨c0, c1, c2, c3, f0, f2, f3⟩ := HP3.out.cells
          go_wp2_with fail
          refine (fail_any at' w3 HP3.out 3).mono ?_
          rintro e w4 ⟨rfl, hp4, ho4⟩
          have HP4 : Hid (PsAt w4 b n 3 ((n : Nat) : Int) (.slice sx 0 cap) []) := hp4
          have HO4 : Hid (Ot (fun k => k = b) wr w4) := HO3.out.trans ho4
          clear hp4 ho4
          go_wp2
          go_ret
          exact ⟨_, _, _, _, HP4.out, HV3.out, HO4.out, HS3.out, Or.inr ⟨_, _, _, HRE.out, rfl, rfl, by decide, rfl⟩⟩
        · obtain ⟨g, off, cap, rfl, hn, hx, hlt, hcs⟩ := HP3.out.row.some (by simp)
          have k0 : w3.cell? ⟨g, off, none⟩ = some (.string ⟨x.1.toArray⟩) := hcs 0 _ (by simp [flt, sgc, strV])
          have hgb : g ≠ b := fun e => HP3.out.ne (by rw [e]; rfl)
          have hgl : g < wr.heap.size := HVL.out g (by rw [← HV3.out]; rfl)
          have hl : (0 : Int) < ((L4.length + 1 : Nat) : Int) := by omega
          have hl2 : ¬ ((L4.length + 1 : Nat) : Int) = 0 := by omega
          have hxs : x.1.length ≤ 2000 := HSH.out x (HS3.out x (by simp))
          obtain ⟨m, hm⟩ := (HGL.out w3 HO3.out).ml
          have HIX : Hid (Calls Tryz.prog 25 #[.string ⟨x.1.toArray⟩, .string ⟨#[46, 46]⟩] w3 fun e w' => e = .returned (.int .i64 (Lib.index x.1 [46, 46])) ∧ w' = w3) := by
            have := Tryz.strings_Index ⟨x.1.toArray⟩ ⟨#[46, 46]⟩ m w3 (by simp [ByteArray.size]; omega) hm
            exact this
          have HGN : Hid (Glob w3) := (HGL.out w3 HO3.out).num
          obtain ⟨c0, c1, c2, c3, f0, f2, f3⟩ := HP3.out.cells
          obtain ⟨t0, t2, t3, y0, y2, y3⟩ := HT3.out.cells
          have hlt3 := HT3.out.lt
          clear hcs hm
          go_wp2_with fail
          refine HIX.out.mono ?_
          rintro e w3 ⟨rfl, rfl⟩
          clear HIX
          by_cases hix : 0 ≤ Lib.index x.1 [46, 46]
          · have HRE : Hid (tstF n i L.tail = .error (3, x.2)) := by show _ = _; rw [HRS3.out]; show (match numF x.1 with | some q => (.ok (⟨2, i, q, 0, []⟩, L4) : Rd) | none => .error (numC x.1, x.2)) = _; rw [(numF_dots hix).1, (numF_dots hix).2]
            generalize Lib.index x.1 [46, 46] = ix at *
            have o1 : ¬ ix < 0 := by omega
            go_wp2_with fail
            refine (fail_any at' w3 HP3.out 3).mono ?_
            rintro e w4 ⟨rfl, hp4, ho4⟩
            have HP4 : Hid (PsAt w4 b n 3 ((x.2 : Nat) : Int) (.slice (some ⟨g, off, none⟩) (L4.length + 1) cap) (x :: L4)) := hp4
            have HO4 : Hid (Ot (fun k => k = b) wr w4) := HO3.out.trans ho4
            clear hp4 ho4
            obtain ⟨z0, z1, z2, z3, z4, z5, z6⟩ := HP4.out.cells
            go_wp2
            go_ret
            exact ⟨_, _, _, _, HP4.out, HV3.out, HO4.out, HS3.out, Or.inr ⟨_, _, _, HRE.out, rfl, rfl, by decide, rfl⟩⟩
          · have HCU : Hid (cutA x.1 = x.1 ∧ cutB x.1 = x.1) := cut_no hix
            generalize Lib.index x.1 [46, 46] = ix at *
            have o1 : ix < 0 := by omega
            cases hq : numF x.1 with
            | none =>
              have HRE : Hid (tstF n i L.tail = .error (numC x.1, x.2)) := by show _ = _; rw [HRS3.out]; show (match numF x.1 with | some q => (.ok (⟨2, i, q, 0, []⟩, L4) : Rd) | none => .error (numC x.1, x.2)) = _; rw [hq]
              have HNC : Hid (numC x.1 ≠ 0) := by show numC x.1 ≠ 0; unfold numC; split <;> decide
              have hfn := field_no w3 HP3.out ⟨x.1.toArray⟩ (by simp [ByteArray.size]; omega) HGN.out (by show numF x.1.toArray.toList = none; rw [List.toList_toArray]; exact hq)
              rw [show (⟨x.1.toArray⟩ : ByteArray).data.toList = x.1 from List.toList_toArray] at hfn
              have HFN : Hid (Calls Tryz.prog 26 #[.pointer (some ⟨b, 0, none⟩), .string ⟨x.1.toArray⟩] w3 fun e w' => (∃ q, e = .returned (.int .i64 q)) ∧ PsAt w' b n (numC x.1) ((x.2 : Nat) : Int) (.slice (some ⟨g, off, none⟩) (L4.length + 1) cap) (x :: L4) ∧ Ot (· = b) w3 w') := hfn
              clear hfn hq
              generalize numC x.1 = nc at *
              have o2 : (nc == 0) = false := by simpa using HNC.out
              go_wp2_with fail
              refine HFN.out.mono ?_
              rintro e w5 ⟨⟨q, rfl⟩, hp5, ho5⟩
              have HP5 : Hid (PsAt w5 b n nc ((x.2 : Nat) : Int) (.slice (some ⟨g, off, none⟩) (L4.length + 1) cap) (x :: L4)) := hp5
              have HT5 : Hid (TB w5 fb ⟨#[104, 97, 115]⟩ i 0 0) := HT3.out.keep (ho5.block fb hlt3 (by omega))
              have HO5 : Hid (Ot (fun k => k = b) wr w5) := HO3.out.trans ho5
              obtain ⟨t0, t2, t3, y0, y2, y3⟩ := HT5.out.cells
              have hlt5 := HT5.out.lt
              clear hp5 ho5 HFN
              go_upto_region 45 with fail
              have HP6 : Hid (PsAt ((w5.setCell ⟨fb, 2, none⟩ (.int .i64 q)).setCell ⟨fb, 3, none⟩ (.int .i64 q)) b n nc ((x.2 : Nat) : Int) (.slice (some ⟨g, off, none⟩) (L4.length + 1) cap) (x :: L4)) := (HP5.out.setO (by omega) (fun j hj => by have := HVL.out j (HV3.out ▸ hj); omega)).setO (by omega) (fun j hj => by have := HVL.out j (HV3.out ▸ hj); omega)
              have HO6 : Hid (Ot (fun k => k = b) wr ((w5.setCell ⟨fb, 2, none⟩ (.int .i64 q)).setCell ⟨fb, 3, none⟩ (.int .i64 q))) := (HO5.out.setCell (p := ⟨fb, 2, none⟩) (Or.inr hfb) _).setCell (p := ⟨fb, 3, none⟩) (Or.inr hfb) _
              clear HP5 HT5 HO5 t0 t2 t3 y0 y2 y3
              generalize (w5.setCell ⟨fb, 2, none⟩ (.int .i64 q)).setCell ⟨fb, 3, none⟩ (.int .i64 q) = w6 at *
              obtain ⟨z0, z1, z2, z3, z4, z5, z6⟩ := HP6.out.cells
              go_wp2
              go_ret
              exact ⟨_, _, _, _, HP6.out, HV3.out, HO6.out, HS3.out, Or.inr ⟨_, _, _, HRE.out, rfl, rfl, HNC.out, rfl⟩⟩
            | some q =>
              have HQ : Hid (0 ≤ q ∧ q ≤ 1000000000) := numF_in hq
              have HRE : Hid (tstF n i L.tail = .ok (⟨2, i, q, 0, []⟩, L4)) := by show _ = _; rw [HRS3.out]; show (match numF x.1 with | some q => (.ok (⟨2, i, q, 0, []⟩, L4) : Rd) | none => .error (numC x.1, x.2)) = _; rw [hq]
              have hfy := field_yes b w3 ⟨x.1.toArray⟩ (by simp [ByteArray.size]; omega) HGN.out q (by show numF x.1.toArray.toList = some q; rw [List.toList_toArray]; exact hq)
              have HFY : Hid (Calls Tryz.prog 26 #[.pointer (some ⟨b, 0, none⟩), .string ⟨x.1.toArray⟩] w3 fun e w' => e = .returned (.int .i64 q) ∧ Below w3.heap.size w3 w') := hfy
              clear hfy hq
              go_wp2_with fail
              refine HFY.out.mono ?_
              rintro e w5 ⟨rfl, hb5⟩
              have HP5 : Hid (PsAt w5 b n 0 at' (.slice (some ⟨g, off, none⟩) (L4.length + 1) cap) (x :: L4)) := HP3.out.below hb5
              have HT5 : Hid (TB w5 fb ⟨#[104, 97, 115]⟩ i 0 0) := HT3.out.keep (hb5.block fb hlt3)
              have HO5 : Hid (Ot (fun k => k = b) wr w5) := HO3.out.trans (Ot.of_below hb5)
              obtain ⟨t0, t2, t3, y0, y2, y3⟩ := HT5.out.cells
              have hlt5 := HT5.out.lt
              clear hb5 HFY
              go_upto_region 45 with fail
              have HP6 : Hid (PsAt ((w5.setCell ⟨fb, 2, none⟩ (.int .i64 q)).setCell ⟨fb, 3, none⟩ (.int .i64 q)) b n 0 at' (.slice (some ⟨g, off, none⟩) (L4.length + 1) cap) (x :: L4)) := (HP5.out.setO (by omega) (fun j hj => by have := HVL.out j (HV3.out ▸ hj); omega)).setO (by omega) (fun j hj => by have := HVL.out j (HV3.out ▸ hj); omega)
              have HT6 : Hid (TB ((w5.setCell ⟨fb, 2, none⟩ (.int .i64 q)).setCell ⟨fb, 3, none⟩ (.int .i64 q)) fb ⟨#[104, 97, 115]⟩ i q q) := (HT5.out.set2 q).set3 q
              have HO6 : Hid (Ot (fun k => k = b) wr ((w5.setCell ⟨fb, 2, none⟩ (.int .i64 q)).setCell ⟨fb, 3, none⟩ (.int .i64 q))) := (HO5.out.setCell (p := ⟨fb, 2, none⟩) (Or.inr hfb) _).setCell (p := ⟨fb, 3, none⟩) (Or.inr hfb) _
              clear HP5 HT5 HO5 t0 t2 t3 y0 y2 y3
              generalize (w5.setCell ⟨fb, 2, none⟩ (.int .i64 q)).setCell ⟨fb, 3, none⟩ (.int .i64 q) = w6 at *
              obtain ⟨z0, z1, z2, z3, z4, z5, z6⟩ := HP6.out.cells
              go_wp2
              all_goals go_ret
              · have hc : cap = 1 := by assumption
                exact ⟨0, at', .slice (some ⟨g, off, none⟩) L4.length 0, L4, HP6.out.set (rseg_tail HP6.out.row off 0 (Or.inr ⟨hc, rfl, rfl⟩)) (by simp [Value.ownBlock, hgb]), HV3.out, HO6.out.setCell (p := ⟨b, 0, none⟩) (Or.inl rfl) _, fun y hy => HS3.out y (List.mem_cons_of_mem _ hy), Or.inl ⟨_, fb, HRE.out, rfl, rfl, rfl, (HT6.out.keep (heap_setCell_other _ ⟨b, 0, none⟩ fb _ (by show fb ≠ b; omega))).has hfb hf HQ.out.1 HQ.out.2⟩⟩
              · exact ⟨0, at', .slice (some ⟨g, off + 2, none⟩) L4.length (cap - 1), L4, HP6.out.set (rseg_tail HP6.out.row (off + 2) (cap - 1) (Or.inl ⟨rfl, rfl⟩)) (by simp [Value.ownBlock, hgb]), HV3.out, HO6.out.setCell (p := ⟨b, 0, none⟩) (Or.inl rfl) _, fun y hy => HS3.out y (List.mem_cons_of_mem _ hy), Or.inl ⟨_, fb, HRE.out, rfl, rfl, rfl, (HT6.out.keep (heap_setCell_other _ ⟨b, 0, none⟩ fb _ (by show fb ≠ b; omega))).has hfb hf HQ.out.1 HQ.out.2⟩⟩
      case false =>
        have HX : Hid (hdW L.tail ≠ [104, 97, 115]) := by show hdW L.tail ≠ [104, 97, 115]; simpa using hh
        have HRS : Hid (tstF n i L.tail = (match testF i (hdW L.tail) with | .ok t => .ok (t, L.tail.tail) | .error c => .error (c, hdP n L.tail))) := tst_no hh
        clear hh
        go_wp2_with fail
        refine (is_no _ (HP1.out.below (below_alloc_ (Below.refl _ _) _)) ⟨#[104, 97, 115]⟩ HX.out).mono ?_
        rintro e w2 ⟨rfl, rfl⟩
        obtain ⟨fb, hfbe⟩ : ∃ fb, fb = w1.heap.size := ⟨_, rfl⟩
        rw [← hfbe]
        rw [← hfbe] at hfb hbf0
        have HT3 : Hid (TB (w1.alloc (.cells #[.string ⟨#[116, 101, 115, 116]⟩, .int .i64 i, .int .i64 0, .int .i64 0, .slice none 0 0] 63)) fb ⟨#[116, 101, 115, 116]⟩ i 0 0) := by show TB _ _ _ _ _ _; rw [hfbe]; exact new_block _ _
        obtain ⟨v3, hv3⟩ : ∃ v3, v3 = v1 := ⟨_, rfl⟩
        rw [← hv3] at HV1 HP1
        have HV3 : Hid (v3.ownBlock = v.ownBlock) := HV1
        have HP3 : Hid (PsAt (w1.alloc (.cells #[.string ⟨#[116, 101, 115, 116]⟩, .int .i64 i, .int .i64 0, .int .i64 0, .slice none 0 0] 63)) b n 0 at' v3 L.tail) := HP1.out.below (below_alloc_ (Below.refl _ _) _)
        have HO3 : Hid (Ot (fun k => k = b) wr (w1.alloc (.cells #[.string ⟨#[116, 101, 115, 116]⟩, .int .i64 i, .int .i64 0, .int .i64 0, .slice none 0 0] 63))) := HO1.out.alloc _
        clear hfbe HP1 HO1 HX HV1 hv3
        generalize w1.alloc (.cells #[.string ⟨#[116, 101, 115, 116]⟩, .int .i64 i, .int .i64 0, .int .i64 0, .slice none 0 0] 63) = w3 at *
        obtain ⟨L3, hL3⟩ : ∃ L3, L3 = L.tail := ⟨_, rfl⟩
        have HS3 : Hid (∀ y ∈ L3, y ∈ L) := fun y hy => by rw [hL3] at hy; exact tail_mem _ hy
        have HRS3 : Hid (tstF n i L.tail = (match testF i (hdW L3) with | .ok t => .ok (t, L3.tail) | .error c => .error (c, hdP n L3))) := by show _ = _; rw [hL3]; exact HRS.out
        rw [← hL3] at HP3
        clear hL3 HRS
        rcases L3 with _ | ⟨x, L4⟩
        · obtain ⟨sx, cap, rfl⟩ : ∃ x cap, v3 = .slice x 0 cap := by rcases HP3.out.row.form with ⟨h, _⟩ | ⟨b, o, c, h, _⟩ <;> exact ⟨_, _, h⟩
          have HRE : Hid (tstF n i L.tail = .error (3, n)) := by show _ = _; rw [HRS3.out]; rfl
          obtain ⟨c0, c1, c2, c3, f0, f2, f3⟩ := HP3.out.cells
          go_wp2_with fail
          refine (fail_any at' w3 HP3.out 3).mono ?_
          rintro e w4 ⟨rfl, hp4, ho4⟩
          have HP4 : Hid (PsAt w4 b n 3 ((n : Nat) : Int) (.slice sx 0 cap) []) := hp4
          have HO4 : Hid (Ot (fun k => k = b) wr w4) := HO3.out.trans ho4
          clear hp4 ho4
          go_wp2
          go_ret
          exact ⟨_, _, _, _, HP4.out, HV3.out, HO4.out, HS3.out, Or.inr ⟨_, _, _, HRE.out, rfl, rfl, by decide, rfl⟩⟩
        · obtain ⟨g, off, cap, rfl, hn, hx, hlt, hcs⟩ := HP3.out.row.some (by simp)
          have k0 : w3.cell? ⟨g, off, none⟩ = some (.string ⟨x.1.toArray⟩) := hcs 0 _ (by simp [flt, sgc, strV])
          have hgb : g ≠ b := fun e => HP3.out.ne (by rw [e]; rfl)
          have hgl : g < wr.heap.size := HVL.out g (by rw [← HV3.out]; rfl)
          have hl : (0 : Int) < ((L4.length + 1 : Nat) : Int) := by omega
          have hl2 : ¬ ((L4.length + 1 : Nat) : Int) = 0 := by omega
          have hxs : x.1.length ≤ 2000 := HSH.out x (HS3.out x (by simp))
          obtain ⟨m, hm⟩ := (HGL.out w3 HO3.out).ml
          have HIX : Hid (Calls Tryz.prog 25 #[.string ⟨x.1.toArray⟩, .string ⟨#[46, 46]⟩] w3 fun e w' => e = .returned (.int .i64 (Lib.index x.1 [46, 46])) ∧ w' = w3) := by
            have := Tryz.strings_Index ⟨x.1.toArray⟩ ⟨#[46, 46]⟩ m w3 (by simp [ByteArray.size]; omega) hm
            exact this
          have HGN : Hid (Glob w3) := (HGL.out w3 HO3.out).num
          obtain ⟨c0, c1, c2, c3, f0, f2, f3⟩ := HP3.out.cells
          obtain ⟨t0, t2, t3, y0, y2, y3⟩ := HT3.out.cells
          have hlt3 := HT3.out.lt
          clear hcs hm
          go_wp2_with fail
          refine HIX.out.mono ?_
          rintro e w3 ⟨rfl, rfl⟩
          clear HIX
          by_cases hix : 0 ≤ Lib.index x.1 [46, 46]
          · obtain ⟨k, hk⟩ : ∃ k : Nat, Lib.index x.1 [46, 46] = k := ⟨_, (Int.toNat_of_nonneg hix).symm⟩
            have hkr : k + 2 ≤ x.1.length := by have := Lib.index_room _ _ hix; rw [hk] at this; simp at this; omega
            have hcu : cutA x.1 = x.1.take k ∧ cutB x.1 = x.1.drop (k + 2) := by have := cut_yes hix; rw [hk] at this; simpa using this
            have HCU : Hid (cutA x.1 = x.1.take k ∧ cutB x.1 = x.1.drop (k + 2)) := hcu
            have hA : ((⟨x.1.toArray⟩ : ByteArray).extract 0 k).data.toList = x.1.take k := by have := ext_val ⟨x.1.toArray⟩ 0 k; rw [Nat.zero_add] at this; rw [this]; simp
            have hB : ((⟨x.1.toArray⟩ : ByteArray).extract (k + 2) x.1.length).data.toList = x.1.drop (k + 2) := by have := ext_val ⟨x.1.toArray⟩ (k + 2) (x.1.length - (k + 2)); rw [show k + 2 + (x.1.length - (k + 2)) = x.1.length by omega, show (⟨x.1.toArray⟩ : ByteArray).data.toList = x.1 from List.toList_toArray] at this; rw [this]; exact (List.toList_toArray).trans (List.take_of_length_le (by rw [List.length_drop]; exact Nat.le_refl _))
            rw [hk]
            clear hix hk hcu
            have o1 : ¬ (k : Int) < 0 := by omega
            have HAE : Hid (((⟨x.1.toArray⟩ : ByteArray).extract 0 k).data.toList = x.1.take k) := hA
            have HBE : Hid (((⟨x.1.toArray⟩ : ByteArray).extract (k + 2) x.1.length).data.toList = x.1.drop (k + 2)) := hB
            have HAS : Hid (((⟨x.1.toArray⟩ : ByteArray).extract 0 k).size ≤ 2000) := by show _ ≤ _; rw [← ByteArray.size_data, ← Array.length_toList, hA, List.length_take]; omega
            have HBS : Hid (((⟨x.1.toArray⟩ : ByteArray).extract (k + 2) x.1.length).size ≤ 2000) := by show _ ≤ _; rw [← ByteArray.size_data, ← Array.length_toList, hB, List.length_drop]; omega
            have HTF : Hid (tstF n i L.tail = (match (match numF (x.1.take k) with | none => (.error (numC (x.1.take k)) : Except Int Ft) | some lo => match numF (x.1.drop (k + 2)) with | none => .error (numC (x.1.drop (k + 2))) | some hi => if hi < lo then .error 10 else .ok ⟨1, i, lo, hi, []⟩) with | .ok t => .ok (t, L4) | .error c => .error (c, x.2))) := by show _ = _; rw [HRS3.out, ← HCU.out.1, ← HCU.out.2]; rfl
            clear hA hB HCU HRS3
            cases hqA : numF (x.1.take k) with
            | none =>
              have HNC : Hid (numC (x.1.take k) ≠ 0) := by show numC (x.1.take k) ≠ 0; unfold numC; split <;> decide
              have HRE : Hid (tstF n i L.tail = .error (numC (x.1.take k), x.2)) := by show _ = _; rw [HTF.out, hqA]
              clear HTF
              have HGNw3 : Hid (Glob w3) := (HGL.out w3 HO3.out).num
              have hltw3 := HT3.out.lt
              have hfn := field_no w3 HP3.out ((⟨x.1.toArray⟩ : ByteArray).extract 0 k) HAS.out HGNw3.out (by rw [HAE.out]; exact hqA)
              rw [HAE.out] at hfn
              have HFN : Hid (Calls Tryz.prog 26 #[.pointer (some ⟨b, 0, none⟩), .string ((⟨x.1.toArray⟩ : ByteArray).extract 0 k)] w3 fun e w' => (∃ q, e = .returned (.int .i64 q)) ∧ PsAt w' b n (numC (x.1.take k)) ((x.2 : Nat) : Int) (.slice (some ⟨g, off, none⟩) (L4.length + 1) cap) (x :: L4) ∧ Ot (· = b) w3 w') := hfn
              clear hfn
              go_wp2_with fail
              refine HFN.out.mono ?_
              rintro e w5 ⟨⟨q1, rfl⟩, hp5, ho5⟩
              have HPm : Hid (PsAt w5 b n (numC (x.1.take k)) ((x.2 : Nat) : Int) (.slice (some ⟨g, off, none⟩) (L4.length + 1) cap) (x :: L4)) := hp5
              have HTm : Hid (TB w5 fb ⟨#[116, 101, 115, 116]⟩ i 0 0) := HT3.out.keep (ho5.block fb hltw3 (by omega))
              have HOm : Hid (Ot (fun k => k = b) wr w5) := HO3.out.trans ho5
              clear hp5 ho5 HFN
              obtain ⟨t0, t2, t3, y0, y2, y3⟩ := HTm.out.cells
              have hltm := HTm.out.lt
              go_upto_region 42 with fail
              have HP6 : Hid (PsAt (w5.setCell ⟨fb, 2, none⟩ (.int .i64 q1)) b n (numC (x.1.take k)) ((x.2 : Nat) : Int) (.slice (some ⟨g, off, none⟩) (L4.length + 1) cap) (x :: L4)) := HPm.out.setO (by omega) (fun j hj => by have := HVL.out j (HV3.out ▸ hj); omega)
              have HT6 : Hid (TB (w5.setCell ⟨fb, 2, none⟩ (.int .i64 q1)) fb ⟨#[116, 101, 115, 116]⟩ i q1 0) := HTm.out.set2 q1
              have HO6 : Hid (Ot (fun k => k = b) wr (w5.setCell ⟨fb, 2, none⟩ (.int .i64 q1))) := HOm.out.setCell (p := ⟨fb, 2, none⟩) (Or.inr hfb) _
              clear HPm HTm HOm t0 t2 t3 y0 y2 y3 hltm
              generalize (w5.setCell ⟨fb, 2, none⟩ (.int .i64 q1)) = w6 at *
              have o2 : (numC (x.1.take k) == 0) = false := by simpa using HNC.out
              have HGNw6 : Hid (Glob w6) := (HGL.out w6 HO6.out).num
              have hltw6 := HT6.out.lt
              have hfd := field_done w6 HP6.out HNC.out ((⟨x.1.toArray⟩ : ByteArray).extract (k + 2) x.1.length) HBS.out HGNw6.out
              have HFD : Hid (Calls Tryz.prog 26 #[.pointer (some ⟨b, 0, none⟩), .string ((⟨x.1.toArray⟩ : ByteArray).extract (k + 2) x.1.length)] w6 fun e w' => (∃ q, e = .returned (.int .i64 q)) ∧ Below w6.heap.size w6 w') := hfd
              clear hfd
              go_wp2_with fail
              refine HFD.out.mono ?_
              rintro e w7 ⟨⟨q2, rfl⟩, hb5⟩
              have HPm : Hid (PsAt w7 b n (numC (x.1.take k)) ((x.2 : Nat) : Int) (.slice (some ⟨g, off, none⟩) (L4.length + 1) cap) (x :: L4)) := HP6.out.below hb5
              have HTm : Hid (TB w7 fb ⟨#[116, 101, 115, 116]⟩ i q1 0) := HT6.out.keep (hb5.block fb hltw6)
              have HOm : Hid (Ot (fun k => k = b) wr w7) := HO6.out.trans (Ot.of_below hb5)
              clear hb5 HFD
              obtain ⟨t0, t2, t3, y0, y2, y3⟩ := HTm.out.cells
              have hltm := HTm.out.lt
              go_upto_region 43 with fail
              have HP8 : Hid (PsAt (w7.setCell ⟨fb, 3, none⟩ (.int .i64 q2)) b n (numC (x.1.take k)) ((x.2 : Nat) : Int) (.slice (some ⟨g, off, none⟩) (L4.length + 1) cap) (x :: L4)) := HPm.out.setO (by omega) (fun j hj => by have := HVL.out j (HV3.out ▸ hj); omega)
              have HT8 : Hid (TB (w7.setCell ⟨fb, 3, none⟩ (.int .i64 q2)) fb ⟨#[116, 101, 115, 116]⟩ i q1 q2) := HTm.out.set3 q2
              have HO8 : Hid (Ot (fun k => k = b) wr (w7.setCell ⟨fb, 3, none⟩ (.int .i64 q2))) := HOm.out.setCell (p := ⟨fb, 3, none⟩) (Or.inr hfb) _
              clear HPm HTm HOm t0 t2 t3 y0 y2 y3 hltm
              generalize (w7.setCell ⟨fb, 3, none⟩ (.int .i64 q2)) = w8 at *
              have HP9 : Hid (PsAt w8.drew b n (numC (x.1.take k)) ((x.2 : Nat) : Int) (.slice (some ⟨g, off, none⟩) (L4.length + 1) cap) (x :: L4)) := HP8.out.below (Below.refl _ _).drew
              have HT9 : Hid (TB w8.drew fb ⟨#[116, 101, 115, 116]⟩ i q1 q2) := HT8.out.keep rfl
              have HO9 : Hid (Ot (fun k => k = b) wr w8.drew) := HO8.out.trans (Ot.of_below (Below.refl _ _).drew)
              obtain ⟨t0, t2, t3, y0, y2, y3⟩ := HT8.out.cells
              have hlt8 := HT8.out.lt
              go_region
              all_goals
                generalize w8.drew = w9 at *
                by_cases hlt : q2 < q1
                · go_wp2_with fail
                  refine (fail_done _ HP9.out HNC.out 10).mono ?_
                  rintro e w9 ⟨rfl, rfl⟩
                  obtain ⟨z0, z1, z2, z3, z4, z5, z6⟩ := HP9.out.cells
                  go_wp2
                  go_ret
                  exact ⟨_, _, _, _, HP9.out, HV3.out, HO9.out, HS3.out, Or.inr ⟨_, _, _, HRE.out, rfl, rfl, HNC.out, rfl⟩⟩
                · obtain ⟨z0, z1, z2, z3, z4, z5, z6⟩ := HP9.out.cells
                  go_wp2
                  go_ret
                  exact ⟨_, _, _, _, HP9.out, HV3.out, HO9.out, HS3.out, Or.inr ⟨_, _, _, HRE.out, rfl, rfl, HNC.out, rfl⟩⟩
            | some lo =>
              have HQA : Hid (0 ≤ lo ∧ lo ≤ 1000000000) := numF_in hqA
              cases hqB : numF (x.1.drop (k + 2)) with
              | none =>
                have HNC : Hid (numC (x.1.drop (k + 2)) ≠ 0) := by show numC (x.1.drop (k + 2)) ≠ 0; unfold numC; split <;> decide
                have HRE : Hid (tstF n i L.tail = .error (numC (x.1.drop (k + 2)), x.2)) := by show _ = _; rw [HTF.out, hqA, hqB]
                clear HTF
                have HGNw3 : Hid (Glob w3) := (HGL.out w3 HO3.out).num
                have hltw3 := HT3.out.lt
                have hfy := field_yes b w3 ((⟨x.1.toArray⟩ : ByteArray).extract 0 k) HAS.out HGNw3.out lo (by rw [HAE.out]; exact hqA)
                have HFY : Hid (Calls Tryz.prog 26 #[.pointer (some ⟨b, 0, none⟩), .string ((⟨x.1.toArray⟩ : ByteArray).extract 0 k)] w3 fun e w' => e = .returned (.int .i64 lo) ∧ Below w3.heap.size w3 w') := hfy
                clear hfy
                go_wp2_with fail
                refine HFY.out.mono ?_
                rintro e w5 ⟨rfl, hb5⟩
                have HPm : Hid (PsAt w5 b n 0 at' (.slice (some ⟨g, off, none⟩) (L4.length + 1) cap) (x :: L4)) := HP3.out.below hb5
                have HTm : Hid (TB w5 fb ⟨#[116, 101, 115, 116]⟩ i 0 0) := HT3.out.keep (hb5.block fb hltw3)
                have HOm : Hid (Ot (fun k => k = b) wr w5) := HO3.out.trans (Ot.of_below hb5)
                clear hb5 HFY
                obtain ⟨t0, t2, t3, y0, y2, y3⟩ := HTm.out.cells
                have hltm := HTm.out.lt
                go_upto_region 42 with fail
                have HP6 : Hid (PsAt (w5.setCell ⟨fb, 2, none⟩ (.int .i64 lo)) b n 0 at' (.slice (some ⟨g, off, none⟩) (L4.length + 1) cap) (x :: L4)) := HPm.out.setO (by omega) (fun j hj => by have := HVL.out j (HV3.out ▸ hj); omega)
                have HT6 : Hid (TB (w5.setCell ⟨fb, 2, none⟩ (.int .i64 lo)) fb ⟨#[116, 101, 115, 116]⟩ i lo 0) := HTm.out.set2 lo
                have HO6 : Hid (Ot (fun k => k = b) wr (w5.setCell ⟨fb, 2, none⟩ (.int .i64 lo))) := HOm.out.setCell (p := ⟨fb, 2, none⟩) (Or.inr hfb) _
                clear HPm HTm HOm t0 t2 t3 y0 y2 y3 hltm
                generalize (w5.setCell ⟨fb, 2, none⟩ (.int .i64 lo)) = w6 at *
                have HGNw6 : Hid (Glob w6) := (HGL.out w6 HO6.out).num
                have hltw6 := HT6.out.lt
                have hfn := field_no w6 HP6.out ((⟨x.1.toArray⟩ : ByteArray).extract (k + 2) x.1.length) HBS.out HGNw6.out (by rw [HBE.out]; exact hqB)
                rw [HBE.out] at hfn
                have HFN : Hid (Calls Tryz.prog 26 #[.pointer (some ⟨b, 0, none⟩), .string ((⟨x.1.toArray⟩ : ByteArray).extract (k + 2) x.1.length)] w6 fun e w' => (∃ q, e = .returned (.int .i64 q)) ∧ PsAt w' b n (numC (x.1.drop (k + 2))) ((x.2 : Nat) : Int) (.slice (some ⟨g, off, none⟩) (L4.length + 1) cap) (x :: L4) ∧ Ot (· = b) w6 w') := hfn
                clear hfn
                go_wp2_with fail
                refine HFN.out.mono ?_
                rintro e w7 ⟨⟨q2, rfl⟩, hp5, ho5⟩
                have HPm : Hid (PsAt w7 b n (numC (x.1.drop (k + 2))) ((x.2 : Nat) : Int) (.slice (some ⟨g, off, none⟩) (L4.length + 1) cap) (x :: L4)) := hp5
                have HTm : Hid (TB w7 fb ⟨#[116, 101, 115, 116]⟩ i lo 0) := HT6.out.keep (ho5.block fb hltw6 (by omega))
                have HOm : Hid (Ot (fun k => k = b) wr w7) := HO6.out.trans ho5
                clear hp5 ho5 HFN
                obtain ⟨t0, t2, t3, y0, y2, y3⟩ := HTm.out.cells
                have hltm := HTm.out.lt
                go_upto_region 43 with fail
                have HP8 : Hid (PsAt (w7.setCell ⟨fb, 3, none⟩ (.int .i64 q2)) b n (numC (x.1.drop (k + 2))) ((x.2 : Nat) : Int) (.slice (some ⟨g, off, none⟩) (L4.length + 1) cap) (x :: L4)) := HPm.out.setO (by omega) (fun j hj => by have := HVL.out j (HV3.out ▸ hj); omega)
                have HT8 : Hid (TB (w7.setCell ⟨fb, 3, none⟩ (.int .i64 q2)) fb ⟨#[116, 101, 115, 116]⟩ i lo q2) := HTm.out.set3 q2
                have HO8 : Hid (Ot (fun k => k = b) wr (w7.setCell ⟨fb, 3, none⟩ (.int .i64 q2))) := HOm.out.setCell (p := ⟨fb, 3, none⟩) (Or.inr hfb) _
                clear HPm HTm HOm t0 t2 t3 y0 y2 y3 hltm
                generalize (w7.setCell ⟨fb, 3, none⟩ (.int .i64 q2)) = w8 at *
                have o2 : (numC (x.1.drop (k + 2)) == 0) = false := by simpa using HNC.out
                have HP9 : Hid (PsAt w8.drew b n (numC (x.1.drop (k + 2))) ((x.2 : Nat) : Int) (.slice (some ⟨g, off, none⟩) (L4.length + 1) cap) (x :: L4)) := HP8.out.below (Below.refl _ _).drew
                have HT9 : Hid (TB w8.drew fb ⟨#[116, 101, 115, 116]⟩ i lo q2) := HT8.out.keep rfl
                have HO9 : Hid (Ot (fun k => k = b) wr w8.drew) := HO8.out.trans (Ot.of_below (Below.refl _ _).drew)
                obtain ⟨t0, t2, t3, y0, y2, y3⟩ := HT8.out.cells
                have hlt8 := HT8.out.lt
                go_region
                all_goals
                  generalize w8.drew = w9 at *
                  by_cases hlt : q2 < lo
                  · go_wp2_with fail
                    refine (fail_done _ HP9.out HNC.out 10).mono ?_
                    rintro e w9 ⟨rfl, rfl⟩
                    obtain ⟨z0, z1, z2, z3, z4, z5, z6⟩ := HP9.out.cells
                    go_wp2
                    go_ret
                    exact ⟨_, _, _, _, HP9.out, HV3.out, HO9.out, HS3.out, Or.inr ⟨_, _, _, HRE.out, rfl, rfl, HNC.out, rfl⟩⟩
                  · obtain ⟨z0, z1, z2, z3, z4, z5, z6⟩ := HP9.out.cells
                    go_wp2
                    go_ret
                    exact ⟨_, _, _, _, HP9.out, HV3.out, HO9.out, HS3.out, Or.inr ⟨_, _, _, HRE.out, rfl, rfl, HNC.out, rfl⟩⟩
              | some hi =>
                have HQB : Hid (0 ≤ hi ∧ hi ≤ 1000000000) := numF_in hqB
                have HGNw3 : Hid (Glob w3) := (HGL.out w3 HO3.out).num
                have hltw3 := HT3.out.lt
                have hfy := field_yes b w3 ((⟨x.1.toArray⟩ : ByteArray).extract 0 k) HAS.out HGNw3.out lo (by rw [HAE.out]; exact hqA)
                have HFY : Hid (Calls Tryz.prog 26 #[.pointer (some ⟨b, 0, none⟩), .string ((⟨x.1.toArray⟩ : ByteArray).extract 0 k)] w3 fun e w' => e = .returned (.int .i64 lo) ∧ Below w3.heap.size w3 w') := hfy
                clear hfy
                go_wp2_with fail
                refine HFY.out.mono ?_
                rintro e w5 ⟨rfl, hb5⟩
                have HPm : Hid (PsAt w5 b n 0 at' (.slice (some ⟨g, off, none⟩) (L4.length + 1) cap) (x :: L4)) := HP3.out.below hb5
                have HTm : Hid (TB w5 fb ⟨#[116, 101, 115, 116]⟩ i 0 0) := HT3.out.keep (hb5.block fb hltw3)
                have HOm : Hid (Ot (fun k => k = b) wr w5) := HO3.out.trans (Ot.of_below hb5)
                clear hb5 HFY
                obtain ⟨t0, t2, t3, y0, y2, y3⟩ := HTm.out.cells
                have hltm := HTm.out.lt
                go_upto_region 42 with fail
                have HP6 : Hid (PsAt (w5.setCell ⟨fb, 2, none⟩ (.int .i64 lo)) b n 0 at' (.slice (some ⟨g, off, none⟩) (L4.length + 1) cap) (x :: L4)) := HPm.out.setO (by omega) (fun j hj => by have := HVL.out j (HV3.out ▸ hj); omega)
                have HT6 : Hid (TB (w5.setCell ⟨fb, 2, none⟩ (.int .i64 lo)) fb ⟨#[116, 101, 115, 116]⟩ i lo 0) := HTm.out.set2 lo
                have HO6 : Hid (Ot (fun k => k = b) wr (w5.setCell ⟨fb, 2, none⟩ (.int .i64 lo))) := HOm.out.setCell (p := ⟨fb, 2, none⟩) (Or.inr hfb) _
                clear HPm HTm HOm t0 t2 t3 y0 y2 y3 hltm
                generalize (w5.setCell ⟨fb, 2, none⟩ (.int .i64 lo)) = w6 at *
                have HGNw6 : Hid (Glob w6) := (HGL.out w6 HO6.out).num
                have hltw6 := HT6.out.lt
                have hfy := field_yes b w6 ((⟨x.1.toArray⟩ : ByteArray).extract (k + 2) x.1.length) HBS.out HGNw6.out hi (by rw [HBE.out]; exact hqB)
                have HFY : Hid (Calls Tryz.prog 26 #[.pointer (some ⟨b, 0, none⟩), .string ((⟨x.1.toArray⟩ : ByteArray).extract (k + 2) x.1.length)] w6 fun e w' => e = .returned (.int .i64 hi) ∧ Below w6.heap.size w6 w') := hfy
                clear hfy
                go_wp2_with fail
                refine HFY.out.mono ?_
                rintro e w7 ⟨rfl, hb5⟩
                have HPm : Hid (PsAt w7 b n 0 at' (.slice (some ⟨g, off, none⟩) (L4.length + 1) cap) (x :: L4)) := HP6.out.below hb5
                have HTm : Hid (TB w7 fb ⟨#[116, 101, 115, 116]⟩ i lo 0) := HT6.out.keep (hb5.block fb hltw6)
                have HOm : Hid (Ot (fun k => k = b) wr w7) := HO6.out.trans (Ot.of_below hb5)
                clear hb5 HFY
                obtain ⟨t0, t2, t3, y0, y2, y3⟩ := HTm.out.cells
                have hltm := HTm.out.lt
                go_upto_region 43 with fail
                have HP8 : Hid (PsAt (w7.setCell ⟨fb, 3, none⟩ (.int .i64 hi)) b n 0 at' (.slice (some ⟨g, off, none⟩) (L4.length + 1) cap) (x :: L4)) := HPm.out.setO (by omega) (fun j hj => by have := HVL.out j (HV3.out ▸ hj); omega)
                have HT8 : Hid (TB (w7.setCell ⟨fb, 3, none⟩ (.int .i64 hi)) fb ⟨#[116, 101, 115, 116]⟩ i lo hi) := HTm.out.set3 hi
                have HO8 : Hid (Ot (fun k => k = b) wr (w7.setCell ⟨fb, 3, none⟩ (.int .i64 hi))) := HOm.out.setCell (p := ⟨fb, 3, none⟩) (Or.inr hfb) _
                clear HPm HTm HOm t0 t2 t3 y0 y2 y3 hltm
                generalize (w7.setCell ⟨fb, 3, none⟩ (.int .i64 hi)) = w8 at *
                have HP9 : Hid (PsAt w8.drew b n 0 at' (.slice (some ⟨g, off, none⟩) (L4.length + 1) cap) (x :: L4)) := HP8.out.below (Below.refl _ _).drew
                have HT9 : Hid (TB w8.drew fb ⟨#[116, 101, 115, 116]⟩ i lo hi) := HT8.out.keep rfl
                have HO9 : Hid (Ot (fun k => k = b) wr w8.drew) := HO8.out.trans (Ot.of_below (Below.refl _ _).drew)
                obtain ⟨t0, t2, t3, y0, y2, y3⟩ := HT8.out.cells
                have hlt8 := HT8.out.lt
                go_region
                all_goals
                  generalize w8.drew = w9 at *
                  by_cases hlt : hi < lo
                  · have HRE : Hid (tstF n i L.tail = .error (10, x.2)) := by show _ = _; rw [HTF.out, hqA, hqB]; simp [hlt]
                    go_wp2_with fail
                    refine (fail_any at' _ HP9.out 10).mono ?_
                    rintro e w10 ⟨rfl, hp10, ho10⟩
                    have HP10 : Hid (PsAt w10 b n 10 ((x.2 : Nat) : Int) (.slice (some ⟨g, off, none⟩) (L4.length + 1) cap) (x :: L4)) := hp10
                    have HO10 : Hid (Ot (fun k => k = b) wr w10) := HO9.out.trans ho10
                    clear hp10 ho10
                    obtain ⟨z0, z1, z2, z3, z4, z5, z6⟩ := HP10.out.cells
                    go_wp2
                    go_ret
                    exact ⟨_, _, _, _, HP10.out, HV3.out, HO10.out, HS3.out, Or.inr ⟨_, _, _, HRE.out, rfl, rfl, by decide, rfl⟩⟩
                  · have HRE : Hid (tstF n i L.tail = .ok (⟨1, i, lo, hi, []⟩, L4)) := by show _ = _; rw [HTF.out, hqA, hqB]; simp [hlt]
                    obtain ⟨z0, z1, z2, z3, z4, z5, z6⟩ := HP9.out.cells
                    go_wp2
                    all_goals go_ret
                    · have hc : cap = 1 := by assumption
                      exact ⟨0, at', .slice (some ⟨g, off, none⟩) L4.length 0, L4, HP9.out.set (rseg_tail HP9.out.row off 0 (Or.inr ⟨hc, rfl, rfl⟩)) (by simp [Value.ownBlock, hgb]), HV3.out, HO9.out.setCell (p := ⟨b, 0, none⟩) (Or.inl rfl) _, fun y hy => HS3.out y (List.mem_cons_of_mem _ hy), Or.inl ⟨_, fb, HRE.out, rfl, rfl, rfl, (HT9.out.keep (heap_setCell_other _ ⟨b, 0, none⟩ fb _ (by show fb ≠ b; omega))).test hfb hf HQA.out.1 (by omega) HQB.out.2⟩⟩
                    · exact ⟨0, at', .slice (some ⟨g, off + 2, none⟩) L4.length (cap - 1), L4, HP9.out.set (rseg_tail HP9.out.row (off + 2) (cap - 1) (Or.inl ⟨rfl, rfl⟩)) (by simp [Value.ownBlock, hgb]), HV3.out, HO9.out.setCell (p := ⟨b, 0, none⟩) (Or.inl rfl) _, fun y hy => HS3.out y (List.mem_cons_of_mem _ hy), Or.inl ⟨_, fb, HRE.out, rfl, rfl, rfl, (HT9.out.keep (heap_setCell_other _ ⟨b, 0, none⟩ fb _ (by show fb ≠ b; omega))).test hfb hf HQA.out.1 (by omega) HQB.out.2⟩⟩
          · have HCU : Hid (cutA x.1 = x.1 ∧ cutB x.1 = x.1) := cut_no hix
            generalize Lib.index x.1 [46, 46] = ix at *
            have o1 : ix < 0 := by omega
            cases hq : numF x.1 with
            | none =>
              have HRE : Hid (tstF n i L.tail = .error (numC x.1, x.2)) := by show _ = _; rw [HRS3.out]; show (match testF i x.1 with | .ok t => (.ok (t, L4) : Rd) | .error c => .error (c, x.2)) = _; unfold testF; rw [HCU.out.1, HCU.out.2, hq]
              have HNC : Hid (numC x.1 ≠ 0) := by show numC x.1 ≠ 0; unfold numC; split <;> decide
              have hfn := field_no w3 HP3.out ⟨x.1.toArray⟩ (by simp [ByteArray.size]; omega) HGN.out (by show numF x.1.toArray.toList = none; rw [List.toList_toArray]; exact hq)
              rw [show (⟨x.1.toArray⟩ : ByteArray).data.toList = x.1 from List.toList_toArray] at hfn
              have HFN : Hid (Calls Tryz.prog 26 #[.pointer (some ⟨b, 0, none⟩), .string ⟨x.1.toArray⟩] w3 fun e w' => (∃ q, e = .returned (.int .i64 q)) ∧ PsAt w' b n (numC x.1) ((x.2 : Nat) : Int) (.slice (some ⟨g, off, none⟩) (L4.length + 1) cap) (x :: L4) ∧ Ot (· = b) w3 w') := hfn
              clear hfn hq
              generalize numC x.1 = nc at *
              have o2 : (nc == 0) = false := by simpa using HNC.out
              go_wp2_with fail
              refine HFN.out.mono ?_
              rintro e w5 ⟨⟨q, rfl⟩, hp5, ho5⟩
              have HP5 : Hid (PsAt w5 b n nc ((x.2 : Nat) : Int) (.slice (some ⟨g, off, none⟩) (L4.length + 1) cap) (x :: L4)) := hp5
              have HT5 : Hid (TB w5 fb ⟨#[116, 101, 115, 116]⟩ i 0 0) := HT3.out.keep (ho5.block fb hlt3 (by omega))
              have HO5 : Hid (Ot (fun k => k = b) wr w5) := HO3.out.trans ho5
              obtain ⟨t0, t2, t3, y0, y2, y3⟩ := HT5.out.cells
              have hlt5 := HT5.out.lt
              clear hp5 ho5 HFN
              go_upto_region 45 with fail
              have HP6 : Hid (PsAt ((w5.setCell ⟨fb, 2, none⟩ (.int .i64 q)).setCell ⟨fb, 3, none⟩ (.int .i64 q)) b n nc ((x.2 : Nat) : Int) (.slice (some ⟨g, off, none⟩) (L4.length + 1) cap) (x :: L4)) := (HP5.out.setO (by omega) (fun j hj => by have := HVL.out j (HV3.out ▸ hj); omega)).setO (by omega) (fun j hj => by have := HVL.out j (HV3.out ▸ hj); omega)
              have HO6 : Hid (Ot (fun k => k = b) wr ((w5.setCell ⟨fb, 2, none⟩ (.int .i64 q)).setCell ⟨fb, 3, none⟩ (.int .i64 q))) := (HO5.out.setCell (p := ⟨fb, 2, none⟩) (Or.inr hfb) _).setCell (p := ⟨fb, 3, none⟩) (Or.inr hfb) _
              clear HP5 HT5 HO5 t0 t2 t3 y0 y2 y3
              generalize (w5.setCell ⟨fb, 2, none⟩ (.int .i64 q)).setCell ⟨fb, 3, none⟩ (.int .i64 q) = w6 at *
              obtain ⟨z0, z1, z2, z3, z4, z5, z6⟩ := HP6.out.cells
              go_wp2
              go_ret
              exact ⟨_, _, _, _, HP6.out, HV3.out, HO6.out, HS3.out, Or.inr ⟨_, _, _, HRE.out, rfl, rfl, HNC.out, rfl⟩⟩
            | some q =>
              have HQ : Hid (0 ≤ q ∧ q ≤ 1000000000) := numF_in hq
              have HRE : Hid (tstF n i L.tail = .ok (⟨1, i, q, q, []⟩, L4)) := by show _ = _; rw [HRS3.out]; show (match testF i x.1 with | .ok t => (.ok (t, L4) : Rd) | .error c => .error (c, x.2)) = _; unfold testF; rw [HCU.out.1, HCU.out.2, hq]; simp
              have hfy := field_yes b w3 ⟨x.1.toArray⟩ (by simp [ByteArray.size]; omega) HGN.out q (by show numF x.1.toArray.toList = some q; rw [List.toList_toArray]; exact hq)
              have HFY : Hid (Calls Tryz.prog 26 #[.pointer (some ⟨b, 0, none⟩), .string ⟨x.1.toArray⟩] w3 fun e w' => e = .returned (.int .i64 q) ∧ Below w3.heap.size w3 w') := hfy
              clear hfy hq
              go_wp2_with fail
              refine HFY.out.mono ?_
              rintro e w5 ⟨rfl, hb5⟩
              have HP5 : Hid (PsAt w5 b n 0 at' (.slice (some ⟨g, off, none⟩) (L4.length + 1) cap) (x :: L4)) := HP3.out.below hb5
              have HT5 : Hid (TB w5 fb ⟨#[116, 101, 115, 116]⟩ i 0 0) := HT3.out.keep (hb5.block fb hlt3)
              have HO5 : Hid (Ot (fun k => k = b) wr w5) := HO3.out.trans (Ot.of_below hb5)
              obtain ⟨t0, t2, t3, y0, y2, y3⟩ := HT5.out.cells
              have hlt5 := HT5.out.lt
              clear hb5 HFY
              go_upto_region 45 with fail
              have HP6 : Hid (PsAt ((w5.setCell ⟨fb, 2, none⟩ (.int .i64 q)).setCell ⟨fb, 3, none⟩ (.int .i64 q)) b n 0 at' (.slice (some ⟨g, off, none⟩) (L4.length + 1) cap) (x :: L4)) := (HP5.out.setO (by omega) (fun j hj => by have := HVL.out j (HV3.out ▸ hj); omega)).setO (by omega) (fun j hj => by have := HVL.out j (HV3.out ▸ hj); omega)
              have HT6 : Hid (TB ((w5.setCell ⟨fb, 2, none⟩ (.int .i64 q)).setCell ⟨fb, 3, none⟩ (.int .i64 q)) fb ⟨#[116, 101, 115, 116]⟩ i q q) := (HT5.out.set2 q).set3 q
              have HO6 : Hid (Ot (fun k => k = b) wr ((w5.setCell ⟨fb, 2, none⟩ (.int .i64 q)).setCell ⟨fb, 3, none⟩ (.int .i64 q))) := (HO5.out.setCell (p := ⟨fb, 2, none⟩) (Or.inr hfb) _).setCell (p := ⟨fb, 3, none⟩) (Or.inr hfb) _
              clear HP5 HT5 HO5 t0 t2 t3 y0 y2 y3
              generalize (w5.setCell ⟨fb, 2, none⟩ (.int .i64 q)).setCell ⟨fb, 3, none⟩ (.int .i64 q) = w6 at *
              obtain ⟨z0, z1, z2, z3, z4, z5, z6⟩ := HP6.out.cells
              go_wp2
              all_goals go_ret
              · have hc : cap = 1 := by assumption
                exact ⟨0, at', .slice (some ⟨g, off, none⟩) L4.length 0, L4, HP6.out.set (rseg_tail HP6.out.row off 0 (Or.inr ⟨hc, rfl, rfl⟩)) (by simp [Value.ownBlock, hgb]), HV3.out, HO6.out.setCell (p := ⟨b, 0, none⟩) (Or.inl rfl) _, fun y hy => HS3.out y (List.mem_cons_of_mem _ hy), Or.inl ⟨_, fb, HRE.out, rfl, rfl, rfl, (HT6.out.keep (heap_setCell_other _ ⟨b, 0, none⟩ fb _ (by show fb ≠ b; omega))).test hfb hf HQ.out.1 (Int.le_refl _) HQ.out.2⟩⟩
              · exact ⟨0, at', .slice (some ⟨g, off + 2, none⟩) L4.length (cap - 1), L4, HP6.out.set (rseg_tail HP6.out.row (off + 2) (cap - 1) (Or.inl ⟨rfl, rfl⟩)) (by simp [Value.ownBlock, hgb]), HV3.out, HO6.out.setCell (p := ⟨b, 0, none⟩) (Or.inl rfl) _, fun y hy => HS3.out y (List.mem_cons_of_mem _ hy), Or.inl ⟨_, fb, HRE.out, rfl, rfl, rfl, (HT6.out.keep (heap_setCell_other _ ⟨b, 0, none⟩ fb _ (by show fb ≠ b; omega))).test hfb hf HQ.out.1 (Int.le_refl _) HQ.out.2⟩⟩
end Go.Proofs.YtibecinojkkjpaaGreatDoor
