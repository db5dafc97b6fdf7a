/-
  plant.Parse of a text that tells bands of Fifos. Conditions: the text is ASCII; its signs are those of bands of Fifos that may be.
  plant.Parse of a text that tells bands of Fifos. Conditions: as in Pn7.
-/
import Derived.Test.YtfakjedolecdcaaGreatDoorGh
namespace Go.Proofs.YtfakjedolecdcaaGreatDoor
open Go.RowKit Go.Extern.Stop Go.Stop Go.Extern

def noSp : FSp := ⟨([], 0), ([], 0), ([], 0), ([], 0), 0, 0⟩
/-- Fifos side by side. -/
def FQs (fs : List FSp) (bs : Nat → Nat) (i : Nat) : QM := FifoM (bs i) (fs.getD i noSp).P (fs.getD i noSp).R ((fs.getD i noSp).f.1 == headB)
theorem getD_sp {fs : List FSp} {i : Nat} (h : i < fs.length) : fs[i]? = some (fs.getD i noSp) := by
  rw [List.getD_eq_getElem?_getD, List.getElem?_eq_getElem h]; rfl
theorem FQs_small (fs : List FSp) (bs : Nat → Nat) {N : Nat} (hN : fs.length = N) (h1 : 1 ≤ N) (h8 : N ≤ 8) (hok : ∀ (i : Nat) (s : FSp), fs[i]? = some s → s.ok) : Small (FQs fs bs) N where
  fine := fun i hi => by
    have h := hok i _ (getD_sp (by omega))
    exact fifoM_fine _ _ _ _ h.hP.1 h.hR.1 h.hR.2
  mono := by
    intro i _ t t' n n' s h _ hn
    exact ⟨Nat.le_trans h.1 hn, h.2⟩
  len := by
    intro i _ t n s h hn
    have hf := fit_of (n := n) h (by omega)
    have h2 := Fit.sum hf.2
    have h3 := h.1
    have e1 : (FQs fs bs i).len s = (List.length (α := Hd) s : Int) := rfl
    have e2 : (FQs fs bs i).bytes s = sumL s := rfl
    rw [e1, e2]
    omega
  few := by
    intro i _ t n s now _ _
    exact Nat.zero_le _
  one := h1
  eight := h8
/-- What bands of Fifos by their text are. -/
def BandT (w w' : World) (b n : Nat) (rest : List Value) (v : Value) (fs : List FSp) (N : Nat) (R : List (List UInt8 × Nat)) (e : Ending) : Prop :=
  ∃ B g goff gcap bs v', e = .returned (.tuple #[.iface 137 (.pointer (some ⟨B, 0, none⟩)), .nilIface]) ∧ BAt (FQs fs bs) N B g goff gcap w' (fun i k => k = bs i) (fun _ => ([] : List Hd)) ∧ (∀ k, foot N B g (fun i k => k = bs i) k → w.heap.size ≤ k) ∧ RdAt w' b 65 n rest v' R ∧ v'.ownBlock = v.ownBlock ∧ Ot (fun k => k = b) w w'
theorem BqR.at {w w1 w2 : World} {b : Nat} {fs : List FSp} {N B g goff gcap : Nat} {vv : Value} {bs : Nat → Nat} (h : BqR w b fs N vv bs w1) (hN : fs.length = N) (hb : Below w1.heap.size w1 w2) (hblk : w2.heap[B]? = some (.cells #[.slice (some ⟨g, goff, none⟩) N gcap] 176 (0, 0))) (hrow : QRowAt w2 g goff N (ptrsF bs)) (hg : w1.heap.size ≤ g) (hgB : g < B) :
    BAt (FQs fs bs) N B g goff gcap w2 (fun i k => k = bs i) (fun _ => ([] : List Hd)) := by
  refine ⟨hblk, hrow, by have := lt_of_block hblk; omega, fun i hi => ?_, fun i j k hi hj e1 e2 => h.dis i j hi hj (e1.symm.trans e2), fun i hi => ?_⟩
  · exact ⟨.slice none 0 0, (h.each i _ (getD_sp (by omega)) hi).below hb, fun k => by simp [Value.ownBlock]⟩
  · have := (h.new i hi).2.2
    omega
set_option maxHeartbeats 2000000 in
theorem bands_yes {b n : Nat} {tv : Value} {k ar : Int} {v : Value} {o : List UInt8 × Nat} {fs : List FSp} {N : Nat} {R : List (List UInt8 × Nat)} (f : List UInt8 × Nat) (w : World) (h : RdAt w b 65 n [tv, .int .i64 k] v (o :: (bsigns fs ++ R))) (hB : ∀ w', Ot (fun k => k = b) w w' → Glob w') (ho : (o.1 == [40]) = true) (hN : fs.length = N) (hN1 : 1 ≤ N) (hN8 : N ≤ 8) (hk : 0 ≤ k ∧ k + N ≤ 20) (ha : 0 ≤ ar ∧ ar ≤ 7) (hok : ∀ i s, fs[i]? = some s → s.ok ∧ (s.sep.1 == [41]) = decide (i + 1 = N) ∧ (s.sep.1 == [44]) = decide (i + 1 < N)) :
    Calls Tryz.prog 37 #[.pointer (some ⟨b, 0, none⟩), .agg #[.string ⟨f.1.toArray⟩, .int .i64 f.2], .int .i64 ar] w fun e w' => BandT w w' b n [tv, .int .i64 (k + N)] v fs N R e := by
  have hb := h.lt
  have HQS : Hid (∀ w1, Below w.heap.size w w1 → Calls Tryz.prog 53 #[.pointer (some ⟨b, 0, none⟩), .int .i64 ar] w1 fun e w' => ∃ vv bs v', e = .returned (.tuple #[vv, .nilIface]) ∧ BqR w1 b fs N vv bs w' ∧ RdAt w' b 65 n [tv, .int .i64 (k + N)] v' R ∧ v'.ownBlock = v.ownBlock) := fun w1 h1 => queues_yes w1 (h.below h1) (fun w' h' => hB w' ((Ot.of_below h1).trans h')) ho hN hN1 hN8 hk ha hok
  have HN : Hid (fs.length = N) := hN
  clear h hB ho hok hN
  go_enter Tryz.func37, Tryz.ntmps37
  go_wp2_with (first
    | (go_at_call 53; refine (HQS.out _ ?_).mono ?_; exact below_alloc_ (Below.refl _ _) _; rintro e w1 ⟨vv, bs, v1, rfl, hq1, hr1, hv1⟩; have hws1 := hq1.ot.size; have hbx : w1.heap[w.heap.size]? = some (.cells #[.string ⟨f.1.toArray⟩, .int .i64 f.2] 60 (0, 0)) := (hq1.ot.block w.heap.size (by simp) (by omega)).trans (new_block _ _); have HBX : Hid (w1.heap[w.heap.size]? = some (.cells #[.string ⟨f.1.toArray⟩, .int .i64 f.2] 60 (0, 0))) := hbx; obtain ⟨g1, go1, gc1, rfl, _, _, hgl1, hgc1⟩ := hq1.row.some (by omega); have HRW : Hid (QRowAt w1 g1 go1 N (ptrsF bs)) := (fun i hi => hgc1 i _ (qcells_get hi)); have HQ1 : Hid (BqR (w.alloc (.cells #[.string ⟨f.1.toArray⟩, .int .i64 f.2] 60)) b fs N (.slice (some ⟨g1, go1, none⟩) N gc1) bs w1) := hq1; have HR1 : Hid (RdAt w1 b 65 n [tv, .int .i64 (k + N)] v1 R) := hr1; have HV1 : Hid (v1.ownBlock = v.ownBlock) := hv1; clear hbx hq1 hr1 hv1 hgc1)
    | (go_at_call 54; refine (newBands_yes w1 HRW.out hN1 hN8 hgl1).mono ?_; rintro e w2 ⟨B, g, goff, gcap, rfl, hblk, hrow, hg2, hgB, hb2⟩; have HBA : Hid (BAt (FQs fs bs) N B g goff gcap w2 (fun i k => k = bs i) (fun _ => ([] : List Hd))) := HQ1.out.at HN.out hb2 hblk hrow hg2 hgB; have HB2 : Hid (Below w1.heap.size w1 w2) := hb2; have hws2 := hb2.size; have hbx2 : w2.heap[w.heap.size]? = some (.cells #[.string ⟨f.1.toArray⟩, .int .i64 f.2] 60 (0, 0)) := (hb2.block w.heap.size (by simp at hws1; omega)).trans HBX.out; have b0 : w2.cell? ⟨w.heap.size, 0, none⟩ = some (.string ⟨f.1.toArray⟩) := (by simp [World.cell?, hbx2]); have b1 : w2.cell? ⟨w.heap.size, 1, none⟩ = some (.int .i64 f.2) := (by simp [World.cell?, hbx2]); have hbl2 := lt_of_block hbx2; clear hblk hrow hb2 hbx2)
    | (go_at_call 46; refine (made_yes f _ _).mono ?_; rintro e w3 ⟨rfl, hb3⟩))
  go_ret2
  refine ⟨B, g, goff, gcap, bs, v1, rfl, ?_, ?_, (HR1.out.below HB2.out).below hb3, HV1.out, ?_⟩
  · refine ⟨(hb3.block B (lt_of_block HBA.out.blk)).trans HBA.out.blk, fun i hi => ?_, by have := HBA.out.obl; have := hb3.size; omega, fun i hi => ?_, HBA.out.dis, HBA.out.nB⟩
    · rw [hb3.cell (p := ⟨g, goff + i, none⟩) HBA.out.obl]
      exact HBA.out.row i hi
    · exact ⟨.slice none 0 0, (((HQ1.out.each i _ (getD_sp (by have := HN.out; omega)) hi).below HB2.out).below hb3), fun k => by simp [Value.ownBlock]⟩
  · rintro k (rfl | rfl | ⟨i, hi, rfl⟩)
    · simp at hws1; omega
    · simp at hws1; omega
    · have := (HQ1.out.new i hi).1
      simp at this; omega
  · exact ((((Ot.refl _ _).alloc _).trans HQ1.out.ot).trans (Ot.of_below HB2.out)).trans (Ot.of_below hb3)
end Go.Proofs.YtfakjedolecdcaaGreatDoor
namespace Go.Proofs.YtfakjedolecdcaaGreatDoor
open Go.RowKit Go.Extern.Stop Go.Stop Go.Extern

def bandsB : List UInt8 := [98, 97, 110, 100, 115]
structure Fits (fs : List FSp) (N : Nat) : Prop where
  len : fs.length = N
  one : 1 ≤ N
  eight : N ≤ 8
  each : ∀ (i : Nat) (s : FSp), fs[i]? = some s → s.ok ∧ (s.sep.1 == [41]) = decide (i + 1 = N) ∧ (s.sep.1 == [44]) = decide (i + 1 < N)
set_option maxHeartbeats 4000000 in
theorem queue_bands {b n : Nat} {tv : Value} {k ar : Int} {v : Value} {f o : List UInt8 × Nat} {fs : List FSp} {N : Nat} {R : List (List UInt8 × Nat)} (w : World) (h : RdAt w b 65 n [tv, .int .i64 k] v (f :: o :: (bsigns fs ++ R))) (hB : ∀ w', Ot (fun k => k = b) w w' → Glob w') (hf : f.1 = bandsB) (ho : (o.1 == [40]) = true) (hF : Fits fs N) (hk : 0 ≤ k ∧ k + 1 + N ≤ 20) (ha : 0 ≤ ar ∧ ar ≤ 6) :
    Calls Tryz.prog 19 #[.pointer (some ⟨b, 0, none⟩), .int .i64 ar] w fun e w' => BandT w w' b n [tv, .int .i64 (k + 1 + N)] v fs N R e := by
  have HNX : Hid (Calls Tryz.prog 20 #[.pointer (some ⟨b, 0, none⟩)] w fun e w' => e = .returned (.agg #[.string ⟨f.1.toArray⟩, .int .i64 f.2]) ∧ ∃ v2, RdAt w' b 65 n [tv, .int .i64 k] v2 (o :: (bsigns fs ++ R)) ∧ v2.ownBlock = v.ownBlock ∧ Ot (fun k => k = b) w w') := by
    refine (sgnext_any w h).mono ?_
    rintro e w' ⟨rfl, v2, h1, h2, h3⟩
    exact ⟨rfl, v2, h1, h2, h3⟩
  have HFF : Hid (∀ w1 v2, Ot (fun k => k = b) w w1 → RdAt w1 b 65 n [tv, .int .i64 (k + 1)] v2 (o :: (bsigns fs ++ R)) → v2.ownBlock = v.ownBlock → Calls Tryz.prog 37 #[.pointer (some ⟨b, 0, none⟩), .agg #[.string ⟨f.1.toArray⟩, .int .i64 f.2], .int .i64 (ar + 1)] w1 fun e w' => BandT w w' b n [tv, .int .i64 (k + 1 + N)] v fs N R e) := by
    intro w1 v2 ho' hr hv
    refine (bands_yes f w1 hr (fun w' h' => hB w' (ho'.trans h')) ho hF.len hF.one hF.eight (by omega) (by omega) hF.each).mono ?_
    rintro e w' ⟨B, g, goff, gcap, bs, v', rfl, h1, h2, h3, h4, h5⟩
    exact ⟨B, g, goff, gcap, bs, v', rfl, h1, fun k hk => Nat.le_trans ho'.size (h2 k hk), h3, h4.trans hv, ho'.trans h5⟩
  have hb := h.lt
  have a1 : decide ((7 : Int) < ar) = false := by simp; omega
  have a2 : decide ((20 : Int) < k + 1) = false := by simp; omega
  have a3 : IntKind.i64.wrap (k + 1) = k + 1 := by rw [IntKind.wrap_i64]; omega
  have a4 : IntKind.i64.wrap (ar + 1) = ar + 1 := by rw [IntKind.wrap_i64]; omega
  have o1 : (f.1 == [102, 105, 102, 111]) = false := by rw [hf]; rfl
  have o2 : (f.1 == [104, 101, 97, 100]) = false := by rw [hf]; rfl
  have o3 : (f.1 == [114, 101, 100]) = false := by rw [hf]; rfl
  have o4 : (f.1 == [109, 97, 114, 107]) = false := by rw [hf]; rfl
  have o5 : (f.1 == [100, 101, 108, 97, 121]) = false := by rw [hf]; rfl
  have o6 : (f.1 == [104, 97, 115, 104, 101, 100]) = false := by rw [hf]; rfl
  have o7 : (f.1 == [114, 111, 117, 110, 100, 115]) = false := by rw [hf]; rfl
  have o8 : (f.1 == [115, 104, 97, 112, 101]) = false := by rw [hf]; rfl
  have o9 : (f.1 == [98, 97, 110, 100, 115]) = true := by rw [hf]; rfl
  clear h hB hf ho hF
  go_enter Tryz.func19, Tryz.ntmps19
  go_wp2_with (go_at_call 20; refine HNX.out.mono ?_; rintro e w1 ⟨rfl, v2, hr1, hv1, ho1⟩; have HR1 : Hid (RdAt w1 b 65 n [tv, .int .i64 k] v2 (o :: (bsigns fs ++ R))) := hr1; have HV1 : Hid (v2.ownBlock = v.ownBlock) := hv1; have HO1 : Hid (Ot (fun k => k = b) w w1) := ho1; obtain ⟨r4, f4⟩ := hr1.begun; have hl1 := hr1.lt; clear hr1 hv1 ho1)
  refine (HFF.out _ v2 ((HO1.out.setCell (p := ⟨b, 4, none⟩) (Or.inl rfl) _).alloc _) ((HR1.out.begin_ (k + 1)).below (below_alloc_ (Below.refl _ _) _)) HV1.out).mono ?_
  rintro e w2 ⟨B, g, goff, gcap, bs, v', rfl, hr⟩
  go_wp2
  go_ret2
  exact ⟨B, g, goff, gcap, bs, v', rfl, hr⟩
set_option maxHeartbeats 4000000 in
theorem parse_bands {f o : List UInt8 × Nat} {fs : List FSp} {N : Nat} (s : ByteArray) (w : World) (hG : Glob w) (hs : s.size ≤ 2000) (hL : signsL [32, 40, 41, 44] s.data.toList 0 = f :: o :: bsigns fs) (hf : f.1 = bandsB) (ho : (o.1 == [40]) = true) (hF : Fits fs N) :
    Calls Tryz.prog 7 #[.string s, .slice none 0 0] w fun e w' => ∃ B g goff gcap bs, e = .returned (.tuple #[.iface 137 (.pointer (some ⟨B, 0, none⟩)), .nilIface]) ∧ BAt (FQs fs bs) N B g goff gcap w' (fun i k => k = bs i) (fun _ => ([] : List Hd)) ∧ (∀ k, foot N B g (fun i k => k = bs i) k → w.heap.size ≤ k) ∧ Below w.heap.size w w' := by
  have hpos : 0 < (f :: o :: bsigns fs).length := by simp
  have HRD : Hid (Calls Tryz.prog 18 #[.string s, .string ⟨#[40, 41, 44]⟩] w fun e w' => ∃ rv, e = .returned (.agg #[rv, .string ⟨#[]⟩, .int .i64 s.size]) ∧ Seg w' 60 2 rv (f :: o :: bsigns fs).length (flt sgc (f :: o :: bsigns fs)) ∧ (∀ b, rv.ownBlock = some b → w.heap.size ≤ b) ∧ Below w.heap.size w w') := by
    refine (read_any s ⟨#[40, 41, 44]⟩ w hs (by decide) (by decide) ?_).mono ?_
    · intro j b hj
      match j with
      | 0 => simp at hj; subst hj; decide
      | 1 => simp at hj; subst hj; decide
      | 2 => simp at hj; subst hj; decide
      | j + 3 => simp at hj
    · rintro e w' ⟨rv, rfl, hsg, hn, hb⟩
      rw [show (32 :: (⟨#[40, 41, 44]⟩ : ByteArray).data.toList) = [32, 40, 41, 44] from rfl, hL] at hsg
      exact ⟨rv, rfl, hsg, hn, hb⟩
  have HQ : Hid (∀ w1 b v, w.heap.size ≤ b → Below w.heap.size w w1 → RdAt w1 b 65 s.size [.slice none 0 0, .int .i64 0] v (f :: o :: bsigns fs) → Calls Tryz.prog 19 #[.pointer (some ⟨b, 0, none⟩), .int .i64 0] w1 fun e w' => BandT w1 w' b s.size [.slice none 0 0, .int .i64 (0 + 1 + N)] v fs N [] e) := by
    intro w1 b v hb hw hr
    refine queue_bands w1 (by rw [List.append_nil]; exact hr) (fun w' h' => hG.below ?_) hf ho hF (by have := hF.eight; omega) (by decide)
    exact hw.trans (h'.below hw.size (fun k hk => by omega))
  have a1 : decide ((2000 : Int) < (s.size : Int)) = false := by simp; omega
  generalize hm : (f :: o :: bsigns fs).length = m at *
  have hF2 := hF
  clear hG hs hL hf ho hF
  go_enter Tryz.func7, Tryz.ntmps7
  go_wp2_with (go_at_call 18; refine HRD.out.mono ?_; rintro e w1 ⟨rv, rfl, hsg, hn, hb1⟩; obtain ⟨rg, roff, rcap, rfl, _, _, _, _⟩ := hsg.some hpos)
  have hrd : RdAt (w1.alloc (.cells #[.slice (some ⟨rg, roff, none⟩) m rcap, .string ⟨#[]⟩, .int .i64 s.size, .slice none 0 0, .int .i64 0] 65)) w1.heap.size 65 s.size [.slice none 0 0, .int .i64 0] (.slice (some ⟨rg, roff, none⟩) m rcap) (f :: o :: bsigns fs) :=
    ⟨new_block _ _, by rw [hm]; exact hsg.alloc _, fun e => by have := hsg.lt e; omega⟩
  refine (HQ.out _ _ _ hb1.size (hb1.alloc hb1.size _) hrd).mono ?_
  rintro e w2 ⟨B, g, goff, gcap, bs, v', rfl, hba, hft, hr2, hv2, ho2⟩
  have hbl := hr2.lt
  have HBA : Hid (BAt (FQs fs bs) N B g goff gcap w2 (fun i k => k = bs i) (fun _ => ([] : List Hd))) := hba
  have HNX : Hid (Calls Tryz.prog 20 #[.pointer (some ⟨w1.heap.size, 0, none⟩)] w2 fun e w' => e = .returned (.agg #[.string ⟨#[]⟩, .int .i64 s.size]) ∧ Ot (fun k => k = w1.heap.size) w2 w') := by
    refine (sgnext_any w2 hr2).mono ?_
    rintro e w' ⟨rfl, _, _, _, h⟩
    exact ⟨rfl, h⟩
  have HB2 : Hid (Below w.heap.size w w2) := (hb1.alloc hb1.size _).trans (ho2.below (by simp; have := hb1.size; omega) (fun k hk => by have := hb1.size; omega))
  have HFT : Hid (∀ k, foot N B g (fun i k => k = bs i) k → w.heap.size ≤ k ∧ w1.heap.size < k) := fun k hk => by have h1 := hft k hk; have := hb1.size; simp at h1; omega
  have hw1 := hb1.size
  have HF2 : Hid (Fits fs N) := hF2
  clear hrd hsg hn hb1 hba hft hr2 hv2 ho2 HQ HRD hF2 hm
  go_wp2_with (first | (go_at_call 20; refine HNX.out.mono ?_; rintro e w3 ⟨rfl, ho3⟩) | (go_at_call 21; refine (end_any ([], s.size) _).mono ?_; rintro e w4 ⟨rfl, hb4⟩))
  go_ret2
  have hb3 : Below w.heap.size w2 w3 := ho3.below HB2.out.size (fun k hk => by omega)
  refine ⟨B, g, goff, gcap, bs, rfl, ?_, fun k hk => (HFT.out k hk).1, (HB2.out.trans hb3).trans ?_⟩
  · have hS := FQs_small fs bs HF2.out.len HF2.out.one HF2.out.eight (fun i s h => (HF2.out.each i s h).1)
    refine BAt.kept hS.fine HBA.out (fun k hk => ?_)
    have hk2 : k < w2.heap.size := by
      rcases hk with rfl | rfl | ⟨i, hi, rfl⟩
      · exact lt_of_block HBA.out.blk
      · exact HBA.out.obl
      · obtain ⟨v, h, _⟩ := HBA.out.each i hi
        exact h.lt
    have hk3 := (HFT.out k hk).2
    have hs3 := ho3.size
    rw [hb4.block k (by simp; omega), Below.heap_alloc _ _ _ (by omega), ho3.block k hk2 (by omega)]
  · exact ((Below.refl _ _).alloc (HB2.out.trans hb3).size _).trans (hb4.mono (by simp; have := (HB2.out.trans hb3).size; omega))
end Go.Proofs.YtfakjedolecdcaaGreatDoor
