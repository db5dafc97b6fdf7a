/-
  package signs: a text cut into its signs, in new memory. Conditions: the bytes that are signs of their own are below 128.
  package signs: which texts are numbers. Conditions: what strconv lays is laid; the text has 20000 bytes at most.
  package signs: a reader anywhere at the head of a block, its next sign; which texts are numbers. Conditions: none.
-/
import Derived.Test.YtfakjedolecdcaaGreatDoorSg
import Derived.Test.YtfakjedolecdcaaGreatDoorSy0
import Derived.Laws.ResultCell
import Derived.Lib.IndexBytes
import Derived.Test.YtfakjedolecdcaaGreatDoorShelf
import Derived.Lib.AppendIntMem
import Derived.Lib.AtoiErrMem
import Derived.Lib.ParseIntBTie
import Derived.Lib.OthersKept
namespace Go.Proofs.YtfakjedolecdcaaGreatDoor
open Go.RowKit Go.Extern.Stop Go.Stop Go.Extern

/-- How many bytes the sign, or the blank, has with which a text begins. -/
def lenL (al l : List UInt8) : Nat := if Lib.indexAny l al = 0 then 1 else if Lib.indexAny l al = -1 then l.length else (Lib.indexAny l al).toNat
theorem indexAny_lt (al : List UInt8) : ∀ l : List UInt8, -1 ≤ Lib.indexAny l al ∧ Lib.indexAny l al < (l.length : Int)
  | [] => by simp [Lib.indexAny]
  | b :: l => by
    have := indexAny_lt al l
    simp only [Lib.indexAny, List.length_cons]
    split
    · omega
    · split
      · omega
      · rename_i h
        have h2 : ¬ Lib.indexAny l al = -1 := by simpa using h
        omega
theorem lenL_bd {al l : List UInt8} (h : l ≠ []) : 1 ≤ lenL al l ∧ lenL al l ≤ l.length := by
  have h1 := indexAny_lt al l
  have h2 : 1 ≤ l.length := by cases l with | nil => exact absurd rfl h | cons => simp
  unfold lenL
  split
  · omega
  · split
    · omega
    · omega
theorem length_any (s c : ByteArray) (w : World) (hs : s.size < 4294967281) (hc : c.size < 4294967281) (h2 : 2 ≤ c.size) (hb : ascii c.data.toList) :
    Calls Tryz.prog 30 #[.string s, .string c] w fun e w' => e = .returned (.int .i64 (lenL c.data.toList s.data.toList)) ∧ Below w.heap.size w w' := by
  have HIX : Hid (Calls Tryz.prog 44 #[.string s, .string c] w fun e w' => e = .returned (.int .i64 (Lib.indexAny s.data.toList c.data.toList)) ∧ Below w.heap.size w w') := indexAny_any s c w hs hc h2 hb
  have hx := indexAny_lt c.data.toList s.data.toList
  obtain ⟨ix, hix⟩ : ∃ ix, Lib.indexAny s.data.toList c.data.toList = ix := ⟨_, rfl⟩
  have HLN : Hid (lenL c.data.toList s.data.toList = if ix = 0 then 1 else if ix = -1 then s.data.toList.length else ix.toNat) := by show _ = _; unfold lenL; rw [hix]
  have hsz : s.data.toList.length = s.size := Array.length_toList
  rw [hix] at HIX hx
  rw [hsz] at HLN hx
  clear hb hix hsz
  by_cases h0 : ix = 0
  · have HE : Hid (lenL c.data.toList s.data.toList = 1) := by have := HLN.out; rw [if_pos h0] at this; exact this
    have o1 : (ix == 0) = true := by simpa using h0
    clear h0 HLN
    go_enter Tryz.func30, Tryz.ntmps30
    go_wp2_with (go_at_call 44; refine HIX.out.mono ?_; rintro e w1 ⟨rfl, hb1⟩)
    go_ret
    exact ⟨by rw [HE.out]; rfl, hb1⟩
  · by_cases h1 : ix = -1
    · have HE : Hid (lenL c.data.toList s.data.toList = s.size) := by have := HLN.out; rw [if_neg h0, if_pos h1] at this; exact this
      subst h1
      clear h0 HLN
      go_enter Tryz.func30, Tryz.ntmps30
      go_wp2_with (go_at_call 44; refine HIX.out.mono ?_; rintro e w1 ⟨rfl, hb1⟩)
      go_ret
      exact ⟨by rw [HE.out]; rfl, hb1⟩
    · have HE : Hid ((lenL c.data.toList s.data.toList : Int) = ix) := by have := HLN.out; rw [if_neg h0, if_neg h1] at this; show _ = _; rw [this]; omega
      have o1 : (ix == 0) = false := by simpa using h0
      have o2 : (ix == -1) = false := by simpa using h1
      clear HLN h0 h1
      go_enter Tryz.func30, Tryz.ntmps30
      go_wp2_with (go_at_call 44; refine HIX.out.mono ?_; rintro e w1 ⟨rfl, hb1⟩)
      go_ret
      exact ⟨by rw [HE.out]; rfl, hb1⟩
/-- A text's signs, with their places. -/
def signF (al : List UInt8) : Nat → List UInt8 → Nat → List (List UInt8 × Nat)
  | 0, _, _ => []
  | _ + 1, [], _ => []
  | f + 1, b :: l, p => (if (b :: l).take (lenL al (b :: l)) = [32] then [] else [((b :: l).take (lenL al (b :: l)), p)]) ++ signF al f ((b :: l).drop (lenL al (b :: l))) (p + lenL al (b :: l))
def strV (l : List UInt8) : Value := .string ⟨l.toArray⟩
def sgc (x : List UInt8 × Nat) : List Value := [strV x.1, .int .i64 x.2]
theorem sgc_len (x : List UInt8 × Nat) : (sgc x).length = 2 := rfl
theorem infoSign : (Tryz.prog.info? 60).map (fun i => (i.zero, i.size, i.bytes)) = some (some (.agg #[.string ⟨#[]⟩, .int .i64 0]), 2, 24) := by kernel_rfl
theorem signF_nil (al : List UInt8) (f p : Nat) : signF al f [] p = [] := by cases f <;> rfl
theorem signF_fuel (al : List UInt8) : ∀ (f g : Nat) (l : List UInt8) (p : Nat), l.length ≤ f → l.length ≤ g → signF al f l p = signF al g l p := by
  intro f
  induction f with
  | zero => intro g l p h _; obtain rfl := List.length_eq_zero_iff.1 (by omega : l.length = 0); rw [signF_nil, signF_nil]
  | succ f ih =>
    intro g l p h h2
    cases l with
    | nil => rw [signF_nil, signF_nil]
    | cons b l =>
      cases g with
      | zero => simp at h2
      | succ g =>
        have hk := lenL_bd (al := al) (l := b :: l) (by simp)
        simp only [List.length_cons] at h h2 hk
        simp only [signF]
        rw [ih g _ _ (by simp only [List.length_drop, List.length_cons]; omega) (by simp only [List.length_drop, List.length_cons]; omega)]
def signsL (al l : List UInt8) (p : Nat) : List (List UInt8 × Nat) := signF al l.length l p
theorem signsL_cons {al l : List UInt8} {p : Nat} (h : l ≠ []) : signsL al l p = (if l.take (lenL al l) = [32] then [] else [(l.take (lenL al l), p)]) ++ signsL al (l.drop (lenL al l)) (p + lenL al l) := by
  cases l with
  | nil => exact absurd rfl h
  | cons b l =>
    have hk := lenL_bd (al := al) (l := b :: l) (by simp)
    unfold signsL
    simp only [List.length_cons, signF]
    rw [signF_fuel al l.length _ _ _ (by simp only [List.length_drop, List.length_cons]; omega) (Nat.le_refl _)]
theorem ext_list (s : ByteArray) (a k : Nat) : (s.extract a (a + k)).data.toList = (s.data.toList.drop a).take k := by
  simp [ByteArray.data_extract, Array.toList_extract, List.extract_eq_take_drop]
theorem ext_val (s : ByteArray) (a k : Nat) : s.extract a (a + k) = ⟨((s.data.toList.drop a).take k).toArray⟩ := by
  rw [← ext_list]
theorem app_list (c : ByteArray) : (({ data := #[32] } : ByteArray) ++ c).data.toList = 32 :: c.data.toList := by
  simp
theorem app_size (c : ByteArray) : (({ data := #[32] } : ByteArray) ++ c).size = 1 + c.size := by
  have h := congrArg List.length (app_list c)
  rw [Array.length_toList, List.length_cons, Array.length_toList] at h
  have h2 : (({ data := #[32] } : ByteArray) ++ c).size = (({ data := #[32] } : ByteArray) ++ c).data.size := rfl
  have h3 : c.size = c.data.size := rfl
  omega
theorem toList_data (b : ByteArray) : b.toList = b.data.toList := ByteArray.toList_eq b
theorem bytes_eq {l : List UInt8} {s : ByteArray} (h : s.data.toList = l) : s = ⟨l.toArray⟩ := by
  cases s with | mk d => simp at h; rw [← h]
/-- A reader in block b. -/
def RdB (w : World) (b : Nat) (rv : Value) (n : Nat) : Prop := w.heap[b]? = some (.cells #[rv, .string ⟨#[]⟩, .int .i64 n] 62 (0, 0))
theorem RdB.cells {w : World} {b : Nat} {rv : Value} {n : Nat} (h : RdB w b rv n) : w.cell? ⟨b, 0, none⟩ = some rv ∧ w.cell? ⟨b, 1, none⟩ = some (.string ⟨#[]⟩) ∧ w.cell? ⟨b, 2, none⟩ = some (.int .i64 n) ∧ w.frozen? ⟨b, 0, none⟩ = false ∧ w.frozen? ⟨b, 1, none⟩ = false ∧ w.frozen? ⟨b, 2, none⟩ = false := by
  have hb : w.heap[b]? = _ := h
  refine ⟨?_, ?_, ?_, ?_, ?_, ?_⟩
  all_goals simp [World.cell?, World.frozen?, hb]
theorem RdB.mid {w W w2 : World} {row : Option Nat} {b : Nat} {rv : Value} {n : Nat} (h : RdB w b rv n) (hW : Below w.heap.size w W) (hg : W.grownBy w2 row) (hr : row ≠ some b) : RdB w2 b rv n :=
  (hg.block b (Nat.lt_of_lt_of_le (lt_of_block h) hW.size) (fun e => hr e.symm)).trans ((hW.block b (lt_of_block h)).trans h)
theorem RdB.set {w : World} {b : Nat} {rv : Value} {n : Nat} (h : RdB w b rv n) (v : Value) : RdB (w.setCell ⟨b, 0, none⟩ v) b v n := by
  unfold RdB
  rw [heap_setCell_here h v]
  simp
theorem heap_off_ {w : World} {b i r : Nat} {u : Value} (hr : r ≠ b) : (w.setCell ⟨b, i, none⟩ u).heap[r]? = w.heap[r]? :=
  Below.heap_setCell _ _ _ _ hr
theorem sizeReader : (Tryz.prog.info? 62).map (·.size) = some 3 := by kernel_rfl
set_option maxRecDepth 20000 in
set_option maxHeartbeats 4000000 in
theorem read_any (s c : ByteArray) (w : World) (hs : s.size ≤ 2000) (hc : c.size ≤ 1000) (h1 : 1 ≤ c.size) (hb : ascii c.data.toList) :
    Calls Tryz.prog 18 #[.string s, .string c] w fun e w' => ∃ rv, e = .returned (.agg #[rv, .string ⟨#[]⟩, .int .i64 s.size]) ∧ Seg w' 60 2 rv (signsL (32 :: c.data.toList) s.data.toList 0).length (flt sgc (signsL (32 :: c.data.toList) s.data.toList 0)) ∧ (∀ b, rv.ownBlock = some b → w.heap.size ≤ b) ∧ Below w.heap.size w w' := by
  obtain ⟨i0, hi, hz0, hz1, hz2⟩ := info_parts infoSign
  have hsz : s.data.toList.length = s.size := Array.length_toList
  have HSZ : Hid (s.data.toList.length = s.size) := hsz
  have HB : Hid (ascii (32 :: c.data.toList)) := by
    intro j b hj
    cases j with
    | zero => simp at hj; subst hj; decide
    | succ j => exact hb j b (by simpa using hj)
  clear hb hsz
  go_enter Tryz.func18, Tryz.ntmps18
  go_wp2
  have HB0 : Hid (Below w.heap.size w ((w.alloc (.cells #[.slice none 0 0, .string ⟨#[]⟩, .int .i64 0] 62)).alloc (.cells #[.slice none 0 0, .string ⟨#[]⟩, .int .i64 s.size] 62))) := below_alloc_ (below_alloc_ (Below.refl _ _) _) _
  have HR0 : Hid (RdB ((w.alloc (.cells #[.slice none 0 0, .string ⟨#[]⟩, .int .i64 0] 62)).alloc (.cells #[.slice none 0 0, .string ⟨#[]⟩, .int .i64 s.size] 62)) (w.heap.size + 1) (.slice none 0 0) s.size) := new_block_ (by simp)
  have HZ0 : Hid (((w.alloc (.cells #[.slice none 0 0, .string ⟨#[]⟩, .int .i64 0] 62)).alloc (.cells #[.slice none 0 0, .string ⟨#[]⟩, .int .i64 s.size] 62)).heap[w.heap.size]? = some (.cells #[.slice none 0 0, .string ⟨#[]⟩, .int .i64 0] 62 (0, 0))) := by show _ = _; rw [Below.heap_alloc _ _ _ (by simp)]; exact new_block _ _
  have HS0 : Hid (((w.alloc (.cells #[.slice none 0 0, .string ⟨#[]⟩, .int .i64 0] 62)).alloc (.cells #[.slice none 0 0, .string ⟨#[]⟩, .int .i64 s.size] 62)).heap.size = w.heap.size + 2) := by show _ = _; simp
  generalize (w.alloc (.cells #[.slice none 0 0, .string ⟨#[]⟩, .int .i64 0] 62)).alloc (.cells #[.slice none 0 0, .string ⟨#[]⟩, .int .i64 s.size] 62) = w0 at *
  go_loopw [6] (fun pv wr => ∃ (p : Nat) (rv : Value) (L : List (List UInt8 × Nat)), p ≤ s.size ∧ pv = .int .i64 p ∧ L.length ≤ p ∧ L ++ signsL (32 :: c.data.toList) (s.data.toList.drop p) p = signsL (32 :: c.data.toList) s.data.toList 0 ∧ RdB wr (w.heap.size + 1) rv s.size ∧ wr.heap[w.heap.size]? = some (.cells #[.slice none 0 0, .string ⟨#[]⟩, .int .i64 0] 62 (0, 0)) ∧ Seg wr 60 2 rv L.length (flt sgc L) ∧ (∀ b, rv.ownBlock = some b → w.heap.size + 2 ≤ b) ∧ Below w.heap.size w wr ∧ w.heap.size + 2 ≤ wr.heap.size) (fun pv _ => s.size - (intOf pv).toNat)
  case atStart => exact ⟨0, _, [], Nat.zero_le _, rfl, Nat.le_refl _, rfl, HR0.out, HZ0.out, Seg.nil _ _ _, fun b hb => by simp [Value.ownBlock] at hb, HB0.out, by rw [HS0.out]; exact Nat.le_refl _⟩
  case round =>
    obtain ⟨p, rv, L, hp, rfl, hll, hL, hrd, hzb, hseg, hrn, hbe, hsz2⟩ := hrel
    have HL : Hid (L ++ signsL (32 :: c.data.toList) (s.data.toList.drop p) p = signsL (32 :: c.data.toList) s.data.toList 0) := hL
    have HRD : Hid (RdB wr (w.heap.size + 1) rv s.size) := hrd
    have HZB : Hid (wr.heap[w.heap.size]? = some (.cells #[.slice none 0 0, .string ⟨#[]⟩, .int .i64 0] 62 (0, 0))) := hzb
    have HSEG : Hid (Seg wr 60 2 rv L.length (flt sgc L)) := hseg
    have HRN : Hid (∀ b, rv.ownBlock = some b → w.heap.size + 2 ≤ b) := hrn
    have HBE : Hid (Below w.heap.size w wr) := hbe
    clear hL hrd hzb hseg hrn hbe
    by_cases hlt : p < s.size
    · have hne : s.data.toList.drop p ≠ [] := fun e => by have := congrArg List.length e; rw [List.length_drop, HSZ.out] at this; simp at this; omega
      have hk := lenL_bd (al := 32 :: c.data.toList) hne
      have HSC := signsL_cons (al := 32 :: c.data.toList) (p := p) hne
      rw [List.length_drop, HSZ.out] at hk
      have HLN := length_any (s.extract p s.size) ({ data := #[32] } ++ c) wr (by rw [ByteArray.size_extract]; omega) (by rw [app_size]; omega) (by rw [app_size]; omega) (by rw [app_list]; exact HB.out)
      rw [app_list, Lib.extract_to_end] at HLN
      obtain ⟨k, hkk⟩ : ∃ k, lenL (32 :: c.data.toList) (s.data.toList.drop p) = k := ⟨_, rfl⟩
      rw [hkk] at hk HSC HLN
      have HKB : Hid (1 ≤ k ∧ k ≤ s.size - p) := hk
      have hj1 : (p : Int) ≤ (p : Int) + (k : Int) := by omega
      have hj2 : (p : Int) + (k : Int) ≤ (s.size : Int) := by omega
      have hj3 : ((p : Int) + (k : Int)).toNat = p + k := by omega
      clear hkk hne
      obtain ⟨rvx, rvn, rvc, hrv⟩ : ∃ x n c, rv = .slice x n c := by rcases HSEG.out.form with ⟨h, _⟩ | ⟨b, o, c, h, _⟩ <;> exact ⟨_, _, _, h⟩
      have HLN' : Hid (Calls Tryz.prog 30 #[.string (s.extract p s.size), .string ({ data := #[32] } ++ c)] wr fun e w' => e = .returned (.int .i64 k) ∧ Below wr.heap.size wr w') := HLN
      clear HLN hrv
      have HTL : Hid ((s.extract p (p + k)).toList = (s.data.toList.drop p).take k) := by show _ = _; rw [toList_data, ext_list]
      have hrl : ∀ b, rv.ownBlock = some b → b < wr.heap.size := fun b hb => HSEG.out.lt hb
      by_cases hbl : (s.data.toList.drop p).take k = [32]
      · have o1 : ((s.extract p (p + k)).toList == [32]) = true := by rw [HTL.out, hbl]; rfl
        have HNX : Hid (signsL (32 :: c.data.toList) (s.data.toList.drop p) p = signsL (32 :: c.data.toList) (s.data.toList.drop (p + k)) (p + k)) := by
          show _ = _
          rw [HSC, if_pos hbl, List.nil_append, List.drop_drop]
        clear hbl HSC
        go_wp2_with (go_at_call 30; refine HLN'.out.mono ?_; rintro e w1 ⟨rfl, hb1⟩)
        go_roundw
        case rel =>
          have hbA : Below wr.heap.size wr (w1.alloc (.cells #[.string (s.extract p (p + k)), .int .i64 p] 60)) := hb1.alloc hb1.size _
          refine ⟨p + k, rv, L, by omega, by go_num, by omega, by rw [← HNX.out]; exact HL.out, (hbA.block _ (by omega)).trans HRD.out, (hbA.block _ (by omega)).trans HZB.out, HSEG.out.below hbA, HRN.out, HBE.out.trans (hbA.mono HBE.out.size), by have := hbA.size; omega⟩
        case measure => simp [intOf]; omega
      · have o1 : ((s.extract p (p + k)).toList == [32]) = false := by rw [HTL.out]; simpa using hbl
        have HNX : Hid (signsL (32 :: c.data.toList) (s.data.toList.drop p) p = ((s.data.toList.drop p).take k, p) :: signsL (32 :: c.data.toList) (s.data.toList.drop (p + k)) (p + k)) := by
          show _ = _
          rw [HSC, if_neg hbl, List.drop_drop]
          rfl
        have hne4 : rv.ownBlock ≠ some (w.heap.size + 1) := fun e => by have := HRN.out _ e; omega
        have HSV : Hid (strV ((s.data.toList.drop p).take k) = .string (s.extract p (p + k))) := by show _ = _; unfold strV; rw [← ext_val]
        clear hbl HSC
        go_wp2_with (first | (go_at_call 30; refine HLN'.out.mono ?_; rintro e w1 ⟨rfl, hb1⟩; have hrd1 : w1.heap[w.heap.size + 1]? = some (.cells #[rv, .string ⟨#[]⟩, .int .i64 s.size] 62 (0, 0)) := (hb1.block _ (by omega)).trans HRD.out; have r0 : w1.cell? ⟨w.heap.size + 1, 0, none⟩ = some rv := (by simp [World.cell?, hrd1]); have f0 : w1.frozen? ⟨w.heap.size + 1, 0, none⟩ = false := (by simp [World.frozen?, hrd1]); have hl1 := lt_of_block hrd1; have HR1 : Hid (RdB w1 (w.heap.size + 1) rv s.size) := hrd1) | (at_builtin; refine wpList_append_seg _ rfl (.tmp 35) (.tmp 37) 58 rfl 60 i0 _ 2 24 Tryz.underlying58 hi hz0 hz1 hz2 rfl (by decide) _ _ _ rfl ((HSEG.out.below hb1).below (by repeat' (first | with_reducible exact Below.refl _ _ | with_reducible refine Below.drew ?_ | with_reducible refine below_alloc_ ?_ _))) _ 1 1 _ rfl rfl (news_of (new_block_ (by simp))) (by simp [Value.oneCell']) (by decide) (by unfold maxLen; omega) (by omega) _ rfl ?_; intro g goff gcap w2 hs2 hg2 ha2 hl2; have hm2 := HR1.out.mid (by repeat' (first | with_reducible exact Below.refl _ _ | with_reducible refine Below.drew ?_ | with_reducible refine below_alloc_ ?_ _)) hg2 hne4; obtain ⟨t0, _, _, e0, _, _⟩ := hm2.cells))
        have hgb : w.heap.size + 2 ≤ g := by
          rcases ha2 with ha2 | ha2
          · exact HRN.out _ ha2
          · simp at ha2; omega
        have hw2 : w1.heap.size + 2 ≤ w2.heap.size := by have := hg2.size; simp at this; omega
        have hb2 : Below w.heap.size w w2 := (below_alloc_ (below_alloc_ (HBE.out.trans (hb1.mono HBE.out.size)) _) _).grown hg2 (by simp; have := hb1.size; have := HBE.out.size; omega) (fun j hj => by have := HRN.out j hj; omega)
        have hz2 : w2.heap[w.heap.size]? = some (.cells #[.slice none 0 0, .string ⟨#[]⟩, .int .i64 0] 62 (0, 0)) := by
          rw [hg2.block w.heap.size (by simp; have := hb1.size; omega) (fun e => by have := HRN.out _ e.symm; omega)]
          rw [Below.heap_alloc _ _ _ (by simp; have := hb1.size; omega), Below.heap_alloc _ _ _ (by have := hb1.size; omega)]
          exact (hb1.block _ (by omega)).trans HZB.out
        go_roundw
        case rel =>
          refine ⟨p + k, _, L ++ [((s.data.toList.drop p).take k, p)], by omega, by go_num, by simp; omega, ?_, hm2.set _, ?_, ?_, ?_, ?_, ?_⟩
          · rw [List.append_assoc, List.singleton_append, ← HNX.out]; exact HL.out
          · rw [heap_off_ (by simp)]; exact hz2
          · have h := hs2.setCell (p := ⟨w.heap.size + 1, 0, none⟩) (by simp [Value.ownBlock]; omega) (.slice (some ⟨g, goff, none⟩) (L.length + 1) gcap)
            rw [List.length_append, flt_append]
            have h2 : flt sgc [((s.data.toList.drop p).take k, p)] = [.string (s.extract p (p + k)), .int .i64 p] := by simp [flt, sgc, HSV.out]
            rw [h2]
            exact h
          · intro j hj
            simp only [Value.ownBlock, Option.some.injEq] at hj
            subst hj
            exact hgb
          · exact hb2.setCell (by simp) _
          · simp; have := hb1.size; omega
        case measure => simp [intOf]; omega
    · obtain rfl : p = s.size := by omega
      obtain ⟨rvx, rvn, rvc, rfl⟩ : ∃ x n c, rv = .slice x n c := by rcases HSEG.out.form with ⟨h, _⟩ | ⟨b, o, c, h, _⟩ <;> exact ⟨_, _, _, h⟩
      have hrd := HRD.out
      unfold RdB at hrd
      have r0 : wr.cell? ⟨w.heap.size + 1, 0, none⟩ = some (.slice rvx rvn rvc) := by simp [World.cell?, hrd]
      have r1 : wr.cell? ⟨w.heap.size + 1, 1, none⟩ = some (.string ⟨#[]⟩) := by simp [World.cell?, hrd]
      have r2 : wr.cell? ⟨w.heap.size + 1, 2, none⟩ = some (.int .i64 s.size) := by simp [World.cell?, hrd]
      have z0 : wr.cell? ⟨w.heap.size, 0, none⟩ = some (.slice none 0 0) := by simp [World.cell?, HZB.out]
      have z1 : wr.cell? ⟨w.heap.size, 1, none⟩ = some (.string ⟨#[]⟩) := by simp [World.cell?, HZB.out]
      have z2 : wr.cell? ⟨w.heap.size, 2, none⟩ = some (.int .i64 0) := by simp [World.cell?, HZB.out]
      have y0 : wr.frozen? ⟨w.heap.size, 0, none⟩ = false := by simp [World.frozen?, HZB.out]
      have y1 : wr.frozen? ⟨w.heap.size, 1, none⟩ = false := by simp [World.frozen?, HZB.out]
      have y2 : wr.frozen? ⟨w.heap.size, 2, none⟩ = false := by simp [World.frozen?, HZB.out]
      have HRL : Hid (∀ b, (Value.slice rvx rvn rvc).ownBlock = some b → w.heap.size + 2 ≤ b) := HRN.out
      clear hrd
      go_wp2
      (try simp only [Exit.inBlock, Exit.then])
      have hz3 : (((wr.setCell ⟨w.heap.size, 0, none⟩ (.slice rvx rvn rvc)).setCell ⟨w.heap.size, 1, none⟩ (.string ⟨#[]⟩)).setCell ⟨w.heap.size, 2, none⟩ (.int .i64 s.size)).heap[w.heap.size]? = some (.cells #[.slice rvx rvn rvc, .string ⟨#[]⟩, .int .i64 s.size] 62 (0, 0)) := by
        rw [heap_setCell_here (heap_setCell_here (heap_setCell_here HZB.out _) _) _]
        simp
      refine bodyPost_ret (v := .agg #[.slice rvx rvn rvc, .string ⟨#[]⟩, .int .i64 s.size]) ?_ rfl ⟨.slice rvx rvn rvc, rfl, ?_, ?_, ?_⟩
      · exact results_cell_row rfl _ _ w.heap.size 62 _ (0, 0) _ rfl hz3 Tryz.underlying62 rfl sizeReader
      · have hl := HL.out
        rw [← HSZ.out, List.drop_length, show signsL (32 :: c.data.toList) [] s.data.toList.length = [] from rfl, List.append_nil] at hl
        rw [← hl]
        have hx : ∀ i, (Value.slice rvx rvn rvc).ownBlock ≠ some (⟨w.heap.size, i, none⟩ : Addr).block := fun i e => by have := HRN.out _ e; simp at this; omega
        exact ((HSEG.out.setCell (hx 0) _).setCell (hx 1) _).setCell (hx 2) _
      · intro b hb
        have := HRN.out b hb
        omega
      · exact ((HBE.out.setCell (by simp) _).setCell (by simp) _).setCell (by simp) _
end Go.Proofs.YtfakjedolecdcaaGreatDoor
namespace Go.Proofs.YtfakjedolecdcaaGreatDoor
open Go.RowKit Go.Extern.Stop Go.Stop Go.Extern

theorem toList_dataN (b : ByteArray) : b.toList = b.data.toList := ByteArray.toList_eq b
/-- What strconv has laid: its powers of ten, its two errors. -/
def Glob (w : World) : Prop := Lib.TabIs Tryz.prog w "internal/strconv.uint64pow10" .u64 Lib.pow10Tab ∧ (∃ tp p, w.var? Tryz.prog "strconv.ErrSyntax" = some #[.iface tp p]) ∧ ∃ tp p, w.var? Tryz.prog "strconv.ErrRange" = some #[.iface tp p]
theorem var_kept {w w' : World} {s : String} {a : Array Value} (h : w.var? Tryz.prog s = some a) (hb : Below w.heap.size w w') : w'.var? Tryz.prog s = some a := by
  unfold World.var? at h ⊢
  cases hg : Tryz.prog.globalNamed s with
  | none => rw [hg] at h; exact h
  | some g =>
    rw [hg] at h
    simp only [Option.bind_some] at h ⊢
    have hlt : g < w.heap.size := by
      rcases Nat.lt_or_ge g w.heap.size with h2 | h2
      · exact h2
      · rw [Array.getElem?_eq_none h2] at h; simp at h
    rw [hb.block g hlt]
    exact h
theorem Glob.below {w w' : World} (h : Glob w) (hb : Below w.heap.size w w') : Glob w' :=
  ⟨var_kept h.1 hb, h.2.1.imp fun _ h => h.imp fun _ h => var_kept h hb, h.2.2.imp fun _ h => h.imp fun _ h => var_kept h hb⟩
/-- The number that a word is. -/
def numL (l : List UInt8) : Option Int := match Lib.parseIntB 64 l with | .ok v => if Lib.itoa v = l then some v else none | _ => none
theorem number_any' (s : ByteArray) (w : World) (hs : s.size ≤ 20000) (hG : Glob w) :
    Calls Tryz.prog 62 #[.string s] w fun e w' => e = .returned (.tuple #[.int .i64 ((numL s.data.toList).getD 0), .bool (numL s.data.toList).isSome]) ∧ Below w.heap.size w w' := by
  rcases hp : Lib.parseIntB 64 s.data.toList with v | _ | _
  ·
    have hv : -9223372036854775808 ≤ v ∧ v ≤ 9223372036854775807 := by have := Lib.parseIntB_bounds hp; simp at this; omega
    have HP : Hid (Calls Tryz.prog 78 #[.string s, .int .i64 10, .int .i64 64] w fun e w' => e = .returned (.tuple #[.int .i64 v, .nilIface]) ∧ Below w.heap.size w w') := by
      refine (Tryz.strconv_ParseInt_10_at64_ok s (by omega) v hp w).mono ?_
      rintro e w' ⟨rfl, rfl | ⟨t, rfl⟩⟩
      · exact ⟨rfl, Below.refl _ _⟩
      · exact ⟨rfl, Lib.bytesWorld_below _ _ _⟩
    have HF : Hid (∀ w1, Below w.heap.size w w1 → Calls Tryz.prog 79 #[.int .i64 v, .int .i64 10] w1 fun e w' => e = .returned (.string ⟨(Lib.itoa v).toArray⟩) ∧ Below w1.heap.size w1 w') := by
      intro w1 hb1
      refine (Tryz.strconv_FormatInt_10 v hv.1 hv.2 w1 (hG.below hb1).1).mono ?_
      rintro e w' ⟨rfl, k, os, rfl⟩
      exact ⟨rfl, Lib.below_grow _ _ (Nat.le_refl _) _ _⟩
    by_cases hq : Lib.itoa v = s.data.toList
    · have o1 : (Lib.itoa v == s.toList) = true := by rw [toList_dataN]; simpa using hq
      have HN : Hid (numL s.data.toList = some v) := by show _ = _; unfold numL; rw [hp]; simp [hq]
      clear hp hq
      go_enter Tryz.func62, Tryz.ntmps62
      go_wp2_with (first | (go_at_call 78; refine HP.out.mono ?_; rintro e w1 ⟨rfl, hb1⟩) | (go_at_call 79; refine (HF.out _ hb1).mono ?_; rintro e w2 ⟨rfl, hb2⟩))
      go_ret2
      exact ⟨by rw [HN.out]; rfl, hb1.trans (hb2.mono hb1.size)⟩
    · have o1 : (Lib.itoa v == s.toList) = false := by rw [toList_dataN]; simpa using hq
      have HN : Hid (numL s.data.toList = none) := by show _ = _; unfold numL; rw [hp]; simp [hq]
      clear hp hq
      go_enter Tryz.func62, Tryz.ntmps62
      go_wp2_with (first | (go_at_call 78; refine HP.out.mono ?_; rintro e w1 ⟨rfl, hb1⟩) | (go_at_call 79; refine (HF.out _ hb1).mono ?_; rintro e w2 ⟨rfl, hb2⟩))
      go_ret2
      exact ⟨by rw [HN.out]; rfl, hb1.trans (hb2.mono hb1.size)⟩
  ·
    obtain ⟨tp, pv, hvar⟩ := hG.2.1
    have HP : Hid (Calls Tryz.prog 78 #[.string s, .int .i64 10, .int .i64 64] w fun e w' => ∃ N, e = .returned (.tuple #[.int .i64 0, .iface 207 (.pointer (some ⟨N, 0, none⟩))]) ∧ Below w.heap.size w w') := by
      refine (Tryz.strconv_ParseInt_10_at64_bad_var s (by omega) (fun v => by rw [hp]; simp) (by rw [hp]; simp) tp pv w hvar).mono ?_
      rintro e w' ⟨N, rfl, _, _, hb⟩
      exact ⟨N, rfl, hb⟩
    have HN : Hid (numL s.data.toList = none) := by show _ = _; unfold numL; rw [hp]
    clear hp
    go_enter Tryz.func62, Tryz.ntmps62
    go_wp2_with (go_at_call 78; refine HP.out.mono ?_; rintro e w1 ⟨N, rfl, hb1⟩)
    go_ret2
    exact ⟨by rw [HN.out]; rfl, hb1⟩
  ·
    obtain ⟨tp, pv, hvar⟩ := hG.2.2
    have HP : Hid (∃ x, Calls Tryz.prog 78 #[.string s, .int .i64 10, .int .i64 64] w fun e w' => ∃ N, e = .returned (.tuple #[.int .i64 x, .iface 207 (.pointer (some ⟨N, 0, none⟩))]) ∧ Below w.heap.size w w') := by
      refine ⟨Lib.intSat 64 s.data.toList, (Tryz.strconv_ParseInt_10_at64_range_var s (by omega) hp tp pv w hvar).mono ?_⟩
      rintro e w' ⟨N, rfl, _, _, hb⟩
      exact ⟨N, rfl, hb⟩
    have HN : Hid (numL s.data.toList = none) := by show _ = _; unfold numL; rw [hp]
    clear hp
    obtain ⟨x, hP⟩ := HP.out
    have HQ : Hid (Calls Tryz.prog 78 #[.string s, .int .i64 10, .int .i64 64] w fun e w' => ∃ N, e = .returned (.tuple #[.int .i64 x, .iface 207 (.pointer (some ⟨N, 0, none⟩))]) ∧ Below w.heap.size w w') := hP
    clear HP hP
    go_enter Tryz.func62, Tryz.ntmps62
    go_wp2_with (go_at_call 78; refine HQ.out.mono ?_; rintro e w1 ⟨N, rfl, hb1⟩)
    go_ret2
    exact ⟨by rw [HN.out]; rfl, hb1⟩
theorem number_any (s : ByteArray) (w : World) (hs : s.size ≤ 2000) (hG : Glob w) :
    Calls Tryz.prog 62 #[.string s] w fun e w' => e = .returned (.tuple #[.int .i64 ((numL s.data.toList).getD 0), .bool (numL s.data.toList).isSome]) ∧ Below w.heap.size w w' := number_any' s w (by omega) hG
end Go.Proofs.YtfakjedolecdcaaGreatDoor
namespace Go.Proofs.YtfakjedolecdcaaGreatDoor
open Go.RowKit Go.Extern.Stop Go.Stop Go.Extern

/-- A reader that stands first in block b: what is left of its signs, and how many bytes its text has. -/
structure RdAt (w : World) (b : Nat) (T : TypeId) (n : Nat) (rest : List Value) (v : Value) (L : List (List UInt8 × Nat)) : Prop where
  blk : w.heap[b]? = some (.cells (v :: .string ⟨#[]⟩ :: .int .i64 n :: rest).toArray T (0, 0))
  row : Seg w 60 2 v L.length (flt sgc L)
  ne : v.ownBlock ≠ some b
section
variable {w w' : World} {b : Nat} {T : TypeId} {n : Nat} {rest : List Value} {v : Value} {L : List (List UInt8 × Nat)}
theorem RdAt.lt (h : RdAt w b T n rest v L) : b < w.heap.size := lt_of_block h.blk
theorem RdAt.cells (h : RdAt w b T n rest v L) : w.cell? ⟨b, 0, none⟩ = some v ∧ w.cell? ⟨b, 1, none⟩ = some (.string ⟨#[]⟩) ∧ w.cell? ⟨b, 2, none⟩ = some (.int .i64 n) ∧ w.frozen? ⟨b, 0, none⟩ = false := by
  have hb := h.blk
  refine ⟨?_, ?_, ?_, ?_⟩
  all_goals simp [World.cell?, World.frozen?, hb]
theorem RdAt.kept (h : RdAt w b T n rest v L) (hb : w'.heap[b]? = w.heap[b]?) (hv : ∀ k, v.ownBlock = some k → w'.heap[k]? = w.heap[k]?) : RdAt w' b T n rest v L := ⟨hb.trans h.blk, h.row.kept hv, h.ne⟩
theorem RdAt.below (h : RdAt w b T n rest v L) (hb : Below w.heap.size w w') : RdAt w' b T n rest v L := h.kept (hb.block b h.lt) fun k hk => hb.block k (h.row.lt hk)
theorem RdAt.ot {S : Nat → Prop} (h : RdAt w b T n rest v L) (ho : Ot S w w') (hb : ¬ S b) (hv : ∀ k, v.ownBlock = some k → ¬ S k) : RdAt w' b T n rest v L := h.kept (ho.block b h.lt hb) fun k hk => ho.block k (h.row.lt hk) (hv k hk)
theorem RdAt.set {v' : Value} {L' : List (List UInt8 × Nat)} (h : RdAt w b T n rest v L) (hv : Seg w 60 2 v' L'.length (flt sgc L')) (hne : v'.ownBlock ≠ some b) : RdAt (w.setCell ⟨b, 0, none⟩ v') b T n rest v' L' :=
  ⟨by rw [heap_setCell_here h.blk v']; simp, hv.setCell (p := ⟨b, 0, none⟩) hne _, hne⟩
end
theorem sizeSign : (Tryz.prog.info? 60).map (·.size) = some 2 := by kernel_rfl
def endS (n : Nat) : List UInt8 × Nat := ([], n)
def sgV (x : List UInt8 × Nat) : Value := .agg #[strV x.1, .int .i64 x.2]
theorem seg_tail {w : World} {g off cap : Nat} {x : List UInt8 × Nat} {L : List (List UInt8 × Nat)} (h : Seg w 60 2 (.slice (some ⟨g, off, none⟩) (L.length + 1) cap) (L.length + 1) (flt sgc (x :: L))) (off' cap' : Nat) (ho : off' = off + 2 ∧ cap' = cap - 1 ∨ cap = 1 ∧ off' = off ∧ cap' = 0) : Seg w 60 2 (.slice (some ⟨g, off', none⟩) L.length cap') L.length (flt sgc L) := by
  have := Seg.drop (w := w) (e := 60) (k := 2) (n := L.length + 1) (m := 1) h (by omega) off' (by omega)
  rw [flt_drop sgc 2 sgc_len] at this
  have hc : cap' = cap - 1 := by omega
  rw [hc]
  simpa using this
set_option maxHeartbeats 2000000 in
theorem sgnext_any {b : Nat} {T : TypeId} {n : Nat} {rest : List Value} {v : Value} {L : List (List UInt8 × Nat)} (w : World) (h : RdAt w b T n rest v L) :
    Calls Tryz.prog 20 #[.pointer (some ⟨b, 0, none⟩)] w fun e w' => e = .returned (sgV (L.headD (endS n))) ∧ ∃ v', RdAt w' b T n rest v' L.tail ∧ v'.ownBlock = v.ownBlock ∧ Ot (· = b) w w' := by
  have H : Hid (RdAt w b T n rest v L) := h
  have hb := h.lt
  obtain ⟨c0, c1, c2, f0⟩ := h.cells
  cases L with
  | nil =>
    obtain ⟨x, cap, rfl⟩ : ∃ x cap, v = .slice x 0 cap := by rcases h.row.form with ⟨h, _⟩ | ⟨b, o, c, h, _⟩ <;> exact ⟨_, _, h⟩
    clear h
    go_enter Tryz.func20, Tryz.ntmps20
    go_wp2
    (try simp only [Exit.inBlock, Exit.then])
    refine bodyPost_ret (v := sgV (endS n)) ?_ rfl ⟨rfl, .slice x 0 cap, H.out.below ?_, rfl, Ot.of_below ?_⟩
    · exact results_cell_row rfl _ _ w.heap.size 60 _ (0, 0) _ rfl (new_block _ _) Tryz.underlying60 rfl sizeSign
    · exact below_alloc_ (Below.refl _ _) _
    · exact below_alloc_ (Below.refl _ _) _
  | cons x L =>
    obtain ⟨g, off, cap, rfl, hn, hx, hlt, hcs⟩ := h.row.some (by simp)
    have k0 : w.cell? ⟨g, off, none⟩ = some (strV x.1) := hcs 0 _ (by simp [flt, sgc])
    have k1 : w.cell? ⟨g, off + 1, none⟩ = some (.int .i64 x.2) := hcs 1 _ (by simp [flt, sgc])
    have hsv : strV x.1 = .string ⟨x.1.toArray⟩ := rfl
    rw [hsv] at k0
    clear hcs h hsv
    go_enter Tryz.func20, Tryz.ntmps20
    go_wp2
    all_goals (try simp only [Exit.inBlock, Exit.then])
    all_goals have hgb : g ≠ b := fun e => H.out.ne (by rw [e]; rfl)
    · have hc : cap = 1 := by assumption
      refine bodyPost_ret (v := sgV x) ?_ rfl ⟨rfl, .slice (some ⟨g, off, none⟩) L.length 0, RdAt.below (H.out.set (seg_tail H.out.row off 0 (Or.inr ⟨hc, rfl, rfl⟩)) (by simp [Value.ownBlock, hgb])) ?_, rfl, ?_⟩
      · exact results_cell_row rfl _ _ w.heap.size 60 _ (0, 0) _ rfl ((Below.heap_alloc _ _ _ (by simp)).trans (new_block_ (by simp))) Tryz.underlying60 rfl sizeSign
      · exact below_alloc_ (below_alloc_ (Below.refl _ _) _) _
      · exact Ot.alloc (Ot.alloc (Ot.setCell (S := fun k => k = b) (Ot.refl _ _) (p := ⟨b, 0, none⟩) (Or.inl rfl) _) _) _
    · refine bodyPost_ret (v := sgV x) ?_ rfl ⟨rfl, .slice (some ⟨g, off + 2, none⟩) L.length (cap - 1), RdAt.below (H.out.set (seg_tail H.out.row (off + 2) (cap - 1) (Or.inl ⟨rfl, rfl⟩)) (by simp [Value.ownBlock, hgb])) ?_, rfl, ?_⟩
      · exact results_cell_row rfl _ _ w.heap.size 60 _ (0, 0) _ rfl ((Below.heap_alloc _ _ _ (by simp)).trans (new_block_ (by simp))) Tryz.underlying60 rfl sizeSign
      · exact below_alloc_ (below_alloc_ (Below.refl _ _) _) _
      · exact Ot.alloc (Ot.alloc (Ot.setCell (S := fun k => k = b) (Ot.refl _ _) (p := ⟨b, 0, none⟩) (Or.inl rfl) _) _) _
end Go.Proofs.YtfakjedolecdcaaGreatDoor
