/-
  (*book.Book).follow: the line with which data begins is added, if one could be. Conditions: the book and the data lie in memory; what strconv and bytealg lay is laid.
-/
import Derived.Test.YtheadpemckoljaaGreatDoorJa
namespace Go.Proofs.YtheadpemckoljaaGreatDoor
open Go.RowKit Go.Extern.Stop Go.Stop Go.Extern Go.Maps Go.WideMaps

theorem below_drewNj {B : Nat} {a w : World} (h : Below B a w) (n : Nat) : Below B a (w.drewN n) := ⟨h.os, h.tape, h.output, h.size, h.block⟩
theorem takeW_len (d : List UInt8) : (d.takeWhile (· != 10)).length ≤ d.length := (List.takeWhile_prefix _).length_le
theorem takeW_take (d : List UInt8) : d.take (d.takeWhile (· != 10)).length = d.takeWhile (· != 10) := (List.prefix_iff_eq_take.1 (List.takeWhile_prefix _)).symm
theorem cut_any (p : Option Addr) (c B2 : Nat) (d : List UInt8) (w : World) (h : DtAt w p c d) (hG : GlobB w) (hd : d.length ≤ 20000) (hB : w.cell? ⟨B2, 0, none⟩ = some (.int .u8 10)) :
    Calls Tryz.prog 50 #[.slice p d.length c, .slice (some ⟨B2, 0, none⟩) 1 1] w fun e w' => (∃ x n k b, e = .returned (.tuple #[.slice p (d.takeWhile (· != 10)).length c, .slice x n k, .bool b])) ∧ Below w.heap.size w w' := by
  obtain ⟨m, hm⟩ := hG.2
  have hx : (nums d).length = d.length := nums_len d
  refine (Tryz.bytes_Cut_all p (some ⟨B2, 0, none⟩) d.length c 1 1 (nums d) (nums [10]) m w hx rfl (nums_rng d) (nums_rng [10]) h.bytesIn (fun _ => ⟨B2, 0, rfl, fun i hi => by
    obtain rfl : i = 0 := by omega
    exact hB⟩) h.nil h.cap (by omega) (by decide) hm).mono ?_
  rintro e w' ⟨rfl, q, rfl⟩
  refine ⟨?_, below_drewNj (Below.refl _ _) q⟩
  rw [nums_bytes, nums_bytes, Lib.index_one]
  unfold Lib.cutV
  rcases first_of 10 d with h1 | ⟨a, r, rfl, ha⟩
  · have hi : Lib.indexByte d 10 = -1 := by
      rcases index_ge d 10 with h2 | ⟨o, h2⟩
      · exact h2
      · obtain ⟨_, h3, _⟩ := at_some h2
        exact absurd rfl (h1 10 (by rw [h3]; simp))
    rw [hi, takeW_none h1, if_neg (by decide)]
    exact ⟨_, _, _, _, rfl⟩
  · rw [index_first ha, takeW_some ha, if_pos (by omega), Int.toNat_natCast]
    exact ⟨_, _, _, _, rfl⟩
theorem AddP.pre {w w1 w' : World} {b : Nat} {cm : Option Nat} {jv : Value} {sure : Nat} {l : List Ent} (h : AddP w1 w' b cm jv sure l) (hb : Below w.heap.size w w1) : AddP w w' b cm jv sure l := by
  obtain ⟨cm', jv', h1, h2, h3⟩ := h
  exact ⟨cm', jv', h1, (Ot.of_below hb).trans h2, fun k hk => (h3 k hk).imp id fun e => Nat.le_trans hb.size e⟩
theorem splitK_mem (c : UInt8) : ∀ (k : Nat) (l x : List UInt8), x ∈ Lib.splitK [c] 0 k l → x.length ≤ l.length
  | 0, l, x, h => by obtain rfl := List.mem_singleton.1 h; exact Nat.le_refl _
  | k + 1, l, x, h => by
    rcases first_of c l with h1 | ⟨p, r, rfl, hp⟩
    · rw [splitK_none h1] at h
      obtain rfl := List.mem_singleton.1 h
      exact Nat.le_refl _
    · rw [splitK_some hp] at h
      rcases List.mem_cons.1 h with rfl | h
      · simp
      · have := splitK_mem c k r x h
        simp; omega
/-- What follow leaves. -/
def FolP (w : World) (b : Nat) (cm : Option Nat) (jv : Value) (sure : Nat) (l : List Ent) (r : Option Ent) (e : Ending) (w' : World) : Prop := match r with
  | some en => e = .returned (.bool true) ∧ AddP w w' b cm jv sure (l ++ [en])
  | none => e = .returned (.bool false) ∧ Below w.heap.size w w'
/-- A new row of bytes, marked as a text's. -/
theorem conv_feed (w : World) : (convert 25 25 (.slice (some ⟨w.heap.size, 0, none⟩) 1 1)).run Tryz.prog (w.alloc (.cells #[.int .u8 10] 5)) = .ok (.slice (some ⟨w.heap.size, 0, none⟩) 1 1) (w.alloc (.cells #[.int .u8 10] 5 (1, 2))) := by
  have hsh : (w.alloc (.cells #[.int .u8 10] 5)).shape? w.heap.size = some (5, 1) := by
    have : (w.alloc (.cells #[.int .u8 10] 5)).heap[w.heap.size]? = some (.cells #[.int .u8 10] 5) := new_block _ _
    unfold World.shape?
    rw [this]
    rfl
  have hm : ∀ (a : Array Obj) (x : Obj) (f : Obj → Obj), (a.push x).modify a.size f = a.push (f x) := by
    intro a x f
    apply Array.ext
    · simp
    · intro i h1 h2
      simp only [Array.getElem_modify, Array.getElem_push]
      by_cases h : a.size = i
      · subst h; simp
      · have hi : i < a.size := by simp at h1; omega
        simp [h, hi]
  have hfr : (w.alloc (.cells #[.int .u8 10] 5)).freeze ⟨w.heap.size, 1, none⟩ 1 = w.alloc (.cells #[.int .u8 10] 5 (1, 2)) := by
    unfold World.freeze
    rw [if_neg (by decide)]
    show ({ w.alloc (.cells #[.int .u8 10] 5) with heap := (w.heap.push (.cells #[.int .u8 10] 5)).modify w.heap.size _ } : World) = _
    rw [hm]
    rfl
  simp [convert, run_underlying Tryz.underlying25, run_underlying Tryz.underlying5, markStringish, hsh, hfr]
theorem cell_feed (w : World) : (w.alloc (.cells #[.int .u8 10] 5 (1, 2))).cell? ⟨w.heap.size, 0, none⟩ = some (.int .u8 10) := (World.cell?_alloc_mark w _ _ (1, 2) 0).trans rfl
/-- What four words tell. -/
def fol4 (k : Nat) (d : List UInt8) : List (List UInt8) → Option Ent
  | [_, w1, w2, _] => match numL w2 with
    | some n => if (lineL k (w1, n)).isPrefixOf d = true ∧ addE k (w1, n) = 0 then some (w1, n) else none
    | none => none
  | _ => none
theorem fol4_words (k : Nat) (d w0 w1 w2 w3 : List UInt8) : fol4 k d [w0, w1, w2, w3] = match numL w2 with
    | some n => if (lineL k (w1, n)).isPrefixOf d = true ∧ addE k (w1, n) = 0 then some (w1, n) else none
    | none => none := rfl
theorem numL_bd {l : List UInt8} {n : Int} (h : numL l = some n) : -9223372036854775808 ≤ n ∧ n ≤ 9223372036854775807 := by
  unfold numL at h
  split at h
  · rename_i v hv
    split at h
    · obtain rfl := Option.some.inj h
      have := Lib.parseIntB_bounds hv
      simp at this
      omega
    · cases h
  · cases h
theorem pre_any (p : Option Addr) (c A cap : Nat) (d L : List UInt8) (w : World) (h : DtAt w p c d) (hL : ∀ (j : Nat) x, L[j]? = some x → w.cell? ⟨A, j, none⟩ = some (.int .u8 (x.toNat : Int))) :
    Calls Tryz.prog 53 #[.slice p d.length c, .slice (some ⟨A, 0, none⟩) L.length cap] w fun e w' => e = .returned (.bool (L.isPrefixOf d)) ∧ w' = w := by
  have := Tryz.bytes_HasPrefix_all p (some ⟨A, 0, none⟩) d.length c L.length cap (nums d) (nums L) w (nums_len d) (nums_len L) h.cap h.bytesIn (fun _ => ⟨A, 0, rfl, fun i hi => by
    rw [Nat.zero_add, hL i L[i] (List.getElem?_eq_getElem hi)]
    simp [nums, List.getD, List.getElem?_eq_getElem hi]⟩)
  rw [nums_bytes, nums_bytes] at this
  exact this
theorem folL_eq (k : Nat) (d : List UInt8) : folL k d = fol4 k d (Lib.splitK [32] 0 3 (d.takeWhile (· != 10))) := rfl
set_option maxRecDepth 100000 in
set_option maxHeartbeats 4000000 in
theorem follow_any (b : Nat) (cm : Option Nat) (jv : Value) (sure : Nat) (l : List Ent) (p : Option Addr) (c : Nat) (d : List UInt8) (w : World) (h : BkAt w b cm jv sure l) (hG : GlobB w) (hd : DtAt w p c d) (hdl : d.length ≤ 20000) :
    Calls Tryz.prog 37 #[.pointer (some ⟨b, 0, none⟩), .slice p d.length c] w fun e w' => FolP w b cm jv sure l (folL l.length d) e w' := by
  have HB : Hid (∀ w', Below w.heap.size w w' → BkAt w' b cm jv sure l) := fun w' hb => h.below hb
  have HG : Hid (∀ w', Below w.heap.size w w' → GlobB w') := fun w' hb => hG.below hb
  have HD : Hid (∀ w', Below w.heap.size w w' → DtAt w' p c d) := fun w' hb => hd.below hb
  have hfew := h.few
  have HCU : Hid (∀ w' B2, Below w.heap.size w w' → w'.cell? ⟨B2, 0, none⟩ = some (.int .u8 10) → Calls Tryz.prog 50 #[.slice p d.length c, .slice (some ⟨B2, 0, none⟩) 1 1] w' fun e w2 => (∃ x n k b, e = .returned (.tuple #[.slice p (d.takeWhile (· != 10)).length c, .slice x n k, .bool b])) ∧ Below w.heap.size w w2) := fun w' B2 hb hc => (cut_any p c B2 d w' (hd.below hb) (hG.below hb) hdl hc).mono fun e w2 ⟨a, b⟩ => ⟨a, hb.trans (b.mono hb.size)⟩
  obtain ⟨S, HS⟩ : ∃ S, Hid (d.takeWhile (· != 10) = S) := ⟨_, rfl⟩
  have hSl : S.length ≤ d.length := by rw [← HS.out]; exact takeW_len d
  have hSt : d.take S.length = S := by rw [← HS.out]; exact takeW_take d
  have HCS : Hid (∀ w', Below w.heap.size w w' → (convert 25 9 (.slice p S.length c)).run Tryz.prog w' = .ok (.string ⟨S.toArray⟩) w') := fun w' hb => by
    have := conv_str (hd.below hb) hSl
    rw [hSt] at this
    exact this
  obtain ⟨P, HP⟩ : ∃ P, Hid (Lib.splitK [32] 0 3 S = P) := ⟨_, rfl⟩
  have HSP : Hid (∀ w', Below w.heap.size w w' → Calls Tryz.prog 51 #[.string ⟨S.toArray⟩, .string ⟨#[32]⟩, .int .i64 4] w' fun e w2 => (∃ c, e = .returned (.slice (some ⟨w'.heap.size, 0, none⟩) P.length c)) ∧ (∀ (j : Nat) x, P[j]? = some x → w2.cell? ⟨w'.heap.size, j, none⟩ = some (.string ⟨x.toArray⟩)) ∧ Below w.heap.size w w2) := fun w' hb => by
    have := splitn_any S w' (by omega) (hG.below hb)
    rw [HP.out] at this
    exact this.mono fun e w2 ⟨a, b, c⟩ => ⟨a, b, hb.trans (c.mono hb.size)⟩
  have hPl : P.length ≤ 4 := by rw [← HP.out]; exact splitK_len 32 3 S
  have HF : Hid (folL l.length d = fol4 l.length d P) := by
    show _ = _
    rw [folL_eq, HS.out, HP.out]
  rw [HS.out] at HCU
  have hcf := conv_feed w
  clear h hG hd
  by_cases h4 : P.length < 4
  · have HR : Hid (folL l.length d = none) := by
      show _ = _
      rw [HF.out]
      match P, h4 with
      | [], _ => rfl
      | [_], _ => rfl
      | [_, _], _ => rfl
      | [_, _, _], _ => rfl
      | _ :: _ :: _ :: _ :: _, h4 => simp at h4; omega
    have h41 : (P.length : Int) < 4 := by omega
    clear HF
    go_enter Tryz.func37, Tryz.ntmps37
    go_wp2_with fail
    refine (HCU.out _ w.heap.size (below_alloc_ (Below.refl _ _) _) (cell_feed w)).mono ?_
    rintro e w1 ⟨⟨x, n, k, bb, rfl⟩, hb1⟩
    have hcv := HCS.out w1 hb1
    go_wp2_with fail
    refine (HSP.out w1 hb1).mono ?_
    rintro e w2 ⟨⟨cc, rfl⟩, hw, hb2⟩
    go_wp2
    go_ret
    rw [HR.out]
    exact ⟨rfl, hb2⟩
  · obtain ⟨w0, w1, w2, w3, rfl⟩ : ∃ a b c d, P = [a, b, c, d] := by
      match P, h4, hPl with
      | [], h, _ => simp at h
      | [_], h, _ => simp at h
      | [_, _], h, _ => simp at h
      | [_, _, _], h, _ => simp at h
      | [a, b, c, d], _, _ => exact ⟨a, b, c, d, rfl⟩
      | _ :: _ :: _ :: _ :: _ :: _, _, h => simp at h
    have hl1 : w1.length ≤ 20000 := by
      have := splitK_mem 32 3 S w1 (by rw [HP.out]; simp)
      omega
    have hl2 : w2.length ≤ 20000 := by
      have := splitK_mem 32 3 S w2 (by rw [HP.out]; simp)
      omega
    have HNU : Hid (∀ w', Below w.heap.size w w' → Calls Tryz.prog 52 #[.string ⟨w2.toArray⟩] w' fun e w3 => e = .returned (.tuple #[.int .i64 ((numL w2).getD 0), .bool (numL w2).isSome]) ∧ Below w.heap.size w w3) := fun w' hb => by
      have := number_any' ⟨w2.toArray⟩ w' (by show w2.toArray.size ≤ 20000; rw [List.size_toArray]; exact hl2) (HG.out w' hb).1
      have ed : (⟨w2.toArray⟩ : ByteArray).data.toList = w2 := List.toList_toArray
      rw [ed] at this
      exact this.mono fun e w3 ⟨a, b⟩ => ⟨a, hb.trans (b.mono hb.size)⟩
    have HW : Hid (∀ (W W2 : World), (∀ (j : Nat) x, [w0, w1, w2, w3][j]? = some x → W2.cell? ⟨W.heap.size, j, none⟩ = some (.string ⟨x.toArray⟩)) → W2.cell? ⟨W.heap.size, 1, none⟩ = some (.string ⟨w1.toArray⟩) ∧ W2.cell? ⟨W.heap.size, 2, none⟩ = some (.string ⟨w2.toArray⟩)) := fun W W2 h => ⟨h 1 w1 rfl, h 2 w2 rfl⟩
    clear h4 hPl
    cases hn : numL w2 with
    | none =>
      have HR : Hid (folL l.length d = none) := by show _ = _; rw [HF.out, fol4_words, hn]
      rw [hn] at HNU
      clear HF hn
      go_enter Tryz.func37, Tryz.ntmps37
      go_wp2_with fail
      refine (HCU.out _ w.heap.size (below_alloc_ (Below.refl _ _) _) (cell_feed w)).mono ?_
      rintro e W1 ⟨⟨x, n, k, bb, rfl⟩, hb1⟩
      have hcv := HCS.out W1 hb1
      go_wp2_with fail
      refine (HSP.out W1 hb1).mono ?_
      rintro e W2 ⟨⟨cc, rfl⟩, hw, hb2⟩
      obtain ⟨q1, q2⟩ := HW.out W1 W2 hw
      have HB2 : Hid (Below w.heap.size w W2) := hb2
      clear hw hb1 hb2 hcv
      go_wp2_with fail
      refine (HNU.out W2 HB2.out).mono ?_
      rintro e W3 ⟨rfl, hb3⟩
      go_wp2
      go_ret
      rw [HR.out]
      exact ⟨rfl, hb3⟩
    | some n =>
      have hbd := numL_bd hn
      obtain ⟨hbd1, hbd2⟩ := hbd
      rw [hn] at HNU
      obtain ⟨L, HL⟩ : ∃ L, Hid (lineL l.length (w1, n) = L) := ⟨_, rfl⟩
      have HLI : Hid (∀ w', Below w.heap.size w w' → Calls Tryz.prog 30 #[.int .i64 (l.length : Nat), .string ⟨w1.toArray⟩, .int .i64 n] w' fun e w4 => e = .returned (.string ⟨L.toArray⟩) ∧ Below w.heap.size w w4) := fun w' hb => by
        have := line_any l.length w1 n w' (HG.out w' hb).tab (by omega) hbd1 hbd2 (by omega)
        rw [HL.out] at this
        exact this.mono fun e w4 ⟨a, b⟩ => ⟨a, hb.trans (b.mono hb.size)⟩
      have hls : (⟨L.toArray⟩ : ByteArray).size = L.length := by show L.toArray.size = _; rw [List.size_toArray]
      have HF2 : Hid (folL l.length d = if L.isPrefixOf d = true ∧ addE l.length (w1, n) = 0 then some (w1, n) else none) := by show _ = _; rw [HF.out, fol4_words, hn]; simp only [HL.out]
      clear HF hn
      cases hpf : L.isPrefixOf d with
      | false =>
        have HR : Hid (folL l.length d = none) := by show _ = _; rw [HF2.out, hpf]; simp
        have HPF : Hid (L.isPrefixOf d = false) := hpf
        clear HF2 hpf
        go_enter Tryz.func37, Tryz.ntmps37
        go_wp2_with fail
        refine (HCU.out _ w.heap.size (below_alloc_ (Below.refl _ _) _) (cell_feed w)).mono ?_
        rintro e W1 ⟨⟨x, nx, k, bb, rfl⟩, hb1⟩
        have hcv := HCS.out W1 hb1
        go_wp2_with fail
        refine (HSP.out W1 hb1).mono ?_
        rintro e W2 ⟨⟨cc, rfl⟩, hw, hb2⟩
        obtain ⟨q1, q2⟩ := HW.out W1 W2 hw
        have HB2 : Hid (Below w.heap.size w W2) := hb2
        clear hw hb1 hb2 hcv
        go_wp2_with fail
        refine (HNU.out W2 HB2.out).mono ?_
        rintro e W3 ⟨rfl, hb3⟩
        have HB3 : Hid (Below w.heap.size w W3) := hb3
        obtain ⟨⟨c0, c1, c2, c3⟩, -⟩ := bk_cells (HB.out W3 hb3).blk
        clear q1 q2 hb3
        go_wp2_with fail
        refine (HLI.out W3 HB3.out).mono ?_
        rintro e W4 ⟨rfl, hb4⟩
        obtain ⟨cap, W5, hcv5, hcap, HC5, hb5, hs5⟩ := conv_bytes ⟨L.toArray⟩ W4
        rw [hls] at hcv5
        have HB5 : Hid (Below w.heap.size w W5) := hb4.trans (hb5.mono hb4.size)
        have HPR : Hid (Calls Tryz.prog 53 #[.slice p d.length c, .slice (some ⟨W4.heap.size, 0, none⟩) L.length cap] W5 fun e w' => e = .returned (.bool (L.isPrefixOf d)) ∧ w' = W5) := pre_any p c W4.heap.size cap d L W5 (HD.out W5 HB5.out) (fun j x hx => HC5.out j x (by have e9 : (⟨L.toArray⟩ : ByteArray).data.toList = L := List.toList_toArray; rw [e9]; exact hx))
        clear hb4 hb5 hcap HC5 c0 c1 c2 c3
        rw [HPF.out] at HPR
        go_wp2_with fail
        refine HPR.out.mono ?_
        rintro e W6 ⟨rfl, rfl⟩
        go_wp2
        go_ret
        rw [HR.out]
        exact ⟨rfl, HB5.out⟩
      | true =>
        have HPF : Hid (L.isPrefixOf d = true) := hpf
        by_cases hae : addE l.length (w1, n) = 0
        · have HR : Hid (folL l.length d = some (w1, n)) := by show _ = _; rw [HF2.out, hpf]; simp [hae]
          have HEO : Hid (EntOk (w1, n) ∧ l.length < 500) := addE_zero hae
          clear HF2 hpf hae
          go_enter Tryz.func37, Tryz.ntmps37
          go_wp2_with fail
          refine (HCU.out _ w.heap.size (below_alloc_ (Below.refl _ _) _) (cell_feed w)).mono ?_
          rintro e W1 ⟨⟨x, nx, k, bb, rfl⟩, hb1⟩
          have hcv := HCS.out W1 hb1
          go_wp2_with fail
          refine (HSP.out W1 hb1).mono ?_
          rintro e W2 ⟨⟨cc, rfl⟩, hw, hb2⟩
          obtain ⟨q1, q2⟩ := HW.out W1 W2 hw
          have HB2 : Hid (Below w.heap.size w W2) := hb2
          clear hw hb1 hb2 hcv
          go_wp2_with fail
          refine (HNU.out W2 HB2.out).mono ?_
          rintro e W3 ⟨rfl, hb3⟩
          have HB3 : Hid (Below w.heap.size w W3) := hb3
          obtain ⟨⟨c0, c1, c2, c3⟩, -⟩ := bk_cells (HB.out W3 hb3).blk
          clear q1 q2 hb3
          go_wp2_with fail
          refine (HLI.out W3 HB3.out).mono ?_
          rintro e W4 ⟨rfl, hb4⟩
          obtain ⟨cap, W5, hcv5, hcap, HC5, hb5, hs5⟩ := conv_bytes ⟨L.toArray⟩ W4
          rw [hls] at hcv5
          have HB5 : Hid (Below w.heap.size w W5) := hb4.trans (hb5.mono hb4.size)
          have HPR : Hid (Calls Tryz.prog 53 #[.slice p d.length c, .slice (some ⟨W4.heap.size, 0, none⟩) L.length cap] W5 fun e w' => e = .returned (.bool (L.isPrefixOf d)) ∧ w' = W5) := pre_any p c W4.heap.size cap d L W5 (HD.out W5 HB5.out) (fun j x hx => HC5.out j x (by have e9 : (⟨L.toArray⟩ : ByteArray).data.toList = L := List.toList_toArray; rw [e9]; exact hx))
          clear hb4 hb5 hcap HC5 c0 c1 c2 c3
          rw [HPF.out] at HPR
          go_wp2_with fail
          refine HPR.out.mono ?_
          rintro e W6 ⟨rfl, rfl⟩
          go_wp2_with fail
          refine (add_yes b cm jv sure l w1 n _ (HB.out _ HB5.out) (HG.out _ HB5.out).tab HEO.out.1 HEO.out.2).mono ?_
          rintro e W7 ⟨rfl, hA⟩
          have HA := hA.pre HB5.out
          go_wp2
          go_ret
          rw [HR.out]
          exact ⟨rfl, HA⟩
        · have HR : Hid (folL l.length d = none) := by show _ = _; rw [HF2.out, hpf]; simp [hae]
          have HEO : Hid (addE l.length (w1, n) ≠ 0) := hae
          clear HF2 hpf hae
          go_enter Tryz.func37, Tryz.ntmps37
          go_wp2_with fail
          refine (HCU.out _ w.heap.size (below_alloc_ (Below.refl _ _) _) (cell_feed w)).mono ?_
          rintro e W1 ⟨⟨x, nx, k, bb, rfl⟩, hb1⟩
          have hcv := HCS.out W1 hb1
          go_wp2_with fail
          refine (HSP.out W1 hb1).mono ?_
          rintro e W2 ⟨⟨cc, rfl⟩, hw, hb2⟩
          obtain ⟨q1, q2⟩ := HW.out W1 W2 hw
          have HB2 : Hid (Below w.heap.size w W2) := hb2
          clear hw hb1 hb2 hcv
          go_wp2_with fail
          refine (HNU.out W2 HB2.out).mono ?_
          rintro e W3 ⟨rfl, hb3⟩
          have HB3 : Hid (Below w.heap.size w W3) := hb3
          obtain ⟨⟨c0, c1, c2, c3⟩, -⟩ := bk_cells (HB.out W3 hb3).blk
          clear q1 q2 hb3
          go_wp2_with fail
          refine (HLI.out W3 HB3.out).mono ?_
          rintro e W4 ⟨rfl, hb4⟩
          obtain ⟨cap, W5, hcv5, hcap, HC5, hb5, hs5⟩ := conv_bytes ⟨L.toArray⟩ W4
          rw [hls] at hcv5
          have HB5 : Hid (Below w.heap.size w W5) := hb4.trans (hb5.mono hb4.size)
          have HPR : Hid (Calls Tryz.prog 53 #[.slice p d.length c, .slice (some ⟨W4.heap.size, 0, none⟩) L.length cap] W5 fun e w' => e = .returned (.bool (L.isPrefixOf d)) ∧ w' = W5) := pre_any p c W4.heap.size cap d L W5 (HD.out W5 HB5.out) (fun j x hx => HC5.out j x (by have e9 : (⟨L.toArray⟩ : ByteArray).data.toList = L := List.toList_toArray; rw [e9]; exact hx))
          clear hb4 hb5 hcap HC5 c0 c1 c2 c3
          rw [HPF.out] at HPR
          go_wp2_with fail
          refine HPR.out.mono ?_
          rintro e W6 ⟨rfl, rfl⟩
          go_wp2_with fail
          refine (add_no b cm jv sure l w1 n _ (HB.out _ HB5.out) (by unfold maxLen; omega) HEO.out).mono ?_
          rintro e W7 ⟨rfl, hb7⟩
          go_wp2
          go_ret
          rw [HR.out]
          exact ⟨rfl, HB5.out.trans (hb7.mono HB5.out.size)⟩
end Go.Proofs.YtheadpemckoljaaGreatDoor
