/-
  The reference's OpenBook. Conditions: what strconv and bytealg lay is laid.
-/
import Derived.Test.YtheadpemckoljaaGreatDoorJg
namespace Go.Proofs.YtheadpemckoljaaGreatDoor
open Go.RowKit Go.Extern.Stop Go.Stop Go.Extern Go.Maps Go.WideMaps

theorem cutL_mem (c : UInt8) : ∀ (l x : List UInt8), x ∈ cutL c l → x.length ≤ l.length := by
  intro l x h
  rw [← splitK_cut c _ l rfl] at h
  exact splitK_mem c _ l x h
/-- What a line's words tell, as the document's text has it. -/
def rfol4 (k : Nat) (D : List UInt8) (E : Nat) : List (List UInt8) → Option Ent
  | [_, w1, w2, _] => match numL w2 with
    | some n => if lineL k (w1, n) = D.take (E + 1) ∧ addE k (w1, n) = 0 then some (w1, n) else none
    | none => none
  | _ => none
theorem rfolL_eq (k : Nat) (D : List UInt8) (E : Nat) (h : Lib.indexByte D 10 = E) : rfolL k D = rfol4 k D E (cutL 32 (D.take E)) := by
  unfold rfolL
  rw [h, if_neg (by omega), Int.toNat_natCast]
  rfl
theorem rfol4_words (k : Nat) (D : List UInt8) (E : Nat) (w0 w1 w2 w3 : List UInt8) : rfol4 k D E [w0, w1, w2, w3] = match numL w2 with
    | some n => if lineL k (w1, n) = D.take (E + 1) ∧ addE k (w1, n) = 0 then some (w1, n) else none
    | none => none := rfl
theorem RadP.pre {w w1 w' : World} {p : Nat} {lv : Value} {l : List Ent} (h : RadP w1 w' p lv l) (hb : Below w.heap.size w w1) : RadP w w' p lv l := by
  obtain ⟨lv', h1, h2, h3⟩ := h
  exact ⟨lv', h1, (Ot.of_below hb).trans h2, fun k hk => (h3 k hk).imp id fun e => Nat.le_trans hb.size e⟩
theorem RbAt.new (w : World) : RbAt (w.alloc (.cells #[.slice none 0 0] 32)) w.heap.size (.slice none 0 0) [] :=
  ⟨new_block _ _, World.ownsRow_nil _ _ _ _, by simp, by simp⟩
theorem rbs_new (b : Nat) : ∀ k, RbS b (.slice none 0 0) k → b ≤ k := by
  rintro k (rfl | hk)
  · exact Nat.le_refl _
  · simp [Value.ownBlock] at hk
theorem jour_snoc_len (l : List Ent) (e : Ent) : (jour (l ++ [e])).length = (jour l).length + (lineL l.length e).length := by rw [jour_snoc, List.length_append]
set_option maxRecDepth 100000 in
set_option maxHeartbeats 4000000 in
theorem ropen_any (d : List UInt8) (w : World) (hG : GlobB w) (hdl : d.length ≤ 20000) :
    Calls Tryz.prog 22 #[.string ⟨d.toArray⟩] w fun e w' => ∃ lv, e = .returned (.tuple #[.pointer (some ⟨w.heap.size, 0, none⟩), .int .i64 ((jour (openL d)).length : Nat)]) ∧ RbAt w' w.heap.size lv (openL d) ∧ (∀ k, RbS w.heap.size lv k → w.heap.size ≤ k) ∧ Below w.heap.size w w' := by
  have HG : Hid (∀ w', Below w.heap.size w w' → GlobB w') := fun w' hb => hG.below hb
  have HN0 : Hid (RbAt (w.alloc (.cells #[.slice none 0 0] 32)) w.heap.size (.slice none 0 0) []) := RbAt.new w
  clear hG
  go_enter Tryz.func22, Tryz.ntmps22
  go_wp2
  go_loopg [5] 500 (fun g v5 wx => ∃ (l : List Ent) (lv : Value), l.length + g = 500 ∧ v5 = .int .i64 ((jour l).length : Nat) ∧ OpnS d l ∧ openF (501 - l.length) l d = openL d ∧ RbAt wx w.heap.size lv l ∧ (∀ k, RbS w.heap.size lv k → w.heap.size ≤ k) ∧ Below w.heap.size w wx)
  case atStart => exact ⟨[], .slice none 0 0, by simp, rfl, OpnS.nil d, rfl, HN0.out, rbs_new _, below_alloc_ (Below.refl _ _) _⟩
  case round =>
    obtain ⟨l, lv, hlg, rfl, hO, hF, hB, hS, hb⟩ := hrel
    obtain ⟨lx, lc, rfl⟩ := owns_slice hB.row
    have hjl := hO.len
    obtain ⟨N, HN⟩ : ∃ N, Hid ((jour l).length = N) := ⟨_, rfl⟩
    obtain ⟨D, HD⟩ : ∃ D, Hid (d.drop (jour l).length = D) := ⟨_, rfl⟩
    have hDl : D.length = d.length - N := by rw [← HD.out, ← HN.out, List.length_drop]
    have HEND : Hid (folL l.length D = none → openL d = l) := fun hf => by
      have e2 : 501 - l.length = (500 - l.length) + 1 := by omega
      rw [← hF, e2]
      exact openL_end (by rw [HD.out]; exact hf)
    have HSTEP : Hid (∀ en, folL l.length D = some en → OpnS d (l ++ [en]) ∧ openF (501 - (l ++ [en]).length) (l ++ [en]) d = openL d ∧ l.length < 500) := fun en hf => by
      have hf2 : folL l.length (d.drop (jour l).length) = some en := by rw [HD.out]; exact hf
      have h5 : l.length < 500 := (folL_some hf2).2.1
      have e2 : 501 - l.length = (501 - (l ++ [en]).length) + 1 := by simp; omega
      refine ⟨hO.step hf2, ?_, h5⟩
      rw [← hF, e2]
      exact (openL_step hf2).symm
    have HRB : Hid (RbAt wr w.heap.size (.slice lx l.length lc) l) := hB
    have HS : Hid (∀ k, RbS w.heap.size (.slice lx l.length lc) k → w.heap.size ≤ k) := hS
    have HBB : Hid (Below w.heap.size w wr) := hb
    have HJ : Hid (∀ en, (jour (l ++ [en])).length = N + (lineL l.length en).length) := fun en => by rw [jour_snoc_len, HN.out]
    have hfw := hO.few
    have HIX : Hid (∀ w', Below w.heap.size w w' → Calls Tryz.prog 38 #[.string ⟨D.toArray⟩, .string ⟨#[10]⟩] w' fun e w2 => e = .returned (.int .i64 (Lib.indexByte D 10)) ∧ w2 = w') := fun w' h => index_any D w' (by omega) (HG.out w' h)
    rw [HN.out] at hjl ⊢
    have eD : d.drop N = D := by rw [← HN.out]; exact HD.out
    have he0 : (⟨d.toArray⟩ : ByteArray).extract N d.length = ⟨D.toArray⟩ := by
      rw [ext_piece, eD, List.take_of_length_le (by omega)]
    have HED : Hid (d.drop N = D) := eD
    clear eD hF hB hS hb hO
    rcases index_ge D 10 with h1 | ⟨E, h1⟩
    · have HNO : Hid (openL d = l) := HEND.out (by rw [fol_same]; unfold rfolL; rw [if_pos h1])
      rw [h1] at HIX
      clear h1
      have hjl1 : (N : Int) ≤ d.length := by omega
      go_wp2_with fail
      refine (HIX.out wr HBB.out).mono ?_
      rintro e w1 ⟨rfl, rfl⟩
      go_wp2
      go_ret2
      rw [HNO.out]
      exact ⟨_, by rw [HN.out]; rfl, HRB.out, HS.out, HBB.out⟩
    · obtain ⟨-, -, hEl⟩ := at_some h1
      have HRF : Hid (folL l.length D = rfol4 l.length D E (cutL 32 (D.take E))) := (fol_same _ _).trans (rfolL_eq _ _ _ h1)
      rw [h1] at HIX
      have he1 : (⟨d.toArray⟩ : ByteArray).extract N (N + E) = ⟨(D.take E).toArray⟩ := by rw [ext_piece, HED.out, Nat.add_sub_cancel_left]
      have hn1 : ((N : Int) + (E : Int)).toNat = N + E := by omega
      have hn2 : (N : Int) + (E : Int) ≤ d.length := by omega
      have hn3 : N + E ≤ d.length := by omega
      have hn4 : N ≤ N + E := by omega
      have hn5 : (N : Int) ≤ (N : Int) + (E : Int) := by omega
      have hn6 : (0 : Int) ≤ (N : Int) + (E : Int) := by omega
      have hwr : IntKind.i64.wrap ((N : Int) + (E : Int)) = (N : Int) + (E : Int) := by rw [IntKind.wrap_i64]; omega
      have HSP : Hid (∀ w', Below w.heap.size w w' → Calls Tryz.prog 39 #[.string ⟨(D.take E).toArray⟩, .string ⟨#[32]⟩] w' fun e w2 => e = .returned (.slice (some ⟨w'.heap.size, 0, none⟩) (cutL 32 (D.take E)).length (cutL 32 (D.take E)).length) ∧ (∀ (j : Nat) x, (cutL 32 (D.take E))[j]? = some x → w2.cell? ⟨w'.heap.size, j, none⟩ = some (.string ⟨x.toArray⟩)) ∧ Below w'.heap.size w' w2) := fun w' h => split_any (D.take E) w' (by rw [List.length_take]; omega) (HG.out w' h)
      clear h1
      obtain ⟨P, HPW⟩ : ∃ P, Hid (cutL 32 (D.take E) = P) := ⟨_, rfl⟩
      rw [HPW.out] at HRF HSP
      by_cases h4 : P.length = 4
      · obtain ⟨w0, w1, w2, w3, rfl⟩ : ∃ a b c d, P = [a, b, c, d] := by
          match P, h4 with
          | [a, b, c, d], _ => exact ⟨a, b, c, d, rfl⟩
          | [], h => simp at h
          | [_], h => simp at h
          | [_, _], h => simp at h
          | [_, _, _], h => simp at h
          | _ :: _ :: _ :: _ :: _ :: _, h => simp at h
        clear h4
        have hl1 : w1.length ≤ 20000 := by
          have := cutL_mem 32 (D.take E) w1 (by rw [HPW.out]; simp)
          rw [List.length_take] at this
          omega
        have hl2 : w2.length ≤ 20000 := by
          have := cutL_mem 32 (D.take E) w2 (by rw [HPW.out]; simp)
          rw [List.length_take] at this
          omega
        have HNU : Hid (∀ w', Below w.heap.size w w' → Calls Tryz.prog 40 #[.string ⟨w2.toArray⟩] w' fun e w3 => e = .returned (.tuple #[.int .i64 ((numL w2).getD 0), .bool (numL w2).isSome]) ∧ Below w'.heap.size w' w3) := fun w' hb => by
          have := rnumber_any' ⟨w2.toArray⟩ w' (by show w2.toArray.size ≤ 20000; rw [List.size_toArray]; exact hl2) (HG.out w' hb).1
          have ed : (⟨w2.toArray⟩ : ByteArray).data.toList = w2 := List.toList_toArray
          rw [ed] at this
          exact this
        have HW : Hid (∀ (W W2 : World), (∀ (j : Nat) x, [w0, w1, w2, w3][j]? = some x → W2.cell? ⟨W.heap.size, j, none⟩ = some (.string ⟨x.toArray⟩)) → W2.cell? ⟨W.heap.size, 1, none⟩ = some (.string ⟨w1.toArray⟩) ∧ W2.cell? ⟨W.heap.size, 2, none⟩ = some (.string ⟨w2.toArray⟩)) := fun W W2 h => ⟨h 1 w1 rfl, h 2 w2 rfl⟩
        have hjl1 : (N : Int) ≤ d.length := by omega
        cases hn : numL w2 with
        | none =>
          have HNO : Hid (openL d = l) := HEND.out (by rw [HRF.out, rfol4_words, hn])
          rw [hn] at HNU
          clear hn
          go_wp2_with fail
          refine (HIX.out wr HBB.out).mono ?_
          rintro e W1 ⟨rfl, rfl⟩
          go_wp2_with fail
          refine (HSP.out _ HBB.out).mono ?_
          rintro e W2 ⟨rfl, hw, hb2⟩
          obtain ⟨q1, q2⟩ := HW.out _ W2 hw
          have HB2 : Hid (Below w.heap.size w W2) := HBB.out.trans (hb2.mono HBB.out.size)
          have HR2 : Hid (RbAt W2 w.heap.size (.slice lx l.length lc) l) := HRB.out.below hb2
          have hA := World.block_lt_of_cell? W2 _ q1
          clear hw hb2
          go_wp2_with fail
          refine (HNU.out W2 HB2.out).mono ?_
          rintro e W3 ⟨rfl, hb3⟩
          have HB3 : Hid (Below w.heap.size w W3) := HB2.out.trans (hb3.mono HB2.out.size)
          have HR3 : Hid (RbAt W3 w.heap.size (.slice lx l.length lc) l) := HR2.out.below hb3
          have hr1 := (hb3.cell (p := ⟨_, 1, none⟩) hA).trans q1
          obtain ⟨c0, g0⟩ := one_cellj HR3.out.blk
          clear q1 q2 hb3 hA
          go_wp2
          go_quiet (fail)
          go_wp2
          go_ret2
          rw [HNO.out]
          exact ⟨_, by rw [HN.out]; rfl, HR3.out.below (below_drewNj (Below.refl _ _) _), HS.out, below_drewNj HB3.out _⟩
        | some n =>
          have hbd := numL_bd hn
          obtain ⟨hbd1, hbd2⟩ := hbd
          rw [hn] at HNU
          have HF2 : Hid (folL l.length D = if lineL l.length (w1, n) = D.take (E + 1) ∧ addE l.length (w1, n) = 0 then some (w1, n) else none) := by show _ = _; rw [HRF.out, rfol4_words, hn]
          clear hn
          obtain ⟨L, HL⟩ : ∃ L, Hid (lineL l.length (w1, n) = L) := ⟨_, rfl⟩
          obtain ⟨F, HFE⟩ : ∃ F, Hid (D.take (E + 1) = F) := ⟨_, rfl⟩
          have hFl : F.length = E + 1 := by rw [← HFE.out, List.length_take]; omega
          have he2 : (⟨d.toArray⟩ : ByteArray).extract N (N + E + 1) = ⟨F.toArray⟩ := by rw [ext_piece, HED.out, ← HFE.out]; congr 3; omega
          have hm1 : ((N : Int) + (E : Int) + 1).toNat = N + E + 1 := by omega
          have hm2 : (N : Int) + (E : Int) + 1 ≤ d.length := by omega
          have hm3 : N + E + 1 ≤ d.length := by omega
          have hm4 : N ≤ N + E + 1 := by omega
          have hm5 : (N : Int) ≤ (N : Int) + (E : Int) + 1 := by omega
          have hm6 : (0 : Int) ≤ (N : Int) + (E : Int) + 1 := by omega
          have hmw : IntKind.i64.wrap ((N : Int) + (E : Int) + 1) = (N : Int) + (E : Int) + 1 := by rw [IntKind.wrap_i64]; omega
          have HLI : Hid (∀ W, Below w.heap.size w W → Calls Tryz.prog 32 #[.int .i64 (l.length : Nat), .agg #[.string ⟨w1.toArray⟩, .int .i64 n]] W fun e w' => e = .returned (.string ⟨L.toArray⟩) ∧ Below W.heap.size W w') := fun W hb => by
            have := rline_any l.length w1 n W (HG.out W hb).tab (by omega) hbd1 hbd2 (by omega)
            rw [HL.out] at this
            exact this
          rw [HL.out, HFE.out] at HF2
          obtain ⟨S, HSL⟩ : ∃ S, Hid ((Value.slice lx l.length lc) = S) := ⟨_, rfl⟩
          go_wp2_with fail
          refine (HIX.out wr HBB.out).mono ?_
          rintro e W1 ⟨rfl, rfl⟩
          have hlt : W1.heap.size < W1.heap.size + 1 := Nat.lt_succ_self _
          have HNS : Hid (¬ RbS w.heap.size (.slice lx l.length lc) W1.heap.size) := fun hk => Nat.lt_irrefl _ (HRB.out.lt hk)
          go_wp2_with fail
          refine (HSP.out _ HBB.out).mono ?_
          rintro e W2 ⟨rfl, hw, hb2⟩
          obtain ⟨q1, q2⟩ := HW.out _ W2 hw
          have HB2 : Hid (Below w.heap.size w W2) := HBB.out.trans (hb2.mono HBB.out.size)
          have HR2 : Hid (RbAt W2 w.heap.size (.slice lx l.length lc) l) := HRB.out.below hb2
          have hA := World.block_lt_of_cell? W2 _ q1
          clear hw hb2 hlt
          go_wp2_with fail
          refine (HNU.out W2 HB2.out).mono ?_
          rintro e W3 ⟨rfl, hb3⟩
          have HB3 : Hid (Below w.heap.size w W3) := HB2.out.trans (hb3.mono HB2.out.size)
          have HR3 : Hid (RbAt W3 w.heap.size (.slice lx l.length lc) l) := HR2.out.below hb3
          have hr1 := (hb3.cell (p := ⟨_, 1, none⟩) hA).trans q1
          have HA3 : Hid (W1.heap.size < W3.heap.size) := Nat.lt_of_lt_of_le hA hb3.size
          have HK : Hid (∀ W, Below W3.heap.size W3 W → W.cell? ⟨W1.heap.size, 1, none⟩ = some (.string ⟨w1.toArray⟩)) := fun W hb => (hb.cell (p := ⟨_, 1, none⟩) HA3.out).trans hr1
          have HKP : Hid (∀ W V l', Below W3.heap.size W3 W → RadP W V w.heap.size (.slice lx l.length lc) l' → V.cell? ⟨W1.heap.size, 1, none⟩ = some (.string ⟨w1.toArray⟩)) := fun W V l' hb ⟨_, _, hp, _⟩ => (hp.cell (p := ⟨W1.heap.size, 1, none⟩) (Nat.lt_of_lt_of_le HA3.out hb.size) HNS.out).trans (HK.out W hb)
          have HLI3 : Hid (∀ W, Below W3.heap.size W3 W → Calls Tryz.prog 32 #[.int .i64 (l.length : Nat), .agg #[.string ⟨w1.toArray⟩, .int .i64 n]] W fun e w' => e = .returned (.string ⟨L.toArray⟩) ∧ Below W3.heap.size W3 w') := fun W hb => (HLI.out W (HB3.out.trans (hb.mono HB3.out.size))).mono fun e w' ⟨a, b⟩ => ⟨a, hb.trans (b.mono hb.size)⟩
          obtain ⟨c0, g0⟩ := one_cellj HR3.out.blk
          have hl1m : w1.length ≤ maxLen := by unfold maxLen; omega
          have HRN : Hid (addE l.length (w1, n) ≠ 0 → ∀ W, Below W3.heap.size W3 W → Calls Tryz.prog 9 #[.pointer (some ⟨w.heap.size, 0, none⟩), .string ⟨w1.toArray⟩, .int .i64 n] W fun e w' => e = .returned (.int .i64 (addE l.length (w1, n))) ∧ w' = W) := fun he W hb => radd_no w.heap.size _ l w1 n W (HR3.out.below hb) hl1m he
          have HRY : Hid (addE l.length (w1, n) = 0 → ∀ W, Below W3.heap.size W3 W → Calls Tryz.prog 9 #[.pointer (some ⟨w.heap.size, 0, none⟩), .string ⟨w1.toArray⟩, .int .i64 n] W fun e w' => e = .returned (.int .i64 0) ∧ RadP W w' w.heap.size (.slice lx l.length lc) (l ++ [(w1, n)])) := fun he W hb => radd_yes w.heap.size _ l w1 n W (HR3.out.below hb) (addE_zero he).1 (addE_zero he).2
          have HK0 : Hid (∀ W, Below W3.heap.size W3 W → W.cell? ⟨w.heap.size, 0, none⟩ = some (.slice lx l.length lc) ∧ W.cell? ⟨W1.heap.size, 1, none⟩ = some (.string ⟨w1.toArray⟩)) := fun W hb => ⟨(one_cellj (HR3.out.below hb).blk).1, HK.out W hb⟩
          clear q1 q2 hb3 hA hl1m
          go_upto_region 10 with (fail)
          go_cut [70] (fun v wx => (v = .bool true ∧ Below W3.heap.size W3 wx ∧ ¬ (L = F ∧ addE l.length (w1, n) = 0)) ∨ (v = .bool false ∧ RadP W3 wx w.heap.size (.slice lx l.length lc) (l ++ [(w1, n)]) ∧ (L = F ∧ addE l.length (w1, n) = 0)))
          case first =>
            refine wp_region_any (by kernel_rfl) ?_
            change wpAny _ _ _ _ _ _ _ (World.drew _)
            have hd0 : (World.drew W3).cell? ⟨w.heap.size, 0, none⟩ = some (.slice lx l.length lc) := (HK0.out _ (Below.refl _ _).drew).1
            have hd1 : (World.drew W3).cell? ⟨W1.heap.size, 1, none⟩ = some (.string ⟨w1.toArray⟩) := HK.out _ (Below.refl _ _).drew
            refine wpAny_take (i := 0) (v := ?_) rfl (by kernel_rfl) (by kernel_rfl) (by kernel_rfl) (fun _ _ _ h => h) (Or.inl ⟨by rfl, ?_⟩) ?_
            rotate_left
            · intro W
              go_simp
              (try with_reducible rfl)
            simp only [Act.put, List.getElem_toArray, List.getElem_cons_zero, List.setIfInBounds_toArray, List.set_cons_zero, List.set_cons_succ]
            refine wpAny_take (i := 1) (v := ?_) rfl (by kernel_rfl) (by kernel_rfl) (by kernel_rfl) (fun _ _ _ h => h) (Or.inl ⟨by rfl, ?_⟩) ?_
            rotate_left
            · intro W
              go_simp
              (try with_reducible rfl)
            simp only [Act.put, List.getElem_toArray, List.getElem_cons_zero, List.getElem_cons_succ, List.setIfInBounds_toArray, List.set_cons_zero, List.set_cons_succ]
            refine wpAny_take (i := 2) (v := ?_) rfl (by kernel_rfl) (by kernel_rfl) (by kernel_rfl) (fun _ _ _ h => h) (Or.inl ⟨by rfl, ?_⟩) ?_
            rotate_left
            · intro W
              go_simp
              (try with_reducible rfl)
            simp only [Act.put, List.getElem_toArray, List.getElem_cons_zero, List.getElem_cons_succ, List.setIfInBounds_toArray, List.set_cons_zero, List.set_cons_succ]
            refine wpAny_take (i := 3) (v := ?_) rfl (by kernel_rfl) (by kernel_rfl) (by kernel_rfl) (fun _ _ _ h => h) (Or.inl ⟨by rfl, ?_⟩) ?_
            rotate_left
            · intro W
              go_simp
              (try with_reducible rfl)
            simp only [Act.put, List.getElem_toArray, List.getElem_cons_zero, List.getElem_cons_succ, List.setIfInBounds_toArray, List.set_cons_zero, List.set_cons_succ]
            refine wpAny_take (i := 4) (v := ?_) rfl (by kernel_rfl) (by kernel_rfl) (by kernel_rfl) (fun _ _ _ h => h) (Or.inl ⟨by rfl, ?_⟩) ?_
            rotate_left
            · intro W
              go_simp
              (try with_reducible rfl)
            simp only [Act.put, List.getElem_toArray, List.getElem_cons_zero, List.getElem_cons_succ, List.setIfInBounds_toArray, List.set_cons_zero, List.set_cons_succ]
            refine wpAny_take (i := 5) (v := ?_) rfl (by kernel_rfl) (by kernel_rfl) (by kernel_rfl) (fun _ _ _ h => h) (Or.inl ⟨by rfl, ?_⟩) ?_
            rotate_left
            · intro W
              go_simp
              (try with_reducible rfl)
            simp only [Act.put, List.getElem_toArray, List.getElem_cons_zero, List.getElem_cons_succ, List.setIfInBounds_toArray, List.set_cons_zero, List.set_cons_succ]
            refine wpAny_take (i := 8) (v := ?_) rfl (by kernel_rfl) (by kernel_rfl) (by kernel_rfl) (fun _ _ _ h => h) (Or.inl ⟨by rfl, ?_⟩) ?_
            rotate_left
            · intro W
              go_simp
              (try with_reducible rfl)
            simp only [Act.put, List.getElem_toArray, List.getElem_cons_zero, List.getElem_cons_succ, List.setIfInBounds_toArray, List.set_cons_zero, List.set_cons_succ]
            refine wpAny_take (i := 9) (v := ?_) rfl (by kernel_rfl) (by kernel_rfl) (by kernel_rfl) (fun _ _ _ h => h) (Or.inl ⟨by rfl, ?_⟩) ?_
            rotate_left
            · intro W
              go_simp
              (try with_reducible rfl)
            simp only [Act.put, List.getElem_toArray, List.getElem_cons_zero, List.getElem_cons_succ, List.setIfInBounds_toArray, List.set_cons_zero, List.set_cons_succ]
            refine wpAny_take (i := 11) (v := ?_) rfl (by kernel_rfl) (by kernel_rfl) (by kernel_rfl) (fun _ _ _ h => h) (Or.inl ⟨by rfl, ?_⟩) ?_
            rotate_left
            · intro W
              go_simp
              (try with_reducible rfl)
            simp only [Act.put, List.getElem_toArray, List.getElem_cons_zero, List.getElem_cons_succ, List.setIfInBounds_toArray, List.set_cons_zero, List.set_cons_succ]
            refine wpAny_take (i := 14) (v := ?_) rfl (by kernel_rfl) (by kernel_rfl) (by kernel_rfl) (fun _ _ _ h => h) (Or.inl ⟨by rfl, ?_⟩) ?_
            rotate_left
            · intro W
              go_simp
              (try with_reducible rfl)
            simp only [Act.put, List.getElem_toArray, List.getElem_cons_zero, List.getElem_cons_succ, List.setIfInBounds_toArray, List.set_cons_zero, List.set_cons_succ]
            refine wpAny_take (i := 15) (v := ?_) rfl (by kernel_rfl) (by kernel_rfl) (by kernel_rfl) (fun _ _ _ h => h) (Or.inl ⟨by rfl, ?_⟩) ?_
            rotate_left
            · intro W
              go_simp
              (try with_reducible rfl)
            simp only [Act.put, List.getElem_toArray, List.getElem_cons_zero, List.getElem_cons_succ, List.setIfInBounds_toArray, List.set_cons_zero, List.set_cons_succ]
            refine wpAny_take (i := 16) (v := ?_) rfl (by kernel_rfl) (by kernel_rfl) (by kernel_rfl) (fun _ _ _ h => h) (Or.inl ⟨by rfl, ?_⟩) ?_
            rotate_left
            · intro W
              go_simp
              (try with_reducible rfl)
            simp only [Act.put, List.getElem_toArray, List.getElem_cons_zero, List.getElem_cons_succ, List.setIfInBounds_toArray, List.set_cons_zero, List.set_cons_succ]
            refine wpAny_take (i := 17) (v := ?_) rfl (by kernel_rfl) (by kernel_rfl) (by kernel_rfl) (fun _ _ _ h => h) (Or.inl ⟨by rfl, ?_⟩) ?_
            rotate_left
            · intro W
              go_simp
              (try with_reducible rfl)
            simp only [Act.put, List.getElem_toArray, List.getElem_cons_zero, List.getElem_cons_succ, List.setIfInBounds_toArray, List.set_cons_zero, List.set_cons_succ]
            refine wpAny_take (i := 18) (v := ?_) rfl (by kernel_rfl) (by kernel_rfl) (by kernel_rfl) (fun _ _ _ h => h) (Or.inl ⟨by rfl, ?_⟩) ?_
            rotate_left
            · intro W
              go_simp
              (try with_reducible rfl)
            simp only [Act.put, List.getElem_toArray, List.getElem_cons_zero, List.getElem_cons_succ, List.setIfInBounds_toArray, List.set_cons_zero, List.set_cons_succ]
            refine wpAny_take (i := 19) (v := ?_) rfl (by kernel_rfl) (by kernel_rfl) (by kernel_rfl) (fun _ _ _ h => h) (Or.inl ⟨by rfl, ?_⟩) ?_
            rotate_left
            · intro W
              go_simp
              (try with_reducible rfl)
            simp only [Act.put, List.getElem_toArray, List.getElem_cons_zero, List.getElem_cons_succ, List.setIfInBounds_toArray, List.set_cons_zero, List.set_cons_succ]
            refine wpAny_take (i := 20) (v := ?_) rfl (by kernel_rfl) (by kernel_rfl) (by kernel_rfl) (fun _ _ _ h => h) (Or.inl ⟨by rfl, ?_⟩) ?_
            rotate_left
            · intro W
              go_simp
              (try with_reducible rfl)
            simp only [Act.put, List.getElem_toArray, List.getElem_cons_zero, List.getElem_cons_succ, List.setIfInBounds_toArray, List.set_cons_zero, List.set_cons_succ]
            refine wpAny_ready (rs := [6, 10]) (by kernel_rfl) (by simp) ?_
            refine AllReady.cons rfl (fun K hK => ?_) (AllReady.cons rfl (fun K hK => ?_) AllReady.nil)
            · go_simp
              refine hK _ _ ?_
              clear hK K
              refine wpAny_take (i := 7) (v := ?_) rfl (by kernel_rfl) (by kernel_rfl) (by kernel_rfl) (fun _ _ _ h => h) (Or.inl ⟨by rfl, ?_⟩) ?_
              rotate_left
              · intro W
                go_simp
                (try with_reducible rfl)
              simp only [Act.put, List.getElem_toArray, List.getElem_cons_zero, List.getElem_cons_succ, List.setIfInBounds_toArray, List.set_cons_zero, List.set_cons_succ]
              refine wpAny_ready (rs := [10]) (by kernel_rfl) (by simp) ?_
              refine AllReady.cons rfl (fun K hK => ?_) AllReady.nil
              go_simp
              refine hK _ _ ?_
              clear hK K
              refine wpAny_take (i := 12) (v := ?_) rfl (by kernel_rfl) (by kernel_rfl) (by kernel_rfl) (fun _ _ _ h => h) (Or.inl ⟨by rfl, ?_⟩) ?_
              rotate_left
              · intro W
                go_simp
                (try with_reducible rfl)
              simp only [Act.put, List.getElem_toArray, List.getElem_cons_zero, List.getElem_cons_succ, List.setIfInBounds_toArray, List.set_cons_zero, List.set_cons_succ]
              refine wpAny_ready (rs := [13]) (by kernel_rfl) (by simp) ?_
              refine AllReady.cons rfl (fun K hK => ?_) AllReady.nil
              go_simp
              refine (HLI3.out _ (Below.refl _ _).drew).mono ?_
              rintro e W4 ⟨rfl, hb4⟩
              have HB4 : Hid (Below W3.heap.size W3 W4) := hb4
              have hr4 := HK.out _ hb4
              clear hb4
              refine hK _ _ ?_
              clear hK K
              by_cases hLF : L = F
              · have hq : (L == F) = true := by simpa using hLF
                have hq2 : (L != F) = false := by simpa using hLF
                refine wpAny_take (i := 21) (v := ?_) rfl (by kernel_rfl) (by kernel_rfl) (by kernel_rfl) (fun _ _ _ h => h) (Or.inl ⟨by rfl, ?_⟩) ?_
                rotate_left
                · intro W
                  go_simp
                  (try with_reducible rfl)
                simp only [Act.put, List.getElem_toArray, List.getElem_cons_zero, List.getElem_cons_succ, List.setIfInBounds_toArray, List.set_cons_zero, List.set_cons_succ]
                refine wpAny_take (i := 22) (v := ?_) rfl (by kernel_rfl) (by kernel_rfl) (by kernel_rfl) (fun _ _ _ h => h) (Or.inl ⟨by rfl, ?_⟩) ?_
                rotate_left
                · intro W
                  go_simp
                  (try with_reducible rfl)
                simp only [Act.put, List.getElem_toArray, List.getElem_cons_zero, List.getElem_cons_succ, List.setIfInBounds_toArray, List.set_cons_zero, List.set_cons_succ]
                refine wpAny_take (i := 23) (v := ?_) rfl (by kernel_rfl) (by kernel_rfl) (by kernel_rfl) (fun _ _ _ h => h) (Or.inl ⟨by rfl, ?_⟩) ?_
                rotate_left
                · intro W
                  go_simp
                  (try with_reducible rfl)
                simp only [Act.put, List.getElem_toArray, List.getElem_cons_zero, List.getElem_cons_succ, List.setIfInBounds_toArray, List.set_cons_zero, List.set_cons_succ]
                refine wpAny_take (i := 24) (v := ?_) rfl (by kernel_rfl) (by kernel_rfl) (by kernel_rfl) (fun _ _ _ h => h) (Or.inl ⟨by rfl, ?_⟩) ?_
                rotate_left
                · intro W
                  go_simp
                  (try with_reducible rfl)
                simp only [Act.put, List.getElem_toArray, List.getElem_cons_zero, List.getElem_cons_succ, List.setIfInBounds_toArray, List.set_cons_zero, List.set_cons_succ]
                refine wpAny_take (i := 25) (v := ?_) rfl (by kernel_rfl) (by kernel_rfl) (by kernel_rfl) (fun _ _ _ h => h) (Or.inl ⟨by rfl, ?_⟩) ?_
                rotate_left
                · intro W
                  go_simp
                  (try with_reducible rfl)
                simp only [Act.put, List.getElem_toArray, List.getElem_cons_zero, List.getElem_cons_succ, List.setIfInBounds_toArray, List.set_cons_zero, List.set_cons_succ]
                refine wpAny_take (i := 26) (v := ?_) rfl (by kernel_rfl) (by kernel_rfl) (by kernel_rfl) (fun _ _ _ h => h) (Or.inl ⟨by rfl, ?_⟩) ?_
                rotate_left
                · intro W
                  go_simp
                  (try with_reducible rfl)
                simp only [Act.put, List.getElem_toArray, List.getElem_cons_zero, List.getElem_cons_succ, List.setIfInBounds_toArray, List.set_cons_zero, List.set_cons_succ]
                refine wpAny_take (i := 28) (v := ?_) rfl (by kernel_rfl) (by kernel_rfl) (by kernel_rfl) (fun _ _ _ h => h) (Or.inl ⟨by rfl, ?_⟩) ?_
                rotate_left
                · intro W
                  go_simp
                  (try with_reducible rfl)
                simp only [Act.put, List.getElem_toArray, List.getElem_cons_zero, List.getElem_cons_succ, List.setIfInBounds_toArray, List.set_cons_zero, List.set_cons_succ]
                refine wpAny_ready (rs := [27]) (by kernel_rfl) (by simp) ?_
                refine AllReady.cons rfl (fun K hK => ?_) AllReady.nil
                go_simp
                refine hK _ _ ?_
                clear hK K
                by_cases hae : addE l.length (w1, n) = 0
                · have HYE : Hid (L = F ∧ addE l.length (w1, n) = 0) := ⟨hLF, hae⟩
                  clear hLF hae
                  refine wpAny_ready (rs := [29]) (by kernel_rfl) (by simp) ?_
                  refine AllReady.cons rfl (fun K hK => ?_) AllReady.nil
                  go_simp
                  refine (HRY.out HYE.out.2 _ HB4.out).mono ?_
                  rintro e W5 ⟨rfl, hp5⟩
                  have HP5 : Hid (RadP W4 W5 w.heap.size (.slice lx l.length lc) (l ++ [(w1, n)])) := hp5
                  clear hp5
                  refine hK _ _ ?_
                  clear hK K
                  refine wpAny_take (i := 30) (v := ?_) rfl (by kernel_rfl) (by kernel_rfl) (by kernel_rfl) (fun _ _ _ h => h) (Or.inl ⟨by rfl, ?_⟩) ?_
                  rotate_left
                  · intro W
                    go_simp
                    (try with_reducible rfl)
                  simp only [Act.put, List.getElem_toArray, List.getElem_cons_zero, List.getElem_cons_succ, List.setIfInBounds_toArray, List.set_cons_zero, List.set_cons_succ]
                  refine wpAny_take (i := 31) (v := ?_) rfl (by kernel_rfl) (by kernel_rfl) (by kernel_rfl) (fun _ _ _ h => h) (Or.inl ⟨by rfl, ?_⟩) ?_
                  rotate_left
                  · intro W
                    go_simp
                    (try with_reducible rfl)
                  simp only [Act.put, List.getElem_toArray, List.getElem_cons_zero, List.getElem_cons_succ, List.setIfInBounds_toArray, List.set_cons_zero, List.set_cons_succ]
                  refine wpAny_done (by kernel_rfl) ?_ _
                  go_wp2
                  go_meet
                  case rel => exact Or.inr ⟨rfl, HP5.out.pre HB4.out, HYE.out⟩
                · have HAE : Hid (addE l.length (w1, n) ≠ 0) := hae
                  have hq3 : (addE l.length (w1, n) != 0) = true := by simpa using hae
                  have HNE : Hid (¬ (L = F ∧ addE l.length (w1, n) = 0)) := fun hh => hae hh.2
                  clear hLF hae
                  refine wpAny_ready (rs := [29]) (by kernel_rfl) (by simp) ?_
                  refine AllReady.cons rfl (fun K hK => ?_) AllReady.nil
                  go_simp
                  refine (HRN.out HAE.out _ HB4.out).mono ?_
                  rintro e W5 ⟨rfl, rfl⟩
                  refine hK _ _ ?_
                  clear hK K
                  refine wpAny_take (i := 30) (v := ?_) rfl (by kernel_rfl) (by kernel_rfl) (by kernel_rfl) (fun _ _ _ h => h) (Or.inl ⟨by rfl, ?_⟩) ?_
                  rotate_left
                  · intro W
                    go_simp
                    (try with_reducible rfl)
                  simp only [Act.put, List.getElem_toArray, List.getElem_cons_zero, List.getElem_cons_succ, List.setIfInBounds_toArray, List.set_cons_zero, List.set_cons_succ]
                  refine wpAny_take (i := 31) (v := ?_) rfl (by kernel_rfl) (by kernel_rfl) (by kernel_rfl) (fun _ _ _ h => h) (Or.inl ⟨by rfl, ?_⟩) ?_
                  rotate_left
                  · intro W
                    go_simp
                    (try with_reducible rfl)
                  simp only [Act.put, List.getElem_toArray, List.getElem_cons_zero, List.getElem_cons_succ, List.setIfInBounds_toArray, List.set_cons_zero, List.set_cons_succ]
                  refine wpAny_done (by kernel_rfl) ?_ _
                  go_wp2
                  go_meet
                  case rel => exact Or.inl ⟨rfl, HB4.out, HNE.out⟩
              · have hq : (L == F) = false := by simpa using hLF
                have hq2 : (L != F) = true := by simpa using hLF
                have HNE : Hid (¬ (L = F ∧ addE l.length (w1, n) = 0)) := fun hh => hLF hh.1
                clear hLF
                refine wpAny_take (i := 21) (v := ?_) rfl (by kernel_rfl) (by kernel_rfl) (by kernel_rfl) (fun _ _ _ h => h) (Or.inl ⟨by rfl, ?_⟩) ?_
                rotate_left
                · intro W
                  go_simp
                  (try with_reducible rfl)
                simp only [Act.put, List.getElem_toArray, List.getElem_cons_zero, List.getElem_cons_succ, List.setIfInBounds_toArray, List.set_cons_zero, List.set_cons_succ]
                refine wpAny_take (i := 22) (v := ?_) rfl (by kernel_rfl) (by kernel_rfl) (by kernel_rfl) (fun _ _ _ h => h) (Or.inl ⟨by rfl, ?_⟩) ?_
                rotate_left
                · intro W
                  go_simp
                  (try with_reducible rfl)
                simp only [Act.put, List.getElem_toArray, List.getElem_cons_zero, List.getElem_cons_succ, List.setIfInBounds_toArray, List.set_cons_zero, List.set_cons_succ]
                refine wpAny_take (i := 23) (v := ?_) rfl (by kernel_rfl) (by kernel_rfl) (by kernel_rfl) (fun _ _ _ h => h) (Or.inl ⟨by rfl, ?_⟩) ?_
                rotate_left
                · intro W
                  go_simp
                  (try with_reducible rfl)
                simp only [Act.put, List.getElem_toArray, List.getElem_cons_zero, List.getElem_cons_succ, List.setIfInBounds_toArray, List.set_cons_zero, List.set_cons_succ]
                refine wpAny_take (i := 24) (v := undef) rfl (by kernel_rfl) (by kernel_rfl) (by kernel_rfl) (fun _ _ _ h => h) (Or.inr ⟨by rfl, rfl⟩) ?_
                simp only [Act.put, List.getElem_toArray, List.getElem_cons_zero, List.getElem_cons_succ, List.setIfInBounds_toArray, List.set_cons_zero, List.set_cons_succ]
                refine wpAny_take (i := 25) (v := undef) rfl (by kernel_rfl) (by kernel_rfl) (by kernel_rfl) (fun _ _ _ h => h) (Or.inr ⟨by rfl, rfl⟩) ?_
                simp only [Act.put, List.getElem_toArray, List.getElem_cons_zero, List.getElem_cons_succ, List.setIfInBounds_toArray, List.set_cons_zero, List.set_cons_succ]
                refine wpAny_take (i := 28) (v := undef) rfl (by kernel_rfl) (by kernel_rfl) (by kernel_rfl) (fun _ _ _ h => h) (Or.inr ⟨by rfl, rfl⟩) ?_
                simp only [Act.put, List.getElem_toArray, List.getElem_cons_zero, List.getElem_cons_succ, List.setIfInBounds_toArray, List.set_cons_zero, List.set_cons_succ]
                refine wpAny_take (i := 26) (v := undef) rfl (by kernel_rfl) (by kernel_rfl) (by kernel_rfl) (fun _ _ _ h => h) (Or.inr ⟨by rfl, rfl⟩) ?_
                simp only [Act.put, List.getElem_toArray, List.getElem_cons_zero, List.getElem_cons_succ, List.setIfInBounds_toArray, List.set_cons_zero, List.set_cons_succ]
                refine wpAny_take (i := 27) (v := undef) rfl (by kernel_rfl) (by kernel_rfl) (by kernel_rfl) (fun _ _ _ h => h) (Or.inr ⟨by rfl, rfl⟩) ?_
                simp only [Act.put, List.getElem_toArray, List.getElem_cons_zero, List.getElem_cons_succ, List.setIfInBounds_toArray, List.set_cons_zero, List.set_cons_succ]
                refine wpAny_take (i := 29) (v := undef) rfl (by kernel_rfl) (by kernel_rfl) (by kernel_rfl) (fun _ _ _ h => h) (Or.inr ⟨by rfl, rfl⟩) ?_
                simp only [Act.put, List.getElem_toArray, List.getElem_cons_zero, List.getElem_cons_succ, List.setIfInBounds_toArray, List.set_cons_zero, List.set_cons_succ]
                refine wpAny_take (i := 30) (v := undef) rfl (by kernel_rfl) (by kernel_rfl) (by kernel_rfl) (fun _ _ _ h => h) (Or.inr ⟨by rfl, rfl⟩) ?_
                simp only [Act.put, List.getElem_toArray, List.getElem_cons_zero, List.getElem_cons_succ, List.setIfInBounds_toArray, List.set_cons_zero, List.set_cons_succ]
                refine wpAny_take (i := 31) (v := ?_) rfl (by kernel_rfl) (by kernel_rfl) (by kernel_rfl) (fun _ _ _ h => h) (Or.inl ⟨by rfl, ?_⟩) ?_
                rotate_left
                · intro W
                  go_simp
                  (try with_reducible rfl)
                simp only [Act.put, List.getElem_toArray, List.getElem_cons_zero, List.getElem_cons_succ, List.setIfInBounds_toArray, List.set_cons_zero, List.set_cons_succ]
                refine wpAny_done (by kernel_rfl) ?_ _
                go_wp2
                go_meet
                case rel => exact Or.inl ⟨rfl, HB4.out, HNE.out⟩
            · go_simp
              refine hK _ _ ?_
              clear hK K
              refine wpAny_take (i := 12) (v := ?_) rfl (by kernel_rfl) (by kernel_rfl) (by kernel_rfl) (fun _ _ _ h => h) (Or.inl ⟨by rfl, ?_⟩) ?_
              rotate_left
              · intro W
                go_simp
                (try with_reducible rfl)
              simp only [Act.put, List.getElem_toArray, List.getElem_cons_zero, List.getElem_cons_succ, List.setIfInBounds_toArray, List.set_cons_zero, List.set_cons_succ]
              refine wpAny_ready (rs := [6]) (by kernel_rfl) (by simp) ?_
              refine AllReady.cons rfl (fun K hK => ?_) AllReady.nil
              go_simp
              refine hK _ _ ?_
              clear hK K
              refine wpAny_take (i := 7) (v := ?_) rfl (by kernel_rfl) (by kernel_rfl) (by kernel_rfl) (fun _ _ _ h => h) (Or.inl ⟨by rfl, ?_⟩) ?_
              rotate_left
              · intro W
                go_simp
                (try with_reducible rfl)
              simp only [Act.put, List.getElem_toArray, List.getElem_cons_zero, List.getElem_cons_succ, List.setIfInBounds_toArray, List.set_cons_zero, List.set_cons_succ]
              refine wpAny_ready (rs := [13]) (by kernel_rfl) (by simp) ?_
              refine AllReady.cons rfl (fun K hK => ?_) AllReady.nil
              go_simp
              refine (HLI3.out _ (Below.refl _ _).drew).mono ?_
              rintro e W4 ⟨rfl, hb4⟩
              have HB4 : Hid (Below W3.heap.size W3 W4) := hb4
              have hr4 := HK.out _ hb4
              clear hb4
              refine hK _ _ ?_
              clear hK K
              by_cases hLF : L = F
              · have hq : (L == F) = true := by simpa using hLF
                have hq2 : (L != F) = false := by simpa using hLF
                refine wpAny_take (i := 21) (v := ?_) rfl (by kernel_rfl) (by kernel_rfl) (by kernel_rfl) (fun _ _ _ h => h) (Or.inl ⟨by rfl, ?_⟩) ?_
                rotate_left
                · intro W
                  go_simp
                  (try with_reducible rfl)
                simp only [Act.put, List.getElem_toArray, List.getElem_cons_zero, List.getElem_cons_succ, List.setIfInBounds_toArray, List.set_cons_zero, List.set_cons_succ]
                refine wpAny_take (i := 22) (v := ?_) rfl (by kernel_rfl) (by kernel_rfl) (by kernel_rfl) (fun _ _ _ h => h) (Or.inl ⟨by rfl, ?_⟩) ?_
                rotate_left
                · intro W
                  go_simp
                  (try with_reducible rfl)
                simp only [Act.put, List.getElem_toArray, List.getElem_cons_zero, List.getElem_cons_succ, List.setIfInBounds_toArray, List.set_cons_zero, List.set_cons_succ]
                refine wpAny_take (i := 23) (v := ?_) rfl (by kernel_rfl) (by kernel_rfl) (by kernel_rfl) (fun _ _ _ h => h) (Or.inl ⟨by rfl, ?_⟩) ?_
                rotate_left
                · intro W
                  go_simp
                  (try with_reducible rfl)
                simp only [Act.put, List.getElem_toArray, List.getElem_cons_zero, List.getElem_cons_succ, List.setIfInBounds_toArray, List.set_cons_zero, List.set_cons_succ]
                refine wpAny_take (i := 24) (v := ?_) rfl (by kernel_rfl) (by kernel_rfl) (by kernel_rfl) (fun _ _ _ h => h) (Or.inl ⟨by rfl, ?_⟩) ?_
                rotate_left
                · intro W
                  go_simp
                  (try with_reducible rfl)
                simp only [Act.put, List.getElem_toArray, List.getElem_cons_zero, List.getElem_cons_succ, List.setIfInBounds_toArray, List.set_cons_zero, List.set_cons_succ]
                refine wpAny_take (i := 25) (v := ?_) rfl (by kernel_rfl) (by kernel_rfl) (by kernel_rfl) (fun _ _ _ h => h) (Or.inl ⟨by rfl, ?_⟩) ?_
                rotate_left
                · intro W
                  go_simp
                  (try with_reducible rfl)
                simp only [Act.put, List.getElem_toArray, List.getElem_cons_zero, List.getElem_cons_succ, List.setIfInBounds_toArray, List.set_cons_zero, List.set_cons_succ]
                refine wpAny_take (i := 26) (v := ?_) rfl (by kernel_rfl) (by kernel_rfl) (by kernel_rfl) (fun _ _ _ h => h) (Or.inl ⟨by rfl, ?_⟩) ?_
                rotate_left
                · intro W
                  go_simp
                  (try with_reducible rfl)
                simp only [Act.put, List.getElem_toArray, List.getElem_cons_zero, List.getElem_cons_succ, List.setIfInBounds_toArray, List.set_cons_zero, List.set_cons_succ]
                refine wpAny_take (i := 28) (v := ?_) rfl (by kernel_rfl) (by kernel_rfl) (by kernel_rfl) (fun _ _ _ h => h) (Or.inl ⟨by rfl, ?_⟩) ?_
                rotate_left
                · intro W
                  go_simp
                  (try with_reducible rfl)
                simp only [Act.put, List.getElem_toArray, List.getElem_cons_zero, List.getElem_cons_succ, List.setIfInBounds_toArray, List.set_cons_zero, List.set_cons_succ]
                refine wpAny_ready (rs := [27]) (by kernel_rfl) (by simp) ?_
                refine AllReady.cons rfl (fun K hK => ?_) AllReady.nil
                go_simp
                refine hK _ _ ?_
                clear hK K
                by_cases hae : addE l.length (w1, n) = 0
                · have HYE : Hid (L = F ∧ addE l.length (w1, n) = 0) := ⟨hLF, hae⟩
                  clear hLF hae
                  refine wpAny_ready (rs := [29]) (by kernel_rfl) (by simp) ?_
                  refine AllReady.cons rfl (fun K hK => ?_) AllReady.nil
                  go_simp
                  refine (HRY.out HYE.out.2 _ HB4.out).mono ?_
                  rintro e W5 ⟨rfl, hp5⟩
                  have HP5 : Hid (RadP W4 W5 w.heap.size (.slice lx l.length lc) (l ++ [(w1, n)])) := hp5
                  clear hp5
                  refine hK _ _ ?_
                  clear hK K
                  refine wpAny_take (i := 30) (v := ?_) rfl (by kernel_rfl) (by kernel_rfl) (by kernel_rfl) (fun _ _ _ h => h) (Or.inl ⟨by rfl, ?_⟩) ?_
                  rotate_left
                  · intro W
                    go_simp
                    (try with_reducible rfl)
                  simp only [Act.put, List.getElem_toArray, List.getElem_cons_zero, List.getElem_cons_succ, List.setIfInBounds_toArray, List.set_cons_zero, List.set_cons_succ]
                  refine wpAny_take (i := 31) (v := ?_) rfl (by kernel_rfl) (by kernel_rfl) (by kernel_rfl) (fun _ _ _ h => h) (Or.inl ⟨by rfl, ?_⟩) ?_
                  rotate_left
                  · intro W
                    go_simp
                    (try with_reducible rfl)
                  simp only [Act.put, List.getElem_toArray, List.getElem_cons_zero, List.getElem_cons_succ, List.setIfInBounds_toArray, List.set_cons_zero, List.set_cons_succ]
                  refine wpAny_done (by kernel_rfl) ?_ _
                  go_wp2
                  go_meet
                  case rel => exact Or.inr ⟨rfl, HP5.out.pre HB4.out, HYE.out⟩
                · have HAE : Hid (addE l.length (w1, n) ≠ 0) := hae
                  have hq3 : (addE l.length (w1, n) != 0) = true := by simpa using hae
                  have HNE : Hid (¬ (L = F ∧ addE l.length (w1, n) = 0)) := fun hh => hae hh.2
                  clear hLF hae
                  refine wpAny_ready (rs := [29]) (by kernel_rfl) (by simp) ?_
                  refine AllReady.cons rfl (fun K hK => ?_) AllReady.nil
                  go_simp
                  refine (HRN.out HAE.out _ HB4.out).mono ?_
                  rintro e W5 ⟨rfl, rfl⟩
                  refine hK _ _ ?_
                  clear hK K
                  refine wpAny_take (i := 30) (v := ?_) rfl (by kernel_rfl) (by kernel_rfl) (by kernel_rfl) (fun _ _ _ h => h) (Or.inl ⟨by rfl, ?_⟩) ?_
                  rotate_left
                  · intro W
                    go_simp
                    (try with_reducible rfl)
                  simp only [Act.put, List.getElem_toArray, List.getElem_cons_zero, List.getElem_cons_succ, List.setIfInBounds_toArray, List.set_cons_zero, List.set_cons_succ]
                  refine wpAny_take (i := 31) (v := ?_) rfl (by kernel_rfl) (by kernel_rfl) (by kernel_rfl) (fun _ _ _ h => h) (Or.inl ⟨by rfl, ?_⟩) ?_
                  rotate_left
                  · intro W
                    go_simp
                    (try with_reducible rfl)
                  simp only [Act.put, List.getElem_toArray, List.getElem_cons_zero, List.getElem_cons_succ, List.setIfInBounds_toArray, List.set_cons_zero, List.set_cons_succ]
                  refine wpAny_done (by kernel_rfl) ?_ _
                  go_wp2
                  go_meet
                  case rel => exact Or.inl ⟨rfl, HB4.out, HNE.out⟩
              · have hq : (L == F) = false := by simpa using hLF
                have hq2 : (L != F) = true := by simpa using hLF
                have HNE : Hid (¬ (L = F ∧ addE l.length (w1, n) = 0)) := fun hh => hLF hh.1
                clear hLF
                refine wpAny_take (i := 21) (v := ?_) rfl (by kernel_rfl) (by kernel_rfl) (by kernel_rfl) (fun _ _ _ h => h) (Or.inl ⟨by rfl, ?_⟩) ?_
                rotate_left
                · intro W
                  go_simp
                  (try with_reducible rfl)
                simp only [Act.put, List.getElem_toArray, List.getElem_cons_zero, List.getElem_cons_succ, List.setIfInBounds_toArray, List.set_cons_zero, List.set_cons_succ]
                refine wpAny_take (i := 22) (v := ?_) rfl (by kernel_rfl) (by kernel_rfl) (by kernel_rfl) (fun _ _ _ h => h) (Or.inl ⟨by rfl, ?_⟩) ?_
                rotate_left
                · intro W
                  go_simp
                  (try with_reducible rfl)
                simp only [Act.put, List.getElem_toArray, List.getElem_cons_zero, List.getElem_cons_succ, List.setIfInBounds_toArray, List.set_cons_zero, List.set_cons_succ]
                refine wpAny_take (i := 23) (v := ?_) rfl (by kernel_rfl) (by kernel_rfl) (by kernel_rfl) (fun _ _ _ h => h) (Or.inl ⟨by rfl, ?_⟩) ?_
                rotate_left
                · intro W
                  go_simp
                  (try with_reducible rfl)
                simp only [Act.put, List.getElem_toArray, List.getElem_cons_zero, List.getElem_cons_succ, List.setIfInBounds_toArray, List.set_cons_zero, List.set_cons_succ]
                refine wpAny_take (i := 24) (v := undef) rfl (by kernel_rfl) (by kernel_rfl) (by kernel_rfl) (fun _ _ _ h => h) (Or.inr ⟨by rfl, rfl⟩) ?_
                simp only [Act.put, List.getElem_toArray, List.getElem_cons_zero, List.getElem_cons_succ, List.setIfInBounds_toArray, List.set_cons_zero, List.set_cons_succ]
                refine wpAny_take (i := 25) (v := undef) rfl (by kernel_rfl) (by kernel_rfl) (by kernel_rfl) (fun _ _ _ h => h) (Or.inr ⟨by rfl, rfl⟩) ?_
                simp only [Act.put, List.getElem_toArray, List.getElem_cons_zero, List.getElem_cons_succ, List.setIfInBounds_toArray, List.set_cons_zero, List.set_cons_succ]
                refine wpAny_take (i := 28) (v := undef) rfl (by kernel_rfl) (by kernel_rfl) (by kernel_rfl) (fun _ _ _ h => h) (Or.inr ⟨by rfl, rfl⟩) ?_
                simp only [Act.put, List.getElem_toArray, List.getElem_cons_zero, List.getElem_cons_succ, List.setIfInBounds_toArray, List.set_cons_zero, List.set_cons_succ]
                refine wpAny_take (i := 26) (v := undef) rfl (by kernel_rfl) (by kernel_rfl) (by kernel_rfl) (fun _ _ _ h => h) (Or.inr ⟨by rfl, rfl⟩) ?_
                simp only [Act.put, List.getElem_toArray, List.getElem_cons_zero, List.getElem_cons_succ, List.setIfInBounds_toArray, List.set_cons_zero, List.set_cons_succ]
                refine wpAny_take (i := 27) (v := undef) rfl (by kernel_rfl) (by kernel_rfl) (by kernel_rfl) (fun _ _ _ h => h) (Or.inr ⟨by rfl, rfl⟩) ?_
                simp only [Act.put, List.getElem_toArray, List.getElem_cons_zero, List.getElem_cons_succ, List.setIfInBounds_toArray, List.set_cons_zero, List.set_cons_succ]
                refine wpAny_take (i := 29) (v := undef) rfl (by kernel_rfl) (by kernel_rfl) (by kernel_rfl) (fun _ _ _ h => h) (Or.inr ⟨by rfl, rfl⟩) ?_
                simp only [Act.put, List.getElem_toArray, List.getElem_cons_zero, List.getElem_cons_succ, List.setIfInBounds_toArray, List.set_cons_zero, List.set_cons_succ]
                refine wpAny_take (i := 30) (v := undef) rfl (by kernel_rfl) (by kernel_rfl) (by kernel_rfl) (fun _ _ _ h => h) (Or.inr ⟨by rfl, rfl⟩) ?_
                simp only [Act.put, List.getElem_toArray, List.getElem_cons_zero, List.getElem_cons_succ, List.setIfInBounds_toArray, List.set_cons_zero, List.set_cons_succ]
                refine wpAny_take (i := 31) (v := ?_) rfl (by kernel_rfl) (by kernel_rfl) (by kernel_rfl) (fun _ _ _ h => h) (Or.inl ⟨by rfl, ?_⟩) ?_
                rotate_left
                · intro W
                  go_simp
                  (try with_reducible rfl)
                simp only [Act.put, List.getElem_toArray, List.getElem_cons_zero, List.getElem_cons_succ, List.setIfInBounds_toArray, List.set_cons_zero, List.set_cons_succ]
                refine wpAny_done (by kernel_rfl) ?_ _
                go_wp2
                go_meet
                case rel => exact Or.inl ⟨rfl, HB4.out, HNE.out⟩
          case rest =>
          rcases hcut with ⟨rfl, hb5, hne⟩ | ⟨rfl, hp5, hye⟩
          · have HNO : Hid (openL d = l) := HEND.out (by rw [HF2.out, if_neg hne])
            have HB5 : Hid (Below w.heap.size w wc) := HB3.out.trans (hb5.mono HB3.out.size)
            have HR5 : Hid (RbAt wc w.heap.size (.slice lx l.length lc) l) := HR3.out.below hb5
            clear hb5 hne
            go_wp2
            go_ret2
            rw [HNO.out]
            exact ⟨_, by rw [HN.out]; rfl, HR5.out, HS.out, HB5.out⟩
          · obtain ⟨hO2, hF2, h500⟩ := HSTEP.out (w1, n) (by rw [HF2.out, if_pos hye])
            have hj2 := HJ.out (w1, n)
            rw [HL.out, hye.1, hFl] at hj2
            have HST : Hid (OpnS d (l ++ [(w1, n)]) ∧ openF (501 - (l ++ [(w1, n)]).length) (l ++ [(w1, n)]) d = openL d ∧ (jour (l ++ [(w1, n)])).length = N + (E + 1)) := ⟨hO2, hF2, hj2⟩
            have HP5 : Hid (RadP W3 wc w.heap.size (.slice lx l.length lc) (l ++ [(w1, n)])) := hp5
            clear hO2 hF2 hj2 hp5 hye
            have hz1 : IntKind.i64.wrap ((E : Int) + 1) = (E : Int) + 1 := by rw [IntKind.wrap_i64]; omega
            have hz2 : IntKind.i64.wrap ((N : Int) + ((E : Int) + 1)) = (N : Int) + ((E : Int) + 1) := by rw [IntKind.wrap_i64]; omega
            go_wp2
            go_roundg (gk - 1)
            case measure => omega
            case rel =>
              obtain ⟨lv', h1, h2, h3⟩ := HP5.out
              refine ⟨l ++ [(w1, n)], lv', by simp; omega, by rw [HST.out.2.2]; go_num, HST.out.1, HST.out.2.1, h1, fun k hk => ?_, ?_⟩
              · rcases h3 k hk with h4 | h4
                · exact HS.out k h4
                · have := HB3.out.size; omega
              · exact HB3.out.trans (h2.below HB3.out.size (fun k hk => HS.out k hk))
      · have HNO : Hid (openL d = l) := HEND.out (by
          rw [HRF.out]
          match P, h4 with
          | [], _ => rfl
          | [_], _ => rfl
          | [_, _], _ => rfl
          | [_, _, _], _ => rfl
          | [_, _, _, _], h => exact absurd rfl h
          | _ :: _ :: _ :: _ :: _ :: _, _ => rfl)
        have h41 : ((P.length : Int) != 4) = true := by simp; omega
        clear h4
        have hjl1 : (N : Int) ≤ d.length := by omega
        go_wp2_with fail

        refine (HIX.out wr HBB.out).mono ?_
        rintro e w1 ⟨rfl, rfl⟩
        go_wp2_with fail
        refine (HSP.out _ HBB.out).mono ?_
        rintro e w2 ⟨rfl, hw, hb2⟩
        go_wp2
        go_ret2
        rw [HNO.out]
        exact ⟨_, by rw [HN.out]; rfl, HRB.out.below hb2, HS.out, HBB.out.trans (hb2.mono HBB.out.size)⟩
end Go.Proofs.YtheadpemckoljaaGreatDoor
