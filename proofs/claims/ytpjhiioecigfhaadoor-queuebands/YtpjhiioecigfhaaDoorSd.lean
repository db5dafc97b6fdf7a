/-
  The reference's Bands over whatever queues of the reference: what All returns. Conditions: the queues' methods do what models of them tell (a premise); one band at least, eight at most.
-/
import Derived.Test.YtpjhiioecigfhaaDoorSc
namespace Go.Proofs.YtpjhiioecigfhaaDoor
open Go.RowKit Go.Extern.Stop Go.Stop Go.Extern

/-- Those that wait in the first k. -/
def rallTo {Q : Nat → RM} (s : ∀ i, (Q i).σ) : Nat → List Hd
  | 0 => []
  | k + 1 => rallTo s k ++ (Q k).all (s k)
/-- A round of All. -/
structure RAllI (Q : Nat → RM) (s : ∀ i, (Q i).σ) (w : World) (k : Nat) (o : Value) (W : World) : Prop where
  row : Ps W o (rallTo s k)
  fit : (rallTo s k).length ≤ 100000 * k ∧ ∀ x ∈ rallTo s k, 0 ≤ x.l ∧ x.l ≤ 10000
  new : ∀ j, o.ownBlock = some j → w.heap.size ≤ j
  bel : Below w.heap.size w W
set_option maxHeartbeats 2000000 in
theorem rbands_all {Q : Nat → RM} {N B ob oo oc : Nat} {Fs : Nat → Nat → Prop} {s : ∀ i, (Q i).σ} {t : Int} {n : Nat} (hS : RSmall Q N) (w : World) (h : RBAt Q N B ob oo oc w Fs s) (hI : ∀ i, i < N → (Q i).inv t n (s i)) (hn : n ≤ 1001) :
    Calls Tryd.prog 61 #[.pointer (some ⟨B, 0, none⟩)] w fun e w' => ∃ u, e = .returned u ∧ Ps w' u (rallTo s N) ∧ Fit (rallTo s N) ∧ Below w.heap.size w w' := by
  have HS : Hid (RSmall Q N) := hS
  have HB : Hid (RBAt Q N B ob oo oc w Fs s) := h
  have HI : Hid (∀ i, i < N → (Q i).inv t n (s i)) := hI
  have hN8 := hS.eight
  have hc := h.cell
  have hl := lt_of_block h.blk
  obtain ⟨i0, hi, hz0, hz1, hz2⟩ := info_parts infoPack
  clear h hI hS
  go_enter Tryd.func61, Tryd.ntmps61
  go_wp2
  go_loopw [3, 11] (fun o i wr => ∃ k : Nat, k ≤ N ∧ i = .int .i64 k ∧ RAllI Q s w k o wr) (fun _ i _ => N - (intOf i).toNat)
  case atStart => exact ⟨0, Nat.zero_le _, rfl, Ps.nil _, ⟨by simp [rallTo], by simp [rallTo]⟩, fun j hj => by simp [Value.ownBlock] at hj, Below.refl _ _⟩
  case round =>
    obtain ⟨k, hk, rfl, hr⟩ := hrel
    have HR : Hid (RAllI Q s w k u3 wr) := hr
    clear hr
    by_cases hlt : k < N
    · have hp := HB.out.below HS.out.fine HR.out.bel
      have hrow := hp.row k hlt
      have hM := HS.out.fine k hlt
      have hmA := hM.mA
      have heA := hM.eA
      have HCA := hM.cA (hp.each k hlt) (HI.out k hlt) hn
      have hfew := HS.out.wait k hlt (HI.out k hlt) hn
      have HEQ : Hid (rallTo s (k + 1) = rallTo s k ++ (Q k).all (s k)) := rfl
      obtain ⟨l2, hTk⟩ : ∃ T, (Q k).all (s k) = T := ⟨_, rfl⟩
      rw [hTk] at HCA hfew HEQ
      clear hM hTk hp
      obtain ⟨ux, ucap, hu3, huc⟩ := HR.out.row.shape
      subst hu3
      obtain ⟨na, hna⟩ : ∃ na, (rallTo s k).length = na := ⟨_, rfl⟩
      have HNA : Hid ((rallTo s k).length = na) := hna
      have hnak : na ≤ 100000 * k := by rw [← hna]; exact HR.out.fit.1
      rw [hna] at HR huc ⊢
      clear hna
      have hws := HR.out.bel.size
      go_wp2_with fail
      refine HCA.mono ?_
      rintro e w2 ⟨u2, rfl, hu2, hf2, hb2⟩
      have HU2 : Hid (Ps w2 u2 l2) := hu2
      have HF2 : Hid (Fit l2) := hf2
      have hs2 := hb2.size
      have HB2 : Hid (Below w.heap.size w w2) := HR.out.bel.trans ((Ot.of_below (S := fun _ => False) hb2).below hws (fun _ h => h.elim))
      have HSG : Hid (Ps w2 (.slice ux na ucap) (rallTo s k)) := Ps.below HR.out.row hb2
      have HFT : Hid ((rallTo s (k + 1)).length ≤ 100000 * (k + 1) ∧ ∀ x ∈ rallTo s (k + 1), 0 ≤ x.l ∧ x.l ≤ 10000) := by
        refine ⟨by rw [HEQ.out, List.length_append]; have := HR.out.fit.1; omega, fun x hx => ?_⟩
        rw [HEQ.out, List.mem_append] at hx
        rcases hx with hx | hx
        · exact HR.out.fit.2 x hx
        · exact HF2.out.2 x hx
      clear hu2 hf2 hb2 HCA
      cases l2 with
      | nil =>
        obtain ⟨xa, xc, hu2, _⟩ := HU2.out.shape
        subst hu2
        go_wp2_with (at_builtin; refine wpList_append_empty _ rfl (.tmp 15) (.tmp 17) 36 rfl 94 i0 Tryd.underlying36 hi ux na ucap rfl huc xa xc rfl ?_)
        go_roundw
        case rel => exact ⟨k + 1, by omega, by go_num, by rw [HEQ.out, List.append_nil]; exact HSG.out, HFT.out, HR.out.new, HB2.out⟩
        case measure => simp [intOf]; omega
      | cons y l3 =>
        obtain ⟨bl, ol, cl, hu2, _, _, hbl, hcl⟩ := HU2.out.some (by simp)
        subst hu2
        obtain ⟨ml, hml⟩ : ∃ ml, (y :: l3).length = ml := ⟨_, rfl⟩
        have HML : Hid ((y :: l3).length = ml) := hml
        have HCL : Hid (∀ j u, (flt Hd.cs (y :: l3))[j]? = some u → w2.cell? ⟨bl, ol + j, none⟩ = some u) := hcl
        have hml0 : 0 < ml ∧ ml ≤ 100000 := by rw [← hml]; exact ⟨by simp, hfew⟩
        have HSG' : Hid (Seg w2 94 6 (.slice ux na ucap) na (flt Hd.cs (rallTo s k))) := by have := HSG.out; unfold Ps at this; rw [HNA.out] at this; exact this
        rw [hml]
        clear hml hcl
        go_wp2_with (at_builtin; refine wpList_append_seg _ rfl (.tmp 15) (.tmp 17) 36 rfl 94 i0 _ 6 48 Tryd.underlying36 hi hz0 hz1 hz2 rfl (by decide) (.slice ux na ucap) na (flt Hd.cs (rallTo s k)) rfl HSG'.out ⟨bl, ol, none⟩ ml cl (flt Hd.cs (y :: l3)) rfl (by rw [flt_length Hd.cs 6 Hd.len, HML.out]) (fun j u hj => by rw [Addr.add_lit]; exact HCL.out j u hj) (flt_ones' Hd.cs Hd.one _) (by omega) (by unfold maxLen; omega) (by omega) _ rfl ?_; intro g goff gcap w4 hs4 hg4 ha4 hl4)
        go_roundw
        case rel =>
          refine ⟨k + 1, by omega, by go_num, by rw [HEQ.out]; exact Ps.app hs4 (by rw [List.length_append, HNA.out, HML.out]), HFT.out, fun j hj => ?_, ?_⟩
          · simp only [Value.ownBlock, Option.some.injEq] at hj
            subst hj
            rcases ha4 with h | h
            · exact HR.out.new _ h
            · omega
          · have hO := Ot.grown (S := fun j => w.heap.size ≤ j) (row := (Value.slice ux na ucap).ownBlock) (Ot.refl _ w2) hg4 (fun j e => Or.inl (HR.out.new j e))
            exact HB2.out.trans (hO.below (by omega) (fun j hj => hj))
        case measure => simp [intOf]; omega
    · obtain rfl : k = N := by omega
      go_wp2
      go_ret
      exact ⟨u3, rfl, HR.out.row, ⟨by have := HR.out.fit.1; omega, HR.out.fit.2⟩, HR.out.bel⟩
end Go.Proofs.YtpjhiioecigfhaaDoor
