/-
  The reference reads a filter in parentheses. Conditions: as FilterRC's. Written by wip/mkrp6.py.
-/
import Derived.Test.YtibecinojkkjpaaGreatDoorRp5
namespace Go.Proofs.YtibecinojkkjpaaGreatDoor
open Go.RowKit Go.Extern.Stop Go.Stop Go.Extern

def muP (w : World) (b : Nat) : Nat := match w.cell? ⟨b, 2, none⟩ with
  | some (.int _ z) => if z = 0 then (match w.cell? ⟨b, 0, none⟩ with | some v => lenV v + 1 | none => 0) else 0
  | _ => 0
theorem seg_lenV {w : World} {e : TypeId} {k : Nat} {v : Value} {n : Nat} {xs : List Value} (h : Seg w e k v n xs) : lenV v = n := by
  rcases h.form with ⟨e, h0, _⟩ | ⟨_, _, _, e, _⟩ <;> rw [e] <;> simp [lenV, *]
theorem PsAt.mu {w : World} {b n : Nat} {p : Int} {v : Value} {L : List (List UInt8 × Nat)} (h : PsAt w b n 0 p v L) : muP w b = L.length + 1 := by
  obtain ⟨c0, c1, c2, _⟩ := h.cells
  unfold muP
  rw [c2, c0]
  simp [seg_lenV h.row]
theorem PsAt.mu0 {w : World} {b n : Nat} {er p : Int} {v : Value} {L : List (List UInt8 × Nat)} (h : PsAt w b n er p v L) (hne : er ≠ 0) : muP w b = 0 := by
  obtain ⟨c0, c1, c2, _⟩ := h.cells
  unfold muP
  rw [c2]
  simp [hne]
section
variable {w wr w2 w3 W : World} {b fb d : Nat} {kv : Value} {parts : List Ft} {ks : List Nat}
theorem GkR.start {B : World} (ho : Ot (fun k => k = b) w B) : GkR w b B.heap.size d (.slice none 0 0) [] [] (B.alloc (.cells #[.string ⟨#[97, 110, 100]⟩, .int .i64 0, .int .i64 0, .int .i64 0, .slice none 0 0] 63)) :=
  ⟨ho.size, new_block _ _, Seg.nil _ _ _, rfl, fun j hj => by simp [Value.ownBlock] at hj, fun i y k hy => by simp at hy, ho.alloc _⟩
theorem GkR.low (_ : GkR w b fb d kv parts ks wr) (hW : Below wr.heap.size wr W) (hg : W.grownBy w3 kv.ownBlock) : ∀ k, k < wr.heap.size → kv.ownBlock ≠ some k → w3.heap[k]? = wr.heap[k]? := fun k hk hv => (hg.block k (by have := hW.size; omega) (fun e => hv e.symm)).trans (hW.block k hk)
theorem GkR.mid (h : GkR w b fb d kv parts ks wr) (hW : Below wr.heap.size wr W) (hg : W.grownBy w3 kv.ownBlock) : w3.heap[fb]? = some (.cells #[.string ⟨#[97, 110, 100]⟩, .int .i64 0, .int .i64 0, .int .i64 0, kv] 63 (0, 0)) ∧ w3.cell? ⟨fb, 4, none⟩ = some kv ∧ w3.frozen? ⟨fb, 4, none⟩ = false := by
  have hb := (h.low hW hg fb h.lt (fun e => (h.own fb e).2 rfl)).trans h.blk
  exact ⟨hb, by simp [World.cell?, hb], by simp [World.frozen?, hb]⟩
theorem GkR.mid2 (h : GkR w b fb d kv parts ks wr) (hW : Below wr.heap.size wr W) (hg : W.grownBy w3 kv.ownBlock) (u : Value) : (w3.setCell ⟨fb, 4, none⟩ u).heap[fb]? = some (.cells #[.string ⟨#[97, 110, 100]⟩, .int .i64 0, .int .i64 0, .int .i64 0, u] 63 (0, 0)) ∧ Ot (fun k => k = b) w (w3.setCell ⟨fb, 4, none⟩ u) ∧ ∀ k, k < w.heap.size → (w3.setCell ⟨fb, 4, none⟩ u).heap[k]? = wr.heap[k]? := by
  refine ⟨by rw [heap_setCell_here (h.mid hW hg).1]; simp, ((h.ot.trans (Ot.of_below hW)).grown hg (fun k hk => Or.inr (h.own k hk).1)).setCell (p := ⟨fb, 4, none⟩) (Or.inr h.new) _, fun k hk => ?_⟩
  have := h.new
  rw [heap_setCell_other _ ⟨fb, 4, none⟩ k _ (by show k ≠ fb; omega)]
  exact h.low hW hg k (Nat.lt_of_lt_of_le hk h.ot.size) (fun e => by have := (h.own k e).1; omega)
end
set_option maxRecDepth 100000 in
set_option maxHeartbeats 4000000 in
theorem rf_grp {b n d : Nat} {at' : Int} {v : Value} {L : List (List UInt8 × Nat)} (hC : FilterRC d) (ar : Int) (w : World) (h : PsAt w b n 0 at' v L) (hB : ∀ w', Ot (fun k => k = b) w w' → GlobR w') (hs : shortL L) (hL : L.length ≤ 2000) (ha : 0 ≤ ar) (hd : ar + (d + 1 : Nat) = 20) (h0 : hdW L ≠ [97, 110, 121]) (h1 : hdW L ≠ [110, 111, 116]) (h2 : hdW L = [40]) :
    Calls Tryz.prog 13 #[.pointer (some ⟨b, 0, none⟩), .int .i64 ar] w fun e w' => RpP w w' b n at' v L (d + 1) (grpF n (readF n d) (L.tail.length + 1) [] [] L.tail) e := by
  have H : Hid (PsAt w b n 0 at' v L) := h
  have hb := h.lt
  have htl0 := tail_le L
  have HVL : Hid (∀ j, v.ownBlock = some j → j < w.heap.size) := fun j hj => by have h := h.row.lt hj; exact h
  have HC : Hid (∀ w1 v1 L1, PsAt w1 b n 0 at' v1 L1 → Ot (fun k => k = b) w w1 → (∀ y ∈ L1, y ∈ L) → L1.length ≤ L.length → Calls Tryz.prog 13 #[.pointer (some ⟨b, 0, none⟩), .int .i64 (ar + 1)] w1 fun e w' => RpP w1 w' b n at' v1 L1 d (readF n d L1) e) := fun w1 v1 L1 g1 g2 g3 g4 => hC (ar + 1) w1 g1 (fun w' h' => hB w' (g2.trans h')) (fun y hy => hs y (g3 y hy)) (by omega) (by omega) (by omega)
  have HRL : Hid (∀ L1 t R, readF n d L1 = .ok (t, R) → 1 + R.length ≤ L1.length) := fun L1 t R h1 => by have := readF_len n d L1 t R h1; have := nd_pos d t; omega
  obtain ⟨c0, c1, c2, c3, f0, f2, f3⟩ := h.cells
  have HN : Hid (hdW L ≠ [97, 110, 121]) := h0
  have HN1 : Hid (hdW L ≠ [110, 111, 116]) := h1
  have HW : Hid (hdW L = [40]) := h2
  have har : ar ≤ 19 := by omega
  have hwr : IntKind.i64.wrap (ar + 1) = ar + 1 := by rw [IntKind.wrap_i64]; omega
  obtain ⟨i0, hi, hz0, hz1, hz2⟩ := info_parts infoRFilter
  obtain ⟨RES, hRES⟩ : ∃ r, r = grpF n (readF n d) (L.tail.length + 1) [] [] L.tail := ⟨_, rfl⟩
  have HRES : Hid (RES = grpF n (readF n d) (L.tail.length + 1) [] [] L.tail) := hRES
  rw [← hRES]
  clear hRES
  have hL2 : L.tail.length ≤ 2000 := by omega
  clear h h0 h1 h2 hC hB hs hd
  go_enter Tryz.func13, Tryz.ntmps13
  go_wp2_with fail
  refine (is_no w H.out ⟨#[97, 110, 121]⟩ HN.out).mono ?_
  rintro e w ⟨rfl, rfl⟩
  go_wp2_with fail
  refine (is_no _ H.out ⟨#[110, 111, 116]⟩ HN1.out).mono ?_
  rintro e w ⟨rfl, rfl⟩
  go_wp2_with fail
  refine (is_yes _ H.out ⟨#[40]⟩ (by simp) HW.out).mono ?_
  rintro e w1 ⟨rfl, v1, hp, hv, ho⟩
  have HP1 : Hid (PsAt w1 b n 0 at' v1 L.tail) := hp
  have HV1 : Hid (v1.ownBlock = v.ownBlock) := hv
  have HO1 : Hid (Ot (fun k => k = b) w w1) := ho
  clear hp hv ho c0 c1 c2 c3 f0 f2 f3
  go_wp2
  obtain ⟨fb, hfbe⟩ : ∃ fb, fb = w1.heap.size := ⟨_, rfl⟩
  rw [← hfbe]
  have HFB : Hid (fb = w1.heap.size) := hfbe
  have hfb : w.heap.size ≤ fb := by rw [hfbe]; exact HO1.out.size
  have HST : Hid (GkR w b fb d (.slice none 0 0) [] [] (w1.alloc (.cells #[.string ⟨#[97, 110, 100]⟩, .int .i64 0, .int .i64 0, .int .i64 0, .slice none 0 0] 63))) := by show GkR _ _ _ _ _ _ _ _; rw [hfbe]; exact GkR.start HO1.out
  clear hfbe
  go_loopw [6] (fun wv wr => ∃ word : List UInt8, wv = .string ⟨word.toArray⟩ ∧ (word = [] ∨ word = [97, 110, 100] ∨ word = [111, 114]) ∧ ∃ (v' : Value) (Lr : List (List UInt8 × Nat)) (er p : Int) (kv : Value), PsAt wr b n er p v' Lr ∧ v'.ownBlock = v.ownBlock ∧ (∀ y ∈ Lr, y ∈ L) ∧ Ot (fun k => k = b) w wr ∧ wr.heap[fb]? = some (.cells #[.string ⟨#[97, 110, 100]⟩, .int .i64 0, .int .i64 0, .int .i64 0, kv] 63 (0, 0)) ∧ ((er = 0 ∧ p = at' ∧ ∃ (parts : List Ft) (ks : List Nat) (k : Nat), GkR w b fb d kv parts ks wr ∧ Lr.length < k ∧ parts.length + Lr.length ≤ L.length ∧ grpF n (readF n d) k word parts Lr = RES) ∨ (∃ (c : Int) (q : Nat), RES = .error (c, q) ∧ c ≠ 0 ∧ er = c ∧ p = q))) (fun _ wr => muP wr b)
  case atStart => exact ⟨[], rfl, Or.inl rfl, v1, L.tail, 0, at', _, HP1.out.below (below_alloc_ (Below.refl _ _) _), HV1.out, tail_mem, HST.out.ot, HST.out.blk, Or.inl ⟨rfl, rfl, [], [], L.tail.length + 1, HST.out, by omega, by simp, HRES.out.symm⟩⟩
  case round =>
    obtain ⟨word, rfl, hwo, v', Lr, er, p, kv, hps, hvo, hsub, hot, hbk, hst⟩ := hrel
    rcases hst with ⟨rfl, hpa, parts, ks, k, hgr, hk, hpl, hgf⟩ | ⟨c, q, hres, hne, rfl, rfl⟩
    · obtain rfl := hpa.symm
      obtain ⟨k, rfl⟩ : ∃ k', k = k' + 1 := ⟨k - 1, by omega⟩
      obtain ⟨kx, kc, rfl⟩ : ∃ x c, kv = .slice x parts.length c := by rcases hgr.seg.form with ⟨h, h0, _⟩ | ⟨_, _, _, h, _⟩ <;> first | exact ⟨_, _, by rw [h, h0]⟩ | exact ⟨_, _, h⟩
      have HMU : Hid (muP wr b = Lr.length + 1) := hps.mu
      have HGR : Hid (GkR w b fb d (.slice kx parts.length kc) parts ks wr) := hgr
      have hLL : Lr.length ≤ L.length := by omega
      have HCA : Hid (Calls Tryz.prog 13 #[.pointer (some ⟨b, 0, none⟩), .int .i64 (ar + 1)] wr.drew fun e w' => ∃ x, e = .returned (.pointer x) ∧ RpP wr w' b n at' v' Lr d (readF n d Lr) (.returned (.pointer x)) ∧ GkR w b fb d (.slice kx parts.length kc) parts ks w') := by
        refine (HC.out wr.drew v' Lr (hps.below (Below.refl _ _).drew) (hot.trans (Ot.of_below (Below.refl _ _).drew)) hsub hLL).mono ?_
        intro e w' hq
        have hq2 := hq.after (w := wr) (v := v') (L := Lr) (Ot.of_below (Below.refl _ _).drew) rfl (fun y hy => hy)
        have hx : ∃ x, e = .returned (.pointer x) := by obtain ⟨_, _, _, _, _, _, _, _, h⟩ := hq; rcases h with ⟨_, _, _, _, _, h, _⟩ | ⟨_, _, x, _, _, _, _, h⟩ <;> exact ⟨_, h⟩
        obtain ⟨x, rfl⟩ := hx
        have ho2 : Ot (fun k => k = b) wr w' := by obtain ⟨_, _, _, _, _, _, h, _⟩ := hq2; exact h
        exact ⟨x, rfl, hq2, HGR.out.ots hb ho2⟩
      have HSUB : Hid (∀ y ∈ Lr, y ∈ L) := hsub
      have HGF : Hid (grpF n (readF n d) (k + 1) word parts Lr = RES) := hgf
      have HVO : Hid (v'.ownBlock = v.ownBlock) := hvo
      obtain ⟨c0, c1, c2, c3, f0, f2, f3⟩ := hps.cells
      obtain ⟨k0, k1, k2, k3⟩ := hgr.cells
      have hfl := hgr.lt
      clear hps hgr hsub hgf hvo hbk hot HC
      go_wp2
      go_region_law (first | (refine step_append_seg _ (by rfl) (.tmp 49) (.tmp 54) 61 (by rfl) 22 i0 _ 1 8 Tryz.underlying61 hi hz0 hz1 hz2 rfl (by decide) (.slice kx parts.length kc) parts.length (ks.map ptrV) (by rfl) (HSN.out.alloc _) ⟨w4.heap.size, 0, none⟩ 1 1 [.pointer x] (by rfl) rfl (news_of (new_block_ (by simp))) (by simp [Value.oneCell']) (by decide) (by unfold maxLen; omega) (by omega) _ rfl ?_; intro g1 off1 cap1 w5 hs5 hg5 ha5 hl5; obtain ⟨_, d5, z5⟩ := HG4.out.mid (below_alloc_ (Below.refl _ _) _) hg5) | (go_simp; go_wp2_with (go_at_call 13; refine HCA.out.mono ?_; rintro e w4 ⟨x, rfl, hq4, hg4⟩; have HQ4 : Hid (RpP wr w4 b n at' v' Lr d (readF n d Lr) (.returned (.pointer x))) := hq4; have HG4 : Hid (GkR w b fb d (.slice kx parts.length kc) parts ks w4) := hg4; have HSN : Hid (Seg w4 22 1 (.slice kx parts.length kc) parts.length (ks.map ptrV)) := hg4.seg; obtain ⟨x0, x1, x2, x3⟩ := hg4.cells; have hfl4 := hg4.lt; clear hq4 hg4)))
      all_goals
        obtain ⟨er, p, v2, L2, g1', g2', g3', g4', g5'⟩ := HQ4.out
        obtain ⟨hb6, ho6, hlow⟩ := HG4.out.mid2 (below_alloc_ (Below.refl _ _) _) hg5 (.slice (some ⟨g1, off1, none⟩) (parts.length + 1) cap1)
        have hv2 : v2.ownBlock = v.ownBlock := g2'.trans HVO.out
        have hp6 : PsAt (w5.setCell ⟨fb, 4, none⟩ (.slice (some ⟨g1, off1, none⟩) (parts.length + 1) cap1)) b n er p v2 L2 := g1'.kept (hlow b hb) (fun j hj => hlow j (HVL.out j (hv2 ▸ hj)))
        have HV2 : Hid (v2.ownBlock = v.ownBlock) := hv2
        have HSB2 : Hid (∀ y ∈ L2, y ∈ L) := fun y hy => HSUB.out y (g4' y hy)
        clear hlow hv2 g1' g2' g4' x0 x1 x2 x3 d5 z5 c0 c1 c2 c3 f0 f2 f3 k0 k1 k2 k3
        rcases g5' with ⟨t, tb, hres, rfl, hpe, hxe, hrf⟩ | ⟨c, q, x', hres, hec, heq, hcn, _⟩
        · obtain rfl := hpe.symm
          obtain rfl : x = some ⟨tb, 0, none⟩ := by simpa using hxe
          have hrl := HRL.out Lr t L2 hres
          have htl := tail_le L2
          obtain ⟨_, hg6⟩ := HGR.out.step hb g3' (below_alloc_ (Below.refl _ _) _) hrf hs5 hg5 ha5 (by simp)
          have HGS0 := grp_some (n := n) (rd := readF n d) (k := k) (word := word) (parts := parts) hres
          rw [HGF.out] at HGS0
          have HGS : Hid ((if hdW L2 == [41] then .ok (⟨if word == [111, 114] then 5 else 4, 0, 0, 0, parts ++ [t]⟩, L2.tail)
            else if (hdW L2 == (wdF word (hdW L2))) && ((wdF word (hdW L2)) == [97, 110, 100] || (wdF word (hdW L2)) == [111, 114]) then grpF n (readF n d) k (wdF word (hdW L2)) (parts ++ [t]) L2.tail
            else .error (3, hdP n L2)) = RES) := HGS0.symm
          clear HGS0 hres hxe hrf hs5 hg5 ha5 hl5 g3' hb6 ho6 HQ4 HG4 HSN HCA HGF
          generalize w5.setCell ⟨fb, 4, none⟩ (.slice (some ⟨g1, off1, none⟩) (parts.length + 1) cap1) = w6 at *
          have HP6 : Hid (PsAt w6 b n 0 at' v2 L2) := hp6
          have HG6 : Hid (GkR w b fb d (.slice (some ⟨g1, off1, none⟩) (parts.length + 1) cap1) (parts ++ [t]) (ks ++ [tb]) w6) := hg6
          clear hp6 hg6
          cases hx : (hdW L2 == [41])
          case true =>
            have HX : Hid (hdW L2 = [41]) := by show hdW L2 = [41]; simpa using hx
            have HRS : Hid (RES = .ok (⟨if word == [111, 114] then 5 else 4, 0, 0, 0, parts ++ [t]⟩, L2.tail)) := by show _ = _; rw [← HGS.out, hx]; rfl
            clear hx HGS
            go_wp2_with fail
            refine (is_yes _ HP6.out ⟨#[41]⟩ (by simp) HX.out).mono ?_
            rintro e w7 ⟨rfl, v7, hp7, hv7, ho7⟩
            have HP7 : Hid (PsAt w7 b n 0 at' v7 L2.tail) := hp7
            have HV7 : Hid (v7.ownBlock = v.ownBlock) := hv7.trans HV2.out
            have hg7 := HG6.out.ots hb ho7
            have HG7 : Hid (GkR w b fb d (.slice (some ⟨g1, off1, none⟩) (parts.length + 1) cap1) (parts ++ [t]) (ks ++ [tb]) w7) := hg7
            obtain ⟨y0, y1, y2, y3⟩ := hg7.cells
            have hfl := hg7.lt
            clear hp7 hv7 ho7 hg7
            cases hw : (word == [111, 114])
            case true =>
              have HRT : Hid (RES = .ok (⟨5, 0, 0, 0, parts ++ [t]⟩, L2.tail)) := by show _ = _; rw [HRS.out, hw]; rfl
              clear HRS
              go_wp2
              go_ret
              exact ⟨0, at', v7, L2.tail, (HP7.out.kept (heap_setCell_other _ ⟨fb, 0, none⟩ b _ (by show b ≠ fb; omega)) (fun j hj => heap_setCell_other _ ⟨fb, 0, none⟩ j _ (by have := HVL.out j (HV7.out ▸ hj); show j ≠ fb; omega))), HV7.out, HG7.out.ot.setCell (p := ⟨fb, 0, none⟩) (Or.inr hfb) _, fun y hy => HSB2.out y (tail_mem y hy), Or.inl ⟨_, fb, HRT.out, rfl, rfl, rfl, HG7.out.made (Or.inr rfl) HG7.out.okF (fun j hj => heap_setCell_other _ ⟨fb, 0, none⟩ j _ hj) (by rw [heap_setCell_here HG7.out.blk]; simp [kindS])⟩⟩
            case false =>
              have HRT : Hid (RES = .ok (⟨4, 0, 0, 0, parts ++ [t]⟩, L2.tail)) := by show _ = _; rw [HRS.out, hw]; rfl
              clear HRS
              go_wp2
              go_ret
              exact ⟨0, at', v7, L2.tail, HP7.out, HV7.out, HG7.out.ot, fun y hy => HSB2.out y (tail_mem y hy), Or.inl ⟨_, fb, HRT.out, rfl, rfl, rfl, HG7.out.made (Or.inl rfl) HG7.out.okF (fun j hj => rfl) (by rw [HG7.out.blk]; simp [kindS])⟩⟩
          case false =>
            have HX : Hid (hdW L2 ≠ [41]) := by show hdW L2 ≠ [41]; simpa using hx
            go_wp2_with fail
            refine (is_no _ HP6.out ⟨#[41]⟩ HX.out).mono ?_
            rintro e w7 ⟨rfl, rfl⟩
            clear HX
            rcases hwo with rfl | rfl | rfl
            · cases ha1 : (hdW L2 == [97, 110, 100])
              case true =>
                have HX : Hid (hdW L2 = [97, 110, 100]) := by show hdW L2 = [97, 110, 100]; simpa using ha1
                clear hx ha1
                go_wp2_with fail
                refine (is_yes _ HP6.out ⟨#[97, 110, 100]⟩ (by simp) HX.out).mono ?_
                rintro e w7 ⟨rfl, v7, hp7, hv7, ho7⟩
                have HP7 : Hid (PsAt w7 b n 0 at' v7 L2.tail) := hp7
                have HV7 : Hid (v7.ownBlock = v.ownBlock) := hv7.trans HV2.out
                have HG7 : Hid (GkR w b fb d (.slice (some ⟨g1, off1, none⟩) (parts.length + 1) cap1) (parts ++ [t]) (ks ++ [tb]) w7) := HG6.out.ots hb ho7
                have HRS : Hid (grpF n (readF n d) k [97, 110, 100] (parts ++ [t]) L2.tail = RES) := by show _ = _; have hh := HGS.out; rw [HX.out] at hh; simpa [wdF] using hh
                clear hp7 hv7 ho7
                go_wp2
                go_roundw
                case rel => exact ⟨[97, 110, 100], rfl, by simp, v7, L2.tail, 0, at', _, HP7.out, HV7.out, fun y hy => HSB2.out y (tail_mem y hy), HG7.out.ot, HG7.out.blk, Or.inl ⟨rfl, rfl, parts ++ [t], ks ++ [tb], k, HG7.out, by omega, by rw [List.length_append]; simp; simp at htl; omega, HRS.out⟩⟩
                case measure =>
                  show muP w7 b < muP wr b
                  rw [HP7.out.mu, HMU.out]
                  omega
              case false =>
                have HX1 : Hid (hdW L2 ≠ [97, 110, 100]) := by show hdW L2 ≠ [97, 110, 100]; simpa using ha1
                go_wp2_with fail
                refine (is_no _ HP6.out ⟨#[97, 110, 100]⟩ HX1.out).mono ?_
                rintro e w7 ⟨rfl, rfl⟩
                cases ha2 : (hdW L2 == [111, 114])
                case true =>
                  have HX : Hid (hdW L2 = [111, 114]) := by show hdW L2 = [111, 114]; simpa using ha2
                  clear hx ha1 ha2
                  go_wp2_with fail
                  refine (is_yes _ HP6.out ⟨#[111, 114]⟩ (by simp) HX.out).mono ?_
                  rintro e w7 ⟨rfl, v7, hp7, hv7, ho7⟩
                  have HP7 : Hid (PsAt w7 b n 0 at' v7 L2.tail) := hp7
                  have HV7 : Hid (v7.ownBlock = v.ownBlock) := hv7.trans HV2.out
                  have HG7 : Hid (GkR w b fb d (.slice (some ⟨g1, off1, none⟩) (parts.length + 1) cap1) (parts ++ [t]) (ks ++ [tb]) w7) := HG6.out.ots hb ho7
                  have HRS : Hid (grpF n (readF n d) k [111, 114] (parts ++ [t]) L2.tail = RES) := by show _ = _; have hh := HGS.out; rw [HX.out] at hh; simpa [wdF] using hh
                  clear hp7 hv7 ho7
                  go_wp2
                  go_roundw
                  case rel => exact ⟨[111, 114], rfl, by simp, v7, L2.tail, 0, at', _, HP7.out, HV7.out, fun y hy => HSB2.out y (tail_mem y hy), HG7.out.ot, HG7.out.blk, Or.inl ⟨rfl, rfl, parts ++ [t], ks ++ [tb], k, HG7.out, by omega, by rw [List.length_append]; simp; simp at htl; omega, HRS.out⟩⟩
                  case measure =>
                    show muP w7 b < muP wr b
                    rw [HP7.out.mu, HMU.out]
                    omega
                case false =>
                  have HX2 : Hid (hdW L2 ≠ [111, 114]) := by show hdW L2 ≠ [111, 114]; simpa using ha2
                  have HRS : Hid (RES = .error (3, hdP n L2)) := by show _ = _; have hh := HGS.out; rw [hx] at hh; simp [wdF, HX1.out, HX2.out] at hh; exact hh.symm
                  clear hx ha1 ha2
                  go_wp2_with fail
                  refine (is_no _ HP6.out ⟨#[111, 114]⟩ HX2.out).mono ?_
                  rintro e w7 ⟨rfl, rfl⟩
                  go_wp2_with fail
                  refine (fail_any at' _ HP6.out 3).mono ?_
                  rintro e w8 ⟨rfl, hp8, ho8⟩
                  have HP8 : Hid (PsAt w8 b n 3 (hdP n L2) v2 L2) := hp8
                  have HG8 : Hid (GkR w b fb d (.slice (some ⟨g1, off1, none⟩) (parts.length + 1) cap1) (parts ++ [t]) (ks ++ [tb]) w8) := HG6.out.ots hb ho8
                  clear hp8 ho8
                  go_wp2
                  go_roundw
                  case rel => exact ⟨[], rfl, by simp, v2, L2, 3, hdP n L2, _, HP8.out, HV2.out, HSB2.out, HG8.out.ot, HG8.out.blk, Or.inr ⟨3, hdP n L2, HRS.out, by decide, rfl, rfl⟩⟩
                  case measure =>
                    show muP w8 b < muP wr b
                    rw [HP8.out.mu0 (by decide), HMU.out]
                    omega
            · cases ha1 : (hdW L2 == [97, 110, 100])
              case true =>
                have HX : Hid (hdW L2 = [97, 110, 100]) := by show hdW L2 = [97, 110, 100]; simpa using ha1
                clear hx ha1
                go_wp2_with fail
                refine (is_yes _ HP6.out ⟨#[97, 110, 100]⟩ (by simp) HX.out).mono ?_
                rintro e w7 ⟨rfl, v7, hp7, hv7, ho7⟩
                have HP7 : Hid (PsAt w7 b n 0 at' v7 L2.tail) := hp7
                have HV7 : Hid (v7.ownBlock = v.ownBlock) := hv7.trans HV2.out
                have HG7 : Hid (GkR w b fb d (.slice (some ⟨g1, off1, none⟩) (parts.length + 1) cap1) (parts ++ [t]) (ks ++ [tb]) w7) := HG6.out.ots hb ho7
                have HRS : Hid (grpF n (readF n d) k [97, 110, 100] (parts ++ [t]) L2.tail = RES) := by show _ = _; have hh := HGS.out; rw [HX.out] at hh; simpa [wdF] using hh
                clear hp7 hv7 ho7
                go_wp2
                go_roundw
                case rel => exact ⟨[97, 110, 100], rfl, by simp, v7, L2.tail, 0, at', _, HP7.out, HV7.out, fun y hy => HSB2.out y (tail_mem y hy), HG7.out.ot, HG7.out.blk, Or.inl ⟨rfl, rfl, parts ++ [t], ks ++ [tb], k, HG7.out, by omega, by rw [List.length_append]; simp; simp at htl; omega, HRS.out⟩⟩
                case measure =>
                  show muP w7 b < muP wr b
                  rw [HP7.out.mu, HMU.out]
                  omega
              case false =>
                have HX1 : Hid (hdW L2 ≠ [97, 110, 100]) := by show hdW L2 ≠ [97, 110, 100]; simpa using ha1
                have HRS : Hid (RES = .error (3, hdP n L2)) := by show _ = _; have hh := HGS.out; rw [hx] at hh; simp [wdF, HX1.out] at hh; exact hh.symm
                clear hx ha1
                go_wp2_with fail
                refine (is_no _ HP6.out ⟨#[97, 110, 100]⟩ HX1.out).mono ?_
                rintro e w7 ⟨rfl, rfl⟩
                go_wp2_with fail
                refine (fail_any at' _ HP6.out 3).mono ?_
                rintro e w8 ⟨rfl, hp8, ho8⟩
                have HP8 : Hid (PsAt w8 b n 3 (hdP n L2) v2 L2) := hp8
                have HG8 : Hid (GkR w b fb d (.slice (some ⟨g1, off1, none⟩) (parts.length + 1) cap1) (parts ++ [t]) (ks ++ [tb]) w8) := HG6.out.ots hb ho8
                clear hp8 ho8
                go_wp2
                go_roundw
                case rel => exact ⟨[97, 110, 100], rfl, by simp, v2, L2, 3, hdP n L2, _, HP8.out, HV2.out, HSB2.out, HG8.out.ot, HG8.out.blk, Or.inr ⟨3, hdP n L2, HRS.out, by decide, rfl, rfl⟩⟩
                case measure =>
                  show muP w8 b < muP wr b
                  rw [HP8.out.mu0 (by decide), HMU.out]
                  omega
            · cases ha2 : (hdW L2 == [111, 114])
              case true =>
                have HX : Hid (hdW L2 = [111, 114]) := by show hdW L2 = [111, 114]; simpa using ha2
                clear hx ha2
                go_wp2_with fail
                refine (is_yes _ HP6.out ⟨#[111, 114]⟩ (by simp) HX.out).mono ?_
                rintro e w7 ⟨rfl, v7, hp7, hv7, ho7⟩
                have HP7 : Hid (PsAt w7 b n 0 at' v7 L2.tail) := hp7
                have HV7 : Hid (v7.ownBlock = v.ownBlock) := hv7.trans HV2.out
                have HG7 : Hid (GkR w b fb d (.slice (some ⟨g1, off1, none⟩) (parts.length + 1) cap1) (parts ++ [t]) (ks ++ [tb]) w7) := HG6.out.ots hb ho7
                have HRS : Hid (grpF n (readF n d) k [111, 114] (parts ++ [t]) L2.tail = RES) := by show _ = _; have hh := HGS.out; rw [HX.out] at hh; simpa [wdF] using hh
                clear hp7 hv7 ho7
                go_wp2
                go_roundw
                case rel => exact ⟨[111, 114], rfl, by simp, v7, L2.tail, 0, at', _, HP7.out, HV7.out, fun y hy => HSB2.out y (tail_mem y hy), HG7.out.ot, HG7.out.blk, Or.inl ⟨rfl, rfl, parts ++ [t], ks ++ [tb], k, HG7.out, by omega, by rw [List.length_append]; simp; simp at htl; omega, HRS.out⟩⟩
                case measure =>
                  show muP w7 b < muP wr b
                  rw [HP7.out.mu, HMU.out]
                  omega
              case false =>
                have HX2 : Hid (hdW L2 ≠ [111, 114]) := by show hdW L2 ≠ [111, 114]; simpa using ha2
                have HRS : Hid (RES = .error (3, hdP n L2)) := by show _ = _; have hh := HGS.out; rw [hx] at hh; simp [wdF, HX2.out] at hh; exact hh.symm
                clear hx ha2
                go_wp2_with fail
                refine (is_no _ HP6.out ⟨#[111, 114]⟩ HX2.out).mono ?_
                rintro e w7 ⟨rfl, rfl⟩
                go_wp2_with fail
                refine (fail_any at' _ HP6.out 3).mono ?_
                rintro e w8 ⟨rfl, hp8, ho8⟩
                have HP8 : Hid (PsAt w8 b n 3 (hdP n L2) v2 L2) := hp8
                have HG8 : Hid (GkR w b fb d (.slice (some ⟨g1, off1, none⟩) (parts.length + 1) cap1) (parts ++ [t]) (ks ++ [tb]) w8) := HG6.out.ots hb ho8
                clear hp8 ho8
                go_wp2
                go_roundw
                case rel => exact ⟨[111, 114], rfl, by simp, v2, L2, 3, hdP n L2, _, HP8.out, HV2.out, HSB2.out, HG8.out.ot, HG8.out.blk, Or.inr ⟨3, hdP n L2, HRS.out, by decide, rfl, rfl⟩⟩
                case measure =>
                  show muP w8 b < muP wr b
                  rw [HP8.out.mu0 (by decide), HMU.out]
                  omega
        · have HRS : Hid (RES = .error (c, q)) := by show _ = _; rw [← HGF.out]; exact grp_err hres
          have HEC : Hid (er = c) := hec
          have HEQ : Hid (p = q) := heq
          have HNC : Hid (c ≠ 0) := hcn
          have HNE : Hid (er ≠ 0) := by show er ≠ 0; rw [hec]; exact hcn
          clear hres hec heq hcn hs5 hg5 ha5 hl5 g3' HQ4 HG4 HSN HCA HGF
          generalize w5.setCell ⟨fb, 4, none⟩ (.slice (some ⟨g1, off1, none⟩) (parts.length + 1) cap1) = w6 at *
          have HP6 : Hid (PsAt w6 b n er p v2 L2) := hp6
          have HO6 : Hid (Ot (fun k => k = b) w w6) := ho6
          have HB6 : Hid (w6.heap[fb]? = some (.cells #[.string ⟨#[97, 110, 100]⟩, .int .i64 0, .int .i64 0, .int .i64 0, .slice (some ⟨g1, off1, none⟩) (parts.length + 1) cap1] 63 (0, 0))) := hb6
          clear hp6 ho6 hb6
          go_wp2_with fail
          refine (is_done _ HP6.out HNE.out ⟨#[41]⟩).mono ?_
          rintro e w7 ⟨rfl, rfl⟩
          rcases hwo with rfl | rfl | rfl
          · go_wp2_with fail
            refine (is_done _ HP6.out HNE.out ⟨#[97, 110, 100]⟩).mono ?_
            rintro e w7 ⟨rfl, rfl⟩
            go_wp2_with fail
            refine (is_done _ HP6.out HNE.out ⟨#[111, 114]⟩).mono ?_
            rintro e w7 ⟨rfl, rfl⟩
            go_wp2_with fail
            refine (fail_done _ HP6.out HNE.out 3).mono ?_
            rintro e w8 ⟨rfl, rfl⟩
            go_wp2
            go_roundw
            case rel => exact ⟨[], rfl, by simp, v2, L2, er, p, _, HP6.out, HV2.out, HSB2.out, HO6.out, HB6.out, Or.inr ⟨c, q, HRS.out, HNC.out, HEC.out, HEQ.out⟩⟩
            case measure =>
              show muP w8 b < muP wr b
              rw [HP6.out.mu0 HNE.out, HMU.out]
              omega
          · go_wp2_with fail
            refine (is_done _ HP6.out HNE.out ⟨#[97, 110, 100]⟩).mono ?_
            rintro e w7 ⟨rfl, rfl⟩
            go_wp2_with fail
            refine (fail_done _ HP6.out HNE.out 3).mono ?_
            rintro e w8 ⟨rfl, rfl⟩
            go_wp2
            go_roundw
            case rel => exact ⟨[97, 110, 100], rfl, by simp, v2, L2, er, p, _, HP6.out, HV2.out, HSB2.out, HO6.out, HB6.out, Or.inr ⟨c, q, HRS.out, HNC.out, HEC.out, HEQ.out⟩⟩
            case measure =>
              show muP w8 b < muP wr b
              rw [HP6.out.mu0 HNE.out, HMU.out]
              omega
          · go_wp2_with fail
            refine (is_done _ HP6.out HNE.out ⟨#[111, 114]⟩).mono ?_
            rintro e w7 ⟨rfl, rfl⟩
            go_wp2_with fail
            refine (fail_done _ HP6.out HNE.out 3).mono ?_
            rintro e w8 ⟨rfl, rfl⟩
            go_wp2
            go_roundw
            case rel => exact ⟨[111, 114], rfl, by simp, v2, L2, er, p, _, HP6.out, HV2.out, HSB2.out, HO6.out, HB6.out, Or.inr ⟨c, q, HRS.out, HNC.out, HEC.out, HEQ.out⟩⟩
            case measure =>
              show muP w8 b < muP wr b
              rw [HP6.out.mu0 HNE.out, HMU.out]
              omega
    · have HRS : Hid (RES = .error (er, q)) := hres
      have HNE : Hid (er ≠ 0) := hne
      have HP : Hid (PsAt wr b n er q v' Lr) := hps
      have HO : Hid (Ot (fun k => k = b) w wr) := hot
      have HVO : Hid (v'.ownBlock = v.ownBlock) := hvo
      have o1 : (er == 0) = false := by simpa using hne
      obtain ⟨c0, c1, c2, c3, f0, f2, f3⟩ := hps.cells
      have k0 : wr.cell? ⟨fb, 0, none⟩ = some (.string ⟨#[97, 110, 100]⟩) := by simp [World.cell?, hbk]
      have k1 : wr.frozen? ⟨fb, 0, none⟩ = false := by simp [World.frozen?, hbk]
      have hfl := lt_of_block hbk
      clear hres hne hps hot hvo HC
      cases hw : (word == [111, 114])
      · go_wp2
        go_ret
        exact ⟨er, q, v', Lr, HP.out, HVO.out, HO.out, hsub, Or.inr ⟨er, q, _, HRS.out, rfl, rfl, HNE.out, rfl⟩⟩
      · go_wp2
        go_ret
        exact ⟨er, q, v', Lr, HP.out.kept (heap_setCell_other _ ⟨fb, 0, none⟩ b _ (by show b ≠ fb; omega)) (fun j hj => heap_setCell_other _ ⟨fb, 0, none⟩ j _ (by have := HVL.out j (HVO.out ▸ hj); show j ≠ fb; omega)), HVO.out, HO.out.setCell (p := ⟨fb, 0, none⟩) (Or.inr hfb) _, hsub, Or.inr ⟨er, q, _, HRS.out, rfl, rfl, HNE.out, rfl⟩⟩
end Go.Proofs.YtibecinojkkjpaaGreatDoor
