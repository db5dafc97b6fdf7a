/-
  HtbCeils: rows of packets, one more in each row of a way. Nothing of the program is claimed here by itself.
  millracekeep.kept: it returns true where the count goes well. Conditions: the steps and what was seen lie in memory.
  millracekeep.ordered: it returns true where each flow keeps its order, step by step; nothing that was there before is otherwise. Conditions: the steps and what was seen lie in memory.
-/
import Derived.Test.YtpgdocmpbeabpaaDoorU40
import Derived.Test.YtpgdocmpbeabpaaDoorU34
import Derived.Test.YtpgdocmpbeabpaaDoorPy
import Derived.Test.YtpgdocmpbeabpaaDoorU38
import Derived.Test.YtpgdocmpbeabpaaDoorFa
import Derived.Deep.DeepCutAuto
namespace Go.Proofs.YtpgdocmpbeabpaaDoor
open Go.RowKit Go.Extern.Stop Go.Stop Go.Extern

/-- N rows, those of D with one more; row N is P. -/
def gW (N : Nat) (B : Nat → List It) (P : List It) (z : It) (D : List Nat) (c : Nat) : List It := if c < N then (if c ∈ D then B c ++ [z] else B c) else P
theorem gW_none (N : Nat) (B : Nat → List It) (P : List It) (z : It) : gW N B P z [] = fun c => if c < N then B c else P := by
  funext c
  unfold gW
  rw [if_neg (by simp : ¬ c ∈ ([] : List Nat))]
theorem gW_last (N : Nat) (B : Nat → List It) (P : List It) (z : It) (D : List Nat) : gW N B P z D N = P := if_neg (Nat.lt_irrefl _)
theorem gW_at {N : Nat} {B : Nat → List It} {P : List It} {z : It} {D : List Nat} {m : Nat} (hm : m < N) (hD : m ∉ D) : gW N B P z D m = B m := by
  unfold gW
  rw [if_pos hm, if_neg hD]
theorem gW_next {N : Nat} {B : Nat → List It} {P : List It} {z : It} {D : List Nat} {m : Nat} (hm : m < N) (hD : m ∉ D) : updF (gW N B P z D) m (B m ++ [z]) = gW N B P z (D ++ [m]) := by
  funext c
  by_cases e : c = m
  · subst e
    rw [updF_same]
    unfold gW
    rw [if_pos hm, if_pos (by simp)]
  · rw [updF_ne e]
    unfold gW
    have : c ∈ D ++ [m] ↔ c ∈ D := by simp [e]
    simp only [this]
theorem gW_all {K : HtK} {N : Nat} {B : Nat → List It} {P : List It} {now : Int} {y : It} {D : List Nat} (h : hL K (some y.f.toNat) = D ++ []) : gW N B P ⟨now, y.l, 0, 0, 0⟩ D = fun c => if c < N then gonK K B now y c else P := by
  funext c
  unfold gW gonK
  rw [h, List.append_nil]
theorem gonD_len (K : HtK) (ts : List Stp) (ss : List Sn) (i c : Nat) : (gonD K ts ss i c).length ≤ i := by
  induction i with
  | zero => simp [gonD]
  | succ i ih =>
    cases h1 : ts[i]? with
    | none => simp only [gonD, h1]; omega
    | some t =>
      cases h2 : ss[i]? with
      | none => simp only [gonD, h1, h2]; omega
      | some sn =>
        rw [gonD_succ h1 h2]
        split
        · unfold gonK
          split
          · simp; omega
          · omega
        · omega
theorem nodup_mid {D E : List Nat} {m : Nat} (h : (D ++ m :: E).Nodup) : m ∉ D := by
  intro hm
  rw [List.nodup_append] at h
  exact h.2.2 m hm m (by simp) rfl
theorem go_cells {w : World} {g N : Nat} {vs : Nat → Value} {G : Nat → List It} {base : Nat} (h : GoAt w g N vs G base) {P : List It} (hG : G N = P) {b off n cap : Nat} (hv : vs N = .slice (some ⟨b, off, none⟩) n cap) {k : Nat} {y : It} (hk : P[k]? = some y) :
    n = P.length ∧ (k : Int) < (P.length : Int) ∧ b < w.heap.size ∧ w.cell? ⟨b, off + k * 5 + 1, none⟩ = some (.int .i64 y.l) ∧ w.cell? ⟨b, off + k * 5 + 2, none⟩ = some (.int .i64 y.f) := by
  have r := h.row N (Nat.le_refl _)
  rw [hv, hG] at r
  have hlt := r.lt rfl
  obtain ⟨hi, hn⟩ := seg_itemsC r
  have hkn := (List.getElem?_eq_some_iff.1 hk).1
  rcases hi with e | ⟨b', off', e, hc⟩
  · rw [e] at hk
    cases hk
  · cases e
    have h5 := hc k y hk
    exact ⟨hn, by omega, hlt, h5.2.1, h5.2.2.1⟩
theorem go_some {w : World} {g N : Nat} {vs : Nat → Value} {G : Nat → List It} {base : Nat} (h : GoAt w g N vs G base) {P : List It} (hG : G N = P) {k : Nat} {y : It} (hk : P[k]? = some y) : ∃ b off cap, vs N = .slice (some ⟨b, off, none⟩) P.length cap := by
  have r := h.row N (Nat.le_refl _)
  rw [hG] at r
  have hkn := (List.getElem?_eq_some_iff.1 hk).1
  rcases r.form with ⟨_, h0, _⟩ | ⟨b, off, cap, h1, _⟩
  · omega
  · exact ⟨b, off, cap, h1⟩
theorem go_mid {wx W w9 : World} {g N : Nat} {vs : Nat → Value} {G : Nat → List It} {base m : Nat} {v : Value} (h : GoAt wx g N vs G base) (hb : Below wx.heap.size wx W) (hm : m ≤ N) (hv : vs m = v) (hg : W.grownBy w9 v.ownBlock) : Blk w9 g N 35 vs := by
  subst hv
  have hl := h.blk.lt
  exact h.blk.kept ((hg.block g (by have := hb.size; omega) (fun e => h.gNe hm e.symm rfl)).trans (hb.block g hl))
theorem go_next {wx W w9 : World} {g N : Nat} {vs : Nat → Value} {B : Nat → List It} {P : List It} {z : It} {D : List Nat} {base m b off cap : Nat} {v : Value} (h : GoAt wx g N vs (gW N B P z D) base) (hb : Below wx.heap.size wx W) (hm : m < N) (hD : m ∉ D) (hv : vs m = v)
    (hs : Seg w9 37 5 (.slice (some ⟨b, off, none⟩) ((B m).length + 1) cap) ((B m).length + 1) (flt It.cl (B m) ++ z.cl)) (hg : W.grownBy w9 v.ownBlock) (ha : v.ownBlock = some b ∨ W.heap.size ≤ b) (hbs : base ≤ wx.heap.size) :
    GoAt (w9.setCell ⟨g, m, none⟩ (.slice (some ⟨b, off, none⟩) ((B m).length + 1) cap)) g N (updF vs m (.slice (some ⟨b, off, none⟩) ((B m).length + 1) cap)) (gW N B P z (D ++ [m])) base := by
  subst hv
  have e := gW_at (P := P) (B := B) (z := z) hm hD
  have h1 := (h.below hb).grow (c := m) (Nat.le_of_lt hm) (y := z) (b := b) (off := off) (cap := cap) (w' := w9) (w2 := w9.setCell ⟨g, m, none⟩ (.slice (some ⟨b, off, none⟩) ((B m).length + 1) cap)) (by rw [e]; exact hs) hg ha (by have := hb.size; omega) (Or.inl ⟨hm, by rw [e]⟩)
  rw [e] at h1
  rw [gW_next hm hD] at h1
  exact h1
theorem go_lows {wx W w9 w6 : World} {g N : Nat} {vs : Nat → Value} {G : Nat → List It} {m : Nat} {v u : Value} (h : GoAt wx g N vs G w6.heap.size) (h6 : Below w6.heap.size w6 wx) (hb : Below wx.heap.size wx W) (hm : m ≤ N) (hv : vs m = v) (hg : W.grownBy w9 v.ownBlock) : Below w6.heap.size w6 (w9.setCell ⟨g, m, none⟩ u) := by
  subst hv
  have h1 : Below w6.heap.size w6 W := h6.trans (hb.mono h6.size)
  exact (h1.grown hg h1.size (fun k hk => h.lr m hm k hk)).setCell h.lo _
theorem hUp_or {K : HtK} (h : HtKOk K) {m N : Nat} (hm : m < K.N) (hN : K.N = N) : (hUp K m = none ∧ (K.cls m).par < 0) ∨ ∃ j : Nat, hUp K m = some j ∧ j < N ∧ (K.cls m).par = (j : Int) := by
  have hp := h.par m hm
  unfold hUp
  by_cases e : (K.cls m).par < 0
  · exact Or.inl ⟨if_pos e, e⟩
  · exact Or.inr ⟨(K.cls m).par.toNat, if_neg e, by omega, by omega⟩
end Go.Proofs.YtpgdocmpbeabpaaDoor
namespace Go.Proofs.YtpgdocmpbeabpaaDoor
open Go.RowKit Go.Extern.Stop Go.Stop Go.Extern

theorem timesL_okl {xs : List Stp} {i : Nat} {st : Stp} (h : (timesL 0 xs)[i]? = some st) (hw : st.what = 0) : 0 ≤ st.l := by
  have hi := (List.getElem?_eq_some_iff.1 h).1
  rw [timesL_length] at hi
  obtain ⟨y, hy⟩ : ∃ y, xs[i]? = some y := ⟨_, List.getElem?_eq_getElem hi⟩
  rw [timesL_at hy] at h
  obtain rfl := Option.some.inj h
  have h1 := timed_ok (t := nowAt 0 xs (i + 1)) (s := y) hw
  simp only [It.ok, Bool.and_eq_true, wth_iff] at h1
  show 0 ≤ y.l
  omega
theorem kept_any (xs : List Stp) (ss : List Sn) (us : List Value) (G : Nat → LS) (G2 : Nat → LS) (x : Option Addr) (cap : Nat) (v : Value) (base : Nat) (F : Nat → Prop) (w : World) (hl : Lies w x (flt Stp.cs xs)) (hn : xs.length ≤ 1000) (hs : Sns w base F v ss us) (hlen : ss.length = xs.length)
    (h0 : G 0 = ls0) (hG : ∀ i t sn, (timesL 0 xs)[i]? = some t → ss[i]? = some sn → LStep (G i) t sn (G2 i) (G (i + 1))) :
    Calls Tryd.prog 8 #[.slice x xs.length cap, v] w fun e w' => e = .returned (.bool true) ∧ Below w.heap.size w w' := by
  have HC := left_any xs ss us G G2 x cap v base F w hl hn hs hlen h0 hG
  clear hl hs hG h0
  go_enter Tryd.func8, Tryd.ntmps8
  go_wp2_with (go_at_call 20; refine HC.mono ?_; rintro e w1 ⟨rfl, hb1⟩)
  go_ret
  exact ⟨rfl, hb1⟩
end Go.Proofs.YtpgdocmpbeabpaaDoor
namespace Go.Proofs.YtpgdocmpbeabpaaDoor
open Go.RowKit Go.Extern.Stop Go.Stop Go.Extern

theorem last16 {w : World} {b : Nat} (h : w.heap[b]? = some (.cells #[.int .i64 0, .int .i64 0, .int .i64 0, .int .i64 0, .int .i64 0, .int .i64 0, .int .i64 0, .int .i64 0, .int .i64 0, .int .i64 0, .int .i64 0, .int .i64 0, .int .i64 0, .int .i64 0, .int .i64 0, .int .i64 0] 77 (0, 0))) : Blk w b 16 77 (fun _ => .int .i64 0) :=
  ⟨_, h, rfl, fun f hf => match f, hf with | 0, _ => rfl | 1, _ => rfl | 2, _ => rfl | 3, _ => rfl | 4, _ => rfl | 5, _ => rfl | 6, _ => rfl | 7, _ => rfl | 8, _ => rfl | 9, _ => rfl | 10, _ => rfl | 11, _ => rfl | 12, _ => rfl | 13, _ => rfl | 14, _ => rfl | 15, _ => rfl | n + 16, h => absurd h (by omega)⟩
set_option maxRecDepth 20000 in
set_option maxHeartbeats 4000000 in
theorem ordered_any (xs : List Stp) (ss : List Sn) (us : List Value) (x : Option Addr) (cap : Nat) (v : Value) (base : Nat) (F : Nat → Prop) (w : World) (hl : Lies w x (flt Stp.cs xs)) (hn : xs.length ≤ 1000) (hs : Sns w base F v ss us) (hlen : ss.length = xs.length)
    (hO : ∀ i t sn, (timesL 0 xs)[i]? = some t → ss[i]? = some sn → OStep (flowD (timesL 0 xs) (i + 1)) (lastO (timesL 0 xs) ss i) sn) :
    Calls Tryd.prog 9 #[.slice x xs.length cap, v] w fun e w' => e = .returned (.bool true) ∧ Below w.heap.size w w' := by
  have HTC := times_any x cap xs w hl hn
  obtain ⟨q, hq⟩ : ∃ q, xs.length = q := ⟨_, rfl⟩
  have HN : Hid (xs.length = q) := hq
  rw [hq] at hn hlen HTC ⊢
  clear hq hl
  have HSN : Hid (Sns w base F v ss us) := hs
  have HSL : Hid (ss.length = q) := hlen
  obtain ⟨sx, scap, hu, _⟩ := hs.lies
  rw [hlen] at hu
  subst hu
  clear hs hlen
  obtain ⟨i0, hi, hz0, hz1, hz2⟩ := info_parts infoInt1
  go_enter Tryd.func9, Tryd.ntmps9
  go_wp2_with (go_at_call 10; fail)
  refine HTC.mono ?_
  rintro e w5 ⟨tv, rfl, ht5, hn5, hb5⟩
  obtain ⟨tx, tcap, htv, htl⟩ := ht5.lies
  rw [timesL_length, HN.out] at htv
  subst htv
  have HTL : Hid (Lies w5 tx (flt Stp.cs (timesL 0 xs))) := htl
  have HB5 : Hid (Below w.heap.size w w5) := hb5
  have HS5 : Hid (Sns w5 base F (.slice sx q scap) ss us) := HSN.out.ot (F' := F) (Ot.of_below (S := fun _ => False) hb5) (fun _ _ _ _ h => h) (fun _ _ h => h)
  clear htl hb5 ht5 hn5 HTC HSN
  obtain ⟨ts, hts⟩ : ∃ ts, timesL 0 xs = ts := ⟨_, rfl⟩
  have HTN : Hid (ts.length = q) := by show _ = _; rw [← hts, timesL_length, HN.out]
  have HO : Hid (∀ i t sn, ts[i]? = some t → ss[i]? = some sn → OStep (flowD ts (i + 1)) (lastO ts ss i) sn) := by rw [hts] at hO; exact hO
  rw [hts] at HTL
  clear hts hO
  obtain ⟨B, hB⟩ : ∃ B, w5.heap.size = B := ⟨_, rfl⟩
  go_wp2
  have HW6 : Hid (Blk (w5.alloc (.cells #[.int .i64 0, .int .i64 0, .int .i64 0, .int .i64 0, .int .i64 0, .int .i64 0, .int .i64 0, .int .i64 0, .int .i64 0, .int .i64 0, .int .i64 0, .int .i64 0, .int .i64 0, .int .i64 0, .int .i64 0, .int .i64 0] 77)) B 16 77 (fun _ => .int .i64 0)) := by rw [← hB]; exact last16 (new_block w5 _)
  go_loopw [6, 8] (fun fv i wr => ∃ k : Nat, k ≤ q ∧ i = .int .i64 k ∧ Ins wr fv (flowD ts k) ∧ (∀ b, fv.ownBlock = some b → B < b) ∧ Blk wr B 16 77 (fun f => .int .i64 (lastO ts ss k f)) ∧ Below B w5 wr) (fun _ i _ => q - (intOf i).toNat)
  case atStart => exact ⟨0, Nat.zero_le _, rfl, Ins.nil _, fun b hb => by simp [Value.ownBlock] at hb, HW6.out, by rw [← hB]; exact below_alloc_ (Below.refl _ _) _⟩
  case round =>
    obtain ⟨k, hkq, rfl, hcv, hcn, hlb, hbr⟩ := hrel
    have HCV : Hid (Ins wr u6 (flowD ts k)) := hcv
    have HCN : Hid (∀ b, u6.ownBlock = some b → B < b) := hcn
    have HLB : Hid (Blk wr B 16 77 (fun f => .int .i64 (lastO ts ss k f))) := hlb
    have HBR : Hid (Below B w5 wr) := hbr
    have hBw : B < wr.heap.size := hlb.lt
    clear hcv hcn hbr hlb
    by_cases hlt : k < q
    · obtain ⟨sn, hsn⟩ : ∃ sn, ss[k]? = some sn := ⟨_, List.getElem?_eq_getElem (by rw [HSL.out]; exact hlt)⟩
      obtain ⟨uu, huu⟩ : ∃ uu, us[k]? = some uu := ⟨_, List.getElem?_eq_getElem (by rw [HS5.out.len, HSL.out]; exact hlt)⟩
      obtain ⟨st, hst⟩ : ∃ st, ts[k]? = some st := ⟨_, List.getElem?_eq_getElem (by rw [HTN.out]; exact hlt)⟩
      have HGS : Hid (OStep (flowD ts (k + 1)) (lastO ts ss k) sn) := HO.out k st sn hst hsn
      have HLK : Hid (lastO ts ss (k + 1) = lastT (flowD ts (k + 1)) (lastO ts ss k) sn) := lastO_succ hst hsn
      have HCK : Hid (flowD ts (k + 1) = flowS (flowD ts k) st) := flowD_succ hst
      obtain ⟨sx', scap', he, hlies⟩ := HS5.out.lies
      simp only [HSL.out, Value.slice.injEq, true_and] at he
      obtain ⟨rfl, rfl⟩ := he
      obtain ⟨sb, so, rfl, hsb, s0, s1, s2, s3, s4, s5⟩ := hlies.seen (zip_at hsn huu)
      obtain ⟨tb, tof, rfl, htb, c0, c1, c2, c3, c4, c5, c6⟩ := HTL.out.seven hst
      have hcl := flowD_len ts k
      have HSE : Hid (∀ W : World, Below B w5 W → (W.cell? ⟨sb, so + k * 6, none⟩ = some (.int .i64 sn.taken) ∧ sb < W.heap.size) ∧ W.cell? ⟨tb, tof + k * 7, none⟩ = some (.int .i64 st.what) ∧ W.cell? ⟨tb, tof + k * 7 + 4, none⟩ = some (.int .i64 st.f) ∧ tb < W.heap.size) := by
        intro W hW
        have hc : ∀ (p : Addr), p.block < w5.heap.size → W.cell? p = w5.cell? p := fun p hp => World.cell?_of_block (w := w5) (hW.block p.block (by omega))
        have hsz := hW.size
        exact ⟨⟨(hc _ hsb).trans s0, by omega⟩, (hc _ htb).trans c0, (hc _ htb).trans c4, by omega⟩
      clear hlies hsn huu hst s0 s1 s2 s3 s4 s5 c0 c1 c2 c3 c4 c5 c6 hsb htb
      obtain ⟨⟨s0, hsb⟩, c0, c4, htb⟩ := HSE.out wr HBR.out
      go_upto_if 23 with (fail)
      go_cut [6] (fun cv wx => Ins wx cv (flowD ts (k + 1)) ∧ (∀ b, cv.ownBlock = some b → B < b) ∧ Blk wx B 16 77 (fun f => .int .i64 (lastO ts ss k f)) ∧ Below B w5 wx)
      case first =>
        by_cases hw0 : st.what = 0
        · have hw2 : (st.what == 0) = true := by simpa using hw0
          have HCK0 : Hid (flowD ts (k + 1) = flowD ts k ++ [st.f]) := by show _ = _; rw [HCK.out, flowS, if_pos hw0]
          clear hw0
          go_wp2_with (at_builtin; refine wpList_append_seg _ rfl (.tmp 24) (.tmp 31) 40 rfl 3 i0 _ 1 8 Tryd.underlying40 hi hz0 hz1 hz2 rfl (by decide) _ _ _ rfl (Seg.below HCV.out (below_alloc_ (Below.refl _ _) _)) ⟨wr.heap.size, 0, none⟩ 1 1 [.int .i64 st.f] rfl rfl (news_of (new_block_ (by simp))) (by simp [Value.oneCell']) (by decide) (by unfold maxLen; omega) (by omega) _ rfl ?_; intro g off cap2 w6 hs6 hg6 ha6 hl6)
          go_meet
          case rel =>
            rw [HCK0.out]
            have hb6 : Below (B + 1) wr w6 := ((Below.refl (B + 1) wr).alloc (by omega) _).grown hg6 (by simp; omega) (fun b hb => HCN.out b hb)
            refine ⟨by unfold Ins; simpa using hs6, fun b hb => ?_, HLB.out.kept (hb6.block B (by omega)), HBR.out.trans (hb6.mono (by omega))⟩
            simp only [Value.ownBlock, Option.some.injEq] at hb
            subst hb
            rcases ha6 with h | h
            · exact HCN.out _ h
            · simp at h; omega
        · have hw2 : (st.what == 0) = false := by simpa using hw0
          have HCK0 : Hid (flowD ts (k + 1) = flowD ts k) := by show _ = _; rw [HCK.out, flowS, if_neg hw0]
          clear hw0
          go_wp2
          go_meet
          case rel =>
            rw [HCK0.out]
            exact ⟨HCV.out, HCN.out, HLB.out, HBR.out⟩
      case rest =>
        obtain ⟨hcv, hcn, hlb, hbx⟩ := hcut
        have HCV2 : Hid (Ins wc u6 (flowD ts (k + 1))) := hcv
        have HCN2 : Hid (∀ b, u6.ownBlock = some b → B < b) := hcn
        have HLB2 : Hid (Blk wc B 16 77 (fun f => .int .i64 (lastO ts ss k f))) := hlb
        have HBX : Hid (Below B w5 wc) := hbx
        have hBc : B < wc.heap.size := hlb.lt
        clear s0 c0 c4 hsb htb
        obtain ⟨⟨s0, hsb⟩, c0, c4, htb⟩ := HSE.out wc hbx
        obtain ⟨cx, ccap, hcu⟩ := hcv.slice
        subst hcu
        have hcl2 := flowD_len ts (k + 1)
        clear hcv hcn hbx hlb
        by_cases ht : 0 ≤ sn.taken
        · have o3 : decide (0 ≤ sn.taken) = true := decide_eq_true ht
          obtain ⟨f, hf, hfl, hlast⟩ := HGS.out ht
          obtain ⟨j, hj⟩ : ∃ j : Nat, sn.taken = j := ⟨sn.taken.toNat, by omega⟩
          have HLK2 : Hid (lastO ts ss (k + 1) = updF (lastO ts ss k) f ((j : Int) + 1)) := by
            show _ = _
            rw [HLK.out, lastT, if_pos ht, List.getD_eq_getElem?_getD, hfl, hj]
            simp
          rw [hj] at hfl hlast o3 s0
          rw [Int.toNat_natCast] at hfl
          obtain ⟨cb, cof, ccap', e2, hcb, hcc, _⟩ := HCV2.out.at hfl
          simp only [Value.slice.injEq, true_and] at e2
          obtain ⟨rfl, rfl⟩ := e2
          have hjl : j < (flowD ts (k + 1)).length := (List.getElem?_eq_some_iff.1 hfl).1
          obtain ⟨dl, dz⟩ := HLB2.out.cell hf
          have o1 : decide (((flowD ts (k + 1)).length : Int) ≤ (j : Int)) = false := by simp only [decide_eq_false_iff_not]; omega
          have hwr : IntKind.i64.wrap ((j : Int) + 1) = (j : Int) + 1 := by rw [IntKind.wrap_i64]; omega
          have o2 : decide ((j : Int) + 1 ≤ lastO ts ss k f) = false := by simp only [decide_eq_false_iff_not]; omega
          have hfi : (0 : Int) ≤ (f : Int) ∧ (f : Int) < 16 := by omega
          have HCB : Hid (B < cb) := HCN2.out cb rfl
          clear ht hj hfl hlast
          go_wp2
          go_roundw
          case rel =>
            refine ⟨k + 1, by omega, by go_num, HCV2.out.setCell (fun e => by have := HCN2.out _ e; simp at this) _, HCN2.out, ?_, ?_⟩
            · refine (HLB2.out.set f _).cong (fun i hi => ?_)
              rw [HLK2.out]
              by_cases e : i = f
              · subst e; rw [updF_same, updC_same]
              · rw [updF_ne e, updC_ne e]
            · exact HBX.out.setCell (p := ⟨B, f, none⟩) (Nat.le_refl _) _
          case measure => simp [intOf]; omega
        · have o3 : decide (0 ≤ sn.taken) = false := decide_eq_false ht
          have HLK2 : Hid (lastO ts ss (k + 1) = lastO ts ss k) := by show _ = _; rw [HLK.out, lastT, if_neg ht]
          clear ht
          go_wp2
          go_roundw
          case rel => exact ⟨k + 1, by omega, by go_num, HCV2.out, HCN2.out, by rw [HLK2.out]; exact HLB2.out, HBX.out⟩
          case measure => simp [intOf]; omega
    · obtain rfl : k = q := by omega
      go_wp2
      go_ret
      exact ⟨rfl, HB5.out.trans (HBR.out.mono (by rw [← hB]; exact HB5.out.size))⟩
end Go.Proofs.YtpgdocmpbeabpaaDoor
