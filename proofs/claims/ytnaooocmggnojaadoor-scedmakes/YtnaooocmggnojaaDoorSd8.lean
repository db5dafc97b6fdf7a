/-
  sced.lined: a row of each flow. Conditions: the flows lie in memory and may be; the plan is as long as what comes, and shorter than each promise.
-/
import Derived.Test.YtnaooocmggnojaaDoorSd7
namespace Go.Proofs.YtnaooocmggnojaaDoor
open Go.RowKit Go.Extern.Stop Go.Stop Go.Extern

/-- What comes of each flow, with nothing behind it; how many; by when they are promised. -/
def cF (F : Nat → Flw) (i : Nat) : Nat → Int := padF (F i).n (F i).c
def kF (F : Nat → Flw) (Tk i : Nat) : Nat := (tot (cF F i) (Tk + 1)).toNat
def pF (F : Nat → Flw) (Tk i : Nat) : Nat → Int := prm (cF F i) (F i).p Tk
/-- Rows of the first k flows. -/
structure LinR (w wr : World) (F : Nat → Flw) (Tk k : Nat) (v : Value) : Prop where
  ex : ∃ (B : Nat → Rb) (lo : Nat → Nat), RsAt wr k lo B (Tk + 1) (cF F) (kF F Tk) (pF F Tk) (fun _ _ => -1) (fun _ => 0) (fun _ => 0) ∧ Seg wr 72 1 v k (ptrs B k) ∧ w.heap.size ≤ lo 0 ∧ lo k ≤ wr.heap.size
  ov : ∀ b, v.ownBlock = some b → w.heap.size ≤ b
  bel : Below w.heap.size w wr
theorem LinR.nil (w : World) (F : Nat → Flw) (Tk : Nat) : LinR w w F Tk 0 (.slice none 0 0) :=
  ⟨⟨fun _ => ⟨0, 0, .nilIface, .nilIface⟩, fun _ => w.heap.size, ⟨fun i hi => by omega, fun i hi => by omega, fun i hi => by omega⟩, Seg.nil _ _ _, Nat.le_refl _, Nat.le_refl _⟩, fun b e => by simp [Value.ownBlock] at e, Below.refl _ _⟩
theorem LinR.step {w wr wq w1 w2 : World} {F : Nat → Flw} {Tk k : Nat} {v : Value} {r cb g off cap : Nat} {pv tv : Value} {o : Obj} (L : LinR w wr F Tk k v) (hq : Below wr.heap.size wr wq)
    (N : NewR wq w1 r cb pv tv (Tk + 1) (cF F k) (kF F Tk k) (pF F Tk k) (fun _ => -1)) (B0 : Nat → Rb) (lo : Nat → Nat) (hR : RsAt wr k lo B0 (Tk + 1) (cF F) (kF F Tk) (pF F Tk) (fun _ _ => -1) (fun _ => 0) (fun _ => 0)) (hS : Seg wr 72 1 v k (ptrs B0 k)) (h0 : w.heap.size ≤ lo 0) (hk : lo k ≤ wr.heap.size)
    (hs2 : Seg w2 72 1 (.slice (some ⟨g, off, none⟩) (k + 1) cap) (k + 1) (ptrs B0 k ++ [.pointer (some ⟨r, 0, none⟩)])) (hg : (w1.alloc o).grownBy w2 v.ownBlock) (ha : v.ownBlock = some g ∨ w1.heap.size ≤ g) : LinR w w2 F Tk (k + 1) (.slice (some ⟨g, off, none⟩) (k + 1) cap) := by
  have hb1 : Below wr.heap.size wr w1 := below_after hq N.bel
  have hb1a : Below wr.heap.size wr (w1.alloc o) := below_alloc_ hb1 _
  have hsz := hq.size
  have hs1 := hb1.size
  obtain ⟨B', hB'⟩ : ∃ B' : Nat → Rb, ∀ i, B' i = if i < k then B0 i else ⟨r, cb, pv, tv⟩ := ⟨_, fun _ => rfl⟩
  obtain ⟨lo', hl'⟩ : ∃ lo' : Nat → Nat, ∀ i, lo' i = if i ≤ k then lo i else w1.heap.size := ⟨_, fun _ => rfl⟩
  have eB : ∀ i, i < k → B' i = B0 i := fun i hi => by rw [hB', if_pos hi]
  have eK : B' k = ⟨r, cb, pv, tv⟩ := by rw [hB', if_neg (by omega)]
  have hbase : w.heap.size ≤ wr.heap.size := L.bel.size
  have hR1 : RsAt (w1.alloc o) k lo B0 (Tk + 1) (cF F) (kF F Tk) (pF F Tk) (fun _ _ => -1) (fun _ => 0) (fun _ => 0) := hR.below hb1a
  have hS1 : Seg (w1.alloc o) 72 1 v k (ptrs B0 k) := hS.below hb1a
  have hrow : RwAt (w1.alloc o) r cb pv tv (Tk + 1) (cF F k) (kF F Tk k) (pF F Tk k) (fun _ => -1) 0 0 := N.rw.below (below_alloc_ (Below.refl _ _) _)
  have hO : Ot (fun b => v.ownBlock = some b) (w1.alloc o) w2 := Ot.grown (Ot.refl _ _) hg (fun _ e => Or.inl e)
  have ptr' : ptrs B' (k + 1) = ptrs B0 k ++ [.pointer (some ⟨r, 0, none⟩)] := by
    rw [ptrs_succ, eK]
    congr 1
    unfold ptrs
    apply List.map_congr_left
    intro i hi
    rw [eB i (by simpa using hi)]
  refine ⟨⟨B', lo', ⟨fun i hi => ?_, fun i hi => ?_, fun i hi b hb => ?_⟩, ?_, ?_, ?_⟩, fun b e => ?_, ?_⟩
  · by_cases e : i = k
    · subst e
      rw [eK]
      exact hrow.ot hO (fun e => ptr_own hrow hS1 e (Or.inl rfl)) (fun e => ptr_own hrow hS1 e (Or.inr (Or.inl rfl))) (fun b e e' => ptr_own hrow hS1 e' (Or.inr (Or.inr (Or.inl e)))) (fun b e e' => ptr_own hrow hS1 e' (Or.inr (Or.inr (Or.inr e))))
    · rw [eB i (by omega)]
      have hx := hR1.row i (by omega)
      exact hx.ot hO (fun e => ptr_own hx hS1 e (Or.inl rfl)) (fun e => ptr_own hx hS1 e (Or.inr (Or.inl rfl))) (fun b e e' => ptr_own hx hS1 e' (Or.inr (Or.inr (Or.inl e)))) (fun b e e' => ptr_own hx hS1 e' (Or.inr (Or.inr (Or.inr e))))
  · rw [hl', hl', if_pos (by omega)]
    by_cases e : i = k
    · subst e; rw [if_neg (by omega)]; omega
    · rw [if_pos (by omega)]; exact hR.up i (by omega)
  · rw [hl', hl', if_pos (by omega)]
    by_cases e : i = k
    · subst e
      rw [if_neg (by omega)]
      rw [eK] at hb
      rcases hb with e | e | e | e
      · have e : b = r := e; have := N.lr; have := N.rw.lt; omega
      · have e : b = cb := e; have := N.lc; have := N.rw.clt; omega
      · have := N.lp b e; have := N.rw.prom.lt e; omega
      · have := N.lt b e; have := N.rw.thru.lt e; omega
    · rw [if_pos (by omega)]
      rw [eB i (by omega)] at hb
      exact hR.inn i (by omega) b hb
  · rw [ptr']; exact hs2
  · rw [hl', if_pos (by omega)]; exact h0
  · rw [hl', if_neg (by omega)]
    have := hg.size
    simp at this
    omega
  · simp only [Value.ownBlock, Option.some.injEq] at e
    subst e
    rcases ha with e | e
    · exact L.ov g e
    · omega
  · refine (L.bel.trans (hb1a.mono hbase)).grown hg (by simp; omega) (fun b e => L.ov b e)

theorem infoPtr : (Tryd.prog.info? 72).map (fun i => (i.zero, i.size, i.bytes)) = some (some (.pointer none), 1, 8) := by kernel_rfl
set_option maxRecDepth 20000 in
set_option maxHeartbeats 2000000 in
theorem lined_any (b off cap m Tk : Nat) (F : Nat → Flw) (w : World) (hF : FlsAt w b off m F) (hok : FsOk m F) (h1 : (F 0).n ≤ Tk) (h2 : Tk < rch F m) :
    Calls Tryd.prog 24 #[.slice (some ⟨b, off, none⟩) m cap, .int .i64 Tk] w fun e w' => ∃ v, e = .returned (.tuple #[v, .nilIface]) ∧ LinR w w' F Tk m v := by
  obtain ⟨i0, hi, hz0, hz1, hz2⟩ := info_parts infoPtr
  have HF : Hid (FlsAt w b off m F) := hF
  have HOK : Hid (∀ k, k < m → FOk (F k) (F k).n ∧ (F k).n ≤ Tk ∧ Tk < (F k).m) := fun k hk => by
    have h3 := hok.ok k hk
    have h4 := rch_le (F := F) m k hk
    have h5 := h3.ln
    rw [← h5] at h3
    exact ⟨h3, by omega, by omega⟩
  have hm8 := hok.hi
  clear hF hok h1 h2
  go_enter Tryd.func24, Tryd.ntmps24
  go_wp2
  go_loopw [6, 13] (fun v i wr => ∃ k : Nat, k ≤ m ∧ i = .int .i64 k ∧ LinR w wr F Tk k v) (fun _ i _ => m - (intOf i).toNat)
  case atStart => exact ⟨0, Nat.zero_le _, rfl, LinR.nil _ _ _⟩
  case round =>
    obtain ⟨k, hk, rfl, hL⟩ := hrel
    have HL : Hid (LinR w wr F Tk k u6) := hL
    clear hL
    by_cases hlt : k < m
    · obtain ⟨c0, c1, hw0⟩ := HF.out.below HL.out.bel k hlt
      have hsz : b < wr.heap.size := World.block_lt_of_cell? wr _ c0
      obtain ⟨o1, o2, o3⟩ := HOK.out k hlt
      have HNR : Hid (∀ W, Below wr.heap.size wr W → Calls Tryd.prog 29 #[.agg #[.slice (F k).x (F k).n (F k).cx, .slice (F k).y (F k).m (F k).cy], .int .i64 Tk] W fun e w' => ∃ r cb pv tv, e = .returned (.tuple #[.pointer (some ⟨r, 0, none⟩), .nilIface]) ∧ NewR W w' r cb pv tv (Tk + 1) (cF F k) (kF F Tk k) (pF F Tk k) (fun _ => -1)) := fun W hW => newRow_any (F k) Tk W (hw0.below hW) o1 o2 o3
      obtain ⟨B0, lo, hR, hS, h0, hlk⟩ := HL.out.ex
      obtain ⟨vx, vc, rfl⟩ := hS.slc
      have HR : Hid (RsAt wr k lo B0 (Tk + 1) (cF F) (kF F Tk) (pF F Tk) (fun _ _ => -1) (fun _ => 0) (fun _ => 0)) := hR
      have HS : Hid (Seg wr 72 1 (.slice vx k vc) k (ptrs B0 k)) := hS
      have H0 : Hid (w.heap.size ≤ lo 0) := h0
      have HK : Hid (lo k ≤ wr.heap.size) := hlk
      clear hw0 o1 o2 o3 hR hS h0 hlk
      generalize (F k).x = x at *
      generalize (F k).cx = cx at *
      generalize (F k).n = nn at *
      generalize (F k).y = y at *
      generalize (F k).cy = cy at *
      generalize (F k).m = mm at *
      go_wp2_with fail
      refine (HNR.out _ (below_alloc_ (Below.refl _ _) _)).mono ?_
      rintro e w1 ⟨r, cb, pv, tv, rfl, hN⟩
      have HN : Hid (NewR (wr.alloc (.cells #[.slice x nn cx, .slice y mm cy] 51)) w1 r cb pv tv (Tk + 1) (cF F k) (kF F Tk k) (pF F Tk k) (fun _ => -1)) := hN
      have HB1 : Hid (Below wr.heap.size wr w1) := below_after (below_alloc_ (Below.refl _ _) _) hN.bel
      clear hN
      go_wp2_with (at_builtin; refine wpList_append_seg _ rfl (.tmp 26) (.tmp 28) 68 rfl 72 i0 _ 1 8 Tryd.underlying68 hi hz0 hz1 hz2 rfl (by decide) (.slice vx k vc) k (ptrs B0 k) rfl (Seg.below HS.out (below_alloc_ HB1.out _)) ⟨w1.heap.size, 0, none⟩ 1 1 [.pointer (some ⟨r, 0, none⟩)] rfl rfl (news_of (new_block_ (by simp))) (by simp [Value.oneCell']) (by decide) (by unfold maxLen; omega) (by omega) _ rfl ?_; intro g1 off1 cap1 w2 hs2 hg2 ha2 hl2)
      go_roundw
      case rel =>
        refine ⟨k + 1, by omega, by go_num, HL.out.step (below_alloc_ (Below.refl _ _) _) HN.out B0 lo HR.out HS.out H0.out HK.out hs2 hg2 ?_⟩
        rcases ha2 with e | e
        · exact Or.inl e
        · right; simp at e; omega
      case measure => simp [intOf]; omega
    · obtain rfl : k = m := by omega
      go_wp2
      go_ret2
      exact ⟨_, rfl, HL.out⟩
end Go.Proofs.YtnaooocmggnojaaDoor
