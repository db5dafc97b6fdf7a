/-
  millracekeep.left and kept: true where each packet that was put in is taken, lost, or waits, each just once. Conditions: the steps and what was seen lie in memory; the count goes as a fold tells (a premise).
-/
import Derived.Test.YtpgdocmpbeabpaaDoorLf
import Derived.Test.YtpgdocmpbeabpaaDoorOrd
namespace Go.Proofs.YtpgdocmpbeabpaaDoor
open Go.RowKit Go.Extern.Stop Go.Stop Go.Extern

def takenS (s : LS) (sn : Sn) : Option LS := if 0 ≤ sn.taken then outS s sn.taken else some s
/-- One step of the count. -/
structure LStep (s : LS) (t : Stp) (sn : Sn) (s2 s3 : LS) : Prop where
  outs : outsS (addS s t) sn.lost = some s2
  taken : takenS s2 sn = some s3
  wait : sn.len = s3.wait
  bytes : sn.bytes = s3.bytes
/-- Steps of which what is seen lies in memory. -/
theorem Sns.lies {w : World} {base : Nat} {F : Nat → Prop} {v : Value} {ss : List Sn} {us : List Value} (h : Sns w base F v ss us) : ∃ x cap, v = .slice x ss.length cap ∧ Lies w x (flt Sn.cs (ss.zip us)) := h.row.lies
theorem zip_at {α β : Type} {a : List α} {b : List β} {i : Nat} {x : α} {y : β} (h1 : a[i]? = some x) (h2 : b[i]? = some y) : (a.zip b)[i]? = some (x, y) := by
  rw [List.getElem?_zip_eq_some]
  exact ⟨h1, h2⟩
theorem Lies.seen {w : World} {x : Option Addr} {l : List (Sn × Value)} (h : Lies w x (flt Sn.cs l)) {k : Nat} {p : Sn × Value} (hk : l[k]? = some p) : ∃ b off, x = some ⟨b, off, none⟩ ∧ b < w.heap.size ∧ w.cell? ⟨b, off + k * 6, none⟩ = some (.int .i64 p.1.taken) ∧ w.cell? ⟨b, off + k * 6 + 1, none⟩ = some (.int .i64 p.1.mark) ∧ w.cell? ⟨b, off + k * 6 + 2, none⟩ = some (.int .i64 p.1.when) ∧ w.cell? ⟨b, off + k * 6 + 3, none⟩ = some (.int .i64 p.1.len) ∧ w.cell? ⟨b, off + k * 6 + 4, none⟩ = some (.int .i64 p.1.bytes) ∧ w.cell? ⟨b, off + k * 6 + 5, none⟩ = some p.2 := by
  have hat : ∀ j, j < 6 → (flt Sn.cs l)[k * 6 + j]? = (Sn.cs p)[j]? := fun j hj => flt_at Sn.cs 6 Sn.len6 hk hj
  rcases h with h | ⟨b, off, e, hl, h⟩
  · have := hat 0 (by omega)
    rw [h] at this
    simp [Sn.cs] at this
  · refine ⟨b, off, e, hl, ?_, ?_, ?_, ?_, ?_, ?_⟩
    · exact h _ _ (hat 0 (by omega))
    · exact h _ _ (hat 1 (by omega))
    · exact h _ _ (hat 2 (by omega))
    · exact h _ _ (hat 3 (by omega))
    · exact h _ _ (hat 4 (by omega))
    · exact h _ _ (hat 5 (by omega))
theorem Lies.below' {w w' : World} {x : Option Addr} {cells : List Value} {B : Nat} (h : Lies w x cells) (hb : Below B w w') (hB : w.heap.size ≤ B) : Lies w' x cells := h.below (hb.mono hB)
def ls0 : LS := ⟨[], [], 0, 0⟩
theorem ls0_ok : ls0.Ok 0 := ⟨rfl, Nat.le_refl _, by simp [ls0], rfl, rfl⟩
theorem outsS_ok {n : Nat} : ∀ {l : List Int} {s s' : LS}, s.Ok n → outsS s l = some s' → s'.Ok n := by
  intro l
  induction l with
  | nil => intro s s' h ho; simp [outsS] at ho; exact ho ▸ h
  | cons k r ih =>
    intro s s' h ho
    simp only [outsS] at ho
    split at ho
    · simp at ho
    · rename_i s1 h1; exact ih (h.out h1) ho

theorem one_at {w : World} {p : Nat} {v : Value} (h : w.cell? ⟨p, 0, none⟩ = some v) : ∀ (j : Nat) (u : Value), [v][j]? = some u → w.cell? ((⟨p, 0, none⟩ : Addr).add j) = some u := by
  intro j u hj
  match j, hj with
  | 0, hj => simp at hj; subst hj; simpa [Addr.add] using h
theorem outsS_wait : ∀ {l : List Int} {s s' : LS}, outsS s l = some s' → s'.wait = s.wait - l.length := by
  intro l
  induction l with
  | nil => intro s s' ho; simp [outsS] at ho; subst ho; simp
  | cons k r ih =>
    intro s s' ho
    simp only [outsS] at ho
    split at ho
    · simp at ho
    · rename_i s1 h1
      have h2 := ih ho
      unfold outS at h1
      split at h1
      · simp only [Option.some.injEq] at h1
        subst h1
        simp only [List.length_cons] at h2 ⊢
        omega
      · simp at h1
theorem outsS_len {n : Nat} {l : List Int} {s s' : LS} (h : s.Ok n) (ho : outsS s l = some s') : l.length ≤ n := by
  have h1 := outsS_wait ho
  have h2 := h.bounds.1
  have h3 := (outsS_ok h ho).bounds.1
  omega
theorem below_drewN_ {B : Nat} {a w : World} (h : Below B a w) (n : Nat) : Below B a (w.drewN n) := h.trans ⟨rfl, rfl, rfl, Nat.le_refl _, fun _ _ => rfl⟩
theorem cell_al {w : World} {a : Addr} {v : Value} (h : w.cell? a = some v) (o : Obj) : (w.alloc o).cell? a = some v := by rw [World.cell?_alloc_lt _ _ a (World.block_lt_of_cell? _ _ h)]; exact h
/-- Within 'size, state = append(size, l), append(state, 0)': what holds whichever has come up. -/
structure AppI (wr : World) (B zn vn : Nat) (zs' vs' : List Value) (zv sv lc : Value) (l0 l6 l7 l8 l9 l10 l11 l12 l13 : Prop) (t35 t41 t42 t43 t44 t45 t46 : Value) (pA pB : Nat) (W0 W : World) : Prop where
  c7 : l7 → l6
  c8 : l8 → l0 ∧ l7
  c11 : l11 → l9 ∧ l10
  c12 : l12 → l8 ∧ l11
  c13 : l13 → l12
  f0 : l0 → t35 = zv
  f6 : l6 → t41 = lc
  f9 : l9 → t44 = sv
  f7 : l7 → t42 = .slice (some ⟨pA, 0, none⟩) 1 1 ∧ wr.heap.size ≤ pA ∧ W0.cell? ⟨pA, 0, none⟩ = some lc
  f10 : l10 → t45 = .slice (some ⟨pB, 0, none⟩) 1 1 ∧ wr.heap.size ≤ pB ∧ W0.cell? ⟨pB, 0, none⟩ = some (.int .i64 0)
  f8 : l8 → Seg W0 3 1 t43 (zn + 1) (zs' ++ [lc]) ∧ ∀ k, t43.ownBlock = some k → zv.ownBlock = some k ∨ wr.heap.size ≤ k
  f11 : l11 → Seg W0 3 1 t46 (vn + 1) (vs' ++ [.int .i64 0]) ∧ ∀ k, t46.ownBlock = some k → sv.ownBlock = some k ∨ wr.heap.size ≤ k
  ne : l8 → l11 → ∀ k, t43.ownBlock = some k → t46.ownBlock ≠ some k
  s8 : ¬ l8 → Seg W0 3 1 zv zn zs'
  s11 : ¬ l11 → Seg W0 3 1 sv vn vs'
  ot : Ot (fun j => zv.ownBlock = some j ∨ sv.ownBlock = some j) wr W0
  w0 : ¬ l12 → W = W0
  w1 : l12 → ¬ l13 → W = W0.setCell ⟨B, 0, none⟩ t43
  w2 : l13 → W = (W0.setCell ⟨B, 0, none⟩ t43).setCell ⟨B + 1, 0, none⟩ t46
theorem LSAt.appended {wr W0 : World} {B : Nat} {s : LS} {zv sv t43 t46 : Value} {l : Int} (h : LSAt wr B s zv sv) (ho : Ot (fun j => zv.ownBlock = some j ∨ sv.ownBlock = some j) wr W0) (hz : Seg W0 3 1 t43 (s.size.length + 1) (s.size.map (Value.int .i64) ++ [.int .i64 l])) (hv : Seg W0 3 1 t46 (s.st.length + 1) (s.st.map (Value.int .i64) ++ [.int .i64 0]))
    (hzk : ∀ k, t43.ownBlock = some k → zv.ownBlock = some k ∨ wr.heap.size ≤ k) (hvk : ∀ k, t46.ownBlock = some k → sv.ownBlock = some k ∨ wr.heap.size ≤ k) (hne : ∀ k, t43.ownBlock = some k → t46.ownBlock ≠ some k) : LSAt ((W0.setCell ⟨B, 0, none⟩ t43).setCell ⟨B + 1, 0, none⟩ t46) B ⟨s.size ++ [l], s.st ++ [0], s.wait, s.bytes⟩ t43 t46 := by
  have hlow : B + 4 ≤ wr.heap.size := lt_of_block h.vb
  have h43 : ∀ k, t43.ownBlock = some k → B + 4 ≤ k := fun k hk => by
    rcases hzk k hk with h' | h'
    · exact (h.nz k h').1
    · omega
  have h46 : ∀ k, t46.ownBlock = some k → B + 4 ≤ k := fun k hk => by
    rcases hvk k hk with h' | h'
    · exact h.ns k h'
    · omega
  have hno : ∀ j, j < B + 4 → ¬ (zv.ownBlock = some j ∨ sv.ownBlock = some j) := by
    rintro j hj (h' | h')
    · have := (h.nz j h').1; omega
    · have := h.ns j h'; omega
  have hblk : ∀ j, j < B + 4 → W0.heap[j]? = wr.heap[j]? := fun j hj => ho.block j (by omega) (hno j hj)
  refine ⟨?_, ?_, ?_, ?_, ?_, ?_, fun k hk => ⟨h43 k hk, hne k hk⟩, h46⟩
  · rw [Below.heap_setCell _ _ _ _ (by show B ≠ B + 1; omega), heap_setCell_here ((hblk B (by omega)).trans h.vz)]
    rfl
  · rw [heap_setCell_here ((Below.heap_setCell _ _ _ _ (by show B + 1 ≠ B; omega)).trans ((hblk (B + 1) (by omega)).trans h.vs))]
    rfl
  · rw [Below.heap_setCell _ _ _ _ (by show B + 2 ≠ B + 1; omega), Below.heap_setCell _ _ _ _ (by show B + 2 ≠ B; omega), hblk _ (by omega)]
    exact h.vw
  · rw [Below.heap_setCell _ _ _ _ (by show B + 3 ≠ B + 1; omega), Below.heap_setCell _ _ _ _ (by show B + 3 ≠ B; omega), hblk _ (by omega)]
    exact h.vb
  · have : Ins W0 t43 (s.size ++ [l]) := by unfold Ins; rw [List.length_append, List.map_append]; exact hz
    exact (Seg.setCell this (p := ⟨B, 0, none⟩) (fun e => by have := h43 _ e; first | omega | (simp at this; done) | (simp at this; omega)) _).setCell (p := ⟨B + 1, 0, none⟩) (fun e => by have := h43 _ e; first | omega | (simp at this; done) | (simp at this; omega)) _
  · have : Ins W0 t46 (s.st ++ [0]) := by unfold Ins; rw [List.length_append, List.map_append]; exact hv
    exact (Seg.setCell this (p := ⟨B, 0, none⟩) (fun e => by have := h46 _ e; first | omega | (simp at this; done) | (simp at this; omega)) _).setCell (p := ⟨B + 1, 0, none⟩) (fun e => by have := h46 _ e; first | omega | (simp at this; done) | (simp at this; omega)) _
theorem LSAt.count {w : World} {B : Nat} {z v : List Int} {a c : Int} {zv sv : Value} (h : LSAt w B ⟨z, v, a, c⟩ zv sv) (a' c' : Int) : LSAt ((w.setCell ⟨B + 1 + 1, 0, none⟩ (.int .i64 a')).setCell ⟨B + 1 + 1 + 1, 0, none⟩ (.int .i64 c')) B ⟨z, v, a', c'⟩ zv sv := by
  refine ⟨?_, ?_, ?_, ?_, ?_, ?_, h.nz, h.ns⟩
  · rw [Below.heap_setCell _ _ _ _ (by show B ≠ B + 3; omega), Below.heap_setCell _ _ _ _ (by show B ≠ B + 2; omega)]
    exact h.vz
  · rw [Below.heap_setCell _ _ _ _ (by show B + 1 ≠ B + 3; omega), Below.heap_setCell _ _ _ _ (by show B + 1 ≠ B + 2; omega)]
    exact h.vs
  · rw [Below.heap_setCell _ _ _ _ (by show B + 2 ≠ B + 3; omega), heap_setCell_here h.vw]
    rfl
  · rw [heap_setCell_here ((Below.heap_setCell _ _ _ _ (by show B + 3 ≠ B + 2; omega)).trans h.vb)]
    rfl
  · exact (Seg.setCell h.rz (p := ⟨B + 2, 0, none⟩) (fun e => by have := (h.nz _ e).1; first | omega | (simp at this; done) | (simp at this; omega)) _).setCell (p := ⟨B + 3, 0, none⟩) (fun e => by have := (h.nz _ e).1; first | omega | (simp at this; done) | (simp at this; omega)) _
  · exact (Seg.setCell h.rs (p := ⟨B + 2, 0, none⟩) (fun e => by have := h.ns _ e; first | omega | (simp at this; done) | (simp at this; omega)) _).setCell (p := ⟨B + 3, 0, none⟩) (fun e => by have := h.ns _ e; first | omega | (simp at this; done) | (simp at this; omega)) _
theorem LSAt.start (w : World) : LSAt ((((w.alloc (.cells #[.slice none 0 0] 40)).alloc (.cells #[.slice none 0 0] 40)).alloc (.cells #[.int .i64 0] 3)).alloc (.cells #[.int .i64 0] 3)) w.heap.size ls0 (.slice none 0 0) (.slice none 0 0) := by
  refine ⟨?_, ?_, ?_, ?_, Ins.nil _, Ins.nil _, fun k hk => by simp [Value.ownBlock] at hk, fun k hk => by simp [Value.ownBlock] at hk⟩
  · rw [Below.heap_alloc _ _ _ (by simp <;> omega), Below.heap_alloc _ _ _ (by simp <;> omega), Below.heap_alloc _ _ _ (by simp)]
    exact heap_alloc_new w _
  · rw [Below.heap_alloc _ _ _ (by simp <;> omega), Below.heap_alloc _ _ _ (by simp)]
    exact new_block_ (by simp)
  · rw [Below.heap_alloc _ _ _ (by simp)]
    exact new_block_ (by simp)
  · exact new_block_ (by simp)
theorem LSAt.low {w : World} {B : Nat} {s : LS} {zv sv : Value} (h : LSAt w B s zv sv) : B + 4 ≤ w.heap.size := lt_of_block h.vb
set_option maxRecDepth 20000 in
set_option maxHeartbeats 4000000 in
theorem left_any (xs : List Stp) (ss : List Sn) (us : List Value) (G : Nat → LS) (G2 : Nat → LS) (x : Option Addr) (cap : Nat) (v : Value) (base : Nat) (F : Nat → Prop) (w : World) (hl : Lies w x (flt Stp.cs xs)) (hn : xs.length ≤ 1000) (hs : Sns w base F v ss us) (hlen : ss.length = xs.length)
    (h0 : G 0 = ls0) (hG : ∀ i t sn, (timesL 0 xs)[i]? = some t → ss[i]? = some sn → LStep (G i) t sn (G2 i) (G (i + 1))) :
    Calls Tryd.prog 20 #[.slice x xs.length cap, v, .bool false] w fun e w' => e = .returned (.bool true) ∧ Below w.heap.size w w' := by
  have HG : Hid (∀ i t sn, (timesL 0 xs)[i]? = some t → ss[i]? = some sn → LStep (G i) t sn (G2 i) (G (i + 1))) := hG
  have H0 : Hid (G 0 = ls0) := h0
  have HS : Hid (Sns w base F v ss us) := hs
  obtain ⟨sx, scap, rfl, hsl⟩ := hs.lies
  have HSL : Hid (Lies w sx (flt Sn.cs (ss.zip us))) := hsl
  have HTC := times_any x cap xs w hl hn
  obtain ⟨q, hq⟩ : ∃ q, xs.length = q := ⟨_, rfl⟩
  rw [hq] at HTC hn hlen ⊢
  rw [hlen]
  have HN : Hid (xs.length = q) := hq
  have HLN : Hid (ss.length = q) := hlen
  obtain ⟨i0, hi, hz0, hz1, hz2⟩ := info_parts infoInt1
  clear hG h0 hs hsl hl hq hlen
  go_enter Tryd.func20, Tryd.ntmps20
  go_wp2_with (go_at_call 10; refine HTC.mono ?_; rintro e w1 ⟨tv, rfl, ht1, hn1, hb1⟩)
  obtain ⟨tx, tcap, htv, htl⟩ := ht1.lies
  rw [timesL_length, HN.out] at htv
  subst htv
  have HT1 : Hid (Lies w1 tx (flt Stp.cs (timesL 0 xs))) := htl
  have HB1 : Hid (Below w.heap.size w w1) := hb1
  have HS1 : Hid (Lies w1 sx (flt Sn.cs (ss.zip us))) := HSL.out.below hb1
  clear ht1 htl hn1 hb1 HTC
  go_loopw [13] (fun i wr => ∃ (k : Nat) (zv sv : Value), k ≤ q ∧ i = .int .i64 k ∧ LSAt wr w1.heap.size (G k) zv sv ∧ (G k).Ok k ∧ Below w1.heap.size w1 wr) (fun i _ => q - (intOf i).toNat)
  case atStart =>
    exact ⟨0, _, _, Nat.zero_le _, rfl, by rw [H0.out]; exact LSAt.start w1, by rw [H0.out]; exact ls0_ok, below_alloc_ (below_alloc_ (below_alloc_ (below_alloc_ (Below.refl _ _) _) _) _) _⟩
  case round =>
    obtain ⟨k, zv, sv, hk, rfl, hls, hok, hbw⟩ := hrel
    have HLS : Hid (LSAt wr w1.heap.size (G k) zv sv) := hls
    have HOK : Hid ((G k).Ok k) := hok
    have HBW : Hid (Below w1.heap.size w1 wr) := hbw
    clear hls hok hbw
    by_cases hlt : k < q
    · obtain ⟨st, hst⟩ : ∃ st, (timesL 0 xs)[k]? = some st := ⟨_, List.getElem?_eq_getElem (by rw [timesL_length, HN.out]; exact hlt)⟩
      obtain ⟨sn, hsn⟩ : ∃ sn, ss[k]? = some sn := ⟨_, List.getElem?_eq_getElem (by rw [HLN.out]; exact hlt)⟩
      obtain ⟨u, hu⟩ : ∃ u, us[k]? = some u := ⟨_, List.getElem?_eq_getElem (by rw [HS.out.len, HLN.out]; exact hlt)⟩
      have HLT : Hid (LStep (G k) st sn (G2 k) (G (k + 1))) := HG.out k st sn hst hsn
      have hut := (HS.out.lost k sn u hsn hu).1
      have hstl : st.what = 0 → 0 ≤ st.l ∧ st.l ≤ 10000 := by
        intro h0
        obtain ⟨y, hy⟩ : ∃ y, xs[k]? = some y := ⟨_, List.getElem?_eq_getElem (by rw [HN.out]; exact hlt)⟩
        have := timesL_at (t := 0) hy
        rw [hst] at this
        have e := Option.some.inj this
        have h1 := timed_ok (t := nowAt 0 xs (k + 1)) (s := y) (by rw [← e]; exact h0)
        simp only [It.ok, Bool.and_eq_true, wth_iff] at h1
        rw [e]
        show 0 ≤ y.l ∧ y.l ≤ 10000
        omega
      have HSTL : Hid (st.what = 0 → 0 ≤ st.l ∧ st.l ≤ 10000) := hstl
      clear hstl
      have HST : Hid ((timesL 0 xs)[k]? = some st) := hst
      have HSU : Hid ((ss.zip us)[k]? = some (sn, u)) := zip_at hsn hu
      obtain ⟨ux, ucap, rfl, hul⟩ := Seg.lies hut
      have HUL : Hid (Lies w ux (sn.lost.map (Value.int .i64))) := hul
      obtain ⟨tb, toff, rfl, htb, _⟩ := HT1.out.seven hst
      obtain ⟨sb, soff, rfl, hsb, _⟩ := HS1.out.seen HSU.out
      have HCT : Hid (∀ W : World, Below w1.heap.size w1 W → tb < W.heap.size ∧ W.cell? ⟨tb, toff + k * 7, none⟩ = some (.int .i64 st.what) ∧ W.cell? ⟨tb, toff + k * 7 + 3, none⟩ = some (.int .i64 st.l)) := by
        intro W hW
        obtain ⟨b', o', e, hlt', c0, _, _, c3, _⟩ := (HT1.out.below hW).seven HST.out
        simp only [Option.some.injEq, Addr.mk.injEq, and_true] at e
        obtain ⟨rfl, rfl⟩ := e
        exact ⟨hlt', c0, c3⟩
      have HCS : Hid (∀ W : World, Below w1.heap.size w1 W → sb < W.heap.size ∧ W.cell? ⟨sb, soff + k * 6, none⟩ = some (.int .i64 sn.taken) ∧ W.cell? ⟨sb, soff + k * 6 + 3, none⟩ = some (.int .i64 sn.len) ∧ W.cell? ⟨sb, soff + k * 6 + 4, none⟩ = some (.int .i64 sn.bytes) ∧ W.cell? ⟨sb, soff + k * 6 + 5, none⟩ = some (.slice ux sn.lost.length ucap)) := by
        intro W hW
        obtain ⟨b', o', e, hlt', c0, _, _, c3, c4, c5⟩ := (HS1.out.below hW).seen HSU.out
        simp only [Option.some.injEq, Addr.mk.injEq, and_true] at e
        obtain ⟨rfl, rfl⟩ := e
        exact ⟨hlt', c0, c3, c4, c5⟩
      clear hst hsn hu hut hul
      obtain ⟨d0, d1, d2⟩ := HCT.out wr HBW.out
      have hlow := HLS.out.low
      obtain ⟨a0, b0⟩ := one_cell HLS.out.vz
      obtain ⟨a1, b1⟩ := one_cell HLS.out.vs
      obtain ⟨a2, b2⟩ := one_cell HLS.out.vw
      obtain ⟨a3, b3⟩ := one_cell HLS.out.vb
      go_upto_if 34 with (fail)
      go_cut [14] (fun _ wx => ∃ zv sv, LSAt wx w1.heap.size (addS (G k) st) zv sv ∧ Below w1.heap.size w1 wx)
      case first =>
        by_cases hw0 : st.what = 0
        · have HW : Hid (st.what = 0) := hw0
          have hw2 : (st.what == 0) = true := by simpa using hw0
          clear hw0
          have HSS : Hid (∀ W : World, Ot (fun j => zv.ownBlock = some j ∨ sv.ownBlock = some j) wr W → W.cell? ⟨w1.heap.size, 0, none⟩ = some zv ∧ W.cell? ⟨w1.heap.size + 1, 0, none⟩ = some sv ∧ W.cell? ⟨tb, toff + k * 7 + 3, none⟩ = some (.int .i64 st.l) ∧ W.frozen? ⟨w1.heap.size, 0, none⟩ = false ∧ W.frozen? ⟨w1.heap.size + 1, 0, none⟩ = false) := by
            intro W hW
            have hno : ∀ j, j < w1.heap.size + 4 → ¬ (zv.ownBlock = some j ∨ sv.ownBlock = some j) := by
              rintro j hj (h | h)
              · have := (HLS.out.nz j h).1; omega
              · have := HLS.out.ns j h; omega
            have e0 := hW.block w1.heap.size (by omega) (hno _ (by omega))
            have e1 := hW.block (w1.heap.size + 1) (by omega) (hno _ (by omega))
            refine ⟨?_, ?_, ?_, ?_, ?_⟩
            · rw [World.cell?_of_block (a := ⟨w1.heap.size, 0, none⟩) e0]; exact a0
            · rw [World.cell?_of_block (a := ⟨w1.heap.size + 1, 0, none⟩) e1]; exact a1
            · rw [hW.cell (p := ⟨tb, toff + k * 7 + 3, none⟩) d0 (hno _ (by show tb < _; omega))]; exact d2
            · rw [World.frozen?_of_block (a := ⟨w1.heap.size, 0, none⟩) e0]; exact b0
            · rw [World.frozen?_of_block (a := ⟨w1.heap.size + 1, 0, none⟩) e1]; exact b1
          have HZS : Hid (∀ W : World, Ot (fun j => sv.ownBlock = some j) wr W → Seg W 3 1 zv (G k).size.length ((G k).size.map (Value.int .i64))) := fun W hW => Seg.oth HLS.out.rz hW (fun j hj h => (HLS.out.nz j hj).2 h)
          have HVS : Hid (∀ W : World, Ot (fun j => zv.ownBlock = some j) wr W → Seg W 3 1 sv (G k).st.length ((G k).st.map (Value.int .i64))) := fun W hW => Seg.oth HLS.out.rs hW (fun j hj h => (HLS.out.nz j h).2 hj)
          have hl1 : (G k).st.length ≤ k := HOK.out.le
          have hl2 : (G k).size.length = (G k).st.length := HOK.out.len
          obtain ⟨zn, hzn⟩ : ∃ zn, (G k).size.length = zn := ⟨_, rfl⟩
          rw [hzn] at HZS hl2
          obtain ⟨vn, hvn⟩ : ∃ vn, (G k).st.length = vn := ⟨_, rfl⟩
          rw [hvn] at HVS hl2 hl1
          have HZN : Hid ((G k).size.length = zn) := hzn
          have HVN : Hid ((G k).st.length = vn) := hvn
          have hzq : zn ≤ 1000 := by omega
          have hvq : vn ≤ 1000 := by omega
          clear hzn hvn hl2 a0 a1 b0 b1 d2
          go_wp2
          refine wp_region_any (by kernel_rfl) ?_
          change wpAny _ _ _ _ _ _ _ (World.drew _)
          refine wpAny_take (i := 1) (v := ?_) rfl (by kernel_rfl) (by kernel_rfl) (by kernel_rfl) (fun _ _ _ h => h) (Or.inl ⟨by rfl, ?_⟩) ?_
          rotate_left
          · intro w; go_simp; try with_reducible rfl
          simp only [Act.put, List.getElem_toArray, List.getElem_cons_zero, List.getElem_cons_succ, List.setIfInBounds_toArray, List.set_cons_zero, List.set_cons_succ]
          refine wpAny_take (i := 2) (v := ?_) rfl (by kernel_rfl) (by kernel_rfl) (by kernel_rfl) (fun _ _ _ h => h) (Or.inl ⟨by rfl, ?_⟩) ?_
          rotate_left
          · intro w; go_simp; try with_reducible rfl
          simp only [Act.put, List.getElem_toArray, List.getElem_cons_zero, List.getElem_cons_succ, List.setIfInBounds_toArray, List.set_cons_zero, List.set_cons_succ]
          refine wpAny_take (i := 3) (v := ?_) rfl (by kernel_rfl) (by kernel_rfl) (by kernel_rfl) (fun _ _ _ h => h) (Or.inl ⟨by rfl, ?_⟩) ?_
          rotate_left
          · intro w; go_simp; try with_reducible rfl
          simp only [Act.put, List.getElem_toArray, List.getElem_cons_zero, List.getElem_cons_succ, List.setIfInBounds_toArray, List.set_cons_zero, List.set_cons_succ]
          refine wpAny_take (i := 4) (v := ?_) rfl (by kernel_rfl) (by kernel_rfl) (by kernel_rfl) (fun _ _ _ h => h) (Or.inl ⟨by rfl, ?_⟩) ?_
          rotate_left
          · intro w; go_simp; try with_reducible rfl
          simp only [Act.put, List.getElem_toArray, List.getElem_cons_zero, List.getElem_cons_succ, List.setIfInBounds_toArray, List.set_cons_zero, List.set_cons_succ]
          refine wpAny_take (i := 5) (v := ?_) rfl (by kernel_rfl) (by kernel_rfl) (by kernel_rfl) (fun _ _ _ h => h) (Or.inl ⟨by rfl, ?_⟩) ?_
          rotate_left
          · intro w; go_simp; try with_reducible rfl
          simp only [Act.put, List.getElem_toArray, List.getElem_cons_zero, List.getElem_cons_succ, List.setIfInBounds_toArray, List.set_cons_zero, List.set_cons_succ]
          refine wpAny_by (fun L a W => ∃ (t35 t41 t42 t43 t44 t45 t46 : Value) (pA pB : Nat) (W0 : World), a = { tmps := #[.slice x q cap, .slice (some ⟨sb, soff, none⟩) q scap, .bool false, undef, undef, undef, u6, .slice (some ⟨tb, toff, none⟩) q tcap, .pointer (some ⟨w1.heap.size, 0, none⟩), .pointer (some ⟨w1.heap.size + 1, 0, none⟩), .pointer (some ⟨w1.heap.size + 1 + 1, 0, none⟩), .pointer (some ⟨w1.heap.size + 1 + 1 + 1, 0, none⟩), .func (.func 36) #[] #[.pointer (some ⟨w1.heap.size + 1, 0, none⟩), .pointer (some ⟨w1.heap.size + 1 + 1, 0, none⟩), .pointer (some ⟨w1.heap.size + 1 + 1 + 1, 0, none⟩), .pointer (some ⟨w1.heap.size, 0, none⟩)], .int .i64 k, u14, .slice (some ⟨sb, soff, none⟩) q scap, .int .i64 q, .slice x q cap, .int .i64 q, .bool false, .slice x q cap, .slice (some ⟨tb, toff, none⟩) q tcap, .func (.func 36) #[] #[.pointer (some ⟨w1.heap.size + 1, 0, none⟩), .pointer (some ⟨w1.heap.size + 1 + 1, 0, none⟩), .pointer (some ⟨w1.heap.size + 1 + 1 + 1, 0, none⟩), .pointer (some ⟨w1.heap.size, 0, none⟩)], .int .i64 k, .slice (some ⟨tb, toff, none⟩) q tcap, .int .i64 q, .bool true, u27, u28, .slice (some ⟨tb, toff, none⟩) q tcap, .int .i64 k, .pointer (some ⟨tb, toff + k * 7, none⟩), .pointer (some ⟨tb, toff + k * 7, none⟩), .int .i64 st.what, .bool true, t35, .slice (some ⟨tb, toff, none⟩) q tcap, .int .i64 k, .pointer (some ⟨tb, toff + k * 7, none⟩), .pointer (some ⟨tb, toff + k * 7 + 2, none⟩), .pointer (some ⟨tb, toff + k * 7 + 2 + 1, none⟩), t41, t42, t43, t44, t45, t46, u47, u48, u49, u50, u51, u52, u53, u54, u55, u56, u57, u58, u59, u60, u61, u62, u63, u64, u65, u66, u67, u68, u69, u70, u71, u72, u73, u74, u75, u76, u77, u78, u79, u80, u81, u82, u83, u84, u85, u86, u87, u88, u89, u90, u91, u92, u93, u94, u95, u96, u97, u98, u99, u100, u101, u102, u103, u104, u105, u106, u107, u108, u109, u110, u111, u112, u113, u114, u115, u116, u117, u118, u119, u120, u121, u122, u123, u124, u125, u126, u127, u128, u129, u130, u131], defers := [] } ∧ AppI wr w1.heap.size zn vn ((G k).size.map (Value.int .i64)) ((G k).st.map (Value.int .i64)) zv sv (.int .i64 st.l) (L 0) (L 6) (L 7) (L 8) (L 9) (L 10) (L 11) (L 12) (L 13) t35 t41 t42 t43 t44 t45 t46 pA pB W0 W) [0, 6, 7, 8, 9, 10, 11, 12, 13] (by kernel_rfl) (by kernel_rfl) (by decide) ?_ ?_ ?_
          · intro L hL
            have n : ∀ i, i ∈ [0, 6, 7, 8, 9, 10, 11, 12, 13] → L i → False := hL
            refine ⟨u35, u41, u42, u43, u44, u45, u46, 0, 0, wr.drew, rfl, ?_⟩
            exact ⟨fun h => (n 7 (by simp) h).elim, fun h => (n 8 (by simp) h).elim, fun h => (n 11 (by simp) h).elim, fun h => (n 12 (by simp) h).elim, fun h => (n 13 (by simp) h).elim, fun h => (n 0 (by simp) h).elim, fun h => (n 6 (by simp) h).elim, fun h => (n 9 (by simp) h).elim, fun h => (n 7 (by simp) h).elim, fun h => (n 10 (by simp) h).elim, fun h => (n 8 (by simp) h).elim, fun h => (n 11 (by simp) h).elim, fun h => (n 8 (by simp) h).elim, fun _ => HZS.out _ (Ot.refl _ _).drew, fun _ => HVS.out _ (Ot.refl _ _).drew, (Ot.refl _ _).drew, fun _ => rfl, fun h => (n 12 (by simp) h).elim, fun h => (n 13 (by simp) h).elim⟩
          · rintro i L a W hi hn hd ⟨t35, t41, t42, t43, t44, t45, t46, pA, pB, W0, rfl, H⟩
            simp only [List.mem_cons, List.not_mem_nil, or_false] at hi
            have HH : Hid (AppI wr w1.heap.size zn vn ((G k).size.map (Value.int .i64)) ((G k).st.map (Value.int .i64)) zv sv (.int .i64 st.l) (L 0) (L 6) (L 7) (L 8) (L 9) (L 10) (L 11) (L 12) (L 13) t35 t41 t42 t43 t44 t45 t46 pA pB W0 W) := H
            clear H
            rcases hi with rfl | rfl | rfl | rfl | rfl | rfl | rfl | rfl | rfl
            · clear hd
              have H := HH.out
              have n12 : ¬ L 12 := fun h => hn (H.c8 (H.c12 h).1).1
              have e := H.w0 n12
              subst e
              obtain ⟨s0, s1, s2, s3, s4⟩ := HSS.out _ H.ot
              clear H
              refine wpOp_step rfl (fun K hK => ?_)
              go_simp
              refine hK _ _ ⟨zv, t41, t42, t43, t44, t45, t46, pA, pB, W, rfl, ?_⟩
              simp only [Nat.reduceEqDiff, false_or, true_or]
              have H := HH.out
              exact ⟨H.c7, fun h => ⟨trivial, (H.c8 h).2⟩, H.c11, H.c12, H.c13, fun _ => rfl, H.f6, H.f9, H.f7, H.f10, H.f8, H.f11, H.ne, H.s8, H.s11, H.ot, H.w0, H.w1, H.w2⟩
            · clear hd
              have H := HH.out
              have n12 : ¬ L 12 := fun h => hn (H.c7 (H.c8 (H.c12 h).1).2)
              have e := H.w0 n12
              subst e
              obtain ⟨s0, s1, s2, s3, s4⟩ := HSS.out _ H.ot
              clear H
              refine wpOp_step rfl (fun K hK => ?_)
              go_simp
              refine hK _ _ ⟨t35, .int .i64 st.l, t42, t43, t44, t45, t46, pA, pB, W, rfl, ?_⟩
              simp only [Nat.reduceEqDiff, false_or, true_or]
              have H := HH.out
              exact ⟨fun _ => trivial, H.c8, H.c11, H.c12, H.c13, H.f0, fun _ => rfl, H.f9, H.f7, H.f10, H.f8, H.f11, H.ne, H.s8, H.s11, H.ot, H.w0, H.w1, H.w2⟩
            · have hd := hd _ rfl
              simp [Region.binds] at hd
              have l6 : L 6 := hd
              clear hd
              have H := HH.out
              have n8 : ¬ L 8 := fun h => hn (H.c8 h).2
              have n12 : ¬ L 12 := fun h => n8 (H.c12 h).1
              have e := H.w0 n12
              subst e
              have e2 := H.f6 l6
              subst e2
              clear H
              refine wpOp_step rfl (fun K hK => ?_)
              go_simp
              refine hK _ _ ⟨t35, .int .i64 st.l, .slice (some ⟨W.heap.size, 0, none⟩) 1 1, t43, t44, t45, t46, W.heap.size, pB, W.alloc (.cells #[.int .i64 st.l] 3), rfl, ?_⟩
              simp only [Nat.reduceEqDiff, false_or, true_or]
              have H := HH.out
              exact ⟨fun _ => l6, fun h => (n8 h).elim, H.c11, H.c12, H.c13, H.f0, H.f6, H.f9, fun _ => ⟨rfl, H.ot.size, by simp⟩, fun h => ⟨(H.f10 h).1, (H.f10 h).2.1, cell_al (H.f10 h).2.2 _⟩, fun h => (n8 h).elim, fun h => ⟨(H.f11 h).1.alloc _, (H.f11 h).2⟩, fun h => (n8 h).elim, fun h => (H.s8 h).alloc _, fun h => (H.s11 h).alloc _, H.ot.alloc _, fun _ => rfl, fun h => (n12 h).elim, fun h => (n12 (H.c13 h)).elim⟩
            · have hd := hd _ rfl
              simp [Region.binds] at hd
              have l0 : L 0 := hd.1
              have l7 : L 7 := hd.2
              clear hd
              have H := HH.out
              have n12 : ¬ L 12 := fun h => hn (H.c12 h).1
              have e := H.w0 n12
              subst e
              have e1 := H.f0 l0
              obtain ⟨e2, g1, g2⟩ := H.f7 l7
              subst e1 e2
              have HZ : Hid (∀ k, t35.ownBlock = some k → k < wr.heap.size) := fun k hk => HLS.out.rz.lt hk
              have hsz := H.ot.size
              clear H
              refine wpOp_step rfl (fun K hK => ?_)
              refine step_append_seg _ (by rfl) (.tmp 35) (.tmp 42) 40 (by rfl) 3 i0 (.int .i64 0) 1 8 Tryd.underlying40 hi hz0 hz1 hz2 rfl (by decide) t35 zn _ (by rfl) (HH.out.s8 hn) ⟨pA, 0, none⟩ 1 1 [.int .i64 st.l] (by rfl) rfl (one_at g2) (by simp [Value.oneCell']) (by omega) (by unfold maxLen; omega) (by omega) _ rfl ?_
              intro g off cp w' hs' hg ha hl'
              refine hK _ _ ⟨t35, t41, _, _, t44, t45, t46, pA, pB, w', rfl, ?_⟩
              simp only [Nat.reduceEqDiff, false_or, true_or]
              have H := HH.out
              have hnz : ∀ k, wr.heap.size ≤ k → some k ≠ t35.ownBlock := fun k hk e => by have := HZ.out k e.symm; omega
              have hz46 : ∀ k, L 11 → t46.ownBlock = some k → some k ≠ t35.ownBlock := fun k h hk e => by rcases (H.f11 h).2 k hk with h' | h'; exact (HLS.out.nz k e.symm).2 h'; exact hnz k h' e
              exact ⟨H.c7, fun _ => ⟨l0, l7⟩, H.c11, fun h => (n12 h).elim, H.c13, H.f0, H.f6, H.f9, fun _ => ⟨rfl, g1, hg.cell g2 (hnz pA g1)⟩, fun h => ⟨(H.f10 h).1, (H.f10 h).2.1, hg.cell (H.f10 h).2.2 (hnz pB (H.f10 h).2.1)⟩, fun _ => ⟨hs', fun k hk => by simp only [Value.ownBlock, Option.some.injEq] at hk; subst hk; rcases ha with h | h; exact Or.inl h; exact Or.inr (by omega)⟩, fun h => ⟨(H.f11 h).1.kept (fun b hb => hg.block b ((H.f11 h).1.lt hb) (hz46 b h hb)), (H.f11 h).2⟩, fun _ h k hk hk' => by simp only [Value.ownBlock, Option.some.injEq] at hk; subst hk; rcases ha with h' | h'; exact hz46 _ h hk' h'.symm; have := (H.f11 h).1.lt hk'; omega, fun h => (h trivial).elim, fun h => (H.s11 h).kept (fun b hb => hg.block b ((H.s11 h).lt hb) (fun e => (HLS.out.nz b e.symm).2 hb)), Ot.grown H.ot hg (fun k e => Or.inl (Or.inl e)), fun _ => rfl, fun h => (n12 h).elim, fun h => (n12 (H.c13 h)).elim⟩
            · clear hd
              have H := HH.out
              have n12 : ¬ L 12 := fun h => hn (H.c11 (H.c12 h).2).1
              have e := H.w0 n12
              subst e
              obtain ⟨s0, s1, s2, s3, s4⟩ := HSS.out _ H.ot
              clear H
              refine wpOp_step rfl (fun K hK => ?_)
              go_simp
              refine hK _ _ ⟨t35, t41, t42, t43, sv, t45, t46, pA, pB, W, rfl, ?_⟩
              simp only [Nat.reduceEqDiff, false_or, true_or]
              have H := HH.out
              exact ⟨H.c7, H.c8, fun h => ⟨trivial, (H.c11 h).2⟩, H.c12, H.c13, H.f0, H.f6, fun _ => rfl, H.f7, H.f10, H.f8, H.f11, H.ne, H.s8, H.s11, H.ot, H.w0, H.w1, H.w2⟩
            · clear hd
              have H := HH.out
              have n11 : ¬ L 11 := fun h => hn (H.c11 h).2
              have n12 : ¬ L 12 := fun h => n11 (H.c12 h).2
              have e := H.w0 n12
              subst e
              clear H
              refine wpOp_step rfl (fun K hK => ?_)
              go_simp
              refine hK _ _ ⟨t35, t41, t42, t43, t44, .slice (some ⟨W.heap.size, 0, none⟩) 1 1, t46, pA, W.heap.size, W.alloc (.cells #[.int .i64 0] 3), rfl, ?_⟩
              simp only [Nat.reduceEqDiff, false_or, true_or]
              have H := HH.out
              exact ⟨H.c7, H.c8, fun h => (n11 h).elim, H.c12, H.c13, H.f0, H.f6, H.f9, fun h => ⟨(H.f7 h).1, (H.f7 h).2.1, cell_al (H.f7 h).2.2 _⟩, fun _ => ⟨rfl, H.ot.size, by simp⟩, fun h => ⟨(H.f8 h).1.alloc _, (H.f8 h).2⟩, fun h => (n11 h).elim, fun _ h => (n11 h).elim, fun h => (H.s8 h).alloc _, fun h => (H.s11 h).alloc _, H.ot.alloc _, fun _ => rfl, fun h => (n12 h).elim, fun h => (n12 (H.c13 h)).elim⟩
            · have hd := hd _ rfl
              simp [Region.binds] at hd
              have l9 : L 9 := hd.1
              have l10 : L 10 := hd.2.1
              clear hd
              have H := HH.out
              have n12 : ¬ L 12 := fun h => hn (H.c12 h).2
              have e := H.w0 n12
              subst e
              have e1 := H.f9 l9
              obtain ⟨e2, g1, g2⟩ := H.f10 l10
              subst e1 e2
              have HZ : Hid (∀ k, t44.ownBlock = some k → k < wr.heap.size) := fun k hk => HLS.out.rs.lt hk
              have hsz := H.ot.size
              clear H
              refine wpOp_step rfl (fun K hK => ?_)
              refine step_append_seg _ (by rfl) (.tmp 44) (.tmp 45) 40 (by rfl) 3 i0 (.int .i64 0) 1 8 Tryd.underlying40 hi hz0 hz1 hz2 rfl (by decide) t44 vn _ (by rfl) (HH.out.s11 hn) ⟨pB, 0, none⟩ 1 1 [.int .i64 0] (by rfl) rfl (one_at g2) (by simp [Value.oneCell']) (by omega) (by unfold maxLen; omega) (by omega) _ rfl ?_
              intro g off cp w' hs' hg ha hl'
              refine hK _ _ ⟨t35, t41, t42, t43, t44, _, _, pA, pB, w', rfl, ?_⟩
              simp only [Nat.reduceEqDiff, false_or, true_or]
              have H := HH.out
              have hnz : ∀ k, wr.heap.size ≤ k → some k ≠ t44.ownBlock := fun k hk e => by have := HZ.out k e.symm; omega
              have hz43 : ∀ k, L 8 → t43.ownBlock = some k → some k ≠ t44.ownBlock := fun k h hk e => by rcases (H.f8 h).2 k hk with h' | h'; exact (HLS.out.nz k h').2 e.symm; exact hnz k h' e
              exact ⟨H.c7, H.c8, fun _ => ⟨l9, l10⟩, fun h => (n12 h).elim, H.c13, H.f0, H.f6, H.f9, fun h => ⟨(H.f7 h).1, (H.f7 h).2.1, hg.cell (H.f7 h).2.2 (hnz pA (H.f7 h).2.1)⟩, fun _ => ⟨rfl, g1, hg.cell g2 (hnz pB g1)⟩, fun h => ⟨(H.f8 h).1.kept (fun b hb => hg.block b ((H.f8 h).1.lt hb) (hz43 b h hb)), (H.f8 h).2⟩, fun _ => ⟨hs', fun k hk => by simp only [Value.ownBlock, Option.some.injEq] at hk; subst hk; rcases ha with h | h; exact Or.inl h; exact Or.inr (by omega)⟩, fun h _ k hk hk' => by simp only [Value.ownBlock, Option.some.injEq] at hk'; subst hk'; rcases ha with h' | h'; exact hz43 _ h hk h'.symm; have := (H.f8 h).1.lt hk; omega, fun h => (H.s8 h).kept (fun b hb => hg.block b ((H.s8 h).lt hb) (fun e => (HLS.out.nz b hb).2 e.symm)), fun h => (h trivial).elim, Ot.grown H.ot hg (fun k e => Or.inl (Or.inr e)), fun _ => rfl, fun h => (n12 h).elim, fun h => (n12 (H.c13 h)).elim⟩
            · have hd := hd _ rfl
              simp [Region.binds] at hd
              have l8 : L 8 := by simp [hd]
              have l11 : L 11 := by simp [hd]
              clear hd
              have H := HH.out
              have e := H.w0 hn
              subst e
              obtain ⟨s0, s1, s2, s3, s4⟩ := HSS.out _ H.ot
              obtain ⟨g, go, gc, e2, _⟩ := (H.f8 l8).1.some (by omega)
              subst e2
              clear H
              refine wpOp_step rfl (fun K hK => ?_)
              go_simp
              refine hK _ _ ⟨t35, t41, t42, _, t44, t45, t46, pA, pB, W, rfl, ?_⟩
              simp only [Nat.reduceEqDiff, false_or, true_or]
              have H := HH.out
              exact ⟨H.c7, H.c8, H.c11, fun _ => ⟨l8, l11⟩, fun _ => trivial, H.f0, H.f6, H.f9, H.f7, H.f10, H.f8, H.f11, H.ne, H.s8, H.s11, H.ot, fun h => (h trivial).elim, fun _ _ => rfl, fun h => (hn (H.c13 h)).elim⟩
            · have hd := hd _ rfl
              simp [Region.binds] at hd
              have l12 : L 12 := by simp [hd]
              clear hd
              have H := HH.out
              obtain ⟨l8, l11⟩ := H.c12 l12
              have e := H.w1 l12 hn
              subst e
              obtain ⟨s0, s1, s2, s3, s4⟩ := HSS.out _ H.ot
              obtain ⟨g, go, gc, e2, _⟩ := (H.f11 l11).1.some (by omega)
              subst e2
              clear H
              refine wpOp_step rfl (fun K hK => ?_)
              go_simp
              refine hK _ _ ⟨t35, t41, t42, t43, t44, t45, _, pA, pB, W0, rfl, ?_⟩
              simp only [Nat.reduceEqDiff, false_or, true_or]
              have H := HH.out
              exact ⟨H.c7, H.c8, H.c11, H.c12, fun _ => l12, H.f0, H.f6, H.f9, H.f7, H.f10, H.f8, H.f11, H.ne, H.s8, H.s11, H.ot, fun h => (h l12).elim, fun _ h => (h trivial).elim, fun _ => rfl⟩
          · rintro L a W hL ⟨t35, t41, t42, t43, t44, t45, t46, pA, pB, W0, rfl, H⟩
            have l8 := hL 8 (by simp)
            have l11 := hL 11 (by simp)
            have l13 := hL 13 (by simp)
            have hW := H.w2 l13
            obtain ⟨hz, hzk⟩ := H.f8 l8
            obtain ⟨hv, hvk⟩ := H.f11 l11
            have hne := H.ne l8 l11
            have hot := H.ot
            clear H hL
            have hls2 : LSAt W w1.heap.size ⟨(G k).size ++ [st.l], (G k).st ++ [0], (G k).wait, (G k).bytes⟩ t43 t46 := by
              rw [hW]
              exact LSAt.appended HLS.out hot (by rw [HZN.out]; exact hz) (by rw [HVN.out]; exact hv) hzk hvk hne
            have hbw2 : Below w1.heap.size w1 W := by
              rw [hW]
              have h1 : Below w1.heap.size wr W0 := hot.below (by omega) (by
                rintro j (h | h)
                · have := (HLS.out.nz j h).1; omega
                · have := HLS.out.ns j h; omega)
              exact ((HBW.out.trans h1).setCell (p := ⟨w1.heap.size, 0, none⟩) (Nat.le_refl _) _).setCell (p := ⟨w1.heap.size + 1, 0, none⟩) (Nat.le_succ _) _
            have HL2 : Hid (LSAt W w1.heap.size ⟨(G k).size ++ [st.l], (G k).st ++ [0], (G k).wait, (G k).bytes⟩ t43 t46) := hls2
            have HB2 : Hid (Below w1.heap.size w1 W) := hbw2
            obtain ⟨e2, f2⟩ := one_cell hls2.vw
            obtain ⟨e3, f3⟩ := one_cell hls2.vb
            have hlw := hls2.low
            obtain ⟨d0', d1', d2'⟩ := HCT.out W hbw2
            obtain ⟨hw1, hw3⟩ := HOK.out.bounds
            have hsl := HSTL.out HW.out
            clear hW hz hzk hv hvk hne hot hls2 hbw2 a2 b2 a3 b3
            go_wp2
            go_region
            all_goals
              go_wp2
              go_meet
              case rel => exact ⟨t43, t46, by rw [addS, if_pos HW.out]; exact (HL2.out.count _ _).drew, by repeat' (first | with_reducible exact HB2.out | with_reducible refine Below.drew ?_ | with_reducible refine Below.setCell ?_ (by simp <;> omega) _)⟩
        · have HW : Hid (¬ st.what = 0) := hw0
          have hw2 : (st.what == 0) = false := by simpa using hw0
          clear hw0
          go_wp2
          go_meet
          case rel => exact ⟨zv, sv, by rw [addS, if_neg HW.out]; exact HLS.out, HBW.out⟩
      case rest =>
      obtain ⟨zv2, sv2, hls2, hbw2⟩ := hcut
      have HL2 : Hid (LSAt wc w1.heap.size (addS (G k) st) zv2 sv2) := hls2
      have HB2 : Hid (Below w1.heap.size w1 wc) := hbw2
      have HO2 : Hid ((addS (G k) st).Ok (k + 1)) := HOK.out.add HSTL.out
      clear hls2 hbw2 a0 b0 a1 b1 a2 b2 a3 b3 d0 d1 d2 hlow
      obtain ⟨m, hm⟩ : ∃ m, sn.lost.length = m := ⟨_, rfl⟩
      have HM : Hid (sn.lost.length = m) := hm
      have hm1 : m ≤ k + 1 := by rw [← hm]; exact outsS_len HO2.out HLT.out.outs
      rw [hm] at HCS
      clear hm
      go_wp2
      go_loopw [14] (fun kv wx => ∃ (j : Nat) (s' : LS) (zv sv : Value), j ≤ m ∧ kv = .int .i64 j ∧ LSAt wx w1.heap.size s' zv sv ∧ s'.Ok (k + 1) ∧ outsS s' (sn.lost.drop j) = some (G2 k) ∧ Below w1.heap.size w1 wx) (fun kv _ => m - (intOf kv).toNat)
      case atStart => exact ⟨0, _, _, _, Nat.zero_le _, rfl, HL2.out, HO2.out, HLT.out.outs, HB2.out⟩
      case round =>
        obtain ⟨j, s', zv3, sv3, hj, rfl, hls3, hok3, hout3, hbw3⟩ := hrel
        have HL3 : Hid (LSAt wr w1.heap.size s' zv3 sv3) := hls3
        have HB3 : Hid (Below w1.heap.size w1 wr) := hbw3
        have HO3 : Hid (s'.Ok (k + 1)) := hok3
        have HU3 : Hid (outsS s' (sn.lost.drop j) = some (G2 k)) := hout3
        obtain ⟨e0, e1, e2, e3, e4⟩ := HCS.out wr hbw3
        have hlw3 := hls3.low
        obtain ⟨hw1, hw3⟩ := hok3.bounds
        obtain ⟨p2, q2⟩ := one_cell hls3.vw
        obtain ⟨p3, q3⟩ := one_cell hls3.vb
        clear hls3 hok3 hout3 hbw3
        by_cases hjm : j < m
        · obtain ⟨z, hz⟩ : ∃ z, sn.lost[j]? = some z := ⟨_, List.getElem?_eq_getElem (by rw [HM.out]; exact hjm)⟩
          have hdr : sn.lost.drop j = z :: sn.lost.drop (j + 1) := by
            obtain ⟨h1, rfl⟩ := List.getElem?_eq_some_iff.1 hz
            exact List.drop_eq_getElem_cons h1
          have hu := HU3.out
          rw [hdr] at hu
          simp only [outsS] at hu
          cases ho : outS s' z with
          | none => rw [ho] at hu; simp at hu
          | some s'' =>
            rw [ho] at hu
            have HU4 : Hid (outsS s'' (sn.lost.drop (j + 1)) = some (G2 k)) := hu
            have HOUT : Hid (outS s' z = some s'') := ho
            have hlies := (HUL.out.below HB1.out).below HB3.out
            obtain ⟨lb, lo, hux, hlb, hcell⟩ : ∃ lb lo, ux = some ⟨lb, lo, none⟩ ∧ lb < wr.heap.size ∧ wr.cell? ⟨lb, lo + j, none⟩ = some (.int .i64 z) := by
              rcases hlies with h | ⟨lb, lo, e, hl, h⟩
              · exfalso
                have : sn.lost = [] := by simpa using h
                rw [this] at hz
                simp at hz
              · exact ⟨lb, lo, e, hl, h j _ (by simp [hz])⟩
            subst hux
            clear hz hdr hu ho hlies
            go_wp2_with (go_at_call 36; refine (out_any z _ HL3.out HO3.out (by omega) HOUT.out).mono ?_; rintro e w4 ⟨rfl, hls4, hb4, hsz4⟩)
            go_roundw
            case rel => exact ⟨j + 1, s'', zv3, sv3, by omega, by go_num, hls4, HO3.out.out HOUT.out, HU4.out, HB3.out.trans hb4⟩
            case measure => simp [intOf]; omega
        · obtain rfl : j = m := by omega
          have hu := HU3.out
          rw [List.drop_eq_nil_of_le (by rw [HM.out]; exact Nat.le_refl _)] at hu
          simp only [outsS, Option.some.injEq] at hu
          subst hu
          have htk := HLT.out.taken
          have hw4 := HLT.out.wait
          have hw5 := HLT.out.bytes
          by_cases ht0 : 0 ≤ sn.taken
          · rw [takenS, if_pos ht0] at htk
            have HTK : Hid (outS (G2 k) sn.taken = some (G (k + 1))) := htk
            have hok4 := HO3.out.out htk
            have HOK4 : Hid ((G (k + 1)).Ok (k + 1)) := hok4
            have o1 : decide ((G (k + 1)).wait < sn.len) = false := by rw [hw4]; simp
            have o2 : decide ((G (k + 1)).bytes < sn.bytes) = false := by rw [hw5]; simp
            have o3 : decide (sn.len < (G (k + 1)).wait) = false := by rw [hw4]; simp
            have o4 : decide (sn.bytes < (G (k + 1)).bytes) = false := by rw [hw5]; simp
            clear htk hok4 hw4 hw5
            go_wp2_with (go_at_call 36; refine (out_any sn.taken _ HL3.out HO3.out (by omega) HTK.out).mono ?_; rintro e w4 ⟨rfl, hls4, hb4, hsz4⟩)
            have hb5 := HB3.out.trans hb4
            obtain ⟨g0, g1, g2, g3, g4⟩ := HCS.out w4 hb5
            obtain ⟨r2, s2⟩ := one_cell hls4.vw
            obtain ⟨r3, s3⟩ := one_cell hls4.vb
            have HL4 : Hid (LSAt w4 w1.heap.size (G (k + 1)) zv3 sv3) := hls4
            have HB5 : Hid (Below w1.heap.size w1 w4) := hb5
            clear hls4 hb4 hb5 e0 e1 e2 e3 e4 p2 p3 q2 q3
            go_quiet (fail)
            go_wp2
            go_roundw
            case rel => exact ⟨k + 1, zv3, sv3, by omega, by go_num, HL4.out.drewN _, HOK4.out, below_drewN_ HB5.out _⟩
            case measure => simp [intOf]; omega
          · rw [takenS, if_neg ht0] at htk
            simp only [Option.some.injEq] at htk
            have HTK : Hid (G2 k = G (k + 1)) := htk
            have o1 : decide ((G2 k).wait < sn.len) = false := by rw [hw4, ← htk]; simp
            have o2 : decide ((G2 k).bytes < sn.bytes) = false := by rw [hw5, ← htk]; simp
            have o3 : decide (sn.len < (G2 k).wait) = false := by rw [hw4, ← htk]; simp
            have o4 : decide (sn.bytes < (G2 k).bytes) = false := by rw [hw5, ← htk]; simp
            have ht1 : decide (0 ≤ sn.taken) = false := by simpa using ht0
            clear htk hw4 hw5
            go_wp2
            go_quiet (fail)
            go_wp2
            go_roundw
            case rel => exact ⟨k + 1, zv3, sv3, by omega, by go_num, HTK.out ▸ HL3.out.drewN _, HTK.out ▸ HO3.out, below_drewN_ HB3.out _⟩
            case measure => simp [intOf]; omega
    · obtain rfl : k = q := by omega
      go_wp2
      go_ret
      exact ⟨rfl, HB1.out.trans (HBW.out.mono HB1.out.size)⟩
end Go.Proofs.YtpgdocmpbeabpaaDoor
