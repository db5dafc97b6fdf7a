/-
  HtbOwn: what lies in memory. Nothing of the program is claimed here by itself.
-/
import Derived.Test.YtpgdocmpbeabpaaDoorU38
import Derived.Test.YtpgdocmpbeabpaaDoorU40
import Derived.Test.YtpgdocmpbeabpaaDoorZta
import Derived.Test.YtpgdocmpbeabpaaDoorZtb
import Derived.Deep.OwnRows
namespace Go.Proofs.YtpgdocmpbeabpaaDoor
open Go.RowKit Go.Extern.Stop Go.Stop Go.Extern

theorem ptrTrG (b : Nat) (w : World) : (binOp .eql 24 (.pointer (some ⟨b, 0, none⟩)) (.pointer none)).run Tryd.prog w = .ok (.bool false) w := by kernel_rfl
theorem infoCls : (Tryd.prog.info? 48).map (fun i => (i.zero, i.size, i.bytes)) = some (some (.agg #[.int .i64 0, .int .i64 0, .int .i64 0, .int .i64 0, .int .i64 0, .int .i64 0, .int .i64 0, .int .i64 0]), 8, 64) := by kernel_rfl
theorem infoItR : (Tryd.prog.info? 35).map (fun i => (i.zero, i.size, i.bytes)) = some (some (.slice none 0 0), 1, 24) := by kernel_rfl
theorem infoItP : (Tryd.prog.info? 37).map (fun i => (i.zero, i.size, i.bytes)) = some (some (.agg #[.int .i64 0, .int .i64 0, .int .i64 0, .int .i64 0, .int .i64 0]), 5, 40) := by kernel_rfl
theorem infoBoR : (Tryd.prog.info? 49).map (fun i => (i.zero, i.size, i.bytes)) = some (some (.slice none 0 0), 1, 24) := by kernel_rfl
theorem infoIntR : (Tryd.prog.info? 3).map (fun i => (i.zero, i.size, i.bytes)) = some (some (.int .i64 0), 1, 8) := by kernel_rfl
theorem HCl.cs_one (c : HCl) : ∀ u ∈ c.cs, u.oneCell' = true := by
  intro u hu
  simp only [HCl.cs, List.mem_cons, List.not_mem_nil, or_false] at hu
  rcases hu with rfl | rfl | rfl | rfl | rfl | rfl | rfl | rfl <;> rfl
theorem seg_cls {W : World} {b : Nat} {n t R : Int} (h : W.heap[b]? = some (.cells #[.int .i64 (-1), .int .i64 n, .int .i64 t, .int .i64 0, .int .i64 1000000, .int .i64 1, .int .i64 1000000, .int .i64 0] 48 (0, 0))) : Seg W 48 8 (.slice (some ⟨b, 0, none⟩) 1 1) (0 + 1) (flt HCl.cs (ownL n t R 0)) :=
  ⟨rfl, Or.inr ⟨b, 0, 1, _, rfl, h, Nat.le_refl _, by decide, by simp, fun j u hj => by rw [Nat.zero_add, ← Array.getElem?_toList]; exact hj⟩⟩
theorem seg_argC {W : World} {v : Value} {L : List HCl} (h : Seg W 48 8 v L.length (flt HCl.cs L)) : ∃ x c, v = .slice x L.length c ∧ ArgAt HCl.cs W x L := by
  rcases h.form with ⟨rfl, h0, _⟩ | ⟨b, off, c, rfl, _, _, hb, hc⟩
  · exact ⟨none, 0, by rw [h0], Or.inl (List.eq_nil_of_length_eq_zero h0)⟩
  · exact ⟨_, c, rfl, Or.inr ⟨b, off, rfl, hb, hc⟩⟩
theorem flt_own (n t R : Int) (k : Nat) : flt HCl.cs (ownL n t R (k + 1)) = flt HCl.cs (ownL n t R k) ++ (leafC n t R).cs := by rw [ownL_succ]; simp [flt]
theorem ItemsAt.at {w : World} {px : Option Addr} {xs : List It} (h : ItemsAt w px xs) {i : Nat} {x : It} (hx : xs[i]? = some x) : ∃ b off, px = some ⟨b, off, none⟩ ∧ w.cell? ⟨b, off + i * 5, none⟩ = some (.int .i64 x.a) ∧ w.cell? ⟨b, off + i * 5 + 1, none⟩ = some (.int .i64 x.l) ∧ w.cell? ⟨b, off + i * 5 + 2, none⟩ = some (.int .i64 x.f) ∧ w.cell? ⟨b, off + i * 5 + 3, none⟩ = some (.int .i64 x.b) ∧ w.cell? ⟨b, off + i * 5 + 4, none⟩ = some (.int .i64 x.m) := by
  rcases h with rfl | ⟨b, off, rfl, h⟩
  · cases hx
  · exact ⟨b, off, rfl, h i x hx⟩
theorem ok_it {x : It} (h : x.ok = true) : (0 ≤ x.a ∧ x.a ≤ 1000000000) ∧ (1 ≤ x.l ∧ x.l ≤ 10000) ∧ 0 ≤ x.f ∧ x.f ≤ 15 := by
  simp only [It.ok, Bool.and_eq_true, wth_iff] at h
  omega
theorem go_nextE {wx W w9 : World} {g N : Nat} {vs : Nat → Value} {A A' : Nat → List It} {z : It} {base m b off cap : Nat} {v : Value} (h : GoAt wx g N vs (gE N A) base) (hb : Below wx.heap.size wx W) (hm : m < N) (hv : vs m = v)
    (hs : Seg w9 37 5 (.slice (some ⟨b, off, none⟩) ((A m).length + 1) cap) ((A m).length + 1) (flt It.cl (A m) ++ z.cl)) (hg : W.grownBy w9 v.ownBlock) (ha : v.ownBlock = some b ∨ W.heap.size ≤ b) (hbs : base ≤ wx.heap.size) (hA : updF A m (A m ++ [z]) = A') :
    GoAt (w9.setCell ⟨g, m, none⟩ (.slice (some ⟨b, off, none⟩) ((A m).length + 1) cap)) g N (updF vs m (.slice (some ⟨b, off, none⟩) ((A m).length + 1) cap)) (gE N A') base := by
  subst hv
  have e := gE_at (A := A) hm
  have h1 := (h.below hb).grow (c := m) (Nat.le_of_lt hm) (y := z) (b := b) (off := off) (cap := cap) (w' := w9) (w2 := w9.setCell ⟨g, m, none⟩ (.slice (some ⟨b, off, none⟩) ((A m).length + 1) cap)) (by rw [e]; exact hs) hg ha (by have := hb.size; omega) (Or.inl ⟨hm, by rw [e]⟩)
  rw [e] at h1
  rw [gE_next hm hA] at h1
  exact h1
theorem wide_at {w W : World} (h : Below (w.alloc (.cells #[.int .i64 1000000, .int .i64 1, .int .i64 1000000] 46)).heap.size (w.alloc (.cells #[.int .i64 1000000, .int .i64 1, .int .i64 1000000] 46)) W) : (W.cell? ⟨w.heap.size, 0, none⟩ = some (.int .i64 1000000) ∧ W.cell? ⟨w.heap.size, 1, none⟩ = some (.int .i64 1) ∧ W.cell? ⟨w.heap.size, 2, none⟩ = some (.int .i64 1000000)) ∧ w.heap.size < W.heap.size := by
  have hs : (w.alloc (.cells #[.int .i64 1000000, .int .i64 1, .int .i64 1000000] 46)).heap.size = w.heap.size + 1 := by simp
  have h1 : W.heap[w.heap.size]? = some (.cells #[.int .i64 1000000, .int .i64 1, .int .i64 1000000] 46 (0, 0)) := (h.block _ (by omega)).trans (new_block _ _)
  have hl := h.size
  refine ⟨⟨?_, ?_, ?_⟩, by omega⟩
  all_goals simp [World.cell?, h1]
theorem make_itR (n : Nat) (h : n ≤ 1000) (w : World) : (Instr.makeSlice 34 (.int .i64 (n : Int)) (.int .i64 (n : Int))).run Tryd.prog w = .ok (.slice (some ⟨w.heap.size, 0, none⟩) n n) (w.alloc (.cells (madeCells #[.slice none 0 0] n) 35)) :=
  run_make_row' (P := Tryd.prog) 34 35 (.slice none 0 0) 24 Tryd.underlying34 infoItR rfl .i64 .i64 n (by omega) (by omega) w
theorem make_boR (n : Nat) (h : n ≤ 1000) (w : World) : (Instr.makeSlice 56 (.int .i64 (n : Int)) (.int .i64 (n : Int))).run Tryd.prog w = .ok (.slice (some ⟨w.heap.size, 0, none⟩) n n) (w.alloc (.cells (madeCells #[.slice none 0 0] n) 49)) :=
  run_make_row' (P := Tryd.prog) 56 49 (.slice none 0 0) 24 Tryd.underlying56 infoBoR rfl .i64 .i64 n (by omega) (by omega) w
theorem make_inR (n : Nat) (h : n ≤ 1000) (w : World) : (Instr.makeSlice 40 (.int .i64 (n : Int)) (.int .i64 (n : Int))).run Tryd.prog w = .ok (.slice (some ⟨w.heap.size, 0, none⟩) n n) (w.alloc (.cells (madeCells #[.int .i64 0] n) 3)) :=
  run_make_row' (P := Tryd.prog) 40 3 (.int .i64 0) 8 Tryd.underlying40 infoIntR rfl .i64 .i64 n (by omega) (by omega) w
theorem blk_made (w : World) (n : Nat) (z : Value) (T : TypeId) : Blk (w.alloc (.cells (madeCells #[z] n) T)) w.heap.size n T (fun _ => z) := by
  refine ⟨_, new_block _ _, ?_, fun i hi => ?_⟩
  · have := congrArg List.length (toList_madeCells_one z n)
    simpa using this
  · rw [← Array.getElem?_toList, toList_madeCells_one, List.getElem?_replicate, if_pos hi]
/-- What Conform told of each leaf's packets. -/
def mayC (B : Nat → Nat) (W : Nat → List It) (k c : Nat) : Value := if c < k then .slice (some ⟨B c, 0, none⟩) (W c).length (W c).length else .slice none 0 0
structure MayAt (w : World) (g M : Nat) (B : Nat → Nat) (W : Nat → List It) (n t R : Int) (k S : Nat) : Prop where
  blk : Blk w g M 49 (mayC B W k)
  lo : g < S
  row : ∀ c, c < k → S ≤ B c ∧ RowB w (B c) (W c).length (bok n t R (W c))
theorem MayAt.start (w : World) (M : Nat) (W : Nat → List It) (n t R : Int) : MayAt (w.alloc (.cells (madeCells #[.slice none 0 0] M) 49)) w.heap.size M (fun _ => 0) W n t R 0 (w.heap.size + 1) :=
  ⟨(blk_made w M _ _).cong fun i _ => if_neg (Nat.not_lt_zero i), Nat.lt_succ_self _, fun c hc => absurd hc (Nat.not_lt_zero c)⟩
theorem cell_set {w : World} {a p : Addr} (hne : p.block ≠ a.block) (u : Value) : (w.setCell a u).cell? p = w.cell? p := World.cell?_of_block (w := w) (Below.heap_setCell _ _ _ _ hne)
theorem RowB.set {w : World} {b n : Nat} {r : Nat → Bool} (h : RowB w b n r) {a : Addr} (hne : b ≠ a.block) (u : Value) : RowB (w.setCell a u) b n r := fun j hj => (World.cell?_of_block (w := w) (Below.heap_setCell _ _ _ _ hne)).trans (h j hj)
theorem MayAt.next {w w8 : World} {g M : Nat} {B : Nat → Nat} {W : Nat → List It} {n t R : Int} {k S cg : Nat} (h : MayAt w g M B W n t R k S) (hb : Below w.heap.size w w8) (hS : S ≤ w.heap.size) (hcg : w.heap.size ≤ cg) (hr : RowB w8 cg (W k).length (bok n t R (W k))) :
    MayAt (w8.setCell ⟨g, k, none⟩ (.slice (some ⟨cg, 0, none⟩) (W k).length (W k).length)) g M (updF B k cg) W n t R (k + 1) S := by
  have hl := h.lo
  refine ⟨((h.blk.kept (hb.block g h.blk.lt)).set k _).cong fun i hi => ?_, hl, fun c hc => ?_⟩
  · unfold updC mayC
    by_cases e : i = k
    · subst e
      rw [if_pos (Nat.lt_succ_self _), if_pos rfl, updF_same]
    · rw [if_neg e]
      by_cases h2 : i < k
      · rw [if_pos (by omega), if_pos h2, updF_ne e]
      · rw [if_neg (by omega), if_neg h2]
  · by_cases e : c = k
    · subst e
      rw [updF_same]
      exact ⟨by omega, hr.set (by show cg ≠ g; omega) _⟩
    · rw [updF_ne e]
      obtain ⟨h1, h2⟩ := h.row c (by omega)
      exact ⟨h1, RowB.set (h2.kept (S := fun _ => False) (Oth.of_below hb) id) (by show B c ≠ g; omega) _⟩
theorem MayAt.drew {w : World} {g M : Nat} {B : Nat → Nat} {W : Nat → List It} {n t R : Int} {k S : Nat} (h : MayAt w g M B W n t R k S) : MayAt w.drew g M B W n t R k S :=
  ⟨h.blk.kept rfl, h.lo, fun c hc => ⟨(h.row c hc).1, (h.row c hc).2.kept (S := fun _ => False) ((Oth.refl _ _).drew) id⟩⟩
/-- What lies in memory while packets are tried, but for the tree. -/
structure LwF (w w10 w12 wr : World) (M : Nat) (xs : List It) (i : Nat) : Prop where
  bel : Below w.heap.size w wr
  sz : w12.heap.size + 1 ≤ wr.heap.size
  kp : ∀ z, w10.heap.size ≤ z → z < w12.heap.size → wr.heap[z]? = w12.heap[z]?
  at' : Blk wr w12.heap.size M 3 (fun c => .int .i64 (ofC M xs i c))
theorem LwF.start {w w10 w12 : World} {M : Nat} {xs : List It} (hb : Below w.heap.size w w12) : LwF w w10 w12 (w12.alloc (.cells (madeCells #[.int .i64 0] M) 3)) M xs 0 :=
  ⟨hb.alloc hb.size _, by simp, fun z _ hz => Below.heap_alloc _ _ _ hz, (blk_made w12 M _ _).cong fun i _ => rfl⟩
theorem LwF.below {w w10 w12 wr W : World} {M : Nat} {xs : List It} {i : Nat} (h : LwF w w10 w12 wr M xs i) (hb : Below wr.heap.size wr W) : LwF w w10 w12 W M xs i :=
  ⟨h.bel.trans (hb.mono h.bel.size), Nat.le_trans h.sz hb.size, fun z h1 h2 => (hb.block z (by have := h.sz; omega)).trans (h.kp z h1 h2), h.at'.kept (hb.block _ h.at'.lt)⟩
theorem LwF.ot {w w10 w12 wr W : World} {M : Nat} {xs : List It} {i : Nat} {F : Nat → Prop} (h : LwF w w10 w12 wr M xs i) (ho : Ot F wr W) (hF : ∀ z, F z → w.heap.size ≤ z ∧ (z < w10.heap.size ∨ w12.heap.size + 1 ≤ z)) (h10 : w10.heap.size ≤ w12.heap.size) : LwF w w10 w12 W M xs i :=
  ⟨h.bel.trans (ho.below h.bel.size fun z hz => (hF z hz).1), Nat.le_trans h.sz ho.size, fun z h1 h2 => (ho.block z (by have := h.sz; omega) (fun e => by have := (hF z e).2; omega)).trans (h.kp z h1 h2), h.at'.kept (ho.block _ h.at'.lt (fun e => by have := (hF _ e).2; omega))⟩
theorem LwF.step {w w10 w12 wr : World} {M : Nat} {xs : List It} {i : Nat} (h : LwF w w10 w12 wr M xs i) {x : It} (hx : xs[i]? = some x) {f k : Nat} (hf : x.f % (M : Int) = (f : Int)) (hk : ofC M xs i f = k) (hw : w.heap.size ≤ w12.heap.size) : LwF w w10 w12 (wr.setCell ⟨w12.heap.size, f, none⟩ (.int .i64 ((k : Int) + 1))) M xs (i + 1) := by
  refine ⟨h.bel.setCell hw _, by simp; exact h.sz, fun z h1 h2 => (Below.heap_setCell _ _ _ _ (by show z ≠ w12.heap.size; omega)).trans (h.kp z h1 h2), (h.at'.set f _).cong fun c hc => ?_⟩
  rw [ofC_succ hx hf, hk]
  unfold updC updF
  by_cases e : c = f
  · rw [if_pos e, if_pos e]; rfl
  · rw [if_neg e, if_neg e]
theorem LwF.may {w w10 w12 wr : World} {M : Nat} {xs : List It} {i : Nat} (h : LwF w w10 w12 wr M xs i) {B : Nat → Nat} {W : Nat → List It} {n t R : Int} (hm : MayAt w12 w10.heap.size M B W n t R M (w10.heap.size + 1)) {f k : Nat} (hf : f < M) {x : It} (hk : (W f)[k]? = some x) :
    wr.cell? ⟨w10.heap.size, f, none⟩ = some (.slice (some ⟨B f, 0, none⟩) (W f).length (W f).length) ∧ wr.cell? ⟨B f, k, none⟩ = some (.bool (bok n t R (W f) k)) := by
  have h1 := (hm.blk.cell (i := f) hf).1
  have e : mayC B W M f = .slice (some ⟨B f, 0, none⟩) (W f).length (W f).length := if_pos hf
  rw [e] at h1
  obtain ⟨h2, h3⟩ := hm.row f hf
  have h4 := h3 k (List.getElem?_eq_some_iff.1 hk).1
  have h5 := lt_of_cell h4
  have h6 := lt_of_cell h1
  refine ⟨(World.cell?_of_block (w := w12) (h.kp _ (Nat.le_refl _) h6)).trans h1, (World.cell?_of_block (w := w12) (h.kp _ (by show w10.heap.size ≤ B f; omega) h5)).trans h4⟩
/-- The tree while packets are tried. -/
def LwT (K : HtK) (n t R : Int) (M : Nat) (xs : List It) (w w10 w12 wr : World) (i : Nat) : Prop := ∃ s vs ow T, HtAt K wr s vs ow ∧ (∀ z, HtF K vs z → w.heap.size ≤ z ∧ (z < w10.heap.size ∨ w12.heap.size + 1 ≤ z)) ∧ OI K n t R M T i (ofD M xs xs.length) (ofC M xs i) s ∧ ∀ x, xs[i]? = some x → T ≤ x.a
theorem LwT.below {K : HtK} {n t R : Int} {M : Nat} {xs : List It} {w w10 w12 wr W : World} {i : Nat} (h : LwT K n t R M xs w w10 w12 wr i) (hb : Below wr.heap.size wr W) : LwT K n t R M xs w w10 w12 W i := by
  obtain ⟨s, vs, ow, T, h1, h2, h3⟩ := h
  exact ⟨s, vs, ow, T, h1.below hb, h2, h3⟩
theorem LwT.skip {K : HtK} {n t R : Int} {M : Nat} {xs : List It} {w w10 w12 wr : World} {i : Nat} (h : LwT K n t R M xs w w10 w12 wr i) (hK : OwK K n t R M) (hl : okL xs) {x : It} (hx : xs[i]? = some x) {f k : Nat} (hf : x.f % (M : Int) = (f : Int)) (hk : ofC M xs i f = k) (hb : bok n t R (ofD M xs xs.length f) k = false) (h10 : w10.heap.size ≤ w12.heap.size) {u : Value} : LwT K n t R M xs w w10 w12 (wr.setCell ⟨w12.heap.size, f, none⟩ u) (i + 1) := by
  obtain ⟨s, vs, ow, T, h1, h2, h3, h4⟩ := h
  have hi := (List.getElem?_eq_some_iff.1 hx).1
  refine ⟨s, vs, ow, x.a, h1.kept fun z hz => Below.heap_setCell _ _ _ _ (fun e => by have := (h2 z hz).2; have e2 : z = w12.heap.size := e; omega), h2, ?_, fun y hy => (hl.fine.1 i x hx).2 y hy⟩
  rw [ofC_succ hx hf]
  have e : (ofD M xs i f).length = ofC M xs i f := rfl
  exact h3.skip hK (by rw [← e]; exact ofD_at hx hi hf) (by rw [hk]; exact hb) (h4 x hx)
/-- The tree ahead of a packet that is put in. -/
def LwU (K : HtK) (n t R : Int) (M : Nat) (xs : List It) (w w10 w12 wr : World) (i : Nat) : Prop := ∃ s vs ow T, HtAt K wr s vs ow ∧ (∀ z, HtF K vs z → w.heap.size ≤ z ∧ (z < w10.heap.size ∨ w12.heap.size + 1 ≤ z)) ∧ OI K n t R M T i (ofD M xs xs.length) (ofC M xs i) s ∧ ∀ x, xs[i]? = some x → T ≤ x.a
theorem LwU.below {K : HtK} {n t R : Int} {M : Nat} {xs : List It} {w w10 w12 wr W : World} {i : Nat} (h : LwU K n t R M xs w w10 w12 wr i) (hb : Below wr.heap.size wr W) : LwU K n t R M xs w w10 w12 W i := by
  obtain ⟨s, vs, ow, T, h1, h2, h3⟩ := h
  exact ⟨s, vs, ow, T, h1.below hb, h2, h3⟩
theorem LwT.set {K : HtK} {n t R : Int} {M : Nat} {xs : List It} {w w10 w12 wr : World} {i : Nat} (h : LwT K n t R M xs w w10 w12 wr i) (h10 : w10.heap.size ≤ w12.heap.size) {f : Nat} {u : Value} : LwU K n t R M xs w w10 w12 (wr.setCell ⟨w12.heap.size, f, none⟩ u) i := by
  obtain ⟨s, vs, ow, T, h1, h2, h3, h4⟩ := h
  exact ⟨s, vs, ow, T, h1.kept fun z hz => Below.heap_setCell _ _ _ _ (fun e => by have := (h2 z hz).2; have e2 : z = w12.heap.size := e; omega), h2, h3, h4⟩
theorem LwT.start {K : HtK} {n t R : Int} {M : Nat} {xs : List It} {w w6 w10 w12 wr : World} (hK : OwK K n t R M) (hl : okL xs) (ht : ∃ vs ow, HtAt K w6 ⟨nd0 K, 0, 0⟩ vs ow ∧ ∀ k, HtF K vs k → w.heap.size ≤ k) (hI : HtI K 0 0 ⟨nd0 K, 0, 0⟩) (h10 : Below w6.heap.size w6 w10) (hr : Below w6.heap.size w6 wr) : LwT K n t R M xs w w10 w12 wr 0 := by
  obtain ⟨vs, ow, h1, h2⟩ := ht
  have e : ofC M xs 0 = fun _ => 0 := funext fun _ => rfl
  refine ⟨_, vs, ow, 0, h1.below hr, fun z hz => ⟨h2 z hz, Or.inl (by have := h1.low z hz; have := h10.size; omega)⟩, by rw [e]; exact OI.start hK _ hI, fun x hx => (hl.fine.1 0 x hx).1.1⟩
theorem go_made (w : World) (n : Nat) (A : Nat → List It) (hA : ∀ c, A c = []) : GoAt (w.alloc (.cells (madeCells #[.slice none 0 0] n) 35)) w.heap.size n (fun _ => .slice none 0 0) (gE n A) w.heap.size := by
  have e : gE n A = fun _ => [] := by
    funext c
    unfold gE
    rw [hA]
    split <;> rfl
  rw [e]
  exact ⟨blk_made w n _ _, Nat.le_refl _, fun c _ => Seg.nil _ _ _, fun c _ k hk => (by cases hk), fun c d _ _ _ k hk => (by cases hk)⟩
end Go.Proofs.YtpgdocmpbeabpaaDoor
