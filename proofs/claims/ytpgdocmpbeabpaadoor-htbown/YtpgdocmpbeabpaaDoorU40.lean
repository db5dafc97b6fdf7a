/-
  HtbCeils: rows of packets, one more in each row of a way. Nothing of the program is claimed here by itself.
  Rows of bools in memory. Nothing is claimed here by itself.
-/
import Derived.Test.YtpgdocmpbeabpaaDoorU39
import Derived.Test.YtpgdocmpbeabpaaDoorU38
import Derived.Test.YtpgdocmpbeabpaaDoorBk1
namespace Go.Proofs.YtpgdocmpbeabpaaDoor
open Go.RowKit Go.Extern.Stop Go.Stop Go.Extern

/-- N rows, those of D with one more; row N is P. -/
def gW (N : Nat) (B : Nat → List It) (P : List It) (z : It) (D : List Nat) (c : Nat) : List It := if c < N then (if c ∈ D then B c ++ [z] else B c) else P
theorem gW_none (N : Nat) (B : Nat → List It) (P : List It) (z : It) : gW N B P z [] = fun c => if c < N then B c else P := by
  funext c
  unfold gW
  rw [if_neg (by simp : ¬ c ∈ ([] : List Nat))]
theorem gW_last (N : Nat) (B : Nat → List It) (P : List It) (z : It) (D : List Nat) : gW N B P z D N = P := if_neg (Nat.lt_irrefl _)
theorem gW_at {N : Nat} {B : Nat → List It} {P : List It} {z : It} {D : List Nat} {m : Nat} (hm : m < N) (hD : m ∉ D) : gW N B P z D m = B m := by
  unfold gW
  rw [if_pos hm, if_neg hD]
theorem gW_next {N : Nat} {B : Nat → List It} {P : List It} {z : It} {D : List Nat} {m : Nat} (hm : m < N) (hD : m ∉ D) : updF (gW N B P z D) m (B m ++ [z]) = gW N B P z (D ++ [m]) := by
  funext c
  by_cases e : c = m
  · subst e
    rw [updF_same]
    unfold gW
    rw [if_pos hm, if_pos (by simp)]
  · rw [updF_ne e]
    unfold gW
    have : c ∈ D ++ [m] ↔ c ∈ D := by simp [e]
    simp only [this]
theorem gW_all {K : HtK} {N : Nat} {B : Nat → List It} {P : List It} {now : Int} {y : It} {D : List Nat} (h : hL K (some y.f.toNat) = D ++ []) : gW N B P ⟨now, y.l, 0, 0, 0⟩ D = fun c => if c < N then gonK K B now y c else P := by
  funext c
  unfold gW gonK
  rw [h, List.append_nil]
theorem gonD_len (K : HtK) (ts : List Stp) (ss : List Sn) (i c : Nat) : (gonD K ts ss i c).length ≤ i := by
  induction i with
  | zero => simp [gonD]
  | succ i ih =>
    cases h1 : ts[i]? with
    | none => simp only [gonD, h1]; omega
    | some t =>
      cases h2 : ss[i]? with
      | none => simp only [gonD, h1, h2]; omega
      | some sn =>
        rw [gonD_succ h1 h2]
        split
        · unfold gonK
          split
          · simp; omega
          · omega
        · omega
theorem nodup_mid {D E : List Nat} {m : Nat} (h : (D ++ m :: E).Nodup) : m ∉ D := by
  intro hm
  rw [List.nodup_append] at h
  exact h.2.2 m hm m (by simp) rfl
theorem go_cells {w : World} {g N : Nat} {vs : Nat → Value} {G : Nat → List It} {base : Nat} (h : GoAt w g N vs G base) {P : List It} (hG : G N = P) {b off n cap : Nat} (hv : vs N = .slice (some ⟨b, off, none⟩) n cap) {k : Nat} {y : It} (hk : P[k]? = some y) :
    n = P.length ∧ (k : Int) < (P.length : Int) ∧ b < w.heap.size ∧ w.cell? ⟨b, off + k * 5 + 1, none⟩ = some (.int .i64 y.l) ∧ w.cell? ⟨b, off + k * 5 + 2, none⟩ = some (.int .i64 y.f) := by
  have r := h.row N (Nat.le_refl _)
  rw [hv, hG] at r
  have hlt := r.lt rfl
  obtain ⟨hi, hn⟩ := seg_itemsC r
  have hkn := (List.getElem?_eq_some_iff.1 hk).1
  rcases hi with e | ⟨b', off', e, hc⟩
  · rw [e] at hk
    cases hk
  · cases e
    have h5 := hc k y hk
    exact ⟨hn, by omega, hlt, h5.2.1, h5.2.2.1⟩
theorem go_some {w : World} {g N : Nat} {vs : Nat → Value} {G : Nat → List It} {base : Nat} (h : GoAt w g N vs G base) {P : List It} (hG : G N = P) {k : Nat} {y : It} (hk : P[k]? = some y) : ∃ b off cap, vs N = .slice (some ⟨b, off, none⟩) P.length cap := by
  have r := h.row N (Nat.le_refl _)
  rw [hG] at r
  have hkn := (List.getElem?_eq_some_iff.1 hk).1
  rcases r.form with ⟨_, h0, _⟩ | ⟨b, off, cap, h1, _⟩
  · omega
  · exact ⟨b, off, cap, h1⟩
theorem go_mid {wx W w9 : World} {g N : Nat} {vs : Nat → Value} {G : Nat → List It} {base m : Nat} {v : Value} (h : GoAt wx g N vs G base) (hb : Below wx.heap.size wx W) (hm : m ≤ N) (hv : vs m = v) (hg : W.grownBy w9 v.ownBlock) : Blk w9 g N 35 vs := by
  subst hv
  have hl := h.blk.lt
  exact h.blk.kept ((hg.block g (by have := hb.size; omega) (fun e => h.gNe hm e.symm rfl)).trans (hb.block g hl))
theorem go_next {wx W w9 : World} {g N : Nat} {vs : Nat → Value} {B : Nat → List It} {P : List It} {z : It} {D : List Nat} {base m b off cap : Nat} {v : Value} (h : GoAt wx g N vs (gW N B P z D) base) (hb : Below wx.heap.size wx W) (hm : m < N) (hD : m ∉ D) (hv : vs m = v)
    (hs : Seg w9 37 5 (.slice (some ⟨b, off, none⟩) ((B m).length + 1) cap) ((B m).length + 1) (flt It.cl (B m) ++ z.cl)) (hg : W.grownBy w9 v.ownBlock) (ha : v.ownBlock = some b ∨ W.heap.size ≤ b) (hbs : base ≤ wx.heap.size) :
    GoAt (w9.setCell ⟨g, m, none⟩ (.slice (some ⟨b, off, none⟩) ((B m).length + 1) cap)) g N (updF vs m (.slice (some ⟨b, off, none⟩) ((B m).length + 1) cap)) (gW N B P z (D ++ [m])) base := by
  subst hv
  have e := gW_at (P := P) (B := B) (z := z) hm hD
  have h1 := (h.below hb).grow (c := m) (Nat.le_of_lt hm) (y := z) (b := b) (off := off) (cap := cap) (w' := w9) (w2 := w9.setCell ⟨g, m, none⟩ (.slice (some ⟨b, off, none⟩) ((B m).length + 1) cap)) (by rw [e]; exact hs) hg ha (by have := hb.size; omega) (Or.inl ⟨hm, by rw [e]⟩)
  rw [e] at h1
  rw [gW_next hm hD] at h1
  exact h1
theorem go_lows {wx W w9 w6 : World} {g N : Nat} {vs : Nat → Value} {G : Nat → List It} {m : Nat} {v u : Value} (h : GoAt wx g N vs G w6.heap.size) (h6 : Below w6.heap.size w6 wx) (hb : Below wx.heap.size wx W) (hm : m ≤ N) (hv : vs m = v) (hg : W.grownBy w9 v.ownBlock) : Below w6.heap.size w6 (w9.setCell ⟨g, m, none⟩ u) := by
  subst hv
  have h1 : Below w6.heap.size w6 W := h6.trans (hb.mono h6.size)
  exact (h1.grown hg h1.size (fun k hk => h.lr m hm k hk)).setCell h.lo _
theorem hUp_or {K : HtK} (h : HtKOk K) {m N : Nat} (hm : m < K.N) (hN : K.N = N) : (hUp K m = none ∧ (K.cls m).par < 0) ∨ ∃ j : Nat, hUp K m = some j ∧ j < N ∧ (K.cls m).par = (j : Int) := by
  have hp := h.par m hm
  unfold hUp
  by_cases e : (K.cls m).par < 0
  · exact Or.inl ⟨if_pos e, e⟩
  · exact Or.inr ⟨(K.cls m).par.toNat, if_neg e, by omega, by omega⟩
end Go.Proofs.YtpgdocmpbeabpaaDoor
namespace Go.Proofs.YtpgdocmpbeabpaaDoor
open Go.RowKit Go.Extern.Stop Go.Stop Go.Extern

theorem infoB : (Tryd.prog.info? 4).map (fun i => (i.zero, i.size, i.bytes)) = some (some (.bool false), 1, 1) := by kernel_rfl

/-- What each returned, up to k. -/
def toldB (r : Nat → Bool) (k : Nat) : List Value := (List.range k).map fun j => .bool (r j)
theorem toldB_succ (r : Nat → Bool) (k : Nat) : toldB r (k + 1) = toldB r k ++ [.bool (r k)] := by simp [toldB, List.range_succ]
theorem toldB_at (r : Nat → Bool) (k j : Nat) (h : j < k) : (toldB r k)[j]? = some (.bool (r j)) := by simp [toldB, h]

/-- A row of bools in memory. -/
def RowB (w : World) (g : Nat) (n : Nat) (r : Nat → Bool) : Prop := ∀ j, j < n → w.cell? ⟨g, j, none⟩ = some (.bool (r j))
theorem RowB.kept {w w' : World} {g n : Nat} {r : Nat → Bool} {S : Nat → Prop} (h : RowB w g n r) (ho : Oth S w w') (hs : ¬ S g) : RowB w' g n r := fun j hj => by
  rw [ho.cell (p := ⟨g, j, none⟩) (lt_of_cell (h j hj)) hs]; exact h j hj
theorem rowB_of_owns {w : World} {B g n cap : Nat} {r : Nat → Bool} (h : w.ownsRow B 4 1 (.slice (some ⟨g, 0, none⟩) n cap) n (toldB r n)) : RowB w g n r := by
  intro j hj
  rcases h.2 with ⟨hc, _⟩ | ⟨g', cap', cur, hv, hg, hh, hn, _, hs, ht⟩
  · simp at hc
  · simp only [Value.slice.injEq, Option.some.injEq, Addr.mk.injEq, and_true, true_and] at hv
    obtain ⟨rfl, rfl⟩ := hv
    have hsz : j < cur.size := by omega
    have h1 : cur.toList[j]? = some (.bool (r j)) := by
      have := toldB_at r n j hj
      rw [← ht, List.getElem?_take, if_pos (by omega)] at this
      exact this
    simp only [World.cell?, hh]
    simpa using h1
end Go.Proofs.YtpgdocmpbeabpaaDoor
