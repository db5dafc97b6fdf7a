/-
  Packets of the call's own, one behind the other in a row: read, moved and cut. Nothing of the program is claimed here by itself.
-/
import Derived.Test.YtkagmddckglkdaaDoorBk3
namespace Go.Proofs.YtkagmddckglkdaaDoor
open Go.RowKit Go.Extern.Stop Go.Stop Go.Extern

/-- The cells of packets. -/
def flat : List It → List Value
  | [] => []
  | x :: xs => .int .i64 x.a :: .int .i64 x.l :: .int .i64 x.f :: .int .i64 x.b :: .int .i64 x.m :: flat xs
theorem flat_length (xs : List It) : (flat xs).length = xs.length * 5 := by
  induction xs with
  | nil => rfl
  | cons x xs ih => simp [flat, ih]; omega
theorem flat_at : ∀ (xs : List It) (i : Nat) (x : It), xs[i]? = some x → (flat xs)[i * 5]? = some (.int .i64 x.a) ∧ (flat xs)[i * 5 + 1]? = some (.int .i64 x.l) ∧ (flat xs)[i * 5 + 2]? = some (.int .i64 x.f) ∧ (flat xs)[i * 5 + 3]? = some (.int .i64 x.b) ∧ (flat xs)[i * 5 + 4]? = some (.int .i64 x.m) := by
  intro xs
  induction xs with
  | nil => intro i x h; simp at h
  | cons y ys ih =>
    intro i x h
    cases i with
    | zero => simp at h; subst h; simp [flat]
    | succ i =>
      have := ih i x (by simpa using h)
      simp only [flat, show (i + 1) * 5 = i * 5 + 1 + 1 + 1 + 1 + 1 by omega]
      simpa [List.getElem?_cons_succ, Nat.add_assoc] using this
theorem flat_one (xs : List It) : ∀ u ∈ flat xs, u.oneCell' = true := by
  induction xs with
  | nil => intro u h; simp [flat] at h
  | cons x xs ih =>
    intro u h
    simp only [flat, List.mem_cons] at h
    rcases h with rfl | rfl | rfl | rfl | rfl | h
    all_goals first | rfl | exact ih u h
/-- What lies in memory as packets lies there cell by cell. -/
theorem flat_cells {w : World} {b : Nat} : ∀ (xs : List It) (off : Nat), Items w b off xs → ∀ (j : Nat) (u : Value), (flat xs)[j]? = some u → w.cell? ⟨b, off + j, none⟩ = some u := by
  intro xs
  induction xs with
  | nil => intro off _ j u h; simp [flat] at h
  | cons y ys ih =>
    intro off hI j u h
    obtain ⟨h0, h1, h2, h3, h4⟩ := hI 0 y (by simp)
    simp only [Nat.zero_mul, Nat.add_zero] at h0 h1 h2 h3 h4
    have hT : Items w b (off + 5) ys := by
      intro i x hx
      have := hI (i + 1) x (by simpa using hx)
      simpa only [show off + (i + 1) * 5 = off + 5 + i * 5 by omega] using this
    match j, h with
    | 0, h => simp [flat] at h; subst h; exact h0
    | 1, h => simp [flat] at h; subst h; exact h1
    | 2, h => simp [flat] at h; subst h; exact h2
    | 3, h => simp [flat] at h; subst h; exact h3
    | 4, h => simp [flat] at h; subst h; exact h4
    | j + 5, h =>
      have := ih (off + 5) hT j u (by simpa [flat] using h)
      simpa only [show off + (j + 5) = off + 5 + j by omega] using this
theorem flat_add {w : World} {b off : Nat} {xs : List It} (h : Items w b off xs) : ∀ (j : Nat) (u : Value), (flat xs)[j]? = some u → w.cell? ((⟨b, off, none⟩ : Addr).add j) = some u := by
  intro j u hj
  have := flat_cells xs off h j u hj
  by_cases h0 : j = 0
  · subst h0; simpa [Addr.add] using this
  · simpa [Addr.add, h0] using this
/-- An owned row of packets. -/
def OwnIt (w : World) (base g cap : Nat) (xs : List It) : Prop := w.ownsRow base 43 5 (.slice (some ⟨g, 0, none⟩) xs.length cap) xs.length (flat xs)
theorem OwnIt.parts {w : World} {base g cap : Nat} {xs : List It} (h : OwnIt w base g cap xs) : ∃ cur : Array Value, base ≤ g ∧ w.heap[g]? = some (.cells cur 43 (0, 0)) ∧ xs.length ≤ cap ∧ cap ≤ maxLen ∧ cur.size = cap * 5 ∧ cur.toList.take (xs.length * 5) = flat xs := by
  rcases h.2 with ⟨hc, _⟩ | ⟨g', cap', cur, hv, hg, hh, hn, hx, hs, ht⟩
  · simp at hc
  · simp only [Value.slice.injEq, Option.some.injEq, Addr.mk.injEq, and_true, true_and] at hv
    obtain ⟨rfl, rfl⟩ := hv
    exact ⟨cur, hg, hh, hn, hx, hs, ht⟩
theorem OwnIt.lt {w : World} {base g cap : Nat} {xs : List It} (h : OwnIt w base g cap xs) : g < w.heap.size := by
  obtain ⟨cur, _, hh, _⟩ := h.parts
  exact lt_of_block hh
theorem OwnIt.kept {w w' : World} {base g cap : Nat} {xs : List It} (h : OwnIt w base g cap xs) (hb : w'.heap[g]? = w.heap[g]?) : OwnIt w' base g cap xs := by
  obtain ⟨cur, h1, h2, h3, h4, h5, h6⟩ := h.parts
  exact ⟨flat_length _, Or.inr ⟨g, cap, cur, rfl, h1, hb.trans h2, h3, h4, h5, h6⟩⟩
theorem OwnIt.items {w : World} {base g cap : Nat} {xs : List It} (h : OwnIt w base g cap xs) : Items w g 0 xs := by
  obtain ⟨cur, h1, h2, h3, h4, h5, h6⟩ := h.parts
  have hc : ∀ j u, (flat xs)[j]? = some u → w.cell? ⟨g, j, none⟩ = some u := by
    intro j u hj
    have hlt := (List.getElem?_eq_some_iff.1 hj).1
    rw [flat_length] at hlt
    rw [← h6, List.getElem?_take, if_pos hlt] at hj
    simp only [World.cell?, h2]
    simpa using hj
  intro i x hx
  obtain ⟨a0, a1, a2, a3, a4⟩ := flat_at xs i x hx
  exact ⟨by rw [Nat.zero_add]; exact hc _ _ a0, by rw [Nat.zero_add]; exact hc _ _ a1, by rw [Nat.zero_add]; exact hc _ _ a2, by rw [Nat.zero_add]; exact hc _ _ a3, by rw [Nat.zero_add]; exact hc _ _ a4⟩
theorem OwnIt.free {w : World} {base g cap : Nat} {xs : List It} (h : OwnIt w base g cap xs) (j : Nat) : w.frozen? ⟨g, j, none⟩ = false := by
  obtain ⟨cur, h1, h2, _⟩ := h.parts
  simp [World.frozen?, h2]
/-- One packet's time is written. -/
theorem flat_set : ∀ (xs : List It) (i : Nat) (x : It) (v : Int), xs[i]? = some x → flat (xs.set i { x with a := v }) = (flat xs).set (i * 5) (.int .i64 v) := by
  intro xs
  induction xs with
  | nil => intro i x v h; simp at h
  | cons y ys ih =>
    intro i x v h
    cases i with
    | zero => simp at h; subst h; simp [flat]
    | succ i =>
      have := ih i x v (by simpa using h)
      simp only [List.set_cons_succ, flat, this, show (i + 1) * 5 = i * 5 + 1 + 1 + 1 + 1 + 1 by omega]
theorem OwnIt.set {w : World} {base g cap : Nat} {xs : List It} (h : OwnIt w base g cap xs) {i : Nat} {x : It} (hx : xs[i]? = some x) (v : Int) : OwnIt (w.setCell ⟨g, i * 5, none⟩ (.int .i64 v)) base g cap (xs.set i { x with a := v }) := by
  obtain ⟨cur, h1, h2, h3, h4, h5, h6⟩ := h.parts
  have hi := (List.getElem?_eq_some_iff.1 hx).1
  have hlt := h.lt
  have h' : w.heap[g] = .cells cur 43 (0, 0) := by simpa [Array.getElem?_eq_getElem hlt] using h2
  have hn : (w.setCell ⟨g, i * 5, none⟩ (.int .i64 v)).heap[g]? = some (.cells (cur.setIfInBounds (i * 5) (.int .i64 v)) 43 (0, 0)) := by
    show (w.heap.modify g _)[g]? = _
    rw [Array.getElem?_eq_getElem (by simpa using hlt), Array.getElem_modify_self, h']
    rfl
  refine ⟨flat_length _, Or.inr ⟨g, cap, _, rfl, h1, hn, by simpa using h3, h4, by simpa using h5, ?_⟩⟩
  rw [flat_set xs i x v hx, ← h6]
  simp only [Array.toList_setIfInBounds, List.length_set]
  rw [List.take_set]
/-- The first packets of a row. -/
theorem Items.take {w : World} {b off : Nat} {xs : List It} (h : Items w b off xs) (m : Nat) : Items w b off (xs.take m) := by
  intro i x hx
  refine h i x ?_
  rw [List.getElem?_take] at hx
  split at hx
  · exact hx
  · simp at hx
theorem okL.ok {xs : List It} (h : okL xs) : ∀ (k : Nat) (x : It), xs[k]? = some x → x.ok = true := by
  intro k x hx
  unfold okL at h
  have hk : k < xs.length := (List.getElem?_eq_some_iff.1 hx).1
  have hl : ¬ 100 < xs.length := fun hl => by rw [listE_long hl] at h; simp at h
  cases hb : firstBad xs with
  | none =>
    unfold firstBad at hb
    simp at hb
    have h1 := hb k hk
    cases ho : x.ok with
    | true => rfl
    | false => rw [fault_range hx ho] at h1; simp at h1
  | some i =>
    exfalso
    simp only [listE, hl, if_false, hb] at h
    unfold firstBad at hb
    rw [List.find?_range_eq_some] at hb
    have := hb.1
    simp [h] at this
theorem okL_of {xs : List It} (h100 : xs.length ≤ 100) (hok : ∀ (k : Nat) (x : It), xs[k]? = some x → x.ok = true) (hord : ∀ (k : Nat) (x y : It), xs[k]? = some x → xs[k + 1]? = some y → x.a ≤ y.a) : okL xs := by
  unfold okL
  rw [listE_fine (by omega)]
  intro j hj
  obtain ⟨x, hx⟩ : ∃ x, xs[j]? = some x := ⟨_, List.getElem?_eq_getElem hj⟩
  cases j with
  | zero => exact fault_first hx (hok 0 x hx)
  | succ j =>
    obtain ⟨y, hy⟩ : ∃ y, xs[j]? = some y := ⟨_, List.getElem?_eq_getElem (by omega)⟩
    exact fault_none hx hy (hok _ x hx) (by have := hord j y x hy hx; omega)
theorem It.ok_at {x : It} (h : x.ok = true) {v : Int} (h0 : 0 ≤ v) (h1 : v ≤ 1000000000) : It.ok { x with a := v } = true := by
  simp only [It.ok, Bool.and_eq_true, wth_iff] at h ⊢
  obtain ⟨⟨⟨⟨_, h2⟩, h3⟩, h4⟩, h5⟩ := h
  exact ⟨⟨⟨⟨⟨h0, h1⟩, h2⟩, h3⟩, h4⟩, h5⟩
theorem okL_mvd {n t R : Int} {xs : List It} (h : okL xs) (hn : 1 ≤ n) (hG : Goes n t R xs xs.length) : okL (mvd n t R xs xs.length) := by
  obtain ⟨hF, h100⟩ := h.fine
  have hM := fine_mvd hF hn hG
  refine okL_of (by rw [mvd_length]; exact h100) ?_ (fun k x y hx hy => (hM k x hx).2 y hy)
  intro k y hy
  have hk : k < xs.length := by have := (List.getElem?_eq_some_iff.1 hy).1; rwa [mvd_length] at this
  obtain ⟨x, hx⟩ : ∃ x, xs[k]? = some x := ⟨_, List.getElem?_eq_getElem hk⟩
  have hb := (hM k y hy).1
  rw [mvd_at hx, if_pos hk] at hy
  obtain rfl := Option.some.inj hy
  exact It.ok_at (h.ok k x hx) hb.1 hb.2.1
theorem mvd_zero (n t R : Int) (xs : List It) : mvd n t R xs 0 = xs := by
  apply List.ext_getElem?
  intro i
  cases h : xs[i]? with
  | none => simp [mvd, h]
  | some x => rw [mvd_at h]; simp
theorem mvd_set {n t R : Int} {xs : List It} {k : Nat} {x : It} (hx : xs[k]? = some x) : mvd n t R xs (k + 1) = (mvd n t R xs k).set k { x with a := goes n t R xs k } := by
  have hk := (List.getElem?_eq_some_iff.1 hx).1
  apply List.ext_getElem?
  intro i
  cases h : xs[i]? with
  | none =>
    have hi : xs.length ≤ i := by
      rcases Nat.lt_or_ge i xs.length with h' | h'
      · rw [List.getElem?_eq_getElem h'] at h; simp at h
      · exact h'
    rw [List.getElem?_eq_none (by rw [mvd_length]; exact hi), List.getElem?_eq_none (by rw [List.length_set, mvd_length]; exact hi)]
  | some y =>
    rw [mvd_at h, List.getElem?_set]
    by_cases hik : k = i
    · subst hik
      rw [hx] at h
      obtain rfl := Option.some.inj h
      rw [if_pos (by omega), if_pos rfl, if_pos (by rw [mvd_length]; exact hk)]
    · rw [if_neg hik, mvd_at h]
      by_cases hlt : i < k
      · rw [if_pos (by omega), if_pos hlt]
      · rw [if_neg (by omega), if_neg hlt]
/-- The first k + 1 of those that were shaped, the last one a tick sooner. -/
def soon (n t R : Int) (xs : List It) (k : Nat) (x : It) : List It := ((mvd n t R xs xs.length).take (k + 1)).set k { x with a := goes n t R xs k - 1 }
theorem soon_length {n t R : Int} {xs : List It} {k : Nat} {x : It} (hk : k < xs.length) : (soon n t R xs k x).length = k + 1 := by
  simp [soon, mvd_length]; omega
theorem soon_last {n t R : Int} {xs : List It} {k : Nat} {x : It} (hk : k < xs.length) : (soon n t R xs k x)[k]? = some { x with a := goes n t R xs k - 1 } := by
  unfold soon
  rw [List.getElem?_set, if_pos rfl, if_pos (by rw [List.length_take, mvd_length]; omega)]
theorem soon_at {n t R : Int} {xs : List It} {k j : Nat} {x : It} (hj : j < k) : (soon n t R xs k x)[j]? = (mvd n t R xs xs.length)[j]? := by
  unfold soon
  rw [List.getElem?_set, if_neg (by omega), List.getElem?_take, if_pos (by omega)]
theorem okL_soon {n t R : Int} {xs : List It} {k : Nat} {x : It} (h : okL xs) (hn : 1 ≤ n) (hG : Goes n t R xs xs.length) (hx : xs[k]? = some x) (h1 : x.a < goes n t R xs k) (h2 : (sst n t R xs k).2 < goes n t R xs k) : okL (soon n t R xs k x) := by
  have hk := (List.getElem?_eq_some_iff.1 hx).1
  obtain ⟨hF, h100⟩ := h.fine
  have hM := fine_mvd hF hn hG
  have hOM := (okL_mvd h hn hG).ok
  have hfx := (hF k x hx).1
  have hgx := hG k x hk hx
  refine okL_of (by rw [soon_length hk]; omega) ?_ ?_
  · intro j y hy
    have hj : j < k + 1 := by have := (List.getElem?_eq_some_iff.1 hy).1; rwa [soon_length hk] at this
    by_cases hjk : j < k
    · rw [soon_at hjk] at hy; exact hOM j y hy
    · obtain rfl : j = k := by omega
      rw [soon_last hk] at hy
      obtain rfl := Option.some.inj hy
      exact It.ok_at (h.ok _ x hx) (by omega) (by omega)
  · intro j y z hy hz
    have hj : j + 1 < k + 1 := by have := (List.getElem?_eq_some_iff.1 hz).1; rwa [soon_length hk] at this
    rw [soon_at (by omega)] at hy
    by_cases hjk : j + 1 < k
    · rw [soon_at hjk] at hz; exact (hM j y hy).2 z hz
    · obtain rfl : k = j + 1 := by omega
      rw [soon_last hk] at hz
      obtain rfl := Option.some.inj hz
      obtain ⟨x0, hx0⟩ : ∃ x0, xs[j]? = some x0 := ⟨_, List.getElem?_eq_getElem (by omega)⟩
      rw [mvd_at hx0, if_pos (by omega)] at hy
      obtain rfl := Option.some.inj hy
      rw [sst_prev hk] at h2
      simp only
      omega
end Go.Proofs.YtkagmddckglkdaaDoor
