/-
  HtbCeils: what goes from a class and all below it conforms to its Ceil. Mathematics of the model alone.
-/
import Derived.Test.YtpgdocmpbeabpaaDoorU30
import Derived.Test.YtpgdocmpbeabpaaDoorZtk
namespace Go.Proofs.YtpgdocmpbeabpaaDoor
open Go.RowKit Go.Extern.Stop Go.Stop Go.Extern

theorem bst_pre {n t R : Int} {xs ys : List It} : ∀ {k : Nat}, k ≤ xs.length → bst n t R (xs ++ ys) k = bst n t R xs k := by
  intro k
  induction k with
  | zero => intro _; rfl
  | succ k ih =>
    intro hk
    have e : (xs ++ ys)[k]? = xs[k]? := List.getElem?_append_left (by omega)
    simp only [bst, e, ih (by omega)]
theorem bok_pre {n t R : Int} {xs ys : List It} {k : Nat} (hk : k < xs.length) : bok n t R (xs ++ ys) k = bok n t R xs k := by
  have e : (xs ++ ys)[k]? = xs[k]? := List.getElem?_append_left hk
  simp only [bok, e, bst_pre (Nat.le_of_lt hk)]
theorem bst_snoc {n t R : Int} (xs : List It) (x : It) : bst n t R (xs ++ [x]) (xs.length + 1) = (drw t (pas n t R (bst n t R xs xs.length).1 (bst n t R xs xs.length).2 x.a) x.l, lat1 (bst n t R xs xs.length).2 x.a) := by
  have e : (xs ++ [x])[xs.length]? = some x := by simp
  rw [bst_succ e, bst_pre (Nat.le_refl _)]
  rfl
theorem bok_snoc {n t R : Int} (xs : List It) (x : It) : bok n t R (xs ++ [x]) xs.length = decide (x.l * t ≤ pas n t R (bst n t R xs xs.length).1 (bst n t R xs xs.length).2 x.a) := by
  have e : (xs ++ [x])[xs.length]? = some x := by simp
  simp only [bok, e, bst_pre (Nat.le_refl _)]
theorem hL_nodup {K : HtK} (h : HtKOk K) : ∀ (i : Nat), i < K.N → (hL K (some i)).Nodup := by
  intro i
  induction i using Nat.strongRecOn with
  | ind i ih =>
    intro hi
    rw [hL_some h hi]
    cases hu : hUp K i with
    | none => simp [hL]
    | some j =>
      have hj := (h.up hi hu).1
      refine List.nodup_cons.2 ⟨fun hm => ?_, ih j hj (by omega)⟩
      have := hL_lt h j (by omega) i hm
      omega
theorem ceils_at {K : HtK} {now x : Int} : ∀ (l : List Nat) (s : HtS) (j : Nat), l.Nodup → ((l.foldl (ceilT K now x) s).nd j).cl = (if j ∈ l then drw (K.cls j).ct (pas (K.cls j).cn (K.cls j).ct (K.cls j).cR (s.nd j).cl (s.nd j).ca now) x else (s.nd j).cl) ∧ ((l.foldl (ceilT K now x) s).nd j).ca = (if j ∈ l then lat1 (s.nd j).ca now else (s.nd j).ca) := by
  intro l
  induction l with
  | nil => intro s j _; simp
  | cons m r ih =>
    intro s j hn
    obtain ⟨h1, h2⟩ := List.nodup_cons.1 hn
    obtain ⟨e1, e2⟩ := ih (ceilT K now x s m) j h2
    have e : (m :: r).foldl (ceilT K now x) s = r.foldl (ceilT K now x) (ceilT K now x s m) := rfl
    rw [e, e1, e2]
    by_cases hj : j = m
    · subst hj
      rw [if_neg h1, if_neg h1, if_pos (by simp), if_pos (by simp)]
      have e3 : (ceilT K now x s j).nd j = { s.nd j with cl := drw (K.cls j).ct (pas (K.cls j).cn (K.cls j).ct (K.cls j).cR (s.nd j).cl (s.nd j).ca now) x, ca := lat1 (s.nd j).ca now } := updN_same _ _ _
      rw [e3]
      exact ⟨rfl, rfl⟩
    · have e3 : (ceilT K now x s m).nd j = s.nd j := updN_ne hj
      rw [e3]
      have e4 : j ∈ m :: r ↔ j ∈ r := by simp [hj]
      simp only [e4, and_self]
theorem rates_C {K : HtK} {now x : Int} : ∀ (l : List Nat) (s : HtS) (j : Nat), ((l.foldl (rateT K now x) s).nd j).cl = (s.nd j).cl ∧ ((l.foldl (rateT K now x) s).nd j).ca = (s.nd j).ca := by
  intro l
  induction l with
  | nil => intro s j; exact ⟨rfl, rfl⟩
  | cons m r ih =>
    intro s j
    obtain ⟨e1, e2⟩ := ih (rateT K now x s m) j
    have e : (m :: r).foldl (rateT K now x) s = r.foldl (rateT K now x) (rateT K now x s m) := rfl
    rw [e, e1, e2]
    unfold rateT updN
    simp only
    split
    · subst j; exact ⟨rfl, rfl⟩
    · exact ⟨rfl, rfl⟩
/-- What went from each class and all below it, when one more goes. -/
def gonS (K : HtK) (G : Nat → List It) (now : Int) (x : Hd) (c : Nat) : List It := if c ∈ hL K (some x.f.toNat) then G c ++ [⟨now, x.l, 0, 0, 0⟩] else G c
/-- The Ceils are where Conform is behind what went, and all of it conforms. -/
structure CI (K : HtK) (s : HtS) (G : Nat → List It) : Prop where
  st : ∀ c, c < K.N → bst (K.cls c).cn (K.cls c).ct (K.cls c).cR (G c) (G c).length = ((s.nd c).cl, (s.nd c).ca)
  ok : ∀ c, c < K.N → ∀ k, k < (G c).length → bok (K.cls c).cn (K.cls c).ct (K.cls c).cR (G c) k = true
  it : ∀ c, c < K.N → ∀ x ∈ G c, x.f = 0 ∧ x.b = 0 ∧ x.m = 0 ∧ 0 ≤ x.a ∧ x.a ≤ s.tm ∧ 1 ≤ x.l ∧ x.l ≤ 10000
  up : ∀ c, c < K.N → (G c).Pairwise (fun a b => a.a ≤ b.a)
theorem CI.start (K : HtK) : CI K ⟨nd0 K, 0, 0⟩ (fun _ => []) := ⟨fun _ _ => rfl, fun _ _ k hk => absurd hk (Nat.not_lt_zero k), fun _ _ x hx => (by cases hx), fun _ _ => List.Pairwise.nil⟩
theorem CI.later {K : HtK} {s : HtS} {G : Nat → List It} (h : CI K s G) {now : Int} (ht : s.tm ≤ now) : CI K (s.at now) G := ⟨h.st, h.ok, fun c hc x hx => by have := h.it c hc x hx; exact ⟨this.1, this.2.1, this.2.2.1, this.2.2.2.1, by show x.a ≤ now; omega, this.2.2.2.2.2⟩, h.up⟩
theorem CI.put {K : HtK} {s : HtS} {G : Nat → List It} (h : CI K s G) (x : Hd) : CI K (putH K s x).1 G := by
  have e : ∀ c, ((putH K s x).1.nd c).cl = (s.nd c).cl ∧ ((putH K s x).1.nd c).ca = (s.nd c).ca := by
    intro c
    unfold putH
    split
    · unfold addN updN
      simp only
      split
      · subst c; exact ⟨rfl, rfl⟩
      · exact ⟨rfl, rfl⟩
    · exact ⟨rfl, rfl⟩
  have et : (putH K s x).1.tm = s.tm := by unfold putH; split <;> rfl
  exact ⟨fun c hc => by rw [(e c).1, (e c).2]; exact h.st c hc, h.ok, fun c hc y hy => by rw [et]; exact h.it c hc y hy, h.up⟩
theorem CI.take {K : HtK} (hK : HtKOk K) {t : Int} {n : Nat} {s : HtS} {G : Nat → List It} (h : CI K s G) (hI : HtJ K t n s) {now : Int} (ht : t ≤ now) (hlen : ∀ c, c < K.N → ∀ x ∈ (s.nd c).L, 1 ≤ x.l) :
    CI K (takeH K s now).1 (if (takeH K s now).2.2.2 then gonS K G now (takeH K s now).2.2.1 else G) := by
  have htm : s.tm ≤ now := by have := hI.i.tm; omega
  cases hb : bestM K (s.at now) now K.N with
  | none => rw [take_none hb]; exact h.later htm
  | some o =>
    obtain ⟨h1, h2, x, r, h3, h4, h5⟩ := take_some hK hb
    have hx : x ∈ (s.nd o.leaf).L := by rw [h3]; simp
    have hxf : x.f.toNat = o.leaf := by have := (hI.fl o.leaf h1 x hx).1; omega
    have hxl := (hI.i.wait o.leaf h1).2 x hx
    have hx1 := hlen o.leaf h1 x hx
    rw [h5]
    simp only [if_true]
    obtain ⟨S, hS⟩ : ∃ S, sentN { s.at now with gone := IntKind.i64.wrap (s.gone + 1) } o.leaf (IntKind.i64.wrap (s.gone + 1)) = S := ⟨_, rfl⟩
    have eS : ∀ c, (S.nd c).cl = (s.nd c).cl ∧ (S.nd c).ca = (s.nd c).ca ∧ (S.nd c).L = (s.nd c).L := by
      intro c
      rw [← hS]
      have := sentN_nd { s.at now with gone := IntKind.i64.wrap (s.gone + 1) } o.leaf (IntKind.i64.wrap (s.gone + 1)) c
      exact ⟨this.2.2.1, this.2.2.2.1, this.2.2.2.2⟩
    have eP : ∀ c, ((popN S o.leaf).nd c).cl = (s.nd c).cl ∧ ((popN S o.leaf).nd c).ca = (s.nd c).ca := by
      intro c
      unfold popN updN
      simp only
      split
      · subst c; exact ⟨(eS _).1, (eS _).2.1⟩
      · exact ⟨(eS _).1, (eS _).2.1⟩
    rw [hS]
    have hLS : (S.nd o.leaf).L = x :: r := by rw [(eS _).2.2]; exact h3
    have htmS : (sendM K now S o).tm = now := by
      have hI2 : HtI K now n S := by
        rw [← hS]
        exact ((hI.at ht).i).other rfl (fun j => sentN_nd _ _ _ j)
      unfold sendM
      rw [hLS]
      have htS : (popN S o.leaf).tm = now := by rw [← hS]; rfl
      obtain ⟨c1, c2⟩ := HtI.ceils (K := K) (now := now) (x := (hdOr (x :: r)).l) hxl.1 (hL K (some o.leaf)) _ (hI2.pop o.leaf) htS
      exact (HtI.rates hxl.1 (hL K (some o.lend)) _ (fun m hm => by have := hL_lt hK o.lend h2 m hm; omega) c1 c2).2
    have eC : ∀ c, ((sendM K now S o).nd c).cl = (if c ∈ hL K (some o.leaf) then drw (K.cls c).ct (pas (K.cls c).cn (K.cls c).ct (K.cls c).cR (s.nd c).cl (s.nd c).ca now) x.l else (s.nd c).cl) ∧ ((sendM K now S o).nd c).ca = (if c ∈ hL K (some o.leaf) then lat1 (s.nd c).ca now else (s.nd c).ca) := by
      intro c
      unfold sendM
      rw [hLS]
      obtain ⟨a1, a2⟩ := rates_C (K := K) (now := now) (x := (hdOr (x :: r)).l) (hL K (some o.lend)) ((hL K (some o.leaf)).foldl (ceilT K now (hdOr (x :: r)).l) (popN S o.leaf)) c
      obtain ⟨b1, b2⟩ := ceils_at (K := K) (now := now) (x := (hdOr (x :: r)).l) (hL K (some o.leaf)) (popN S o.leaf) c (hL_nodup hK o.leaf h1)
      rw [a1, a2, b1, b2, (eP c).1, (eP c).2]
      exact ⟨rfl, rfl⟩
    have hcap : ∀ c, c ∈ hL K (some o.leaf) → x.l * (K.cls c).ct ≤ pas (K.cls c).cn (K.cls c).ct (K.cls c).cR (s.nd c).cl (s.nd c).ca now := by
      intro c hc
      have hcN : c < K.N := by have := hL_lt hK o.leaf h1 c hc; omega
      unfold capB at h4
      rw [List.any_eq_false] at h4
      have h6 := h4 c hc
      rw [decide_eq_true_eq] at h6
      have h7 : x.l ≤ hasB (K.cls c).cn (K.cls c).ct (K.cls c).cR (s.nd c).cl (s.nd c).ca now := by
        have h8 : ¬ hasB (K.cls c).cn (K.cls c).ct (K.cls c).cR (s.nd c).cl (s.nd c).ca now < x.l := h6
        omega
      exact (hasB_le (hI.i.ceil c hcN)).1 h7
    have hg : ∀ c, gonS K G now x c = if c ∈ hL K (some o.leaf) then G c ++ [⟨now, x.l, 0, 0, 0⟩] else G c := by
      intro c
      unfold gonS
      rw [hxf]
    refine ⟨fun c hc => ?_, fun c hc k hk => ?_, fun c hc y hy => ?_, fun c hc => ?_⟩
    · rw [(eC c).1, (eC c).2, hg c]
      by_cases hm : c ∈ hL K (some o.leaf)
      · rw [if_pos hm, if_pos hm, if_pos hm, List.length_append, List.length_singleton, bst_snoc, h.st c hc]
      · rw [if_neg hm, if_neg hm, if_neg hm]
        exact h.st c hc
    · rw [hg c] at hk ⊢
      by_cases hm : c ∈ hL K (some o.leaf)
      · rw [if_pos hm] at hk ⊢
        by_cases e : k = (G c).length
        · rw [e, bok_snoc, h.st c hc]
          exact decide_eq_true (hcap c hm)
        · rw [List.length_append, List.length_singleton] at hk
          rw [bok_pre (by omega)]
          exact h.ok c hc k (by omega)
      · rw [if_neg hm] at hk ⊢
        exact h.ok c hc k hk
    · rw [htmS]
      rw [hg c] at hy
      have hold : y ∈ G c → y.f = 0 ∧ y.b = 0 ∧ y.m = 0 ∧ 0 ≤ y.a ∧ y.a ≤ now ∧ 1 ≤ y.l ∧ y.l ≤ 10000 := fun hy => by
        have := h.it c hc y hy
        exact ⟨this.1, this.2.1, this.2.2.1, this.2.2.2.1, by omega, this.2.2.2.2.2⟩
      split at hy
      · rcases List.mem_append.1 hy with hy | hy
        · exact hold hy
        · rw [List.mem_singleton.1 hy]
          exact ⟨rfl, rfl, rfl, by have := hI.i.t0; show 0 ≤ now; omega, Int.le_refl _, hx1, hxl.2⟩
      · exact hold hy
    · rw [hg c]
      split
      · refine List.pairwise_append.2 ⟨h.up c hc, List.pairwise_singleton _ _, fun a ha b hb => ?_⟩
        rw [List.mem_singleton.1 hb]
        have := h.it c hc a ha
        show a.a ≤ now
        omega
      · exact h.up c hc
end Go.Proofs.YtpgdocmpbeabpaaDoor
