/-
  A journal's first bytes, and a journal of which one byte turned, as mathematics: what is read of them. Conditions: none.
-/
import Derived.Test.YtheadpemckoljaaGreatDoorJ0
namespace Go.Proofs.YtheadpemckoljaaGreatDoor

theorem snoc_ind {α : Type} {P : List α → Prop} (h0 : P []) (h1 : ∀ l x, P l → P (l ++ [x])) (l : List α) : P l := by
  have h2 : ∀ r : List α, P r.reverse := by
    intro r
    induction r with
    | nil => exact h0
    | cons x r ih => rw [List.reverse_cons]; exact h1 _ _ ih
  have h := h2 l.reverse
  rwa [List.reverse_reverse] at h
theorem lineL_ne (k : Nat) (e : Ent) : lineL k e ≠ [] := by rw [lineL_body]; simp
theorem folL_nil (k : Nat) : folL k [] = none := by
  cases h : folL k [] with
  | none => rfl
  | some e =>
    obtain ⟨_, _, r, hr⟩ := folL_some h
    have := congrArg List.length hr
    rw [lineL_body] at this
    simp at this
theorem openF_upto {r d s : List UInt8} {es : List Ent} (hok : ∀ e ∈ es, EntOk e) (hfew : es.length ≤ 500) (hd : d = jour es ++ s) (hf : folL es.length s = none) : ∀ (b a : List Ent) (f : Nat), a ++ b = es → b.length < f → openF f a d = es
  | [], a, 0, _, h => by simp at h
  | [], a, f + 1, h, _ => by
    rw [List.append_nil] at h
    subst h
    rw [openF, hd]
    simp only [List.drop_left]
    rw [hf]
  | e :: b, a, 0, _, h => by simp at h
  | e :: b, a, f + 1, h, hb => by
    have he : EntOk e := hok e (by rw [← h]; simp)
    have hk : a.length < 500 := by rw [← h] at hfew; simp at hfew; omega
    have h1 : jour es = jour a ++ (lineL a.length e ++ jourF (a.length + 1) b) := by rw [← h, jour_app, jourF]
    have h2 : d.drop (jour a).length = lineL a.length e ++ (jourF (a.length + 1) b ++ s) := by
      rw [hd, h1]
      simp
    rw [openF, h2, folL_line he hk]
    simp only []
    exact openF_upto (r := r) hok hfew hd hf b (a ++ [e]) f (by rw [← h]; simp) (by simp at hb; omega)
theorem openL_of {d s : List UInt8} {es : List Ent} (hok : ∀ e ∈ es, EntOk e) (hfew : es.length ≤ 500) (hd : d = jour es ++ s) (hf : folL es.length s = none) : openL d = es :=
  openF_upto (r := []) hok hfew hd hf es [] 501 rfl (by omega)
theorem openL_jour {es : List Ent} (hok : ∀ e ∈ es, EntOk e) (hfew : es.length ≤ 500) : openL (jour es) = es := openL_of hok hfew (List.append_nil _).symm (folL_nil _)
/-- A line's beginning is no line. -/
theorem fol_half {k : Nat} {e : Ent} (h : EntOk e) {s t : List UInt8} (hs : s ++ t = lineL k e) (ht : t ≠ []) : folL k s = none := by
  cases hf : folL k s with
  | none => rfl
  | some e' =>
    obtain ⟨_, _, r, hr⟩ := folL_some hf
    obtain ⟨t', x, rfl⟩ : ∃ t' x, t = t' ++ [x] := by
      rcases List.eq_nil_or_concat t with h0 | ⟨t', x, h1⟩
      · exact absurd h0 ht
      · exact ⟨t', x, by rw [h1, List.concat_eq_append]⟩
    rw [lineL_body, ← List.append_assoc] at hs
    have h2 : s ++ t' = bodyL k e := (List.append_inj' hs rfl).1
    have h3 : (10 : UInt8) ∈ s := by rw [hr, lineL_body]; simp
    exact absurd rfl (body_not h 10 (by rw [← h2]; simp [h3]))
theorem jour_at {l : List Ent} {r : Nat} {e : Ent} (h : l[r]? = some e) : jour l = jour (l.take r) ++ (lineL r e ++ jourF (r + 1) (l.drop (r + 1))) := by
  obtain ⟨hlt, he⟩ := List.getElem?_eq_some_iff.1 h
  have e0 : l.take r ++ e :: l.drop (r + 1) = l := by rw [← he, List.getElem_cons_drop]; exact List.take_append_drop r l
  have h1 := jour_app (l.take r) (e :: l.drop (r + 1))
  have hl : (l.take r).length = r := by rw [List.length_take]; omega
  rw [e0, hl, jourF] at h1
  exact h1
theorem jour_take_succ {l : List Ent} {r : Nat} {e : Ent} (h : l[r]? = some e) : jour (l.take (r + 1)) = jour (l.take r) ++ lineL r e := by
  obtain ⟨hlt, he⟩ := List.getElem?_eq_some_iff.1 h
  have hl : (l.take r).length = r := by rw [List.length_take]; omega
  rw [List.take_add_one, h]
  have := jour_snoc (l.take r) e
  rw [hl] at this
  simpa using this
theorem jour_mono (l : List Ent) {a b : Nat} (h : a ≤ b) : (jour (l.take a)).length ≤ (jour (l.take b)).length := by
  have e : l.take b = l.take a ++ (l.take b).drop a := by
    have := List.take_append_drop a (l.take b)
    rw [List.take_take, Nat.min_eq_left h] at this
    exact this.symm
  rw [e, jour_app]
  simp
/-- The last line that is whole within the first bytes. -/
theorem last_whole (l : List Ent) (m : Nat) : ∀ n, n ≤ l.length → ∃ r, r ≤ n ∧ (jour (l.take r)).length ≤ m ∧ (r = n ∨ m < (jour (l.take (r + 1))).length)
  | 0, _ => ⟨0, Nat.le_refl _, by simp [jour, jourF], Or.inl rfl⟩
  | n + 1, hn => by
    obtain ⟨r, h1, h2, h3⟩ := last_whole l m n (by omega)
    rcases h3 with rfl | h3
    · by_cases h4 : (jour (l.take (r + 1))).length ≤ m
      · exact ⟨r + 1, Nat.le_refl _, h4, Or.inl rfl⟩
      · exact ⟨r, by omega, h2, Or.inr (by omega)⟩
    · exact ⟨r, by omega, h2, Or.inr h3⟩
/-- What is read of a journal's first bytes: the lines that lie in them whole. -/
theorem openL_take {l : List Ent} (hok : ∀ e ∈ l, EntOk e) (hfew : l.length ≤ 500) (m : Nat) :
    ∃ r, r ≤ l.length ∧ openL ((jour l).take m) = l.take r ∧ (jour (l.take r)).length ≤ m ∧ ∀ q, q ≤ l.length → (jour (l.take q)).length ≤ m → q ≤ r := by
  obtain ⟨r, h1, h2, h3⟩ := last_whole l m l.length (Nat.le_refl _)
  refine ⟨r, h1, ?_, h2, ?_⟩
  · rcases h3 with rfl | h3
    · rw [List.take_length] at h2 ⊢
      rw [List.take_of_length_le h2]
      exact openL_jour hok hfew
    · by_cases hr : r = l.length
      · subst hr
        rw [List.take_length] at h2 ⊢
        rw [List.take_of_length_le h2]
        exact openL_jour hok hfew
      obtain ⟨e, he⟩ : ∃ e, l[r]? = some e := ⟨l[r], List.getElem?_eq_getElem (by omega)⟩
      have hl : (l.take r).length = r := by rw [List.length_take]; omega
      rw [jour_take_succ he, List.length_append] at h3
      refine openL_of (s := (lineL r e).take (m - (jour (l.take r)).length)) (fun x hx => hok x (List.mem_of_mem_take hx)) (by omega) ?_ ?_
      · rw [jour_at he, List.take_append, List.take_append, List.take_of_length_le h2, Nat.sub_eq_zero_of_le (show m - (jour (l.take r)).length ≤ (lineL r e).length by omega)]
        simp
      · rw [hl]
        refine fol_half (hok e (List.mem_of_getElem? he)) (List.take_append_drop (m - (jour (l.take r)).length) (lineL r e)) ?_
        intro h0
        have := congrArg List.length h0
        rw [List.length_drop] at this
        simp at this
        omega
  · intro q hq hm
    refine Decidable.byContradiction fun hn => ?_
    rcases h3 with rfl | h3
    · omega
    · have := jour_mono l (show r + 1 ≤ q by omega)
      omega

/-! ### one byte that turned -/
theorem step_inj {c d : Nat} {b : Nat} (hc : c < 9901) (hd : d < 9901) (h : (c * 37 + b) % 9901 = (d * 37 + b) % 9901) : c = d := by omega
theorem chk_inj_end (u v : List UInt8) : ∀ (s : List UInt8), chk (u ++ s) = chk (v ++ s) → chk u = chk v := by
  refine snoc_ind (fun h => by simpa using h) (fun s b ih h => ?_)
  rw [← List.append_assoc, ← List.append_assoc, chk_snoc, chk_snoc] at h
  exact ih (step_inj (chk_lt _) (chk_lt _) h)
theorem chk_byte {u s : List UInt8} {x y : UInt8} (h : chk (u ++ x :: s) = chk (u ++ y :: s)) : x = y := by
  have h1 := chk_inj_end (u ++ [x]) (u ++ [y]) s (by simpa using h)
  rw [chk_snoc, chk_snoc] at h1
  have hx := x.toNat_lt
  have hy := y.toNat_lt
  have : x.toNat = y.toNat := by omega
  exact UInt8.toNat_inj.1 this
theorem last_one {c : UInt8} {p q r s : List UInt8} (hr : ∀ x ∈ r, x ≠ c) (hs : ∀ x ∈ s, x ≠ c) (h : p ++ c :: r = q ++ c :: s) : p = q ∧ r = s := by
  have h1 : r.reverse ++ c :: p.reverse = s.reverse ++ c :: q.reverse := by
    have := congrArg List.reverse h
    simpa using this
  obtain ⟨h2, h3⟩ := part_one (fun x hx => hr x (by simpa using hx)) (fun x hx => hs x (by simpa using hx)) h1
  exact ⟨List.reverse_inj.1 h3, List.reverse_inj.1 h2⟩
theorem body_said (k : Nat) (e : Ent) : bodyL k e = saidL k e ++ 32 :: Lib.itoa (chk (saidL k e)) := by
  have h : bodyL k e = Lib.itoa k ++ 32 :: (e.1 ++ 32 :: (Lib.itoa e.2 ++ 32 :: Lib.itoa (chk (saidL k e)))) := rfl
  rw [h]
  generalize chk (saidL k e) = c
  unfold saidL
  simp
theorem count0 {c : UInt8} {l : List UInt8} (h : ∀ x ∈ l, x ≠ c) : l.count c = 0 := List.count_eq_zero.2 fun hm => h c hm rfl
theorem said_count {k : Nat} {e : Ent} (h : EntOk e) : (saidL k e).count 32 = 2 := by
  have h2 := h.2
  unfold saidL
  rw [List.count_append, List.count_cons_self, List.count_append, List.count_cons_self, count0 (itoa_not (by omega) b32), count0 (fun x hx => (nameOk_not h.1 x hx).1), count0 (itoa_not (by omega) b32)]
theorem dg_not (k : Nat) (e : Ent) : ∀ x ∈ Lib.itoa (chk (saidL k e)), x ≠ 32 := itoa_not (by omega) b32
theorem body_count {k : Nat} {e : Ent} (h : EntOk e) : (bodyL k e).count 32 = 3 := by
  rw [body_said, List.count_append, List.count_cons_self, said_count h, count0 (dg_not k e)]
theorem chk_itoa {a b : Nat} (ha : a < 9901) (hb : b < 9901) (h : Lib.itoa (a : Int) = Lib.itoa (b : Int)) : a = b := by
  have := itoa_inj (m := a) (n := b) (by omega) (by omega) (by omega) (by omega) h
  omega
theorem flip_none {k : Nat} {e : Ent} (h : EntOk e) {R : List UInt8} (hR : R = [] ∨ ∃ k2 e2 R', EntOk e2 ∧ R = lineL k2 e2 ++ R') {u v : List UInt8} {x tb : UInt8} (hL : bodyL k e ++ 10 :: R = u ++ x :: v) (hu : u.length ≤ (bodyL k e).length) (hx : x ≠ tb) :
    folL k (u ++ tb :: v) = none := by
  cases hf : folL k (u ++ tb :: v) with
  | none => rfl
  | some e' =>
  exfalso
  obtain ⟨h', _, s, hs⟩ := folL_some hf
  rw [lineL_body, List.append_assoc] at hs
  replace hs : u ++ tb :: v = bodyL k e' ++ 10 :: s := hs
  have hc := body_count (k := k) h
  have hc' := body_count (k := k) h'
  have hn' := body_not (k := k) h'
  have hn := body_not (k := k) h
  by_cases hul : u.length = (bodyL k e).length
  · obtain ⟨rfl, h2⟩ := List.append_inj hL hul.symm
    simp only [List.cons.injEq] at h2
    obtain ⟨rfl, rfl⟩ := h2
    rcases hR with rfl | ⟨k2, e2, R', h2, rfl⟩
    · have : (10 : UInt8) ∈ bodyL k e ++ [tb] := by rw [hs]; simp
      rcases List.mem_append.1 this with h3 | h3
      · exact hn 10 h3 rfl
      · exact hx (List.mem_singleton.1 h3)
    · rw [lineL_body] at hs
      have h3 : (bodyL k e ++ tb :: bodyL k2 e2) ++ 10 :: R' = bodyL k e' ++ 10 :: s := by rw [← hs]; simp
      have hn2 : ∀ z ∈ bodyL k e ++ tb :: bodyL k2 e2, z ≠ 10 := by
        intro z hz
        rcases List.mem_append.1 hz with hz | hz
        · exact hn z hz
        · rcases List.mem_cons.1 hz with rfl | hz
          · exact fun e => hx e.symm
          · exact body_not h2 z hz
      have h4 := congrArg (List.count 32) (part_one hn2 hn' h3).1
      rw [List.count_append, List.count_cons, hc, body_count h2, hc'] at h4
      omega
  · obtain ⟨y, hy, rfl⟩ : ∃ y, bodyL k e = u ++ x :: y ∧ v = y ++ 10 :: R := by
      have h1 : (bodyL k e).drop u.length ++ 10 :: R = x :: v := by
        have := congrArg (List.drop u.length) hL
        rw [List.drop_append_of_le_length hu, List.drop_left] at this
        exact this
      have h2 : (bodyL k e).take u.length = u := by
        have := congrArg (List.take u.length) hL
        rw [List.take_append_of_le_length hu, List.take_left] at this
        exact this
      cases h3 : (bodyL k e).drop u.length with
      | nil =>
        have := congrArg List.length h3
        rw [List.length_drop] at this
        simp at this
        omega
      | cons z y =>
        rw [h3] at h1
        simp only [List.cons_append, List.cons.injEq] at h1
        refine ⟨y, ?_, h1.2.symm⟩
        have := List.take_append_drop u.length (bodyL k e)
        rw [h2, h3, h1.1] at this
        exact this.symm
    have hsd := body_said k e
    have hsd' := body_said k e'
    have hd := dg_not k e
    have hd' := dg_not k e'
    rw [hy] at hc hn
    by_cases ht : tb = 10
    · subst ht
      have h5 := (part_one (fun z hz => hn z (by simp [hz])) hn' hs).1
      subst h5
      rw [List.count_append, hc'] at hc
      have h6 : ∀ z ∈ x :: y, z ≠ 32 := fun z hz e => by
        have := List.count_pos_iff.2 hz
        rw [e] at this
        omega
      have h7 : saidL k e' ++ 32 :: (Lib.itoa (chk (saidL k e')) ++ x :: y) = saidL k e ++ 32 :: Lib.itoa (chk (saidL k e)) := by
        rw [← hsd, hy, hsd']
        simp
      obtain ⟨h8, h9⟩ := last_one (fun z hz => by
        rcases List.mem_append.1 hz with hz | hz
        · exact hd' z hz
        · exact h6 z hz) hd h7
      rw [h8] at h9
      have := congrArg List.length h9
      simp at this
    · have h5 : (u ++ tb :: y) ++ 10 :: R = bodyL k e' ++ 10 :: s := by rw [← hs]; simp
      have h6 := (part_one (fun z hz => by
        rcases List.mem_append.1 hz with hz | hz
        · exact hn z (by simp [hz])
        · rcases List.mem_cons.1 hz with rfl | hz
          · exact ht
          · exact hn z (by simp [hz])) hn' h5).1
      have h7 := hc'
      rw [← h6, List.count_append, List.count_cons] at h7
      rw [List.count_append, List.count_cons] at hc
      have hx32 : x ≠ 32 := by
        rintro rfl
        have : (tb == (32 : UInt8)) = false := by simpa using fun e => hx e.symm
        rw [this] at h7
        simp at hc h7
        omega
      have ht32 : tb ≠ 32 := by
        rintro rfl
        have : (x == (32 : UInt8)) = false := by simpa using hx
        rw [this] at hc
        simp at hc h7
        omega
      clear hc h7
      rw [hy] at hsd
      rw [← h6] at hsd'
      rcases List.append_eq_append_iff.1 hsd with ⟨z, hz1, hz2⟩ | ⟨z, hz1, hz2⟩
      · -- saidL = u ++ z, x :: y = z ++ 32 :: dg
        cases z with
        | nil =>
          simp only [List.nil_append, List.cons.injEq] at hz2
          exact hx32 hz2.1
        | cons x' y1 =>
          simp only [List.cons_append, List.cons.injEq] at hz2
          obtain ⟨rfl, rfl⟩ := hz2
          have h8 : (u ++ tb :: y1) ++ 32 :: Lib.itoa (chk (saidL k e)) = saidL k e' ++ 32 :: Lib.itoa (chk (saidL k e')) := by rw [← hsd']; simp
          obtain ⟨h9, h10⟩ := last_one hd hd' h8
          have h11 := chk_itoa (chk_lt _) (chk_lt _) h10
          rw [hz1, ← h9] at h11
          exact hx (chk_byte h11)
      · -- u = saidL ++ z, 32 :: dg = z ++ x :: y
        cases z with
        | nil =>
          simp only [List.nil_append, List.cons.injEq] at hz2
          exact hx32 hz2.1.symm
        | cons x' u1 =>
          simp only [List.cons_append, List.cons.injEq] at hz2
          obtain ⟨rfl, hz2⟩ := hz2
          have h8 : saidL k e ++ 32 :: (u1 ++ tb :: y) = saidL k e' ++ 32 :: Lib.itoa (chk (saidL k e')) := by rw [← hsd', hz1]; simp
          obtain ⟨h9, h10⟩ := last_one (fun z hz => by
            rcases List.mem_append.1 hz with hz | hz
            · exact hd z (by rw [hz2]; simp [hz])
            · rcases List.mem_cons.1 hz with rfl | hz
              · exact ht32
              · exact hd z (by rw [hz2]; simp [hz])) hd' h8
          rw [← h9, hz2] at h10
          have := (List.append_inj' (s₁ := u1) (t₁ := tb :: y) (s₂ := u1) (t₂ := x :: y) h10 (by simp)).2
          simp only [List.cons.injEq] at this
          exact hx this.1.symm
theorem jour_feeds : ∀ (l : List Ent) (k : Nat), (∀ e ∈ l, EntOk e) → (jourF k l).count 10 = l.length
  | [], k, _ => by simp [jourF]
  | e :: l, k, h => by
    rw [jourF, List.count_append, jour_feeds l (k + 1) (fun x hx => h x (by simp [hx])), lineL_body, List.count_append, count0 (body_not (h e (by simp)))]
    simp
    omega
/-- What is read of a journal of which one byte turned: all lines ahead of its own. -/
theorem openL_flip {l : List Ent} (hok : ∀ e ∈ l, EntOk e) (hfew : l.length ≤ 500) {p : Nat} {x tb : UInt8} (hp : (jour l)[p]? = some x) (hx : x ≠ tb) :
    ∃ r, r ≤ l.length ∧ openL ((jour l).set p tb) = l.take r ∧ (jour (l.take r)).length ≤ p ∧ ((jour l).take p).count 10 = r := by
  have hlt := (List.getElem?_eq_some_iff.1 hp).1
  obtain ⟨r, h1, h2, h3⟩ := last_whole l p l.length (Nat.le_refl _)
  have hr : r < l.length := by
    rcases Nat.lt_or_ge r l.length with h | h
    · exact h
    · have : r = l.length := by omega
      subst this
      rw [List.take_length] at h2
      omega
  replace h3 : p < (jour (l.take (r + 1))).length := by
    rcases h3 with h | h
    · omega
    · exact h
  obtain ⟨e, he⟩ : ∃ e, l[r]? = some e := ⟨l[r], List.getElem?_eq_getElem hr⟩
  have hl : (l.take r).length = r := by rw [List.length_take]; omega
  have heo := hok e (List.mem_of_getElem? he)
  rw [jour_take_succ he, List.length_append, lineL_body, List.length_append] at h3
  simp only [List.length_cons, List.length_nil] at h3
  have hj := jour_at he
  rw [lineL_body, List.append_assoc] at hj
  replace hj : jour l = jour (l.take r) ++ (bodyL r e ++ 10 :: jourF (r + 1) (l.drop (r + 1))) := hj
  generalize hA : jour (l.take r) = A at *
  generalize hRR : jourF (r + 1) (l.drop (r + 1)) = R at *
  have hR : R = [] ∨ ∃ k2 e2 R', EntOk e2 ∧ R = lineL k2 e2 ++ R' := by
    cases hd : l.drop (r + 1) with
    | nil => rw [hd] at hRR; exact Or.inl hRR.symm
    | cons e2 l2 =>
      rw [hd, jourF] at hRR
      exact Or.inr ⟨_, e2, _, hok e2 (List.mem_of_mem_drop (by rw [hd]; simp)), hRR.symm⟩
  obtain ⟨q, rfl⟩ : ∃ q, p = A.length + q := ⟨p - A.length, by omega⟩
  have hq : (bodyL r e ++ 10 :: R)[q]? = some x := by
    rw [hj, List.getElem?_append_right (by omega)] at hp
    simpa using hp
  obtain ⟨hq1, hq2⟩ := List.getElem?_eq_some_iff.1 hq
  have hsp : bodyL r e ++ 10 :: R = (bodyL r e ++ 10 :: R).take q ++ x :: (bodyL r e ++ 10 :: R).drop (q + 1) := by
    rw [← hq2, List.getElem_cons_drop]
    exact (List.take_append_drop q _).symm
  have hset : (bodyL r e ++ 10 :: R).set q tb = (bodyL r e ++ 10 :: R).take q ++ tb :: (bodyL r e ++ 10 :: R).drop (q + 1) := by
    rw [List.set_eq_take_append_cons_drop, if_pos hq1]
  refine ⟨r, h1, ?_, by rw [hA]; omega, ?_⟩
  · refine openL_of (s := (bodyL r e ++ 10 :: R).set q tb) (fun y hy => hok y (List.mem_of_mem_take hy)) (by rw [hl]; omega) ?_ ?_
    · rw [hj, hA, List.set_append, if_neg (show ¬ A.length + q < A.length by omega), show A.length + q - A.length = q by omega]
    · rw [hl, hset]
      exact flip_none heo hR hsp (by rw [List.length_take]; omega) hx
  · rw [hj, List.take_append, List.take_of_length_le (by omega), show A.length + q - A.length = q by omega, List.take_append_of_le_length (by omega), List.count_append]
    have e1 : A.count 10 = r := by
      rw [← hA]
      have := jour_feeds (l.take r) 0 (fun y hy => hok y (List.mem_of_mem_take hy))
      rw [hl] at this
      exact this
    rw [e1, count0 fun y hy => body_not heo y (List.mem_of_mem_take hy)]
    rfl
end Go.Proofs.YtheadpemckoljaaGreatDoor
