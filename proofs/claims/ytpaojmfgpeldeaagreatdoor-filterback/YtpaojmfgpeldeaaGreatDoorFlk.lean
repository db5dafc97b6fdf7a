/-
  What is written is read again. Conditions: none.
-/
import Derived.Test.YtpaojmfgpeldeaaGreatDoorFlj
import Derived.Test.YtpaojmfgpeldeaaGreatDoorFl8
namespace Go.Proofs.YtpaojmfgpeldeaaGreatDoor
open Go.RowKit

theorem map_cons_eq {A : List (List UInt8 × Nat)} {w : List UInt8} {W : List (List UInt8)} (h : A.map (·.1) = w :: W) : ∃ p A', A = (w, p) :: A' ∧ A'.map (·.1) = W := by
  cases A with
  | nil => simp at h
  | cons a A => obtain ⟨a1, a2⟩ := a; simp at h; exact ⟨a2, A, by rw [h.1], h.2⟩
theorem map_app_eq {A : List (List UInt8 × Nat)} {V W : List (List UInt8)} (h : A.map (·.1) = V ++ W) : ∃ X Y, A = X ++ Y ∧ X.map (·.1) = V ∧ Y.map (·.1) = W := by
  obtain ⟨X, Y, e, h1, h2⟩ := List.map_eq_append_iff.1 h
  exact ⟨X, Y, e, h1, h2⟩
theorem sepW_ne (k : Nat) : (sepW k == [41]) = false ∧ sepW k ≠ [] ∧ ((sepW k == [97, 110, 100]) || (sepW k == [111, 114])) = true := by
  unfold sepW; split <;> decide
theorem grp_ok {n d e K : Nat} {rd : List (List UInt8 × Nat) → Rd} : ∀ (xs : List Ft) (x : Ft) (k : Nat) (word : List UInt8) (parts : List Ft) (A R : List (List UInt8 × Nat)),
    (∀ z ∈ x :: xs, ∀ (X Y : List (List UInt8 × Nat)), X.map (·.1) = tkW e z → (shp d z → rd (X ++ Y) = .ok (z, Y)) ∧ (¬ shp d z → ∃ p, rd (X ++ Y) = .error (4, p))) →
    A.map (·.1) = (tkW e x ++ xs.flatMap fun z => sepW K :: tkW e z) ++ [[41]] → (word = [] ∨ word = sepW K) → xs.length < k →
    ((∀ z ∈ x :: xs, shp d z) → grpF n rd k word parts (A ++ R) = .ok (⟨if (if xs = [] then word else sepW K) == [111, 114] then 5 else 4, 0, 0, 0, parts ++ x :: xs⟩, R)) ∧ (¬ (∀ z ∈ x :: xs, shp d z) → ∃ p, grpF n rd k word parts (A ++ R) = .error (4, p)) := by
  intro xs
  induction xs with
  | nil =>
    intro x k word parts A R hrd hA hw hk
    obtain ⟨k, rfl⟩ : ∃ k', k = k' + 1 := ⟨k - 1, by simp at hk; omega⟩
    simp only [List.flatMap_nil, List.append_nil] at hA
    obtain ⟨X, Y, rfl, hX, hY⟩ := map_app_eq hA
    obtain ⟨p, Y', rfl, hY'⟩ := map_cons_eq hY
    obtain rfl : Y' = [] := by simpa using hY'
    obtain ⟨h1, h2⟩ := hrd x (by simp) X (([41], p) :: R) hX
    have e0 : X ++ [([41], p)] ++ R = X ++ (([41], p) :: R) := by simp
    rw [e0]
    refine ⟨fun hs => ?_, fun hs => ?_⟩
    · rw [grp_some (h1 (hs x (by simp)))]
      simp [hdW]
    · obtain ⟨q, hq⟩ := h2 (fun h => hs fun z hz => by simp at hz; subst hz; exact h)
      exact ⟨q, grp_err hq⟩
  | cons z zs ih =>
    intro x k word parts A R hrd hA hw hk
    obtain ⟨k, rfl⟩ : ∃ k', k = k' + 1 := ⟨k - 1, by simp at hk; omega⟩
    have hA' : A.map (·.1) = tkW e x ++ (sepW K :: ((tkW e z ++ zs.flatMap fun y => sepW K :: tkW e y) ++ [[41]])) := by rw [hA]; simp
    obtain ⟨X, Y, rfl, hX, hY⟩ := map_app_eq hA'
    obtain ⟨p, Y', rfl, hY'⟩ := map_cons_eq hY
    obtain ⟨h1, h2⟩ := hrd x (by simp) X ((sepW K, p) :: (Y' ++ R)) hX
    have e0 : X ++ (sepW K, p) :: Y' ++ R = X ++ ((sepW K, p) :: (Y' ++ R)) := by simp
    rw [e0]
    by_cases hx : shp d x
    · have hwd : wdF word (sepW K) = sepW K := by
        unfold wdF
        rcases hw with rfl | rfl
        · simp
        · simp
      obtain ⟨s1, s2, s3⟩ := sepW_ne K
      have hst := grp_some (n := n) (k := k) (word := word) (parts := parts) (h1 hx)
      have hh : hdW ((sepW K, p) :: (Y' ++ R)) = sepW K := rfl
      rw [hh, hwd, s1, s3] at hst
      simp at hst
      rw [hst]
      obtain ⟨i1, i2⟩ := ih z k (sepW K) (parts ++ [x]) Y' R (fun y hy => hrd y (by simp at hy ⊢; right; exact hy)) hY' (Or.inr rfl) (by simp at hk; omega)
      refine ⟨fun hs => ?_, fun hs => ?_⟩
      · rw [i1 fun y hy => hs y (by simp at hy ⊢; right; exact hy)]
        simp
      · exact i2 fun h => hs fun y hy => by
          rcases List.mem_cons.1 hy with rfl | hy
          · exact hx
          · exact h y hy
    · obtain ⟨q, hq⟩ := h2 hx
      exact ⟨fun hs => absurd (hs x (by simp)) hx, fun _ => ⟨q, grp_err hq⟩⟩
theorem name_cases (f : Nat) (hf : f < 5) : (nameF f == [97, 110, 121]) = false ∧ (nameF f == [110, 111, 116]) = false ∧ (nameF f == [40]) = false ∧ fieldL (nameF f) = some f := by
  rcases (by omega : f = 0 ∨ f = 1 ∨ f = 2 ∨ f = 3 ∨ f = 4) with rfl | rfl | rfl | rfl | rfl <;> decide
theorem numW_has {lo hi : Int} (h0 : 0 ≤ lo) : (numW lo hi == [104, 97, 115]) = false := by
  have hm := itoa_mem h0
  have hn := itoa_ne h0
  unfold numW
  cases hl : Lib.itoa lo with
  | nil => exact absurd hl hn
  | cons c r =>
    have hc := hm c (by rw [hl]; simp)
    have : c ≠ 104 := fun e => by subst e; simp at hc
    simp [this]
theorem rd_ok (n : Nat) : ∀ (d e : Nat) (t : Ft), shp e t → ∀ (A R : List (List UInt8 × Nat)), A.map (·.1) = tkW e t → (shp d t → readF n d (A ++ R) = .ok (t, R)) ∧ (¬ shp d t → ∃ p, readF n d (A ++ R) = .error (4, p)) := by
  intro d
  induction d with
  | zero => intro e t he A R hA; exact ⟨fun h => h.elim, fun _ => ⟨_, rfl⟩⟩
  | succ d ih =>
    intro e t he A R hA
    cases e with
    | zero => exact he.elim
    | succ e =>
      have he0 := he
      rcases he with rfl | ⟨f, lo, hi, rfl, hf, h0, h1, h2⟩ | ⟨f, q, rfl, hf, h0, h1⟩ | ⟨y, rfl, hy⟩ | ⟨k, y, l, rfl, hk, hy, hl⟩
      · obtain ⟨p, A', rfl, hA'⟩ := map_cons_eq hA
        obtain rfl : A' = [] := by simpa using hA'
        exact ⟨fun _ => rfl, fun h => absurd (Or.inl rfl) h⟩
      · refine ⟨fun _ => ?_, fun h => absurd (Or.inr (Or.inl ⟨f, lo, hi, rfl, hf, h0, h1, h2⟩)) h⟩
        obtain ⟨p, A', rfl, hA'⟩ := map_cons_eq hA
        obtain ⟨p', A'', rfl, hA''⟩ := map_cons_eq hA'
        obtain rfl : A'' = [] := by simpa using hA''
        obtain ⟨n1, n2, n3, n4⟩ := name_cases f hf
        have hh : hdW ((nameF f, p) :: ([(numW lo hi, p')] ++ R)) = nameF f := rfl
        show readF n (d + 1) ((nameF f, p) :: ([(numW lo hi, p')] ++ R)) = _
        rw [read_fld_ (by rw [hh]; exact n1) (by rw [hh]; exact n2) (by rw [hh]; exact n3), hh, n4]
        show tstF n f ((numW lo hi, p') :: R) = _
        rw [tst_no (show (hdW ((numW lo hi, p') :: R) == [104, 97, 115]) = false from numW_has h0)]
        show (match testF f (numW lo hi) with | .ok t => _ | .error c => _) = _
        rw [testF_numW f h0 h1 h2]
        rfl
      · refine ⟨fun _ => ?_, fun h => absurd (Or.inr (Or.inr (Or.inl ⟨f, q, rfl, hf, h0, h1⟩))) h⟩
        obtain ⟨p, A', rfl, hA'⟩ := map_cons_eq hA
        obtain ⟨p', A'', rfl, hA''⟩ := map_cons_eq hA'
        obtain ⟨p2, A3, rfl, hA3⟩ := map_cons_eq hA''
        obtain rfl : A3 = [] := by simpa using hA3
        obtain ⟨n1, n2, n3, n4⟩ := name_cases f hf
        have hh : hdW ((nameF f, p) :: ([([104, 97, 115], p'), (Lib.itoa q, p2)] ++ R)) = nameF f := rfl
        show readF n (d + 1) ((nameF f, p) :: ([([104, 97, 115], p'), (Lib.itoa q, p2)] ++ R)) = _
        rw [read_fld_ (by rw [hh]; exact n1) (by rw [hh]; exact n2) (by rw [hh]; exact n3), hh, n4]
        show tstF n f (([104, 97, 115], p') :: (Lib.itoa q, p2) :: R) = _
        rw [tst_has rfl]
        show (match numF (Lib.itoa q) with | some q => _ | none => _) = _
        rw [numF_itoa h0 h1]
        rfl
      · obtain ⟨p, A', rfl, hA'⟩ := map_cons_eq hA
        obtain ⟨i1, i2⟩ := ih e y hy A' R hA'
        have hr : readF n (d + 1) ((([110, 111, 116], p) :: A') ++ R) = notR (readF n d (A' ++ R)) := read_not_ rfl rfl
        have hs : shp (d + 1) (notT y) ↔ shp d y := by
          constructor
          · rintro (h | ⟨f, lo, hi, h, _⟩ | ⟨f, q, h, _⟩ | ⟨z, h, hz⟩ | ⟨k, z, l, h, hk, _⟩)
            · injection h with h; cases h
            · injection h with h; cases h
            · injection h with h; cases h
            · injection h with _ _ _ _ h; injection h with h; subst h; exact hz
            · injection h with h; omega
          · exact fun h => Or.inr (Or.inr (Or.inr (Or.inl ⟨y, rfl, h⟩)))
        refine ⟨fun h => ?_, fun h => ?_⟩
        · rw [hr, i1 (hs.1 h)]; rfl
        · obtain ⟨q, hq⟩ := i2 fun h' => h (hs.2 h')
          exact ⟨q, by rw [hr, hq]; rfl⟩
      · have hk4 : k = 4 ∨ k = 5 := by omega
        have e4 : tkW (e + 1) ⟨k, 0, 0, 0, y :: l⟩ = [40] :: ((tkW e y ++ l.flatMap fun z => sepW k :: tkW e z) ++ [[41]]) := by rcases hk4 with rfl | rfl <;> rfl
        rw [e4] at hA
        obtain ⟨p, A', rfl, hA'⟩ := map_cons_eq hA
        have hr : readF n (d + 1) ((([40], p) :: A') ++ R) = grpF n (readF n d) ((A' ++ R).length + 1) [] [] (A' ++ R) := read_grp_ rfl rfl rfl
        have hlen : l.length < (A' ++ R).length + 1 := by
          have h1 := congrArg List.length hA'
          have h2 : ∀ l : List Ft, l.length ≤ (l.flatMap fun z => sepW k :: tkW e z).length := by
            intro l
            induction l with
            | nil => simp
            | cons a l ih => simp only [List.flatMap_cons, List.length_append, List.length_cons]; omega
          have h3 := h2 l
          simp only [List.length_map, List.length_append] at h1
          simp only [List.length_append]
          omega
        obtain ⟨g1, g2⟩ := grp_ok (n := n) (d := d) (e := e) (K := k) (rd := readF n d) l y ((A' ++ R).length + 1) [] [] A' R (fun z hz X Y hX => ih e z (by rcases List.mem_cons.1 hz with rfl | hz; exact hy; exact hl z hz) X Y hX) hA' (Or.inl rfl) hlen
        have hs : shp (d + 1) ⟨k, 0, 0, 0, y :: l⟩ ↔ ∀ z ∈ y :: l, shp d z := by
          constructor
          · rintro (h | ⟨f, lo, hi, h, _⟩ | ⟨f, q, h, _⟩ | ⟨z, h, hz⟩ | ⟨k', y', l', h, hk', hy', hl'⟩)
            · injection h with h; omega
            · injection h with h; omega
            · injection h with h; omega
            · injection h with h; omega
            · injection h with _ _ _ _ h; injection h with h1 h2; subst h1 h2
              intro z hz
              rcases List.mem_cons.1 hz with rfl | hz
              · exact hy'
              · exact hl' z hz
          · exact fun h => Or.inr (Or.inr (Or.inr (Or.inr ⟨k, y, l, rfl, hk, h y (by simp), fun z hz => h z (by simp [hz])⟩)))
        rw [hr]
        refine ⟨fun h => ?_, fun h => g2 fun h' => h (hs.2 h')⟩
        rw [g1 (hs.1 h)]
        have ek : (if (if l = [] then [] else sepW k) == [111, 114] then 5 else 4) = k := by
          rcases hk with rfl | ⟨rfl, hne⟩
          · by_cases hn : l = []
            · simp [hn]
            · simp [hn, sepW]
          · simp [hne, sepW]
        rw [ek]
        rfl
/-! ### what is read has that shape -/
theorem grp_shp {n d : Nat} {rd : List (List UInt8 × Nat) → Rd} (hrd : ∀ L t R, rd L = .ok (t, R) → shp d t) :
    ∀ (k : Nat) (word : List UInt8) (parts : List Ft) (L : List (List UInt8 × Nat)) (t : Ft) (R : List (List UInt8 × Nat)), grpF n rd k word parts L = .ok (t, R) → (∀ z ∈ parts, shp d z) → (word ≠ [] → parts ≠ []) → shp (d + 1) t
  | 0, _, _, _, _, _, h, _, _ => by rw [grpF] at h; cases h
  | k + 1, word, parts, L, t, R, h, hp, hw => by
    rw [grpF] at h
    rcases hr : rd L with e | p
    · rw [hr] at h; cases h
    · obtain ⟨u, R1⟩ := p
      have hu := hrd L u R1 hr
      rw [hr] at h
      simp only [] at h
      split at h
      · obtain ⟨rfl, rfl⟩ := Prod.mk.inj (ok_inj h)
        cases parts with
        | nil =>
          have hw0 : word = [] := Classical.byContradiction fun h => absurd rfl (hw h)
          subst hw0
          exact Or.inr (Or.inr (Or.inr (Or.inr ⟨4, u, [], rfl, Or.inl rfl, hu, fun z hz => by cases hz⟩)))
        | cons a ps =>
          refine Or.inr (Or.inr (Or.inr (Or.inr ⟨_, a, ps ++ [u], rfl, ?_, hp a (by simp), fun z hz => ?_⟩)))
          · split
            · exact Or.inr ⟨rfl, by simp⟩
            · exact Or.inl rfl
          · rcases List.mem_append.1 hz with h1 | h1
            · exact hp z (by simp [h1])
            · simp at h1; subst h1; exact hu
      · split at h
        · refine grp_shp hrd k _ _ _ _ _ h (fun z hz => ?_) (fun _ => by simp)
          rcases List.mem_append.1 hz with h1 | h1
          · exact hp z h1
          · simp at h1; subst h1; exact hu
        · cases h
theorem tst_shp {n d f : Nat} {L R : List (List UInt8 × Nat)} {t : Ft} (hf : f < 5) (h : tstF n f L = .ok (t, R)) : shp (d + 1) t := by
  unfold tstF at h
  split at h
  · split at h
    · rename_i q hq
      obtain ⟨rfl, rfl⟩ := Prod.mk.inj (ok_inj h)
      have := numF_bd hq
      exact Or.inr (Or.inr (Or.inl ⟨f, q, rfl, hf, this.1, this.2⟩))
    · cases h
  · split at h
    · rename_i t' ht
      obtain ⟨rfl, rfl⟩ := Prod.mk.inj (ok_inj h)
      unfold testF at ht
      split at ht
      · cases ht
      · rename_i lo hlo
        split at ht
        · cases ht
        · rename_i hi hhi
          split at ht
          · cases ht
          · injection ht with ht
            subst ht
            have b1 := numF_bd hlo
            have b2 := numF_bd hhi
            exact Or.inr (Or.inl ⟨f, lo, hi, rfl, hf, b1.1, by omega, b2.2⟩)
    · cases h
theorem read_shp (n : Nat) : ∀ (d : Nat) (L : List (List UInt8 × Nat)) (t : Ft) (R : List (List UInt8 × Nat)), readF n d L = .ok (t, R) → shp d t
  | 0, _, _, _, h => by rw [readF] at h; cases h
  | d + 1, L, t, R, h => by
    rw [readF] at h
    split at h
    · obtain ⟨rfl, rfl⟩ := Prod.mk.inj (ok_inj h)
      exact Or.inl rfl
    · split at h
      · split at h
        · rename_i p hp
          obtain ⟨rfl, rfl⟩ := Prod.mk.inj (ok_inj h)
          exact Or.inr (Or.inr (Or.inr (Or.inl ⟨p.1, rfl, read_shp n d L.tail p.1 p.2 (by rw [hp])⟩)))
        · cases h
      · split at h
        · exact grp_shp (fun L t R => read_shp n d L t R) _ _ _ _ _ _ h (fun z hz => by cases hz) (fun h => absurd rfl h)
        · split at h
          · rename_i f hf
            exact tst_shp (fieldL_lt hf) h
          · cases h
theorem parse_shp {l : List UInt8} {t : Ft} (h : parseF l = some t) : shp 20 t := by
  obtain ⟨_, h2⟩ := parseF_ok h
  unfold parseG at h2
  split at h2
  · rename_i t2 R hr
    split at h2
    · injection h2 with h2
      subst h2
      exact read_shp _ _ _ _ _ hr
    · cases h2
  · cases h2
/-- Of a text that is written a filter is read: that one. -/
theorem back_one {t : Ft} (h : shp 20 t) : parseG (textF 20 t) = .ok t := by
  obtain ⟨A, q, e1, e2⟩ := txt_ok 20 t h [] 0 (Or.inl rfl)
  rw [List.append_nil, show signsL [32, 40, 41] [] q = [] from rfl] at e1
  unfold parseG
  rw [e1, (rd_ok _ 20 20 t h A [] e2).1 h]
  rfl
/-- With not ahead: its other side, unless too many stand one in the other. -/
theorem back_not {t : Ft} (h : shp 20 t) : parseG ([110, 111, 116, 32] ++ textF 20 t) = .ok (notT t) ∨ ∃ p, parseG ([110, 111, 116, 32] ++ textF 20 t) = .error (4, p) := by
  have hT : TxtS ([110, 111, 116] ++ (32 :: textF 20 t)) ([[110, 111, 116]] ++ tkW 20 t) := txt_two (txt_word (l := [110, 111, 116]) (fun b hb => by simp at hb; rcases hb with rfl | rfl | rfl <;> rfl) (by simp)) (txt_ok 20 t h)
  obtain ⟨A, q, e1, e2⟩ := hT [] 0 (Or.inl rfl)
  rw [List.append_nil, show signsL [32, 40, 41] [] q = [] from rfl] at e1
  have e0 : [110, 111, 116, 32] ++ textF 20 t = [110, 111, 116] ++ (32 :: textF 20 t) := by simp
  rw [e0]
  obtain ⟨p, A', rfl, hA'⟩ := map_cons_eq e2
  obtain ⟨r1, r2⟩ := rd_ok ([110, 111, 116] ++ (32 :: textF 20 t)).length 19 20 t h A' [] hA'
  have hr : readF ([110, 111, 116] ++ (32 :: textF 20 t)).length 20 ((([110, 111, 116], p) :: A') ++ []) = notR (readF ([110, 111, 116] ++ (32 :: textF 20 t)).length 19 (A' ++ [])) := read_not_ rfl rfl
  by_cases h19 : shp 19 t
  · left
    unfold parseG
    rw [e1, hr, r1 h19]
    rfl
  · right
    obtain ⟨p2, hp2⟩ := r2 h19
    refine ⟨p2, ?_⟩
    unfold parseG
    rw [e1, hr, hp2]
    rfl
end Go.Proofs.YtpaojmfgpeldeaaGreatDoor
