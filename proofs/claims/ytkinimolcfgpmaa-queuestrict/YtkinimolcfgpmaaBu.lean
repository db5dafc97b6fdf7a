/-
  Bands of Fifos are strict: what millracekeep.QueueStrict counts. Mathematics alone: nothing of the program is claimed here.
-/
import Derived.Test.YtkinimolcfgpmaaBt
namespace Go.Proofs.Ytkinimolcfgpmaa

def addB (N : Nat) (bd : List Int) (t : Stp) : List Int := if t.what = 0 then bd ++ [min t.b ((N : Int) - 1)] else bd
def lostB (b : List Int) (l : List Int) : List Int := l.foldl (fun b k => b.set k.toNat (-1)) b
def takB (b : List Int) (k : Int) : List Int := if 0 ≤ k then b.set k.toNat (-1) else b
def strS (N : Nat) (bd : List Int) (t : Stp) (sn : Sn) : List Int := takB (lostB (addB N bd t) sn.lost) sn.taken
theorem lostB_length (l : List Int) : ∀ b : List Int, (lostB b l).length = b.length := by
  induction l with
  | nil => intro b; rfl
  | cons k l ih => intro b; simp only [lostB, List.foldl_cons]; rw [← lostB, ih]; simp
theorem takB_length (b : List Int) (k : Int) : (takB b k).length = b.length := by unfold takB; split <;> simp
theorem lostB_snoc (b : List Int) (l : List Int) (k : Int) : lostB b (l ++ [k]) = (lostB b l).set k.toNat (-1) := by simp [lostB, List.foldl_append]
/-- The list of bands tells what waits. -/
structure BR (N : Nat) (bd : List Int) (s : Nat → List Hd) (n : Nat) : Prop where
  len : bd.length = n
  mem : ∀ i, i < N → ∀ x ∈ s i, 0 ≤ x.n ∧ x.n < n ∧ bd[x.n.toNat]? = some (i : Int)
  back : ∀ (j : Nat) v, bd[j]? = some v → 0 ≤ v → ∃ i : Nat, i < N ∧ v = i ∧ ∃ x ∈ s i, x.n = j
  sorted : ∀ i, i < N → ((s i).map Hd.n).Pairwise (· < ·)
theorem BR.same {N : Nat} {bd : List Int} {s s' : Nat → List Hd} {n : Nat} (h : BR N bd s n) (he : ∀ i, s' i = s i) : BR N bd s' n := by
  have : s' = s := funext he
  rw [this]; exact h
/-- A step is as it should be. -/
structure StrOk (N : Nat) (bd : List Int) (t : Stp) (sn : Sn) : Prop where
  lost : ∀ k ∈ sn.lost, 0 ≤ k ∧ k < (addB N bd t).length
  taken : 0 ≤ sn.taken → sn.taken < (addB N bd t).length ∧ ∃ bt, (lostB (addB N bd t) sn.lost)[sn.taken.toNat]? = some bt ∧ ∀ (j : Nat) v, (lostB (addB N bd t) sn.lost)[j]? = some v → 0 ≤ v → ¬ v < bt ∧ ¬ (v = bt ∧ (j : Int) < sn.taken)
theorem strOk_none {N : Nat} {bd : List Int} {t : Stp} {sn : Sn} (hl : sn.lost = []) (ht : sn.taken = -1) : StrOk N bd t sn := ⟨by rw [hl]; simp, fun h => by rw [ht] at h; exact absurd h (by decide)⟩
theorem strS_none {N : Nat} {bd : List Int} {t : Stp} {sn : Sn} (hl : sn.lost = []) (ht : sn.taken = -1) : strS N bd t sn = addB N bd t := by
  unfold strS takB
  rw [hl, ht, if_neg (by decide)]
  rfl
theorem getElem?_snoc {bd : List Int} {v : Int} {j : Nat} {u : Int} (h : (bd ++ [v])[j]? = some u) : (j < bd.length ∧ bd[j]? = some u) ∨ (j = bd.length ∧ u = v) := by
  by_cases hj : j < bd.length
  · rw [List.getElem?_append_left hj] at h
    exact Or.inl ⟨hj, h⟩
  · rw [List.getElem?_append_right (by omega)] at h
    have hj2 : j - bd.length = 0 := by
      have := (List.getElem?_eq_some_iff.1 h).1
      simp at this
      omega
    rw [hj2] at h
    simp at h
    exact Or.inr ⟨by omega, h.symm⟩
theorem str_full {N : Nat} {bd : List Int} {s : Nat → List Hd} {n : Nat} (h : BR N bd s n) : BR N (bd ++ [-1]) s (n + 1) := by
  refine ⟨by simp [h.len], fun i hi x hx => ?_, fun j v hj hv => ?_, h.sorted⟩
  · obtain ⟨h1, h2, h3⟩ := h.mem i hi x hx
    refine ⟨h1, by omega, ?_⟩
    rw [List.getElem?_append_left (List.getElem?_eq_some_iff.1 h3).1]
    exact h3
  · rcases getElem?_snoc hj with ⟨_, h1⟩ | ⟨_, h1⟩
    · exact h.back j v h1 hv
    · omega
theorem str_room {N : Nat} {bd : List Int} {s s' : Nat → List Hd} {n j : Nat} (h : BR N bd s n) (hj : j < N) {x : Hd} (hx : x.n = n) (h1 : s' j = s j ++ [x]) (h2 : ∀ i, i ≠ j → s' i = s i) : BR N (bd ++ [(j : Int)]) s' (n + 1) := by
  have hnew : (bd ++ [(j : Int)])[n]? = some (j : Int) := by rw [← h.len]; simp
  have hmem : ∀ i, i < N → ∀ y ∈ s i, 0 ≤ y.n ∧ y.n < (n + 1 : Nat) ∧ (bd ++ [(j : Int)])[y.n.toNat]? = some (i : Int) := by
    intro i hi y hy
    obtain ⟨k1, k2, k3⟩ := h.mem i hi y hy
    refine ⟨k1, by omega, ?_⟩
    rw [List.getElem?_append_left (List.getElem?_eq_some_iff.1 k3).1]
    exact k3
  refine ⟨by simp [h.len], fun i hi y hy => ?_, fun k v hk hv => ?_, fun i hi => ?_⟩
  · by_cases e : i = j
    · subst e
      rw [h1] at hy
      rcases List.mem_append.1 hy with hy | hy
      · exact hmem i hi y hy
      · simp at hy
        subst hy
        refine ⟨by omega, by omega, ?_⟩
        rw [hx]
        simpa using hnew
    · rw [h2 i e] at hy
      exact hmem i hi y hy
  · rcases getElem?_snoc hk with ⟨_, k1⟩ | ⟨k1, k2⟩
    · obtain ⟨i, hi, e, y, hy, ey⟩ := h.back k v k1 hv
      refine ⟨i, hi, e, y, ?_, ey⟩
      by_cases e' : i = j
      · subst e'; rw [h1]; exact List.mem_append_left _ hy
      · rw [h2 i e']; exact hy
    · refine ⟨j, hj, k2, x, by rw [h1]; simp, by rw [hx, k1, h.len]⟩
  · by_cases e : i = j
    · subst e
      rw [h1, List.map_append, List.pairwise_append]
      refine ⟨h.sorted i hi, by simp, ?_⟩
      intro a ha b hb
      simp only [List.map_cons, List.map_nil, List.mem_singleton] at hb
      obtain ⟨y, hy, rfl⟩ := List.mem_map.1 ha
      have := (h.mem i hi y hy).2.1
      omega
    · rw [h2 i e]; exact h.sorted i hi
theorem str_take {N : Nat} {bd : List Int} {s s' : Nat → List Hd} {n k : Nat} {x : Hd} {L : List Hd} (h : BR N bd s n) (hk : k < N) (he : ∀ j, j < k → s j = []) (hs : s k = x :: L) (h1 : s' k = L) (h2 : ∀ j, j ≠ k → s' j = s j) :
    (0 ≤ x.n ∧ x.n < bd.length ∧ bd[x.n.toNat]? = some (k : Int) ∧ ∀ (j : Nat) v, bd[j]? = some v → 0 ≤ v → ¬ v < (k : Int) ∧ ¬ (v = (k : Int) ∧ (j : Int) < x.n)) ∧ BR N (bd.set x.n.toNat (-1)) s' n := by
  obtain ⟨m1, m2, m3⟩ := h.mem k hk x (by rw [hs]; simp)
  have hsd := h.sorted k hk
  rw [hs] at hsd
  simp only [List.map_cons, List.pairwise_cons] at hsd
  have hgt : ∀ y ∈ L, x.n < y.n := fun y hy => hsd.1 y.n (List.mem_map.2 ⟨y, hy, rfl⟩)
  refine ⟨⟨m1, by rw [h.len]; exact m2, m3, fun j v hj hv => ?_⟩, ⟨by simp [h.len], fun i hi y hy => ?_, fun j v hj hv => ?_, fun i hi => ?_⟩⟩
  · obtain ⟨i, hi, rfl, y, hy, ey⟩ := h.back j v hj hv
    constructor
    · intro hlt
      rw [he i (by omega)] at hy
      simp at hy
    · rintro ⟨e, hlt⟩
      have e' : i = k := by omega
      subst e'
      rw [hs] at hy
      rcases List.mem_cons.1 hy with rfl | hy
      · omega
      · have := hgt y hy; omega
  · by_cases e : i = k
    · subst e
      rw [h1] at hy
      obtain ⟨k1, k2, k3⟩ := h.mem i hi y (by rw [hs]; simp [hy])
      have := hgt y hy
      refine ⟨k1, k2, ?_⟩
      rw [List.getElem?_set, if_neg (by omega)]
      exact k3
    · rw [h2 i e] at hy
      obtain ⟨k1, k2, k3⟩ := h.mem i hi y hy
      refine ⟨k1, k2, ?_⟩
      rw [List.getElem?_set, if_neg]
      · exact k3
      · intro e'
        rw [← e', m3] at k3
        simp at k3
        omega
  · rw [List.getElem?_set] at hj
    split at hj
    · rename_i e
      split at hj
      · simp at hj; omega
      · simp at hj
    · rename_i e
      obtain ⟨i, hi, e', y, hy, ey⟩ := h.back j v hj hv
      refine ⟨i, hi, e', y, ?_, ey⟩
      by_cases e2 : i = k
      · subst e2
        rw [hs] at hy
        rw [h1]
        rcases List.mem_cons.1 hy with rfl | hy
        · exfalso; omega
        · exact hy
      · rw [h2 i e2]; exact hy
  · by_cases e : i = k
    · subst e; rw [h1]; exact hsd.2
    · rw [h2 i e]; exact h.sorted i hi
theorem str_step {bs : Nat → Nat} {N B ob oo oc : Nat} {bd : List Int} {s : ∀ i, (FQ bs i).σ} {n : Nat} (hN : 1 ≤ N) (h : BR N bd s n) {st : Stp} (hok : st.what = 0 → 0 ≤ st.b) :
    StrOk N bd st (stepQ (BandsM (FQ bs) N B ob oo oc) s n st).2 ∧ BR N (strS N bd st (stepQ (BandsM (FQ bs) N B ob oo oc) s n st).2) (stepQ (BandsM (FQ bs) N B ob oo oc) s n st).1.1 (stepQ (BandsM (FQ bs) N B ob oo oc) s n st).1.2 := by
  by_cases hw : st.what = 0
  · have hb := hok hw
    obtain ⟨j, hj⟩ : ∃ j, bandOf N (hdOf st n) = j := ⟨_, rfl⟩
    have hjN : j < N := by rw [← hj]; exact bandOf_lt hN _
    have hjb : min st.b ((N : Int) - 1) = (j : Int) := by
      rw [← hj]
      show min st.b ((N : Int) - 1) = ((max 0 (min st.b ((N : Int) - 1))).toNat : Int)
      omega
    have ha : addB N bd st = bd ++ [(j : Int)] := by rw [addB, if_pos hw, hjb]
    have hstep : ∃ l b, stepQ (BandsM (FQ bs) N B ob oo oc) s n st = ((upd s j ((FQ bs j).put (s j) st.lt (hdOf st n)).1, n + 1), ⟨-1, 0, -1, l, b, ((FQ bs j).put (s j) st.lt (hdOf st n)).2.map Hd.n⟩) := by
      subst hj
      refine ⟨(BandsM (FQ bs) N B ob oo oc).len (upd s (bandOf N (hdOf st n)) ((FQ bs (bandOf N (hdOf st n))).put (s (bandOf N (hdOf st n))) st.lt (hdOf st n)).1), (BandsM (FQ bs) N B ob oo oc).bytes (upd s (bandOf N (hdOf st n)) ((FQ bs (bandOf N (hdOf st n))).put (s (bandOf N (hdOf st n))) st.lt (hdOf st n)).1), ?_⟩
      simp only [stepQ, if_pos hw]
      rfl
    obtain ⟨l, b, hstep⟩ := hstep
    rw [hstep]
    rcases FQ_put bs j (s j) st.lt (hdOf st n) with hp | hp
    · rw [hp]
      have hu : ∀ i, upd s j (s j) i = s i := by
        intro i
        by_cases e : i = j
        · subst e; rw [upd_same]
        · rw [upd_ne _ _ e]
      have hset : (bd ++ [(j : Int)]).set n (-1) = bd ++ [-1] := by rw [← h.len]; simp
      refine ⟨⟨?_, fun ht => absurd ht (by show ¬ (0 : Int) ≤ -1; decide)⟩, ?_⟩
      · rw [ha]
        intro k hk
        have hk' : k = (n : Int) := by simpa [hdOf] using hk
        subst hk'
        rw [List.length_append, h.len]
        simp only [List.length_cons, List.length_nil]
        omega
      · have es : strS N bd st ⟨-1, 0, -1, l, b, [hdOf st n].map Hd.n⟩ = bd ++ [-1] := by
          unfold strS takB
          rw [if_neg (by show ¬ (0 : Int) ≤ -1; decide), ha]
          show (bd ++ [(j : Int)]).set (n : Int).toNat (-1) = _
          rw [Int.toNat_natCast, hset]
        exact es ▸ (str_full h).same hu
    · rw [hp]
      refine ⟨strOk_none rfl rfl, ?_⟩
      rw [strS_none rfl rfl, ha]
      exact str_room (x := hdOf st n) h hjN rfl (upd_same _ _ _) (fun i hi => upd_ne _ _ hi)
  · have ha : addB N bd st = bd := by rw [addB, if_neg hw]
    by_cases hw1 : st.what = 1
    · have hstep : stepQ (BandsM (FQ bs) N B ob oo oc) s n st = (((takeB st.lt N 0 s []).1, n), ⟨if (takeB st.lt N 0 s []).2.2.2 then (takeB st.lt N 0 s []).2.2.1.n else -1, if (takeB st.lt N 0 s []).2.2.2 then (takeB st.lt N 0 s []).2.2.1.m else 0, -1, (BandsM (FQ bs) N B ob oo oc).len (takeB st.lt N 0 s []).1, (BandsM (FQ bs) N B ob oo oc).bytes (takeB st.lt N 0 s []).1, (takeB st.lt N 0 s []).2.1.map Hd.n⟩) := by simp only [stepQ, if_neg hw, if_pos hw1]; rfl
      rw [hstep]
      rcases takeB_fifo bs st.lt N 0 s [] with ⟨s', e1, e2, e3⟩ | ⟨s', k, x, L, e1, e2, e3, e4, e5, e6, e7⟩
      · rw [e1]
        refine ⟨strOk_none rfl rfl, ?_⟩
        rw [strS_none rfl rfl, ha]
        exact h.same e2
      · rw [e1]
        obtain ⟨⟨t1, t2, t3, t4⟩, hbr⟩ := str_take h (by omega) (fun j hj => e4 j (by omega) hj) e5 e6 e7
        refine ⟨⟨fun k hk => by simp at hk, fun _ => ?_⟩, ?_⟩
        · rw [ha]
          exact ⟨t2, k, t3, t4⟩
        · have es : strS N bd st ⟨if (s', ([] : List Hd), x, true).2.2.2 then (s', ([] : List Hd), x, true).2.2.1.n else -1, if (s', ([] : List Hd), x, true).2.2.2 then (s', ([] : List Hd), x, true).2.2.1.m else 0, -1, (BandsM (FQ bs) N B ob oo oc).len s', (BandsM (FQ bs) N B ob oo oc).bytes s', []⟩ = bd.set x.n.toNat (-1) := by
            unfold strS takB
            rw [ha]
            show (if 0 ≤ x.n then bd.set x.n.toNat (-1) else bd) = _
            rw [if_pos t1]
          exact es ▸ hbr
    · have hstep : stepQ (BandsM (FQ bs) N B ob oo oc) s n st = (((whenTo s st.lt N).1, n), ⟨-1, 0, if (whenTo s st.lt N).2.2 then (whenTo s st.lt N).2.1 else -1, (BandsM (FQ bs) N B ob oo oc).len (whenTo s st.lt N).1, (BandsM (FQ bs) N B ob oo oc).bytes (whenTo s st.lt N).1, []⟩) := by simp only [stepQ, if_neg hw, if_neg hw1]; rfl
      rw [hstep]
      refine ⟨strOk_none rfl rfl, ?_⟩
      rw [strS_none rfl rfl, ha]
      exact h.same (fun i => whenTo_fifo bs st.lt s N i)
/-- The list of bands behind k steps. -/
def bdAt (N : Nat) (ts : List Stp) (ss : List Sn) : Nat → List Int
  | 0 => []
  | k + 1 => match ts[k]?, ss[k]? with
    | some t, some sn => strS N (bdAt N ts ss k) t sn
    | _, _ => bdAt N ts ss k
theorem bdAt_succ {N : Nat} {ts : List Stp} {ss : List Sn} {k : Nat} {t : Stp} {sn : Sn} (h1 : ts[k]? = some t) (h2 : ss[k]? = some sn) : bdAt N ts ss (k + 1) = strS N (bdAt N ts ss k) t sn := by simp only [bdAt, h1, h2]
theorem timesL_okb {xs : List Stp} {i : Nat} {st : Stp} (h : (timesL 0 xs)[i]? = some st) (hw : st.what = 0) : 0 ≤ st.b := by
  have hi := (List.getElem?_eq_some_iff.1 h).1
  rw [timesL_length] at hi
  obtain ⟨y, hy⟩ : ∃ y, xs[i]? = some y := ⟨_, List.getElem?_eq_getElem hi⟩
  rw [timesL_at hy] at h
  obtain rfl := Option.some.inj h
  have h1 := timed_ok (t := nowAt 0 xs (i + 1)) (s := y) hw
  simp only [It.ok, Bool.and_eq_true, wth_iff] at h1
  show 0 ≤ y.b
  omega
theorem strict_all {bs : Nat → Nat} {N B ob oo oc : Nat} (hN : 1 ≤ N) (xs : List Stp) (s0 : (BandsM (FQ bs) N B ob oo oc).σ) (h0 : ∀ i, s0 i = ([] : List Hd)) : ∀ i t sn, (timesL 0 xs)[i]? = some t → (playFrom (BandsM (FQ bs) N B ob oo oc) s0 0 (timesL 0 xs))[i]? = some sn →
    StrOk N (bdAt N (timesL 0 xs) (playFrom (BandsM (FQ bs) N B ob oo oc) s0 0 (timesL 0 xs)) i) t sn ∧ (bdAt N (timesL 0 xs) (playFrom (BandsM (FQ bs) N B ob oo oc) s0 0 (timesL 0 xs)) i).length ≤ i := by
  have hall : ∀ i, i ≤ (timesL 0 xs).length → BR N (bdAt N (timesL 0 xs) (playFrom (BandsM (FQ bs) N B ob oo oc) s0 0 (timesL 0 xs)) i) (stFrom (BandsM (FQ bs) N B ob oo oc) s0 0 (timesL 0 xs) i).1 (stFrom (BandsM (FQ bs) N B ob oo oc) s0 0 (timesL 0 xs) i).2 := by
    intro i
    induction i with
    | zero =>
      intro _
      have e := stFrom_zero (BandsM (FQ bs) N B ob oo oc) s0 0 (timesL 0 xs)
      rw [e]
      refine ⟨rfl, fun i _ x hx => ?_, fun j v hj => by simp [bdAt] at hj, fun i _ => ?_⟩
      · have hx' : x ∈ ([] : List Hd) := h0 i ▸ hx
        simp at hx'
      · have e2 : (s0 i : List Hd) = [] := h0 i
        show List.Pairwise _ (List.map Hd.n (s0 i : List Hd))
        rw [e2]
        simp
    | succ i ih =>
      intro hi
      obtain ⟨st, hst⟩ : ∃ st, (timesL 0 xs)[i]? = some st := ⟨_, List.getElem?_eq_getElem (by omega)⟩
      have e := stFrom_succ (M := BandsM (FQ bs) N B ob oo oc) (s := s0) (n := 0) hst
      rw [e, bdAt_succ hst (playFrom_at hst)]
      exact (str_step hN (ih (by omega)) (timesL_okb hst)).2
  intro i t sn ht hsn
  have hi := (List.getElem?_eq_some_iff.1 ht).1
  have hbr := hall i (by omega)
  refine ⟨?_, ?_⟩
  · have h1 := (str_step (B := B) (ob := ob) (oo := oo) (oc := oc) hN hbr (timesL_okb ht)).1
    rw [playFrom_at ht] at hsn
    obtain rfl := Option.some.inj hsn
    exact h1
  · rw [hbr.len]
    have := stFrom_le (BandsM (FQ bs) N B ob oo oc) s0 0 (timesL 0 xs) i
    omega
end Go.Proofs.Ytkinimolcfgpmaa
