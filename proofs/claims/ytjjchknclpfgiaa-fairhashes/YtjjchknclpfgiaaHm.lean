/-
  fair.Hashed: what FairHashes counts along the steps, list by list, is how many wait there; what is thrown away is of a longest list. Mathematics of the model alone.
-/
import Derived.Test.YtjjchknclpfgiaaHl
namespace Go.Proofs.Ytjjchknclpfgiaa
open Go.RowKit Go.Extern.Stop Go.Stop Go.Extern

def whS (p : HaC) (W : List Int) (st : Stp) : List Int := if st.what = 0 then W ++ [whereN p st.f] else W
def whO (p : HaC) (ts : List Stp) : Nat → List Int
  | 0 => []
  | i + 1 => match ts[i]? with
    | none => whO p ts i
    | some t => whS p (whO p ts i) t
theorem whO_succ {p : HaC} {ts : List Stp} {i : Nat} {t : Stp} (h : ts[i]? = some t) : whO p ts (i + 1) = whS p (whO p ts i) t := by simp only [whO, h]
theorem whO_len (p : HaC) (ts : List Stp) (i : Nat) : (whO p ts i).length ≤ i := by
  induction i with
  | zero => simp [whO]
  | succ i ih =>
    simp only [whO]
    split
    · omega
    · unfold whS
      split
      · simp; omega
      · omega
/-- One of number j is out. -/
def outM (W : List Int) (m : Nat → Int) (j : Int) : Nat → Int := updF m (W.getD j.toNat 0).toNat (m (W.getD j.toNat 0).toNat - 1)
theorem outM_at {W : List Int} {m : Nat → Int} {j : Int} {x : Nat} (h : W[j.toNat]? = some (x : Int)) : outM W m j = updF m x (m x - 1) := by
  have e : (W.getD j.toNat 0).toNat = x := by rw [List.getD_eq_getElem?_getD, h]; simp
  unfold outM
  rw [e]
def manL (W : List Int) (m : Nat → Int) (l : List Int) : Nat → Int := l.foldl (outM W) m
theorem manL_succ {W : List Int} {m : Nat → Int} {l : List Int} {k : Nat} {j : Int} (h : l[k]? = some j) : manL W m (l.take (k + 1)) = outM W (manL W m (l.take k)) j := by
  unfold manL
  rw [List.take_add_one, h, List.foldl_append]
  rfl
def manP (p : HaC) (m : Nat → Int) (st : Stp) : Nat → Int := if st.what = 0 then updF m (whereN p st.f).toNat (m (whereN p st.f).toNat + 1) else m
def manT (W : List Int) (m : Nat → Int) (t : Int) : Nat → Int := if 0 ≤ t then outM W m t else m
def manO (p : HaC) (ts : List Stp) (ss : List Sn) : Nat → Nat → Int
  | 0 => fun _ => 0
  | i + 1 => match ts[i]?, ss[i]? with
    | some t, some sn => manT (whO p ts (i + 1)) (manL (whO p ts (i + 1)) (manP p (manO p ts ss i) t) sn.lost) sn.taken
    | _, _ => manO p ts ss i
theorem manO_succ {p : HaC} {ts : List Stp} {ss : List Sn} {i : Nat} {t : Stp} {sn : Sn} (h : ts[i]? = some t) (h2 : ss[i]? = some sn) : manO p ts ss (i + 1) = manT (whO p ts (i + 1)) (manL (whO p ts (i + 1)) (manP p (manO p ts ss i) t) sn.lost) sn.taken := by simp only [manO, h, h2]
/-- What FairHashes looks at in one step. -/
structure HStep (p : HaC) (W : List Int) (m : Nat → Int) (st : Stp) (sn : Sn) : Prop where
  bd0 : ∀ x, x < 64 → 0 ≤ m x ∧ m x ≤ 1000
  bd : ∀ k x, x < 64 → -1 ≤ manL W (manP p m st) (sn.lost.take k) x ∧ manL W (manP p m st) (sn.lost.take k) x ≤ 1000
  lost : ∀ k j, sn.lost[k]? = some j → 0 ≤ j ∧ ∃ x : Nat, (x : Int) < p.many ∧ W[j.toNat]? = some (x : Int) ∧ ∀ y : Nat, (y : Int) < p.many → manL W (manP p m st) (sn.lost.take k) y ≤ manL W (manP p m st) (sn.lost.take k) x
  taken : 0 ≤ sn.taken → ∃ x : Nat, (x : Int) < p.many ∧ W[sn.taken.toNat]? = some (x : Int)
  few : sn.len ≤ p.room
structure MInv (p : HaC) (W : List Int) (m : Nat → Int) (n : Nat) (s : HaS) : Prop where
  len : W.length = n
  man : ∀ f, f < 64 → m f = ((s.fl f).length : Int)
  has : ∀ f, f < 64 → ∀ y ∈ s.fl f, 0 ≤ y.n ∧ y.n < n ∧ W[y.n.toNat]? = some (f : Int)
  few : ((allF s.fl 64).length : Int) ≤ p.room
theorem allF_ge {fl : Nat → List Hd} {N f : Nat} (hf : f < N) : (fl f).length ≤ (allF fl N).length := by
  obtain ⟨R, h1, _⟩ := allF_split (fl := fl) hf []
  have := h1.length_eq
  simp at this
  omega
theorem lsOr_mem {L : List Hd} (h : L ≠ []) : lsOr L ∈ L := by
  have := snoc_last h
  rw [this]
  simp [lsOr]
theorem hstep {b : Nat} {p : HaC} {s : HaS} {n : Nat} {W : List Int} {m : Nat → Int} {st : Stp} (hm0 : 1 ≤ p.many) (hm1 : p.many ≤ 64) (hr0 : 0 ≤ p.room) (hr1 : p.room ≤ 900) (hI : HaI p s) (h : MInv p W m n s) (hok : st.what = 0 → It.ok ⟨st.a, st.l, st.f, st.b, st.m⟩ = true) :
    HStep p (whS p W st) m st (stepQ (HashM b p) s n st).2 ∧ MInv p (whS p W st) (manT (whS p W st) (manL (whS p W st) (manP p m st) (stepQ (HashM b p) s n st).2.lost) (stepQ (HashM b p) s n st).2.taken) (stepQ (HashM b p) s n st).1.2 (stepQ (HashM b p) s n st).1.1 := by
  have hbd : ∀ x, x < 64 → 0 ≤ m x ∧ m x ≤ 900 := by
    intro x hx
    have h1 := h.man x hx
    have h2 := allF_ge (fl := s.fl) hx
    have h3 := h.few
    omega
  by_cases hw : st.what = 0
  · have e1 : (stepQ (HashM b p) s n st).1 = ((putH p s (hdOf st n)).1, n + 1) := by simp only [stepQ, if_pos hw]; rfl
    have e2 : (stepQ (HashM b p) s n st).2.lost = (putH p s (hdOf st n)).2.map Hd.n := by simp only [stepQ, if_pos hw]; rfl
    have e3 : (stepQ (HashM b p) s n st).2.taken = -1 := by simp only [stepQ, if_pos hw]
    have e4 : (stepQ (HashM b p) s n st).2.len = ((allF (putH p s (hdOf st n)).1.fl 64).length : Int) := by simp only [stepQ, if_pos hw]; rfl
    have eW : whS p W st = W ++ [whereN p st.f] := by simp only [whS, if_pos hw]
    have eM : manP p m st = updF m (whereN p st.f).toNat (m (whereN p st.f).toNat + 1) := by simp only [manP, if_pos hw]
    have hb := whereN_bd hm0 st.f
    have hI1 : HaI p (intoH p s (hdOf st n)) := hI.into hm0 hm1 (x := hdOf st n) (hok hw)
    have hlen1 := (into_keeps hm0 hm1 s (hdOf st n)).length_eq
    simp only [List.length_append, List.length_cons, List.length_nil] at hlen1
    have hman1 : ∀ f, f < 64 → manP p m st f = (((intoH p s (hdOf st n)).fl f).length : Int) := by
      intro f hf
      rw [eM]
      show _ = ((updF s.fl (whereN p st.f).toNat (s.fl (whereN p st.f).toNat ++ [hdOf st n]) f).length : Int)
      by_cases e : f = (whereN p st.f).toNat
      · rw [← e, updF_same, updF_same, h.man f hf]; simp
      · rw [updF_ne e, updF_ne e, h.man f hf]
    have hhas1 : ∀ f, f < 64 → ∀ y ∈ (intoH p s (hdOf st n)).fl f, 0 ≤ y.n ∧ y.n < ((n + 1 : Nat) : Int) ∧ (whS p W st)[y.n.toNat]? = some (f : Int) := by
      intro f hf y hy
      rw [eW]
      have hy' : y ∈ updF s.fl (whereN p st.f).toNat (s.fl (whereN p st.f).toNat ++ [hdOf st n]) f := hy
      have hold : y ∈ s.fl f → 0 ≤ y.n ∧ y.n < ((n + 1 : Nat) : Int) ∧ (W ++ [whereN p st.f])[y.n.toNat]? = some (f : Int) := by
        intro h1
        obtain ⟨a1, a2, a3⟩ := h.has f hf y h1
        refine ⟨a1, by omega, ?_⟩
        rw [List.getElem?_append_left (by rw [h.len]; omega)]
        exact a3
      by_cases e : f = (whereN p st.f).toNat
      · rw [← e, updF_same] at hy'
        rcases List.mem_append.1 hy' with h1 | h1
        · exact hold h1
        · simp at h1
          subst h1
          refine ⟨Int.natCast_nonneg n, by show (n : Int) < _; omega, ?_⟩
          show (W ++ [whereN p st.f])[((n : Int)).toNat]? = some (f : Int)
          rw [Int.toNat_natCast, List.getElem?_append_right (by rw [h.len]; omega), h.len]
          simp
          omega
      · rw [updF_ne e] at hy'; exact hold hy'
    have hbd1 : ∀ x, x < 64 → 0 ≤ manP p m st x ∧ manP p m st x ≤ 901 := by
      intro x hx
      have h1 := hman1 x hx
      have h2 := allF_ge (fl := (intoH p s (hdOf st n)).fl) hx
      have h3 := h.few
      omega
    rw [e1]
    by_cases hfit : ((allF (intoH p s (hdOf st n)).fl 64).length : Int) ≤ p.room
    · have eP : putH p s (hdOf st n) = (intoH p s (hdOf st n), []) := by unfold putH; rw [if_pos hfit]
      rw [eP] at e2 e4 ⊢
      refine ⟨⟨fun x hx => by have := hbd x hx; omega, fun k x hx => ?_, fun k j hj => ?_, fun ht => ?_, by rw [e4]; exact hfit⟩, ⟨?_, fun f hf => ?_, hhas1, hfit⟩⟩
      · rw [e2]; simp only [List.map_nil, List.take_nil, manL, List.foldl_nil]; have := hbd1 x hx; omega
      · rw [e2] at hj; simp at hj
      · rw [e3] at ht; omega
      · show (whS p W st).length = n + 1; rw [eW]; simp [h.len]
      · rw [e2, e3]
        simp only [List.map_nil, manL, List.foldl_nil, manT]
        rw [if_neg (by decide)]
        exact hman1 f hf
    · have eP : putH p s (hdOf st n) = ((cutH (intoH p s (hdOf st n))).1, [(cutH (intoH p s (hdOf st n))).2]) := by unfold putH; rw [if_neg hfit]
      have hne := into_some hm0 hm1 s (hdOf st n)
      have hcl := (cut_keeps hne).length_eq
      simp only [List.length_append, List.length_cons, List.length_nil] at hcl
      have hfew : ((allF (cutH (intoH p s (hdOf st n))).1.fl 64).length : Int) ≤ p.room := by have := h.few; omega
      rw [eP] at e2 e4 ⊢
      have hK := longK_lt (intoH p s (hdOf st n)).fl 64 (by decide)
      have hmax := longK_max (intoH p s (hdOf st n)).fl 64
      have hc1 : (cutH (intoH p s (hdOf st n))).1.fl = updF (intoH p s (hdOf st n)).fl (longK (intoH p s (hdOf st n)).fl 64) ((intoH p s (hdOf st n)).fl (longK (intoH p s (hdOf st n)).fl 64)).dropLast := rfl
      have hc2 : (cutH (intoH p s (hdOf st n))).2 = lsOr ((intoH p s (hdOf st n)).fl (longK (intoH p s (hdOf st n)).fl 64)) := rfl
      have hmem := lsOr_mem hne
      rw [← hc2] at hmem
      generalize longK (intoH p s (hdOf st n)).fl 64 = K at *
      generalize intoH p s (hdOf st n) = s1 at *
      generalize (cutH s1).2 = z at *
      obtain ⟨z1, z2, z3⟩ := hhas1 K hK z hmem
      have hKm : (K : Int) < p.many := by
        have h1 := (hI1.ok K hK z hmem).2
        have h2 := whereN_bd hm0 z.f
        omega
      have e2' : (stepQ (HashM b p) s n st).2.lost = [z.n] := e2
      have hout : manL (whS p W st) (manP p m st) [z.n] = updF (manP p m st) K (manP p m st K - 1) := outM_at z3
      refine ⟨⟨fun x hx => by have := hbd x hx; omega, fun k x hx => ?_, fun k j hj => ?_, fun ht => ?_, by rw [e4]; exact hfew⟩, ⟨?_, fun f hf => ?_, fun f hf y hy => ?_, hfew⟩⟩
      · rw [e2']
        have h1 := hbd1 x hx
        have h2 := hbd1 K hK
        cases k with
        | zero => simp only [List.take_zero, manL, List.foldl_nil]; omega
        | succ k =>
          rw [show ([z.n] : List Int).take (k + 1) = [z.n] from by simp, hout]
          by_cases e : x = K
          · subst e; rw [updF_same]; omega
          · rw [updF_ne e]; omega
      · rw [e2'] at hj ⊢
        cases k with
        | zero =>
          simp at hj
          subst hj
          refine ⟨z1, K, hKm, z3, fun y hy => ?_⟩
          simp only [List.take_zero, manL, List.foldl_nil]
          rw [hman1 y (by omega), hman1 K hK]
          have := hmax y (by omega)
          omega
        | succ k => simp at hj
      · rw [e3] at ht; omega
      · show (whS p W st).length = n + 1; rw [eW]; simp [h.len]
      · rw [e2', e3]
        simp only [manT]
        rw [if_neg (by decide), hout]
        show updF (manP p m st) K (manP p m st K - 1) f = (((cutH s1).1.fl f).length : Int)
        rw [hc1]
        by_cases e : f = K
        · subst e
          rw [updF_same, updF_same, hman1 f hf, List.length_dropLast]
          have : 0 < (s1.fl f).length := List.length_pos_iff.2 hne
          omega
        · rw [updF_ne e, updF_ne e, hman1 f hf]
      · have hy' : y ∈ (cutH s1).1.fl f := hy
        rw [hc1] at hy'
        by_cases e : f = K
        · subst e; rw [updF_same] at hy'; exact hhas1 f hf y ((List.dropLast_sublist _).subset hy')
        · rw [updF_ne e] at hy'; exact hhas1 f hf y hy'
  · have eW : whS p W st = W := by simp only [whS, if_neg hw]
    have eM : manP p m st = m := by simp only [manP, if_neg hw]
    rw [eW]
    by_cases hw1 : st.what = 1
    · have e1 : (stepQ (HashM b p) s n st).1 = ((takeH s).1, n) := by simp only [stepQ, if_neg hw, if_pos hw1]; rfl
      have e2 : (stepQ (HashM b p) s n st).2.lost = (takeH s).2.1.map Hd.n := by simp only [stepQ, if_neg hw, if_pos hw1]; rfl
      have e3 : (stepQ (HashM b p) s n st).2.taken = if (takeH s).2.2.2 then (takeH s).2.2.1.n else -1 := by simp only [stepQ, if_neg hw, if_pos hw1]; rfl
      have e4 : (stepQ (HashM b p) s n st).2.len = ((allF (takeH s).1.fl 64).length : Int) := by simp only [stepQ, if_neg hw, if_pos hw1]; rfl
      rw [e1]
      rcases takeH_fl s with ⟨h1, h2, h3⟩ | ⟨f, x, L, hf, hL, h2, h3⟩
      · rw [h1] at e3
        rw [h3] at e2
        rw [h2] at e4
        have e2' : (stepQ (HashM b p) s n st).2.lost = [] := e2
        have e3' : (stepQ (HashM b p) s n st).2.taken = -1 := e3
        refine ⟨⟨fun x hx => by have := hbd x hx; omega, fun k x hx => ?_, fun k j hj => ?_, fun ht => ?_, by rw [e4]; exact h.few⟩, ⟨h.len, fun f hf => ?_, fun f hf y hy => ?_, ?_⟩⟩
        · rw [e2', eM]; simp only [List.take_nil, manL, List.foldl_nil]; have := hbd x hx; omega
        · rw [e2'] at hj; simp at hj
        · rw [e3'] at ht; omega
        · rw [e2', e3', eM]
          simp only [manL, List.foldl_nil, manT]
          rw [if_neg (by decide)]
          show m f = (((takeH s).1.fl f).length : Int)
          rw [h2]; exact h.man f hf
        · have hy' : y ∈ (takeH s).1.fl f := hy
          rw [h2] at hy'; exact h.has f hf y hy'
        · show ((allF (takeH s).1.fl 64).length : Int) ≤ p.room
          rw [h2]; exact h.few
      · rw [h3] at e2 e3
        have e2' : (stepQ (HashM b p) s n st).2.lost = [] := e2
        have e3' : (stepQ (HashM b p) s n st).2.taken = x.n := e3
        have hx : x ∈ s.fl f := by rw [hL]; simp
        obtain ⟨a1, a2, a3⟩ := h.has f hf x hx
        have hfm : (f : Int) < p.many := by
          have g1 := (hI.ok f hf x hx).2
          have g2 := whereN_bd hm0 x.f
          omega
        have hfew : ((allF (takeH s).1.fl 64).length : Int) ≤ p.room := by
          rw [h2]
          obtain ⟨R, g1, g2⟩ := allF_split (fl := s.fl) hf L
          have g3 := g1.length_eq
          have g4 := g2.length_eq
          rw [hL] at g3
          simp only [List.length_append, List.length_cons] at g3 g4
          have := h.few
          omega
        refine ⟨⟨fun x hx => by have := hbd x hx; omega, fun k x hx => ?_, fun k j hj => ?_, fun ht => ?_, by rw [e4]; exact hfew⟩, ⟨h.len, fun g hg => ?_, fun g hg y hy => ?_, hfew⟩⟩
        · rw [e2', eM]; simp only [List.take_nil, manL, List.foldl_nil]; have := hbd x hx; omega
        · rw [e2'] at hj; simp at hj
        · rw [e3']; exact ⟨f, hfm, a3⟩
        · rw [e2', e3', eM]
          simp only [manL, List.foldl_nil, manT]
          rw [if_pos a1, outM_at a3]
          show updF m f (m f - 1) g = (((takeH s).1.fl g).length : Int)
          rw [h2]
          by_cases e : g = f
          · subst e; rw [updF_same, updF_same, h.man g hg, hL]; simp
          · rw [updF_ne e, updF_ne e, h.man g hg]
        · have hy' : y ∈ (takeH s).1.fl g := hy
          rw [h2] at hy'
          by_cases e : g = f
          · subst e; rw [updF_same] at hy'; exact h.has g hg y (by rw [hL]; exact List.mem_cons_of_mem _ hy')
          · rw [updF_ne e] at hy'; exact h.has g hg y hy'
    · have e1 : (stepQ (HashM b p) s n st).1 = (s, n) := by simp only [stepQ, if_neg hw, if_neg hw1]; rfl
      have e2 : (stepQ (HashM b p) s n st).2.lost = [] := by simp only [stepQ, if_neg hw, if_neg hw1]
      have e3 : (stepQ (HashM b p) s n st).2.taken = -1 := by simp only [stepQ, if_neg hw, if_neg hw1]
      have e4 : (stepQ (HashM b p) s n st).2.len = ((allF s.fl 64).length : Int) := by simp only [stepQ, if_neg hw, if_neg hw1]; rfl
      rw [e1]
      refine ⟨⟨fun x hx => by have := hbd x hx; omega, fun k x hx => ?_, fun k j hj => ?_, fun ht => ?_, by rw [e4]; exact h.few⟩, ?_⟩
      · rw [e2, eM]; simp only [List.take_nil, manL, List.foldl_nil]; have := hbd x hx; omega
      · rw [e2] at hj; simp at hj
      · rw [e3] at ht; omega
      · rw [e2, e3, eM]
        simp only [manL, List.foldl_nil, manT]
        rw [if_neg (by decide)]
        exact h
theorem MInv.zero (p : HaC) (hr0 : 0 ≤ p.room) : MInv p [] (fun _ => 0) 0 ha0 := by
  have h00 : (allF ha0.fl 64).length = 0 := by decide
  exact ⟨rfl, fun f hf => by simp [ha0], fun f hf y hy => by simp [ha0] at hy, by omega⟩
theorem hash_run {b : Nat} {p : HaC} (hM : (HashM b p).Fine) (hm0 : 1 ≤ p.many) (hm1 : p.many ≤ 64) (hr0 : 0 ≤ p.room) (hr1 : p.room ≤ 900) (xs : List Stp) (hn : xs.length ≤ 1000) (s0 : (HashM b p).σ) (hz : MInv p [] (fun _ => 0) 0 s0) (hI0 : (HashM b p).inv 0 0 s0) :
    ∀ i t sn, (timesL 0 xs)[i]? = some t → (playFrom (HashM b p) s0 0 (timesL 0 xs))[i]? = some sn → HStep p (whO p (timesL 0 xs) (i + 1)) (manO p (timesL 0 xs) (playFrom (HashM b p) s0 0 (timesL 0 xs)) i) t sn := by
  have hall : ∀ i, i ≤ (timesL 0 xs).length → MInv p (whO p (timesL 0 xs) i) (manO p (timesL 0 xs) (playFrom (HashM b p) s0 0 (timesL 0 xs)) i) (stFrom (HashM b p) s0 0 (timesL 0 xs) i).2 (stFrom (HashM b p) s0 0 (timesL 0 xs) i).1 := by
    intro i
    induction i with
    | zero =>
      intro _
      have e := stFrom_zero (HashM b p) s0 0 (timesL 0 xs)
      rw [e]
      exact hz
    | succ i ih =>
      intro hi
      obtain ⟨st, hst⟩ : ∃ st, (timesL 0 xs)[i]? = some st := ⟨_, List.getElem?_eq_getElem (by omega)⟩
      have e := stFrom_succ (M := HashM b p) (s := s0) (n := 0) hst
      have h1 := ih (by omega)
      obtain ⟨t1, t2, t3, t4, t5, t6⟩ := timesL_get hst hn
      rw [timesL_length] at hi
      have h2 := inv_run hM xs hn s0 hI0 i (by omega)
      have hs := hstep (b := b) hm0 hm1 hr0 hr1 h2.1 h1 t6
      rw [e, manO_succ hst (playFrom_at hst), whO_succ hst]
      exact hs.2
  intro i st sn hst hsn
  have hi := (List.getElem?_eq_some_iff.1 hst).1
  rw [playFrom_at hst] at hsn
  obtain rfl := Option.some.inj hsn
  have h1 := hall i (by omega)
  obtain ⟨t1, t2, t3, t4, t5, t6⟩ := timesL_get hst hn
  rw [timesL_length] at hi
  have h2 := inv_run hM xs hn s0 hI0 i (by omega)
  rw [whO_succ hst]
  exact (hstep (b := b) hm0 hm1 hr0 hr1 h2.1 h1 t6).1
end Go.Proofs.Ytjjchknclpfgiaa
