/-
  A map that is gone through while its own keys are set or struck; sketch.lower: each counter is one less, those at 0 are gone. Conditions: block b is a map of numbers, each at least 1.
-/
import Derived.Test.YtkmbnklfaaopaaaDoorSkM
namespace Go.Proofs.YtkmbnklfaaopaaaDoor
section
open Go.ChangeMaps Go.MapKept Go.WideShapes
open Go.WideElems (Fit rd rg pl rd_key rd_val rg_of rd_mk other_key)
open Go.Maps (Keyed)

/-- A store at a key that is there, in the round. -/
theorem ranges_put {H : Type} {P : Program} {k : TypeId} {R : Value → Option (DataW H × List MemPlace)} {w : World} {b r n : Nat} {D : DataW H} {left : Lit → Bool} {cnt : Nat} {t e : TypeId}
    (h : w.ranges P k R b r n D left cnt) (K : Keyed P k) (ht : P.underlying t = some (.map k e)) (hn : n < maxLen) {key val : Value} {kl : Lit} {d : DataW H} {ps : List MemPlace}
    (hkey : keyOf P k key = some kl) (hv : R val = some (d, ps)) (hin : Maps.has D kl = true) :
    ∃ w', (Instr.mapUpdate t (.map (some b)) key val).run P w = .ok () w' ∧ w'.ranges P k R b r n (D.put kl d) left cnt ∧ w.grownBy w' (some b) := by
  have hne := h.ne
  obtain ⟨es, clock, since, seen, c0, hb, F, hs, rfl, hr, hold, rfl, hl1, hl2, hsc, hsk⟩ := h
  rcases K.find w hkey es.toList F.keys with ⟨h1, h2⟩ | ⟨j, e0, h1, h2, h3⟩
  · exfalso
    obtain ⟨p, hp, hpk⟩ := List.any_eq_true.1 hin
    obtain ⟨x, hx, rfl⟩ := List.mem_map.1 (mem_sorted.1 hp)
    obtain ⟨y, hy⟩ := F.reads x hx
    have e1 := WideAt.sameKey_eq hpk
    rw [rg_of hy] at e1
    exact h2 x hx (K.inj (e1 ▸ rd_key hy) hkey)
  · have hj : es[j]? = some e0 := by simpa using h2
    have hjl : j < es.toList.length := (List.getElem?_eq_some_iff.1 h2).1
    have hrun : (Instr.mapUpdate t (.map (some b)) key val).run P w = .ok () (setBlock w b (.map (es.modify j (fun e' => { e' with key := key, val := val })) clock)) := by
      simp [Instr.mapUpdate, run_underlying ht, MapKept.run_getObj_map hb, K.check w false hkey, h1, hj, h3, K.stays w hkey, MapKept.run_setObj_map _ hb, Result.andThen, setBlock]
    obtain ⟨es1, clock1, hrun1, F1, hput, _, _, hwho⟩ := Maps.fit_store (R' := R) K ht hb F (Nat.lt_of_le_of_lt hs hn) (fun _ _ _ _ hz => hz) hkey hv
    have hw : setBlock w b (.map es1 clock1) = setBlock w b (.map (es.modify j (fun e' => { e' with key := key, val := val })) clock) := by
      have := hrun1.symm.trans hrun
      injection this
    have hes : es1 = es.modify j (fun e' => { e' with key := key, val := val }) ∧ clock1 = clock := by
      have a1 := heap_setBlock_same hb (.map es1 clock1)
      rw [hw, heap_setBlock_same hb] at a1
      simp only [Option.some.injEq, Obj.map.injEq] at a1
      exact ⟨a1.1.symm, a1.2.symm⟩
    obtain ⟨rfl, rfl⟩ := hes
    have hlist : (es.modify j (fun e' => { e' with key := key, val := val })).toList = es.toList.set j { e0 with key := key, val := val } := by rw [Array.toList_modify, modify_eq_set _ _ _ _ h2]
    have hbn : (es.toList.set j { e0 with key := key, val := val }).map MapEntry.born = es.toList.map MapEntry.born := by
      rw [List.map_set]
      have : (es.toList.map MapEntry.born)[j]? = some e0.born := by simp [h2]
      refine List.ext_getElem? fun i => ?_
      rw [List.getElem?_set]
      split
      · rename_i e1
        subst e1
        split
        · exact this.symm
        · rename_i e2
          simp at e2
          have := hjl
          simp at this
          omega
      · rfl
    have hm0 : e0 ∈ es.toList := List.mem_of_getElem? h2
    have hk0 : (rg P k R e0).1 = kl := by
      obtain ⟨y, hy⟩ := F.reads e0 hm0
      rw [rg_of hy]
      have m1 := rd_key hy
      rw [h3, hkey] at m1
      exact (Option.some.inj m1).symm
    have hkn : (rg P k R { e0 with key := key, val := val }).1 = kl := by rw [rg_of (rd_mk hkey hv)]
    have who : ∀ x ∈ es.toList.set j { e0 with key := key, val := val }, x = { e0 with key := key, val := val } ∨ x ∈ es.toList := fun x hx => by
      rcases List.mem_or_eq_of_mem_set hx with h | h
      · exact Or.inr h
      · exact Or.inl h
    have e1 : ∀ a : Array MapEntry, (leftOf a seen).size = ((a.toList.map MapEntry.born).filter fun e => !seen.contains e).length := fun a => by
      unfold leftOf
      rw [← Array.length_toList, Array.toList_filter, List.filter_map, List.length_map]
      rfl
    refine ⟨_, hrun, ⟨_, clock1, since, seen, c0, heap_setBlock_same hb _, F1, by simpa using hs, by rw [DataW.put_eq, hput], (heap_setBlock_other hb _ hne).trans hr, fun x hx => ?_, ?_, fun x hx => ?_, fun x0 hx0 => ?_, hsc, hsk⟩, ⟨rfl, rfl, rfl, by simp [setBlock], fun i _ hi => heap_setBlock_other hb _ (fun e => hi (by rw [e]))⟩⟩
    · rw [hlist] at hx
      rcases who x hx with rfl | h
      · exact hold e0 hm0
      · exact hold x h
    · rw [e1, e1, hlist, hbn]
    · rw [hlist] at hx
      rcases who x hx with rfl | h
      · rw [hkn, ← hk0, hl1 e0 hm0]
      · exact hl1 x h
    · obtain ⟨x, hx, rfl⟩ := hl2 x0 hx0
      rw [hlist]
      obtain ⟨i, hi⟩ := List.getElem?_of_mem hx
      by_cases e2 : i = j
      · subst e2
        rw [h2] at hi
        cases hi
        exact ⟨{ e0 with key := key, val := val }, List.mem_iff_getElem.2 ⟨i, by simpa using hjl, by simp⟩, by rw [hkn, hk0]⟩
      · refine ⟨x, List.mem_of_getElem? (i := i) ?_, rfl⟩
        rw [List.getElem?_set, if_neg (fun h => e2 h.symm)]
        exact hi
end
open Go.RowKit Go.Extern.Stop Go.Stop Go.Extern Go.Maps

/-- Block b is a map of the pairs M, block r goes through it; left: which keys are to come. -/
def RgI (w : World) (b r : Nat) (M : List (Int × Int)) (left : Lit → Bool) (cnt : Nat) : Prop := ∃ l n, n ≤ 1000000 ∧ w.ranges Tryd.prog 3 (plainElem Tryd.prog 3) b r n (.map l) left cnt ∧ l.Perm (M.map enP)
theorem RgI.mp {w : World} {b r : Nat} {M : List (Int × Int)} {left : Lit → Bool} {cnt : Nat} (h : RgI w b r M left cnt) : MpI w b M := by
  obtain ⟨l, n, _, h1, h2⟩ := h
  exact ⟨l, own_tight h1.owns (by rw [h2.length_eq]; simp), h2⟩
theorem RgI.perm {w : World} {b r : Nat} {M M' : List (Int × Int)} {left : Lit → Bool} {cnt : Nat} (h : RgI w b r M left cnt) (hp : M.Perm M') : RgI w b r M' left cnt := by
  obtain ⟨l, n, h0, h1, h2⟩ := h
  exact ⟨l, n, h0, h1, h2.trans (hp.map enP)⟩
theorem RgI.put {w : World} {b r : Nat} {M : List (Int × Int)} {left : Lit → Bool} {cnt : Nat} (h : RgI w b r M left cnt) {k v x : Int} (hm : (k, v) ∈ M) (hk : I64 k) (hx : I64 x) :
    ∃ w', (Instr.mapUpdate 23 (.map (some b)) (.int .i64 k) (.int .i64 x)).run Tryd.prog w = .ok () w' ∧ RgI w' b r (putL k x M) left cnt ∧ w.grownBy w' (some b) := by
  obtain ⟨l, n, h0, h1, h2⟩ := h
  have hin : Maps.has (.map l : DataW Unit) (.int .i64 k) = true :=
    List.any_eq_true.2 ⟨enP (k, v), h2.symm.subset (List.mem_map.2 ⟨(k, v), hm, rfl⟩), WideAt.sameKey_self (isKeyJ k)⟩
  obtain ⟨w', hrun, hrg, hg⟩ := ranges_put h1 keyI Tryd.underlying23 (by unfold maxLen; omega) (keyOfI hk) (plainElem_int Tryd.underlying3 (wfI hx)) hin
  exact ⟨w', hrun, ⟨_, n, h0, hrg, put_perm h2 k x⟩, hg⟩
/-- What is left of the pairs when those that are no longer to come have gone down by one. -/
def lowF (lf : Int → Bool) (p : Int × Int) : Option (Int × Int) := if lf p.1 then some p else if p.2 ≤ 1 then none else some (p.1, p.2 - 1)
def lowL (lf : Int → Bool) (L : List (Int × Int)) : List (Int × Int) := L.filterMap (lowF lf)
theorem lowF_fst {lf : Int → Bool} {p q : Int × Int} (h : lowF lf p = some q) : q.1 = p.1 := by
  unfold lowF at h
  split at h
  · cases h; rfl
  · split at h
    · cases h
    · cases h; rfl
theorem lowL_all {lf : Int → Bool} {L : List (Int × Int)} (h : ∀ p ∈ L, lf p.1 = true) : lowL lf L = L := by
  induction L with
  | nil => rfl
  | cons a L ih =>
    have e : lowF lf a = some a := by unfold lowF; rw [if_pos (h a (by simp))]
    show (a :: L).filterMap (lowF lf) = a :: L
    rw [List.filterMap_cons, e]
    show a :: lowL lf L = a :: L
    rw [ih (fun p hp => h p (by simp [hp]))]
theorem Ap.low {L : List (Int × Int)} (h : Ap L) (lf : Int → Bool) : Ap (lowL lf L) := by
  unfold Ap lowL
  rw [List.pairwise_filterMap]
  exact h.imp fun hab b hb b' hb' e => hab (by rw [← lowF_fst hb, ← lowF_fst hb', e])
theorem mem_low {lf : Int → Bool} {L : List (Int × Int)} {q : Int × Int} : q ∈ lowL lf L ↔ (q ∈ L ∧ lf q.1 = true) ∨ (lf q.1 = false ∧ (q.1, q.2 + 1) ∈ L ∧ 1 ≤ q.2) := by
  unfold lowL
  rw [List.mem_filterMap]
  constructor
  · rintro ⟨p, hp, e⟩
    have e1 := lowF_fst e
    unfold lowF at e
    split at e
    · rename_i h; cases e; exact Or.inl ⟨hp, h⟩
    · rename_i h
      split at e
      · cases e
      · rename_i h2
        cases e
        refine Or.inr ⟨by simpa using h, ?_, by show 1 ≤ p.2 - 1; omega⟩
        have : (p.1, p.2 - 1 + 1) = p := Prod.ext rfl (by show p.2 - 1 + 1 = p.2; omega)
        show (p.1, p.2 - 1 + 1) ∈ L
        rw [this]; exact hp
  · rintro (⟨h1, h2⟩ | ⟨h1, h2, h3⟩)
    · exact ⟨q, h1, by unfold lowF; rw [if_pos h2]⟩
    · refine ⟨_, h2, ?_⟩
      unfold lowF
      rw [if_neg (by simp [h1]), if_neg (by show ¬ q.2 + 1 ≤ 1; omega)]
      show some (q.1, q.2 + 1 - 1) = some q
      rw [Int.add_sub_cancel]
/-- One more has gone down, to something. -/
theorem low_put {lf : Int → Bool} {L : List (Int × Int)} (ha : Ap L) {x c : Int} (hm : (x, c) ∈ L) (hc : 2 ≤ c) : (putL x (c - 1) (lowL lf L)).Perm (lowL (fun z => lf z && !(z == x)) L) := by
  refine perm_of_mem ((ha.low _).put _ _).nodup (ha.low _).nodup fun q => ?_
  unfold putL
  rw [List.mem_cons, List.mem_filter, mem_low, mem_low]
  by_cases e : q.1 = x
  · have h1 : (q.1 != x) = false := by simp [e]
    have h2 : (lf q.1 && !(q.1 == x)) = false := by simp [e]
    simp only [h1, h2, Bool.false_eq_true, and_false, or_false, true_and, false_or]
    constructor
    · rintro rfl
      exact ⟨by rw [Int.sub_add_cancel]; exact hm, by show 1 ≤ c - 1; omega⟩
    · rintro ⟨h3, h4⟩
      have := ha.eq h3 hm e
      simp only [Prod.mk.injEq] at this
      exact Prod.ext e (by show q.2 = c - 1; omega)
  · have h1 : (q.1 != x) = true := by simp [e]
    have h2 : (lf q.1 && !(q.1 == x)) = lf q.1 := by simp [e]
    have h3 : ¬ q = (x, c - 1) := fun h => e (by rw [h])
    simp only [h1, h2, h3, and_true, false_or]
/-- One more has gone down, to nothing. -/
theorem low_del {lf : Int → Bool} {L : List (Int × Int)} (ha : Ap L) {x c : Int} (hm : (x, c) ∈ L) (hc : c = 1) : ((putL x (c - 1) (lowL lf L)).filter fun p => p.1 != x).Perm (lowL (fun z => lf z && !(z == x)) L) := by
  refine perm_of_mem (((ha.low _).put _ _).filter _).nodup (ha.low _).nodup fun q => ?_
  unfold putL
  rw [List.mem_filter, List.mem_cons, List.mem_filter, mem_low, mem_low]
  by_cases e : q.1 = x
  · have h1 : (q.1 != x) = false := by simp [e]
    have h2 : (lf q.1 && !(q.1 == x)) = false := by simp [e]
    simp only [h1, h2, Bool.false_eq_true, and_false, true_and, false_or, false_iff, not_and]
    intro h3
    have := ha.eq h3 hm e
    simp only [Prod.mk.injEq] at this
    omega
  · have h1 : (q.1 != x) = true := by simp [e]
    have h2 : (lf q.1 && !(q.1 == x)) = lf q.1 := by simp [e]
    have h3 : ¬ q = (x, c - 1) := fun h => e (by rw [h])
    simp only [h1, h2, h3, and_true, false_or]
end Go.Proofs.YtkmbnklfaaopaaaDoor
