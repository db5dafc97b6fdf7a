/-
  Inserting into a row of pairs: what lies there behind an append, a copy and a store. Nothing of the program is claimed here by itself.
-/
import Derived.Test.YtkmbnklfaaopaaaDoorSkT
namespace Go.Proofs.YtkmbnklfaaopaaaDoor
open Go.RowKit Go.Extern.Stop Go.Stop Go.Extern Go.Maps

theorem run_copy_row2 {P : Program} (w : World) (dT sT ty elem : TypeId) (g o dLen dCap : Nat) (a : Addr) (sLen sCap : Nat) (cur : Array Value) (t : TypeId) (cs : List Value)
    (hu : P.underlying dT = some (.slice elem)) (hs : (P.info? elem).map (·.size) = some 2)
    (hg : w.heap[g]? = some (.cells cur t (0, 0))) (hn : cs.length = Nat.min sLen dLen * 2)
    (hsrc : ∀ j v, cs[j]? = some v → w.cell? (a.add j) = some v) (hfit : o + cs.length ≤ cur.size) (h1 : ∀ v ∈ cs, v.oneCell' = true) :
    (Builtin.copy_ #[dT, sT] ty #[.slice (some ⟨g, o, none⟩) dLen dCap, .slice (some a) sLen sCap]).run P w =
      .ok (goInt (Nat.min sLen dLen)) (w.setRow g (cur.toList.take o ++ cs ++ cur.toList.drop (o + cs.length)).toArray) := by
  have hl := run_loadCells_list (P := P) w a cs hsrc
  have hst := run_storeCells_at P g o t cs 0 cur w hg (by simpa using hfit) h1
  rw [hn] at hl
  cases hq : P.info? elem with
  | none => simp [hq] at hs
  | some i =>
    have hi : i.size = 2 := by simpa [hq] using hs
    simp [Builtin.copy_, run_underlying hu, Builtin.lenOf, Builtin.firstCells, sizeOf, typeInfo, hq, hi, hl, hst]
theorem own_pr {w : World} {B : Nat} {e : TypeId} {v : Value} {N : List (Int × Int)} (h : w.ownsRow B e 2 v N.length (flatP N)) : ∃ x cap, v = .slice x N.length cap ∧ N.length ≤ cap ∧ PrR w x N := by
  rcases h.2 with ⟨rfl, hn⟩ | ⟨g, cap, cur, rfl, hg, hh, hn, hx, hs, ht⟩
  · have : N = [] := List.eq_nil_of_length_eq_zero hn
    subst this
    exact ⟨none, 0, rfl, Nat.le_refl _, Or.inl rfl⟩
  · refine ⟨_, cap, rfl, hn, Or.inr ⟨g, 0, rfl, fun i p hp => ?_⟩⟩
    have hi := (List.getElem?_eq_some_iff.1 hp).1
    obtain ⟨c0, c1⟩ := flatP_get N i p hp
    have hc : ∀ j, j < N.length * 2 → cur[j]? = (flatP N)[j]? := fun j hj => by
      have : cur.toList[j]? = (flatP N)[j]? := by rw [← ht, List.getElem?_take, if_pos (by omega)]
      simpa using this
    exact ⟨by simp only [World.cell?, hh, Nat.zero_add]; rw [hc _ (by omega), c0]; rfl, by simp only [World.cell?, hh, Nat.zero_add]; rw [hc _ (by omega), c1]; rfl⟩
theorem flatP_append (L M : List (Int × Int)) : flatP (L ++ M) = flatP L ++ flatP M := by simp [flatP]
theorem flatP_take (N : List (Int × Int)) (a : Nat) : (flatP N).take (a * 2) = flatP (N.take a) := by
  induction N generalizing a with
  | nil => simp [flatP]
  | cons p N ih =>
    cases a with
    | zero => simp [flatP]
    | succ a =>
      have e : flatP (p :: N) = Value.int .i64 p.1 :: Value.int .i64 p.2 :: flatP N := rfl
      rw [e, show (a + 1) * 2 = a * 2 + 1 + 1 by omega]
      show _ :: _ :: (flatP N).take (a * 2) = _
      rw [ih]
      rfl
theorem flatP_drop (N : List (Int × Int)) (a : Nat) : (flatP N).drop (a * 2) = flatP (N.drop a) := by
  induction N generalizing a with
  | nil => simp [flatP]
  | cons p N ih =>
    cases a with
    | zero => simp [flatP]
    | succ a =>
      have e : flatP (p :: N) = Value.int .i64 p.1 :: Value.int .i64 p.2 :: flatP N := rfl
      rw [e, show (a + 1) * 2 = a * 2 + 1 + 1 by omega]
      show (flatP N).drop (a * 2) = _
      rw [ih]
      rfl
theorem flatP_one (N : List (Int × Int)) : ∀ v ∈ flatP N, v.oneCell' = true := by
  intro v hv
  obtain ⟨p, _, hp⟩ := List.mem_flatMap.1 hv
  simp [enPair] at hp
  rcases hp with rfl | rfl <;> rfl
/-- Where one is put in. -/
def insA (N : List (Int × Int)) (a : Nat) (p : Int × Int) : List (Int × Int) := N.take a ++ p :: N.drop a
theorem ins_perm (N : List (Int × Int)) (a : Nat) (p : Int × Int) : (insA N a p).Perm (N ++ [p]) := by
  unfold insA
  have h1 : (N.take a ++ p :: N.drop a).Perm (p :: (N.take a ++ N.drop a)) := List.perm_middle
  rw [List.take_append_drop] at h1
  exact h1.trans (List.perm_append_singleton _ _).symm
theorem ins_len (N : List (Int × Int)) (a : Nat) (p : Int × Int) : (insA N a p).length = N.length + 1 := by
  rw [(ins_perm N a p).length_eq]; simp
theorem PLt.trans {x y z : Int × Int} (h1 : PLt x y) (h2 : PLt y z) : PLt x z := by unfold PLt at *; omega
theorem PLt.total {x y : Int × Int} (h : x.1 ≠ y.1) (hn : ¬ PLt x y) : PLt y x := by unfold PLt at *; omega
theorem ins_sorted {N : List (Int × Int)} (hN : N.Pairwise PLt) {a : Nat} {p : Int × Int} (hne : ∀ q ∈ N, q.1 ≠ p.1) (h1 : ∀ i q, a ≤ i → N[i]? = some q → PLt p q) (h2 : ∀ q, 0 < a → N[a - 1]? = some q → ¬ PLt p q) (ha : a ≤ N.length) : (insA N a p).Pairwise PLt := by
  unfold insA
  rw [List.pairwise_append]
  refine ⟨hN.sublist (List.take_sublist _ _), List.pairwise_cons.2 ⟨fun q hq => ?_, hN.sublist (List.drop_sublist _ _)⟩, fun q hq r hr => ?_⟩
  · obtain ⟨i, hi⟩ := List.getElem?_of_mem hq
    rw [List.getElem?_drop] at hi
    exact h1 _ q (by omega) hi
  · have hqN : q ∈ N := (List.take_sublist _ _).subset hq
    have ha0 : 0 < a := by
      rcases Nat.eq_zero_or_pos a with h | h
      · subst h; simp at hq
      · exact h
    obtain ⟨l, hl⟩ : ∃ l, N[a - 1]? = some l := ⟨_, List.getElem?_eq_getElem (by omega)⟩
    have hlp : PLt l p := PLt.total (fun e => hne l (List.mem_of_getElem? hl) e.symm) (h2 l ha0 hl)
    have hql : q = l ∨ PLt q l := by
      obtain ⟨i, hi⟩ := List.getElem?_of_mem hq
      rw [List.getElem?_take] at hi
      split at hi
      · rename_i hia
        by_cases e : i = a - 1
        · subst e; rw [hl] at hi; exact Or.inl (Option.some.inj hi).symm
        · right
          have hi' := (List.getElem?_eq_some_iff.1 hi)
          have hl' := (List.getElem?_eq_some_iff.1 hl)
          obtain ⟨k1, e1⟩ := hi'
          obtain ⟨k2, e2⟩ := hl'
          rw [← e1, ← e2]
          exact List.pairwise_iff_getElem.1 hN i (a - 1) k1 k2 (by omega)
      · cases hi
    have hqp : PLt q p := by
      rcases hql with rfl | h
      · exact hlp
      · exact h.trans hlp
    rcases List.mem_cons.1 hr with rfl | hr
    · exact hqp
    · obtain ⟨i, hi⟩ := List.getElem?_of_mem hr
      rw [List.getElem?_drop] at hi
      exact hqp.trans (h1 _ r (by omega) hi)
/-- The cells behind the copy and the store. -/
theorem ins_cells {cur : List Value} {N : List (Int × Int)} {a : Nat} (x c : Int) (ha : a ≤ N.length) (ht : cur.take ((N.length + 1) * 2) = flatP N ++ [Value.int .i64 0, Value.int .i64 0]) :
    (((cur.take ((a + 1) * 2) ++ flatP (N.drop a) ++ cur.drop ((a + 1) * 2 + (flatP (N.drop a)).length)).set (a * 2) (.int .i64 x)).set (a * 2 + 1) (.int .i64 c)).take ((N.length + 1) * 2) = flatP (insA N a (x, c)) := by
  have hl : (flatP (N.drop a)).length = (N.length - a) * 2 := by rw [flatP_len]; simp
  have e1 : cur.take ((a + 1) * 2) = flatP (N.take a) ++ ((flatP N ++ [Value.int .i64 0, Value.int .i64 0]).drop (a * 2)).take 2 := by
    have : cur.take ((a + 1) * 2) = (flatP N ++ [Value.int .i64 0, Value.int .i64 0]).take ((a + 1) * 2) := by rw [← ht, List.take_take]; congr 1; omega
    rw [this, show (a + 1) * 2 = a * 2 + 2 by omega, List.take_add, List.take_append_of_le_length (by rw [flatP_len]; omega), flatP_take]
  obtain ⟨u0, u1, hu⟩ : ∃ u0 u1, ((flatP N ++ [Value.int .i64 0, Value.int .i64 0]).drop (a * 2)).take 2 = [u0, u1] := by
    have hlen : (((flatP N ++ [Value.int .i64 0, Value.int .i64 0]).drop (a * 2)).take 2).length = 2 := by
      rw [List.length_take, List.length_drop, List.length_append, flatP_len]
      simp; omega
    match h : ((flatP N ++ [Value.int .i64 0, Value.int .i64 0]).drop (a * 2)).take 2, hlen with
    | [u0, u1], _ => exact ⟨u0, u1, rfl⟩
  rw [e1, hu]
  have hla : (flatP (N.take a)).length = a * 2 := by rw [flatP_len]; simp; omega
  generalize cur.drop ((a + 1) * 2 + (flatP (N.drop a)).length) = tl
  have e2 : ((flatP (N.take a) ++ [u0, u1] ++ flatP (N.drop a) ++ tl).set (a * 2) (.int .i64 x)).set (a * 2 + 1) (.int .i64 c) = flatP (N.take a) ++ ([Value.int .i64 x, Value.int .i64 c] ++ flatP (N.drop a)) ++ tl := by
    rw [List.append_assoc, List.append_assoc, List.set_append_right _ _ (by omega), List.set_append_right _ _ (by omega)]
    simp [hla]
  rw [e2, List.take_append_of_le_length, List.take_of_length_le]
  · unfold insA
    rw [flatP_append]
    rfl
  · simp [hla, hl]; omega
  · simp [hla, hl]; omega
theorem perm_sorted_eq : ∀ {A B : List (Int × Int)}, A.Pairwise PLt → B.Pairwise PLt → A.Perm B → A = B
  | [], B, _, _, h => (List.nil_perm.1 h).symm
  | p :: A, [], _, _, h => by have := h.length_eq; simp at this
  | p :: A, q :: B, ha, hb, h => by
    obtain ⟨a1, a2⟩ := List.pairwise_cons.1 ha
    obtain ⟨b1, b2⟩ := List.pairwise_cons.1 hb
    have e : p = q := by
      rcases List.mem_cons.1 (h.subset (List.mem_cons_self)) with e | hp
      · exact e
      · rcases List.mem_cons.1 (h.symm.subset (List.mem_cons_self)) with e | hq
        · exact e.symm
        · have k1 := b1 p hp
          have k2 := a1 q hq
          unfold PLt at k1 k2
          omega
    subst e
    rw [perm_sorted_eq a2 b2 h.cons_inv]
theorem srt_pairs {M : List (Int × Int)} (h : Srt M) (ha : Ap M) : M.Pairwise PLt := by
  have : M.Pairwise fun p q => ¬ PLt q p ∧ p.1 ≠ q.1 := h.and ha
  exact this.imp fun ⟨h1, h2⟩ => PLt.total (fun e => h2 e.symm) h1
end Go.Proofs.YtkmbnklfaaopaaaDoor
