/-
  Rows of one-cell elements in a block of their own, each cell of a kind: read and appended to; what such a block can't be: a fraction's. Nothing of the program is claimed here by itself.
-/
import Derived.Test.YtnppmigncjakeaaGreatDoorRatR
import Derived.Test.YtnppmigncjakeaaGreatDoorSg
import Derived.Laws.Tables
namespace Go.Proofs.YtnppmigncjakeaaGreatDoor
open Go.RowKit Go.Deep

/-- A row of the call's own; every cell of its block is of a kind. -/
def Prw (K : Value → Prop) (w : World) (e : TypeId) (v : Value) (l : List Value) : Prop :=
  (v = .slice none 0 0 ∧ l = []) ∨ ∃ g cap cur, v = .slice (some ⟨g, 0, none⟩) l.length cap ∧ w.heap[g]? = some (.cells cur e (0, 0)) ∧ l.length ≤ cap ∧ cap ≤ maxLen ∧ cur.size = cap ∧ (∀ (j : Nat) u, l[j]? = some u → cur[j]? = some u) ∧ ∀ (j : Nat) u, cur[j]? = some u → K u
theorem Prw.nil (K : Value → Prop) (w : World) (e : TypeId) : Prw K w e (.slice none 0 0) [] := Or.inl ⟨rfl, rfl⟩
theorem Prw.kept {K : Value → Prop} {w w' : World} {e : TypeId} {v : Value} {l : List Value} (h : Prw K w e v l) (hk : ∀ b, v.ownBlock = some b → w'.heap[b]? = w.heap[b]?) : Prw K w' e v l := by
  rcases h with h | ⟨g, cap, cur, rfl, hg, rest⟩
  · exact Or.inl h
  · exact Or.inr ⟨g, cap, cur, rfl, (hk g rfl).trans hg, rest⟩
theorem Prw.lt {K : Value → Prop} {w : World} {e : TypeId} {v : Value} {l : List Value} (h : Prw K w e v l) {b : Nat} (hb : v.ownBlock = some b) : b < w.heap.size := by
  rcases h with ⟨rfl, _⟩ | ⟨g, cap, cur, rfl, hg, _⟩
  · simp [Value.ownBlock] at hb
  · simp [Value.ownBlock] at hb
    subst hb
    exact lt_of_block hg
theorem Prw.below {K : Value → Prop} {w w' : World} {e : TypeId} {v : Value} {l : List Value} (h : Prw K w e v l) (hb : Below w.heap.size w w') : Prw K w' e v l := h.kept fun b hv => hb.block b (h.lt hv)
theorem Prw.slice {K : Value → Prop} {w : World} {e : TypeId} {v : Value} {l : List Value} (h : Prw K w e v l) : ∃ x cap, v = .slice x l.length cap := by
  rcases h with ⟨rfl, rfl⟩ | ⟨g, cap, cur, rfl, _⟩
  · exact ⟨none, 0, rfl⟩
  · exact ⟨_, _, rfl⟩
theorem Prw.at {K : Value → Prop} {w : World} {e : TypeId} {v : Value} {l : List Value} (h : Prw K w e v l) {j : Nat} {u : Value} (hj : l[j]? = some u) : ∃ g cap, v = .slice (some ⟨g, 0, none⟩) l.length cap ∧ w.cell? ⟨g, j, none⟩ = some u := by
  rcases h with ⟨_, rfl⟩ | ⟨g, cap, cur, rfl, hg, _, _, _, h1, _⟩
  · simp at hj
  · exact ⟨g, cap, rfl, by simp only [World.cell?, hg]; exact h1 j u hj⟩
/-- Cells of another kind lie elsewhere. -/
theorem Prw.other {K : Value → Prop} {w : World} {e : TypeId} {v : Value} {l : List Value} (h : Prw K w e v l) {b o : Nat} {u : Value} (hc : w.cell? ⟨b, o, none⟩ = some u) (hu : ¬ K u) : v.ownBlock ≠ some b := by
  intro hb
  rcases h with ⟨rfl, _⟩ | ⟨g, cap, cur, rfl, hg, _, _, _, _, h2⟩
  · simp [Value.ownBlock] at hb
  · simp only [Value.ownBlock, Option.some.injEq] at hb
    subst hb
    simp only [World.cell?, hg] at hc
    exact hu (h2 o u hc)
theorem zeroCells_at {z : Value} {n j : Nat} {u : Value} (h : (Builtin.zeroCells #[z] n)[j]? = some u) : u = z := by
  have hm := Array.mem_of_getElem? h
  unfold Builtin.zeroCells at hm
  simp at hm
  obtain ⟨q, _, h3⟩ := hm
  rw [Nat.mod_one] at h3
  simpa using h3.symm
/-- One more at the end. -/
theorem run_append_prw {P : Program} {K : Value → Prop} (w : World) (t ty e : TypeId) (i : TypeInfo) (z : Value) (bytes : Nat) (ht : P.underlying t = some (.slice e)) (hi : P.info? e = some i) (hz : i.zero = some z)
    (hsize : i.size = 1) (hby : i.bytes = bytes) (hzc : z.cells = #[z]) (hKz : K z) (v : Value) (l : List Value) (h : Prw K w e v l)
    (ad : Addr) (c : Nat) (u : Value) (hu : w.cell? ad = some u) (h1 : u.oneCell' = true) (hKu : K u) (h63 : l.length + 1 ≤ maxLen) (hbytes : (l.length + 1) * bytes ≤ 140737488355328) :
    ∃ v' w', (Builtin.append_ #[t, t] ty #[v, .slice (some ad) 1 c]).run P w = .ok v' w' ∧ Prw K w' e v' (l ++ [u]) ∧ w.grownBy w' v.ownBlock ∧ (v'.ownBlock = v.ownBlock ∨ v'.ownBlock = some w.heap.size) := by
  have hnews : ∀ (j : Nat) u', [u][j]? = some u' → w.cell? (ad.add j) = some u' := by
    intro j u' hj
    cases j with
    | zero => simp at hj; subst hj; simpa [Addr.add] using hu
    | succ j => simp at hj
  subst hby
  rcases h with ⟨rfl, rfl⟩ | ⟨g, cap, cur, rfl, hg, hlc, hcm, hcs, hl, hK⟩
  · have hr := run_append_nil (P := P) w t ty e i z ht hi hz ad 1 c [u] (by simp [hsize]) hnews (by omega) (by decide) (by simp at hbytes; omega)
    refine ⟨_, _, hr, Or.inr ⟨w.heap.size, _, _, rfl, heap_alloc_new w.drew _, grownCap_ge w 1 0 e, grownCap_le_maxLen w 1 0 e (by unfold maxLen; omega), ?_, ?_, ?_⟩, ⟨rfl, rfl, rfl, by simp, fun k hk _ => Below.heap_alloc w.drew _ k hk⟩, Or.inr rfl⟩
    · have := grownCap_ge w 1 0 e
      simp only [Array.size_append, List.size_toArray, size_zeroCells, hzc, List.length_cons, List.length_nil]
      simp
      omega
    · intro j u' hj
      cases j with
      | zero =>
        rw [Array.getElem?_append_left (by simp)]
        simpa using hj
      | succ j => simp at hj
    · intro j u' hj
      rw [Array.getElem?_append] at hj
      split at hj
      · have : j = 0 := by simp at *; omega
        subst this
        simp at hj
        exact hj ▸ hKu
      · rw [hzc] at hj
        exact zeroCells_at hj ▸ hKz
  · by_cases hroom : l.length + 1 ≤ cap
    · have hr := run_append_room (P := P) w t ty e i ht hi g l.length cap cur hg ad 1 c [u] (by simp [hsize]) hnews (by simp [h1]) hroom (by simp [hsize]; omega)
      refine ⟨_, _, hr, Or.inr ⟨g, cap, _, by simp, setRow_heap w g _ _ e _ hg, by simp; omega, hcm, ?_, ?_, ?_⟩, ⟨rfl, rfl, rfl, by simp, fun k _ hk => setRow_other w g k _ (fun e => hk (by rw [e]; rfl))⟩, Or.inl rfl⟩
      · simp [hsize]; omega
      · intro j u' hj
        simp only [hsize, Nat.mul_one, List.getElem?_toArray]
        by_cases hjl : j < l.length
        · rw [List.getElem?_append_left hjl] at hj
          rw [List.append_assoc, List.getElem?_append_left (by simp; omega), List.getElem?_take, if_pos hjl]
          simpa using hl j u' hj
        · rw [List.getElem?_append_right (by omega)] at hj
          rw [List.append_assoc, List.getElem?_append_right (by simp; omega)]
          have e1 : (cur.toList.take l.length).length = l.length := by simp; omega
          rw [e1]
          have hj0 : j - l.length = 0 := by
            have := (List.getElem?_eq_some_iff.1 hj).1
            simp at this
            omega
          rw [hj0] at hj ⊢
          simpa using hj
      · intro j u' hj
        simp only [hsize, Nat.mul_one, List.getElem?_toArray] at hj
        have hm := List.mem_of_getElem? hj
        simp only [List.mem_append, List.mem_singleton] at hm
        rcases hm with (hm | hm) | hm
        · obtain ⟨q, hq⟩ := List.mem_iff_getElem?.1 (List.mem_of_mem_take hm)
          exact hK q u' (by simpa using hq)
        · exact hm ▸ hKu
        · obtain ⟨q, hq⟩ := List.mem_iff_getElem?.1 (List.mem_of_mem_drop hm)
          exact hK q u' (by simpa using hq)
    · have holds : ∀ (j : Nat) u', l[j]? = some u' → w.cell? ((⟨g, 0, none⟩ : Addr).add j) = some u' := by
        intro j u' hj
        rw [Addr.add_lit]
        simp only [World.cell?, hg, Nat.zero_add]
        exact hl j u' hj
      have hr := run_append_grow (P := P) w t ty e i z ht hi hz ⟨g, 0, none⟩ l.length cap l (by simp [hsize]) holds ad 1 c [u] (by simp [hsize]) hnews (by omega) (by simp only [maxLen] at h63; omega) (growslice_fits (by omega) hbytes)
      refine ⟨_, _, hr, Or.inr ⟨w.heap.size, _, _, by simp, heap_alloc_new w.drew _, by simpa using grownCap_ge w (l.length + 1) cap e, grownCap_le_maxLen w (l.length + 1) cap e h63, ?_, ?_, ?_⟩, ⟨rfl, rfl, rfl, by simp, fun k hk _ => Below.heap_alloc w.drew _ k hk⟩, Or.inr rfl⟩
      · have := grownCap_ge w (l.length + 1) cap e
        simp only [Array.size_append, List.size_toArray, size_zeroCells, hzc, List.length_cons, List.length_nil]
        simp
        omega
      · intro j u' hj
        have hjl : j < (l ++ [u]).length := (List.getElem?_eq_some_iff.1 hj).1
        rw [Array.getElem?_append_left (by simpa using hjl)]
        simpa using hj
      · intro j u' hj
        rw [Array.getElem?_append] at hj
        split at hj
        · have hm : u' ∈ l ++ [u] := by
            have hj' : (l ++ [u])[j]? = some u' := by simpa using hj
            exact List.mem_of_getElem? hj'
          rcases List.mem_append.1 hm with hm | hm
          · obtain ⟨q, hq⟩ := List.mem_iff_getElem?.1 hm
            exact hK q u' (hl q u' hq)
          · simp at hm
            exact hm ▸ hKu
        · rw [hzc] at hj
          exact zeroCells_at hj ▸ hKz
theorem wpList_append_prw {P : Program} {K : Value → Prop} (w : World) {ops : Array Oper} {rest : List Oper} {o : Oper} {a : Act} {Q : Exit → Act → World → Prop} (hgd : o.guard = none) (s x : Operand) (t : TypeId)
    (ho : o.op = .call { callee := .builtin .append, args := #[s, x], argTypes := #[t, t] })
    (e : TypeId) (i : TypeInfo) (z : Value) (bytes : Nat) (ht : P.underlying t = some (.slice e)) (hi : P.info? e = some i) (hz : i.zero = some z)
    (hsize : i.size = 1) (hby : i.bytes = bytes) (hzc : z.cells = #[z]) (hKz : K z) (v : Value) (l : List Value) (hs : a.eval s = v) (h : Prw K w e v l)
    (ad : Addr) (c : Nat) (u : Value) (hx : a.eval x = .slice (some ad) 1 c) (hu : w.cell? ad = some u) (h1 : u.oneCell' = true) (hKu : K u) (h63 : l.length + 1 ≤ maxLen) (hbytes : (l.length + 1) * bytes ≤ 140737488355328)
    (hc : ∀ v' w', Prw K w' e v' (l ++ [u]) → w.grownBy w' v.ownBlock → (v'.ownBlock = v.ownBlock ∨ v'.ownBlock = some w.heap.size) → wpList P ops Q rest (a.put o.dst v') w') : wpList P ops Q (o :: rest) a w := by
  refine wpList_plain hgd fun K' hK' => ?_
  obtain ⟨v', w', hr, h2, h3, h4⟩ := run_append_prw (P := P) w t o.type e i z bytes ht hi hz hsize hby hzc hKz v l h ad c u hu h1 hKu h63 hbytes
  unfold Oper.wp execOp
  simp only [ho, resolve, invoke, builtin, Sem.run_bind, Sem.run_pure, Result.andThen_ok, List.map_toArray, List.map_cons, List.map_nil, hs, hx, hr]
  exact hK' _ _ (hc v' w' h2 h3 h4)
/-- A fraction stays where such a row grows. -/
theorem FracR.grown {K : Value → Prop} {w W w' : World} {b : Nat} {P Q : Int} {e : TypeId} {v : Value} {l : List Value} (h : FracR w b P Q) (hW : Below w.heap.size w W) (hr : Prw K w e v l) (hg : W.grownBy w' v.ownBlock) (hK1 : ∀ x n c, ¬ K (.slice x n c)) (hK2 : ∀ u, ¬ K (.int .u32 u)) : FracR w' b P Q := by
  obtain ⟨h0, a, c, h1, h2⟩ := h
  have hcell : ∀ {p : Addr} {u : Value}, w.cell? p = some u → v.ownBlock ≠ some p.block → w'.cell? p = some u ∧ w'.frozen? p = w.frozen? p := by
    intro p u hc hne
    have hl := lt_of_cell hc
    have hb : w'.heap[p.block]? = w.heap[p.block]? := (hg.block _ (Nat.lt_of_lt_of_le hl hW.size) (fun e => hne e.symm)).trans (hW.block _ hl)
    exact ⟨(World.cell?_of_block (w := w) hb).trans hc, World.frozen?_of_block (w := w) hb⟩
  have hu32 : ∀ b o (u : Int), w.cell? ⟨b, o, none⟩ = some (.int .u32 u) → w'.cell? ⟨b, o, none⟩ = some (.int .u32 u) := fun b o u hc => (hcell hc (hr.other hc (hK2 u))).1
  obtain ⟨⟨n0, vn, n1, n2⟩, ⟨d0, vd, d1, d2⟩, ⟨s0, s1, s2, s3⟩, ⟨t0, t1, t2, t3⟩⟩ := h1
  have hne : v.ownBlock ≠ some b := by
    obtain ⟨x, k, cc, hx⟩ := s1
    exact hr.other hx (hK1 _ _ _)
  refine ⟨h0, a, c, ⟨⟨(hcell n0 hne).1, vn, (hcell n1 hne).1, n2.cells hu32⟩, ⟨(hcell d0 hne).1, vd, (hcell d1 hne).1, d2.cells hu32⟩, ?_, ?_⟩, h2⟩
  · obtain ⟨q0, hq0⟩ := s0
    obtain ⟨x, k, cc, hx⟩ := s1
    exact ⟨⟨q0, (hcell hq0 hne).1⟩, ⟨x, k, cc, (hcell hx hne).1⟩, by rw [(hcell hq0 hne).2]; exact s2, by rw [(hcell hx hne).2]; exact s3⟩
  · obtain ⟨q0, hq0⟩ := t0
    obtain ⟨x, k, cc, hx⟩ := t1
    exact ⟨⟨q0, (hcell hq0 hne).1⟩, ⟨x, k, cc, (hcell hx hne).1⟩, by rw [(hcell hq0 hne).2]; exact t2, by rw [(hcell hx hne).2]; exact t3⟩
end Go.Proofs.YtnppmigncjakeaaGreatDoor
