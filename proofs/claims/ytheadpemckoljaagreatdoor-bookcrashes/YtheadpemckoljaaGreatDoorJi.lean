/-
  Inserting a string into an ordered row of strings: what lies there behind an append, a copy and a store. Nothing of the program is claimed here by itself.
-/
import Derived.Test.YtheadpemckoljaaGreatDoorJh
import Derived.Test.YtheadpemckoljaaGreatDoorJ9
import Derived.Laws.CopyRow
namespace Go.Proofs.YtheadpemckoljaaGreatDoor
open Go.RowKit Go.Extern.Stop Go.Stop Go.Extern Go.Maps Go.WideMaps

theorem own_some1 {w : World} {B : Nat} {e : TypeId} {v : Value} {n : Nat} {xs : List Value} (h : w.ownsRow B e 1 v n xs) (hn : 0 < n) : ∃ g cap cur, v = .slice (some ⟨g, 0, none⟩) n cap ∧ B ≤ g ∧ w.heap[g]? = some (.cells cur e (0, 0)) ∧ n ≤ cap ∧ cap ≤ maxLen ∧ cur.size = cap ∧ cur.toList.take n = xs := by
  rcases h.2 with ⟨_, h0⟩ | ⟨g, cap, cur, h1, h2, h3, h4, h5, h6, h7⟩
  · omega
  · exact ⟨g, cap, cur, h1, h2, h3, h4, h5, by omega, by simpa using h7⟩
theorem sizeStr : (Tryz.prog.info? 9).map (·.size) = some 1 := by kernel_rfl
theorem infoStr : (Tryz.prog.info? 9).map (fun i => (i.zero, i.size, i.bytes)) = some (some (.string ⟨#[]⟩), 1, 16) := by kernel_rfl
theorem enc_oneS (N : List (List UInt8)) : ∀ v ∈ N.map encStr, v.oneCell' = true := by
  intro v hv
  obtain ⟨p, _, rfl⟩ := List.mem_map.1 hv
  rfl
/-- Where one is put in. -/
def insS (N : List (List UInt8)) (a : Nat) (p : List UInt8) : List (List UInt8) := N.take a ++ p :: N.drop a
theorem insS_perm (N : List (List UInt8)) (a : Nat) (p : List UInt8) : (insS N a p).Perm (p :: N) := by
  unfold insS
  have h1 : (N.take a ++ p :: N.drop a).Perm (p :: (N.take a ++ N.drop a)) := List.perm_middle
  rw [List.take_append_drop] at h1
  exact h1
theorem insS_len (N : List (List UInt8)) (a : Nat) (p : List UInt8) : (insS N a p).length = N.length + 1 := by
  rw [(insS_perm N a p).length_eq]; simp
theorem ltS_total {x y : List UInt8} (h : ¬ x < y) (hn : x ≠ y) : y < x := by
  by_cases h6 : y < x
  · exact h6
  · exact absurd (List.le_antisymm (List.not_lt.1 h6) (List.not_lt.1 h)) hn
theorem insS_sorted {N : List (List UInt8)} (hN : N.Pairwise (fun a b => a < b)) {a : Nat} {p : List UInt8} (h1 : ∀ j q, j < a → N[j]? = some q → q < p) (h2 : ∀ q, N[a]? = some q → p < q) (ha : a ≤ N.length) : (insS N a p).Pairwise (fun a b => a < b) := by
  have h3 : ∀ j q, a ≤ j → N[j]? = some q → p < q := by
    intro j q hj hq
    rcases Nat.eq_or_lt_of_le hj with rfl | hj
    · exact h2 q hq
    · obtain ⟨hjl, hq⟩ := List.getElem?_eq_some_iff.1 hq
      have hal : a < N.length := by omega
      have h4 := h2 N[a] (List.getElem?_eq_getElem hal)
      have h5 := List.pairwise_iff_getElem.1 hN a j hal hjl hj
      rw [hq] at h5
      exact List.lt_trans h4 h5
  unfold insS
  rw [List.pairwise_append]
  refine ⟨hN.sublist (List.take_sublist _ _), List.pairwise_cons.2 ⟨fun q hq => ?_, hN.sublist (List.drop_sublist _ _)⟩, fun q hq r hr => ?_⟩
  · obtain ⟨i, hi⟩ := List.getElem?_of_mem hq
    rw [List.getElem?_drop] at hi
    exact h3 _ q (by omega) hi
  · have hqp : q < p := by
      obtain ⟨i, hi⟩ := List.getElem?_of_mem hq
      rw [List.getElem?_take] at hi
      split at hi
      · exact h1 _ q (by omega) hi
      · cases hi
    rcases List.mem_cons.1 hr with rfl | hr
    · exact hqp
    · obtain ⟨i, hi⟩ := List.getElem?_of_mem hr
      rw [List.getElem?_drop] at hi
      exact List.lt_trans hqp (h3 _ r (by omega) hi)
theorem mem_take_succ {l : List Ent} {i : Nat} {e x : Ent} (he : l[i]? = some e) : x ∈ l.take (i + 1) ↔ x ∈ l.take i ∨ x = e := by
  rw [List.take_add_one, he]
  simp
theorem names_in {l : List Ent} {i a : Nat} {e : Ent} {N : List (List UInt8)} (h : NamesOf (l.take i) N) (he : l[i]? = some e) (hq : N[a]? = some e.1) : NamesOf (l.take (i + 1)) N := by
  refine ⟨h.1, fun s => (h.2 s).trans ⟨fun ⟨x, hx, hs⟩ => ⟨x, (mem_take_succ he).2 (Or.inl hx), hs⟩, fun ⟨x, hx, hs⟩ => ?_⟩⟩
  rcases (mem_take_succ he).1 hx with hx | rfl
  · exact ⟨x, hx, hs⟩
  · exact (h.2 s).1 (by rw [← hs]; exact List.mem_of_getElem? hq)
theorem names_new {l : List Ent} {i a : Nat} {e : Ent} {N : List (List UInt8)} (h : NamesOf (l.take i) N) (he : l[i]? = some e) (h1 : ∀ j q, j < a → N[j]? = some q → q < e.1) (h2 : ∀ q, N[a]? = some q → e.1 < q) (ha : a ≤ N.length) : NamesOf (l.take (i + 1)) (insS N a e.1) := by
  refine ⟨insS_sorted h.1 h1 h2 ha, fun s => ?_⟩
  rw [(insS_perm N a e.1).mem_iff, List.mem_cons, h.2 s]
  constructor
  · rintro (rfl | ⟨x, hx, hs⟩)
    · exact ⟨e, (mem_take_succ he).2 (Or.inr rfl), rfl⟩
    · exact ⟨x, (mem_take_succ he).2 (Or.inl hx), hs⟩
  · rintro ⟨x, hx, hs⟩
    rcases (mem_take_succ he).1 hx with hx | rfl
    · exact Or.inr ⟨x, hx, hs⟩
    · exact Or.inl hs.symm
theorem insS_cells {cur : List Value} {N : List (List UInt8)} {a : Nat} (x : List UInt8) (ha : a ≤ N.length) (ht : cur.take (N.length + 1) = N.map encStr ++ [Value.string ⟨#[]⟩]) :
    ((cur.take (a + 1) ++ (N.drop a).map encStr ++ cur.drop (a + 1 + ((N.drop a).map encStr).length)).set a (encStr x)).take (N.length + 1) = (insS N a x).map encStr := by
  have hl : ((N.drop a).map encStr).length = N.length - a := by simp
  have e1 : cur.take (a + 1) = (N.take a).map encStr ++ ((N.map encStr ++ [Value.string ⟨#[]⟩]).drop a).take 1 := by
    have : cur.take (a + 1) = (N.map encStr ++ [Value.string ⟨#[]⟩]).take (a + 1) := by rw [← ht, List.take_take]; congr 1; omega
    rw [this, List.take_add, List.take_append_of_le_length (by rw [List.length_map]; omega), List.map_take]
  obtain ⟨u0, hu⟩ : ∃ u0, ((N.map encStr ++ [Value.string ⟨#[]⟩]).drop a).take 1 = [u0] := by
    have hlen : (((N.map encStr ++ [Value.string ⟨#[]⟩]).drop a).take 1).length = 1 := by
      rw [List.length_take, List.length_drop, List.length_append, List.length_map]
      simp; omega
    match h : ((N.map encStr ++ [Value.string ⟨#[]⟩]).drop a).take 1, hlen with
    | [u0], _ => exact ⟨u0, rfl⟩
  rw [e1, hu]
  have hla : ((N.take a).map encStr).length = a := by simp; omega
  generalize cur.drop (a + 1 + ((N.drop a).map encStr).length) = tl
  have e2 : ((N.take a).map encStr ++ [u0] ++ (N.drop a).map encStr ++ tl).set a (encStr x) = (N.take a).map encStr ++ ([encStr x] ++ (N.drop a).map encStr) ++ tl := by
    rw [List.append_assoc, List.append_assoc, List.set_append_right _ _ (by omega), hla, Nat.sub_self]
    simp
  rw [e2, List.take_append_of_le_length, List.take_of_length_le]
  · unfold insS
    simp
  · rw [List.length_append, List.length_append, hla, hl]; simp; omega
  · rw [List.length_append, List.length_append, hla, hl]; simp; omega
/-- The copy. -/
theorem insS_copy {w : World} {g cap : Nat} {cur : Array Value} {N : List (List UInt8)} {a : Nat} (ha : a ≤ N.length) (hh : w.heap[g]? = some (.cells cur 9 (0, 0))) (hn : N.length + 1 ≤ cap) (hs : cur.size = cap) (ht : cur.toList.take (N.length + 1) = N.map encStr ++ [.string ⟨#[]⟩]) :
    ∃ cur5 : Array Value, (Builtin.copy_ #[22, 22] 3 #[.slice (if cap = a + 1 then some ⟨g, 0, none⟩ else some ⟨g, a + 1, none⟩) (N.length - a) (cap - (a + 1)), .slice (some ⟨g, a, none⟩) (N.length + 1 - a) (cap - a)]).run Tryz.prog w = .ok (goInt ((N.length - a : Nat) : Int)) (w.setRow g cur5) ∧ cur5.toList = cur.toList.take (a + 1) ++ (N.drop a).map encStr ++ cur.toList.drop (a + 1 + ((N.drop a).map encStr).length) := by
  have hl : ((N.drop a).map encStr).length = N.length - a := by simp
  have hcur : ∀ j, j < N.length + 1 → cur[j]? = (N.map encStr ++ [Value.string ⟨#[]⟩])[j]? := fun j hj => by
    have : cur.toList[j]? = (N.map encStr ++ [Value.string ⟨#[]⟩])[j]? := by rw [← ht, List.getElem?_take, if_pos hj]
    simpa using this
  by_cases e : a = N.length
  · subst e
    have hmin : Nat.min (N.length + 1 - N.length) (N.length - N.length) = 0 := by show min _ _ = _; omega
    have hcp : ∀ o, o ≤ cur.size → (Builtin.copy_ #[22, 22] 3 #[.slice (some ⟨g, o, none⟩) (N.length - N.length) (cap - (N.length + 1)), .slice (some ⟨g, N.length, none⟩) (N.length + 1 - N.length) (cap - N.length)]).run Tryz.prog w = .ok (goInt ((N.length - N.length : Nat) : Int)) (w.setRow g cur) := fun o ho => by
      have := run_copy_row (P := Tryz.prog) w 22 22 3 9 g o (N.length - N.length) (cap - (N.length + 1)) ⟨g, N.length, none⟩ (N.length + 1 - N.length) (cap - N.length) cur 9 [] Tryz.underlying22 sizeStr hh (by rw [hmin]; rfl) (fun j v hj => by simp at hj) (by simpa using ho) (by simp)
      rw [this, Nat.sub_self]
      simp
    refine ⟨cur, ?_, ?_⟩
    · by_cases hc : cap = N.length + 1
      · rw [if_pos hc]; exact hcp 0 (by omega)
      · rw [if_neg hc]; exact hcp _ (by omega)
    · rw [List.drop_eq_nil_of_le (Nat.le_refl _)]
      show _ = _ ++ [] ++ cur.toList.drop (N.length + 1)
      rw [List.append_nil, List.take_append_drop]
  · have hne : ¬ cap = a + 1 := by omega
    rw [if_neg hne]
    have hmin : Nat.min (N.length + 1 - a) (N.length - a) = N.length - a := by show min _ _ = _; omega
    have := run_copy_row (P := Tryz.prog) w 22 22 3 9 g (a + 1) (N.length - a) (cap - (a + 1)) ⟨g, a, none⟩ (N.length + 1 - a) (cap - a) cur 9 ((N.drop a).map encStr) Tryz.underlying22 sizeStr hh (by rw [hl, hmin]) (fun j v hj => by
      have hjl := (List.getElem?_eq_some_iff.1 hj).1
      rw [hl] at hjl
      have hadd : (⟨g, a, none⟩ : Addr).add j = ⟨g, a + j, none⟩ := by unfold Addr.add; split <;> simp_all
      rw [hadd]
      simp only [World.cell?, hh]
      rw [hcur _ (by omega), List.getElem?_append_left (by rw [List.length_map]; omega)]
      rw [List.map_drop, List.getElem?_drop] at hj
      rw [hj]
      rfl) (by rw [hl]; omega) (enc_oneS _)
    rw [hl] at this
    exact ⟨_, this, by rw [hl]⟩
/-- Behind the copy and the store. -/
theorem insS_own {w : World} {B g cap : Nat} {cur cur5 : Array Value} {N : List (List UInt8)} {a : Nat} (x : List UInt8) (ha : a ≤ N.length) (hB : B ≤ g) (hh : w.heap[g]? = some (.cells cur 9 (0, 0))) (hn : N.length + 1 ≤ cap) (hx : cap ≤ maxLen) (hs : cur.size = cap) (ht : cur.toList.take (N.length + 1) = N.map encStr ++ [.string ⟨#[]⟩])
    (h5 : cur5.toList = cur.toList.take (a + 1) ++ (N.drop a).map encStr ++ cur.toList.drop (a + 1 + ((N.drop a).map encStr).length)) :
    ((w.setRow g cur5).setCell ⟨g, a, none⟩ (.string ⟨x.toArray⟩)).ownsRow B 9 1 (.slice (some ⟨g, 0, none⟩) (N.length + 1) cap) (insS N a x).length ((insS N a x).map encStr) ∧ w.grownBy ((w.setRow g cur5).setCell ⟨g, a, none⟩ (.string ⟨x.toArray⟩)) (some g) := by
  have hl : ((N.drop a).map encStr).length = N.length - a := by simp
  have s5 : cur5.size = cap := by
    rw [← Array.length_toList, h5]
    simp only [List.length_append, List.length_take, List.length_drop, hl, Array.length_toList, hs]
    omega
  have e1 := setCell_eq_setRow (w.setRow g cur5) g a cur5 9 (0, 0) (.string ⟨x.toArray⟩) (setRow_heap _ _ _ _ _ _ hh)
  rw [e1, setRow_setRow]
  have hblk := setRow_heap w g cur (cur5.setIfInBounds a (.string ⟨x.toArray⟩)) 9 (0, 0) hh
  refine ⟨?_, ⟨rfl, rfl, rfl, by simp [World.setRow], fun k hk hne => ?_⟩⟩
  · rw [insS_len]
    refine ⟨by simp [insS_len], Or.inr ⟨g, cap, _, rfl, hB, hblk, hn, hx, by simp [s5], ?_⟩⟩
    have := insS_cells (cur := cur.toList) x ha ht
    rw [← h5] at this
    simpa using this
  · show (w.heap.modify g _)[k]? = _
    rw [Array.getElem?_modify, if_neg (fun e => hne (by rw [e]))]
end Go.Proofs.YtheadpemckoljaaGreatDoor
