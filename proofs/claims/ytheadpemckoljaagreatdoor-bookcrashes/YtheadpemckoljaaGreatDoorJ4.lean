/-
  A book in memory: its counters, its journal, what is sure. Nothing of the program is claimed here by itself.
-/
import Derived.Test.YtheadpemckoljaaGreatDoorJ3
import Derived.Test.YtheadpemckoljaaGreatDoorJm
import Derived.Lib.AppendStr
import Derived.Lib.UnsafeStr
import Derived.Deep.RegionLaw
import Derived.Deep.RegionWith
import Derived.Deep.DeepCutAuto
namespace Go.Proofs.YtheadpemckoljaaGreatDoor
open Go.RowKit Go.Extern.Stop Go.Stop Go.Extern Go.Maps Go.WideMaps

/-! ### sums by names -/
def sumE (l : List Ent) (s : List UInt8) : Int := (l.map fun e => if e.1 = s then e.2 else 0).sum
theorem sumE_snoc (l : List Ent) (e : Ent) (s : List UInt8) : sumE (l ++ [e]) s = sumE l s + if e.1 = s then e.2 else 0 := by
  unfold sumE
  simp
theorem sumE_bd {l : List Ent} (h : ∀ e ∈ l, EntOk e) (s : List UInt8) : 0 ≤ sumE l s ∧ sumE l s ≤ 1000000 * l.length := by
  induction l with
  | nil => simp [sumE]
  | cons e l ih =>
    have h1 := (h e (by simp)).2
    have h2 := ih fun x hx => h x (by simp [hx])
    have e1 : sumE (e :: l) s = (if e.1 = s then e.2 else 0) + sumE l s := by simp [sumE]
    rw [e1]
    split
    · simp only [List.length_cons]; omega
    · simp only [List.length_cons]; omega
/-- Counters that tell the sums of entries. -/
def SumsOf (l : List Ent) (L : List (List UInt8 × Int)) : Prop := (∀ s, vl L s = sumE l s) ∧ ∀ s, (∃ p ∈ L, p.1 = s) ↔ ∃ e ∈ l, e.1 = s
theorem SumsOf.nil : SumsOf [] [] := ⟨fun s => rfl, fun s => by simp⟩
theorem SumsOf.snoc {l : List Ent} {L : List (List UInt8 × Int)} (h : SumsOf l L) (e : Ent) : SumsOf (l ++ [e]) (putL e.1 (vl L e.1 + e.2) L) := by
  refine ⟨fun s => ?_, fun s => ?_⟩
  · rw [vl_put, sumE_snoc]
    by_cases hs : e.1 = s
    · subst hs; simp [h.1]
    · rw [if_neg (fun h => hs h.symm), if_neg hs, h.1]; simp
  · constructor
    · rintro ⟨p, hp, rfl⟩
      unfold putL at hp
      rcases List.mem_cons.1 hp with rfl | hp
      · exact ⟨e, by simp, rfl⟩
      · obtain ⟨x, hx, hxe⟩ := (h.2 p.1).1 ⟨p, (List.mem_filter.1 hp).1, rfl⟩
        exact ⟨x, by simp [hx], hxe⟩
    · rintro ⟨x, hx, rfl⟩
      by_cases hs : x.1 = e.1
      · exact ⟨(e.1, vl L e.1 + e.2), by unfold putL; exact List.mem_cons_self, hs.symm⟩
      · rcases List.mem_append.1 hx with hx | hx
        · obtain ⟨p, hp, hpe⟩ := (h.2 x.1).2 ⟨x, hx, rfl⟩
          refine ⟨p, ?_, hpe⟩
          unfold putL
          exact List.mem_cons_of_mem _ (List.mem_filter.2 ⟨hp, by rw [hpe]; simpa using hs⟩)
        · obtain rfl := List.mem_singleton.1 hx
          exact absurd rfl hs
theorem distinct_few : ∀ (L : List (List UInt8 × Int)) (l : List Ent), Ap L → (∀ p ∈ L, ∃ e ∈ l, e.1 = p.1) → L.length ≤ l.length
  | [], l, _, _ => by simp
  | p :: L, l, h, hs => by
    obtain ⟨h1, h2⟩ := List.pairwise_cons.1 h
    obtain ⟨e, he, hep⟩ := hs p (by simp)
    have := distinct_few L (l.filter fun x => x.1 != e.1) h2 (fun q hq => by
      obtain ⟨x, hx, hxq⟩ := hs q (by simp [hq])
      refine ⟨x, List.mem_filter.2 ⟨hx, ?_⟩, hxq⟩
      have := h1 q hq
      rw [hxq, hep]
      simpa using fun h => this h.symm)
    have h3 : (l.filter fun x => x.1 != e.1).length < l.length := by
      have h4 := List.length_filter_le (fun x : Ent => x.1 != e.1) l
      rcases Nat.lt_or_ge (l.filter fun x => x.1 != e.1).length l.length with h5 | h5
      · exact h5
      · have h6 : (l.filter fun x => x.1 != e.1).length = l.length := by omega
        have h7 := List.length_filter_eq_length_iff.1 h6 e he
        simp at h7
    simp
    omega
theorem SumsOf.few {l : List Ent} {L : List (List UInt8 × Int)} (h : SumsOf l L) (ha : Ap L) : L.length ≤ l.length := distinct_few L l ha fun p hp => (h.2 p.1).1 ⟨p, hp, rfl⟩

/-! ### the journal's length -/
theorem bodyL_len {k : Nat} {e : Ent} (h : nameOk e.1 = true) (hk : k ≤ 1000) (hn : -9223372036854775808 ≤ e.2) (hn1 : e.2 ≤ 9223372036854775807) : (lineL k e).length ≤ 80 := by
  have h1 := itoa_len (k : Int) (by omega) (by omega)
  have h2 := itoa_len e.2 hn hn1
  have h3 := chk_lt (saidL k e)
  have h4 := itoa_len (chk (saidL k e) : Nat) (by omega) (by omega)
  have h5 := (nameOk_len h).2
  rw [lineL_parts]
  simp
  omega
theorem jourF_len : ∀ (l : List Ent) (k : Nat), (∀ e ∈ l, EntOk e) → k + l.length ≤ 1000 → (jourF k l).length ≤ 80 * l.length
  | [], k, _, _ => by simp [jourF]
  | e :: l, k, h, hk => by
    have h1 := h e (by simp)
    simp only [List.length_cons] at hk
    have h2 := bodyL_len (k := k) h1.1 (by omega) (by have := h1.2; omega) (by have := h1.2; omega)
    have h3 := jourF_len l (k + 1) (fun x hx => h x (by simp [hx])) (by omega)
    rw [jourF, List.length_append, List.length_cons]
    omega
theorem jour_len {l : List Ent} (h : ∀ e ∈ l, EntOk e) (hk : l.length ≤ 500) : (jour l).length ≤ 40000 := by
  have := jourF_len l 0 h (by omega)
  unfold jour
  omega

/-! ### in memory -/
/-- A book at block b: cm is its map (none: nil), jv its journal's slice. -/
structure BkAt (w : World) (b : Nat) (cm : Option Nat) (jv : Value) (sure : Nat) (l : List Ent) : Prop where
  blk : w.heap[b]? = some (.cells #[.map cm, jv, .int .i64 sure, .int .i64 (l.length : Nat)] 28 (0, 0))
  jr : w.ownsRow 0 5 1 jv (jour l).length (Lib.byteCells (jour l))
  ok : ∀ e ∈ l, EntOk e
  few : l.length ≤ 500
  sr : sure ≤ (jour l).length
  mp : (cm = none ∧ l = []) ∨ ∃ m L, cm = some m ∧ MpS w m L ∧ SumsOf l L
/-- The blocks of a book. -/
def BkS (b : Nat) (cm : Option Nat) (jv : Value) : Nat → Prop := fun k => k = b ∨ cm = some k ∨ jv.ownBlock = some k
theorem ownsRow_kept {w w' : World} {base n k : Nat} {e : TypeId} {v : Value} {xs : List Value} (h : w.ownsRow base e k v n xs) (hk : ∀ b, v.ownBlock = some b → w'.heap[b]? = w.heap[b]?) : w'.ownsRow base e k v n xs := by
  refine ⟨h.1, ?_⟩
  rcases h.2 with h | ⟨g, cap, cur, rfl, hg, hb, rest⟩
  · exact Or.inl h
  · exact Or.inr ⟨g, cap, cur, rfl, hg, (hk g rfl).trans hb, rest⟩
theorem ownsRow_blk {w : World} {base n k : Nat} {e : TypeId} {v : Value} {xs : List Value} (h : w.ownsRow base e k v n xs) {b : Nat} (hb : v.ownBlock = some b) : ∃ cur, w.heap[b]? = some (.cells cur e (0, 0)) := by
  rcases h.2 with ⟨rfl, _⟩ | ⟨g, cap, cur, rfl, hg, hh, rest⟩
  · simp [Value.ownBlock] at hb
  · simp [Value.ownBlock] at hb
    subst hb
    exact ⟨cur, hh⟩
theorem BkAt.kept {w w' : World} {b : Nat} {cm : Option Nat} {jv : Value} {sure : Nat} {l : List Ent} (h : BkAt w b cm jv sure l) (hk : ∀ k, BkS b cm jv k → w'.heap[k]? = w.heap[k]?) : BkAt w' b cm jv sure l := by
  refine ⟨(hk b (Or.inl rfl)).trans h.blk, ownsRow_kept h.jr fun k hj => hk k (Or.inr (Or.inr hj)), h.ok, h.few, h.sr, ?_⟩
  rcases h.mp with h1 | ⟨m, L, rfl, h2, h3⟩
  · exact Or.inl h1
  · exact Or.inr ⟨m, L, rfl, h2.block (hk m (Or.inr (Or.inl rfl))), h3⟩
theorem BkAt.lt {w : World} {b : Nat} {cm : Option Nat} {jv : Value} {sure : Nat} {l : List Ent} (h : BkAt w b cm jv sure l) {k : Nat} (hk : BkS b cm jv k) : k < w.heap.size := by
  rcases hk with rfl | hk | hk
  · exact lt_of_block h.blk
  · rcases h.mp with ⟨rfl, _⟩ | ⟨m, L, rfl, h2, _⟩
    · cases hk
    · obtain rfl := Option.some.inj hk
      exact h2.lt
  · obtain ⟨cur, hc⟩ := ownsRow_blk h.jr hk
    exact lt_of_block hc
theorem BkAt.below {w w' : World} {b : Nat} {cm : Option Nat} {jv : Value} {sure : Nat} {l : List Ent} (h : BkAt w b cm jv sure l) (hb : Below w.heap.size w w') : BkAt w' b cm jv sure l := h.kept fun k hk => hb.block k (h.lt hk)
theorem BkAt.oth {w w' : World} {S : Nat → Prop} {b : Nat} {cm : Option Nat} {jv : Value} {sure : Nat} {l : List Ent} (h : BkAt w b cm jv sure l) (ho : Ot S w w') (hS : ∀ k, BkS b cm jv k → ¬ S k) : BkAt w' b cm jv sure l := h.kept fun k hk => ho.block k (h.lt hk) (hS k hk)
/-- What a book's blocks are not: its own block, its map and its journal lie apart. -/
theorem BkAt.map_ne {w : World} {b m : Nat} {L : List (List UInt8 × Int)} {c : Array Value} {t : TypeId} {f : Nat × Nat} (hm : MpS w m L) (hb : w.heap[b]? = some (.cells c t f)) : m ≠ b := by
  rintro rfl
  obtain ⟨es, clock, h, _⟩ := hm.len
  rw [hb] at h
  cases h
theorem jr_ne {w : World} {base n k b : Nat} {e t : TypeId} {v : Value} {xs : List Value} {c : Array Value} {f : Nat × Nat} (h : w.ownsRow base e k v n xs) (hb : w.heap[b]? = some (.cells c t f)) (hne : e ≠ t) : v.ownBlock ≠ some b := by
  intro hv
  obtain ⟨cur, hc⟩ := ownsRow_blk h hv
  rw [hb] at hc
  simp only [Option.some.injEq, Obj.cells.injEq] at hc
  exact hne hc.2.1.symm
theorem jr_map {w : World} {base n k m : Nat} {e : TypeId} {v : Value} {xs : List Value} {L : List (List UInt8 × Int)} (h : w.ownsRow base e k v n xs) (hm : MpS w m L) : v.ownBlock ≠ some m := by
  intro hv
  obtain ⟨cur, hc⟩ := ownsRow_blk h hv
  obtain ⟨es, clock, h2, _⟩ := hm.len
  rw [hc] at h2
  cases h2
/-- A new book. -/
theorem BkAt.new (w : World) : BkAt (w.alloc (.cells #[.map none, .slice none 0 0, .int .i64 0, .int .i64 0] 28)) w.heap.size none (.slice none 0 0) 0 [] :=
  ⟨new_block _ _, World.ownsRow_nil _ _ _ _, by simp, by simp, by simp, Or.inl ⟨rfl, rfl⟩⟩
theorem bk_cells {w : World} {b : Nat} {x0 x1 x2 x3 : Value} {T : TypeId} (h : w.heap[b]? = some (.cells #[x0, x1, x2, x3] T (0, 0))) :
    (w.cell? ⟨b, 0, none⟩ = some x0 ∧ w.cell? ⟨b, 1, none⟩ = some x1 ∧ w.cell? ⟨b, 2, none⟩ = some x2 ∧ w.cell? ⟨b, 3, none⟩ = some x3) ∧ (w.frozen? ⟨b, 0, none⟩ = false ∧ w.frozen? ⟨b, 1, none⟩ = false ∧ w.frozen? ⟨b, 2, none⟩ = false ∧ w.frozen? ⟨b, 3, none⟩ = false) := by
  refine ⟨⟨?_, ?_, ?_, ?_⟩, ?_, ?_, ?_, ?_⟩
  all_goals simp [World.cell?, World.frozen?, h]
/-- append of a text: where what comes of it lies. -/
theorem append_str_fresh {P : Program} (w : World) (base : Nat) (t u ty e : TypeId) (i : TypeInfo) (ht : P.underlying t = some (.slice e)) (hu : P.underlying u = some .string) (hi : P.info? e = some i) (hz : i.zero = some (.int .u8 0))
    (hsize : i.size = 1) (hby : i.bytes = 1) (v : Value) (n : Nat) (xs : List Value) (hown : w.ownsRow base e 1 v n xs) (s : ByteArray) (h63 : n + s.size ≤ maxLen) (hbytes : n + s.size ≤ 140737488355328)
    {v' : Value} {w' : World} (hr : (Builtin.append_ #[t, u] ty #[v, .string s]).run P w = .ok v' w') : ∀ g, v'.ownBlock = some g → v.ownBlock = some g ∨ w.heap.size ≤ g := by
  have h63' : n + s.size ≤ 9223372036854775807 := by unfold maxLen at h63; omega
  rcases hown.2 with ⟨rfl, rfl⟩ | ⟨b, cap, cur, rfl, hg, hb, hn, hm, hs, hc⟩
  · obtain ⟨v2, w2, hr2, h2, _, _⟩ := Lib.run_append_own_string (P := P) w w.heap.size t u ty e i ht hu hi hz hsize hby (.slice none 0 0) 0 [] (World.ownsRow_nil w _ e 1) s h63 hbytes (Nat.le_refl _)
    rw [hr] at hr2
    simp only [Result.ok.injEq] at hr2
    obtain ⟨rfl, rfl⟩ := hr2
    intro g hg
    rcases h2.2 with ⟨e1, _⟩ | ⟨g2, c2, cu2, e1, h3, _⟩
    · rw [e1] at hg; simp [Value.ownBlock] at hg
    · rw [e1] at hg
      simp only [Value.ownBlock, Option.some.injEq] at hg
      omega
  · by_cases hroom : n + s.size ≤ cap
    · have hr2 := Lib.run_append_room_string (P := P) w t u ty e i ht hu hi hsize b n cap cur hb s hroom (by omega)
      rw [hr] at hr2
      simp only [Result.ok.injEq] at hr2
      obtain ⟨rfl, -⟩ := hr2
      exact fun g hg => Or.inl hg
    · have hr2 := Lib.run_append_grow_string (P := P) w t u ty e i (.int .u8 0) ht hu hi hz ⟨b, 0, none⟩ n cap xs (by rw [hsize]; simpa using hown.1) (hown.cells (g := b) rfl) s (by omega) (by omega) (by rw [hby]; exact growslice_fits (by omega) (by omega))
      rw [hr] at hr2
      simp only [Result.ok.injEq] at hr2
      obtain ⟨rfl, -⟩ := hr2
      intro g hg
      simp only [Value.ownBlock, Option.some.injEq] at hg
      right
      omega
/-- append of a text, as a step of a drawn region. -/
theorem step_append_str {P : Program} (w : World) {ops : Array Oper} {o : Oper} {a : Act} {K : Act → World → Prop} {Q : Exit → Act → World → Prop} {E : Prop} (hgd : o.guard = none) (sl x : Operand) (t u : TypeId)
    (ho : o.op = .call { callee := .builtin .append, args := #[sl, x], argTypes := #[t, u] })
    (base : Nat) (e : TypeId) (i : TypeInfo) (ht : P.underlying t = some (.slice e)) (hu : P.underlying u = some .string) (hi : P.info? e = some i) (hz : i.zero = some (.int .u8 0))
    (hsize : i.size = 1) (hby : i.bytes = 1)
    (v : Value) (n : Nat) (xs : List Value) (hs : a.eval sl = v) (hown : w.ownsRow base e 1 v n xs) (s : ByteArray) (hx : a.eval x = .string s)
    (h63 : n + s.size ≤ maxLen) (hbytes : n + s.size ≤ 140737488355328) (hbase : base ≤ w.heap.size)
    (h : ∀ v' w', w'.ownsRow base e 1 v' (n + s.size) (xs ++ Lib.strCells s) → w.grownBy w' v.ownBlock → (∀ g, v'.ownBlock = some g → v.ownBlock = some g ∨ w.heap.size ≤ g) → K (a.put o.dst v') w') :
    if Region.wanted o (yielded ops a.tmps) = true then Oper.wp P o a w K Q else E := by
  have hw : Region.wanted o (yielded ops a.tmps) = true := by simp [Region.wanted, hgd]
  rw [if_pos hw]
  obtain ⟨v', w', hr, h2, h3, -⟩ := Lib.run_append_own_string (P := P) w base t u o.type e i ht hu hi hz hsize hby v n xs hown s h63 hbytes hbase
  unfold Oper.wp execOp
  simp only [ho, resolve, invoke, builtin, Sem.run_bind, Sem.run_pure, Result.andThen_ok, List.map_toArray, List.map_cons, List.map_nil, hs, hx, hr]
  exact h v' w' h2 h3 (append_str_fresh (P := P) w base t u o.type e i ht hu hi hz hsize hby v n xs hown s h63 hbytes hr)
end Go.Proofs.YtheadpemckoljaaGreatDoor
