/-
  millracelaw.QueueLists: it returns true at all moves; nothing that was there before is otherwise. Conditions: the moves lie in memory.
-/
import Derived.Test.YtgiommaelipmhaaQl
namespace Go.Proofs.Ytgiommaelipmhaa
open Go.RowKit Go.Extern.Stop Go.Stop Go.Extern

/-- A move: What, Len. -/
structure Mv where
  what : Int
  len : Int
def Mv.cs (m : Mv) : List Value := [.int .i64 m.what, .int .i64 m.len]
theorem Mv.len2 (m : Mv) : m.cs.length = 2 := rfl
/-- Cells lie in memory, from an address on. -/
def LiesM (w : World) (x : Option Addr) (cells : List Value) : Prop := cells = [] ∨ ∃ b off, x = some ⟨b, off, none⟩ ∧ b < w.heap.size ∧ ∀ j u, cells[j]? = some u → w.cell? ⟨b, off + j, none⟩ = some u
theorem LiesM.below {w w' : World} {x : Option Addr} {cells : List Value} (h : LiesM w x cells) (hb : Below w.heap.size w w') : LiesM w' x cells := by
  rcases h with h | ⟨b, off, e, hl, h⟩
  · exact Or.inl h
  · exact Or.inr ⟨b, off, e, Nat.lt_of_lt_of_le hl hb.size, fun j u hj => by rw [hb.cell (p := ⟨b, off + j, none⟩) hl]; exact h j u hj⟩
theorem LiesM.two {w : World} {x : Option Addr} {ms : List Mv} (h : LiesM w x (flt Mv.cs ms)) {k : Nat} {m : Mv} (hk : ms[k]? = some m) : ∃ b off, x = some ⟨b, off, none⟩ ∧ b < w.heap.size ∧ w.cell? ⟨b, off + k * 2, none⟩ = some (.int .i64 m.what) ∧ w.cell? ⟨b, off + k * 2 + 1, none⟩ = some (.int .i64 m.len) := by
  have hat : ∀ j, j < 2 → (flt Mv.cs ms)[k * 2 + j]? = m.cs[j]? := fun j hj => flt_at Mv.cs 2 Mv.len2 hk hj
  rcases h with h | ⟨b, off, e, hl, h⟩
  · have := hat 0 (by omega)
    rw [h] at this
    simp [Mv.cs] at this
  · exact ⟨b, off, e, hl, h _ _ (hat 0 (by omega)), h _ _ (hat 1 (by omega))⟩
/-- A length from 1 to 10000. -/
def mlen (a : Int) : Int := 1 + (a % 18446744073709551616) % 10000
theorem mlen_le (a : Int) : 1 ≤ mlen a ∧ mlen a ≤ 10000 := by unfold mlen; omega
/-- Both lists, in memory: l in block B, and w. -/
structure Two (w0 : World) (B : Nat) (wr : World) (v wv : Value) (L : List Hd) : Prop where
  list : LAt wr B 25 [] v L
  row : Hs wr wv L
  apart : ∀ k, wv.ownBlock = some k → B < k ∧ v.ownBlock ≠ some k
  new : ∀ k, v.ownBlock = some k → B < k
  below : Below w0.heap.size w0 wr
theorem keep_new {S : Nat → Prop} {n : Nat} {W w5 : World} (hS : ∀ k, S k → k < n) (ho : Ot S W w5) {j : Nat} (hj : n ≤ j) (hjl : j < W.heap.size) : w5.heap[j]? = W.heap[j]? := ho.block j hjl (fun h => by have := hS j h; omega)
theorem mlen_walk (a : Int) : ∃ z, wrap64 ((IntKind.u64.wrap a).tmod 10000) = z ∧ 0 ≤ z ∧ z ≤ 9999 := by
  refine ⟨_, rfl, ?_⟩
  rw [IntKind.wrap_u64, Int.tmod_eq_emod_of_nonneg (by omega)]
  have h1 := Int.emod_nonneg (a % 18446744073709551616) (by omega : (10000 : Int) ≠ 0)
  have h2 := Int.emod_lt_of_pos (a % 18446744073709551616) (by omega : (0 : Int) < 10000)
  generalize a % 18446744073709551616 % 10000 = r at *
  unfold wrap64; omega
/-- Behind the switch. -/
structure SwR (w : World) (n k : Nat) (wv ov fv : Value) (wx : World) (L : List Hd) (v : Value) (y : Hd) (fl : Bool) : Prop where
  two : Two w w.heap.size wx v wv L
  len : L.length ≤ k + 1
  each : ∀ y ∈ L, 0 ≤ y.l ∧ y.l ≤ 10000
  o : ov = .bool fl
  f : fv = .bool fl
  b7 : wx.heap[n + 1]? = some (.cells #[.int .i64 y.a, .int .i64 y.l, .int .i64 y.f, .int .i64 y.b, .int .i64 y.m, .int .i64 y.n] 32 (0, 0))
  b9 : wx.heap[n + 1 + 1]? = some (.cells #[.int .i64 y.a, .int .i64 y.l, .int .i64 y.f, .int .i64 y.b, .int .i64 y.m, .int .i64 y.n] 32 (0, 0))
theorem Hs.shape {w : World} {v : Value} {L : List Hd} {n : Nat} (h : Hs w v L) (hn : L.length = n) : ∃ x cap, v = .slice x n cap := by
  subst hn
  rcases h.form with ⟨h, h0, _⟩ | ⟨b, off, cap, h, _⟩
  · exact ⟨none, 0, by rw [h, h0]⟩
  · exact ⟨_, _, h⟩
theorem drew_heap (w : World) : w.drew.heap = w.heap := rfl
theorem six_other {w : World} {b c : Nat} (hne : c ≠ b) (a0 a1 a2 a3 a4 a5 : Value) : ((((((w.setCell ⟨b, 0, none⟩ a0).setCell ⟨b, 1, none⟩ a1).setCell ⟨b, 2, none⟩ a2).setCell ⟨b, 3, none⟩ a3).setCell ⟨b, 4, none⟩ a4).setCell ⟨b, 5, none⟩ a5).heap[c]? = w.heap[c]? := by
  rw [Below.heap_setCell _ _ _ _ hne, Below.heap_setCell _ _ _ _ hne, Below.heap_setCell _ _ _ _ hne, Below.heap_setCell _ _ _ _ hne, Below.heap_setCell _ _ _ _ hne, Below.heap_setCell _ _ _ _ hne]
def Hd.blk (y : Hd) : Obj := .cells #[.int .i64 y.a, .int .i64 y.l, .int .i64 y.f, .int .i64 y.b, .int .i64 y.m, .int .i64 y.n] 32 (0, 0)
/-- Both variables are written. -/
theorem both_set {w : World} {b c : Nat} {y0 y1 : Hd} (hb : w.heap[b]? = some y0.blk) (hc : w.heap[c]? = some y1.blk) (hne : c ≠ b) (y : Hd) :
    ((((((((((((w.setCell ⟨b, 0, none⟩ (.int .i64 y.a)).setCell ⟨b, 1, none⟩ (.int .i64 y.l)).setCell ⟨b, 2, none⟩ (.int .i64 y.f)).setCell ⟨b, 3, none⟩ (.int .i64 y.b)).setCell ⟨b, 4, none⟩ (.int .i64 y.m)).setCell ⟨b, 5, none⟩ (.int .i64 y.n)).setCell ⟨c, 0, none⟩ (.int .i64 y.a)).setCell ⟨c, 1, none⟩ (.int .i64 y.l)).setCell ⟨c, 2, none⟩ (.int .i64 y.f)).setCell ⟨c, 3, none⟩ (.int .i64 y.b)).setCell ⟨c, 4, none⟩ (.int .i64 y.m)).setCell ⟨c, 5, none⟩ (.int .i64 y.n)).heap[b]? = some y.blk ∧
    ((((((((((((w.setCell ⟨b, 0, none⟩ (.int .i64 y.a)).setCell ⟨b, 1, none⟩ (.int .i64 y.l)).setCell ⟨b, 2, none⟩ (.int .i64 y.f)).setCell ⟨b, 3, none⟩ (.int .i64 y.b)).setCell ⟨b, 4, none⟩ (.int .i64 y.m)).setCell ⟨b, 5, none⟩ (.int .i64 y.n)).setCell ⟨c, 0, none⟩ (.int .i64 y.a)).setCell ⟨c, 1, none⟩ (.int .i64 y.l)).setCell ⟨c, 2, none⟩ (.int .i64 y.f)).setCell ⟨c, 3, none⟩ (.int .i64 y.b)).setCell ⟨c, 4, none⟩ (.int .i64 y.m)).setCell ⟨c, 5, none⟩ (.int .i64 y.n)).heap[c]? = some y.blk := by
  constructor
  · rw [six_other (fun e => hne e.symm)]
    exact six_set' hb _ _ _ _ _ _
  · exact six_set' ((six_other hne _ _ _ _ _ _).trans hc) _ _ _ _ _ _
theorem neqHeld (x : Hd) (w : World) : (binOp .neq 32 (.agg #[.int .i64 x.a, .int .i64 x.l, .int .i64 x.f, .int .i64 x.b, .int .i64 x.m, .int .i64 x.n]) (.agg #[.int .i64 x.a, .int .i64 x.l, .int .i64 x.f, .int .i64 x.b, .int .i64 x.m, .int .i64 x.n])).run Try.prog w = .ok (.bool false) w := by
  rw [run_neq_struct]
  go_simp
/-- What the switch leaves, where the list was moved and a packet told. -/
theorem sw_end {w wr w5 wx : World} {v wv v5 wv5 : Value} {L L5 : List Hd} {n k : Nat} {o1 o2 o3 : Obj} {y : Hd} {fl : Bool} {S : Nat → Prop} (hn : wr.heap.size = n) (ht : Two w w.heap.size wr v wv L)
    (hS : ∀ j, S j → j = w.heap.size ∨ v.ownBlock = some j) (ho5 : Ot S (((wr.alloc o1).alloc o2).alloc o3) w5) (hl5 : LAt w5 w.heap.size 25 [] v5 L5) (hk5 : v5.ownBlock = v.ownBlock)
    (hs5 : Hs w5 wv5 L5) (hw5 : wv5.ownBlock = wv.ownBlock) (hx : Ot (fun j => j = n + 1 ∨ j = n + 1 + 1) w5 wx)
    (b7 : wx.heap[n + 1]? = some y.blk) (b9 : wx.heap[n + 1 + 1]? = some y.blk) (hlen : L5.length ≤ k + 1) (heach : ∀ y ∈ L5, 0 ≤ y.l ∧ y.l ≤ 10000) : SwR w n k wv5 (.bool fl) (.bool fl) wx L5 v5 y fl := by
  subst hn
  have hBl := ht.list.lt
  have hvl : ∀ j, v.ownBlock = some j → j < wr.heap.size := fun j hj => ht.list.row.lt hj
  have hwl : ∀ j, wv.ownBlock = some j → j < wr.heap.size := fun j hj => Seg.lt ht.row hj
  refine ⟨⟨hl5.ot hx (by omega) (fun j hj => by have := hvl j (hk5 ▸ hj); omega), Seg.oth hs5 hx (fun j hj => by have := hwl j (hw5 ▸ hj); omega), fun j hj => ?_, fun j hj => ht.new j (hk5 ▸ hj), ?_⟩, hlen, heach, rfl, rfl, b7, b9⟩
  · have := ht.apart j (hw5 ▸ hj)
    exact ⟨this.1, by rw [hk5]; exact this.2⟩
  · refine ht.below.trans ((((Ot.alloc (Ot.alloc (Ot.alloc (Ot.refl S wr) o1) o2) o3).trans ho5).trans' hx (fun j hj hlt => ?_)).below ht.below.size (fun j hj => ?_))
    · omega
    · rcases hS j hj with h | h
      · omega
      · have := ht.new j h; omega
/-- What the switch leaves, where a packet was added. -/
theorem sw_add {w wr w5 w6 : World} {v wv v5 wv6 : Value} {L L5 : List Hd} {n k : Nat} {o1 o4 o5 : Obj} (hn : wr.heap.size = n) (ht : Two w w.heap.size wr v wv L)
    (ho5 : Ot (fun j => j = w.heap.size ∨ v.ownBlock = some j) ((((wr.alloc o1).alloc hd0.blk).alloc hd0.blk).alloc o4) w5) (hl5 : LAt w5 w.heap.size 25 [] v5 L5) (hk5 : ∀ j, v5.ownBlock = some j → v.ownBlock = some j ∨ n + 4 ≤ j)
    (hg6 : (w5.alloc o5).grownBy w6 wv.ownBlock) (hs6 : Hs w6 wv6 L5) (ha6 : ∀ j, wv6.ownBlock = some j → wv.ownBlock = some j ∨ w5.heap.size + 1 ≤ j)
    (hlen : L5.length ≤ k + 1) (heach : ∀ y ∈ L5, 0 ≤ y.l ∧ y.l ≤ 10000) : SwR w n k wv6 (.bool false) (.bool false) w6 L5 v5 hd0 false := by
  subst hn
  have hBl := ht.list.lt
  have hs5 : wr.heap.size + 4 ≤ w5.heap.size := by have := ho5.size; simp at this; omega
  have hvl : ∀ j, v.ownBlock = some j → j < wr.heap.size := fun j hj => ht.list.row.lt hj
  have hwl : ∀ j, wv.ownBlock = some j → j < wr.heap.size := fun j hj => Seg.lt ht.row hj
  have hold : ∀ j, j < w5.heap.size → wv.ownBlock ≠ some j → w6.heap[j]? = w5.heap[j]? := fun j hj hne => (hg6.block j (by simp; omega) (fun e => hne e.symm)).trans (Below.heap_alloc _ _ _ hj)
  have hz : ∀ j, wr.heap.size ≤ j → j < wr.heap.size + 4 → w6.heap[j]? = ((((wr.alloc o1).alloc hd0.blk).alloc hd0.blk).alloc o4).heap[j]? := fun j h1 h2 => (hold j (by omega) (fun e => by have := hwl j e; omega)).trans (ho5.block j (by simp; omega) (fun e => by rcases e with e | e; omega; have := hvl j e; omega))
  refine ⟨⟨hl5.kept (hold _ (by omega) (fun e => by have := (ht.apart _ e).1; omega)) (fun j hj => hold j (hl5.row.lt hj) (fun e => ?_)), hs6, fun j hj => ?_, fun j hj => ?_, ?_⟩, hlen, heach, rfl, rfl, ?_, ?_⟩
  · rcases hk5 j hj with h | h
    · exact (ht.apart j e).2 h
    · have := hwl j e; omega
  · rcases ha6 j hj with h | h
    · refine ⟨(ht.apart j h).1, fun e => ?_⟩
      rcases hk5 j e with h' | h'
      · exact (ht.apart j h).2 h'
      · have := hwl j h; omega
    · refine ⟨by omega, fun e => ?_⟩
      have := hl5.row.lt e
      omega
  · rcases hk5 j hj with h | h
    · exact ht.new j h
    · omega
  · have h1 : Ot (fun j => j = w.heap.size ∨ v.ownBlock = some j) wr w5 := (Ot.alloc (Ot.alloc (Ot.alloc (Ot.alloc (Ot.refl _ wr) o1) _) _) o4).trans ho5
    refine ht.below.trans (Below.grown (h1.alloc o5 |>.below ht.below.size (fun j hj => ?_)) hg6 (by have := ht.below.size; simp; omega) (fun j hj => by have := (ht.apart j hj).1; omega))
    rcases hj with h | h
    · omega
    · have := ht.new j h; omega
  · rw [hz _ (by omega) (by omega), Below.heap_alloc _ _ _ (by simp), Below.heap_alloc _ _ _ (by simp)]
    exact new_block_ (by simp)
  · rw [hz _ (by omega) (by omega), Below.heap_alloc _ _ _ (by simp)]
    exact new_block_ (by simp)
theorem after3 {S : Nat → Prop} {w w5 : World} {o1 o2 o3 : Obj} (hS : ∀ k, S k → k < w.heap.size) (ho : Ot S (((w.alloc o1).alloc o2).alloc o3) w5) : w5.heap[w.heap.size + 1]? = some o2 ∧ w5.heap[w.heap.size + 1 + 1]? = some o3 ∧ w.heap.size + 1 + 1 < w5.heap.size := by
  have hs := ho.size
  simp at hs
  refine ⟨?_, ?_, by omega⟩
  · rw [ho.block _ (by simp) (fun h => by have := hS _ h; omega), Below.heap_alloc _ _ _ (by simp)]
    exact new_block_ (by simp)
  · rw [ho.block _ (by simp) (fun h => by have := hS _ h; omega)]
    exact new_block_ (by simp)
theorem Hs.cells {w : World} {b off cap n : Nat} {L : List Hd} (h : Hs w (.slice (some ⟨b, off, none⟩) n cap) L) {k : Nat} {x : Hd} (hk : L[k]? = some x) : w.cell? ⟨b, off + k * 6, none⟩ = some (.int .i64 x.a) ∧ w.cell? ⟨b, off + k * 6 + 1, none⟩ = some (.int .i64 x.l) ∧ w.cell? ⟨b, off + k * 6 + 2, none⟩ = some (.int .i64 x.f) ∧ w.cell? ⟨b, off + k * 6 + 3, none⟩ = some (.int .i64 x.b) ∧ w.cell? ⟨b, off + k * 6 + 4, none⟩ = some (.int .i64 x.m) ∧ w.cell? ⟨b, off + k * 6 + 5, none⟩ = some (.int .i64 x.n) := by
  have hat : ∀ j, j < 6 → (flt Hd.cs L)[k * 6 + j]? = x.cs[j]? := fun j hj => flt_at Hd.cs 6 Hd.len hk hj
  rcases h.form with ⟨h1, _, _⟩ | ⟨b', off', cap', h1, _, _, _, hc⟩
  · simp at h1
  · simp only [Value.slice.injEq, Option.some.injEq, Addr.mk.injEq, and_true] at h1
    obtain ⟨⟨rfl, rfl⟩, _⟩ := h1
    exact ⟨hc _ _ (hat 0 (by omega)), hc _ _ (hat 1 (by omega)), hc _ _ (hat 2 (by omega)), hc _ _ (hat 3 (by omega)), hc _ _ (hat 4 (by omega)), hc _ _ (hat 5 (by omega))⟩
theorem Hs.head {w : World} {b off cap n : Nat} {x : Hd} {L : List Hd} (h : Hs w (.slice (some ⟨b, off, none⟩) n cap) (x :: L)) : w.cell? ⟨b, off, none⟩ = some (.int .i64 x.a) ∧ w.cell? ⟨b, off + 1, none⟩ = some (.int .i64 x.l) ∧ w.cell? ⟨b, off + 2, none⟩ = some (.int .i64 x.f) ∧ w.cell? ⟨b, off + 3, none⟩ = some (.int .i64 x.b) ∧ w.cell? ⟨b, off + 4, none⟩ = some (.int .i64 x.m) ∧ w.cell? ⟨b, off + 5, none⟩ = some (.int .i64 x.n) := by
  have := h.cells (k := 0) (x := x) rfl
  simpa using this
theorem Two.to {w0 : World} {B : Nat} {wr w5 : World} {v wv : Value} {L : List Hd} (h : Two w0 B wr v wv L) (hb : Below wr.heap.size wr w5) : Two w0 B w5 v wv L := ⟨h.list.below hb, h.row.below hb, h.apart, h.new, h.below.trans (hb.mono h.below.size)⟩
theorem Two.drewN {w0 : World} {B : Nat} {wr : World} {v wv : Value} {L : List Hd} (h : Two w0 B wr v wv L) (n : Nat) : Two w0 B (wr.drewN n) v wv L := ⟨⟨h.list.blk, h.list.row, h.list.ne⟩, h.row, h.apart, h.new, ⟨h.below.os, h.below.tape, h.below.output, h.below.size, h.below.block⟩⟩
theorem sumL_take_succ {L : List Hd} {j : Nat} {x : Hd} (h : L[j]? = some x) : sumL (L.take (j + 1)) = sumL (L.take j) + x.l := by
  rw [List.take_add_one, h, sumL_append]
  simp [sumL]
set_option maxRecDepth 20000 in
set_option maxHeartbeats 4000000 in
theorem lists_any (x : Option Addr) (cap : Nat) (ms : List Mv) (w : World) (hl : LiesM w x (flt Mv.cs ms)) (hm : ms.length ≤ maxLen) :
    Calls Try.prog 3 #[.slice x ms.length cap] w fun e w' => e = .returned (.bool true) ∧ Below w.heap.size w w' := by
  have HL : Hid (LiesM w x (flt Mv.cs ms)) := hl
  clear hl
  unfold maxLen at hm
  obtain ⟨q, hq⟩ : ∃ q, ms.length = q := ⟨_, rfl⟩
  have HN : Hid (ms.length = q) := hq
  rw [hq] at hm ⊢
  clear hq
  obtain ⟨i0, hi, hz0, hz1, hz2⟩ := info_parts infoHeld
  by_cases hlen : 100 < q
  · go_enter Try.func3, Try.ntmps3
    go_wp2
    go_ret
    exact ⟨rfl, Below.refl _ _⟩
  · have hq1 : q ≤ 100 := by omega
    clear hm hlen
    go_enter Try.func3, Try.ntmps3
    go_wp2
    go_loopw [4, 5] (fun wv i wr => ∃ (k : Nat) (L : List Hd) (v : Value), k ≤ q ∧ i = .int .i64 k ∧ Two w w.heap.size wr v wv L ∧ L.length ≤ k ∧ ∀ y ∈ L, 0 ≤ y.l ∧ y.l ≤ 10000) (fun _ i _ => q - (intOf i).toNat)
    case atStart => exact ⟨0, [], _, Nat.zero_le _, rfl, ⟨⟨new_block _ _, Hs.nil _, by simp [Value.ownBlock]⟩, Hs.nil _, fun k hk => by simp [Value.ownBlock] at hk, fun k hk => by simp [Value.ownBlock] at hk, below_alloc_ (Below.refl _ _) _⟩, Nat.le_refl _, by simp⟩
    case round =>
      obtain ⟨k, L, v, hk, rfl, ht, hLk, hLe⟩ := hrel
      have HT : Hid (Two w w.heap.size wr v u4 L) := ht
      have HF : Hid (L.length ≤ k ∧ ∀ y ∈ L, 0 ≤ y.l ∧ y.l ≤ 10000) := ⟨hLk, hLe⟩
      clear hLe
      by_cases hlt : k < q
      · obtain ⟨m, hmk⟩ : ∃ m, ms[k]? = some m := ⟨_, List.getElem?_eq_getElem (by rw [HN.out]; exact hlt)⟩
        obtain ⟨b, off, rfl, hbl, c0, c1⟩ := (HL.out.below ht.below).two hmk
        have hBl := ht.list.lt
        obtain ⟨ux, ucap, hu4⟩ : ∃ ux ucap, u4 = .slice ux L.length ucap := by
          rcases ht.row.form with ⟨h, h0, _⟩ | ⟨b, off, cap, h, _⟩
          · exact ⟨none, 0, by rw [h, h0]⟩
          · exact ⟨_, _, h⟩
        subst hu4
        obtain ⟨n, hn⟩ : ∃ n, L.length = n := ⟨_, rfl⟩
        have HNL : Hid (L.length = n) := hn
        rw [hn] at hLk HT
        clear ht hmk
        rw [hn]
        clear hn
        obtain ⟨z, hz, hzl⟩ := mlen_walk m.len
        have HA3 : Hid (∀ (o1 o2 o3 : Obj), LAt (((wr.alloc o1).alloc o2).alloc o3) w.heap.size 25 [] v L ∧ Hs (((wr.alloc o1).alloc o2).alloc o3) (.slice ux n ucap) L) := fun o1 o2 o3 => ⟨HT.out.list.below (below_alloc_ (below_alloc_ (below_alloc_ (Below.refl _ _) _) _) _), Hs.below HT.out.row (below_alloc_ (below_alloc_ (below_alloc_ (Below.refl _ _) _) _) _)⟩
        have hvl : ∀ j, v.ownBlock = some j → j < wr.heap.size := fun j hj => HT.out.list.row.lt hj
        have HSL : Hid (∀ j, (j = w.heap.size ∨ v.ownBlock = some j) → j < wr.heap.size) := by
          rintro j (rfl | h)
          · exact hBl
          · exact hvl j h
        have HSB : Hid (∀ j, j = w.heap.size → j < wr.heap.size) := by
          rintro j rfl
          exact hBl
        have hfL : Fit L := ⟨by have := HF.out.1; omega, HF.out.2⟩
        have HFL : Hid (Fit L) := hfL
        have HS5 : Hid (∀ {S : Nat → Prop} {o1 o2 o3 : Obj} {w5 : World}, (∀ j, S j → j = w.heap.size ∨ v.ownBlock = some j) → Ot S (((wr.alloc o1).alloc o2).alloc o3) w5 → Hs w5 (.slice ux n ucap) L) := by
          intro S o1 o2 o3 w5 hS ho
          refine Seg.oth (HA3.out o1 o2 o3).2 ho (fun j hj h => ?_)
          have h1 := HT.out.apart j hj
          rcases hS j h with h | h
          · omega
          · exact h1.2 h
        clear hvl hfL
        go_upto_block 2 with (fail)
        go_cut [4, 8, 10] (fun wv ov fv wx => ∃ L' v' y fl, SwR w wr.heap.size k wv ov fv wx L' v' y fl)
        case first =>
          have hV := Hd.val_eq
          by_cases hw0 : m.what = 0
          · have hw2 : (m.what == 0) = true := by simpa using hw0
            clear hw0
            obtain ⟨h, hh⟩ : ∃ h : Hd, h = ⟨0, 1 + z, 0, 0, 0, k⟩ := ⟨_, rfl⟩
            have hfit : Fit (L ++ [h]) := ⟨by simp; have := HF.out.1; omega, fun y hy => by rcases List.mem_append.1 hy with hy | hy; exact HF.out.2 y hy; simp at hy; subst hy; rw [hh]; show 0 ≤ 1 + z ∧ 1 + z ≤ 10000; omega⟩
            have HFIT : Hid (Fit (L ++ [h])) := hfit
            have HHC : Hid (h.cs = [.int .i64 0, .int .i64 (1 + z), .int .i64 0, .int .i64 0, .int .i64 0, .int .i64 k]) := by show _ = _; rw [hh]; rfl
            have HAD : Hid (∀ (o1 o2 o3 o4 : Obj), Calls Try.prog 4 #[.pointer (some ⟨w.heap.size, 0, none⟩), .agg #[.int .i64 0, .int .i64 (1 + z), .int .i64 0, .int .i64 0, .int .i64 0, .int .i64 k]] ((((wr.alloc o1).alloc o2).alloc o3).alloc o4) fun e w' => e = .returned (.tuple #[]) ∧ ∃ v', LAt w' w.heap.size 25 [] v' (L ++ [h]) ∧ (∀ k, v'.ownBlock = some k → v.ownBlock = some k ∨ wr.heap.size + 4 ≤ k) ∧ Ot (fun k => k = w.heap.size ∨ v.ownBlock = some k) ((((wr.alloc o1).alloc o2).alloc o3).alloc o4) w') := by
              intro o1 o2 o3 o4
              have h1 := add_any h _ ((HA3.out o1 o2 o3).1.below (below_alloc_ (Below.refl _ _) o4)) hfit
              rw [hh] at h1 ⊢
              refine h1.mono ?_
              rintro e w' ⟨rfl, v', h2, h3, h4⟩
              exact ⟨rfl, v', h2, fun k hk => by have := h3 k hk; simpa using this, h4⟩
            have HS6 : Hid (∀ {o1 o2 o3 o4 : Obj} {w5 : World}, Ot (fun k => k = w.heap.size ∨ v.ownBlock = some k) ((((wr.alloc o1).alloc o2).alloc o3).alloc o4) w5 → Seg w5 32 6 (.slice ux n ucap) n (flt Hd.cs L)) := by
              intro o1 o2 o3 o4 w5 ho
              have h1 := HS5.out (o1 := o1) (o2 := o2) (o3 := o3) (fun j h => h) ((Ot.alloc (Ot.refl _ _) o4).trans ho)
              unfold Hs at h1
              rw [HNL.out] at h1
              exact h1
            have hn1 : n + 1 ≤ 1000 := by omega
            clear hfit hh
            go_wp2_with (first | (go_at_call 4; refine (HAD.out _ _ _ _).mono ?_; rintro e w5 ⟨rfl, v5, hl5, hk5, ho5⟩; have hz11 := keep_new HSL.out ho5 (j := wr.heap.size + 1 + 1 + 1) (by omega) (by simp); rw [new_block_ (by simp)] at hz11; obtain ⟨⟨z0, z1, z2, z3, z4, z5⟩, y0, y1, y2, y3, y4, y5⟩ := six hz11; have hs5 : wr.heap.size + 4 ≤ w5.heap.size := (by have := ho5.size; simp at this; omega)) | (at_builtin; refine wpList_append_seg _ rfl (.tmp 59) (.tmp 61) 23 rfl 32 i0 _ 6 48 Try.underlying23 hi hz0 hz1 hz2 rfl (by decide) (.slice ux n ucap) n (flt Hd.cs L) rfl (Seg.alloc (HS6.out ho5) _) _ 1 1 _ rfl rfl (news_of (new_block_ (by simp))) (by simp [Value.oneCell']) (by decide) (by unfold maxLen; omega) (by omega) _ rfl ?_; intro g goff gcap w6 hs6 hg6 ha6 hl6))
            go_meet
            case rel =>
              refine ⟨L ++ [h], v5, hd0, false, sw_add rfl HT.out ho5 hl5 hk5 hg6 (Hs.snoc (by rw [HHC.out]; exact hs6) (by rw [HNL.out])) (fun j hj => ?_) (by simp; have := HF.out.1; omega) HFIT.out.2⟩
              simp only [Value.ownBlock, Option.some.injEq] at hj
              subst hj
              rcases ha6 with ha6 | ha6
              · exact Or.inl ha6
              · right; simp at ha6; omega
          · have hw2 : (m.what == 0) = false := by simpa using hw0
            clear hw0
            by_cases hw1 : m.what = 1
            · have hw3 : (m.what == 1) = true := by simpa using hw1
              clear hw1
              cases L with
              | nil =>
                obtain rfl : n = 0 := HNL.out.symm
                go_wp2_with (go_at_call 5; refine (next_any _ (HA3.out _ _ _).1 HFL.out).mono ?_; rintro e w5 ⟨rfl, v5, hl5, hk5, ho5⟩; obtain ⟨hz7, hz9, hs5⟩ := after3 HSB.out ho5; obtain ⟨⟨z0, z1, z2, z3, z4, z5⟩, y0, y1, y2, y3, y4, y5⟩ := six hz7)
                go_meet
                case rel => exact ⟨[], v5, hd0, false, sw_end rfl HT.out (fun j h => Or.inl h) ho5 hl5 hk5 (HS5.out (fun j h => Or.inl h) ho5) rfl (by repeat' (first | with_reducible exact Ot.refl _ _ | with_reducible refine Ot.drew ?_ | with_reducible refine Ot.setCell ?_ (by simp) _)) (six_set' hz7 _ _ _ _ _ _) ((six_other (by omega) _ _ _ _ _ _).trans hz9) (by simp) (by simp)⟩
              | cons y L1 =>
                obtain ⟨bw, ow, cw, hux, hnc, hxc, hlw, _⟩ := HT.out.row.some (by simp)
                obtain ⟨n1, hn1⟩ : ∃ n1, L1.length = n1 := ⟨_, rfl⟩
                have HN1 : Hid (L1.length = n1) := hn1
                have hnn : n = n1 + 1 := by rw [← HNL.out, ← hn1]; rfl
                subst hnn
                have hux' : ux = some ⟨bw, ow, none⟩ ∧ ucap = cw := by simp at hux; exact ⟨hux.1, hux.2.2⟩
                obtain ⟨rfl, rfl⟩ := hux'
                have hO : hdOr (y :: L1) = y := rfl
                have hcw : n1 + 1 ≤ ucap := by simpa [hn1] using hnc
                clear hux hnc hn1
                unfold maxLen at hxc
                go_wp2_with (go_at_call 5; refine (next_any _ (HA3.out _ _ _).1 HFL.out).mono ?_; rintro e w5 ⟨rfl, v5, hl5, hk5, ho5⟩; obtain ⟨hz7, hz9, hs5⟩ := after3 HSB.out ho5; obtain ⟨⟨z0, z1, z2, z3, z4, z5⟩, y0, y1, y2, y3, y4, y5⟩ := six hz7; obtain ⟨⟨x0, x1, x2, x3, x4, x5⟩, t0, t1, t2, t3, t4, t5⟩ := six hz9; obtain ⟨q0, q1, q2, q3, q4, q5⟩ := Hs.head (HS5.out (fun j h => Or.inl h) ho5))
                all_goals go_region
                all_goals go_wp2
                · go_meet
                  case rel => exact ⟨L1, v5, y, true, sw_end rfl HT.out (fun j h => Or.inl h) ho5 hl5 hk5 (wv5 := .slice (some ⟨bw, ow, none⟩) n1 0) (by have h5 := HS5.out (fun j h => Or.inl h) ho5; rw [← HN1.out] at h5 ⊢; exact h5.tail _ _ (Or.inr ⟨by omega, rfl, rfl⟩)) rfl (by repeat' (first | with_reducible exact Ot.refl _ _ | with_reducible refine Ot.drew ?_ | with_reducible refine Ot.setCell ?_ (by simp) _)) (by rw [drew_heap]; exact (both_set (y0 := hd0) (y1 := hd0) hz7 hz9 (by omega) y).1) (by rw [drew_heap]; exact (both_set (y0 := hd0) (y1 := hd0) hz7 hz9 (by omega) y).2) (by have := HF.out.1; simp at this; omega) (fun t ht => HF.out.2 t (by simp [ht]))⟩
                · go_meet
                  case rel => exact ⟨L1, v5, y, true, sw_end rfl HT.out (fun j h => Or.inl h) ho5 hl5 hk5 (wv5 := .slice (some ⟨bw, ow + 6, none⟩) n1 (ucap - 1)) (by have h5 := HS5.out (fun j h => Or.inl h) ho5; rw [← HN1.out] at h5 ⊢; exact h5.tail _ _ (Or.inl ⟨rfl, rfl⟩)) rfl (by repeat' (first | with_reducible exact Ot.refl _ _ | with_reducible refine Ot.drew ?_ | with_reducible refine Ot.setCell ?_ (by simp) _)) (by rw [drew_heap]; exact (both_set (y0 := hd0) (y1 := hd0) hz7 hz9 (by omega) y).1) (by rw [drew_heap]; exact (both_set (y0 := hd0) (y1 := hd0) hz7 hz9 (by omega) y).2) (by have := HF.out.1; simp at this; omega) (fun t ht => HF.out.2 t (by simp [ht]))⟩
            · have hw3 : (m.what == 1) = false := by simpa using hw1
              clear hw1
              by_cases hwl : m.what = 2
              · have hw4 : (m.what == 2) = true := by simpa using hwl
                clear hwl
                rcases snoc_or L with rfl | ⟨A, y, rfl⟩
                · obtain rfl : n = 0 := HNL.out.symm
                  go_wp2_with (go_at_call 6; refine (last_any _ (HA3.out _ _ _).1 HFL.out).mono ?_; rintro e w5 ⟨rfl, v5, hl5, hk5, ho5⟩; obtain ⟨hz7, hz9, hs5⟩ := after3 HSB.out ho5; obtain ⟨⟨z0, z1, z2, z3, z4, z5⟩, y0, y1, y2, y3, y4, y5⟩ := six hz7)
                  go_meet
                  case rel => exact ⟨[], v5, hd0, false, sw_end rfl HT.out (fun j h => Or.inl h) ho5 hl5 hk5 (HS5.out (fun j h => Or.inl h) ho5) rfl (by repeat' (first | with_reducible exact Ot.refl _ _ | with_reducible refine Ot.drew ?_ | with_reducible refine Ot.setCell ?_ (by simp) _)) (six_set' hz7 _ _ _ _ _ _) ((six_other (by omega) _ _ _ _ _ _).trans hz9) (by simp) (by simp)⟩
                · obtain ⟨bw, ow, cw, hux, hnc, hxc, hlw, _⟩ := HT.out.row.some (by simp)
                  obtain ⟨n1, hn1⟩ : ∃ n1, A.length = n1 := ⟨_, rfl⟩
                  have HN1 : Hid (A.length = n1) := hn1
                  have hnn : n = n1 + 1 := by rw [← HNL.out, ← hn1]; simp
                  subst hnn
                  have hux' : ux = some ⟨bw, ow, none⟩ ∧ ucap = cw := by simp at hux; exact ⟨hux.1, hux.2.2⟩
                  obtain ⟨rfl, rfl⟩ := hux'
                  have hcw : n1 + 1 ≤ ucap := by simpa [hn1] using hnc
                  clear hux hnc hn1
                  unfold maxLen at hxc
                  have hO : lsOr (A ++ [y]) = y := by simp [lsOr]
                  have hE : (A ++ [y]).isEmpty = false := by simp
                  have HDL : Hid ((A ++ [y]).dropLast = A) := by show _ = _; simp
                  have hAt : (A ++ [y])[n1]? = some y := by rw [← HN1.out]; simp
                  have HAt : Hid ((A ++ [y])[n1]? = some y) := hAt
                  clear hAt
                  go_wp2_with (go_at_call 6; refine (last_any _ (HA3.out _ _ _).1 HFL.out).mono ?_; rintro e w5 ⟨rfl, v5, hl5, hk5, ho5⟩; obtain ⟨hz7, hz9, hs5⟩ := after3 HSB.out ho5; obtain ⟨⟨z0, z1, z2, z3, z4, z5⟩, y0, y1, y2, y3, y4, y5⟩ := six hz7; obtain ⟨⟨x0, x1, x2, x3, x4, x5⟩, t0, t1, t2, t3, t4, t5⟩ := six hz9; obtain ⟨q0, q1, q2, q3, q4, q5⟩ := Hs.cells (HS5.out (fun j h => Or.inl h) ho5) HAt.out)
                  all_goals go_region
                  all_goals go_wp2
                  all_goals
                    go_meet
                    case rel => exact ⟨A, v5, y, true, sw_end rfl HT.out (fun j h => Or.inl h) ho5 (HDL.out ▸ hl5) hk5 (wv5 := .slice (some ⟨bw, ow, none⟩) n1 ucap) (by have h5 := HS5.out (fun j h => Or.inl h) ho5; rw [← HN1.out] at h5 ⊢; exact h5.init) rfl (by repeat' (first | with_reducible exact Ot.refl _ _ | with_reducible refine Ot.drew ?_ | with_reducible refine Ot.setCell ?_ (by simp) _)) (by rw [drew_heap]; exact (both_set (y0 := hd0) (y1 := hd0) hz7 hz9 (by omega) y).1) (by rw [drew_heap]; exact (both_set (y0 := hd0) (y1 := hd0) hz7 hz9 (by omega) y).2) (by have := HF.out.1; simp at this; omega) (fun t ht => HF.out.2 t (by simp [ht]))⟩
              · have hw4 : (m.what == 2) = false := by simpa using hwl
                clear hwl
                cases L with
                | nil =>
                  obtain rfl : n = 0 := HNL.out.symm
                  go_wp2_with (go_at_call 7; refine (first_any _ (HA3.out _ _ _).1).mono ?_; rintro e w5 ⟨rfl, hb5⟩; have ho5 : Ot (fun j => j = w.heap.size) _ w5 := Ot.of_below hb5; obtain ⟨hz7, hz9, hs5⟩ := after3 HSB.out ho5; obtain ⟨⟨z0, z1, z2, z3, z4, z5⟩, y0, y1, y2, y3, y4, y5⟩ := six hz7)
                  go_meet
                  case rel => exact ⟨[], v, hd0, false, sw_end rfl HT.out (fun j h => Or.inl h) ho5 ((HA3.out _ _ _).1.below hb5) rfl (HS5.out (fun j h => Or.inl h) ho5) rfl (by repeat' (first | with_reducible exact Ot.refl _ _ | with_reducible refine Ot.drew ?_ | with_reducible refine Ot.setCell ?_ (by simp) _)) (six_set' hz7 _ _ _ _ _ _) ((six_other (by omega) _ _ _ _ _ _).trans hz9) (by simp) (by simp)⟩
                | cons y L1 =>
                  obtain ⟨bw, ow, cw, hux, hnc, hxc, hlw, _⟩ := HT.out.row.some (by simp)
                  obtain ⟨n1, hn1⟩ : ∃ n1, L1.length = n1 := ⟨_, rfl⟩
                  have HN1 : Hid (L1.length = n1) := hn1
                  have hnn : n = n1 + 1 := by rw [← HNL.out, ← hn1]; simp
                  subst hnn
                  have hux' : ux = some ⟨bw, ow, none⟩ ∧ ucap = cw := by simp at hux; exact ⟨hux.1, hux.2.2⟩
                  obtain ⟨rfl, rfl⟩ := hux'
                  have hcw : n1 + 1 ≤ ucap := by simpa [hn1] using hnc
                  clear hux hnc hn1
                  unfold maxLen at hxc
                  have hO : hdOr (y :: L1) = y := rfl
                  go_wp2_with (go_at_call 7; refine (first_any _ (HA3.out _ _ _).1).mono ?_; rintro e w5 ⟨rfl, hb5⟩; have ho5 : Ot (fun j => j = w.heap.size) _ w5 := Ot.of_below hb5; obtain ⟨hz7, hz9, hs5⟩ := after3 HSB.out ho5; obtain ⟨⟨z0, z1, z2, z3, z4, z5⟩, y0, y1, y2, y3, y4, y5⟩ := six hz7; obtain ⟨⟨x0, x1, x2, x3, x4, x5⟩, t0, t1, t2, t3, t4, t5⟩ := six hz9; obtain ⟨q0, q1, q2, q3, q4, q5⟩ := Hs.head (HS5.out (fun j h => Or.inl h) ho5))
                  go_meet
                  case rel => exact ⟨y :: L1, v, y, true, sw_end rfl HT.out (fun j h => Or.inl h) ho5 ((HA3.out _ _ _).1.below hb5) rfl (HS5.out (fun j h => Or.inl h) ho5) rfl (by repeat' (first | with_reducible exact Ot.refl _ _ | with_reducible refine Ot.drew ?_ | with_reducible refine Ot.setCell ?_ (by simp) _)) (both_set (y0 := hd0) (y1 := hd0) hz7 hz9 (by omega) y).1 (both_set (y0 := hd0) (y1 := hd0) hz7 hz9 (by omega) y).2 (by have := HF.out.1; omega) HF.out.2⟩
        case rest =>
        obtain ⟨L', v', y, fl, hsw⟩ := hcut
        have hu8 := hsw.o
        have hu10 := hsw.f
        subst hu8 hu10
        have HSW : Hid (Two w w.heap.size wc v' u4 L') := hsw.two
        have HLE : Hid (L'.length ≤ k + 1 ∧ ∀ y ∈ L', 0 ≤ y.l ∧ y.l ≤ 10000) := ⟨hsw.len, hsw.each⟩
        have HB7 : Hid (wc.heap[wr.heap.size + 1]? = some y.blk ∧ wc.heap[wr.heap.size + 1 + 1]? = some y.blk) := ⟨hsw.b7, hsw.b9⟩
        obtain ⟨ux', ucap', hu4⟩ : ∃ ux' ucap', u4 = .slice ux' L'.length ucap' := by
          rcases hsw.two.row.form with ⟨h, h0, _⟩ | ⟨b, off, cap, h, _⟩
          · exact ⟨none, 0, by rw [h, h0]⟩
          · exact ⟨_, _, h⟩
        subst hu4
        obtain ⟨n', hn'⟩ : ∃ n', L'.length = n' := ⟨_, rfl⟩
        have HN' : Hid (L'.length = n') := hn'
        have hnk : n' ≤ k + 1 := by rw [← hn']; exact hsw.len
        rw [hn'] at HSW ⊢
        clear hsw hn'
        have hNQ := neqHeld
        have HAL := all_any wc HSW.out.list (by rw [HN'.out]; omega)
        go_wp2_with (first | (go_at_call 8; refine HAL.mono ?_; rintro e w6 ⟨av, rfl, ha6, hn6, hb6⟩; obtain ⟨⟨z0, z1, z2, z3, z4, z5⟩, y0, y1, y2, y3, y4, y5⟩ := six ((hb6.block _ (lt_of_block HB7.out.1)).trans HB7.out.1); obtain ⟨⟨x0, x1, x2, x3, x4, x5⟩, t0, t1, t2, t3, t4, t5⟩ := six ((hb6.block _ (lt_of_block HB7.out.2)).trans HB7.out.2); obtain ⟨ax, acap, hav⟩ := ha6.shape HN'.out; subst hav) | (go_at_call 9; refine (len_any _ (HSW.out.to hb6).list).mono ?_; rintro e w7 ⟨rfl, rfl⟩; rw [HN'.out]))
        have HA6 : Hid (Hs w7 (.slice ax n' acap) L') := ha6
        have HT6 : Hid (Two w w.heap.size w7 v' (.slice ux' n' ucap') L') := HSW.out.to hb6
        clear ha6 hb6 HAL hn6
        go_loopw [12, 14] (fun bv i wq => ∃ (j d : Nat), j ≤ n' ∧ i = .int .i64 j ∧ bv = .int .i64 (sumL (L'.take j)) ∧ wq = w7.drewN d) (fun _ i _ => n' - (intOf i).toNat)
        case atStart => exact ⟨0, 0, Nat.zero_le _, rfl, by simp [sumL], rfl⟩
        case round =>
          obtain ⟨j, d, hj, rfl, rfl, rfl⟩ := hrel
          by_cases hjn : j < n'
          · obtain ⟨y', hy'⟩ : ∃ y', L'[j]? = some y' := ⟨_, List.getElem?_eq_getElem (by rw [HN'.out]; exact hjn)⟩
            have HSU : Hid (sumL (L'.take (j + 1)) = sumL (L'.take j) + y'.l) := sumL_take_succ hy'
            obtain ⟨ba, oa, ca, hea, _⟩ := HA6.out.some (by rw [HN'.out]; omega)
            obtain ⟨bw', ow', cw', hew, _⟩ := HT6.out.row.some (by rw [HN'.out]; omega)
            have hax : ax = some ⟨ba, oa, none⟩ := by simp at hea; exact hea.1
            have hux : ux' = some ⟨bw', ow', none⟩ := by simp at hew; exact hew.1
            subst hax hux
            obtain ⟨p0, p1, p2, p3, p4, p5⟩ := HA6.out.cells hy'
            obtain ⟨q0, q1, q2, q3, q4, q5⟩ := HT6.out.row.cells hy'
            have hsl := Fit.sum (L := L'.take j) (fun t ht => HLE.out.2 t (List.mem_of_mem_take ht))
            have hlj : (L'.take j).length ≤ j := List.length_take_le _ _
            have hyl := HLE.out.2 y' (List.mem_of_getElem? hy')
            obtain ⟨sj, hsj⟩ : ∃ sj, sumL (L'.take j) = sj := ⟨_, rfl⟩
            have HSJ : Hid (sumL (L'.take j) = sj) := hsj
            rw [hsj] at hsl ⊢
            clear hea hew hy' hsj
            go_wp2
            go_quiet (fail)
            go_wp2
            go_roundw
            case rel => exact ⟨j + 1, _, by omega, by go_num, by rw [HSU.out, HSJ.out], rfl⟩
            case measure => simp [intOf]; omega
          · obtain rfl : j = n' := by omega
            have HSA : Hid (sumL (L'.take j) = sumL L') := by show _ = _; rw [List.take_of_length_le (by rw [HN'.out]; exact Nat.le_refl _)]
            rw [HSA.out]
            go_wp2_with (go_at_call 10; refine (bytes_any _ (HT6.out.drewN d).list).mono ?_; rintro e w8 ⟨rfl, rfl⟩)
            go_roundw
            case rel => exact ⟨k + 1, L', v', by omega, by go_num, HT6.out.drewN d, by rw [HN'.out]; omega, HLE.out.2⟩
            case measure => simp [intOf]; omega
      · obtain rfl : k = q := by omega
        go_wp2
        go_ret
        exact ⟨rfl, HT.out.below⟩
end Go.Proofs.Ytgiommaelipmhaa
