/-
  Rows of the call's own: kept, written, appended to within a drawn region. Nothing of the program is claimed here by itself.
  plain.Play's closure: the numbers of packets are put behind what was lost. Conditions: the packets and what was seen lie in memory, apart.
-/
import Derived.Test.YtpgdocmpbeabpaaDoorSg
import Derived.Deep.RegionLaw
import Derived.Test.YtpgdocmpbeabpaaDoorQd
import Derived.Test.YtpgdocmpbeabpaaDoorTm
namespace Go.Proofs.YtpgdocmpbeabpaaDoor
open Go.RowKit Go.Extern.Stop Go.Stop Go.Extern

theorem owns_sliceW {w : World} {base n k : Nat} {e : TypeId} {v : Value} {xs : List Value} (h : w.ownsRow base e k v n xs) : ∃ x c, v = .slice x n c := by
  rcases h.2 with ⟨rfl, rfl⟩ | ⟨g, cap, cur, rfl, _⟩
  · exact ⟨_, _, rfl⟩
  · exact ⟨_, _, rfl⟩
theorem own_someW {w : World} {B : Nat} {e : TypeId} {v : Value} {n : Nat} {xs : List Value} (h : w.ownsRow B e 1 v n xs) (hn : 0 < n) : ∃ g cap cur, v = .slice (some ⟨g, 0, none⟩) n cap ∧ B ≤ g ∧ w.heap[g]? = some (.cells cur e (0, 0)) ∧ n ≤ cap ∧ cap ≤ maxLen ∧ cur.size = cap ∧ cur.toList.take n = xs := by
  rcases h.2 with ⟨_, h0⟩ | ⟨g, cap, cur, h1, h2, h3, h4, h5, h6, h7⟩
  · omega
  · exact ⟨g, cap, cur, h1, h2, h3, h4, h5, by omega, by simpa using h7⟩
theorem ownW_kept {w w' : World} {B : Nat} {e : TypeId} {v : Value} {n k : Nat} {xs : List Value} (h : w.ownsRow B e k v n xs) (hk : ∀ j, v.ownBlock = some j → w'.heap[j]? = w.heap[j]?) : w'.ownsRow B e k v n xs := by
  refine ⟨h.1, ?_⟩
  rcases h.2 with h1 | ⟨g, cap, cur, h1, h2, h3, h4⟩
  · exact Or.inl h1
  · exact Or.inr ⟨g, cap, cur, h1, h2, (hk g (by rw [h1]; rfl)).trans h3, h4⟩
theorem ownW_lt {w : World} {B : Nat} {e : TypeId} {v : Value} {n k : Nat} {xs : List Value} (h : w.ownsRow B e k v n xs) {j : Nat} (hj : v.ownBlock = some j) : B ≤ j ∧ j < w.heap.size ∧ ∃ cur, w.heap[j]? = some (.cells cur e (0, 0)) := by
  rcases h.2 with ⟨h1, _⟩ | ⟨g, cap, cur, h1, h2, h3, h4⟩
  · rw [h1] at hj; cases hj
  · rw [h1] at hj
    cases hj
    exact ⟨h2, lt_of_block h3, cur, h3⟩
theorem ownW_below {w w' : World} {B : Nat} {e : TypeId} {v : Value} {n k : Nat} {xs : List Value} (h : w.ownsRow B e k v n xs) (hb : Below w.heap.size w w') : w'.ownsRow B e k v n xs := ownW_kept h fun j hj => hb.block j (ownW_lt h hj).2.1
theorem ownW_alloc {w : World} {B : Nat} {e : TypeId} {v : Value} {n k : Nat} {xs : List Value} (h : w.ownsRow B e k v n xs) (o : Obj) : (w.alloc o).ownsRow B e k v n xs := ownW_kept h fun _ hj => Below.heap_alloc _ _ _ (ownW_lt h hj).2.1
theorem ownW_drew {w : World} {B : Nat} {e : TypeId} {v : Value} {n k : Nat} {xs : List Value} (h : w.ownsRow B e k v n xs) : w.drew.ownsRow B e k v n xs := h
/-- A cell of a row of one's own is written. -/
theorem ownW_set {w : World} {B g n c p : Nat} {e : TypeId} {xs : List Value} (h : w.ownsRow B e 1 (.slice (some ⟨g, 0, none⟩) n c) n xs) (u : Value) : (w.setCell ⟨g, p, none⟩ u).ownsRow B e 1 (.slice (some ⟨g, 0, none⟩) n c) n (xs.set p u) := by
  refine ⟨by rw [List.length_set]; exact h.1, ?_⟩
  rcases h.2 with ⟨h1, _⟩ | ⟨g', cap, cur, h1, h2, h3, h4, h5, h6, h7⟩
  · cases h1
  · simp only [Value.slice.injEq, Option.some.injEq, Addr.mk.injEq, and_true, true_and] at h1
    obtain ⟨rfl, rfl⟩ := h1
    refine Or.inr ⟨g, c, cur.setIfInBounds p u, rfl, h2, heap_setCell_here h3 u, h4, h5, by simpa using h6, ?_⟩
    rw [Array.toList_setIfInBounds, ← h7, List.take_set]
theorem step_append_owns {P : Program} {ops : Array Oper} {o : Oper} {a : Act} {w : World} {K : Act → World → Prop} {Q : Exit → Act → World → Prop} {E : Prop}
    (hg : o.guard = none) (s x : Operand) (t : TypeId) (hop : o.op = Op.call { callee := Callee.builtin Builtin.append, args := #[s, x], argTypes := #[t, t] })
    (base : Nat) (e : TypeId) (i : TypeInfo) (z : Value) (size bytes : Nat) (h1 : P.underlying t = some (.slice e)) (h2 : P.info? e = some i) (h3 : i.zero = some z) (h4 : i.size = size) (h5 : i.bytes = bytes) (h6 : z.cells.size = size) (h7 : 0 < size)
    (v : Value) (n : Nat) (xs : List Value) (hs : a.eval s = v) (hown : w.ownsRow base e size v n xs)
    (ad : Addr) (m c : Nat) (news : List Value) (hx : a.eval x = .slice (some ad) m c) (hn : news.length = m * size) (hc : ∀ j u, news[j]? = some u → w.cell? (ad.add j) = some u) (h1c : ∀ u ∈ news, u.oneCell' = true)
    (b1 : n + m ≤ maxLen) (b2 : (n + m) * bytes ≤ 140737488355328) (hbase : base ≤ w.heap.size)
    (hK : ∀ v' w', w'.ownsRow base e size v' (n + m) (xs ++ news) → w.grownBy w' v.ownBlock → K (a.put o.dst v') w') :
    if Region.wanted o (yielded ops a.tmps) = true then Oper.wp P o a w K Q else E := by
  have hw : Region.wanted o (yielded ops a.tmps) = true := by simp [Region.wanted, hg]
  rw [if_pos hw]
  obtain ⟨v', w', hrun, r1, r2, _⟩ := run_append_own (P := P) w base t o.type e i z size bytes h1 h2 h3 h4 h5 h6 h7 v n xs hown ad m c news hn hc h1c b1 b2 hbase
  unfold Oper.wp
  simp [execOp, hop, resolve, invoke, builtin, hs, hx, hrun, Result.andThen]
  exact hK v' w' r1 r2
theorem two_at {w : World} {p : Nat} {v u : Value} (h0 : w.cell? ⟨p, 0, none⟩ = some v) (h1 : w.cell? ⟨p, 1, none⟩ = some u) : ∀ (j : Nat) (x : Value), [v, u][j]? = some x → w.cell? ((⟨p, 0, none⟩ : Addr).add j) = some x := by
  intro j x hj
  match j, hj with
  | 0, hj => simp at hj; subst hj; simpa [Addr.add] using h0
  | 1, hj => simp at hj; subst hj; simpa [Addr.add] using h1
theorem ownW_cell {w : World} {B g n c : Nat} {e : TypeId} {xs : List Value} (h : w.ownsRow B e 1 (.slice (some ⟨g, 0, none⟩) n c) n xs) {j : Nat} {u : Value} (hj : xs[j]? = some u) : w.cell? ⟨g, j, none⟩ = some u ∧ w.frozen? ⟨g, j, none⟩ = false := by
  rcases h.2 with ⟨h1, _⟩ | ⟨g', cap, cur, h1, h2, h3, h4, h5, h6, h7⟩
  · cases h1
  · simp only [Value.slice.injEq, Option.some.injEq, Addr.mk.injEq, and_true, true_and] at h1
    obtain ⟨rfl, rfl⟩ := h1
    constructor
    · simp only [World.cell?, h3]
      rw [← h7, List.getElem?_take] at hj
      split at hj
      · simpa using hj
      · simp at hj
    · simp [World.frozen?, h3]
end Go.Proofs.YtpgdocmpbeabpaaDoor
namespace Go.Proofs.YtpgdocmpbeabpaaDoor
open Go.RowKit Go.Extern.Stop Go.Stop Go.Extern

theorem infoInt1 : (Tryd.prog.info? 3).map (fun i => (i.zero, i.size, i.bytes)) = some (some (.int .i64 0), 1, 8) := by kernel_rfl
/-- Ints lie in a slice of the call's own. -/
def Ins (w : World) (v : Value) (l : List Int) : Prop := Seg w 3 1 v l.length (l.map (Value.int .i64))
theorem Ins.nil (w : World) : Ins w (.slice none 0 0) [] := Seg.nil _ _ _
theorem Lies.held {w : World} {x : Option Addr} {L : List Hd} (h : Lies w x (flt Hd.cs L)) {k : Nat} {s : Hd} (hk : L[k]? = some s) : ∃ b off, x = some ⟨b, off, none⟩ ∧ b < w.heap.size ∧ w.cell? ⟨b, off + k * 6, none⟩ = some (.int .i64 s.a) ∧ w.cell? ⟨b, off + k * 6 + 1, none⟩ = some (.int .i64 s.l) ∧ w.cell? ⟨b, off + k * 6 + 2, none⟩ = some (.int .i64 s.f) ∧ w.cell? ⟨b, off + k * 6 + 3, none⟩ = some (.int .i64 s.b) ∧ w.cell? ⟨b, off + k * 6 + 4, none⟩ = some (.int .i64 s.m) ∧ w.cell? ⟨b, off + k * 6 + 5, none⟩ = some (.int .i64 s.n) := by
  have hat : ∀ j, j < 6 → (flt Hd.cs L)[k * 6 + j]? = s.cs[j]? := fun j hj => flt_at Hd.cs 6 Hd.len hk hj
  rcases h with h | ⟨b, off, e, hl, h⟩
  · have := hat 0 (by omega)
    rw [h] at this
    simp [Hd.cs] at this
  · refine ⟨b, off, e, hl, ?_, ?_, ?_, ?_, ?_, ?_⟩
    · exact h _ _ (hat 0 (by omega))
    · exact h _ _ (hat 1 (by omega))
    · exact h _ _ (hat 2 (by omega))
    · exact h _ _ (hat 3 (by omega))
    · exact h _ _ (hat 4 (by omega))
    · exact h _ _ (hat 5 (by omega))
/-- The numbers of the first k packets. -/
def nums (L : List Hd) (k : Nat) : List Int := (L.take k).map Hd.n
theorem nums_succ {L : List Hd} {k : Nat} {s : Hd} (h : L[k]? = some s) : nums L (k + 1) = nums L k ++ [s.n] := by
  unfold nums
  rw [List.take_add_one, h]
  simp
theorem nums_all (L : List Hd) : nums L L.length = L.map Hd.n := by simp [nums]
theorem nums_length {L : List Hd} {k : Nat} (h : k ≤ L.length) : (nums L k).length = k := by simp [nums]; omega

/-- What was seen in a step lies in block b: the five numbers, and what was lost. -/
def Bx (w : World) (b : Nat) (c0 c1 c2 c3 c4 : Value) (lv : Value) : Prop := w.heap[b]? = some (.cells #[c0, c1, c2, c3, c4, lv] 42 (0, 0))

theorem Bx.mid {w W w2 : World} {row : Option Nat} {b : Nat} {c0 c1 c2 c3 c4 lv : Value} (h : Bx w b c0 c1 c2 c3 c4 lv) (hW : Below w.heap.size w W) (hg : W.grownBy w2 row) (hr : row ≠ some b) : Bx w2 b c0 c1 c2 c3 c4 lv :=
  (hg.block b (Nat.lt_of_lt_of_le (lt_of_block h) hW.size) (fun e => hr e.symm)).trans ((hW.block b (lt_of_block h)).trans h)
theorem Bx.lost {w : World} {b : Nat} {c0 c1 c2 c3 c4 lv : Value} (h : Bx w b c0 c1 c2 c3 c4 lv) (v : Value) : Bx (w.setCell ⟨b, 5, none⟩ v) b c0 c1 c2 c3 c4 v := by
  unfold Bx
  rw [heap_setCell_here h v]
  simp
set_option maxHeartbeats 2000000 in
theorem lose_any {b : Nat} {c0 c1 c2 c3 c4 : Value} {u : Value} {L : List Hd} (w : World) (hx : Bx w b c0 c1 c2 c3 c4 (.slice none 0 0)) (hu : Hs w u L) (hne : u.ownBlock ≠ some b) (hn : L.length ≤ 1000000) :
    Calls Tryd.prog 19 #[u, .pointer (some ⟨b, 0, none⟩)] w fun e w' => e = .returned (.tuple #[]) ∧ ∃ lv, Bx w' b c0 c1 c2 c3 c4 lv ∧ Ins w' lv (L.map Hd.n) ∧ (∀ k, lv.ownBlock = some k → w.heap.size ≤ k) ∧ Ot (· = b) w w' := by
  have HX : Hid (Bx w b c0 c1 c2 c3 c4 (.slice none 0 0)) := hx
  have HU : Hid (Hs w u L) := hu
  obtain ⟨x, cap, rfl, hl⟩ := hu.lies
  have HL : Hid (Lies w x (flt Hd.cs L)) := hl
  have hbl : b < w.heap.size := lt_of_block hx
  have HNE : Hid (∀ a, x = some a → a.block ≠ b) := by
    rintro a rfl e
    exact hne (by simp [Value.ownBlock, e])
  clear hl hx hu hne
  generalize hq : L.length = q at *
  have HQ : Hid (L.length = q) := hq
  clear hq
  obtain ⟨i0, hi, hz0, hz1, hz2⟩ := info_parts infoInt1
  go_enter Tryd.func19, Tryd.ntmps19
  go_wp2
  go_loopw [7] (fun i wr => ∃ (k : Nat) (lv : Value), k ≤ q ∧ i = .int .i64 k ∧ Bx wr b c0 c1 c2 c3 c4 lv ∧ Ins wr lv (nums L k) ∧ (∀ k, lv.ownBlock = some k → w.heap.size ≤ k) ∧ Ot (· = b) w wr) (fun i _ => q - (intOf i).toNat)
  case atStart => exact ⟨0, _, Nat.zero_le _, rfl, HX.out, Ins.nil _, fun k hk => by simp [Value.ownBlock] at hk, Ot.refl _ _⟩
  case round =>
    obtain ⟨k, lv, hk, rfl, hbx, hin, hnw, hot⟩ := hrel
    have HB : Hid (Bx wr b c0 c1 c2 c3 c4 lv) := hbx
    have HI : Hid (Ins wr lv (nums L k)) := hin
    have HW : Hid (∀ k, lv.ownBlock = some k → w.heap.size ≤ k) := hnw
    have hws := hot.size
    clear hin hnw
    by_cases hlt : k < q
    · obtain ⟨s, hs⟩ : ∃ s, L[k]? = some s := ⟨_, List.getElem?_eq_getElem (by have := HQ.out; omega)⟩
      have HS : Hid (L[k]? = some s) := hs
      obtain ⟨bb, off, rfl, hbb, k0, k1, k2, k3, k4, k5⟩ := (HL.out.ot hot (fun a e h => HNE.out a e h)).held hs
      clear hs
      obtain ⟨⟨_, _, _, _, _, z5⟩, _, _, _, _, _, y5⟩ := six hbx
      have hbs : b < wr.heap.size := by omega
      have hnl : (nums L k).length = k := nums_length (by have := HQ.out; omega)
      clear hbx
      have HI' : Hid (Seg wr 3 1 lv k ((nums L k).map (Value.int .i64))) := by have := HI.out; unfold Ins at this; rw [hnl] at this; exact this
      clear hnl
      go_wp2_with (at_builtin; refine wpList_append_seg _ rfl (.tmp 12) (.tmp 15) 40 rfl 3 i0 _ 1 8 Tryd.underlying40 hi hz0 hz1 hz2 rfl (by decide) _ _ _ rfl (HI'.out.below (by repeat' (first | with_reducible exact Below.refl _ _ | with_reducible refine Below.drew ?_ | with_reducible refine below_alloc_ ?_ _ | with_reducible refine below_set_ ?_ (by simp) _))) _ 1 1 _ rfl rfl (news_of (new_block_ (by simp))) (by simp [Value.oneCell']) (by decide) (by unfold maxLen; omega) (by omega) _ rfl ?_; intro g goff gcap w2 hs2 hg2 ha2 hl2; have hm2 := HB.out.mid (by repeat' (first | with_reducible exact Below.refl _ _ | with_reducible refine Below.drew ?_ | with_reducible refine below_alloc_ ?_ _)) hg2 (fun e => by have := HW.out b e; omega); obtain ⟨⟨_, _, _, _, _, t5⟩, _, _, _, _, _, e5⟩ := six hm2)
      have hgb : w.heap.size ≤ g := by
        rcases ha2 with ha2 | ha2
        · exact HW.out _ ha2
        · simp at ha2; omega
      go_roundw
      case rel =>
        refine ⟨k + 1, _, by omega, by go_num, hm2.lost _, ?_, ?_, ?_⟩
        · unfold Ins
          rw [nums_succ HS.out, List.length_append, nums_length (by have := HQ.out; omega), List.map_append]
          exact hs2.setCell (p := ⟨b, 5, none⟩) (by simp [Value.ownBlock]; omega) _
        · intro j hj
          simp only [Value.ownBlock, Option.some.injEq] at hj
          omega
        · refine Ot.setCell (S := (· = b)) (p := ⟨b, 5, none⟩) ?_ (Or.inl rfl) _
          refine Ot.grown (row := lv.ownBlock) ?_ hg2 (fun j e => Or.inr (HW.out j e))
          exact Ot.alloc (Ot.alloc hot _) _
      case measure => simp [intOf]; omega
    · obtain rfl : k = q := by omega
      go_wp2
      go_end0
      refine ⟨rfl, lv, HB.out, ?_, HW.out, hot⟩
      have := HI.out
      rw [← HQ.out, nums_all] at this
      exact this
end Go.Proofs.YtpgdocmpbeabpaaDoor
