/-
  item.Parse: what its loop holds; an append inside a round. Conditions: none.
-/
import Derived.Test.YtcdcplocpdmjaaaDoorIp3
import Derived.Test.YtcdcplocpdmjaaaDoorListA
namespace Go.Proofs.YtcdcplocpdmjaaaDoor
open Go.RowKit Go.Shelf Go.Extern.Stop Go.Stop Go.Extern
attribute [local go_sem] Oper.semAt_some

def itC (x : It) : List Value := [.int .i64 x.a, .int .i64 x.l, .int .i64 x.f, .int .i64 x.b, .int .i64 x.m]
theorem itC_len (x : It) : (itC x).length = 5 := rfl
theorem infoItem : (Tryd.prog.info? 39).map (fun i => (i.zero, i.size, i.bytes)) = some (some (.agg #[.int .i64 0, .int .i64 0, .int .i64 0, .int .i64 0, .int .i64 0]), 5, 40) := by kernel_rfl
theorem itC_one (x : It) : ∀ u ∈ itC x, u.oneCell' = true := by intro u hu; simp [itC] at hu; rcases hu with rfl | rfl | rfl | rfl | rfl <;> rfl
theorem flt_get (l : List It) : ∀ (i j : Nat) (x : It), l[i]? = some x → j < 5 → (flt itC l)[i * 5 + j]? = (itC x)[j]? := by
  induction l with
  | nil => intro i j x h; simp at h
  | cons a l ih =>
    intro i j x h hj
    rw [flt_cons]
    cases i with
    | zero =>
      simp at h
      subst h
      rw [Nat.zero_mul, Nat.zero_add, List.getElem?_append_left (by rw [itC_len]; exact hj)]
    | succ i =>
      rw [List.getElem?_append_right (by rw [itC_len]; omega), itC_len]
      have := ih i j x (by simpa using h) hj
      rw [← this]
      congr 1
      omega
/-- Packets in a slice, as item.List takes them. -/
theorem seg_items {w : World} {g off cap : Nat} {l : List It} (h : Seg w 39 5 (.slice (some ⟨g, off, none⟩) l.length cap) l.length (flt itC l)) : Items w g off l := by
  rcases h.form with ⟨e, _⟩ | ⟨b, o, c, e, _, _, _, hcs⟩
  · simp at e
  · simp only [Value.slice.injEq, Option.some.injEq, Addr.mk.injEq, and_true, true_and] at e
    obtain ⟨⟨rfl, rfl⟩, rfl⟩ := e
    intro i x hx
    have k : ∀ j u, j < 5 → (itC x)[j]? = some u → w.cell? ⟨g, off + (i * 5 + j), none⟩ = some u := fun j u hj hu => hcs (i * 5 + j) u (by rw [flt_get l i j x hx hj]; exact hu)
    refine ⟨k 0 _ (by decide) rfl, ?_, ?_, ?_, ?_⟩
    · rw [Nat.add_assoc]; exact k 1 _ (by decide) rfl
    · rw [Nat.add_assoc]; exact k 2 _ (by decide) rfl
    · rw [Nat.add_assoc]; exact k 3 _ (by decide) rfl
    · rw [Nat.add_assoc]; exact k 4 _ (by decide) rfl
/-- An append at the operation, within a round. -/
theorem wpIn_append_seg {F : Fence} {m0 : Nat} {P : Program} (w : World) {o : Oper} {a : Act} {K : Act → World → Prop} {Q : Exit → Act → World → Prop} (s x : Operand) (t : TypeId)
    (ho : o.op = .call { callee := .builtin .append, args := #[s, x], argTypes := #[t, t] })
    (e : TypeId) (i : TypeInfo) (z : Value) (k bytes : Nat) (ht : P.underlying t = some (.slice e)) (hi : P.info? e = some i) (hz : i.zero = some z)
    (hsize : i.size = k) (hby : i.bytes = bytes) (hzs : z.cells.size = k) (hsz : 0 < k)
    (v : Value) (n : Nat) (xs : List Value) (hs : a.eval s = v) (hown : Seg w e k v n xs)
    (ad : Addr) (m c : Nat) (news : List Value) (hx : a.eval x = .slice (some ad) m c) (hl : news.length = m * k) (hnews : ∀ j u, news[j]? = some u → w.cell? (ad.add j) = some u) (h1 : ∀ u ∈ news, u.oneCell' = true)
    (hm : 0 < m) (h63 : n + m ≤ maxLen) (hbytes : (n + m) * bytes ≤ 140737488355328) (H : Nat) (hH : w.heap.size = H)
    (h : ∀ g off cap w', Seg w' e k (.slice (some ⟨g, off, none⟩) (n + m) cap) (n + m) (xs ++ news) → w.grownBy w' v.ownBlock → (v.ownBlock = some g ∨ H ≤ g) → g < w'.heap.size → K (a.put o.dst (.slice (some ⟨g, off, none⟩) (n + m) cap)) w') : o.wpIn F m0 P a w K Q := by
  obtain ⟨g, off, cap, w', hr, h2, h3, h4, h5⟩ := run_append_seg (P := P) w t o.type e i z k bytes ht hi hz hsize hby hzs hsz v n xs hown ad m c news hl hnews h1 hm h63 hbytes H hH
  unfold Oper.wpIn
  refine ⟨?_, ?_⟩
  · simp [Oper.about, ho, resolve, Target.leads, Sem.run_pure]
  · rw [Oper.semAt_plain F _ _ (by rw [ho]; intro c hc'; cases hc')]
    simp [execOp, ho, resolve, invoke, builtin, hs, hx, hr, Result.andThen]
    exact h g off cap w' h2 h3 h4 h5
/-- A block of cells stays where a block that holds none turns. -/
theorem cells_stay {W W' : World} {row : Option Nat} {k : Nat} {c : Array Value} {t : TypeId} {f : Nat × Nat} (hg : W.grownBy W' row) (hr : ∀ r, row = some r → ∃ o : Obj, W.heap[r]? = some o ∧ o.isCells = false) (h : W.heap[k]? = some (.cells c t f)) : W'.heap[k]? = W.heap[k]? := by
  refine hg.block k (lt_of_block h) fun e => ?_
  obtain ⟨o, ho, hf⟩ := hr k e.symm
  rw [h] at ho
  obtain rfl := Option.some.inj ho
  simp [Obj.isCells] at hf
/-- What item.Parse holds between two lines: its results' boxes, its packets, its text. -/
structure IpR (w W0 : World) (t : List UInt8) (lv : Value) (l : List It) (W : World) : Prop where
  r0 : W.heap[w.heap.size]? = some (.cells #[.slice none 0 0] 22 (0, 0))
  r1 : W.heap[w.heap.size + 1]? = some (.cells #[.nilIface] 29 (0, 0))
  bx : W.heap[w.heap.size + 2]? = some (.cells #[lv] 22 (0, 0))
  tx : W.heap[w.heap.size + 3]? = some (.cells #[.string ⟨t.toArray⟩] 9 (0, 0))
  row : Seg W 39 5 lv l.length (flt itC l)
  own : ∀ j, lv.ownBlock = some j → W0.heap.size ≤ j
  bel : Below w.heap.size w W
  siz : w.heap.size + 4 ≤ W0.heap.size ∧ W0.heap.size ≤ W.heap.size
section
variable {w W0 W W' : World} {t : List UInt8} {lv : Value} {l : List It}
theorem IpR.grown (h : IpR w W0 t lv l W) {row : Option Nat} (hg : W.grownBy W' row) (hr : ∀ r, row = some r → W0.heap.size ≤ r ∧ ∃ o : Obj, W.heap[r]? = some o ∧ o.isCells = false) : IpR w W0 t lv l W' := by
  have hr2 : ∀ r, row = some r → ∃ o : Obj, W.heap[r]? = some o ∧ o.isCells = false := fun r e => (hr r e).2
  have hs := h.siz
  refine ⟨(cells_stay hg hr2 h.r0).trans h.r0, (cells_stay hg hr2 h.r1).trans h.r1, (cells_stay hg hr2 h.bx).trans h.bx, (cells_stay hg hr2 h.tx).trans h.tx, h.row.kept fun b hb => ?_, h.own, h.bel.grown hg h.bel.size (fun k e => by have := (hr k e).1; omega), ⟨hs.1, Nat.le_trans hs.2 hg.size⟩⟩
  obtain ⟨cur, hc⟩ := h.row.ty hb
  exact cells_stay hg hr2 hc
theorem IpR.below (h : IpR w W0 t lv l W) (hb : Below W.heap.size W W') : IpR w W0 t lv l W' :=
  ⟨(hb.block _ (lt_of_block h.r0)).trans h.r0, (hb.block _ (lt_of_block h.r1)).trans h.r1, (hb.block _ (lt_of_block h.bx)).trans h.bx, (hb.block _ (lt_of_block h.tx)).trans h.tx, h.row.below hb, h.own, h.bel.trans (hb.mono h.bel.size), ⟨h.siz.1, Nat.le_trans h.siz.2 hb.size⟩⟩
theorem IpR.mid (h : IpR w W0 t lv l W) {X w5 : World} (hX : Below W.heap.size W X) (hg : X.grownBy w5 lv.ownBlock) : w5.cell? ⟨w.heap.size + 2, 0, none⟩ = some lv ∧ w5.frozen? ⟨w.heap.size + 2, 0, none⟩ = false := by
  have hb : w5.heap[w.heap.size + 2]? = some (.cells #[lv] 22 (0, 0)) := (hg.block _ (Nat.lt_of_lt_of_le (lt_of_block h.bx) hX.size) (fun e => by have := h.own _ e.symm; have := h.siz.1; omega)).trans ((hX.block _ (lt_of_block h.bx)).trans h.bx)
  exact ⟨by simp [World.cell?, hb], by simp [World.frozen?, hb]⟩
/-- One more packet: W is ahead of it, X with the one that is added, w5 with the longer list. -/
theorem IpR.step (h : IpR w W0 t lv l W) {X w5 : World} (hX : Below W.heap.size W X) (hg : X.grownBy w5 lv.ownBlock) {g off cap : Nat} {x : It} (hs : Seg w5 39 5 (.slice (some ⟨g, off, none⟩) (l.length + 1) cap) (l.length + 1) (flt itC l ++ itC x)) (ha : lv.ownBlock = some g ∨ X.heap.size ≤ g) :
    IpR w W0 t (.slice (some ⟨g, off, none⟩) (l.length + 1) cap) (l ++ [x]) (w5.setCell ⟨w.heap.size + 2, 0, none⟩ (.slice (some ⟨g, off, none⟩) (l.length + 1) cap)) := by
  have hz := h.siz
  have hxs := hX.size
  have kept : ∀ k, k < W.heap.size → lv.ownBlock ≠ some k → w5.heap[k]? = W.heap[k]? := fun k hk hv => (hg.block k (by omega) (fun e => hv e.symm)).trans (hX.block k hk)
  have ownN : ∀ k, k < w.heap.size + 4 → lv.ownBlock ≠ some k := fun k hk e => by have := h.own k e; omega
  have hbx : w5.heap[w.heap.size + 2]? = some (.cells #[lv] 22 (0, 0)) := (kept _ (by omega) (ownN _ (by omega))).trans h.bx
  have hgg : W0.heap.size ≤ g := by
    rcases ha with ha | ha
    · exact h.own g ha
    · omega
  have ho : ∀ k, k ≠ w.heap.size + 2 → (w5.setCell ⟨w.heap.size + 2, 0, none⟩ (.slice (some ⟨g, off, none⟩) (l.length + 1) cap)).heap[k]? = w5.heap[k]? := fun k hk => heap_setCell_other _ ⟨w.heap.size + 2, 0, none⟩ k _ hk
  refine ⟨(ho _ (by omega)).trans ((kept _ (by omega) (ownN _ (by omega))).trans h.r0), (ho _ (by omega)).trans ((kept _ (by omega) (ownN _ (by omega))).trans h.r1), ?_, (ho _ (by omega)).trans ((kept _ (by omega) (ownN _ (by omega))).trans h.tx), ?_, ?_, ?_, hz.1, ?_⟩
  · rw [heap_setCell_here hbx]; rfl
  · rw [List.length_append, flt_append, flt_one]
    exact hs.setCell (p := ⟨w.heap.size + 2, 0, none⟩) (by simp only [Value.ownBlock, ne_eq, Option.some.injEq]; omega) _
  · intro j hj
    simp only [Value.ownBlock, Option.some.injEq] at hj
    omega
  · exact ((h.bel.trans (hX.mono h.bel.size)).grown hg (h.bel.trans (hX.mono h.bel.size)).size (fun k e => by have := h.own k e; omega)).setCell (p := ⟨w.heap.size + 2, 0, none⟩) (by show w.heap.size ≤ w.heap.size + 2; omega) _
  · have := hg.size
    simp
    omega
end
theorem news5 (w : World) (v0 v1 v2 v3 v4 : Value) (T : TypeId) : ∀ j u, [v0, v1, v2, v3, v4][j]? = some u → (w.alloc (.cells #[v0, v1, v2, v3, v4] T)).cell? ((⟨w.heap.size, 0, none⟩ : Addr).add j) = some u := by
  have k := new_block w (.cells #[v0, v1, v2, v3, v4] T)
  generalize w.alloc (.cells #[v0, v1, v2, v3, v4] T) = W at *
  intro j u h
  match j with
  | 0 => simp at h; subst h; simp [World.cell?, Addr.add, k]
  | 1 => simp at h; subst h; simp [World.cell?, Addr.add, k]
  | 2 => simp at h; subst h; simp [World.cell?, Addr.add, k]
  | 3 => simp at h; subst h; simp [World.cell?, Addr.add, k]
  | 4 => simp at h; subst h; simp [World.cell?, Addr.add, k]
  | j + 5 => simp at h
theorem stepIn_append_seg {F : Fence} {m0 : Nat} {P : Program} (w : World) {ops : Array Oper} {o : Oper} {a : Act} {K : Act → World → Prop} {Q : Exit → Act → World → Prop} {E : Prop} (hgd : o.guard = none) (s x : Operand) (t : TypeId)
    (ho : o.op = .call { callee := .builtin .append, args := #[s, x], argTypes := #[t, t] })
    (e : TypeId) (i : TypeInfo) (z : Value) (k bytes : Nat) (ht : P.underlying t = some (.slice e)) (hi : P.info? e = some i) (hz : i.zero = some z)
    (hsize : i.size = k) (hby : i.bytes = bytes) (hzs : z.cells.size = k) (hsz : 0 < k)
    (v : Value) (n : Nat) (xs : List Value) (hs : a.eval s = v) (hown : Seg w e k v n xs)
    (ad : Addr) (m c : Nat) (news : List Value) (hx : a.eval x = .slice (some ad) m c) (hl : news.length = m * k) (hnews : ∀ j u, news[j]? = some u → w.cell? (ad.add j) = some u) (h1 : ∀ u ∈ news, u.oneCell' = true)
    (hm : 0 < m) (h63 : n + m ≤ maxLen) (hbytes : (n + m) * bytes ≤ 140737488355328) (H : Nat) (hH : w.heap.size = H)
    (h : ∀ g off cap w', Seg w' e k (.slice (some ⟨g, off, none⟩) (n + m) cap) (n + m) (xs ++ news) → w.grownBy w' v.ownBlock → (v.ownBlock = some g ∨ H ≤ g) → g < w'.heap.size → K (a.put o.dst (.slice (some ⟨g, off, none⟩) (n + m) cap)) w') :
    if Region.wanted o (yielded ops a.tmps) = true then Oper.wpIn F m0 P o a w K Q else E := by
  have hw : Region.wanted o (yielded ops a.tmps) = true := by simp [Region.wanted, hgd]
  rw [if_pos hw]
  exact wpIn_append_seg w s x t ho e i z k bytes ht hi hz hsize hby hzs hsz v n xs hs hown ad m c news hx hl hnews h1 hm h63 hbytes H hH h
theorem sizeItem : (Tryd.prog.info? 39).map (·.size) = some 5 := by kernel_rfl
set_option maxHeartbeats 1000000 in
theorem ritem_any (x : It) (w : World) : Calls Tryd.prog 19 #[.agg #[.int .i64 x.a, .int .i64 x.l, .int .i64 x.f, .int .i64 x.b, .int .i64 x.m]] w fun e w' => e = .returned (.agg #[.int .i64 x.a, .int .i64 x.l, .int .i64 x.f, .int .i64 x.b, .int .i64 x.m]) ∧ Below w.heap.size w w' := by
  obtain ⟨xa, xl, xf, xb, xm⟩ := x
  simp only
  go_enter Tryd.func19, Tryd.ntmps19
  go_wp2
  (try simp only [Exit.inBlock, Exit.then])
  refine bodyPost_ret (v := .agg #[.int .i64 xa, .int .i64 xl, .int .i64 xf, .int .i64 xb, .int .i64 xm]) ?_ rfl ⟨rfl, ?_⟩
  · simp [results, Tryd.results19, go_sem]
  · repeat' (first | exact Below.refl _ _ | refine Below.drew ?_ | refine below_alloc_ ?_ _ | refine Below.setCell ?_ ?_ _)
    all_goals (simp)
set_option maxHeartbeats 1000000 in
theorem placed_err {v : Value} {E P : Int} (p : Int) (w : World) (h : ErrIs w v E P) (hL : Laid w) : Calls Tryd.prog 18 #[v, .int .i64 p] w fun e w' =>
    ∃ a, e = .returned (.iface 75 (.pointer (some ⟨a, 0, none⟩))) ∧ w.heap.size ≤ a ∧ w'.cell? ⟨a, 0, none⟩ = some (.int .i64 E) ∧ w'.cell? ⟨a, 0 + 1, none⟩ = some (.int .i64 p) ∧ Below w.heap.size w w' := by
  have HT := tell_any w h hL
  clear h hL
  go_enter Tryd.func18, Tryd.ntmps18
  go_wp2_with (go_at_call 21; refine HT.mono ?_; rintro e w1 ⟨rfl, hb⟩)
  go_ret
  exact ⟨_, rfl, hb.size, by simp, by simp, hb.alloc hb.size _⟩
theorem err_nil {w : World} {v : Value} {P : Int} (h : ErrIs w v 0 P) : v = .nilIface := by
  rcases h with ⟨h, _⟩ | ⟨_, h, _⟩ | ⟨_, _, _, _, h, _⟩
  · exact h
  · exact absurd rfl h
  · exact absurd rfl h
theorem err_some {w : World} {v : Value} {E P : Int} (h : ErrIs w v E P) (hE : E ≠ 0) : ∃ t u, v = .iface t u := by
  rcases h with ⟨_, h, _⟩ | ⟨h, _⟩ | ⟨_, h, _⟩
  · exact absurd h hE
  · exact ⟨_, _, h⟩
  · exact ⟨_, _, h⟩
end Go.Proofs.YtcdcplocpdmjaaaDoor
