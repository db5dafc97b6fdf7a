/-
  millraceref.Rounds: how they lie in memory, what is left of them step by step; of, When, All. Conditions: few packets.
-/
import Derived.Test.YtefflbibacmboaaDoorYx
import Derived.Test.YtefflbibacmboaaDoorXz
import Derived.Test.YtefflbibacmboaaDoorIr
namespace Go.Proofs.YtefflbibacmboaaDoor
open Go.RowKit Go.Extern.Stop Go.Stop Go.Extern

theorem sixr {w : World} {b : Nat} {t : TypeId} {a0 a1 a2 a3 a4 a5 : Value} (h : w.heap[b]? = some (.cells #[a0, a1, a2, a3, a4, a5] t (0, 0))) : (w.cell? ⟨b, 0, none⟩ = some a0 ∧ w.cell? ⟨b, 1, none⟩ = some a1 ∧ w.cell? ⟨b, 2, none⟩ = some a2 ∧ w.cell? ⟨b, 3, none⟩ = some a3 ∧ w.cell? ⟨b, 4, none⟩ = some a4 ∧ w.cell? ⟨b, 5, none⟩ = some a5) ∧ w.frozen? ⟨b, 2, none⟩ = false ∧ w.frozen? ⟨b, 3, none⟩ = false ∧ w.frozen? ⟨b, 4, none⟩ = false := by
  refine ⟨⟨?_, ?_, ?_, ?_, ?_, ?_⟩, ?_, ?_, ?_⟩
  all_goals simp [World.cell?, World.frozen?, h]
/-- What they were made with: their block, the map's, room, the quanta (as they were in w0). -/
structure RrC where
  b : Nat
  mb : Nat
  room : Int
  px : Option Addr
  m : Nat
  pcap : Nat
  q : Nat → Int
/-- Their own blocks. -/
def RrG (c : RrC) (v tv : Value) (k : Nat) : Prop := k = c.b ∨ k = c.mb ∨ v.ownBlock = some k ∨ tv.ownBlock = some k
structure RrP (w0 w : World) (c : RrC) (v tv : Value) (r : RrS) : Prop where
  blk : w.heap[c.b]? = some (.cells #[.int .i64 c.room, .slice c.px c.m c.pcap, v, tv, .bool r.bg, .map (some c.mb)] 68 (0, 0))
  row : Ps w v r.L
  trow : Ins w tv r.tn
  cre : CrM w c.mb r.cr
  qrow : IRow w0 c.px c.m c.q
  same : ∀ k, TB c.px c.m k → w.heap[k]? = w0.heap[k]?
  ne : v.ownBlock ≠ some c.b
  tne : tv.ownBlock ≠ some c.b
  dis : ∀ k, v.ownBlock = some k → tv.ownBlock ≠ some k
  mne : c.mb ≠ c.b
  vm : v.ownBlock ≠ some c.mb
  tm : tv.ownBlock ≠ some c.mb
  qf : ∀ k, TB c.px c.m k → ¬ RrG c v tv k
theorem RrP.lt {w0 w : World} {c : RrC} {v tv : Value} {r : RrS} (h : RrP w0 w c v tv r) : c.b < w.heap.size := lt_of_block h.blk
theorem RrP.tlt {w0 w : World} {c : RrC} {v tv : Value} {r : RrS} (h : RrP w0 w c v tv r) {k : Nat} (hk : TB c.px c.m k) : k < w.heap.size := by
  have h1 := h.same k hk
  have h2 := tb_lt h.qrow hk
  rcases Nat.lt_or_ge k w.heap.size with h3 | h3
  · exact h3
  · rw [Array.getElem?_eq_none h3, Array.getElem?_eq_getElem h2] at h1
    cases h1
theorem RrP.low {w0 w : World} {c : RrC} {v tv : Value} {r : RrS} (h : RrP w0 w c v tv r) {k : Nat} (hk : RrG c v tv k) : k < w.heap.size := by
  rcases hk with rfl | rfl | hk | hk
  · exact h.lt
  · exact h.cre.lt
  · exact Seg.lt h.row hk
  · exact Seg.lt h.trow hk
theorem RrP.kept {w0 w w' : World} {c : RrC} {v tv : Value} {r : RrS} (h : RrP w0 w c v tv r) (hk : ∀ k, RrG c v tv k ∨ TB c.px c.m k → w'.heap[k]? = w.heap[k]?) : RrP w0 w' c v tv r :=
  { h with
    blk := (hk c.b (Or.inl (Or.inl rfl))).trans h.blk
    row := Seg.kept h.row (fun k hv => hk k (Or.inl (Or.inr (Or.inr (Or.inl hv)))))
    trow := Seg.kept h.trow (fun k hv => hk k (Or.inl (Or.inr (Or.inr (Or.inr hv)))))
    cre := h.cre.kept (hk c.mb (Or.inl (Or.inr (Or.inl rfl))))
    same := fun k ht => (hk k (Or.inr ht)).trans (h.same k ht) }
theorem RrP.below {w0 w w' : World} {c : RrC} {v tv : Value} {r : RrS} (h : RrP w0 w c v tv r) (hb : Below w.heap.size w w') : RrP w0 w' c v tv r := h.kept (fun k hk => hb.block k (hk.elim h.low h.tlt))
theorem RrP.drewN {w0 w : World} {c : RrC} {v tv : Value} {r : RrS} (h : RrP w0 w c v tv r) (n : Nat) : RrP w0 (w.drewN n) c v tv r := h.kept (fun _ _ => rfl)
/-- What is left of them. -/
structure RrO (w0 w : World) (c : RrC) (v tv : Value) (r' : RrS) (w' : World) (v' tv' : Value) : Prop where
  pos : RrP w0 w' c v' tv' r'
  own : ∀ k, RrG c v' tv' k → RrG c v tv k ∨ w.heap.size ≤ k
  ot : Ot (RrG c v tv) w w'
theorem RrO.refl {w0 w : World} {c : RrC} {v tv : Value} {r : RrS} (h : RrP w0 w c v tv r) : RrO w0 w c v tv r w v tv := ⟨h, fun _ hk => Or.inl hk, Ot.refl _ _⟩
theorem RrO.trans {w0 w w1 w2 : World} {c : RrC} {v tv v1 tv1 v2 tv2 : Value} {r1 r2 : RrS} (h : RrO w0 w c v tv r1 w1 v1 tv1) (k : RrO w0 w1 c v1 tv1 r2 w2 v2 tv2) : RrO w0 w c v tv r2 w2 v2 tv2 := by
  have hs := h.ot.size
  refine ⟨k.pos, fun j hj => ?_, h.ot.trans' k.ot (fun j hj hlt => ?_)⟩
  · rcases k.own j hj with h1 | h1
    · exact h.own j h1
    · exact Or.inr (by omega)
  · rcases h.own j hj with h1 | h1
    · exact h1
    · omega
theorem RrO.below {w0 w w1 w2 : World} {c : RrC} {v tv v1 tv1 : Value} {r1 : RrS} (h : RrO w0 w c v tv r1 w1 v1 tv1) (hb : Below w1.heap.size w1 w2) : RrO w0 w c v tv r1 w2 v1 tv1 := h.trans ⟨h.pos.below hb, fun _ hk => Or.inl hk, Ot.of_below hb⟩
/-- Whatever is other of them. -/
theorem RrP.mk' {w0 w w' : World} {c : RrC} {v tv v' tv' : Value} {r r' : RrS} (h : RrP w0 w c v tv r) (hblk : w'.heap[c.b]? = some (.cells #[.int .i64 c.room, .slice c.px c.m c.pcap, v', tv', .bool r'.bg, .map (some c.mb)] 68 (0, 0))) (hrow : Ps w' v' r'.L) (htrow : Ins w' tv' r'.tn) (hcre : CrM w' c.mb r'.cr) (ho : Ot (RrG c v tv) w w')
    (hv : ∀ k, v'.ownBlock = some k → v.ownBlock = some k ∨ w.heap.size ≤ k) (ht : ∀ k, tv'.ownBlock = some k → tv.ownBlock = some k ∨ w.heap.size ≤ k) (hd : ∀ k, v'.ownBlock = some k → tv'.ownBlock ≠ some k) : RrO w0 w c v tv r' w' v' tv' := by
  have hb := h.lt
  have hm := h.cre.lt
  have hown : ∀ k, RrG c v' tv' k → RrG c v tv k ∨ w.heap.size ≤ k := by
    intro k hk
    rcases hk with hk | hk | hk | hk
    · exact Or.inl (Or.inl hk)
    · exact Or.inl (Or.inr (Or.inl hk))
    · exact (hv k hk).imp_left (fun e => Or.inr (Or.inr (Or.inl e)))
    · exact (ht k hk).imp_left (fun e => Or.inr (Or.inr (Or.inr e)))
  refine ⟨⟨hblk, hrow, htrow, hcre, h.qrow, fun k hk => (ho.block k (h.tlt hk) (h.qf k hk)).trans (h.same k hk), fun e => ?_, fun e => ?_, hd, h.mne, fun e => ?_, fun e => ?_, fun k hk e => ?_⟩, hown, ho⟩
  · rcases hv _ e with h1 | h1
    · exact h.ne h1
    · omega
  · rcases ht _ e with h1 | h1
    · exact h.tne h1
    · omega
  · rcases hv _ e with h1 | h1
    · exact h.vm h1
    · omega
  · rcases ht _ e with h1 | h1
    · exact h.tm h1
    · omega
  · rcases hown k e with h1 | h1
    · exact h.qf k hk h1
    · have := h.tlt hk; omega
/-- The same, and a packet's block beside them. -/
structure RrM (w0 w : World) (c : RrC) (v tv : Value) (B : Nat) (x : Hd) (r' : RrS) (w' : World) (v' tv' : Value) : Prop where
  o : RrO w0 w c v tv r' w' v' tv'
  box : BxP w' B x
  nb : ¬ RrG c v' tv' B
theorem RrM.step {w0 w w1 w2 : World} {c : RrC} {v tv v1 tv1 v2 tv2 : Value} {B : Nat} {x : Hd} {r1 r2 : RrS} (h : RrM w0 w c v tv B x r1 w1 v1 tv1) (k : RrO w0 w1 c v1 tv1 r2 w2 v2 tv2) : RrM w0 w c v tv B x r2 w2 v2 tv2 := by
  have hB : B < w1.heap.size := lt_of_block h.box
  refine ⟨h.o.trans k, (k.ot.block B hB h.nb).trans h.box, fun e => ?_⟩
  rcases k.own B e with h1 | h1
  · exact h.nb h1
  · omega
theorem RrM.below {w0 w w1 w2 : World} {c : RrC} {v tv v1 tv1 : Value} {B : Nat} {x : Hd} {r1 : RrS} (h : RrM w0 w c v tv B x r1 w1 v1 tv1) (hb : Below w1.heap.size w1 w2) : RrM w0 w c v tv B x r1 w2 v1 tv1 := h.step ((RrO.refl h.o.pos).below hb)
theorem RrM.al {w0 w : World} {c : RrC} {v tv : Value} {r : RrS} (h : RrP w0 w c v tv r) (x : Hd) : RrM w0 w c v tv w.heap.size x r (w.alloc (.cells #[.int .i64 x.a, .int .i64 x.l, .int .i64 x.f, .int .i64 x.b, .int .i64 x.m, .int .i64 x.n] 99)) v tv :=
  ⟨(RrO.refl h).below (below_alloc_ (Below.refl _ _) _), new_block w _, fun hk => by have := h.low hk; omega⟩
/-- A credit is another one. -/
theorem RrP.credit {w0 w w' : World} {c : RrC} {v tv : Value} {r : RrS} {cr' : Nat → Int} (h : RrP w0 w c v tv r) (hc : CrM w' c.mb cr') (hg : w.grownBy w' (some c.mb)) : RrO w0 w c v tv { r with cr := cr' } w' v tv := by
  have hb := h.lt
  have hk : ∀ k, k < w.heap.size → k ≠ c.mb → w'.heap[k]? = w.heap[k]? := fun k h1 h2 => hg.block k h1 (fun e => h2 (by simpa using e))
  refine h.mk' (r' := { r with cr := cr' }) ((hk c.b hb (fun e => h.mne e.symm)).trans h.blk) (Seg.kept h.row (fun k hv => hk k (Seg.lt h.row hv) (fun e => h.vm (e ▸ hv)))) (Seg.kept h.trow (fun k hv => hk k (Seg.lt h.trow hv) (fun e => h.tm (e ▸ hv)))) hc (Ot.grown (row := some c.mb) (Ot.refl _ _) hg (fun k e => Or.inl (Or.inr (Or.inl (by simpa using e.symm))))) (fun k hk => Or.inl hk) (fun k hk => Or.inl hk) h.dis
theorem flw_succ {L : List Hd} {j : Nat} {y : Hd} {k : Int} (h : L[j]? = some y) : flw (L.take (j + 1)) k = if y.f = k then flw (L.take j) k ++ [y] else flw (L.take j) k := by
  unfold flw
  rw [List.take_add_one, h, List.filter_append]
  by_cases e : y.f = k
  · rw [if_pos e]; simp [e]
  · rw [if_neg e]; simp [e]
set_option maxRecDepth 20000 in
set_option maxHeartbeats 2000000 in
theorem rrof_any {w0 : World} {c : RrC} {v tv : Value} {r : RrS} (k : Int) (w : World) (h : RrP w0 w c v tv r) (hl : r.L.length ≤ 1000000) :
    Calls Tryd.prog 119 #[.pointer (some ⟨c.b, 0, none⟩), .int .i64 k] w fun e w' => ∃ ux cap, e = .returned (.slice ux (flw r.L k).length cap) ∧ OwP w.heap.size w (.slice ux (flw r.L k).length cap) (flw r.L k) w' := by
  obtain ⟨⟨c0, c1, c2, c3, c4, c5⟩, f2, f3, f4⟩ := sixr h.blk
  have hb := h.lt
  have HRW : Hid (Ps w v r.L) := h.row
  obtain ⟨x, cap, hv, _⟩ := Ps.shape h.row
  obtain ⟨L, hL⟩ : ∃ L, r.L = L := ⟨_, rfl⟩
  rw [hL] at HRW hv hl ⊢
  subst hv
  obtain ⟨n, hn⟩ : ∃ n, L.length = n := ⟨_, rfl⟩
  have HN : Hid (L.length = n) := hn
  rw [hn] at c2 hl HRW
  obtain ⟨i0, hi, hz0, hz1, hz2⟩ := info_parts infoPack
  clear h hL hn
  go_enter Tryd.func119, Tryd.ntmps119
  go_wp2
  go_loopw [5, 13] (fun ov iv wr => ∃ j : Nat, j ≤ n ∧ iv = .int .i64 j ∧ OwP w.heap.size w ov (flw (L.take j) k) wr) (fun _ i _ => n - (intOf i).toNat)
  case atStart => exact ⟨0, Nat.zero_le _, rfl, by simp [flw]; exact Ps.nil _, fun k hk => by simp [Value.ownBlock] at hk, Below.refl _ _⟩
  case round =>
    obtain ⟨j, hj, rfl, ho⟩ := hrel
    have HO : Hid (OwP w.heap.size w u5 (flw (L.take j) k) wr) := ho
    have hsw := ho.bel.size
    have hfl : (flw (L.take j) k).length ≤ j := Nat.le_trans (flw_sub _ _).length_le (List.length_take_le _ _)
    clear ho
    by_cases hlt : j < n
    · obtain ⟨y, hy⟩ : ∃ y, L[j]? = some y := ⟨_, List.getElem?_eq_getElem (by rw [HN.out]; exact hlt)⟩
      have HSU : Hid (flw (L.take (j + 1)) k = if y.f = k then flw (L.take j) k ++ [y] else flw (L.take j) k) := flw_succ hy
      obtain ⟨b1, off, cap', hx, _⟩ := HRW.out.some (by rw [HN.out]; omega)
      have hx' : x = some ⟨b1, off, none⟩ := by simp at hx; exact hx.1
      subst hx'
      have hb1 : b1 < w.heap.size := Seg.lt HRW.out rfl
      obtain ⟨p0, p1, p2, p3, p4, p5⟩ := (Ps.below HRW.out HO.out.bel).cells hy
      have hb1w : b1 < wr.heap.size := by omega
      have HO0 : Hid (OwP w.heap.size w u5 (flw (L.take j) k) (wr.alloc (.cells #[.int .i64 y.a, .int .i64 y.l, .int .i64 y.f, .int .i64 y.b, .int .i64 y.m, .int .i64 y.n] 99))) := ⟨Seg.alloc HO.out.row _, HO.out.new, HO.out.bel.alloc hsw _⟩
      obtain ⟨X, hX⟩ : ∃ X, flw (L.take j) k = X := ⟨_, rfl⟩
      rw [hX] at HSU HO0 hfl
      clear hX HO hx hy
      by_cases hk : y.f = k
      · have o1 : (y.f == k) = true := by simpa using hk
        have HS2 : Hid (flw (L.take (j + 1)) k = X ++ [y]) := by show _ = _; rw [HSU.out, if_pos hk]
        clear hk
        go_wp2_with (at_builtin; refine wpList_append_seg _ rfl (.tmp 22) (.tmp 24) 36 rfl 99 i0 _ 6 48 Tryd.underlying36 hi hz0 hz1 hz2 rfl (by decide) u5 X.length (flt Hd.cs X) rfl (Seg.alloc HO0.out.row _) ⟨wr.heap.size + 1, 0, none⟩ 1 1 y.cs rfl rfl (news_of (new_block_ (by simp))) y.one (by decide) (by unfold maxLen; omega) (by omega) _ rfl ?_; intro g off2 cap2 w8 hs8 hg8 ha8 hl8)
        have HO8 : Hid (OwP w.heap.size w (.slice (some ⟨g, off2, none⟩) (X.length + 1) cap2) (X ++ [y]) w8) := HO0.out.app (by simp; omega) hs8 hg8 ha8
        clear hs8 hg8 ha8 hl8
        go_roundw
        case rel => exact ⟨j + 1, by omega, by go_num, by rw [HS2.out]; exact HO8.out⟩
        case measure => simp [intOf]; omega
      · have o1 : (y.f == k) = false := by simpa using hk
        have HS2 : Hid (flw (L.take (j + 1)) k = X) := by show _ = _; rw [HSU.out, if_neg hk]
        clear hk
        go_wp2
        go_roundw
        case rel => exact ⟨j + 1, by omega, by go_num, by rw [HS2.out]; exact HO0.out⟩
        case measure => simp [intOf]; omega
    · obtain rfl : j = n := by omega
      have HE : Hid (flw (L.take j) k = flw L k) := by show _ = _; rw [List.take_of_length_le (by rw [HN.out]; exact Nat.le_refl _)]
      rw [HE.out] at HO
      obtain ⟨ux, ucap, hu, _⟩ := Ps.shape HO.out.row
      subst hu
      go_wp2
      go_ret
      exact ⟨_, _, rfl, HO.out⟩
theorem rrall_any {w0 : World} {c : RrC} {v tv : Value} {r : RrS} (w : World) (h : RrP w0 w c v tv r) :
    Calls Tryd.prog 115 #[.pointer (some ⟨c.b, 0, none⟩)] w fun e w' => e = .returned v ∧ w' = w := by
  obtain ⟨⟨c0, c1, c2, c3, c4, c5⟩, f2, f3, f4⟩ := sixr h.blk
  have hb := h.lt
  clear h
  go_enter Tryd.func115, Tryd.ntmps115
  go_wp2
  go_ret
  exact ⟨rfl, rfl⟩
theorem rrwhen_any {w0 : World} {c : RrC} {v tv : Value} {r : RrS} (now : Int) (w : World) (h : RrP w0 w c v tv r) :
    Calls Tryd.prog 118 #[.pointer (some ⟨c.b, 0, none⟩), .int .i64 now] w fun e w' => e = .returned (.tuple #[.int .i64 now, .bool (!r.L.isEmpty)]) ∧ ∃ n, w' = w.drewN n := by
  obtain ⟨⟨c0, c1, c2, c3, c4, c5⟩, f2, f3, f4⟩ := sixr h.blk
  have hb := h.lt
  obtain ⟨x, cap, rfl, _⟩ := Ps.shape h.row
  have HE : Hid (decide (0 < r.L.length) = !r.L.isEmpty) := by
    cases r.L with
    | nil => rfl
    | cons x L => simp [Hid]
  clear h
  go_enter Tryd.func118, Tryd.ntmps118
  go_wp2
  go_quiet (fail)
  go_wp2
  go_ret2
  exact ⟨by rw [← HE.out]; rfl, _, rfl⟩
end Go.Proofs.YtefflbibacmboaaDoor
