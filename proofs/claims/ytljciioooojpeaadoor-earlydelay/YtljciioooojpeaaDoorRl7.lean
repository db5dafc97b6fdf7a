/-
  millraceref.Delayed: what Take does where it goes on throwing away. Conditions: the queue lies in memory, few packets; times within bounds.
-/
import Derived.Test.YtljciioooojpeaaDoorRl6
namespace Go.Proofs.YtljciioooojpeaaDoor
open Go.RowKit Go.Extern.Stop Go.Stop Go.Extern

theorem Ps.len {w : World} {v : Value} {L : List Hd} (h : Ps w v L) : lenOf v = L.length := by
  obtain ⟨x, cap, rfl, _⟩ := h.shape
  rfl
/-- A round of throwing away: what was thrown away, the queue and the one in hand. -/
structure QGo (T S now : Int) (s : DlS) (x : Hd) (w : World) (b xb : Nat) (P R : Int) (v av : Value) (A : List Hd) (s1 : DlS) (x1 : Hd) (ok1 : Bool) (u v1 av1 : Value) (wr : World) : Prop where
  fin : (s1.throws = true ∧ ok1 = true ∧ A.length + s1.L.length = s.L.length ∧ goD T S now s.L s x = ((goD T S now s1.L s1 x1).1, A ++ (goD T S now s1.L s1 x1).2.1, (goD T S now s1.L s1 x1).2.2.1, (goD T S now s1.L s1 x1).2.2.2)) ∨ (s1.throws = false ∧ goD T S now s.L s x = (s1, A, x1, ok1))
  pos : QP wr b P R T S v1 av1 s1
  lost : Ps wr u A
  box : wr.heap[xb]? = some (.cells #[.int .i64 x1.a, .int .i64 x1.l, .int .i64 x1.f, .int .i64 x1.b, .int .i64 x1.m, .int .i64 x1.n] 96 (0, 0))
  res : wr.heap[w.heap.size]? = some (.cells #[.int .i64 0, .int .i64 0, .int .i64 0, .int .i64 0, .int .i64 0, .int .i64 0] 96 (0, 0))
  own : ∀ k, v1.ownBlock = some k → v.ownBlock = some k ∨ w.heap.size ≤ k
  aown : ∀ k, av1.ownBlock = some k → av.ownBlock = some k ∨ w.heap.size ≤ k
  vne : ∀ k, v1.ownBlock = some k → k ≠ w.heap.size ∧ k ≠ xb
  avne : ∀ k, av1.ownBlock = some k → k ≠ w.heap.size ∧ k ≠ xb
  new : ∀ k, u.ownBlock = some k → w.heap.size < k ∧ k ≠ xb ∧ v1.ownBlock ≠ some k ∧ av1.ownBlock ≠ some k
  ot : Ot (· = b) w wr
  cnt : s1.count = s.count + A.length
  suf : ∀ y ∈ s1.L, y ∈ s.L
  nxt : 0 ≤ s1.next ∧ s1.next ≤ 10000000000
theorem qgo_mid {T S now : Int} {s : DlS} {x : Hd} {w : World} {b xb : Nat} {P R : Int} {v av : Value} {A : List Hd} {s1 : DlS} {x1 : Hd} {ok1 : Bool} {u v1 av1 : Value} {wr : World} (h : QGo T S now s x w b xb P R v av A s1 x1 ok1 u v1 av1 wr) (hb : b < w.heap.size) {o : Obj} {w2 : World} (hg : (wr.alloc o).grownBy w2 u.ownBlock) :
    QP w2 b P R T S v1 av1 s1 ∧ w2.heap[xb]? = some (.cells #[.int .i64 x1.a, .int .i64 x1.l, .int .i64 x1.f, .int .i64 x1.b, .int .i64 x1.m, .int .i64 x1.n] 96 (0, 0)) ∧
    w2.heap[w.heap.size]? = some (.cells #[.int .i64 0, .int .i64 0, .int .i64 0, .int .i64 0, .int .i64 0, .int .i64 0] 96 (0, 0)) ∧ Ot (· = b) w w2 ∧ wr.heap.size + 1 ≤ w2.heap.size := by
  have hs := hg.size
  have hs2 : wr.heap.size + 1 ≤ w2.heap.size := by simpa using hs
  have key : ∀ k, k < wr.heap.size → u.ownBlock ≠ some k → w2.heap[k]? = wr.heap[k]? := fun k hk hu => (hg.block k (by simp; omega) (fun e => hu e.symm)).trans (Below.heap_alloc _ _ _ hk)
  exact ⟨h.pos.kept (by omega) (key b (RAt.lt h.pos.pos) (fun e => by have := (h.new _ e).1; omega)) (fun k hk => key k (h.pos.pos.row.lt hk) (fun e => (h.new _ e).2.2.1 hk)) (fun k hk => key k (h.pos.low k hk) (fun e => (h.new _ e).2.2.2 hk)), (key _ (lt_of_block h.box) (fun e => (h.new _ e).2.1 rfl)).trans h.box, (key _ (lt_of_block h.res) (fun e => by have := (h.new _ e).1; omega)).trans h.res, Ot.grown (h.ot.alloc o) hg (fun k e => Or.inr (by have := (h.new _ e).1; omega)), hs2⟩
set_option maxRecDepth 20000 in
set_option maxHeartbeats 8000000 in
theorem rtake_go {b : Nat} {P R T S : Int} {v av : Value} {s : DlS} (now : Int) (w : World) (h : QP w b P R T S v av s) (hF : Fit s.L) (hS : 0 ≤ S) (hS1 : S ≤ 1000000) (hn0 : 0 ≤ now) (hn1 : now ≤ 1000000) (ha : ∀ x ∈ s.L, 0 ≤ x.a ∧ x.a ≤ 1000000) (hc0 : 0 ≤ s.count) (hc1 : s.count + s.L.length ≤ 900000) (hx0 : 0 ≤ s.next) (hx1 : s.next ≤ 10000000000) (hbad : (pullD T S s now).2.2.2 = true) (hth : s.throws = true) :
    Calls Tryd.prog 87 #[.pointer (some ⟨b, 0, none⟩), .int .i64 now] w fun e w' => ∃ u v' av', e = .returned (.tuple #[(takeD T S s now).2.2.1.val, u, .bool (takeD T S s now).2.2.2]) ∧ QTk w b P R T S v av (takeD T S s now) u w' v' av' := by
  have H : Hid (QP w b P R T S v av s) := h
  have hb := RAt.lt h.pos
  have hV := Hd.val_eq
  have HVL : Hid (∀ k, v.ownBlock = some k → k < w.heap.size) := fun k hk => h.pos.row.lt hk
  obtain ⟨p, hp⟩ : ∃ p, pullD T S s now = p := ⟨_, rfl⟩
  obtain ⟨s1, x1, ok1, bad1⟩ := p
  have HPU : Hid (∀ (W : World) (v' av' : Value), QP W b P R T S v' av' s → Calls Tryd.prog 90 #[.pointer (some ⟨b, 0, none⟩), .int .i64 now] W fun e w' => e = .returned (.tuple #[x1.val, .bool ok1, .bool bad1]) ∧ ∃ v'' av'', QP w' b P R T S v'' av'' s1 ∧ (∀ k, v''.ownBlock = some k → v'.ownBlock = some k ∨ W.heap.size ≤ k) ∧ (∀ k, av''.ownBlock = some k → av'.ownBlock = some k ∨ W.heap.size ≤ k) ∧ Ot (· = b) W w') := by
    intro W v' av' hD
    have := rpull_any now W hD hF hS hS1 hn0 hn1 ha
    rw [hp] at this
    exact this
  rw [hp] at hbad
  obtain rfl : bad1 = true := hbad
  obtain ⟨p1, p2, p3, p4, p5, p6, p7⟩ := pullD_same hp
  obtain ⟨rfl, _, _⟩ := p7 rfl
  have hth1 : s1.throws = true := by rw [p1]; exact hth
  have HSF : Hid (∀ z ∈ s1.L, z ∈ s.L) := fun z hz => List.mem_of_mem_tail (by rw [p4] at hz; exact hz)
  have hlen : s1.L.length ≤ s.L.length := by rw [p4, List.length_tail]; omega
  have HFA : Hid (Fit s1.L ∧ ∀ x ∈ s1.L, 0 ≤ x.a ∧ x.a ≤ 1000000) := ⟨⟨by have := hF.1; omega, fun z hz => hF.2 z (HSF.out z hz)⟩, fun z hz => ha z (HSF.out z hz)⟩
  have hc : 0 ≤ s1.count ∧ s1.count + s1.L.length ≤ 900000 := by omega
  have hx : 0 ≤ s1.next ∧ s1.next ≤ 10000000000 := by omega
  have hT : takeD T S s now = goD T S now s1.L s1 x1 := by simp [takeD, hp, hth1]
  rw [hT]
  obtain ⟨i0, hi, hz0, hz1, hz2⟩ := info_parts infoPack
  have HT1 : Hid (s1.throws = true) := hth1
  have hFl : s1.L.length ≤ 900000 := by omega
  clear hp hT p1 p2 p3 p4 p5 p6 p7 h ha hF hth hlen hc0 hc1 hx0 hx1
  go_enter Tryd.func87, Tryd.ntmps87
  go_wp2_with (first | (go_at_call 90; refine (HPU.out _ _ _ (QP.al H.out _)).mono ?_; rintro e w1 ⟨rfl, v1, av1, hD1, hk1, hka1, ho1⟩; obtain ⟨hs1, hz⟩ := after_ot ho1 (by omega); obtain ⟨⟨z0, z1, z2, z3, z4, z5⟩, y0, y1, y2, y3, y4, y5⟩ := six hz; have hbs : b < w1.heap.size := Nat.lt_trans hb hs1; obtain ⟨⟨c3, c4, c5, c6, c7, c8, c9⟩, f6, f7, f8, f9⟩ := hD1.pos.cells; have HD1 : Hid (QP w1 b P R T S v1 av1 s1) := hD1; clear hD1; have HW1 : Hid (∀ k, v1.ownBlock = some k → v.ownBlock = some k ∨ w.heap.size ≤ k) := fun k hk => by { rcases hk1 k hk with h | h; exact Or.inl h; exact Or.inr (by simp at h; omega) }; have HAW1 : Hid (∀ k, av1.ownBlock = some k → av.ownBlock = some k ∨ w.heap.size ≤ k) := fun k hk => by { rcases hka1 k hk with h | h; exact Or.inl h; exact Or.inr (by simp at h; omega) }; have HV1 : Hid (∀ k, v1.ownBlock = some k → k ≠ w.heap.size) := fun k hk e => by { rcases hk1 k hk with h | h; have := HVL.out k h; omega; simp at h; omega }; have HAV1 : Hid (∀ k, av1.ownBlock = some k → k ≠ w.heap.size) := fun k hk e => by { rcases hka1 k hk with h | h; have := H.out.low k h; omega; simp at h; omega }; have HO1 : Hid (Ot (· = b) w w1) := (Ot.of_below ((Below.refl _ _).alloc (Nat.le_refl _) _)).trans ho1; clear hk1 hka1 ho1))
  obtain ⟨xb, hxb⟩ : ∃ xb, w1.heap.size = xb := ⟨_, rfl⟩
  have HXB : Hid (w1.heap.size = xb) := hxb
  have hxb1 : w.heap.size < xb := by omega
  rw [hxb]
  clear hxb
  go_loopw [8, 9, 10] (fun o bb u wr => ∃ (A : List Hd) (s2 : DlS) (y1 : Hd) (ok1 b1 : Bool) (v1 av1 : Value), o = .bool ok1 ∧ bb = .bool b1 ∧ QGo T S now s1 x1 w b xb P R v av A s2 y1 ok1 u v1 av1 wr) (fun _ _ u _ => s1.L.length + 2 - lenOf u)
  case atStart =>
    have e1 := HXB.out
    refine ⟨[], s1, x1, true, true, v1, av1, rfl, rfl, Or.inl ⟨HT1.out, rfl, by simp, by simp⟩, QP.al HD1.out _, Ps.nil _, by rw [← e1]; exact new_block _ _, heap_al hs1 hz, HW1.out, HAW1.out, fun k hk => ⟨HV1.out k hk, fun e => by have := HD1.out.pos.row.lt hk; omega⟩, fun k hk => ⟨HAV1.out k hk, fun e => by have := HD1.out.low k hk; omega⟩, fun k hk => by simp [Value.ownBlock] at hk, Ot.alloc HO1.out _, by simp, fun y h => h, hx⟩
  case round =>
    clear z0 z1 z2 z3 z4 z5 y0 y1 y2 y3 y4 y5 c3 c4 c5 c6 c7 c8 c9 f6 f7 f8 f9 hz HD1 HW1 HAW1 HV1 HAV1 HO1 HXB hs1 hbs
    obtain ⟨A, s2, y1, ok1, b1, v1, av1, rfl, rfl, hr⟩ := hrel
    have HR : Hid (QGo T S now s1 x1 w b xb P R v av A s2 y1 ok1 u10 v1 av1 wr) := hr
    obtain ⟨⟨c3, c4, c5, c6, c7, c8, c9⟩, f6, f7, f8, f9⟩ := hr.pos.pos.cells
    obtain ⟨⟨z0, z1, z2, z3, z4, z5⟩, q0, q1, q2, q3, q4, q5⟩ := six hr.box
    obtain ⟨⟨r0, r1, r2, r3, r4, r5⟩, t0, t1, t2, t3, t4, t5⟩ := six hr.res
    have hbr := RAt.lt hr.pos.pos
    have hwr := lt_of_block hr.res
    have hxr := lt_of_block hr.box
    clear hr
    cases hth : s2.throws with
    | false =>
      have hg : goD T S now s1.L s1 x1 = (s2, A, y1, ok1) := by
        rcases HR.out.fin with ⟨h, _⟩ | ⟨_, h⟩
        · rw [hth] at h; cases h
        · exact h
      go_wp2
      (try simp only [Exit.inBlock, Exit.then])
      rw [hg]
      refine bodyPost_ret (v := .tuple #[y1.val, u10, .bool ok1]) (ret_pack2 rfl rfl (six_set HR.out.res _ _ _ _ _ _) rfl rfl) rfl ⟨u10, v1, av1, rfl, Ps.six HR.out.lost (fun k hk => by have := (HR.out.new k hk).1; omega) _ _ _ _ _ _, QP.six HR.out.pos (by omega) (fun k hk => (HR.out.vne k hk).1) (fun k hk => (HR.out.avne k hk).1) _ _ _ _ _ _, HR.out.own, HR.out.aown, fun k hk => by have := (HR.out.new k hk).1; omega, ?_⟩
      have hO := HR.out.ot
      repeat' (first | with_reducible exact hO | with_reducible refine Ot.setCell ?_ (by simp) _)
    | true =>
      by_cases hnx : now < s2.next
      · have hg : goD T S now s1.L s1 x1 = (s2, A, y1, ok1) := by
          rcases HR.out.fin with ⟨_, h1, _, h2⟩ | ⟨h, _⟩
          · rw [h2, goD_stop hnx, h1]; simp
          · rw [hth] at h; cases h
        go_wp2
        (try simp only [Exit.inBlock, Exit.then])
        rw [hg]
        refine bodyPost_ret (v := .tuple #[y1.val, u10, .bool ok1]) (ret_pack2 rfl rfl (six_set HR.out.res _ _ _ _ _ _) rfl rfl) rfl ⟨u10, v1, av1, rfl, Ps.six HR.out.lost (fun k hk => by have := (HR.out.new k hk).1; omega) _ _ _ _ _ _, QP.six HR.out.pos (by omega) (fun k hk => (HR.out.vne k hk).1) (fun k hk => (HR.out.avne k hk).1) _ _ _ _ _ _, HR.out.own, HR.out.aown, fun k hk => by have := (HR.out.new k hk).1; omega, ?_⟩
        have hO := HR.out.ot
        repeat' (first | with_reducible exact hO | with_reducible refine Ot.setCell ?_ (by simp) _)
      · obtain ⟨hok1, hlen, hgd⟩ : ok1 = true ∧ A.length + s2.L.length = s1.L.length ∧ goD T S now s1.L s1 x1 = ((goD T S now s2.L s2 y1).1, A ++ (goD T S now s2.L s2 y1).2.1, (goD T S now s2.L s2 y1).2.2.1, (goD T S now s2.L s2 y1).2.2.2) := by
          rcases HR.out.fin with ⟨_, h⟩ | ⟨h, _⟩
          · exact h
          · rw [hth] at h; cases h
        have HGD : Hid (goD T S now s1.L s1 x1 = ((goD T S now s2.L s2 y1).1, A ++ (goD T S now s2.L s2 y1).2.1, (goD T S now s2.L s2 y1).2.2.1, (goD T S now s2.L s2 y1).2.2.2)) := hgd
        obtain ⟨p, hp⟩ : ∃ p, pullD T S { s2 with count := s2.count + 1 } now = p := ⟨_, rfl⟩
        obtain ⟨s3, y, ok3, bad3⟩ := p
        have HP : Hid (pullD T S { s2 with count := s2.count + 1 } now = (s3, y, ok3, bad3)) := hp
        have HP3 : Hid (∀ (W : World) (v' av' : Value), QP W b P R T S v' av' { s2 with count := s2.count + 1 } → Calls Tryd.prog 90 #[.pointer (some ⟨b, 0, none⟩), .int .i64 now] W fun e w' => e = .returned (.tuple #[y.val, .bool ok3, .bool bad3]) ∧ ∃ v'' av'', QP w' b P R T S v'' av'' s3 ∧ (∀ k, v''.ownBlock = some k → v'.ownBlock = some k ∨ W.heap.size ≤ k) ∧ (∀ k, av''.ownBlock = some k → av'.ownBlock = some k ∨ W.heap.size ≤ k) ∧ Ot (· = b) W w') := by
          intro W v' av' hD
          have hF1 : Fit s2.L := ⟨by omega, fun z hz => HFA.out.1.2 z (HR.out.suf z hz)⟩
          have := rpull_any now W hD hF1 hS hS1 hn0 hn1 (fun z hz => HFA.out.2 z (HR.out.suf z hz))
          rw [hp] at this
          exact this
        obtain ⟨p1, p2, p3, p4, p5, p6, p7⟩ := pullD_same hp
        simp only at p1 p2 p3 p4
        have HCN : Hid (s2.count = s1.count + A.length) := HR.out.cnt
        have hcn : 0 ≤ s2.count ∧ s2.count ≤ s1.count + A.length := by have := HCN.out; omega
        have hc3 : 1 ≤ s3.count ∧ s3.count ≤ 900001 := by omega
        have hn3 : 0 ≤ s3.next ∧ s3.next ≤ 10000000000 := by rw [p3]; exact HR.out.nxt
        have P2 : Hid (s3.count = s2.count + 1) := p2
        have P3 : Hid (s3.next = s2.next) := p3
        have hnx1 : 0 ≤ s2.next ∧ s2.next ≤ 10000000000 := HR.out.nxt
        have hla : A.length + 1 ≤ 1000001 := by omega
        have HSF3 : Hid (∀ z ∈ s3.L, z ∈ s1.L) := fun z hz => HR.out.suf z (List.mem_of_mem_tail (by rw [p4] at hz; exact hz))
        have HLN : Hid (A.length + s2.L.length = s1.L.length) := hlen
        have HNX : Hid (¬ now < s2.next) := hnx
        clear hp hgd p1 p2 p3 p4 p5 p6 p7
        cases bad3 with
        | false =>
          go_wp2_with (first | (go_at_call 90; refine (HP3.out _ _ _ (HM0.out.count (s2.count + 1))).mono ?_; rintro e w3 ⟨rfl, v3, av3, hD3, hk3, hka3, ho3⟩; have hw3 : w2.heap.size ≤ w3.heap.size := (by { have := ho3.size; simpa using this }); have b3 : w3.heap[xb]? = _ := (ho3.block xb (by simp; have := lt_of_block m1; omega) (by omega)).trans (heap_other (by omega) m1); have r3 : w3.heap[w.heap.size]? = _ := (ho3.block _ (by simp; have := lt_of_block m2; omega) (by omega)).trans (heap_other (by omega) m2); obtain ⟨⟨z0', z1', z2', z3', z4', z5'⟩, y0', y1', y2', y3', y4', y5'⟩ := six b3; obtain ⟨⟨d3', d4', d5', d6', d7', d8', d9'⟩, e6', e7', e8', e9'⟩ := hD3.pos.cells; have HD3 : Hid (QP w3 b P R T S v3 av3 s3) := hD3; have hbw3 : b < w3.heap.size := RAt.lt hD3.pos; have hws3 := lt_of_block r3; have hxs3 := lt_of_block b3; have HW3 : Hid (∀ k, v3.ownBlock = some k → v1.ownBlock = some k ∨ w2.heap.size ≤ k) := fun k hk => by { rcases hk3 k hk with h | h; exact Or.inl h; exact Or.inr (by simpa using h) }; have HAW3 : Hid (∀ k, av3.ownBlock = some k → av1.ownBlock = some k ∨ w2.heap.size ≤ k) := fun k hk => by { rcases hka3 k hk with h | h; exact Or.inl h; exact Or.inr (by simpa using h) }; have HX3 : Hid (∀ k, v3.ownBlock = some k → k ≠ w.heap.size ∧ k ≠ xb) := fun k hk => by { rcases HW3.out k hk with h | h; exact HR.out.vne k h; exact ⟨by omega, by omega⟩ }; have HAX3 : Hid (∀ k, av3.ownBlock = some k → k ≠ w.heap.size ∧ k ≠ xb) := fun k hk => by { rcases HAW3.out k hk with h | h; exact HR.out.avne k h; exact ⟨by omega, by omega⟩ }; have HO3 : Hid (Ot (· = b) w w3) := (Ot.setCell HM3.out (Or.inl rfl) _).trans ho3; have HPS3 : Hid (Ps w3 (.slice (some ⟨g, off, none⟩) (A.length + 1) cap) (A ++ [y1])) := ps_ot (Ps.set9 (Ps.snoc hs2 rfl) (fun k hk => by { simp [Value.ownBlock] at hk; have := HG.out.2.1; omega })) ho3 (fun k hk => by { simp [Value.ownBlock] at hk; have := HG.out.2.1; omega }); clear hk3 hka3 ho3 hD3 hs2 hg2) | (at_builtin; refine wpList_append_seg _ rfl (.tmp 52) (.tmp 54) 40 rfl 96 i0 _ 6 48 Tryd.underlying40 hi hz0 hz1 hz2 rfl (by decide) _ _ _ rfl (Ps.below HR.out.lost (below_alloc_ (Below.refl _ _) _)) ⟨wr.heap.size, 0, none⟩ 1 1 y1.cs rfl rfl (news_of (new_block_ (by simp))) y1.one (by decide) (by unfold maxLen; omega) (by omega) _ rfl ?_; intro g off cap w2 hs2 hg2 ha2 hl2; obtain ⟨m0, m1, m2, m3, m4⟩ := qgo_mid HR.out hb hg2; obtain ⟨⟨d3, d4, d5, d6, d7, d8, d9⟩, e6, e7, e8, e9⟩ := m0.pos.cells; have hbw : b < w2.heap.size := (by omega); have HM0 : Hid (QP w2 b P R T S v1 av1 s2) := m0; have HM3 : Hid (Ot (· = b) w w2) := m3; have HG : Hid (g < w2.heap.size ∧ w.heap.size < g ∧ g ≠ xb ∧ v1.ownBlock ≠ some g ∧ av1.ownBlock ≠ some g) := (by { refine ⟨hl2, ?_⟩; rcases ha2 with h | h; exact HR.out.new _ h; simp at h; exact ⟨by omega, by omega, fun e => by { have := HR.out.pos.pos.row.lt e; omega }, fun e => by { have := HR.out.pos.low _ e; omega }⟩ }); clear m0 m3 ha2))
          go_roundw
          case rel =>
            have hg9 := HG.out
            refine ⟨A ++ [y1], { s3 with throws := false }, y, ok3, false, v3, av3, rfl, rfl, Or.inr ⟨rfl, gor_good HGD.out (by have := HNX.out; omega) HP.out⟩, (HD3.out.six (by omega) (fun k hk => (HX3.out k hk).2) (fun k hk => (HAX3.out k hk).2) _ _ _ _ _ _).throws false, ?_, ?_, ?_, ?_, ?_, HX3.out, HAX3.out, ?_, ?_, by show s3.count = _; rw [P2.out, HCN.out]; simp; omega, HSF3.out, hn3⟩
            · have := Ps.set9 (b := b) (i := 7) (a := .bool false) (Ps.six (r := xb) HPS3.out (fun k hk => by simp [Value.ownBlock] at hk; omega) (.int .i64 y.a) (.int .i64 y.l) (.int .i64 y.f) (.int .i64 y.b) (.int .i64 y.m) (.int .i64 y.n)) (fun k hk => by simp [Value.ownBlock] at hk; omega)
              exact this
            · exact heap_other (by omega) (six_set b3 _ _ _ _ _ _)
            · exact heap_other (by omega) (heap_six (by omega) r3)
            · exact fun k hk => by
                rcases HW3.out k hk with h | h
                · exact HR.out.own k h
                · exact Or.inr (by omega)
            · exact fun k hk => by
                rcases HAW3.out k hk with h | h
                · exact HR.out.aown k h
                · exact Or.inr (by omega)
            · intro k hk
              simp only [Value.ownBlock, Option.some.injEq] at hk
              subst hk
              refine ⟨hg9.2.1, hg9.2.2.1, fun e => ?_, fun e => ?_⟩
              · rcases HW3.out _ e with h | h
                · exact hg9.2.2.2.1 h
                · omega
              · rcases HAW3.out _ e with h | h
                · exact hg9.2.2.2.2 h
                · omega
            · have hO := HO3.out
              repeat' (first | with_reducible exact hO | with_reducible refine Ot.setCell ?_ (by simp <;> omega) _)
          case measure => 
            have h1 := Ps.len HR.out.lost
            rw [h1]
            show s1.L.length + 2 - (A.length + 1) < s1.L.length + 2 - A.length
            omega
        | true =>
          go_wp2_with (first | (go_at_call 90; refine (HP3.out _ _ _ (HM0.out.count (s2.count + 1))).mono ?_; rintro e w3 ⟨rfl, v3, av3, hD3, hk3, hka3, ho3⟩; have hw3 : w2.heap.size ≤ w3.heap.size := (by { have := ho3.size; simpa using this }); have b3 : w3.heap[xb]? = _ := (ho3.block xb (by simp; have := lt_of_block m1; omega) (by omega)).trans (heap_other (by omega) m1); have r3 : w3.heap[w.heap.size]? = _ := (ho3.block _ (by simp; have := lt_of_block m2; omega) (by omega)).trans (heap_other (by omega) m2); obtain ⟨⟨z0', z1', z2', z3', z4', z5'⟩, y0', y1', y2', y3', y4', y5'⟩ := six b3; obtain ⟨⟨d3', d4', d5', d6', d7', d8', d9'⟩, e6', e7', e8', e9'⟩ := hD3.pos.cells; have HD3 : Hid (QP w3 b P R T S v3 av3 s3) := hD3; have hbw3 : b < w3.heap.size := RAt.lt hD3.pos; have hws3 := lt_of_block r3; have hxs3 := lt_of_block b3; have HW3 : Hid (∀ k, v3.ownBlock = some k → v1.ownBlock = some k ∨ w2.heap.size ≤ k) := fun k hk => by { rcases hk3 k hk with h | h; exact Or.inl h; exact Or.inr (by simpa using h) }; have HAW3 : Hid (∀ k, av3.ownBlock = some k → av1.ownBlock = some k ∨ w2.heap.size ≤ k) := fun k hk => by { rcases hka3 k hk with h | h; exact Or.inl h; exact Or.inr (by simpa using h) }; have HX3 : Hid (∀ k, v3.ownBlock = some k → k ≠ w.heap.size ∧ k ≠ xb) := fun k hk => by { rcases HW3.out k hk with h | h; exact HR.out.vne k h; exact ⟨by omega, by omega⟩ }; have HAX3 : Hid (∀ k, av3.ownBlock = some k → k ≠ w.heap.size ∧ k ≠ xb) := fun k hk => by { rcases HAW3.out k hk with h | h; exact HR.out.avne k h; exact ⟨by omega, by omega⟩ }; have HO3 : Hid (Ot (· = b) w w3) := (Ot.setCell HM3.out (Or.inl rfl) _).trans ho3; have HPS3 : Hid (Ps w3 (.slice (some ⟨g, off, none⟩) (A.length + 1) cap) (A ++ [y1])) := ps_ot (Ps.set9 (Ps.snoc hs2 rfl) (fun k hk => by { simp [Value.ownBlock] at hk; have := HG.out.2.1; omega })) ho3 (fun k hk => by { simp [Value.ownBlock] at hk; have := HG.out.2.1; omega }); clear hk3 hka3 ho3 hD3 hs2 hg2) | (at_builtin; refine wpList_append_seg _ rfl (.tmp 52) (.tmp 54) 40 rfl 96 i0 _ 6 48 Tryd.underlying40 hi hz0 hz1 hz2 rfl (by decide) _ _ _ rfl (Ps.below HR.out.lost (below_alloc_ (Below.refl _ _) _)) ⟨wr.heap.size, 0, none⟩ 1 1 y1.cs rfl rfl (news_of (new_block_ (by simp))) y1.one (by decide) (by unfold maxLen; omega) (by omega) _ rfl ?_; intro g off cap w2 hs2 hg2 ha2 hl2; obtain ⟨m0, m1, m2, m3, m4⟩ := qgo_mid HR.out hb hg2; obtain ⟨⟨d3, d4, d5, d6, d7, d8, d9⟩, e6, e7, e8, e9⟩ := m0.pos.cells; have hbw : b < w2.heap.size := (by omega); have HM0 : Hid (QP w2 b P R T S v1 av1 s2) := m0; have HM3 : Hid (Ot (· = b) w w2) := m3; have HG : Hid (g < w2.heap.size ∧ w.heap.size < g ∧ g ≠ xb ∧ v1.ownBlock ≠ some g ∧ av1.ownBlock ≠ some g) := (by { refine ⟨hl2, ?_⟩; rcases ha2 with h | h; exact HR.out.new _ h; simp at h; exact ⟨by omega, by omega, fun e => by { have := HR.out.pos.pos.row.lt e; omega }, fun e => by { have := HR.out.pos.low _ e; omega }⟩ }); clear m0 m3 ha2) | (go_at_call 89; refine (rlaw_any (s := { s3 with throws := true }) s3.next _ (QP.pos ((HD3.out.six (by omega) (fun k hk => (HX3.out k hk).2) (fun k hk => (HAX3.out k hk).2) _ _ _ _ _ _).throws true)) hS hS1 (by show 1 ≤ s3.count; omega) (by show s3.count ≤ _; omega) (by omega) (by omega)).mono ?_; rintro e w4 ⟨rfl, hw4⟩; subst hw4))
          go_roundw
          case rel =>
            have hg9 := HG.out
            obtain ⟨g1, g2, g3⟩ := gor_bad HLN.out HGD.out (by have := HNX.out; omega) HP.out
            have hlaw := lawD_le (n := s2.count + 1) hS hS1 hnx1.1
            refine ⟨A ++ [y1], { s3 with throws := true, next := lawD S (s2.count + 1) s2.next }, y, ok3, true, v3, av3, rfl, rfl, Or.inl ⟨rfl, g1, g2, g3⟩, ?_, ?_, ?_, ?_, ?_, ?_, HX3.out, HAX3.out, ?_, ?_, by show s3.count = _; rw [P2.out, HCN.out]; simp; omega, HSF3.out, by show 0 ≤ lawD _ _ _ ∧ lawD _ _ _ ≤ _; omega⟩
            · have := ((HD3.out.six (r := xb) (by omega) (fun k hk => (HX3.out k hk).2) (fun k hk => (HAX3.out k hk).2) (.int .i64 y.a) (.int .i64 y.l) (.int .i64 y.f) (.int .i64 y.b) (.int .i64 y.m) (.int .i64 y.n)).throws true).next (lawD S s3.count s3.next)
              rw [← P2.out, ← P3.out]
              exact this
            · have := Ps.set9 (b := b) (i := 9) (a := .int .i64 (lawD S s3.count s3.next)) (Ps.set9 (b := b) (i := 7) (a := .bool true) (Ps.six (r := xb) HPS3.out (fun k hk => by simp [Value.ownBlock] at hk; omega) (.int .i64 y.a) (.int .i64 y.l) (.int .i64 y.f) (.int .i64 y.b) (.int .i64 y.m) (.int .i64 y.n)) (fun k hk => by simp [Value.ownBlock] at hk; omega)) (fun k hk => by simp [Value.ownBlock] at hk; omega)
              exact this
            · exact heap_other (by omega) (heap_other (by omega) (six_set b3 _ _ _ _ _ _))
            · exact heap_other (by omega) (heap_other (by omega) (heap_six (by omega) r3))
            · exact fun k hk => by
                rcases HW3.out k hk with h | h
                · exact HR.out.own k h
                · exact Or.inr (by omega)
            · exact fun k hk => by
                rcases HAW3.out k hk with h | h
                · exact HR.out.aown k h
                · exact Or.inr (by omega)
            · intro k hk
              simp only [Value.ownBlock, Option.some.injEq] at hk
              subst hk
              refine ⟨hg9.2.1, hg9.2.2.1, fun e => ?_, fun e => ?_⟩
              · rcases HW3.out _ e with h | h
                · exact hg9.2.2.2.1 h
                · omega
              · rcases HAW3.out _ e with h | h
                · exact hg9.2.2.2.2 h
                · omega
            · have hO := HO3.out
              repeat' (first | with_reducible exact hO | with_reducible refine Ot.setCell ?_ (by simp <;> omega) _)
          case measure => 
            have h1 := Ps.len HR.out.lost
            rw [h1]
            show s1.L.length + 2 - (A.length + 1) < s1.L.length + 2 - A.length
            omega
end Go.Proofs.YtljciioooojpeaaDoor
