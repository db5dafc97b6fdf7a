/-
  plain.Play with whatever queue: what is seen step by step, in memory of the call's own. Conditions: the steps lie in memory, a thousand at most; the queue's methods do what a model of it tells (a premise).
-/
import Derived.Test.YtpgdocmpbeabpaaDoorU23
namespace Go.Proofs.YtpgdocmpbeabpaaDoor
open Go.RowKit Go.Extern.Stop Go.Stop Go.Extern

theorem infoSeen : (Tryd.prog.info? 42).map (fun i => (i.zero, i.size, i.bytes)) = some (some (.agg #[.int .i64 0, .int .i64 0, .int .i64 0, .int .i64 0, .int .i64 0, .slice none 0 0]), 6, 64) := by kernel_rfl
theorem one6 {a b c d e : Int} {lv : Value} (h : lv.oneCell' = true) : ∀ u ∈ [Value.int .i64 a, .int .i64 b, .int .i64 c, .int .i64 d, .int .i64 e, lv], u.oneCell' = true := by
  intro u hu
  simp only [List.mem_cons, List.not_mem_nil, or_false] at hu
  rcases hu with rfl | rfl | rfl | rfl | rfl | rfl
  all_goals first | exact h | rfl
/-- A round of Play. -/
structure PlayR (M : QM) (w : World) (F0 : Nat → Prop) (s0 : M.σ) (xs : List Stp) (tv : Value) (k : Nat) (o : Value) (n : Nat) (wr : World) (s : M.σ) (F : Nat → Prop) (us : List Value) : Prop where
  st : stFrom M s0 0 (timesL 0 xs) k = (s, n)
  pos : M.At wr F s
  inv : M.inv (nowAt 0 xs k) n s
  seen : Sns wr w.heap.size F o (Psn M s0 (timesL 0 xs) k) us
  trow : Sts wr tv (timesL 0 xs)
  tnew : ∀ b, tv.ownBlock = some b → w.heap.size ≤ b ∧ ¬ F b
  fnew : ∀ k, F k → F0 k ∨ w.heap.size ≤ k
  ot : Ot F0 w wr
/-- Behind the switch. -/
structure MidQ (M : QM) (wr : World) (F : Nat → Prop) (b : Nat) (s' : M.σ) (n' : Nat) (c0 c1 c2 : Int) (lost : List Int) (nv : Value) (wx : World) (F' : Nat → Prop) (lv : Value) : Prop where
  num : nv = .int .i64 n'
  box : Bx wx b (.int .i64 c0) (.int .i64 c1) (.int .i64 c2) (.int .i64 0) (.int .i64 0) lv
  ints : Ins wx lv lost
  inew : ∀ k, lv.ownBlock = some k → wr.heap.size ≤ k ∧ ¬ F' k ∧ k ≠ b
  pos : M.At wx F' s'
  fnew : ∀ k, F' k → (F k ∨ wr.heap.size ≤ k) ∧ k ≠ b
  ot : Ot F wr wx

theorem box_after {wr w2 : World} {F : Nat → Prop} {o1 o2 : Obj} (hF : ∀ k, F k → k < wr.heap.size) (ho : Ot F ((wr.alloc o1).alloc o2) w2) : w2.heap[wr.heap.size + 1]? = some o2 ∧ w2.heap[wr.heap.size]? = some o1 ∧ wr.heap.size + 2 ≤ w2.heap.size := by
  have hs := ho.size
  simp at hs
  refine ⟨?_, ?_, by omega⟩
  · rw [ho.block _ (by simp) (fun h => by have := hF _ h; omega)]
    exact new_block_ (by simp)
  · rw [ho.block _ (by simp; omega) (fun h => by have := hF _ h; omega), Below.heap_alloc _ _ _ (by simp)]
    exact heap_alloc_new wr o1
theorem Bx.two {w : World} {b : Nat} {c0 c1 c2 c3 c4 lv : Value} (h : Bx w b c0 c1 c2 c3 c4 lv) (a c : Value) : Bx ((w.setCell ⟨b, 0, none⟩ a).setCell ⟨b, 1, none⟩ c) b a c c2 c3 c4 lv := by
  unfold Bx
  rw [heap_setCell_here (heap_setCell_here h a) c]
  simp
theorem Bx.third {w : World} {b : Nat} {c0 c1 c2 c3 c4 lv : Value} (h : Bx w b c0 c1 c2 c3 c4 lv) (a : Value) : Bx (w.setCell ⟨b, 2, none⟩ a) b c0 c1 a c3 c4 lv := by
  unfold Bx
  rw [heap_setCell_here h a]
  simp
theorem Bx.sizes {w : World} {b : Nat} {c0 c1 c2 c3 c4 lv : Value} (h : Bx w b c0 c1 c2 c3 c4 lv) (a c : Value) : Bx ((w.setCell ⟨b, 3, none⟩ a).setCell ⟨b, 4, none⟩ c) b c0 c1 c2 a c lv := by
  unfold Bx
  rw [heap_setCell_here (heap_setCell_here h a) c]
  simp
theorem after_ot' {S : Nat → Prop} {w w1 : World} {o : Obj} (h : Ot S (w.alloc o) w1) (hs : ¬ S w.heap.size) : w.heap.size < w1.heap.size ∧ w1.heap[w.heap.size]? = some o := by
  refine ⟨by have := h.size; simp at this; omega, ?_⟩
  rw [h.block w.heap.size (by simp) hs]
  exact heap_alloc_new w o
theorem Ot.two {S : Nat → Prop} (w : World) (o1 o2 : Obj) : Ot S w ((w.alloc o1).alloc o2) := ((Ot.refl S w).alloc o1).alloc o2
theorem stepQ_inv {M : QM} (hM : M.Fine) {s : M.σ} {n : Nat} {st : Stp} {t0 : Int} (hI : M.inv t0 n s) (h0 : 0 ≤ t0) (h1 : t0 ≤ st.lt) (h2 : st.lt ≤ 1000000) (hok : st.what = 0 → It.ok ⟨st.a, st.l, st.f, st.b, st.m⟩ = true) (ha : st.a = st.lt) (hn : n ≤ 1000) : M.inv st.lt (stepQ M s n st).1.2 (stepQ M s n st).1.1 ∧ (stepQ M s n st).1.2 ≤ n + 1 := by
  unfold stepQ
  split
  · rename_i hw
    exact ⟨(hM.iP st.lt (hdOf st n) hI h0 h1 (by omega) (hok hw) ha rfl hn).1, Nat.le_refl _⟩
  · split
    · exact ⟨(hM.iT st.lt hI h0 h1 (by omega) hn).1, Nat.le_succ _⟩
    · exact ⟨hM.iW st.lt hI h0 h1 (by omega) hn, Nat.le_succ _⟩
theorem stepQ_len (M : QM) (s : M.σ) (n : Nat) (st : Stp) : (stepQ M s n st).2.len = M.len (stepQ M s n st).1.1 ∧ (stepQ M s n st).2.bytes = M.bytes (stepQ M s n st).1.1 := by
  unfold stepQ
  split
  · exact ⟨rfl, rfl⟩
  · split <;> exact ⟨rfl, rfl⟩
theorem zip_snoc {α β : Type} {a : List α} {b : List β} (h : a.length = b.length) (x : α) (y : β) : (a ++ [x]).zip (b ++ [y]) = a.zip b ++ [(x, y)] := by
  rw [List.zip_append h]
  rfl
theorem seg_apart {w : World} {e e' : TypeId} {k k' : Nat} {v v' : Value} {n n' : Nat} {xs xs' : List Value} (h : Seg w e k v n xs) (h' : Seg w e' k' v' n' xs') (hne : e ≠ e') {b : Nat} (hb : v.ownBlock = some b) : v'.ownBlock ≠ some b := by
  intro hb'
  obtain ⟨c, h1⟩ := h.ty hb
  obtain ⟨c', h2⟩ := h'.ty hb'
  rw [h1] at h2
  simp at h2
  exact hne h2.2
theorem play_next {M : QM} (hM : M.Fine) {w : World} {F0 : Nat → Prop} {s0 : M.σ} {xs : List Stp} {tv : Value} {k : Nat} {o : Value} {n : Nat} {wr : World} {s : M.σ} {F : Nat → Prop} {us : List Value} (hR : PlayR M w F0 s0 xs tv k o n wr s F us)
    {st : Stp} (hst : (timesL 0 xs)[k]? = some st) (hlt : nowAt 0 xs (k + 1) = st.lt) (hk : k ≤ xs.length) {r : (M.σ × Nat) × Sn} (hr : stepQ M s n st = r) (hinv : M.inv st.lt r.1.2 r.1.1) {nv : Value} {wc w4 w5 : World} {F' : Nat → Prop} {lv : Value}
    (hm : MidQ M wr F (wr.heap.size + 1) r.1.1 r.1.2 r.2.taken r.2.mark r.2.when r.2.lost nv wc F' lv) (h4 : Below wc.heap.size wc w4) {a c : Value} {ob : Obj} {g goff gcap : Nat}
    (hs5 : Seg w5 42 6 (.slice (some ⟨g, goff, none⟩) (k + 1) gcap) (k + 1) (flt Sn.cs ((Psn M s0 (timesL 0 xs) k).zip us) ++ Sn.cs (r.2, lv)))
    (hg5 : (((w4.setCell ⟨wr.heap.size + 1, 3, none⟩ a).setCell ⟨wr.heap.size + 1, 4, none⟩ c).alloc ob).grownBy w5 o.ownBlock) (ha5 : o.ownBlock = some g ∨ wc.heap.size ≤ g) :
    PlayR M w F0 s0 xs tv (k + 1) (.slice (some ⟨g, goff, none⟩) (k + 1) gcap) r.1.2 w5 r.1.1 F' (us ++ [lv]) := by
  have hlow := hM.low hR.pos
  have hlow' := hM.low hm.pos
  have hws := hR.ot.size
  have hwc := hm.ot.size
  have holt : ∀ b, o.ownBlock = some b → b < wr.heap.size := fun b hb => hR.seen.row.lt hb
  have hOc : Ot (fun j => j = wr.heap.size + 1 ∨ o.ownBlock = some j) wc w5 := by
    refine Ot.grown (row := o.ownBlock) (Ot.alloc (Ot.setCell (p := ⟨wr.heap.size + 1, 4, none⟩) (Ot.setCell (p := ⟨wr.heap.size + 1, 3, none⟩) (Ot.of_below h4) (Or.inl (Or.inl rfl)) _) (Or.inl (Or.inl rfl)) _) _) hg5 (fun j e => Or.inl (Or.inr e))
  have hOr : Ot (fun j => F j ∨ o.ownBlock = some j) wr w5 := by
    refine (hm.ot.mono (T := fun j => F j ∨ o.ownBlock = some j) (fun j _ h => Or.inl h)).trans' hOc (fun j h hj => ?_)
    rcases h with h | h
    · omega
    · exact Or.inr h
  have hF' : ∀ j, j < wr.heap.size → F' j → F j := fun j hj h => by
    rcases (hm.fnew j h).1 with h | h
    · exact h
    · omega
  have hlen : (Psn M s0 (timesL 0 xs) k).length = k := Psn_length (by rw [timesL_length]; exact hk)
  refine ⟨?_, ?_, by rw [hlt]; exact hinv, ?_, ?_, ?_, ?_, ?_⟩
  · rw [stFrom_succ hst, hR.st]
    show (stepQ M s n st).1 = _
    rw [hr]
  · refine hM.kept hm.pos (fun j hj => hOc.block j (hlow' j hj) (fun h => ?_))
    rcases h with h | h
    · exact (hm.fnew j hj).2 h
    · have h1 := (hR.seen.new j h).2
      exact h1 (hF' j (holt j h) hj)
  · have hps : Psn M s0 (timesL 0 xs) (k + 1) = Psn M s0 (timesL 0 xs) k ++ [r.2] := by rw [Psn_succ hst, hR.st, hr]
    rw [hps]
    have hul : (Psn M s0 (timesL 0 xs) k).length = us.length := hR.seen.len.symm
    refine ⟨by simp [hul], ?_, ?_, ?_⟩
    · rw [zip_snoc hul, flt_append, flt_one, List.length_append, hlen]
      exact hs5
    · intro b hb
      simp only [Value.ownBlock, Option.some.injEq] at hb
      subst hb
      rcases ha5 with h | h
      · exact ⟨(hR.seen.new _ h).1, fun hf => (hR.seen.new _ h).2 (hF' _ (holt _ h) hf)⟩
      · exact ⟨by omega, fun hf => by have := hlow' _ hf; omega⟩
    · intro i sn u h1 h2
      by_cases hi : i < k
      · rw [List.getElem?_append_left (by omega)] at h1 h2
        obtain ⟨h3, h4⟩ := hR.seen.lost i sn u h1 h2
        refine ⟨Seg.oth h3 hOr (fun b hb h => ?_), fun b hb => ⟨(h4 b hb).1, fun hf => (h4 b hb).2 (hF' b (Seg.lt h3 hb) hf)⟩⟩
        rcases h with h | h
        · exact (h4 b hb).2 h
        · exact seg_apart h3 hR.seen.row (by decide) hb h
      · have hik : i = k := by
          have := (List.getElem?_eq_some_iff.1 h1).1
          simp [hlen] at this
          omega
        subst hik
        rw [List.getElem?_append_right (by omega), hlen] at h1
        rw [List.getElem?_append_right (by omega), ← hul, hlen] at h2
        simp at h1 h2
        subst h1 h2
        refine ⟨Seg.oth hm.ints hOc (fun b hb h => ?_), fun b hb => ⟨by have := (hm.inew b hb).1; omega, (hm.inew b hb).2.1⟩⟩
        rcases h with h | h
        · exact (hm.inew b hb).2.2 h
        · have h1 := (hm.inew b hb).1
          have h2 := holt b h
          omega
  · refine Seg.oth hR.trow hOr (fun b hb h => ?_)
    rcases h with h | h
    · exact (hR.tnew b hb).2 h
    · exact seg_apart hR.trow hR.seen.row (by decide) hb h
  · intro b hb
    exact ⟨(hR.tnew b hb).1, fun hf => (hR.tnew b hb).2 (hF' b (Seg.lt hR.trow hb) hf)⟩
  · intro j hj
    rcases (hm.fnew j hj).1 with h | h
    · exact hR.fnew j h
    · exact Or.inr (by omega)
  · refine hR.ot.trans' hOr (fun j h hj => ?_)
    rcases h with h | h
    · rcases hR.fnew j h with h | h
      · exact h
      · omega
    · have := (hR.seen.new j h).1
      omega
set_option maxHeartbeats 4000000 in
theorem play_any (M : QM) (hM : M.Fine) (F0 : Nat → Prop) (s0 : M.σ) (x : Option Addr) (cap : Nat) (xs : List Stp) (w : World) (h : Lies w x (flt Stp.cs xs)) (hn : xs.length ≤ 1000) (hA : M.At w F0 s0) (hI : M.inv 0 0 s0) :
    Calls Tryd.prog 7 #[.iface M.ty M.rv, .slice x xs.length cap] w fun e w' => ∃ u us F, e = .returned u ∧ Sns w' w.heap.size F u (playFrom M s0 0 (timesL 0 xs)) us ∧ Ot F0 w w' := by
  have HM : Hid M.Fine := hM
  have HA : Hid (M.At w F0 s0) := hA
  have HI : Hid (M.inv 0 0 s0) := hI
  have HL : Hid (Lies w x (flt Stp.cs xs)) := h
  have hmP := hM.mP
  have hmT := hM.mT
  have hmW := hM.mW
  have hmL := hM.mL
  have hmB := hM.mB
  have heP := hM.eP
  have heT := hM.eT
  have heW := hM.eW
  have heL := hM.eL
  have heB := hM.eB
  clear h hA hI hM
  obtain ⟨q, hq⟩ : ∃ q, xs.length = q := ⟨_, rfl⟩
  have HTC := times_any x cap xs w HL.out hn
  obtain ⟨i0, hi, hz0, hz1, hz2⟩ := info_parts infoSeen
  rw [hq] at HTC hn ⊢
  have HN : Hid (xs.length = q) := hq
  clear hq
  go_enter Tryd.func7, Tryd.ntmps7
  go_wp2_with (go_at_call 10; refine HTC.mono ?_; rintro e w1 ⟨tv, rfl, ht1, hn1, hb1⟩; obtain ⟨tx, tcap, htv, htl⟩ := ht1.lies; rw [htv]; rw [timesL_length, HN.out])
  have HT1 : Hid (Sts w1 tv (timesL 0 xs)) := ht1
  have HTL : Hid (tv = .slice tx q tcap) := by rw [timesL_length, HN.out] at htv; exact htv
  have HB1 : Hid (Below w.heap.size w w1) := hb1
  have HN1 : Hid (∀ k, tv.ownBlock = some k → w.heap.size ≤ k) := hn1
  clear ht1 htv htl hb1 hn1
  go_loopw [5, 6, 19] (fun o nv i wr => ∃ (k n : Nat) (s : M.σ) (F : Nat → Prop) (us : List Value), k ≤ q ∧ i = .int .i64 k ∧ nv = .int .i64 n ∧ PlayR M w F0 s0 xs tv k o n wr s F us) (fun _ _ i _ => q - (intOf i).toNat)
  case atStart =>
    refine ⟨0, 0, s0, F0, [], Nat.zero_le _, rfl, rfl, stFrom_zero _ _ _ _, HM.out.kept HA.out (fun k hk => HB1.out.block k (HM.out.low HA.out k hk)), by have : nowAt 0 xs 0 = 0 := (by cases xs <;> rfl); rw [this]; exact HI.out, Sns.nil _ _ _, HT1.out, fun b hb => ⟨HN1.out b hb, fun hf => ?_⟩, fun k hk => Or.inl hk, Ot.of_below HB1.out⟩
    have h1 := HN1.out b hb
    have h2 := HM.out.low HA.out b hf
    omega
  case round =>
    obtain ⟨k, n, s, F, us, hk, rfl, rfl, hr⟩ := hrel
    have HR : Hid (PlayR M w F0 s0 xs tv k u5 n wr s F us) := hr
    clear hr
    by_cases hlt : k < q
    · obtain ⟨y, hy⟩ : ∃ y, xs[k]? = some y := ⟨_, List.getElem?_eq_getElem (by have := HN.out; omega)⟩
      have HY : Hid (xs[k]? = some y) := hy
      have hts := timesL_at (t := 0) hy
      obtain ⟨t, ht⟩ : ∃ t, nowAt 0 xs (k + 1) = t := ⟨_, rfl⟩
      have ht1 : 0 ≤ t ∧ t ≤ 1000000 := by have := nowAt_le 0 xs (k + 1); omega
      have ht2 : nowAt 0 xs k ≤ t ∧ 0 ≤ nowAt 0 xs k := by have := nowAt_succ (t := 0) hy; have := later_le y; have := nowAt_le 0 xs k; omega
      have HT : Hid (nowAt 0 xs (k + 1) = t) := ht
      rw [ht] at hts
      clear hy ht
      obtain ⟨st, hst⟩ : ∃ st, timed t y = st := ⟨_, rfl⟩
      have hlt1 : st.lt = t := by rw [← hst]; rfl
      have hat1 : st.a = t := by rw [← hst]; rfl
      have HOK : Hid (st.what = 0 → It.ok ⟨st.a, st.l, st.f, st.b, st.m⟩ = true) := by
        intro h0
        subst hst
        exact timed_ok (t := t) (s := y) h0
      rw [hst] at hts
      have HST : Hid ((timesL 0 xs)[k]? = some st) := hts
      obtain ⟨tx', tcap', htv', htl⟩ := HR.out.trow.lies
      rw [HTL.out] at htv'
      obtain ⟨htx, htc⟩ : tx = tx' ∧ tcap = tcap' := by
        simp at htv'
        exact ⟨htv'.1, htv'.2.2⟩
      subst htx htc
      obtain ⟨b, off, rfl, hbl, c0, c1, c2, c3, c4, c5, c6⟩ := htl.seven hts
      clear htl hts hst htv'
      have HLT : Hid (st.lt = t) := hlt1
      have HAT : Hid (st.a = t) := hat1
      have HLOW := HM.out.low HR.out.pos
      have hnk : n ≤ k := by have := stFrom_le M s0 0 (timesL 0 xs) k; rw [HR.out.st] at this; simpa using this
      clear hlt1 hat1
      go_upto_region 8 with (fail)
      go_upto_block 2 with (fail)
      obtain ⟨r, hr⟩ : ∃ r, stepQ M s n st = r := ⟨_, rfl⟩
      have HSQ : Hid (stepQ M s n st = r) := hr
      clear hr
      have hlt0 : 0 ≤ st.lt ∧ st.lt ≤ 1000000 ∧ nowAt 0 xs k ≤ st.lt := by rw [HLT.out]; omega
      have HF1 : Hid (∀ (o1 o2 : Obj), M.At ((wr.alloc o1).alloc o2) F s) := fun o1 o2 => HM.out.kept HR.out.pos (fun j hj => (Below.heap_alloc _ _ _ (by simp; have := HLOW j hj; omega)).trans (Below.heap_alloc _ _ _ (HLOW j hj)))
      go_cut [6] (fun nv wx => ∃ F' lv, MidQ M wr F (wr.heap.size + 1) r.1.1 r.1.2 r.2.taken r.2.mark r.2.when r.2.lost nv wx F' lv)
      case first =>
        by_cases hw0 : st.what = 0
        · have HW : Hid (st.what = 0) := hw0
          have hw2 : (st.what == 0) = true := by simpa using hw0
          clear hw0
          go_wp2_with fail
          refine (HM.out.cP (t := nowAt 0 xs k) (n := n) st.lt (hdOf st n) (HF1.out _ _) HR.out.inv (by omega) (by omega) (by omega) (HOK.out HW.out) (by rw [HLT.out]; exact HAT.out) rfl (by omega)).mono ?_
          rintro e w2 ⟨u, F2, rfl, hu2, ha2, hf2, hn2, ho2⟩
          obtain ⟨x1, x2, x3⟩ := box_after HLOW ho2
          have hiP := HM.out.iP (n := n) (t := nowAt 0 xs k) st.lt (hdOf st n) HR.out.inv (by omega) (by omega) (by omega) (HOK.out HW.out) (by rw [HLT.out]; exact HAT.out) rfl (by omega)
          have HL1 := lose_any w2 x1 hu2 (fun e => by have := hn2 _ e; simp at this; rcases this with h | h; exact absurd (HLOW _ h) (by omega); omega) hiP.2
          have hr : r = (((M.put s st.lt (hdOf st n)).1, n + 1), ⟨-1, 0, -1, M.len (M.put s st.lt (hdOf st n)).1, M.bytes (M.put s st.lt (hdOf st n)).1, (M.put s st.lt (hdOf st n)).2.map Hd.n⟩) := by rw [← HSQ.out]; simp only [stepQ, if_pos HW.out]
          have HRR : Hid (r = (((M.put s st.lt (hdOf st n)).1, n + 1), ⟨-1, 0, -1, M.len (M.put s st.lt (hdOf st n)).1, M.bytes (M.put s st.lt (hdOf st n)).1, (M.put s st.lt (hdOf st n)).2.map Hd.n⟩)) := hr
          clear hr hiP
          have HP2 : Hid (M.At w2 F2 (M.put s st.lt (hdOf st n)).1) := ha2
          have HF2 : Hid (∀ k, F2 k → F k ∨ wr.heap.size + 2 ≤ k) := fun j hj => by have := hf2 j hj; simpa using this
          have HO2 : Hid (Ot F wr w2) := (Ot.two wr _ _).trans ho2
          have HX3 : Hid (wr.heap.size + 2 ≤ w2.heap.size) := x3
          clear ha2 hf2 ho2 hu2 hn2
          go_wp2_with (go_at_call 19; refine HL1.mono ?_; rintro e w3 ⟨rfl, lv, hbx, hin, hnw, hot⟩)
          go_meet
          case rel =>
            refine ⟨F2, lv, ?_, ?_, ?_, ?_, ?_, ?_, ?_⟩
            · rw [HRR.out]; go_num
            · rw [HRR.out]; exact hbx
            · rw [HRR.out]; exact hin
            · intro j hj
              have h1 := hnw j hj
              have h2 := HX3.out
              exact ⟨by omega, fun hf => by have := HM.out.low HP2.out j hf; omega, by omega⟩
            · rw [HRR.out]
              refine HM.out.kept HP2.out (fun j hj => hot.block j (HM.out.low HP2.out j hj) (fun e => ?_))
              rcases HF2.out j hj with h | h
              · have := HLOW j h; omega
              · omega
            · intro j hj
              rcases HF2.out j hj with h | h
              · exact ⟨Or.inl h, by have := HLOW j h; omega⟩
              · exact ⟨Or.inr (by omega), by omega⟩
            · exact HO2.out.trans' hot (fun j e hj => by omega)
        · have HW : Hid (¬ st.what = 0) := hw0
          have hw2 : (st.what == 0) = false := by simpa using hw0
          clear hw0
          have hV := Hd.val_eq
          by_cases hw1 : st.what = 1
          · have HW1 : Hid (st.what = 1) := hw1
            have hw3 : (st.what == 1) = true := by simpa using hw1
            clear hw1
            go_wp2_with fail
            refine (HM.out.cT (t := nowAt 0 xs k) (n := n) st.lt (HF1.out _ _) HR.out.inv (by omega) (by omega) (by omega) (by omega)).mono ?_
            rintro e w2 ⟨u, F2, rfl, hu2, ha2, hf2, hn2, ho2⟩
            obtain ⟨x1, x2, x3⟩ := box_after HLOW ho2
            have hiT := HM.out.iT (n := n) (t := nowAt 0 xs k) st.lt HR.out.inv (by omega) (by omega) (by omega) (by omega)
            have HRR0 : Hid (r = (((M.take s st.lt).1, n), ⟨if (M.take s st.lt).2.2.2 then (M.take s st.lt).2.2.1.n else -1, if (M.take s st.lt).2.2.2 then (M.take s st.lt).2.2.1.m else 0, -1, M.len (M.take s st.lt).1, M.bytes (M.take s st.lt).1, (M.take s st.lt).2.1.map Hd.n⟩)) := by show r = _; rw [← HSQ.out]; simp only [stepQ, if_neg HW.out, if_pos HW1.out]
            generalize M.take s st.lt = Tk at *
            obtain ⟨s2, L2, h2, ok2⟩ := Tk
            have HL1 : Hid (∀ (o : Obj), Calls Tryd.prog 19 #[u, .pointer (some ⟨wr.heap.size + 1, 0, none⟩)] (w2.alloc o) fun e w' => e = .returned (.tuple #[]) ∧ ∃ lv, Bx w' (wr.heap.size + 1) (.int .i64 (-1)) (.int .i64 0) (.int .i64 (-1)) (.int .i64 0) (.int .i64 0) lv ∧ Ins w' lv (L2.map Hd.n) ∧ (∀ k, lv.ownBlock = some k → (w2.alloc o).heap.size ≤ k) ∧ Ot (· = wr.heap.size + 1) (w2.alloc o) w') := fun o => lose_any (w2.alloc o) ((Below.heap_alloc _ _ _ (by omega)).trans x1) (Seg.alloc hu2 o) (fun e => by have := hn2 _ e; simp at this; rcases this with h | h; exact absurd (HLOW _ h) (by omega); omega) hiT.2
            have HP2 : Hid (M.At w2 F2 s2) := ha2
            have HF2 : Hid (∀ k, F2 k → F k ∨ wr.heap.size + 2 ≤ k) := fun j hj => by have := hf2 j hj; simpa using this
            have HO2 : Hid (Ot F wr w2) := (Ot.two wr _ _).trans ho2
            have HX3 : Hid (wr.heap.size + 2 ≤ w2.heap.size) := x3
            have hx3 : wr.heap.size + 1 < w2.heap.size := by omega
            clear ha2 hf2 ho2 hu2 hn2 hiT x1 x2 x3
            have HREL : Hid (∀ {c0 c1 : Int} {lv : Value} {w3 w4 : World} {o : Obj}, r = ((s2, n), ⟨c0, c1, -1, M.len s2, M.bytes s2, L2.map Hd.n⟩) → Bx w4 (wr.heap.size + 1) (.int .i64 c0) (.int .i64 c1) (.int .i64 (-1)) (.int .i64 0) (.int .i64 0) lv → Ins w3 lv (L2.map Hd.n) → (∀ k, lv.ownBlock = some k → (w2.alloc o).heap.size ≤ k) → Ot (· = wr.heap.size + 1) (w2.alloc o) w3 → Ot (· = wr.heap.size + 1) w3 w4 → MidQ M wr F (wr.heap.size + 1) r.1.1 r.1.2 r.2.taken r.2.mark r.2.when r.2.lost (.int .i64 n) w4 F2 lv) := by
              intro c0 c1 lv w3 w4 o hr hbx hin hnw hot hot2
              have h2 := HX3.out
              have hs3 := hot.size
              simp at hs3
              have hne : ∀ k, lv.ownBlock = some k → w2.heap.size < k := fun j hj => by have := hnw j hj; simp at this; omega
              rw [hr]
              refine ⟨rfl, hbx, Seg.oth hin hot2 (fun j hj e => by have := hne j hj; omega), ?_, ?_, ?_, ?_⟩
              · intro j hj
                have h1 := hne j hj
                exact ⟨by omega, fun hf => by have := HM.out.low HP2.out j hf; omega, by omega⟩
              · refine HM.out.kept HP2.out (fun j hj => ?_)
                have h3 := HM.out.low HP2.out j hj
                have h4 : j ≠ wr.heap.size + 1 := by
                  rcases HF2.out j hj with h | h
                  · have := HLOW j h; omega
                  · omega
                rw [hot2.block j (by omega) h4, hot.block j (by simp; omega) h4]
                exact Below.heap_alloc _ _ _ h3
              · intro j hj
                rcases HF2.out j hj with h | h
                · exact ⟨Or.inl h, by have := HLOW j h; omega⟩
                · exact ⟨Or.inr (by omega), by omega⟩
              · exact (((HO2.out.alloc o).trans' hot (fun j e hj => by omega)).trans' hot2 (fun j e hj => by omega))
            cases ok2 with
            | true =>
              go_wp2_with (go_at_call 19; refine (HL1.out _).mono ?_; rintro e w3 ⟨rfl, lv, hbx, hin, hnw, hot⟩; obtain ⟨⟨z0, z1, z2, z3, z4, z5⟩, y0, y1, y2, y3, y4, y5⟩ := six hbx; obtain ⟨hs1, hz⟩ := after_ot' hot (by omega); obtain ⟨⟨q0, q1, q2, q3, q4, q5⟩, p0, p1, p2, p3, p4, p5⟩ := six hz)
              go_region
              all_goals
                go_wp2
                go_meet
                case rel => exact ⟨F2, lv, HREL.out HRR0.out (hbx.two _ _) hin hnw hot (by repeat' (first | with_reducible exact Ot.refl _ _ | with_reducible refine Ot.drew ?_ | with_reducible refine Ot.setCell ?_ (by simp) _))⟩
            | false =>
              go_wp2_with (go_at_call 19; refine (HL1.out _).mono ?_; rintro e w3 ⟨rfl, lv, hbx, hin, hnw, hot⟩)
              go_meet
              case rel => exact ⟨F2, lv, HREL.out HRR0.out hbx hin hnw hot (Ot.refl _ _)⟩
          · have HW1 : Hid (¬ st.what = 1) := hw1
            have hw3 : (st.what == 1) = false := by simpa using hw1
            clear hw1
            go_wp2_with fail
            refine (HM.out.cW (t := nowAt 0 xs k) (n := n) st.lt (HF1.out _ _) HR.out.inv (by omega) (by omega) (by omega) (by omega)).mono ?_
            rintro e w2 ⟨F2, rfl, ha2, hf2, ho2⟩
            obtain ⟨x1, x2, x3⟩ := box_after HLOW ho2
            have HRR0 : Hid (r = (((M.when s st.lt).1, n), ⟨-1, 0, if (M.when s st.lt).2.2 then (M.when s st.lt).2.1 else -1, M.len (M.when s st.lt).1, M.bytes (M.when s st.lt).1, []⟩)) := by show r = _; rw [← HSQ.out]; simp only [stepQ, if_neg HW.out, if_neg HW1.out]
            generalize M.when s st.lt = Tk at *
            obtain ⟨s2, a2, ok2⟩ := Tk
            have HX1 : Hid (Bx w2 (wr.heap.size + 1) (.int .i64 (-1)) (.int .i64 0) (.int .i64 (-1)) (.int .i64 0) (.int .i64 0) (.slice none 0 0)) := x1
            have HP2 : Hid (M.At w2 F2 s2) := ha2
            have HF2 : Hid (∀ k, F2 k → F k ∨ wr.heap.size + 2 ≤ k) := fun j hj => by have := hf2 j hj; simpa using this
            have HO2 : Hid (Ot F wr w2) := (Ot.two wr _ _).trans ho2
            have HX3 : Hid (wr.heap.size + 2 ≤ w2.heap.size) := x3
            have hx3 : wr.heap.size + 1 < w2.heap.size := by omega
            obtain ⟨⟨z0, z1, z2, z3, z4, z5⟩, y0, y1, y2, y3, y4, y5⟩ := six x1
            clear ha2 hf2 ho2 x1 x2 x3
            have HREL : Hid (∀ {c2 : Int} {w4 : World}, r = ((s2, n), ⟨-1, 0, c2, M.len s2, M.bytes s2, []⟩) → Bx w4 (wr.heap.size + 1) (.int .i64 (-1)) (.int .i64 0) (.int .i64 c2) (.int .i64 0) (.int .i64 0) (.slice none 0 0) → Ot (· = wr.heap.size + 1) w2 w4 → MidQ M wr F (wr.heap.size + 1) r.1.1 r.1.2 r.2.taken r.2.mark r.2.when r.2.lost (.int .i64 n) w4 F2 (.slice none 0 0)) := by
              intro c2 w4 hr hbx hot2
              rw [hr]
              refine ⟨rfl, hbx, Ins.nil _, fun j hj => by simp [Value.ownBlock] at hj, ?_, ?_, ?_⟩
              · refine HM.out.kept HP2.out (fun j hj => hot2.block j (HM.out.low HP2.out j hj) (fun e => ?_))
                rcases HF2.out j hj with h | h
                · have := HLOW j h; omega
                · omega
              · intro j hj
                rcases HF2.out j hj with h | h
                · exact ⟨Or.inl h, by have := HLOW j h; omega⟩
                · exact ⟨Or.inr (by omega), by omega⟩
              · exact HO2.out.trans' hot2 (fun j e hj => by omega)
            cases ok2 with
            | true =>
              go_wp2
              go_meet
              case rel => exact ⟨F2, _, HREL.out HRR0.out (HX1.out.third _) (Ot.setCell (S := (· = wr.heap.size + 1)) (p := ⟨wr.heap.size + 1, 2, none⟩) (Ot.refl _ _) (Or.inl rfl) _)⟩
            | false =>
              go_wp2
              go_meet
              case rel => exact ⟨F2, _, HREL.out HRR0.out HX1.out (Ot.refl _ _)⟩
      case rest =>
      obtain ⟨F2, lv, hmid⟩ := hcut
      have HMID : Hid (MidQ M wr F (wr.heap.size + 1) r.1.1 r.1.2 r.2.taken r.2.mark r.2.when r.2.lost u6 wc F2 lv) := hmid
      obtain ⟨hI2, hn2⟩ := stepQ_inv HM.out HR.out.inv (st := st) (by omega) (by omega) (by omega) HOK.out (by rw [HAT.out, HLT.out]) (by omega)
      obtain ⟨hL2, hB2⟩ := stepQ_len M s n st
      rw [HSQ.out] at hI2 hn2 hL2 hB2
      have HI2 : Hid (M.inv st.lt r.1.2 r.1.1) := hI2
      have HL2 : Hid (r.2.len = M.len r.1.1) := hL2
      have HB2 : Hid (r.2.bytes = M.bytes r.1.1) := hB2
      have hu6 := hmid.num
      subst hu6
      have hxl := lt_of_block hmid.box
      clear hmid hI2 hL2 hB2
      go_wp2_with fail
      refine (HM.out.cL HMID.out.pos HI2.out (by omega)).mono ?_
      rintro e w3 ⟨rfl, hb3⟩
      rw [← HL2.out]
      go_wp2_with fail
      have hp3 : M.At w3 F2 r.1.1 := HM.out.kept HMID.out.pos (fun j hj => hb3.block j (HM.out.low HMID.out.pos j hj))
      refine (HM.out.cB hp3 HI2.out (by omega)).mono ?_
      rintro e w4 ⟨rfl, hb4⟩
      rw [← HB2.out]
      have hb34 : Below wc.heap.size wc w4 := hb3.trans (hb4.mono hb3.size)
      obtain ⟨⟨z0, z1, z2, z3, z4, z5⟩, y0, y1, y2, y3, y4, y5⟩ := six ((hb34.block _ hxl).trans HMID.out.box)
      have hx4 : wr.heap.size + 1 < w4.heap.size := Nat.lt_of_lt_of_le hxl hb34.size
      have HB34 : Hid (Below wc.heap.size wc w4) := hb34
      have HSG : Hid (Seg w4 42 6 u5 k (flt Sn.cs ((Psn M s0 (timesL 0 xs) k).zip us))) := by
        have h1 := HR.out.seen.row
        rw [Psn_length (by rw [timesL_length, HN.out]; exact hk)] at h1
        refine Seg.oth (S := F) h1 (HMID.out.ot.then_below (hb34.mono HMID.out.ot.size)) (fun b hb => (HR.out.seen.new b hb).2)
      have HSE : Hid (∀ b, u5.ownBlock = some b → b ≠ wr.heap.size + 1) := fun b hb e => by have := HR.out.seen.row.lt hb; omega
      have hlv : lv.oneCell' = true := by
        rcases HMID.out.ints.form with ⟨h, _⟩ | ⟨_, _, _, h, _⟩ <;> rw [h] <;> rfl
      clear hb3 hb4 hp3 hb34
      go_wp2_with (at_builtin; refine wpList_append_seg _ rfl (.tmp 78) (.tmp 80) 30 rfl 42 i0 _ 6 64 Tryd.underlying30 hi hz0 hz1 hz2 rfl (by decide) _ _ _ rfl (Seg.alloc ((HSG.out.setCell (p := ⟨wr.heap.size + 1, 3, none⟩) (fun e => HSE.out _ e rfl) _).setCell (p := ⟨wr.heap.size + 1, 4, none⟩) (fun e => HSE.out _ e rfl) _) _) _ 1 1 _ rfl rfl (news_of (new_block_ (by simp))) (one6 hlv) (by decide) (by unfold maxLen; omega) (by omega) _ rfl ?_; intro g goff gcap w5 hs5 hg5 ha5 hl5)
      go_roundw
      case rel =>
        refine ⟨k + 1, r.1.2, r.1.1, F2, us ++ [lv], by omega, by go_num, rfl, ?_⟩
        refine play_next HM.out HR.out HST.out (by rw [HT.out, HLT.out]) (by rw [HN.out]; exact hk) HSQ.out HI2.out HMID.out HB34.out hs5 hg5 ?_
        rcases ha5 with h | h
        · exact Or.inl h
        · right
          have := HB34.out.size
          simp at h
          omega
      case measure => simp [intOf]; omega
    · obtain rfl : k = q := by omega
      go_wp2
      go_ret
      have := HR.out.seen
      rw [show Psn M s0 (timesL 0 xs) k = playFrom M s0 0 (timesL 0 xs) by rw [← Psn_all, timesL_length, HN.out]] at this
      exact ⟨u5, us, F, rfl, this, HR.out.ot⟩
end Go.Proofs.YtpgdocmpbeabpaaDoor
