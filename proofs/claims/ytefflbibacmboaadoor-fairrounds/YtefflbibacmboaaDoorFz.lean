/-
  fair.Rounds: what Put does. Conditions: they lie in memory; the packet may be; numbers within bounds.
  fair.Rounds: what Len, Bytes, When and Credit tell. Conditions: they lie in memory; few packets.
-/
import Derived.Test.YtefflbibacmboaaDoorFy
namespace Go.Proofs.YtefflbibacmboaaDoor
open Go.RowKit Go.Extern.Stop Go.Stop Go.Extern

/-- What Put leaves, and what it throws away. -/
def putW (room : Int) (s : RnS) (x : Hd) : RnS × List Hd :=
  if x.ok = true ∧ ¬ room ≤ ((s.fl x.f.toNat).length : Int) then
    ({ fl := updF s.fl x.f.toNat (s.fl x.f.toNat ++ [x]), cr := if (s.fl x.f.toNat).isEmpty then updF s.cr x.f.toNat 0 else s.cr, tn := if (s.fl x.f.toNat).isEmpty then s.tn ++ [x.f] else s.tn, bg := s.bg }, [])
  else (s, [x])
theorem ok_flow {x : Hd} (h : x.ok = true) : 0 ≤ x.f ∧ x.f ≤ 15 := by
  simp only [Hd.ok, It.ok, Bool.and_eq_true, wth_iff] at h
  omega
/-- What a Put leaves. -/
structure RnT (w : World) (b : Nat) (room : Int) (q : Nat → Int) (vs : Nat → Value) (tv : Value) (p : RnS × List Hd) (u : Value) (w' : World) (C' : Nat → Value) (vs' : Nat → Value) (tv' : Value) : Prop where
  lost : Hs w' u p.2
  new : ∀ k, u.ownBlock = some k → w.heap.size ≤ k
  pos : RnO w b room q vs tv p.1 w' C' vs' tv'
set_option maxRecDepth 20000 in
set_option maxHeartbeats 8000000 in
theorem rpt_any {b : Nat} {room : Int} {q : Nat → Int} {C : Nat → Value} {vs : Nat → Value} {tv : Value} {s : RnS} (now : Int) (x : Hd) (w : World) (h : RnP w b room q C vs tv s) (hI : RnI q s) (hok : x.ok = true) (hfit : Fit (s.fl x.f.toNat ++ [x])) :
    Calls Tryd.prog 100 #[.pointer (some ⟨b, 0, none⟩), .int .i64 now, x.val] w fun e w' => ∃ u C' vs' tv', e = .returned u ∧ RnT w b room q vs tv (putW room s x) u w' C' vs' tv' := by
  have H : Hid (RnP w b room q C vs tv s) := h
  have hb := h.blk.lt
  obtain ⟨hf0, hf1⟩ := ok_flow hok
  obtain ⟨xa, xl, xf, xb, xm, xn⟩ := x
  obtain ⟨f, hf⟩ : ∃ f : Nat, xf = f := ⟨xf.toNat, by simp only at hf0; omega⟩
  subst hf
  have hf16 : f < 16 := by simp only at hf1; omega
  have HPW : Hid (putW room s ⟨xa, xl, f, xb, xm, xn⟩ = if ¬ room ≤ ((s.fl f).length : Int) then ({ fl := updF s.fl f (s.fl f ++ [⟨xa, xl, f, xb, xm, xn⟩]), cr := if (s.fl f).isEmpty then updF s.cr f 0 else s.cr, tn := if (s.fl f).isEmpty then s.tn ++ [(f : Int)] else s.tn, bg := s.bg }, []) else (s, [⟨xa, xl, f, xb, xm, xn⟩])) := by
    show _ = _
    rw [putW]
    simp [hok]
  have HFIT : Hid (Fit (s.fl f ++ [⟨xa, xl, f, xb, xm, xn⟩])) := by show Fit _; simpa using hfit
  have HTF : Hid (s.tn.length ≤ 1000) := hI.few
  have HLW : Hid (∀ k, RnF b vs tv k → k < w.heap.size) := fun k hk => h.low hk
  have HCK := fun W => check_yes xa xl f xb xm W hok
  obtain ⟨X, hX⟩ : ∃ X : Hd, X = ⟨xa, xl, f, xb, xm, xn⟩ := ⟨_, rfl⟩
  have HXV : Hid (X.val = .agg #[.int .i64 xa, .int .i64 xl, .int .i64 f, .int .i64 xb, .int .i64 xm, .int .i64 xn]) := by show _ = _; rw [hX]; rfl
  have HXC : Hid (X.cs.toArray = #[.int .i64 xa, .int .i64 xl, .int .i64 f, .int .i64 xb, .int .i64 xm, .int .i64 xn]) := by show _ = _; rw [hX]; rfl
  rw [← hX] at HPW HFIT ⊢
  rw [HXV.out]
  clear h hI hfit hX hok hf0 hf1
  go_enter Tryd.func100, Tryd.ntmps100
  go_wp2_with (go_at_call 38; fail)
  refine (HCK _).mono ?_
  rintro e w1 ⟨rfl, hw1⟩
  have hB1 : Below w.heap.size w w1 := by rw [hw1]; exact below_alloc_ (below_alloc_ (Below.refl _ _) _) _
  have hs1 : w.heap.size + 2 = w1.heap.size := by rw [hw1]; simp
  have hx1 : w1.heap[w.heap.size]? = some (.cells #[.int .i64 xa, .int .i64 xl, .int .i64 f, .int .i64 xb, .int .i64 xm, .int .i64 xn] 124 (0, 0)) := by rw [hw1]; exact (Below.heap_alloc _ _ _ (by simp)).trans (new_block w _)
  clear hw1
  have HP1 : Hid (RnP w1 b room q C vs tv s) := H.out.below hB1
  have HO1 : Hid (Ot (RnF b vs tv) w w1) := Ot.of_below hB1
  have HX1 : Hid (w1.heap[w.heap.size]? = some (.cells #[.int .i64 xa, .int .i64 xl, .int .i64 f, .int .i64 xb, .int .i64 xm, .int .i64 xn] 124 (0, 0))) := hx1
  obtain ⟨⟨z0, z1, z2, z3, z4, z5⟩, y0, y1, y2, y3, y4, y5⟩ := six hx1
  obtain ⟨⟨c0, c65, c66⟩, f65, f66⟩ := HP1.out.cells
  have hb1 := HP1.out.blk.lt
  have hw1 := lt_of_block hx1
  have HLN : Hid (∀ n, Calls Tryd.prog 71 #[.pointer (some ⟨b, 33 + f * 2, none⟩)] (w1.drewN n) fun e w' => e = .returned (.int .i64 (s.fl f).length) ∧ w' = w1.drewN n) := fun n => lenO_any _ ((HP1.out.drewN n).list hf16)
  obtain ⟨ln, hln⟩ : ∃ ln, (s.fl f).length = ln := ⟨_, rfl⟩
  have HLL : Hid ((s.fl f).length = ln) := hln
  rw [hln] at HLN HPW
  clear hB1 hx1 hln HCK
  go_wp2
  go_quiet (fail)
  go_wp2
  go_quiet (first | (go_at_call 71; refine (HLN.out _).mono ?_; rintro e w2 ⟨rfl, rfl⟩; exact ⟨rfl, _, rfl⟩))
  by_cases hroom : room ≤ (ln : Int)
  · have hP : putW room s X = (s, [X]) := by rw [HPW.out, if_neg (by omega)]
    have HP : Hid (putW room s X = (s, [X])) := hP
    clear hP
    go_wp2
    go_ret
    rw [HP.out]
    have hO := HO1.out
    have hT : ∀ n (W : World), W = (w1.drewN n).alloc (.cells #[.int .i64 xa, .int .i64 xl, .int .i64 f, .int .i64 xb, .int .i64 xm, .int .i64 xn] 124) → RnT w b room q vs tv (s, [X]) (.slice (some ⟨w1.heap.size, 0, none⟩) 1 1) W C vs tv := by
      rintro n W rfl
      refine ⟨Hs.one ?_, fun k hk => ?_, (HP1.out.drewN n).al _, fun k hk => Or.inl hk, (hO.drewN n).alloc _⟩
      · rw [HXC.out]; exact new_block_ rfl
      · simp [Value.ownBlock] at hk; omega
    first
    | exact ⟨_, C, vs, tv, rfl, hT _ _ rfl⟩
    | exact ⟨_, rfl, C, vs, tv, hT _ _ rfl⟩
  · have hrd : decide (room ≤ (ln : Int)) = false := decide_eq_false hroom
    have HRM : Hid ((ln : Int) < room) := by show _ < _; omega
    have HAD : Hid (∀ (W : World) (s' : RnS) (C' : Nat → Value) (vs' : Nat → Value) (tv' : Value), RnP W b room q C' vs' tv' s' → s'.fl f = s.fl f → Calls Tryd.prog 80 #[.pointer (some ⟨b, 33 + f * 2, none⟩), .agg #[.int .i64 xa, .int .i64 xl, .int .i64 f, .int .i64 xb, .int .i64 xm, .int .i64 xn]] W fun e w' => e = .returned (.tuple #[]) ∧ ∃ v', RnO W b room q vs' tv' { s' with fl := updF s'.fl f (s.fl f ++ [X]) } w' (updL C' (33 + f * 2) v' (s.fl f ++ [X])) (updF vs' f v') tv') := by
      intro W s' C' vs' tv' hW hs'
      have hl := hW.list hf16
      rw [hs'] at hl
      have h1 := addO_any X W hl HFIT.out
      rw [HXV.out] at h1
      refine h1.mono ?_
      rintro e w' ⟨rfl, v', hl', hk', ho'⟩
      exact ⟨rfl, v', rno_listed hW hf16 hl' hk' ho'⟩
    rcases Nat.eq_zero_or_pos ln with h0 | h0
    · have he : s.fl f = [] := List.eq_nil_of_length_eq_zero (by rw [HLL.out]; exact h0)
      have HPE : Hid (putW room s X = ({ fl := updF s.fl f (s.fl f ++ [X]), cr := updF s.cr f 0, tn := s.tn ++ [(f : Int)], bg := s.bg }, [])) := by
        show _ = _
        rw [HPW.out, if_pos (by omega), he]
        rfl
      have HJ : Hid (∀ W : World, RnP W b room q C vs tv s → Calls Tryd.prog 105 #[.pointer (some ⟨b, 65, none⟩), .int .i64 f] W fun e w' => e = .returned (.tuple #[]) ∧ ∃ tv', TPost W b 67 116 C 65 tv (s.tn ++ [(f : Int)]) w' tv') := fun W hW => join_any (f : Int) W hW.turns HTF.out
      have htl : ∀ k, tv.ownBlock = some k → k < w.heap.size := fun k hk => HLW.out k (Or.inr (Or.inr hk))
      have HTL : Hid (∀ k, tv.ownBlock = some k → k < w.heap.size) := htl
      subst h0
      clear he htl
      go_wp2_with (go_at_call 71; refine (HLN.out _).mono ?_; rintro e w2 ⟨rfl, hw2⟩; subst hw2)
      go_region_with (go_at_call 105; refine Calls.mono (HJ.out _ (by exact HP1.out.kept (fun _ _ => rfl))) ?_; rintro e w2 ⟨rfl, tv2, hp2⟩)
      all_goals
        have hR2 := rno_turned (HP1.out.drewN _) hp2
        have hO2 : Ot (RnF b vs tv) w w2 := (HO1.out.drewN _).trans hR2.ot
        have htl := HTL.out
        have hx2 : w2.heap[w.heap.size]? = _ := (hp2.ot.block w.heap.size (by simpa using hw1) (by rintro (e | e); omega; have := htl _ e; omega)).trans HX1.out
        have HX2 : Hid (w2.heap[w.heap.size]? = some (.cells #[.int .i64 xa, .int .i64 xl, .int .i64 f, .int .i64 xb, .int .i64 xm, .int .i64 xn] 124 (0, 0))) := hx2
        have hR2' : RnO w b room q vs tv { s with tn := s.tn ++ [(f : Int)] } w2 (updC C 65 tv2) vs tv2 := ⟨hR2.pos, fun k hk => by rcases hR2.own k hk with h | h; exact Or.inl h; exact Or.inr (by simp at h; omega), hO2⟩
        have HR2 : Hid (RnO w b room q vs tv { s with tn := s.tn ++ [(f : Int)] } w2 (updC C 65 tv2) vs tv2) := hR2'
        obtain ⟨⟨z0', z1', z2', z3', z4', z5'⟩, y0', y1', y2', y3', y4', y5'⟩ := six hx2
        obtain ⟨d0, d1, d2⟩ := hR2.pos.flow hf16
        have hb2 := hR2.pos.blk.lt
        have hw2 := lt_of_block hx2
        clear hp2 hR2 hO2 htl hx2 hR2'
        go_wp2
        go_region
        go_wp2_with (go_at_call 80; fail)
        refine (HAD.out _ _ _ _ _ ((HR2.out.pos.setC hf16 0).drewN 1) rfl).mono ?_
        rintro e w4 ⟨rfl, v4, hR⟩
        have hR4 := RnO.trans (w1 := ((w2.setCell ⟨b, 17 + f, none⟩ (.int .i64 0)).drewN 1)) ⟨(HR2.out.pos.setC hf16 0).drewN 1, HR2.out.own, Ot.drewN (Ot.setCell HR2.out.ot (Or.inl (Or.inl rfl)) _) 1⟩ hR
        go_wp2
        go_ret
        rw [HPE.out]
        have hT : RnT w b room q vs tv ({ fl := updF s.fl f (s.fl f ++ [X]), cr := updF s.cr f 0, tn := s.tn ++ [(f : Int)], bg := s.bg }, []) (.slice none 0 0) w4 (updL (updC (updC C 65 tv2) (17 + f) (.int .i64 0)) (33 + f * 2) v4 (s.fl f ++ [X])) (updF vs f v4) tv2 := ⟨Hs.nil _, fun k hk => by simp [Value.ownBlock] at hk, hR4⟩
        first
        | exact ⟨_, _, _, _, rfl, hT⟩
        | exact ⟨_, rfl, _, _, _, hT⟩
    · have hie : (s.fl f).isEmpty = false := by
        cases hs : s.fl f with
        | nil => have := HLL.out; rw [hs] at this; simp at this; omega
        | cons y l => rfl
      have HPE : Hid (putW room s X = ({ fl := updF s.fl f (s.fl f ++ [X]), cr := s.cr, tn := s.tn, bg := s.bg }, [])) := by
        show _ = _
        rw [HPW.out, if_pos (by omega), hie]
        rfl
      have h0b : ((ln : Int) == 0) = false := by simp; omega
      clear hie
      go_wp2_with (first | (go_at_call 71; refine (HLN.out _).mono ?_; rintro e w2 ⟨rfl, hw2⟩; subst hw2) | (go_at_call 80; fail))
      refine (HAD.out _ _ _ _ _ (HP1.out.drewN _) rfl).mono ?_
      rintro e w4 ⟨rfl, v4, hR⟩
      have hR4 : RnO w b room q vs tv { s with fl := updF s.fl f (s.fl f ++ [X]) } w4 (updL C (33 + f * 2) v4 (s.fl f ++ [X])) (updF vs f v4) tv := ⟨hR.pos, fun k hk => by rcases hR.own k hk with h | h; exact Or.inl h; exact Or.inr (by simp at h; omega), (HO1.out.drewN _).trans hR.ot⟩
      go_wp2
      go_ret
      rw [HPE.out]
      have hT : RnT w b room q vs tv ({ fl := updF s.fl f (s.fl f ++ [X]), cr := s.cr, tn := s.tn, bg := s.bg }, []) (.slice none 0 0) w4 (updL C (33 + f * 2) v4 (s.fl f ++ [X])) (updF vs f v4) tv := ⟨Hs.nil _, fun k hk => by simp [Value.ownBlock] at hk, hR4⟩
      first
      | exact ⟨_, _, _, _, rfl, hT⟩
      | exact ⟨_, rfl, _, _, _, hT⟩
end Go.Proofs.YtefflbibacmboaaDoor
namespace Go.Proofs.YtefflbibacmboaaDoor
open Go.RowKit Go.Extern.Stop Go.Stop Go.Extern

/-- What waits in the first n lists. -/
def allF (fl : Nat → List Hd) (n : Nat) : List Hd := (List.range n).flatMap fl
theorem allF_succ (fl : Nat → List Hd) (n : Nat) : allF fl (n + 1) = allF fl n ++ fl n := by
  unfold allF
  rw [List.range_succ, List.flatMap_append]
  simp
theorem allF_mono (fl : Nat → List Hd) {k n : Nat} (h : k ≤ n) : (allF fl k).length ≤ (allF fl n).length ∧ (∀ x ∈ allF fl k, x ∈ allF fl n) := by
  induction n with
  | zero => obtain rfl : k = 0 := by omega
            exact ⟨Nat.le_refl _, fun _ hx => hx⟩
  | succ n ih =>
    rcases Nat.lt_or_ge n k with h1 | h1
    · obtain rfl : k = n + 1 := by omega
      exact ⟨Nat.le_refl _, fun _ hx => hx⟩
    · obtain ⟨h2, h3⟩ := ih h1
      rw [allF_succ]
      refine ⟨by simp; omega, fun x hx => by simp [h3 x hx]⟩
set_option maxHeartbeats 1000000 in
theorem packs_any {b N : Nat} {T : TypeId} {C : Nat → Value} {o n : Nat} {vs : Nat → Value} {fl : Nat → List Hd} (w : World) (h : ∀ i, i < n → LO w b N T C (o + i * 2) (vs i) (fl i)) (hn : n ≤ 1000) (hF : Fit (allF fl n)) :
    Calls Tryd.prog 104 #[.slice (some ⟨b, o, none⟩) n n] w fun e w' => e = .returned (.int .i64 (allF fl n).length) ∧ w' = w := by
  have HL : Hid (∀ i, i < n → LO w b N T C (o + i * 2) (vs i) (fl i)) := h
  have HF : Hid (Fit (allF fl n)) := hF
  clear h hF
  go_enter Tryd.func104, Tryd.ntmps104
  go_wp2
  go_loopw [3, 7] (fun a i wr => ∃ k : Nat, k ≤ n ∧ i = .int .i64 k ∧ a = .int .i64 (allF fl k).length ∧ wr = w) (fun _ i _ => n - (intOf i).toNat)
  case atStart => exact ⟨0, Nat.zero_le _, rfl, rfl, rfl⟩
  case round =>
    obtain ⟨k, hk, rfl, rfl, rfl⟩ := hrel
    by_cases hlt : k < n
    · have HQ := lenO_any wr (HL.out k hlt)
      have h1 := (allF_mono fl (show k + 1 ≤ n by omega)).1
      have h2 := HF.out.1
      have HS : Hid (allF fl (k + 1) = allF fl k ++ fl k) := allF_succ fl k
      rw [HS.out, List.length_append] at h1
      obtain ⟨a, ha⟩ : ∃ a, (allF fl k).length = a := ⟨_, rfl⟩
      have HA : Hid ((allF fl k).length = a) := ha
      obtain ⟨c, hc⟩ : ∃ c, (fl k).length = c := ⟨_, rfl⟩
      have HC : Hid ((fl k).length = c) := hc
      rw [ha, hc] at h1
      rw [ha]
      rw [hc] at HQ
      have hac : a + c ≤ 1000000 := by omega
      clear ha hc h1 h2
      go_wp2_with (go_at_call 71; refine HQ.mono ?_; rintro e w2 ⟨rfl, hw2⟩; subst hw2)
      go_roundw
      case rel => exact ⟨k + 1, by omega, by go_num, by rw [HS.out, List.length_append, HA.out, HC.out]; congr 1, by first | rfl | trivial⟩
      case measure => simp [intOf]; omega
    · obtain rfl : k = n := by omega
      go_wp2
      go_ret
      exact ⟨rfl, rfl⟩
set_option maxHeartbeats 1000000 in
theorem bytesF_any {b N : Nat} {T : TypeId} {C : Nat → Value} {o n : Nat} {vs : Nat → Value} {fl : Nat → List Hd} (w : World) (h : ∀ i, i < n → LO w b N T C (o + i * 2) (vs i) (fl i)) (hn : n ≤ 1000) (hF : Fit (allF fl n)) :
    Calls Tryd.prog 103 #[.slice (some ⟨b, o, none⟩) n n] w fun e w' => e = .returned (.int .i64 (sumL (allF fl n))) ∧ w' = w := by
  have HL : Hid (∀ i, i < n → LO w b N T C (o + i * 2) (vs i) (fl i)) := h
  have HF : Hid (Fit (allF fl n)) := hF
  clear h hF
  go_enter Tryd.func103, Tryd.ntmps103
  go_wp2
  go_loopw [3, 7] (fun a i wr => ∃ k : Nat, k ≤ n ∧ i = .int .i64 k ∧ a = .int .i64 (sumL (allF fl k)) ∧ wr = w) (fun _ i _ => n - (intOf i).toNat)
  case atStart => exact ⟨0, Nat.zero_le _, rfl, rfl, rfl⟩
  case round =>
    obtain ⟨k, hk, rfl, rfl, rfl⟩ := hrel
    by_cases hlt : k < n
    · have HQ := bytesO_any wr (HL.out k hlt)
      have HS : Hid (allF fl (k + 1) = allF fl k ++ fl k) := allF_succ fl k
      have h1 := allF_mono fl (show k + 1 ≤ n by omega)
      have h2 := HF.out.1
      rw [HS.out] at h1
      have hb1 := Fit.sum (L := allF fl k) (fun x hx => HF.out.2 x (h1.2 x (by simp [hx])))
      have hb2 := Fit.sum (L := fl k) (fun x hx => HF.out.2 x (h1.2 x (by simp [hx])))
      have h3 := h1.1
      rw [List.length_append] at h3
      obtain ⟨a, ha⟩ : ∃ a, sumL (allF fl k) = a := ⟨_, rfl⟩
      have HA : Hid (sumL (allF fl k) = a) := ha
      obtain ⟨c, hc⟩ : ∃ c, sumL (fl k) = c := ⟨_, rfl⟩
      have HC : Hid (sumL (fl k) = c) := hc
      rw [ha] at hb1 ⊢
      rw [hc] at hb2 HQ
      have hac : 0 ≤ a ∧ a ≤ 10000000000 ∧ 0 ≤ c ∧ c ≤ 10000000000 := by omega
      clear ha hc h1 h2 h3 hb1 hb2
      go_wp2_with (go_at_call 70; refine HQ.mono ?_; rintro e w2 ⟨rfl, hw2⟩; subst hw2)
      go_roundw
      case rel => exact ⟨k + 1, by omega, by go_num, by rw [HS.out, sumL_append, HA.out, HC.out], by first | rfl | trivial⟩
      case measure => simp [intOf]; omega
    · obtain rfl : k = n := by omega
      go_wp2
      go_ret
      exact ⟨rfl, rfl⟩
theorem slice16 (b : Nat) (w : World) : (Instr.sliceAt 113 (.pointer (some ⟨b, 33, none⟩)) none none none).run Tryd.prog w = .ok (.slice (some ⟨b, 33, none⟩) 16 16) w := by kernel_rfl
theorem rlen_any {b : Nat} {room : Int} {q : Nat → Int} {C : Nat → Value} {vs : Nat → Value} {tv : Value} {s : RnS} (w : World) (h : RnP w b room q C vs tv s) (hF : Fit (allF s.fl 16)) :
    Calls Tryd.prog 99 #[.pointer (some ⟨b, 0, none⟩)] w fun e w' => e = .returned (.int .i64 (allF s.fl 16).length) ∧ w' = w := by
  have HQ := packs_any (o := 33) (n := 16) w (fun i hi => h.list hi) (by decide) hF
  have hsl := slice16 b
  have hb := h.blk.lt
  clear h
  go_enter Tryd.func99, Tryd.ntmps99
  go_wp2_with (go_at_call 104; refine HQ.mono ?_; rintro e w2 ⟨rfl, hw2⟩; subst hw2)
  go_ret
  exact ⟨rfl, rfl⟩
theorem rbts_any {b : Nat} {room : Int} {q : Nat → Int} {C : Nat → Value} {vs : Nat → Value} {tv : Value} {s : RnS} (w : World) (h : RnP w b room q C vs tv s) (hF : Fit (allF s.fl 16)) :
    Calls Tryd.prog 98 #[.pointer (some ⟨b, 0, none⟩)] w fun e w' => e = .returned (.int .i64 (sumL (allF s.fl 16))) ∧ w' = w := by
  have HQ := bytesF_any (o := 33) (n := 16) w (fun i hi => h.list hi) (by decide) hF
  have hsl := slice16 b
  have hb := h.blk.lt
  clear h
  go_enter Tryd.func98, Tryd.ntmps98
  go_wp2_with (go_at_call 103; refine HQ.mono ?_; rintro e w2 ⟨rfl, hw2⟩; subst hw2)
  go_ret
  exact ⟨rfl, rfl⟩
theorem twhen_any {tv : Value} {l : List Int} (now : Int) (w : World) (h : Ins w tv l) : Calls Tryd.prog 110 #[tv, .int .i64 now] w fun e w' => e = .returned (.tuple #[.int .i64 now, .bool (!l.isEmpty)]) ∧ w' = w := by
  obtain ⟨x, cap, rfl⟩ := Ins.slice h
  have HE : Hid (decide (0 < l.length) = !l.isEmpty) := by
    show _ = _
    cases l <;> simp
  clear h
  go_enter Tryd.func110, Tryd.ntmps110
  go_wp2
  go_ret2
  exact ⟨by rw [← HE.out]; simp, rfl⟩
theorem rwhen_any {b : Nat} {room : Int} {q : Nat → Int} {C : Nat → Value} {vs : Nat → Value} {tv : Value} {s : RnS} (now : Int) (w : World) (h : RnP w b room q C vs tv s) :
    Calls Tryd.prog 102 #[.pointer (some ⟨b, 0, none⟩), .int .i64 now] w fun e w' => e = .returned (.tuple #[.int .i64 now, .bool (!s.tn.isEmpty)]) ∧ w' = w := by
  have HQ := twhen_any now w h.trow
  obtain ⟨⟨c0, c65, c66⟩, f65, f66⟩ := h.cells
  have hb := h.blk.lt
  obtain ⟨x, cap, hx⟩ := Ins.slice h.trow
  clear h
  subst hx
  go_enter Tryd.func102, Tryd.ntmps102
  go_wp2_with (go_at_call 110; refine HQ.mono ?_; rintro e w2 ⟨rfl, hw2⟩; subst hw2)
  go_ret2
  exact ⟨rfl, rfl⟩
theorem rcred_any {b : Nat} {room : Int} {q : Nat → Int} {C : Nat → Value} {vs : Nat → Value} {tv : Value} {s : RnS} (f : Nat) (hf : f < 16) (w : World) (h : RnP w b room q C vs tv s) :
    Calls Tryd.prog 18 #[.pointer (some ⟨b, 0, none⟩), .int .i64 f] w fun e w' => e = .returned (.int .i64 (s.cr f)) ∧ w' = w := by
  obtain ⟨d0, d1, d2⟩ := h.flow hf
  have hb := h.blk.lt
  clear h
  go_enter Tryd.func18, Tryd.ntmps18
  go_wp2
  go_ret
  exact ⟨rfl, rfl⟩
end Go.Proofs.YtefflbibacmboaaDoor
