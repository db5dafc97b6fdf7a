/-
  fair.Rounds: what Put does. Conditions: they lie in memory; the packet may be; numbers within bounds.
  fair.Rounds: what Len, Bytes, When and Credit tell. Conditions: they lie in memory; few packets.
  queue.List's Last, of a list that lies at a cell of a block; fair.Hashed's state and Where. Conditions: few packets, none of them long.
  fair.Hashed: its state, how it lies in memory, and what is left of it when a list or the row of turns is another one; Where. (mkhb.py writes this out of Fd and Fe, but for Where.)
-/
import Derived.Test.YtfakjedolecdcaaGreatDoorU28
import Derived.BigQuiet
namespace Go.Proofs.YtfakjedolecdcaaGreatDoor
open Go.RowKit Go.Extern.Stop Go.Stop Go.Extern

/-- What Put leaves, and what it throws away. -/
def putW (room : Int) (s : RnS) (x : Hd) : RnS × List Hd :=
  if x.ok = true ∧ ¬ room ≤ ((s.fl x.f.toNat).length : Int) then
    ({ fl := updF s.fl x.f.toNat (s.fl x.f.toNat ++ [x]), cr := if (s.fl x.f.toNat).isEmpty then updF s.cr x.f.toNat 0 else s.cr, tn := if (s.fl x.f.toNat).isEmpty then s.tn ++ [x.f] else s.tn, bg := s.bg }, [])
  else (s, [x])
theorem ok_flow {x : Hd} (h : x.ok = true) : 0 ≤ x.f ∧ x.f ≤ 15 := by
  simp only [Hd.ok, It.ok, Bool.and_eq_true, wth_iff] at h
  omega
/-- What a Put leaves. -/
structure RnT (w : World) (b : Nat) (room : Int) (q : Nat → Int) (vs : Nat → Value) (tv : Value) (p : RnS × List Hd) (u : Value) (w' : World) (C' : Nat → Value) (vs' : Nat → Value) (tv' : Value) : Prop where
  lost : Hs w' u p.2
  new : ∀ k, u.ownBlock = some k → w.heap.size ≤ k
  pos : RnO w b room q vs tv p.1 w' C' vs' tv'
set_option maxRecDepth 20000 in
set_option maxHeartbeats 8000000 in
theorem rpt_any {b : Nat} {room : Int} {q : Nat → Int} {C : Nat → Value} {vs : Nat → Value} {tv : Value} {s : RnS} (now : Int) (x : Hd) (w : World) (h : RnP w b room q C vs tv s) (hI : RnI q s) (hok : x.ok = true) (hfit : Fit (s.fl x.f.toNat ++ [x])) :
    Calls Tryz.prog 180 #[.pointer (some ⟨b, 0, none⟩), .int .i64 now, x.val] w fun e w' => ∃ u C' vs' tv', e = .returned u ∧ RnT w b room q vs tv (putW room s x) u w' C' vs' tv' := by
  have H : Hid (RnP w b room q C vs tv s) := h
  have hb := h.blk.lt
  obtain ⟨hf0, hf1⟩ := ok_flow hok
  obtain ⟨xa, xl, xf, xb, xm, xn⟩ := x
  obtain ⟨f, hf⟩ : ∃ f : Nat, xf = f := ⟨xf.toNat, by simp only at hf0; omega⟩
  subst hf
  have hf16 : f < 16 := by simp only at hf1; omega
  have HPW : Hid (putW room s ⟨xa, xl, f, xb, xm, xn⟩ = if ¬ room ≤ ((s.fl f).length : Int) then ({ fl := updF s.fl f (s.fl f ++ [⟨xa, xl, f, xb, xm, xn⟩]), cr := if (s.fl f).isEmpty then updF s.cr f 0 else s.cr, tn := if (s.fl f).isEmpty then s.tn ++ [(f : Int)] else s.tn, bg := s.bg }, []) else (s, [⟨xa, xl, f, xb, xm, xn⟩])) := by
    show _ = _
    rw [putW]
    simp [hok]
  have HFIT : Hid (Fit (s.fl f ++ [⟨xa, xl, f, xb, xm, xn⟩])) := by show Fit _; simpa using hfit
  have HTF : Hid (s.tn.length ≤ 1000) := hI.few
  have HLW : Hid (∀ k, RnF b vs tv k → k < w.heap.size) := fun k hk => h.low hk
  have HCK := fun W => check_yes xa xl f xb xm W hok
  obtain ⟨X, hX⟩ : ∃ X : Hd, X = ⟨xa, xl, f, xb, xm, xn⟩ := ⟨_, rfl⟩
  have HXV : Hid (X.val = .agg #[.int .i64 xa, .int .i64 xl, .int .i64 f, .int .i64 xb, .int .i64 xm, .int .i64 xn]) := by show _ = _; rw [hX]; rfl
  have HXC : Hid (X.cs.toArray = #[.int .i64 xa, .int .i64 xl, .int .i64 f, .int .i64 xb, .int .i64 xm, .int .i64 xn]) := by show _ = _; rw [hX]; rfl
  rw [← hX] at HPW HFIT ⊢
  rw [HXV.out]
  clear h hI hfit hX hok hf0 hf1
  go_enter Tryz.func180, Tryz.ntmps180
  go_wp2_with (go_at_call 38; fail)
  refine (HCK _).mono ?_
  rintro e w1 ⟨rfl, hw1⟩
  have hB1 : Below w.heap.size w w1 := by rw [hw1]; exact below_alloc_ (below_alloc_ (Below.refl _ _) _) _
  have hs1 : w.heap.size + 2 = w1.heap.size := by rw [hw1]; simp
  have hx1 : w1.heap[w.heap.size]? = some (.cells #[.int .i64 xa, .int .i64 xl, .int .i64 f, .int .i64 xb, .int .i64 xm, .int .i64 xn] 76 (0, 0)) := by rw [hw1]; exact (Below.heap_alloc _ _ _ (by simp)).trans (new_block w _)
  clear hw1
  have HP1 : Hid (RnP w1 b room q C vs tv s) := H.out.below hB1
  have HO1 : Hid (Ot (RnF b vs tv) w w1) := Ot.of_below hB1
  have HX1 : Hid (w1.heap[w.heap.size]? = some (.cells #[.int .i64 xa, .int .i64 xl, .int .i64 f, .int .i64 xb, .int .i64 xm, .int .i64 xn] 76 (0, 0))) := hx1
  obtain ⟨⟨z0, z1, z2, z3, z4, z5⟩, y0, y1, y2, y3, y4, y5⟩ := six hx1
  obtain ⟨⟨c0, c65, c66⟩, f65, f66⟩ := HP1.out.cells
  have hb1 := HP1.out.blk.lt
  have hw1 := lt_of_block hx1
  have HLN : Hid (∀ n, Calls Tryz.prog 139 #[.pointer (some ⟨b, 33 + f * 2, none⟩)] (w1.drewN n) fun e w' => e = .returned (.int .i64 (s.fl f).length) ∧ w' = w1.drewN n) := fun n => lenO_any _ ((HP1.out.drewN n).list hf16)
  obtain ⟨ln, hln⟩ : ∃ ln, (s.fl f).length = ln := ⟨_, rfl⟩
  have HLL : Hid ((s.fl f).length = ln) := hln
  rw [hln] at HLN HPW
  clear hB1 hx1 hln HCK
  go_wp2
  go_quiet (fail)
  go_wp2
  go_quiet (first | (go_at_call 139; refine (HLN.out _).mono ?_; rintro e w2 ⟨rfl, rfl⟩; exact ⟨rfl, _, rfl⟩))
  by_cases hroom : room ≤ (ln : Int)
  · have hP : putW room s X = (s, [X]) := by rw [HPW.out, if_neg (by omega)]
    have HP : Hid (putW room s X = (s, [X])) := hP
    clear hP
    go_wp2
    go_ret
    rw [HP.out]
    have hO := HO1.out
    have hT : ∀ n (W : World), W = (w1.drewN n).alloc (.cells #[.int .i64 xa, .int .i64 xl, .int .i64 f, .int .i64 xb, .int .i64 xm, .int .i64 xn] 76) → RnT w b room q vs tv (s, [X]) (.slice (some ⟨w1.heap.size, 0, none⟩) 1 1) W C vs tv := by
      rintro n W rfl
      refine ⟨Hs.one ?_, fun k hk => ?_, (HP1.out.drewN n).al _, fun k hk => Or.inl hk, (hO.drewN n).alloc _⟩
      · rw [HXC.out]; exact new_block_ rfl
      · simp [Value.ownBlock] at hk; omega
    first
    | exact ⟨_, C, vs, tv, rfl, hT _ _ rfl⟩
    | exact ⟨_, rfl, C, vs, tv, hT _ _ rfl⟩
  · have hrd : decide (room ≤ (ln : Int)) = false := decide_eq_false hroom
    have HRM : Hid ((ln : Int) < room) := by show _ < _; omega
    have HAD : Hid (∀ (W : World) (s' : RnS) (C' : Nat → Value) (vs' : Nat → Value) (tv' : Value), RnP W b room q C' vs' tv' s' → s'.fl f = s.fl f → Calls Tryz.prog 143 #[.pointer (some ⟨b, 33 + f * 2, none⟩), .agg #[.int .i64 xa, .int .i64 xl, .int .i64 f, .int .i64 xb, .int .i64 xm, .int .i64 xn]] W fun e w' => e = .returned (.tuple #[]) ∧ ∃ v', RnO W b room q vs' tv' { s' with fl := updF s'.fl f (s.fl f ++ [X]) } w' (updL C' (33 + f * 2) v' (s.fl f ++ [X])) (updF vs' f v') tv') := by
      intro W s' C' vs' tv' hW hs'
      have hl := hW.list hf16
      rw [hs'] at hl
      have h1 := addO_any X W hl HFIT.out
      rw [HXV.out] at h1
      refine h1.mono ?_
      rintro e w' ⟨rfl, v', hl', hk', ho'⟩
      exact ⟨rfl, v', rno_listed hW hf16 hl' hk' ho'⟩
    rcases Nat.eq_zero_or_pos ln with h0 | h0
    · have he : s.fl f = [] := List.eq_nil_of_length_eq_zero (by rw [HLL.out]; exact h0)
      have HPE : Hid (putW room s X = ({ fl := updF s.fl f (s.fl f ++ [X]), cr := updF s.cr f 0, tn := s.tn ++ [(f : Int)], bg := s.bg }, [])) := by
        show _ = _
        rw [HPW.out, if_pos (by omega), he]
        rfl
      have HJ : Hid (∀ W : World, RnP W b room q C vs tv s → Calls Tryz.prog 168 #[.pointer (some ⟨b, 65, none⟩), .int .i64 f] W fun e w' => e = .returned (.tuple #[]) ∧ ∃ tv', TPost W b 67 164 C 65 tv (s.tn ++ [(f : Int)]) w' tv') := fun W hW => join_any (f : Int) W hW.turns HTF.out
      have htl : ∀ k, tv.ownBlock = some k → k < w.heap.size := fun k hk => HLW.out k (Or.inr (Or.inr hk))
      have HTL : Hid (∀ k, tv.ownBlock = some k → k < w.heap.size) := htl
      subst h0
      clear he htl
      go_wp2_with (go_at_call 139; refine (HLN.out _).mono ?_; rintro e w2 ⟨rfl, hw2⟩; subst hw2)
      go_region_with (go_at_call 168; refine Calls.mono (HJ.out _ (by exact HP1.out.kept (fun _ _ => rfl))) ?_; rintro e w2 ⟨rfl, tv2, hp2⟩)
      all_goals
        have hR2 := rno_turned (HP1.out.drewN _) hp2
        have hO2 : Ot (RnF b vs tv) w w2 := (HO1.out.drewN _).trans hR2.ot
        have htl := HTL.out
        have hx2 : w2.heap[w.heap.size]? = _ := (hp2.ot.block w.heap.size (by simpa using hw1) (by rintro (e | e); omega; have := htl _ e; omega)).trans HX1.out
        have HX2 : Hid (w2.heap[w.heap.size]? = some (.cells #[.int .i64 xa, .int .i64 xl, .int .i64 f, .int .i64 xb, .int .i64 xm, .int .i64 xn] 76 (0, 0))) := hx2
        have hR2' : RnO w b room q vs tv { s with tn := s.tn ++ [(f : Int)] } w2 (updC C 65 tv2) vs tv2 := ⟨hR2.pos, fun k hk => by rcases hR2.own k hk with h | h; exact Or.inl h; exact Or.inr (by simp at h; omega), hO2⟩
        have HR2 : Hid (RnO w b room q vs tv { s with tn := s.tn ++ [(f : Int)] } w2 (updC C 65 tv2) vs tv2) := hR2'
        obtain ⟨⟨z0', z1', z2', z3', z4', z5'⟩, y0', y1', y2', y3', y4', y5'⟩ := six hx2
        obtain ⟨d0, d1, d2⟩ := hR2.pos.flow hf16
        have hb2 := hR2.pos.blk.lt
        have hw2 := lt_of_block hx2
        clear hp2 hR2 hO2 htl hx2 hR2'
        go_wp2
        go_region
        go_wp2_with (go_at_call 143; fail)
        refine (HAD.out _ _ _ _ _ ((HR2.out.pos.setC hf16 0).drewN 1) rfl).mono ?_
        rintro e w4 ⟨rfl, v4, hR⟩
        have hR4 := RnO.trans (w1 := ((w2.setCell ⟨b, 17 + f, none⟩ (.int .i64 0)).drewN 1)) ⟨(HR2.out.pos.setC hf16 0).drewN 1, HR2.out.own, Ot.drewN (Ot.setCell HR2.out.ot (Or.inl (Or.inl rfl)) _) 1⟩ hR
        go_wp2
        go_ret
        rw [HPE.out]
        have hT : RnT w b room q vs tv ({ fl := updF s.fl f (s.fl f ++ [X]), cr := updF s.cr f 0, tn := s.tn ++ [(f : Int)], bg := s.bg }, []) (.slice none 0 0) w4 (updL (updC (updC C 65 tv2) (17 + f) (.int .i64 0)) (33 + f * 2) v4 (s.fl f ++ [X])) (updF vs f v4) tv2 := ⟨Hs.nil _, fun k hk => by simp [Value.ownBlock] at hk, hR4⟩
        first
        | exact ⟨_, _, _, _, rfl, hT⟩
        | exact ⟨_, rfl, _, _, _, hT⟩
    · have hie : (s.fl f).isEmpty = false := by
        cases hs : s.fl f with
        | nil => have := HLL.out; rw [hs] at this; simp at this; omega
        | cons y l => rfl
      have HPE : Hid (putW room s X = ({ fl := updF s.fl f (s.fl f ++ [X]), cr := s.cr, tn := s.tn, bg := s.bg }, [])) := by
        show _ = _
        rw [HPW.out, if_pos (by omega), hie]
        rfl
      have h0b : ((ln : Int) == 0) = false := by simp; omega
      clear hie
      go_wp2_with (first | (go_at_call 139; refine (HLN.out _).mono ?_; rintro e w2 ⟨rfl, hw2⟩; subst hw2) | (go_at_call 143; fail))
      refine (HAD.out _ _ _ _ _ (HP1.out.drewN _) rfl).mono ?_
      rintro e w4 ⟨rfl, v4, hR⟩
      have hR4 : RnO w b room q vs tv { s with fl := updF s.fl f (s.fl f ++ [X]) } w4 (updL C (33 + f * 2) v4 (s.fl f ++ [X])) (updF vs f v4) tv := ⟨hR.pos, fun k hk => by rcases hR.own k hk with h | h; exact Or.inl h; exact Or.inr (by simp at h; omega), (HO1.out.drewN _).trans hR.ot⟩
      go_wp2
      go_ret
      rw [HPE.out]
      have hT : RnT w b room q vs tv ({ fl := updF s.fl f (s.fl f ++ [X]), cr := s.cr, tn := s.tn, bg := s.bg }, []) (.slice none 0 0) w4 (updL C (33 + f * 2) v4 (s.fl f ++ [X])) (updF vs f v4) tv := ⟨Hs.nil _, fun k hk => by simp [Value.ownBlock] at hk, hR4⟩
      first
      | exact ⟨_, _, _, _, rfl, hT⟩
      | exact ⟨_, rfl, _, _, _, hT⟩
end Go.Proofs.YtfakjedolecdcaaGreatDoor
namespace Go.Proofs.YtfakjedolecdcaaGreatDoor
open Go.RowKit Go.Extern.Stop Go.Stop Go.Extern

/-- What waits in the first n lists. -/
def allF (fl : Nat → List Hd) (n : Nat) : List Hd := (List.range n).flatMap fl
theorem allF_succ (fl : Nat → List Hd) (n : Nat) : allF fl (n + 1) = allF fl n ++ fl n := by
  unfold allF
  rw [List.range_succ, List.flatMap_append]
  simp
theorem allF_mono (fl : Nat → List Hd) {k n : Nat} (h : k ≤ n) : (allF fl k).length ≤ (allF fl n).length ∧ (∀ x ∈ allF fl k, x ∈ allF fl n) := by
  induction n with
  | zero => obtain rfl : k = 0 := by omega
            exact ⟨Nat.le_refl _, fun _ hx => hx⟩
  | succ n ih =>
    rcases Nat.lt_or_ge n k with h1 | h1
    · obtain rfl : k = n + 1 := by omega
      exact ⟨Nat.le_refl _, fun _ hx => hx⟩
    · obtain ⟨h2, h3⟩ := ih h1
      rw [allF_succ]
      refine ⟨by simp; omega, fun x hx => by simp [h3 x hx]⟩
set_option maxHeartbeats 1000000 in
theorem packs_any {b N : Nat} {T : TypeId} {C : Nat → Value} {o n : Nat} {vs : Nat → Value} {fl : Nat → List Hd} (w : World) (h : ∀ i, i < n → LO w b N T C (o + i * 2) (vs i) (fl i)) (hn : n ≤ 1000) (hF : Fit (allF fl n)) :
    Calls Tryz.prog 166 #[.slice (some ⟨b, o, none⟩) n n] w fun e w' => e = .returned (.int .i64 (allF fl n).length) ∧ w' = w := by
  have HL : Hid (∀ i, i < n → LO w b N T C (o + i * 2) (vs i) (fl i)) := h
  have HF : Hid (Fit (allF fl n)) := hF
  clear h hF
  go_enter Tryz.func166, Tryz.ntmps166
  go_wp2
  go_loopw [3, 7] (fun a i wr => ∃ k : Nat, k ≤ n ∧ i = .int .i64 k ∧ a = .int .i64 (allF fl k).length ∧ wr = w) (fun _ i _ => n - (intOf i).toNat)
  case atStart => exact ⟨0, Nat.zero_le _, rfl, rfl, rfl⟩
  case round =>
    obtain ⟨k, hk, rfl, rfl, rfl⟩ := hrel
    by_cases hlt : k < n
    · have HQ := lenO_any wr (HL.out k hlt)
      have h1 := (allF_mono fl (show k + 1 ≤ n by omega)).1
      have h2 := HF.out.1
      have HS : Hid (allF fl (k + 1) = allF fl k ++ fl k) := allF_succ fl k
      rw [HS.out, List.length_append] at h1
      obtain ⟨a, ha⟩ : ∃ a, (allF fl k).length = a := ⟨_, rfl⟩
      have HA : Hid ((allF fl k).length = a) := ha
      obtain ⟨c, hc⟩ : ∃ c, (fl k).length = c := ⟨_, rfl⟩
      have HC : Hid ((fl k).length = c) := hc
      rw [ha, hc] at h1
      rw [ha]
      rw [hc] at HQ
      have hac : a + c ≤ 1000000 := by omega
      clear ha hc h1 h2
      go_wp2_with (go_at_call 139; refine HQ.mono ?_; rintro e w2 ⟨rfl, hw2⟩; subst hw2)
      go_roundw
      case rel => exact ⟨k + 1, by omega, by go_num, by rw [HS.out, List.length_append, HA.out, HC.out]; congr 1, by first | rfl | trivial⟩
      case measure => simp [intOf]; omega
    · obtain rfl : k = n := by omega
      go_wp2
      go_ret
      exact ⟨rfl, rfl⟩
set_option maxHeartbeats 1000000 in
theorem bytesF_any {b N : Nat} {T : TypeId} {C : Nat → Value} {o n : Nat} {vs : Nat → Value} {fl : Nat → List Hd} (w : World) (h : ∀ i, i < n → LO w b N T C (o + i * 2) (vs i) (fl i)) (hn : n ≤ 1000) (hF : Fit (allF fl n)) :
    Calls Tryz.prog 165 #[.slice (some ⟨b, o, none⟩) n n] w fun e w' => e = .returned (.int .i64 (sumL (allF fl n))) ∧ w' = w := by
  have HL : Hid (∀ i, i < n → LO w b N T C (o + i * 2) (vs i) (fl i)) := h
  have HF : Hid (Fit (allF fl n)) := hF
  clear h hF
  go_enter Tryz.func165, Tryz.ntmps165
  go_wp2
  go_loopw [3, 7] (fun a i wr => ∃ k : Nat, k ≤ n ∧ i = .int .i64 k ∧ a = .int .i64 (sumL (allF fl k)) ∧ wr = w) (fun _ i _ => n - (intOf i).toNat)
  case atStart => exact ⟨0, Nat.zero_le _, rfl, rfl, rfl⟩
  case round =>
    obtain ⟨k, hk, rfl, rfl, rfl⟩ := hrel
    by_cases hlt : k < n
    · have HQ := bytesO_any wr (HL.out k hlt)
      have HS : Hid (allF fl (k + 1) = allF fl k ++ fl k) := allF_succ fl k
      have h1 := allF_mono fl (show k + 1 ≤ n by omega)
      have h2 := HF.out.1
      rw [HS.out] at h1
      have hb1 := Fit.sum (L := allF fl k) (fun x hx => HF.out.2 x (h1.2 x (by simp [hx])))
      have hb2 := Fit.sum (L := fl k) (fun x hx => HF.out.2 x (h1.2 x (by simp [hx])))
      have h3 := h1.1
      rw [List.length_append] at h3
      obtain ⟨a, ha⟩ : ∃ a, sumL (allF fl k) = a := ⟨_, rfl⟩
      have HA : Hid (sumL (allF fl k) = a) := ha
      obtain ⟨c, hc⟩ : ∃ c, sumL (fl k) = c := ⟨_, rfl⟩
      have HC : Hid (sumL (fl k) = c) := hc
      rw [ha] at hb1 ⊢
      rw [hc] at hb2 HQ
      have hac : 0 ≤ a ∧ a ≤ 10000000000 ∧ 0 ≤ c ∧ c ≤ 10000000000 := by omega
      clear ha hc h1 h2 h3 hb1 hb2
      go_wp2_with (go_at_call 138; refine HQ.mono ?_; rintro e w2 ⟨rfl, hw2⟩; subst hw2)
      go_roundw
      case rel => exact ⟨k + 1, by omega, by go_num, by rw [HS.out, sumL_append, HA.out, HC.out], by first | rfl | trivial⟩
      case measure => simp [intOf]; omega
    · obtain rfl : k = n := by omega
      go_wp2
      go_ret
      exact ⟨rfl, rfl⟩
theorem slice16 (b : Nat) (w : World) : (Instr.sliceAt 162 (.pointer (some ⟨b, 33, none⟩)) none none none).run Tryz.prog w = .ok (.slice (some ⟨b, 33, none⟩) 16 16) w := by kernel_rfl
theorem rlen_any {b : Nat} {room : Int} {q : Nat → Int} {C : Nat → Value} {vs : Nat → Value} {tv : Value} {s : RnS} (w : World) (h : RnP w b room q C vs tv s) (hF : Fit (allF s.fl 16)) :
    Calls Tryz.prog 179 #[.pointer (some ⟨b, 0, none⟩)] w fun e w' => e = .returned (.int .i64 (allF s.fl 16).length) ∧ w' = w := by
  have HQ := packs_any (o := 33) (n := 16) w (fun i hi => h.list hi) (by decide) hF
  have hsl := slice16 b
  have hb := h.blk.lt
  clear h
  go_enter Tryz.func179, Tryz.ntmps179
  go_wp2_with (go_at_call 166; refine HQ.mono ?_; rintro e w2 ⟨rfl, hw2⟩; subst hw2)
  go_ret
  exact ⟨rfl, rfl⟩
theorem rbts_any {b : Nat} {room : Int} {q : Nat → Int} {C : Nat → Value} {vs : Nat → Value} {tv : Value} {s : RnS} (w : World) (h : RnP w b room q C vs tv s) (hF : Fit (allF s.fl 16)) :
    Calls Tryz.prog 178 #[.pointer (some ⟨b, 0, none⟩)] w fun e w' => e = .returned (.int .i64 (sumL (allF s.fl 16))) ∧ w' = w := by
  have HQ := bytesF_any (o := 33) (n := 16) w (fun i hi => h.list hi) (by decide) hF
  have hsl := slice16 b
  have hb := h.blk.lt
  clear h
  go_enter Tryz.func178, Tryz.ntmps178
  go_wp2_with (go_at_call 165; refine HQ.mono ?_; rintro e w2 ⟨rfl, hw2⟩; subst hw2)
  go_ret
  exact ⟨rfl, rfl⟩
theorem twhen_any {tv : Value} {l : List Int} (now : Int) (w : World) (h : Ins w tv l) : Calls Tryz.prog 173 #[tv, .int .i64 now] w fun e w' => e = .returned (.tuple #[.int .i64 now, .bool (!l.isEmpty)]) ∧ w' = w := by
  obtain ⟨x, cap, rfl⟩ := Ins.slice h
  have HE : Hid (decide (0 < l.length) = !l.isEmpty) := by
    show _ = _
    cases l <;> simp
  clear h
  go_enter Tryz.func173, Tryz.ntmps173
  go_wp2
  go_ret2
  exact ⟨by rw [← HE.out]; simp, rfl⟩
theorem rwhen_any {b : Nat} {room : Int} {q : Nat → Int} {C : Nat → Value} {vs : Nat → Value} {tv : Value} {s : RnS} (now : Int) (w : World) (h : RnP w b room q C vs tv s) :
    Calls Tryz.prog 182 #[.pointer (some ⟨b, 0, none⟩), .int .i64 now] w fun e w' => e = .returned (.tuple #[.int .i64 now, .bool (!s.tn.isEmpty)]) ∧ w' = w := by
  have HQ := twhen_any now w h.trow
  obtain ⟨⟨c0, c65, c66⟩, f65, f66⟩ := h.cells
  have hb := h.blk.lt
  obtain ⟨x, cap, hx⟩ := Ins.slice h.trow
  clear h
  subst hx
  go_enter Tryz.func182, Tryz.ntmps182
  go_wp2_with (go_at_call 173; refine HQ.mono ?_; rintro e w2 ⟨rfl, hw2⟩; subst hw2)
  go_ret2
  exact ⟨rfl, rfl⟩
end Go.Proofs.YtfakjedolecdcaaGreatDoor
namespace Go.Proofs.YtfakjedolecdcaaGreatDoor
open Go.RowKit Go.Extern.Stop Go.Stop Go.Extern

theorem snoc_or (L : List Hd) : L = [] ∨ ∃ A x, L = A ++ [x] := by
  rcases List.eq_nil_or_concat L with h | ⟨A, x, h⟩
  · exact Or.inl h
  · exact Or.inr ⟨A, x, by rw [h]; simp⟩
/-- The last one, or nothing. -/
def lsOr (L : List Hd) : Hd := L.getLastD hd0
theorem Hs.init {w : World} {b off cap : Nat} {A : List Hd} {x : Hd} (h : Hs w (.slice (some ⟨b, off, none⟩) (A.length + 1) cap) (A ++ [x])) : Hs w (.slice (some ⟨b, off, none⟩) A.length cap) A := by
  have h' : Seg w 76 6 (.slice (some ⟨b, off, none⟩) (A.length + 1) cap) (A.length + 1) (flt Hd.cs (A ++ [x])) := by simpa [Hs] using h
  have := Seg.take h' (m := A.length) (by omega)
  rw [flt_take Hd.cs 6 Hd.len] at this
  unfold Hs
  simpa using this
set_option maxHeartbeats 1000000 in
theorem lastO_any {b n : Nat} {T : TypeId} {C : Nat → Value} {o : Nat} {v : Value} {L : List Hd} (w : World) (h : LO w b n T C o v L) (hF : Fit L) :
    Calls Tryz.prog 174 #[.pointer (some ⟨b, o, none⟩)] w fun e w' => e = .returned (.tuple #[(lsOr L).val, .bool (!L.isEmpty)]) ∧ ∃ v', LO w' b n T (updL C o v' L.dropLast) o v' L.dropLast ∧ v'.ownBlock = v.ownBlock ∧ Ot (· = b) w w' := by
  have H : Hid (LO w b n T C o v L) := h
  have hb := h.blk.lt
  obtain ⟨c0, c1, f0, f1⟩ := h.cells
  have hV := Hd.val_eq
  rcases snoc_or L with rfl | ⟨A, x, rfl⟩
  · obtain ⟨x, cap, rfl⟩ : ∃ x cap, v = .slice x 0 cap := by
      rcases h.row.form with ⟨rfl, h0, _⟩ | ⟨b, off, cap, rfl, _⟩
      · exact ⟨none, 0, rfl⟩
      · exact ⟨_, _, rfl⟩
    clear h
    go_enter Tryz.func174, Tryz.ntmps174
    go_wp2
    (try simp only [Exit.inBlock, Exit.then])
    refine bodyPost_ret (v := .tuple #[hd0.val, .bool false]) ?_ rfl ⟨rfl, _, H.out.same.below ?_, rfl, Ot.of_below ?_⟩
    · rw [results_cell_tmp rfl]
      go_simp
      exact ⟨rfl, rfl, rfl, rfl, rfl, rfl⟩
    all_goals repeat' (first | with_reducible exact Below.refl _ _ | with_reducible refine Below.setCell ?_ (by simp) _ | with_reducible refine below_alloc_ ?_ _)
  · obtain ⟨b1, off, cap, rfl, hn, hx, hlt, hc⟩ := h.row.some (by simp)
    have hat : ∀ j, j < 6 → (flt Hd.cs (A ++ [x]))[A.length * 6 + j]? = x.cs[j]? := fun j hj => flt_at Hd.cs 6 Hd.len (by simp) hj
    have k0 : w.cell? ⟨b1, off + A.length * 6, none⟩ = some (.int .i64 x.a) := hc _ _ (hat 0 (by omega))
    have k1 : w.cell? ⟨b1, off + A.length * 6 + 1, none⟩ = some (.int .i64 x.l) := hc _ _ (hat 1 (by omega))
    have k2 : w.cell? ⟨b1, off + A.length * 6 + 2, none⟩ = some (.int .i64 x.f) := hc _ _ (hat 2 (by omega))
    have k3 : w.cell? ⟨b1, off + A.length * 6 + 3, none⟩ = some (.int .i64 x.b) := hc _ _ (hat 3 (by omega))
    have k4 : w.cell? ⟨b1, off + A.length * 6 + 4, none⟩ = some (.int .i64 x.m) := hc _ _ (hat 4 (by omega))
    have k5 : w.cell? ⟨b1, off + A.length * 6 + 5, none⟩ = some (.int .i64 x.n) := hc _ _ (hat 5 (by omega))
    have hw : IntKind.i64.wrap (sumL (A ++ [x]) - x.l) = sumL A := by
      have h1 := Fit.sum hF.2
      have h4 := Fit.sum (L := A) (fun y hy => hF.2 y (by simp [hy]))
      have h3 := hF.1
      rw [IntKind.wrap_i64]
      rw [sumL_append] at h1 ⊢
      simp only [sumL, List.length_append, List.length_cons, List.length_nil] at h1 h3 ⊢
      omega
    have hne : b1 ≠ b := fun e => h.ne (by rw [e]; rfl)
    have hll : (A ++ [x]).length = A.length + 1 := by simp
    have H' : Hid (LO w b n T C o (.slice (some ⟨b1, off, none⟩) (A.length + 1) cap) (A ++ [x])) := by have := H.out; rw [hll] at this; exact this
    rw [hll] at c0 hn
    obtain ⟨an, han⟩ : ∃ an, A.length = an := ⟨_, rfl⟩
    have HAN : Hid (A.length = an) := han
    rw [han] at k0 k1 k2 k3 k4 k5 c0 hn
    have hmx : an + 1 ≤ 9223372036854775807 := by unfold maxLen at hx; omega
    clear h hc hat hll han H
    go_enter Tryz.func174, Tryz.ntmps174
    go_wp2
    all_goals go_region
    all_goals go_wp2
    all_goals (try simp only [Exit.inBlock, Exit.then])
    all_goals
      have e1 : lsOr (A ++ [x]) = x := by simp [lsOr]
      have e2 : (A ++ [x]).isEmpty = false := by simp
      have e3 : (A ++ [x]).dropLast = A := by simp
      rw [e1, e2, e3]
      have h1 := LO.set H'.out.blk H'.out.lt (v' := .slice (some ⟨b1, off, none⟩) A.length cap) (L' := A) H'.out.row.init (by simp [Value.ownBlock, hne])
      rw [HAN.out] at h1
      refine bodyPost_ret (v := .tuple #[x.val, .bool true]) ?_ rfl ⟨rfl, _, (h1.below (below_alloc_ (below_alloc_ (Below.refl _ _) _) _)).kept rfl (fun _ _ => rfl), rfl, ?_⟩
      · rw [results_cell_tmp rfl]
        go_simp
      · repeat' (first | with_reducible exact Ot.refl _ _ | with_reducible refine Ot.drew ?_ | with_reducible refine Ot.setCell ?_ (by simp) _ | with_reducible refine Ot.alloc ?_ _)
end Go.Proofs.YtfakjedolecdcaaGreatDoor
namespace Go.Proofs.YtfakjedolecdcaaGreatDoor
open Go.RowKit Go.Extern.Stop Go.Stop Go.Extern

/-- What a Hashed was made with. -/
structure HaC where
  many : Int
  salt : Int
  room : Int
/-- What a Hashed keeps: each list's packets; whose turn it is, one behind the other. -/
structure HaS where
  fl : Nat → List Hd
  tn : List Int
structure HaP (w : World) (b : Nat) (p : HaC) (C : Nat → Value) (vs : Nat → Value) (tv : Value) (s : HaS) : Prop where
  blk : Blk w b 132 158 C
  c0 : C 0 = .int .i64 p.many
  c1 : C 1 = .int .i64 p.salt
  c2 : C 2 = .int .i64 p.room
  cv : ∀ f, f < 64 → C (3 + f * 2) = vs f
  cs : ∀ f, f < 64 → C (3 + f * 2 + 1) = .int .i64 (sumL (s.fl f))
  ct : C 131 = tv
  row : ∀ f, f < 64 → Hs w (vs f) (s.fl f)
  vne : ∀ f, f < 64 → (vs f).ownBlock ≠ some b
  vdis : ∀ f g, f < 64 → g < 64 → f ≠ g → ∀ k, (vs f).ownBlock = some k → (vs g).ownBlock ≠ some k
  trow : Ins w tv s.tn
  tne : tv.ownBlock ≠ some b
  tdis : ∀ f, f < 64 → ∀ k, (vs f).ownBlock = some k → tv.ownBlock ≠ some k
/-- Its blocks. -/
def HaF (b : Nat) (vs : Nat → Value) (tv : Value) (k : Nat) : Prop := k = b ∨ (∃ f, f < 64 ∧ (vs f).ownBlock = some k) ∨ tv.ownBlock = some k
theorem HaP.kept {w w' : World} {b : Nat} {p : HaC} {C : Nat → Value} {vs : Nat → Value} {tv : Value} {s : HaS} (h : HaP w b p C vs tv s) (hk : ∀ k, HaF b vs tv k → w'.heap[k]? = w.heap[k]?) : HaP w' b p C vs tv s :=
  { h with
    blk := h.blk.kept (hk b (Or.inl rfl))
    row := fun f hf => (h.row f hf).kept (fun k hv => hk k (Or.inr (Or.inl ⟨f, hf, hv⟩)))
    trow := Seg.kept h.trow (fun k hv => hk k (Or.inr (Or.inr hv))) }
theorem HaP.low {w : World} {b : Nat} {p : HaC} {C : Nat → Value} {vs : Nat → Value} {tv : Value} {s : HaS} (h : HaP w b p C vs tv s) {k : Nat} (hk : HaF b vs tv k) : k < w.heap.size := by
  rcases hk with rfl | ⟨f, hf, hv⟩ | hv
  · exact h.blk.lt
  · exact (h.row f hf).lt hv
  · exact Seg.lt h.trow hv
theorem HaP.below {w w' : World} {b : Nat} {p : HaC} {C : Nat → Value} {vs : Nat → Value} {tv : Value} {s : HaS} (h : HaP w b p C vs tv s) (hb : Below w.heap.size w w') : HaP w' b p C vs tv s := h.kept (fun k hk => hb.block k (h.low hk))
theorem HaP.al {w : World} {b : Nat} {p : HaC} {C : Nat → Value} {vs : Nat → Value} {tv : Value} {s : HaS} (h : HaP w b p C vs tv s) (o : Obj) : HaP (w.alloc o) b p C vs tv s := h.below (below_alloc_ (Below.refl _ _) _)
theorem HaP.drewN {w : World} {b : Nat} {p : HaC} {C : Nat → Value} {vs : Nat → Value} {tv : Value} {s : HaS} (h : HaP w b p C vs tv s) (n : Nat) : HaP (w.drewN n) b p C vs tv s := h.kept (fun _ _ => rfl)
/-- Blocks that are not its own may be written. -/
theorem HaP.setO {w : World} {b : Nat} {p : HaC} {C : Nat → Value} {vs : Nat → Value} {tv : Value} {s : HaS} (h : HaP w b p C vs tv s) {a : Addr} (hp : ¬ HaF b vs tv a.block) (u : Value) : HaP (w.setCell a u) b p C vs tv s :=
  h.kept (fun _ hk => Below.heap_setCell _ _ _ _ (fun e => hp (e ▸ hk)))
/-- A flow's list, as a list in the block. -/
theorem HaP.list {w : World} {b : Nat} {p : HaC} {C : Nat → Value} {vs : Nat → Value} {tv : Value} {s : HaS} (h : HaP w b p C vs tv s) {f : Nat} (hf : f < 64) : LO w b 132 158 C (3 + f * 2) (vs f) (s.fl f) := ⟨h.blk, by omega, h.cv f hf, h.cs f hf, h.row f hf, h.vne f hf⟩
theorem HaP.turns {w : World} {b : Nat} {p : HaC} {C : Nat → Value} {vs : Nat → Value} {tv : Value} {s : HaS} (h : HaP w b p C vs tv s) : TO w b 132 158 C 131 tv s.tn := ⟨h.blk, by omega, h.ct, h.trow, h.tne⟩
/-- A flow's list is another one. -/
theorem HaP.listed {w w' : World} {b : Nat} {p : HaC} {C : Nat → Value} {vs : Nat → Value} {tv : Value} {s : HaS} (h : HaP w b p C vs tv s) {f : Nat} (hf : f < 64) {v' : Value} {L' : List Hd} (hl : LO w' b 132 158 (updL C (3 + f * 2) v' L') (3 + f * 2) v' L') (ho : ∀ k, v'.ownBlock = some k → (vs f).ownBlock = some k ∨ w.heap.size ≤ k) (hot : Ot (fun k => k = b ∨ (vs f).ownBlock = some k) w w') : HaP w' b p (updL C (3 + f * 2) v' L') (updF vs f v') tv { s with fl := updF s.fl f L' } where
  blk := hl.blk
  c0 := by rw [updL_ne (by omega) (by omega)]; exact h.c0
  c1 := by rw [updL_ne (by omega) (by omega)]; exact h.c1
  c2 := by rw [updL_ne (by omega) (by omega)]; exact h.c2
  cv := fun g hg => by
    by_cases e : g = f
    · subst e; rw [updL_0, updF_same]
    · rw [updL_ne (by omega) (by omega), updF_ne e]; exact h.cv g hg
  cs := fun g hg => by
    by_cases e : g = f
    · subst e; rw [updL_1]; show _ = Value.int .i64 (sumL (updF s.fl g L' g)); rw [updF_same]
    · rw [updL_ne (by omega) (by omega)]; show _ = Value.int .i64 (sumL (updF s.fl f L' g)); rw [updF_ne e]; exact h.cs g hg
  ct := by rw [updL_ne (by omega) (by omega)]; exact h.ct
  row := fun g hg => by
    by_cases e : g = f
    · subst e; show Hs w' (updF vs g v' g) (updF s.fl g L' g); rw [updF_same, updF_same]; exact hl.row
    · show Hs w' (updF vs f v' g) (updF s.fl f L' g); rw [updF_ne e, updF_ne e]
      refine Seg.oth (h.row g hg) hot (fun k hk hs => ?_)
      rcases hs with rfl | hs
      · exact h.vne g hg hk
      · exact h.vdis g f hg hf e k hk hs
  vne := fun g hg => by
    by_cases e : g = f
    · subst e; rw [updF_same]; exact hl.ne
    · rw [updF_ne e]; exact h.vne g hg
  vdis := fun g g' hg hg' hne k hk hk' => by
    by_cases e : g = f
    · subst e
      rw [updF_same] at hk
      rw [updF_ne (fun e => hne e.symm)] at hk'
      rcases ho k hk with h1 | h1
      · exact h.vdis g g' hg hg' hne k h1 hk'
      · have := (h.row g' hg').lt hk'; omega
    · rw [updF_ne e] at hk
      by_cases e' : g' = f
      · subst e'
        rw [updF_same] at hk'
        rcases ho k hk' with h1 | h1
        · exact h.vdis g g' hg hg' hne k hk h1
        · have := (h.row g hg).lt hk; omega
      · rw [updF_ne e'] at hk'
        exact h.vdis g g' hg hg' hne k hk hk'
  trow := Seg.oth h.trow hot (fun k hk hs => by
    rcases hs with rfl | hs
    · exact h.tne hk
    · exact h.tdis f hf k hs hk)
  tne := h.tne
  tdis := fun g hg k hk hk' => by
    by_cases e : g = f
    · subst e
      rw [updF_same] at hk
      rcases ho k hk with h1 | h1
      · exact h.tdis g hg k h1 hk'
      · have := Seg.lt h.trow hk'; omega
    · rw [updF_ne e] at hk
      exact h.tdis g hg k hk hk'
/-- The row of turns is another one. -/
theorem HaP.turned {w w' : World} {b : Nat} {p : HaC} {C : Nat → Value} {vs : Nat → Value} {tv tv' : Value} {s : HaS} {l : List Int} (h : HaP w b p C vs tv s) (hp : TPost w b 132 158 C 131 tv l w' tv') : HaP w' b p (updC C 131 tv') vs tv' { s with tn := l } where
  blk := hp.pos.blk
  c0 := by rw [updC_ne (by omega)]; exact h.c0
  c1 := by rw [updC_ne (by omega)]; exact h.c1
  c2 := by rw [updC_ne (by omega)]; exact h.c2
  cv := fun g hg => by rw [updC_ne (by omega)]; exact h.cv g hg
  cs := fun g hg => by rw [updC_ne (by omega)]; exact h.cs g hg
  ct := updC_same _ _ _
  row := fun g hg => Seg.oth (h.row g hg) hp.ot (fun k hk hs => by
    rcases hs with rfl | hs
    · exact h.vne g hg hk
    · exact h.tdis g hg k hk hs)
  vne := h.vne
  vdis := h.vdis
  trow := hp.pos.row
  tne := hp.pos.ne
  tdis := fun g hg k hk hk' => by
    rcases hp.own k hk' with h1 | h1
    · exact h.tdis g hg k hk h1
    · have := (h.row g hg).lt hk; omega
/-- What a method leaves of Rounds. -/
structure HaO (w : World) (b : Nat) (p : HaC) (vs : Nat → Value) (tv : Value) (s' : HaS) (w' : World) (C' : Nat → Value) (vs' : Nat → Value) (tv' : Value) : Prop where
  pos : HaP w' b p C' vs' tv' s'
  own : ∀ k, HaF b vs' tv' k → HaF b vs tv k ∨ w.heap.size ≤ k
  ot : Ot (HaF b vs tv) w w'
theorem HaO.trans {w w1 w2 : World} {b : Nat} {p : HaC} {vs vs1 vs2 : Nat → Value} {tv tv1 tv2 : Value} {s1 s2 : HaS} {C1 C2 : Nat → Value} (h : HaO w b p vs tv s1 w1 C1 vs1 tv1) (k : HaO w1 b p vs1 tv1 s2 w2 C2 vs2 tv2) : HaO w b p vs tv s2 w2 C2 vs2 tv2 := by
  have hs := h.ot.size
  refine ⟨k.pos, fun j hj => ?_, h.ot.trans' k.ot (fun j hj hlt => ?_)⟩
  · rcases k.own j hj with h1 | h1
    · exact h.own j h1
    · exact Or.inr (by omega)
  · rcases h.own j hj with h1 | h1
    · exact h1
    · omega
theorem hao_listed {w w' : World} {b : Nat} {p : HaC} {C : Nat → Value} {vs : Nat → Value} {tv : Value} {s : HaS} (h : HaP w b p C vs tv s) {f : Nat} (hf : f < 64) {v' : Value} {L' : List Hd} (hl : LO w' b 132 158 (updL C (3 + f * 2) v' L') (3 + f * 2) v' L') (ho : ∀ k, v'.ownBlock = some k → (vs f).ownBlock = some k ∨ w.heap.size ≤ k) (hot : Ot (fun k => k = b ∨ (vs f).ownBlock = some k) w w') : HaO w b p vs tv { s with fl := updF s.fl f L' } w' (updL C (3 + f * 2) v' L') (updF vs f v') tv := by
  refine ⟨h.listed hf hl ho hot, fun k hk => ?_, hot.mono (fun k _ hk => ?_)⟩
  · rcases hk with rfl | ⟨g, hg, hv⟩ | hv
    · exact Or.inl (Or.inl rfl)
    · by_cases e : g = f
      · subst e
        rw [updF_same] at hv
        rcases ho k hv with h1 | h1
        · exact Or.inl (Or.inr (Or.inl ⟨g, hg, h1⟩))
        · exact Or.inr h1
      · rw [updF_ne e] at hv
        exact Or.inl (Or.inr (Or.inl ⟨g, hg, hv⟩))
    · exact Or.inl (Or.inr (Or.inr hv))
  · rcases hk with h1 | h1
    · exact Or.inl h1
    · exact Or.inr (Or.inl ⟨f, hf, h1⟩)
theorem hao_turned {w w' : World} {b : Nat} {p : HaC} {C : Nat → Value} {vs : Nat → Value} {tv tv' : Value} {s : HaS} {l : List Int} (h : HaP w b p C vs tv s) (hp : TPost w b 132 158 C 131 tv l w' tv') : HaO w b p vs tv { s with tn := l } w' (updC C 131 tv') vs tv' := by
  refine ⟨h.turned hp, fun k hk => ?_, hp.ot.mono (fun k _ hk => ?_)⟩
  · rcases hk with h1 | h1 | h1
    · exact Or.inl (Or.inl h1)
    · exact Or.inl (Or.inr (Or.inl h1))
    · rcases hp.own k h1 with h2 | h2
      · exact Or.inl (Or.inr (Or.inr h2))
      · exact Or.inr h2
  · rcases hk with h1 | h1
    · exact Or.inl h1
    · exact Or.inr (Or.inr h1)
theorem hao_same {w w' : World} {b : Nat} {p : HaC} {C' : Nat → Value} {vs : Nat → Value} {tv : Value} {s' : HaS} (h' : HaP w' b p C' vs tv s') (ho : Ot (HaF b vs tv) w w') : HaO w b p vs tv s' w' C' vs tv := ⟨h', fun _ hk => Or.inl hk, ho⟩
/-- The list of a flow. -/
def whereN (p : HaC) (f : Int) : Int := (31 * (f % p.many) + 7 * p.salt + (f % p.many) * p.salt) % p.many
theorem whereN_bd {p : HaC} (h : 1 ≤ p.many) (f : Int) : 0 ≤ whereN p f ∧ whereN p f < p.many := ⟨Int.emod_nonneg _ (by omega), Int.emod_lt_of_pos _ (by omega)⟩
theorem HaP.heads {w : World} {b : Nat} {p : HaC} {C : Nat → Value} {vs : Nat → Value} {tv : Value} {s : HaS} (h : HaP w b p C vs tv s) : w.cell? ⟨b, 0, none⟩ = some (.int .i64 p.many) ∧ w.cell? ⟨b, 1, none⟩ = some (.int .i64 p.salt) ∧ w.cell? ⟨b, 2, none⟩ = some (.int .i64 p.room) := by
  have a0 := h.blk.cell (i := 0) (by omega)
  have a1 := h.blk.cell (i := 1) (by omega)
  have a2 := h.blk.cell (i := 2) (by omega)
  rw [h.c0] at a0
  rw [h.c1] at a1
  rw [h.c2] at a2
  exact ⟨a0.1, a1.1, a2.1⟩
set_option maxHeartbeats 1000000 in
theorem where_any {b : Nat} {p : HaC} {C : Nat → Value} {vs : Nat → Value} {tv : Value} {s : HaS} (f : Int) (w : World) (h : HaP w b p C vs tv s) (hm0 : 1 ≤ p.many) (hm1 : p.many ≤ 64) (hs0 : 0 ≤ p.salt) (hs1 : p.salt ≤ 1000000) (hf0 : 0 ≤ f) (hf1 : f ≤ 1000000) :
    Calls Tryz.prog 167 #[.pointer (some ⟨b, 0, none⟩), .int .i64 f] w fun e w' => e = .returned (.int .i64 (whereN p f)) ∧ ∃ n, w' = w.drewN n := by
  obtain ⟨c0, c1, c2⟩ := h.heads
  have hb := h.blk.lt
  clear h
  obtain ⟨m, sl, rm⟩ := p
  simp only at c0 c1 c2 hm0 hm1 hs0 hs1
  have hz : ¬ m = 0 := by omega
  have hz2 : (m == 0) = false := by simpa using hz
  have hr1 := Int.emod_nonneg f hz
  have hr2 := Int.emod_lt_of_pos f (show 0 < m by omega)
  have ht1 : f.tmod m = f % m := Int.tmod_eq_emod_of_nonneg hf0
  have HW : Hid (whereN ⟨m, sl, rm⟩ f = (31 * (f % m) + 7 * sl + (f % m) * sl) % m) := rfl
  generalize f % m = r at *
  have hrs : 0 ≤ r * sl ∧ r * sl ≤ 64 * 1000000 := ⟨Int.mul_nonneg hr1 hs0, Int.mul_le_mul (by omega) hs1 hs0 (by omega)⟩
  have ht2 : (31 * r + 7 * sl + r * sl).tmod m = (31 * r + 7 * sl + r * sl) % m := Int.tmod_eq_emod_of_nonneg (by omega)
  have k1 : IntKind.i64.wrap (31 * r) = 31 * r := by rw [IntKind.wrap_i64]; omega
  have k2 : IntKind.i64.wrap (7 * sl) = 7 * sl := by rw [IntKind.wrap_i64]; omega
  have k3 : IntKind.i64.wrap (31 * r + 7 * sl) = 31 * r + 7 * sl := by rw [IntKind.wrap_i64]; omega
  have k4 : IntKind.i64.wrap (r * sl) = r * sl := by rw [IntKind.wrap_i64]; omega
  have k5 : IntKind.i64.wrap (31 * r + 7 * sl + r * sl) = 31 * r + 7 * sl + r * sl := by rw [IntKind.wrap_i64]; omega
  rw [HW.out]
  obtain ⟨R, hR⟩ : ∃ R, (31 * r + 7 * sl + r * sl) % m = R := ⟨_, rfl⟩
  have hR1 := Int.emod_nonneg (31 * r + 7 * sl + r * sl) hz
  have hR2 := Int.emod_lt_of_pos (31 * r + 7 * sl + r * sl) (show 0 < m by omega)
  rw [hR] at ht2 hR1 hR2 ⊢
  have k6 : IntKind.i64.wrap R = R := by rw [IntKind.wrap_i64]; omega
  have k7 : IntKind.i64.wrap r = r := by rw [IntKind.wrap_i64]; omega
  clear hR HW hrs
  go_enter Tryz.func167, Tryz.ntmps167
  go_wp2
  go_quiet (fail)
  go_wp2
  go_ret
  exact ⟨rfl, _, rfl⟩
end Go.Proofs.YtfakjedolecdcaaGreatDoor
