/-
  fair.turns: what leave and pass do, and slices.DeleteFunc beneath them. Conditions: the row of numbers lies in memory, the number stands in it just once, few of them.
-/
import Derived.Test.YtejomfmbhifeaaaDoorFb
namespace Go.Proofs.YtejomfmbhifeaaaDoor
open Go.RowKit Go.Extern.Stop Go.Stop Go.Extern

theorem zeroInt (w : World) : (zeroValue 3).run Tryd.prog w = .ok (.int .i64 0) w := by kernel_rfl
/-- The row while the rest moves up. -/
def mvL (A B : List Int) (t : Nat) (x : Int) : List Int := A ++ (B.take t ++ x :: B.drop t)
/-- So it lies in memory. -/
def Mv (A B : List Int) (g off N cap t : Nat) (w : World) : Prop := ∃ x, Ins w (.slice (some ⟨g, off, none⟩) N cap) (mvL A B t x)
theorem mvL_len (A B : List Int) {t : Nat} (x : Int) (h : t ≤ B.length) : (mvL A B t x).length = A.length + B.length + 1 := by
  simp [mvL]; omega
theorem mvL_get {A B : List Int} {t : Nat} {x y : Int} (h : B[t]? = some y) : (mvL A B t x)[A.length + 1 + t]? = some y := by
  have ht := (List.getElem?_eq_some_iff.1 h).1
  rw [mvL, List.getElem?_append_right (by omega), List.getElem?_append_right (by rw [List.length_take]; omega)]
  have e : A.length + 1 + t - A.length - (B.take t).length = 1 := by rw [List.length_take]; omega
  rw [e]
  simp [List.getElem?_drop, h]
theorem mvL_set {A B : List Int} {t : Nat} {x y : Int} (h : B[t]? = some y) : (mvL A B t x).set (A.length + t) y = mvL A B (t + 1) y := by
  have ht := (List.getElem?_eq_some_iff.1 h).1
  have e1 : B.drop t = y :: B.drop (t + 1) := by
    rw [List.drop_eq_getElem_cons ht]
    congr 1
    rw [List.getElem?_eq_getElem ht] at h
    exact Option.some.inj h
  have e2 : B.take (t + 1) = B.take t ++ [y] := by rw [List.take_add_one, h]; rfl
  rw [mvL, mvL, List.set_append, if_neg (by omega), Nat.add_sub_cancel_left, List.set_append, if_neg (by rw [List.length_take]; omega)]
  have e3 : t - (B.take t).length = 0 := by rw [List.length_take]; omega
  rw [e3, List.set_cons_zero, e1, e2]
  simp
theorem ins_front {w : World} {g off cap N : Nat} {A B : List Int} {x : Int} (h : Ins w (.slice (some ⟨g, off, none⟩) N cap) (mvL A B B.length x)) (u : Value) : Ins (w.setCell ⟨g, off + (A.length + B.length), none⟩ u) (.slice (some ⟨g, off, none⟩) (A.length + B.length) cap) (A ++ B) := by
  have e0 : mvL A B B.length x = (A ++ B) ++ [x] := by simp [mvL]
  rw [e0] at h
  have hlen : ((A ++ B) ++ [x]).length = A.length + B.length + 1 := by simp; omega
  rcases h.2 with ⟨hv, _⟩ | ⟨b', off', cap', cur, hv, hh, h1, h2, h3, h4⟩
  · simp at hv
  · simp only [Value.slice.injEq, Option.some.injEq, Addr.mk.injEq, and_true] at hv
    obtain ⟨⟨rfl, rfl⟩, _, rfl⟩ := hv
    refine ⟨by simp, Or.inr ⟨g, off, cap, _, by simp, heap_setCell_here hh u, by simp; omega, h2, by simpa using h3, fun j v hj => ?_⟩⟩
    have hj' := (List.getElem?_eq_some_iff.1 hj).1
    simp at hj'
    rw [Array.getElem?_setIfInBounds_ne (by omega)]
    refine h4 j v ?_
    rw [List.map_append, List.getElem?_append_left (by simp; omega)]
    exact hj
set_option maxRecDepth 20000 in
set_option maxHeartbeats 2000000 in
theorem tdel_any {tv : Value} (A B : List Int) (n : Int) (c : Nat) (w : World) (h : Ins w tv (A ++ n :: B)) (hA : n ∉ A) (hB : n ∉ B) (hc : w.cell? ⟨c, 0, none⟩ = some (.int .i64 n)) (hcv : tv.ownBlock ≠ some c) (hl : (A ++ n :: B).length ≤ 1000) :
    Calls Tryd.prog 112 #[tv, .func (.func 113) #[] #[.pointer (some ⟨c, 0, none⟩)]] w fun e w' => ∃ tv', e = .returned tv' ∧ Ins w' tv' (A ++ B) ∧ tv'.ownBlock = tv.ownBlock ∧ Ot (fun k => tv.ownBlock = some k) w w' := by
  have HI : Hid (Ins w tv (A ++ n :: B)) := h
  have HIX := tidx_any A B n c w h hA hc hl
  obtain ⟨g, off, cap, rfl, hg, _⟩ := Ins.at h (k := A.length) (x := n) (by simp)
  obtain ⟨N, hN⟩ : ∃ N, (A ++ n :: B).length = N := ⟨_, rfl⟩
  have hN2 : N = A.length + B.length + 1 := by rw [← hN]; simp; omega
  have hcap : N ≤ cap := by
    rcases h.2 with ⟨hv, _⟩ | ⟨b', off', cap', cur, hv, hh, h1, h2, h3, h4⟩
    · simp at hv
    · simp only [Value.slice.injEq] at hv
      obtain ⟨_, _, rfl⟩ := hv
      omega
  rw [hN] at HI HIX hl hcv ⊢
  have hgc : g ≠ c := by simpa [Value.ownBlock] using hcv
  have heq := eLeaveQ
  have HC : Hid (w.cell? ⟨c, 0, none⟩ = some (.int .i64 n)) := hc
  have hcl := World.block_lt_of_cell? _ _ hc
  obtain ⟨a, ha⟩ : ∃ a, A.length = a := ⟨_, rfl⟩
  have HAL : Hid (A.length = a) := ha
  obtain ⟨bl, hbl⟩ : ∃ bl, B.length = bl := ⟨_, rfl⟩
  have HBL : Hid (B.length = bl) := hbl
  rw [ha] at HIX hN2
  rw [hbl] at hN2
  have HN : Hid (N = a + bl + 1) := hN2
  have ha1 : a < N := by omega
  have hm1 : ((a : Int) == -1) = false := by simp
  clear h hN ha hbl hc hcv hN2
  go_enter Tryd.func112, Tryd.ntmps112
  go_wp2_with (go_at_call 114; refine HIX.mono ?_; rintro e w1 ⟨rfl, hw1⟩; subst hw1)
  go_loopw [5, 6] (fun iv jv wr => ∃ t : Nat, t ≤ bl ∧ iv = .int .i64 ((a + t : Nat) : Int) ∧ jv = .int .i64 ((a + 1 + t : Nat) : Int) ∧ Mv A B g off N cap t wr ∧ Ot (· = g) w1 wr) (fun _ jv _ => N + 1 - (intOf jv).toNat)
  case atStart => exact ⟨0, Nat.zero_le _, rfl, rfl, ⟨n, HI.out⟩, Ot.refl _ _⟩
  case round =>
    obtain ⟨t, ht, rfl, rfl, ⟨x, hin⟩, hot⟩ := hrel
    have HIN : Hid (Ins wr (.slice (some ⟨g, off, none⟩) N cap) (mvL A B t x)) := hin
    have HOT : Hid (Ot (· = g) w1 wr) := hot
    have hcw : wr.cell? ⟨c, 0, none⟩ = some (.int .i64 n) := (hot.cell (p := ⟨c, 0, none⟩) hcl (fun e => hgc e.symm)).trans HC.out
    have hgw : g < wr.heap.size := Nat.lt_of_lt_of_le hg hot.size
    clear hin hot
    by_cases hlt : t < bl
    · obtain ⟨y, hy⟩ : ∃ y, B[t]? = some y := ⟨_, List.getElem?_eq_getElem (by rw [HBL.out]; exact hlt)⟩
      have HY : Hid (B[t]? = some y) := hy
      have hne : (y == n) = false := by
        simp only [beq_eq_false_iff_ne, ne_eq]
        rintro rfl
        exact hB (List.mem_of_getElem? hy)
      have hget := mvL_get (A := A) (x := x) hy
      rw [HAL.out] at hget
      obtain ⟨g', off', cap', e1, _, k1, _⟩ := Ins.at HIN.out hget
      simp only [Value.slice.injEq, Option.some.injEq, Addr.mk.injEq, and_true] at e1
      obtain ⟨⟨rfl, rfl⟩, hx1, hx2⟩ := e1
      clear hx1 hx2
      have hlen := mvL_len A B x (t := t) (by rw [HBL.out]; exact ht)
      obtain ⟨z, hz⟩ : ∃ z, (mvL A B t x)[a + t]? = some z := ⟨_, List.getElem?_eq_getElem (by rw [hlen, HAL.out, HBL.out]; omega)⟩
      obtain ⟨g', off', cap', e1, _, k2, k3⟩ := Ins.at HIN.out hz
      simp only [Value.slice.injEq, Option.some.injEq, Addr.mk.injEq, and_true] at e1
      obtain ⟨⟨rfl, rfl⟩, hx1, hx2⟩ := e1
      clear hx1 hx2
      have HQ := leaveQ_any y n c wr hcw
      rw [hne] at HQ
      have hN3 : a + 1 + t < N := by have := HN.out; omega
      have hN4 : a + t < N := by omega
      have HNX : Hid (Ins (wr.setCell ⟨g, off + (a + t), none⟩ (.int .i64 y)) (.slice (some ⟨g, off, none⟩) N cap) (mvL A B (t + 1) y)) := by
        have h1 : Ins wr (.slice (some ⟨g, off, none⟩) (mvL A B t x).length cap) (mvL A B t x) := by
          have e : (mvL A B t x).length = N := by rw [hlen, HAL.out, HBL.out, HN.out]
          rw [e]; exact HIN.out
        have h2 := Ins.set h1 (a + t) (by rw [hlen, HAL.out, HBL.out]; omega) y
        have h3 := mvL_set (A := A) (x := x) HY.out
        rw [HAL.out] at h3
        rw [h3] at h2
        have e : (mvL A B t x).length = N := by rw [hlen, HAL.out, HBL.out, HN.out]
        rw [e] at h2
        exact h2
      clear hy hget hz hlen hne
      go_wp2_with (go_at_call 113; refine HQ.mono ?_; rintro e w2 ⟨rfl, hw2⟩; subst hw2)
      go_roundw
      case rel => exact ⟨t + 1, by omega, by go_num, by go_num, ⟨y, HNX.out⟩, Ot.setCell HOT.out (Or.inl rfl) _⟩
      case measure => simp [intOf]; omega
    · obtain rfl : t = bl := by omega
      have hNe : a + 1 + t = N := by have := HN.out; omega
      have HNE : Hid (a + 1 + t = N) := hNe
      have hlen := mvL_len A B x (t := t) (by rw [HBL.out]; exact ht)
      obtain ⟨z, hz⟩ : ∃ z, (mvL A B t x)[a + t]? = some z := ⟨_, List.getElem?_eq_getElem (by rw [hlen, HAL.out, HBL.out]; omega)⟩
      obtain ⟨g', off', cap', e1, _, k2, k3⟩ := Ins.at HIN.out hz
      simp only [Value.slice.injEq, Option.some.injEq, Addr.mk.injEq, and_true] at e1
      obtain ⟨⟨rfl, rfl⟩, hx1, hx2⟩ := e1
      clear hx1 hx2
      have hclr := fun ty c' => Go.Lib.run_clear_slice (P := Tryd.prog) wr 114 3 ty (.int .i64 0) Tryd.underlying114 zeroInt rfl rfl g (off + (a + t)) 1 c' (by decide) (fun j hj => by { obtain rfl : j = 0 := (by omega); simp [k2] }) (fun j hj => by { obtain rfl : j = 0 := (by omega); simpa using k3 })
      simp only [List.replicate, World.setCells] at hclr
      have hN4 : a + t < N := by omega
      have hN5 : N - (a + t) = 1 := by omega
      have hN6 : ((N : Int) - ((a + t : Nat) : Int)) = 1 := by omega
      have hN7 : ¬ cap = a + t := by omega
      have hN8 : a + t ≤ cap := by omega
      have hN9 : ¬ (a + 1 + t < N) := by omega
      clear hz hlen hNe
      go_wp2
      go_ret
      have e1 := HBL.out
      subst e1
      have e2 := HAL.out
      subst e2
      refine ⟨_, rfl, ins_front HIN.out _, rfl, ?_⟩
      have hO : Ot (fun k => (Value.slice (some ⟨g, off, none⟩) N cap).ownBlock = some k) w1 wr := HOT.out.mono (fun k _ e => by rw [show k = g from e]; rfl)
      have hO2 := Ot.setCell (p := ⟨g, off + (A.length + B.length), none⟩) hO (Or.inl rfl) (.int .i64 0)
      exact hO2
set_option maxHeartbeats 1000000 in
theorem leave_any {b n : Nat} {T : TypeId} {C : Nat → Value} {o : Nat} {tv : Value} (A B : List Int) (m : Int) (w : World) (h : TO w b n T C o tv (A ++ m :: B)) (hA : m ∉ A) (hB : m ∉ B) (hl : (A ++ m :: B).length ≤ 1000) :
    Calls Tryd.prog 111 #[.pointer (some ⟨b, o, none⟩), .int .i64 m] w fun e w' => e = .returned (.tuple #[]) ∧ ∃ tv', TPost w b n T C o tv (A ++ B) w' tv' := by
  have H : Hid (TO w b n T C o tv (A ++ m :: B)) := h
  have HD : Hid (∀ W : World, Below w.heap.size w W → W.cell? ⟨w.heap.size, 0, none⟩ = some (.int .i64 m) → Calls Tryd.prog 112 #[tv, .func (.func 113) #[] #[.pointer (some ⟨w.heap.size, 0, none⟩)]] W fun e w' => ∃ tv', e = .returned tv' ∧ Ins w' tv' (A ++ B) ∧ tv'.ownBlock = tv.ownBlock ∧ Ot (fun k => tv.ownBlock = some k) W w') :=
    fun W hW hc => tdel_any A B m w.heap.size W (Seg.below h.row hW) hA hB hc (fun e => by have := Seg.lt h.row e; omega) hl
  obtain ⟨c0, f0⟩ := h.cell
  have hb := h.blk.lt
  clear h
  go_enter Tryd.func111, Tryd.ntmps111
  go_wp2_with (go_at_call 112; fail)
  refine (HD.out _ (below_alloc_ (Below.refl _ _) _) ?_).mono ?_
  · exact (one_cell (new_block w _)).1
  rintro e w1 ⟨tv', rfl, hi1, hk1, ho1⟩
  obtain ⟨tx, tcap, htv⟩ := Ins.slice hi1
  obtain ⟨tl, htl⟩ : ∃ tl, (A ++ B).length = tl := ⟨_, rfl⟩
  rw [htl] at htv
  subst htv
  have hB1 : Blk w1 b n T C := H.out.blk.kept ((ho1.block b (by simp; omega) H.out.ne).trans (Below.heap_alloc _ _ _ hb))
  obtain ⟨k1, k2⟩ := hB1.cell H.out.lt
  rw [H.out.c0] at k1
  have hbs := hB1.lt
  go_wp2
  go_end0
  refine ⟨rfl, _, TO.set hB1 H.out.lt hi1 (by rw [hk1]; exact H.out.ne), fun k hk => Or.inl (by rw [← hk1]; exact hk), ?_⟩
  refine Ot.setCell ?_ (Or.inl (Or.inl rfl)) _
  exact (Ot.alloc (Ot.refl _ w) _).trans (ho1.mono (fun k _ e => Or.inr e))
theorem TPost.trans {w w1 w2 : World} {b n : Nat} {T : TypeId} {C : Nat → Value} {o : Nat} {tv tv1 tv2 : Value} {l l' : List Int} (h : TPost w b n T C o tv l w1 tv1) (k : TPost w1 b n T (updC C o tv1) o tv1 l' w2 tv2) : TPost w b n T C o tv l' w2 tv2 := by
  have hs := h.ot.size
  refine ⟨⟨k.pos.blk.cong (fun i _ => ?_), k.pos.lt, updC_same _ _ _, k.pos.row, k.pos.ne⟩, fun j hj => ?_, h.ot.trans' k.ot (fun j hj hlt => ?_)⟩
  · by_cases e : i = o
    · subst e; rw [updC_same, updC_same]
    · rw [updC_ne e, updC_ne e, updC_ne e]
  · rcases k.own j hj with h1 | h1
    · exact h.own j h1
    · exact Or.inr (by omega)
  · rcases hj with e | e
    · exact Or.inl e
    · rcases h.own j e with h1 | h1
      · exact Or.inr h1
      · omega
set_option maxHeartbeats 1000000 in
theorem pass_any {b n : Nat} {T : TypeId} {C : Nat → Value} {o : Nat} {tv : Value} (A B : List Int) (m : Int) (w : World) (h : TO w b n T C o tv (A ++ m :: B)) (hA : m ∉ A) (hB : m ∉ B) (hl : (A ++ m :: B).length ≤ 1000) :
    Calls Tryd.prog 109 #[.pointer (some ⟨b, o, none⟩), .int .i64 m] w fun e w' => e = .returned (.tuple #[]) ∧ ∃ tv', TPost w b n T C o tv ((A ++ B) ++ [m]) w' tv' := by
  have HV := leave_any A B m w h hA hB hl
  have hl2 : (A ++ B).length ≤ 1000 := by simp at hl ⊢; omega
  clear h
  go_enter Tryd.func109, Tryd.ntmps109
  go_wp2_with (first | (go_at_call 111; refine HV.mono ?_; rintro e w1 ⟨rfl, tv1, hp1⟩) | (go_at_call 105; refine (join_any m _ hp1.pos hl2).mono ?_; rintro e w2 ⟨rfl, tv2, hp2⟩))
  go_end0
  exact ⟨rfl, tv2, hp1.trans hp2⟩
end Go.Proofs.YtejomfmbhifeaaaDoor
