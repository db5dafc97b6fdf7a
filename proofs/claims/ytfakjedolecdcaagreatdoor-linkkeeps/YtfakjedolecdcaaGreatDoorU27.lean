/-
  fair.turns: what leave and pass do, and slices.DeleteFunc beneath them. Conditions: the row of numbers lies in memory, the number stands in it just once, few of them.
  fair.Rounds: its state, how it lies in memory, and what is left of it when a cell, a list or the row of turns is another one. Nothing of the program is claimed here by itself.
  fair.Rounds: what begin and send do. Conditions: they lie in memory; numbers within bounds; the flow has its turn.
-/
import Derived.Test.YtfakjedolecdcaaGreatDoorU26
import Derived.Test.YtfakjedolecdcaaGreatDoorU21
namespace Go.Proofs.YtfakjedolecdcaaGreatDoor
open Go.RowKit Go.Extern.Stop Go.Stop Go.Extern

theorem zeroInt (w : World) : (zeroValue 3).run Tryz.prog w = .ok (.int .i64 0) w := by kernel_rfl
/-- The row while the rest moves up. -/
def mvL (A B : List Int) (t : Nat) (x : Int) : List Int := A ++ (B.take t ++ x :: B.drop t)
/-- So it lies in memory. -/
def Mv (A B : List Int) (g off N cap t : Nat) (w : World) : Prop := ∃ x, Ins w (.slice (some ⟨g, off, none⟩) N cap) (mvL A B t x)
theorem mvL_len (A B : List Int) {t : Nat} (x : Int) (h : t ≤ B.length) : (mvL A B t x).length = A.length + B.length + 1 := by
  simp [mvL]; omega
theorem mvL_get {A B : List Int} {t : Nat} {x y : Int} (h : B[t]? = some y) : (mvL A B t x)[A.length + 1 + t]? = some y := by
  have ht := (List.getElem?_eq_some_iff.1 h).1
  rw [mvL, List.getElem?_append_right (by omega), List.getElem?_append_right (by rw [List.length_take]; omega)]
  have e : A.length + 1 + t - A.length - (B.take t).length = 1 := by rw [List.length_take]; omega
  rw [e]
  simp [List.getElem?_drop, h]
theorem mvL_set {A B : List Int} {t : Nat} {x y : Int} (h : B[t]? = some y) : (mvL A B t x).set (A.length + t) y = mvL A B (t + 1) y := by
  have ht := (List.getElem?_eq_some_iff.1 h).1
  have e1 : B.drop t = y :: B.drop (t + 1) := by
    rw [List.drop_eq_getElem_cons ht]
    congr 1
    rw [List.getElem?_eq_getElem ht] at h
    exact Option.some.inj h
  have e2 : B.take (t + 1) = B.take t ++ [y] := by rw [List.take_add_one, h]; rfl
  rw [mvL, mvL, List.set_append, if_neg (by omega), Nat.add_sub_cancel_left, List.set_append, if_neg (by rw [List.length_take]; omega)]
  have e3 : t - (B.take t).length = 0 := by rw [List.length_take]; omega
  rw [e3, List.set_cons_zero, e1, e2]
  simp
theorem ins_front {w : World} {g off cap N : Nat} {A B : List Int} {x : Int} (h : Ins w (.slice (some ⟨g, off, none⟩) N cap) (mvL A B B.length x)) (u : Value) : Ins (w.setCell ⟨g, off + (A.length + B.length), none⟩ u) (.slice (some ⟨g, off, none⟩) (A.length + B.length) cap) (A ++ B) := by
  have e0 : mvL A B B.length x = (A ++ B) ++ [x] := by simp [mvL]
  rw [e0] at h
  have hlen : ((A ++ B) ++ [x]).length = A.length + B.length + 1 := by simp; omega
  rcases h.2 with ⟨hv, _⟩ | ⟨b', off', cap', cur, hv, hh, h1, h2, h3, h4⟩
  · simp at hv
  · simp only [Value.slice.injEq, Option.some.injEq, Addr.mk.injEq, and_true] at hv
    obtain ⟨⟨rfl, rfl⟩, _, rfl⟩ := hv
    refine ⟨by simp, Or.inr ⟨g, off, cap, _, by simp, heap_setCell_here hh u, by simp; omega, h2, by simpa using h3, fun j v hj => ?_⟩⟩
    have hj' := (List.getElem?_eq_some_iff.1 hj).1
    simp at hj'
    rw [Array.getElem?_setIfInBounds_ne (by omega)]
    refine h4 j v ?_
    rw [List.map_append, List.getElem?_append_left (by simp; omega)]
    exact hj
set_option maxRecDepth 20000 in
set_option maxHeartbeats 2000000 in
theorem tdel_any {tv : Value} (A B : List Int) (n : Int) (c : Nat) (w : World) (h : Ins w tv (A ++ n :: B)) (hA : n ∉ A) (hB : n ∉ B) (hc : w.cell? ⟨c, 0, none⟩ = some (.int .i64 n)) (hcv : tv.ownBlock ≠ some c) (hl : (A ++ n :: B).length ≤ 1000) :
    Calls Tryz.prog 175 #[tv, .func (.func 176) #[] #[.pointer (some ⟨c, 0, none⟩)]] w fun e w' => ∃ tv', e = .returned tv' ∧ Ins w' tv' (A ++ B) ∧ tv'.ownBlock = tv.ownBlock ∧ Ot (fun k => tv.ownBlock = some k) w w' := by
  have HI : Hid (Ins w tv (A ++ n :: B)) := h
  have HIX := tidx_any A B n c w h hA hc hl
  obtain ⟨g, off, cap, rfl, hg, _⟩ := Ins.at h (k := A.length) (x := n) (by simp)
  obtain ⟨N, hN⟩ : ∃ N, (A ++ n :: B).length = N := ⟨_, rfl⟩
  have hN2 : N = A.length + B.length + 1 := by rw [← hN]; simp; omega
  have hcap : N ≤ cap := by
    rcases h.2 with ⟨hv, _⟩ | ⟨b', off', cap', cur, hv, hh, h1, h2, h3, h4⟩
    · simp at hv
    · simp only [Value.slice.injEq] at hv
      obtain ⟨_, _, rfl⟩ := hv
      omega
  rw [hN] at HI HIX hl hcv ⊢
  have hgc : g ≠ c := by simpa [Value.ownBlock] using hcv
  have heq := eLeaveQ
  have HC : Hid (w.cell? ⟨c, 0, none⟩ = some (.int .i64 n)) := hc
  have hcl := World.block_lt_of_cell? _ _ hc
  obtain ⟨a, ha⟩ : ∃ a, A.length = a := ⟨_, rfl⟩
  have HAL : Hid (A.length = a) := ha
  obtain ⟨bl, hbl⟩ : ∃ bl, B.length = bl := ⟨_, rfl⟩
  have HBL : Hid (B.length = bl) := hbl
  rw [ha] at HIX hN2
  rw [hbl] at hN2
  have HN : Hid (N = a + bl + 1) := hN2
  have ha1 : a < N := by omega
  have hm1 : ((a : Int) == -1) = false := by simp
  clear h hN ha hbl hc hcv hN2
  go_enter Tryz.func175, Tryz.ntmps175
  go_wp2_with (go_at_call 177; refine HIX.mono ?_; rintro e w1 ⟨rfl, hw1⟩; subst hw1)
  go_loopw [5, 6] (fun iv jv wr => ∃ t : Nat, t ≤ bl ∧ iv = .int .i64 ((a + t : Nat) : Int) ∧ jv = .int .i64 ((a + 1 + t : Nat) : Int) ∧ Mv A B g off N cap t wr ∧ Ot (· = g) w1 wr) (fun _ jv _ => N + 1 - (intOf jv).toNat)
  case atStart => exact ⟨0, Nat.zero_le _, rfl, rfl, ⟨n, HI.out⟩, Ot.refl _ _⟩
  case round =>
    obtain ⟨t, ht, rfl, rfl, ⟨x, hin⟩, hot⟩ := hrel
    have HIN : Hid (Ins wr (.slice (some ⟨g, off, none⟩) N cap) (mvL A B t x)) := hin
    have HOT : Hid (Ot (· = g) w1 wr) := hot
    have hcw : wr.cell? ⟨c, 0, none⟩ = some (.int .i64 n) := (hot.cell (p := ⟨c, 0, none⟩) hcl (fun e => hgc e.symm)).trans HC.out
    have hgw : g < wr.heap.size := Nat.lt_of_lt_of_le hg hot.size
    clear hin hot
    by_cases hlt : t < bl
    · obtain ⟨y, hy⟩ : ∃ y, B[t]? = some y := ⟨_, List.getElem?_eq_getElem (by rw [HBL.out]; exact hlt)⟩
      have HY : Hid (B[t]? = some y) := hy
      have hne : (y == n) = false := by
        simp only [beq_eq_false_iff_ne, ne_eq]
        rintro rfl
        exact hB (List.mem_of_getElem? hy)
      have hget := mvL_get (A := A) (x := x) hy
      rw [HAL.out] at hget
      obtain ⟨g', off', cap', e1, _, k1, _⟩ := Ins.at HIN.out hget
      simp only [Value.slice.injEq, Option.some.injEq, Addr.mk.injEq, and_true] at e1
      obtain ⟨⟨rfl, rfl⟩, hx1, hx2⟩ := e1
      clear hx1 hx2
      have hlen := mvL_len A B x (t := t) (by rw [HBL.out]; exact ht)
      obtain ⟨z, hz⟩ : ∃ z, (mvL A B t x)[a + t]? = some z := ⟨_, List.getElem?_eq_getElem (by rw [hlen, HAL.out, HBL.out]; omega)⟩
      obtain ⟨g', off', cap', e1, _, k2, k3⟩ := Ins.at HIN.out hz
      simp only [Value.slice.injEq, Option.some.injEq, Addr.mk.injEq, and_true] at e1
      obtain ⟨⟨rfl, rfl⟩, hx1, hx2⟩ := e1
      clear hx1 hx2
      have HQ := leaveQ_any y n c wr hcw
      rw [hne] at HQ
      have hN3 : a + 1 + t < N := by have := HN.out; omega
      have hN4 : a + t < N := by omega
      have HNX : Hid (Ins (wr.setCell ⟨g, off + (a + t), none⟩ (.int .i64 y)) (.slice (some ⟨g, off, none⟩) N cap) (mvL A B (t + 1) y)) := by
        have h1 : Ins wr (.slice (some ⟨g, off, none⟩) (mvL A B t x).length cap) (mvL A B t x) := by
          have e : (mvL A B t x).length = N := by rw [hlen, HAL.out, HBL.out, HN.out]
          rw [e]; exact HIN.out
        have h2 := Ins.set h1 (a + t) (by rw [hlen, HAL.out, HBL.out]; omega) y
        have h3 := mvL_set (A := A) (x := x) HY.out
        rw [HAL.out] at h3
        rw [h3] at h2
        have e : (mvL A B t x).length = N := by rw [hlen, HAL.out, HBL.out, HN.out]
        rw [e] at h2
        exact h2
      clear hy hget hz hlen hne
      go_wp2_with (go_at_call 176; refine HQ.mono ?_; rintro e w2 ⟨rfl, hw2⟩; subst hw2)
      go_roundw
      case rel => exact ⟨t + 1, by omega, by go_num, by go_num, ⟨y, HNX.out⟩, Ot.setCell HOT.out (Or.inl rfl) _⟩
      case measure => simp [intOf]; omega
    · obtain rfl : t = bl := by omega
      have hNe : a + 1 + t = N := by have := HN.out; omega
      have HNE : Hid (a + 1 + t = N) := hNe
      have hlen := mvL_len A B x (t := t) (by rw [HBL.out]; exact ht)
      obtain ⟨z, hz⟩ : ∃ z, (mvL A B t x)[a + t]? = some z := ⟨_, List.getElem?_eq_getElem (by rw [hlen, HAL.out, HBL.out]; omega)⟩
      obtain ⟨g', off', cap', e1, _, k2, k3⟩ := Ins.at HIN.out hz
      simp only [Value.slice.injEq, Option.some.injEq, Addr.mk.injEq, and_true] at e1
      obtain ⟨⟨rfl, rfl⟩, hx1, hx2⟩ := e1
      clear hx1 hx2
      have hclr := fun ty c' => Go.Lib.run_clear_slice (P := Tryz.prog) wr 156 3 ty (.int .i64 0) Tryz.underlying156 zeroInt rfl rfl g (off + (a + t)) 1 c' (by decide) (fun j hj => by { obtain rfl : j = 0 := (by omega); simp [k2] }) (fun j hj => by { obtain rfl : j = 0 := (by omega); simpa using k3 })
      simp only [List.replicate, World.setCells] at hclr
      have hN4 : a + t < N := by omega
      have hN5 : N - (a + t) = 1 := by omega
      have hN6 : ((N : Int) - ((a + t : Nat) : Int)) = 1 := by omega
      have hN7 : ¬ cap = a + t := by omega
      have hN8 : a + t ≤ cap := by omega
      have hN9 : ¬ (a + 1 + t < N) := by omega
      clear hz hlen hNe
      go_wp2
      go_ret
      have e1 := HBL.out
      subst e1
      have e2 := HAL.out
      subst e2
      refine ⟨_, rfl, ins_front HIN.out _, rfl, ?_⟩
      have hO : Ot (fun k => (Value.slice (some ⟨g, off, none⟩) N cap).ownBlock = some k) w1 wr := HOT.out.mono (fun k _ e => by rw [show k = g from e]; rfl)
      have hO2 := Ot.setCell (p := ⟨g, off + (A.length + B.length), none⟩) hO (Or.inl rfl) (.int .i64 0)
      exact hO2
set_option maxHeartbeats 1000000 in
theorem leave_any {b n : Nat} {T : TypeId} {C : Nat → Value} {o : Nat} {tv : Value} (A B : List Int) (m : Int) (w : World) (h : TO w b n T C o tv (A ++ m :: B)) (hA : m ∉ A) (hB : m ∉ B) (hl : (A ++ m :: B).length ≤ 1000) :
    Calls Tryz.prog 171 #[.pointer (some ⟨b, o, none⟩), .int .i64 m] w fun e w' => e = .returned (.tuple #[]) ∧ ∃ tv', TPost w b n T C o tv (A ++ B) w' tv' := by
  have H : Hid (TO w b n T C o tv (A ++ m :: B)) := h
  have HD : Hid (∀ W : World, Below w.heap.size w W → W.cell? ⟨w.heap.size, 0, none⟩ = some (.int .i64 m) → Calls Tryz.prog 175 #[tv, .func (.func 176) #[] #[.pointer (some ⟨w.heap.size, 0, none⟩)]] W fun e w' => ∃ tv', e = .returned tv' ∧ Ins w' tv' (A ++ B) ∧ tv'.ownBlock = tv.ownBlock ∧ Ot (fun k => tv.ownBlock = some k) W w') :=
    fun W hW hc => tdel_any A B m w.heap.size W (Seg.below h.row hW) hA hB hc (fun e => by have := Seg.lt h.row e; omega) hl
  obtain ⟨c0, f0⟩ := h.cell
  have hb := h.blk.lt
  clear h
  go_enter Tryz.func171, Tryz.ntmps171
  go_wp2_with (go_at_call 175; fail)
  refine (HD.out _ (below_alloc_ (Below.refl _ _) _) ?_).mono ?_
  · exact (one_cell (new_block w _)).1
  rintro e w1 ⟨tv', rfl, hi1, hk1, ho1⟩
  obtain ⟨tx, tcap, htv⟩ := Ins.slice hi1
  obtain ⟨tl, htl⟩ : ∃ tl, (A ++ B).length = tl := ⟨_, rfl⟩
  rw [htl] at htv
  subst htv
  have hB1 : Blk w1 b n T C := H.out.blk.kept ((ho1.block b (by simp; omega) H.out.ne).trans (Below.heap_alloc _ _ _ hb))
  obtain ⟨k1, k2⟩ := hB1.cell H.out.lt
  rw [H.out.c0] at k1
  have hbs := hB1.lt
  go_wp2
  go_end0
  refine ⟨rfl, _, TO.set hB1 H.out.lt hi1 (by rw [hk1]; exact H.out.ne), fun k hk => Or.inl (by rw [← hk1]; exact hk), ?_⟩
  refine Ot.setCell ?_ (Or.inl (Or.inl rfl)) _
  exact (Ot.alloc (Ot.refl _ w) _).trans (ho1.mono (fun k _ e => Or.inr e))
theorem TPost.trans {w w1 w2 : World} {b n : Nat} {T : TypeId} {C : Nat → Value} {o : Nat} {tv tv1 tv2 : Value} {l l' : List Int} (h : TPost w b n T C o tv l w1 tv1) (k : TPost w1 b n T (updC C o tv1) o tv1 l' w2 tv2) : TPost w b n T C o tv l' w2 tv2 := by
  have hs := h.ot.size
  refine ⟨⟨k.pos.blk.cong (fun i _ => ?_), k.pos.lt, updC_same _ _ _, k.pos.row, k.pos.ne⟩, fun j hj => ?_, h.ot.trans' k.ot (fun j hj hlt => ?_)⟩
  · by_cases e : i = o
    · subst e; rw [updC_same, updC_same]
    · rw [updC_ne e, updC_ne e, updC_ne e]
  · rcases k.own j hj with h1 | h1
    · exact h.own j h1
    · exact Or.inr (by omega)
  · rcases hj with e | e
    · exact Or.inl e
    · rcases h.own j e with h1 | h1
      · exact Or.inr h1
      · omega
set_option maxHeartbeats 1000000 in
theorem fpass_any {b n : Nat} {T : TypeId} {C : Nat → Value} {o : Nat} {tv : Value} (A B : List Int) (m : Int) (w : World) (h : TO w b n T C o tv (A ++ m :: B)) (hA : m ∉ A) (hB : m ∉ B) (hl : (A ++ m :: B).length ≤ 1000) :
    Calls Tryz.prog 172 #[.pointer (some ⟨b, o, none⟩), .int .i64 m] w fun e w' => e = .returned (.tuple #[]) ∧ ∃ tv', TPost w b n T C o tv ((A ++ B) ++ [m]) w' tv' := by
  have HV := leave_any A B m w h hA hB hl
  have hl2 : (A ++ B).length ≤ 1000 := by simp at hl ⊢; omega
  clear h
  go_enter Tryz.func172, Tryz.ntmps172
  go_wp2_with (first | (go_at_call 171; refine HV.mono ?_; rintro e w1 ⟨rfl, tv1, hp1⟩) | (go_at_call 168; refine (join_any m _ hp1.pos hl2).mono ?_; rintro e w2 ⟨rfl, tv2, hp2⟩))
  go_end0
  exact ⟨rfl, tv2, hp1.trans hp2⟩
end Go.Proofs.YtfakjedolecdcaaGreatDoor
namespace Go.Proofs.YtfakjedolecdcaaGreatDoor
open Go.RowKit Go.Extern.Stop Go.Stop Go.Extern

def updF {α : Type} (g : Nat → α) (i : Nat) (x : α) : Nat → α := fun j => if j = i then x else g j
theorem updF_same {α : Type} (g : Nat → α) (i : Nat) (x : α) : updF g i x i = x := by simp [updF]
theorem updF_ne {α : Type} {g : Nat → α} {i j : Nat} {x : α} (h : j ≠ i) : updF g i x j = g j := by simp [updF, h]
/-- What Rounds keep: each flow's packets, its credit; whose turn it is, one behind the other; whether the first one's has begun. -/
structure RnS where
  fl : Nat → List Hd
  cr : Nat → Int
  tn : List Int
  bg : Bool
structure RnP (w : World) (b : Nat) (room : Int) (q : Nat → Int) (C : Nat → Value) (vs : Nat → Value) (tv : Value) (s : RnS) : Prop where
  blk : Blk w b 67 164 C
  c0 : C 0 = .int .i64 room
  cq : ∀ f, f < 16 → C (1 + f) = .int .i64 (q f)
  cc : ∀ f, f < 16 → C (17 + f) = .int .i64 (s.cr f)
  cv : ∀ f, f < 16 → C (33 + f * 2) = vs f
  cs : ∀ f, f < 16 → C (33 + f * 2 + 1) = .int .i64 (sumL (s.fl f))
  ct : C 65 = tv
  cb : C 66 = .bool s.bg
  row : ∀ f, f < 16 → Hs w (vs f) (s.fl f)
  vne : ∀ f, f < 16 → (vs f).ownBlock ≠ some b
  vdis : ∀ f g, f < 16 → g < 16 → f ≠ g → ∀ k, (vs f).ownBlock = some k → (vs g).ownBlock ≠ some k
  trow : Ins w tv s.tn
  tne : tv.ownBlock ≠ some b
  tdis : ∀ f, f < 16 → ∀ k, (vs f).ownBlock = some k → tv.ownBlock ≠ some k
/-- Its blocks. -/
def RnF (b : Nat) (vs : Nat → Value) (tv : Value) (k : Nat) : Prop := k = b ∨ (∃ f, f < 16 ∧ (vs f).ownBlock = some k) ∨ tv.ownBlock = some k
theorem RnP.kept {w w' : World} {b : Nat} {room : Int} {q : Nat → Int} {C : Nat → Value} {vs : Nat → Value} {tv : Value} {s : RnS} (h : RnP w b room q C vs tv s) (hk : ∀ k, RnF b vs tv k → w'.heap[k]? = w.heap[k]?) : RnP w' b room q C vs tv s :=
  { h with
    blk := h.blk.kept (hk b (Or.inl rfl))
    row := fun f hf => (h.row f hf).kept (fun k hv => hk k (Or.inr (Or.inl ⟨f, hf, hv⟩)))
    trow := Seg.kept h.trow (fun k hv => hk k (Or.inr (Or.inr hv))) }
theorem RnP.low {w : World} {b : Nat} {room : Int} {q : Nat → Int} {C : Nat → Value} {vs : Nat → Value} {tv : Value} {s : RnS} (h : RnP w b room q C vs tv s) {k : Nat} (hk : RnF b vs tv k) : k < w.heap.size := by
  rcases hk with rfl | ⟨f, hf, hv⟩ | hv
  · exact h.blk.lt
  · exact (h.row f hf).lt hv
  · exact Seg.lt h.trow hv
theorem RnP.below {w w' : World} {b : Nat} {room : Int} {q : Nat → Int} {C : Nat → Value} {vs : Nat → Value} {tv : Value} {s : RnS} (h : RnP w b room q C vs tv s) (hb : Below w.heap.size w w') : RnP w' b room q C vs tv s := h.kept (fun k hk => hb.block k (h.low hk))
theorem RnP.al {w : World} {b : Nat} {room : Int} {q : Nat → Int} {C : Nat → Value} {vs : Nat → Value} {tv : Value} {s : RnS} (h : RnP w b room q C vs tv s) (o : Obj) : RnP (w.alloc o) b room q C vs tv s := h.below (below_alloc_ (Below.refl _ _) _)
theorem RnP.drewN {w : World} {b : Nat} {room : Int} {q : Nat → Int} {C : Nat → Value} {vs : Nat → Value} {tv : Value} {s : RnS} (h : RnP w b room q C vs tv s) (n : Nat) : RnP (w.drewN n) b room q C vs tv s := h.kept (fun _ _ => rfl)
/-- Blocks that are not its own may be written. -/
theorem RnP.setO {w : World} {b : Nat} {room : Int} {q : Nat → Int} {C : Nat → Value} {vs : Nat → Value} {tv : Value} {s : RnS} (h : RnP w b room q C vs tv s) {p : Addr} (hp : ¬ RnF b vs tv p.block) (u : Value) : RnP (w.setCell p u) b room q C vs tv s :=
  h.kept (fun _ hk => Below.heap_setCell _ _ _ _ (fun e => hp (e ▸ hk)))
/-- A cell of its own is written. -/
theorem RnP.setB {w : World} {b : Nat} {room : Int} {q : Nat → Int} {C : Nat → Value} {vs : Nat → Value} {tv : Value} {s : RnS} (h : RnP w b room q C vs tv s) (x : Bool) : RnP (w.setCell ⟨b, 66, none⟩ (.bool x)) b room q (updC C 66 (.bool x)) vs tv { s with bg := x } where
  blk := h.blk.set 66 _
  c0 := by rw [updC_ne (by omega)]; exact h.c0
  cq := fun f hf => by rw [updC_ne (by omega)]; exact h.cq f hf
  cc := fun f hf => by rw [updC_ne (by omega)]; exact h.cc f hf
  cv := fun f hf => by rw [updC_ne (by omega)]; exact h.cv f hf
  cs := fun f hf => by rw [updC_ne (by omega)]; exact h.cs f hf
  ct := by rw [updC_ne (by omega)]; exact h.ct
  cb := updC_same _ _ _
  row := fun f hf => (h.row f hf).setCell (p := ⟨b, 66, none⟩) (h.vne f hf) _
  vne := h.vne
  vdis := h.vdis
  trow := Seg.setCell (p := ⟨b, 66, none⟩) h.trow h.tne _
  tne := h.tne
  tdis := h.tdis
theorem RnP.setC {w : World} {b : Nat} {room : Int} {q : Nat → Int} {C : Nat → Value} {vs : Nat → Value} {tv : Value} {s : RnS} (h : RnP w b room q C vs tv s) {f : Nat} (hf : f < 16) (x : Int) : RnP (w.setCell ⟨b, 17 + f, none⟩ (.int .i64 x)) b room q (updC C (17 + f) (.int .i64 x)) vs tv { s with cr := updF s.cr f x } where
  blk := h.blk.set _ _
  c0 := by rw [updC_ne (by omega)]; exact h.c0
  cq := fun g hg => by rw [updC_ne (by omega)]; exact h.cq g hg
  cc := fun g hg => by
    by_cases e : g = f
    · subst e; rw [updC_same]; show _ = Value.int .i64 (updF s.cr g x g); rw [updF_same]
    · rw [updC_ne (by omega)]; show _ = Value.int .i64 (updF s.cr f x g); rw [updF_ne e]; exact h.cc g hg
  cv := fun g hg => by rw [updC_ne (by omega)]; exact h.cv g hg
  cs := fun g hg => by rw [updC_ne (by omega)]; exact h.cs g hg
  ct := by rw [updC_ne (by omega)]; exact h.ct
  cb := by rw [updC_ne (by omega)]; exact h.cb
  row := fun g hg => (h.row g hg).setCell (p := ⟨b, 17 + f, none⟩) (h.vne g hg) _
  vne := h.vne
  vdis := h.vdis
  trow := Seg.setCell (p := ⟨b, 17 + f, none⟩) h.trow h.tne _
  tne := h.tne
  tdis := h.tdis
/-- A flow's list, as a list in the block. -/
theorem RnP.list {w : World} {b : Nat} {room : Int} {q : Nat → Int} {C : Nat → Value} {vs : Nat → Value} {tv : Value} {s : RnS} (h : RnP w b room q C vs tv s) {f : Nat} (hf : f < 16) : LO w b 67 164 C (33 + f * 2) (vs f) (s.fl f) := ⟨h.blk, by omega, h.cv f hf, h.cs f hf, h.row f hf, h.vne f hf⟩
theorem RnP.turns {w : World} {b : Nat} {room : Int} {q : Nat → Int} {C : Nat → Value} {vs : Nat → Value} {tv : Value} {s : RnS} (h : RnP w b room q C vs tv s) : TO w b 67 164 C 65 tv s.tn := ⟨h.blk, by omega, h.ct, h.trow, h.tne⟩
/-- A flow's list is another one. -/
theorem RnP.listed {w w' : World} {b : Nat} {room : Int} {q : Nat → Int} {C : Nat → Value} {vs : Nat → Value} {tv : Value} {s : RnS} (h : RnP w b room q C vs tv s) {f : Nat} (hf : f < 16) {v' : Value} {L' : List Hd} (hl : LO w' b 67 164 (updL C (33 + f * 2) v' L') (33 + f * 2) v' L') (ho : ∀ k, v'.ownBlock = some k → (vs f).ownBlock = some k ∨ w.heap.size ≤ k) (hot : Ot (fun k => k = b ∨ (vs f).ownBlock = some k) w w') : RnP w' b room q (updL C (33 + f * 2) v' L') (updF vs f v') tv { s with fl := updF s.fl f L' } where
  blk := hl.blk
  c0 := by rw [updL_ne (by omega) (by omega)]; exact h.c0
  cq := fun g hg => by rw [updL_ne (by omega) (by omega)]; exact h.cq g hg
  cc := fun g hg => by rw [updL_ne (by omega) (by omega)]; exact h.cc g hg
  cv := fun g hg => by
    by_cases e : g = f
    · subst e; rw [updL_0, updF_same]
    · rw [updL_ne (by omega) (by omega), updF_ne e]; exact h.cv g hg
  cs := fun g hg => by
    by_cases e : g = f
    · subst e; rw [updL_1]; show _ = Value.int .i64 (sumL (updF s.fl g L' g)); rw [updF_same]
    · rw [updL_ne (by omega) (by omega)]; show _ = Value.int .i64 (sumL (updF s.fl f L' g)); rw [updF_ne e]; exact h.cs g hg
  ct := by rw [updL_ne (by omega) (by omega)]; exact h.ct
  cb := by rw [updL_ne (by omega) (by omega)]; exact h.cb
  row := fun g hg => by
    by_cases e : g = f
    · subst e; show Hs w' (updF vs g v' g) (updF s.fl g L' g); rw [updF_same, updF_same]; exact hl.row
    · show Hs w' (updF vs f v' g) (updF s.fl f L' g); rw [updF_ne e, updF_ne e]
      refine Seg.oth (h.row g hg) hot (fun k hk hs => ?_)
      rcases hs with rfl | hs
      · exact h.vne g hg hk
      · exact h.vdis g f hg hf e k hk hs
  vne := fun g hg => by
    by_cases e : g = f
    · subst e; rw [updF_same]; exact hl.ne
    · rw [updF_ne e]; exact h.vne g hg
  vdis := fun g g' hg hg' hne k hk hk' => by
    by_cases e : g = f
    · subst e
      rw [updF_same] at hk
      rw [updF_ne (fun e => hne e.symm)] at hk'
      rcases ho k hk with h1 | h1
      · exact h.vdis g g' hg hg' hne k h1 hk'
      · have := (h.row g' hg').lt hk'; omega
    · rw [updF_ne e] at hk
      by_cases e' : g' = f
      · subst e'
        rw [updF_same] at hk'
        rcases ho k hk' with h1 | h1
        · exact h.vdis g g' hg hg' hne k hk h1
        · have := (h.row g hg).lt hk; omega
      · rw [updF_ne e'] at hk'
        exact h.vdis g g' hg hg' hne k hk hk'
  trow := Seg.oth h.trow hot (fun k hk hs => by
    rcases hs with rfl | hs
    · exact h.tne hk
    · exact h.tdis f hf k hs hk)
  tne := h.tne
  tdis := fun g hg k hk hk' => by
    by_cases e : g = f
    · subst e
      rw [updF_same] at hk
      rcases ho k hk with h1 | h1
      · exact h.tdis g hg k h1 hk'
      · have := Seg.lt h.trow hk'; omega
    · rw [updF_ne e] at hk
      exact h.tdis g hg k hk hk'
/-- The row of turns is another one. -/
theorem RnP.turned {w w' : World} {b : Nat} {room : Int} {q : Nat → Int} {C : Nat → Value} {vs : Nat → Value} {tv tv' : Value} {s : RnS} {l : List Int} (h : RnP w b room q C vs tv s) (hp : TPost w b 67 164 C 65 tv l w' tv') : RnP w' b room q (updC C 65 tv') vs tv' { s with tn := l } where
  blk := hp.pos.blk
  c0 := by rw [updC_ne (by omega)]; exact h.c0
  cq := fun g hg => by rw [updC_ne (by omega)]; exact h.cq g hg
  cc := fun g hg => by rw [updC_ne (by omega)]; exact h.cc g hg
  cv := fun g hg => by rw [updC_ne (by omega)]; exact h.cv g hg
  cs := fun g hg => by rw [updC_ne (by omega)]; exact h.cs g hg
  ct := updC_same _ _ _
  cb := by rw [updC_ne (by omega)]; exact h.cb
  row := fun g hg => Seg.oth (h.row g hg) hp.ot (fun k hk hs => by
    rcases hs with rfl | hs
    · exact h.vne g hg hk
    · exact h.tdis g hg k hk hs)
  vne := h.vne
  vdis := h.vdis
  trow := hp.pos.row
  tne := hp.pos.ne
  tdis := fun g hg k hk hk' => by
    rcases hp.own k hk' with h1 | h1
    · exact h.tdis g hg k hk h1
    · have := (h.row g hg).lt hk; omega
end Go.Proofs.YtfakjedolecdcaaGreatDoor
namespace Go.Proofs.YtfakjedolecdcaaGreatDoor
open Go.RowKit Go.Extern.Stop Go.Stop Go.Extern

theorem Ot.here {b i : Nat} {a w : World} (h : Ot (· = b) a w) (u : Value) : Ot (· = b) a (w.setCell ⟨b, i, none⟩ u) := Ot.setCell h (Or.inl rfl) u
def beginS (q : Nat → Int) (s : RnS) (f : Nat) : RnS := if s.bg then s else { s with bg := true, cr := updF s.cr f (s.cr f + q f) }
theorem RnP.cells {w : World} {b : Nat} {room : Int} {q : Nat → Int} {C : Nat → Value} {vs : Nat → Value} {tv : Value} {s : RnS} (h : RnP w b room q C vs tv s) : (w.cell? ⟨b, 0, none⟩ = some (.int .i64 room) ∧ w.cell? ⟨b, 65, none⟩ = some tv ∧ w.cell? ⟨b, 66, none⟩ = some (.bool s.bg)) ∧ w.frozen? ⟨b, 65, none⟩ = false ∧ w.frozen? ⟨b, 66, none⟩ = false := by
  have a0 := h.blk.cell (i := 0) (by omega)
  have a1 := h.blk.cell (i := 65) (by omega)
  have a2 := h.blk.cell (i := 66) (by omega)
  rw [h.c0] at a0
  rw [h.ct] at a1
  rw [h.cb] at a2
  exact ⟨⟨a0.1, a1.1, a2.1⟩, a1.2, a2.2⟩
theorem RnP.flow {w : World} {b : Nat} {room : Int} {q : Nat → Int} {C : Nat → Value} {vs : Nat → Value} {tv : Value} {s : RnS} (h : RnP w b room q C vs tv s) {f : Nat} (hf : f < 16) : w.cell? ⟨b, 1 + f, none⟩ = some (.int .i64 (q f)) ∧ w.cell? ⟨b, 17 + f, none⟩ = some (.int .i64 (s.cr f)) ∧ w.frozen? ⟨b, 17 + f, none⟩ = false := by
  have a0 := h.blk.cell (i := 1 + f) (by omega)
  have a1 := h.blk.cell (i := 17 + f) (by omega)
  rw [h.cq f hf] at a0
  rw [h.cc f hf] at a1
  exact ⟨a0.1, a1.1, a1.2⟩
set_option maxHeartbeats 1000000 in
theorem rbegin_any {b : Nat} {room : Int} {q : Nat → Int} {C : Nat → Value} {vs : Nat → Value} {tv : Value} {s : RnS} (f : Nat) (w : World) (h : RnP w b room q C vs tv s) (hf : f < 16) (hc0 : 0 ≤ s.cr f) (hc1 : s.cr f ≤ 2000000) (hq0 : 1 ≤ q f) (hq1 : q f ≤ 1000000) :
    Calls Tryz.prog 183 #[.pointer (some ⟨b, 0, none⟩), .int .i64 f] w fun e w' => e = .returned (.tuple #[]) ∧ ∃ C', RnP w' b room q C' vs tv (beginS q s f) ∧ Ot (· = b) w w' := by
  have H : Hid (RnP w b room q C vs tv s) := h
  obtain ⟨⟨c0, c65, c66⟩, f65, f66⟩ := h.cells
  obtain ⟨d0, d1, d2⟩ := h.flow hf
  have hb := h.blk.lt
  clear h
  have hw : IntKind.i64.wrap (s.cr f + q f) = s.cr f + q f := by rw [IntKind.wrap_i64]; omega
  cases hbg : s.bg with
  | true =>
    have hB : beginS q s f = s := by rw [beginS, hbg]; rfl
    rw [hB]
    rw [hbg] at c66
    clear hB hbg
    go_enter Tryz.func183, Tryz.ntmps183
    go_wp2
    go_end0
    exact ⟨rfl, C, H.out, Ot.refl _ _⟩
  | false =>
    have hB : beginS q s f = { s with bg := true, cr := updF s.cr f (s.cr f + q f) } := by rw [beginS, hbg]; rfl
    rw [hB]
    rw [hbg] at c66
    clear hB hbg
    go_enter Tryz.func183, Tryz.ntmps183
    go_wp2
    all_goals go_region
    all_goals go_wp2
    all_goals
      go_end0
      exact ⟨rfl, _, ((H.out.setB true).setC hf _).drewN 1, (Ot.here (Ot.here (Ot.refl _ _) _) _).drew⟩
/-- What a method leaves of Rounds. -/
structure RnO (w : World) (b : Nat) (room : Int) (q : Nat → Int) (vs : Nat → Value) (tv : Value) (s' : RnS) (w' : World) (C' : Nat → Value) (vs' : Nat → Value) (tv' : Value) : Prop where
  pos : RnP w' b room q C' vs' tv' s'
  own : ∀ k, RnF b vs' tv' k → RnF b vs tv k ∨ w.heap.size ≤ k
  ot : Ot (RnF b vs tv) w w'
theorem RnO.trans {w w1 w2 : World} {b : Nat} {room : Int} {q : Nat → Int} {vs vs1 vs2 : Nat → Value} {tv tv1 tv2 : Value} {s1 s2 : RnS} {C1 C2 : Nat → Value} (h : RnO w b room q vs tv s1 w1 C1 vs1 tv1) (k : RnO w1 b room q vs1 tv1 s2 w2 C2 vs2 tv2) : RnO w b room q vs tv s2 w2 C2 vs2 tv2 := by
  have hs := h.ot.size
  refine ⟨k.pos, fun j hj => ?_, h.ot.trans' k.ot (fun j hj hlt => ?_)⟩
  · rcases k.own j hj with h1 | h1
    · exact h.own j h1
    · exact Or.inr (by omega)
  · rcases h.own j hj with h1 | h1
    · exact h1
    · omega
theorem rno_listed {w w' : World} {b : Nat} {room : Int} {q : Nat → Int} {C : Nat → Value} {vs : Nat → Value} {tv : Value} {s : RnS} (h : RnP w b room q C vs tv s) {f : Nat} (hf : f < 16) {v' : Value} {L' : List Hd} (hl : LO w' b 67 164 (updL C (33 + f * 2) v' L') (33 + f * 2) v' L') (ho : ∀ k, v'.ownBlock = some k → (vs f).ownBlock = some k ∨ w.heap.size ≤ k) (hot : Ot (fun k => k = b ∨ (vs f).ownBlock = some k) w w') : RnO w b room q vs tv { s with fl := updF s.fl f L' } w' (updL C (33 + f * 2) v' L') (updF vs f v') tv := by
  refine ⟨h.listed hf hl ho hot, fun k hk => ?_, hot.mono (fun k _ hk => ?_)⟩
  · rcases hk with rfl | ⟨g, hg, hv⟩ | hv
    · exact Or.inl (Or.inl rfl)
    · by_cases e : g = f
      · subst e
        rw [updF_same] at hv
        rcases ho k hv with h1 | h1
        · exact Or.inl (Or.inr (Or.inl ⟨g, hg, h1⟩))
        · exact Or.inr h1
      · rw [updF_ne e] at hv
        exact Or.inl (Or.inr (Or.inl ⟨g, hg, hv⟩))
    · exact Or.inl (Or.inr (Or.inr hv))
  · rcases hk with h1 | h1
    · exact Or.inl h1
    · exact Or.inr (Or.inl ⟨f, hf, h1⟩)
theorem rno_turned {w w' : World} {b : Nat} {room : Int} {q : Nat → Int} {C : Nat → Value} {vs : Nat → Value} {tv tv' : Value} {s : RnS} {l : List Int} (h : RnP w b room q C vs tv s) (hp : TPost w b 67 164 C 65 tv l w' tv') : RnO w b room q vs tv { s with tn := l } w' (updC C 65 tv') vs tv' := by
  refine ⟨h.turned hp, fun k hk => ?_, hp.ot.mono (fun k _ hk => ?_)⟩
  · rcases hk with h1 | h1 | h1
    · exact Or.inl (Or.inl h1)
    · exact Or.inl (Or.inr (Or.inl h1))
    · rcases hp.own k h1 with h2 | h2
      · exact Or.inl (Or.inr (Or.inr h2))
      · exact Or.inr h2
  · rcases hk with h1 | h1
    · exact Or.inl h1
    · exact Or.inr (Or.inr h1)
theorem rno_same {w w' : World} {b : Nat} {room : Int} {q : Nat → Int} {C' : Nat → Value} {vs : Nat → Value} {tv : Value} {s' : RnS} (h' : RnP w' b room q C' vs tv s') (ho : Ot (RnF b vs tv) w w') : RnO w b room q vs tv s' w' C' vs tv := ⟨h', fun _ hk => Or.inl hk, ho⟩
end Go.Proofs.YtfakjedolecdcaaGreatDoor
