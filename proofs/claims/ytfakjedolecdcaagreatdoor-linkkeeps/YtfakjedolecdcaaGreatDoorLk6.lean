/-
  link.Run with whatever queue: what it tells. Conditions: errors.errorType holds its handle; the queue's methods do what a model of it tells (a premise); the packets lie in memory that the queue does not write.
-/
import Derived.Test.YtfakjedolecdcaaGreatDoorLk5
import Derived.Laws.EntriesVeiled
namespace Go.Proofs.YtfakjedolecdcaaGreatDoor
open Go.RowKit Go.Extern.Stop Go.Stop Go.Extern

theorem okL.all {xs : List It} (h : okL xs) : (∀ x ∈ xs, x.ok = true) ∧ (xs.map It.a).Pairwise (· ≤ ·) := by
  have hfi := h.fine.1
  unfold okL at h
  have hl : ¬ 100 < xs.length := fun hl => by rw [listE_long hl] at h; simp at h
  have hf : ∀ j, j < xs.length → faultAt xs j = 0 := by
    intro j hj
    cases hb : firstBad xs with
    | none =>
      unfold firstBad at hb
      simp at hb
      exact hb j hj
    | some i =>
      exfalso
      simp only [listE, hl, if_false, hb] at h
      unfold firstBad at hb
      rw [List.find?_range_eq_some] at hb
      have := hb.1
      simp [h] at this
  refine ⟨fun x hx => ?_, ?_⟩
  · obtain ⟨k, hk⟩ := List.getElem?_of_mem hx
    have h1 := hf k (List.getElem?_eq_some_iff.1 hk).1
    cases ho : x.ok with
    | true => rfl
    | false => rw [fault_range hk ho] at h1; simp at h1
  · rw [List.pairwise_iff_getElem]
    intro i j hi hj hij
    simp only [List.length_map] at hi hj
    simp only [List.getElem_map]
    induction j with
    | zero => omega
    | succ j ih =>
      have h2 := (hfi j xs[j] (List.getElem?_eq_getElem (by omega))).2 xs[j + 1] (List.getElem?_eq_getElem hj)
      by_cases e : i = j
      · subst e; exact h2
      · exact Int.le_trans (ih (by omega) (by omega) (by omega)) h2
theorem lk_makeFunc (fn : Fn) (first cap : Array Value) (w : World) : (Instr.makeFunc fn first cap).run Tryz.prog w = .ok (.func fn first cap) w := rfl
theorem sizeLog : (Tryz.prog.info? 41).map (·.size) = some 4 := by kernel_rfl
theorem load_log {w : World} {b : Nat} {t : TypeId} {fr : Nat × Nat} {a0 a1 a2 a3 : Value} (h : w.heap[b]? = some (.cells #[a0, a1, a2, a3] t fr)) : (loadVar 41 ⟨b, 0, none⟩).run Tryz.prog w = .ok (.agg #[a0, a1, a2, a3]) w :=
  run_loadVar_row w b t 41 _ fr _ h Tryz.underlying41 rfl sizeLog
/-- What Run leaves. -/
structure RunP (M : QM) (items : List It) (n t u : Int) (s0 : M.σ) (F0 : Nat → Prop) (w : World) (k : Nat) (sv lv : Value) (F : Nat → Prop) (w' : World) : Prop where
  on : ∀ j, j < k → goesOn u (itL M items n t s0 j)
  off : ¬ goesOn u (itL M items n t s0 k)
  sent : Seg w' 49 4 sv (itL M items n t s0 k).1.sent.length (flt Snt.cs (itL M items n t s0 k).1.sent)
  lost : Ins w' lv (itL M items n t s0 k).1.lost
  sn : ∀ b, sv.ownBlock = some b → w.heap.size ≤ b
  ln : ∀ b, lv.ownBlock = some b → w.heap.size ≤ b
  que : M.At w' F (itL M items n t s0 k).1.s
  fnew : ∀ k, F k → F0 k ∨ w.heap.size ≤ k
  ot : Ot F0 w w'
theorem LgB.below {w w' : World} {b : Nat} {sv lv : Value} {wt ms : Int} (h : LgB w b sv lv wt ms) (hb : Below w.heap.size w w') : LgB w' b sv lv wt ms := (hb.block b (lt_of_block h)).trans h
theorem LgB.most {w : World} {b : Nat} {sv lv : Value} {wt ms : Int} (h : LgB w b sv lv wt ms) (v : Int) : LgB (w.setCell ⟨b, 3, none⟩ (.int .i64 v)) b sv lv wt v := by
  unfold LgB
  rw [heap_setCell_here h]
  simp
theorem LgB.sent {w : World} {b : Nat} {sv lv : Value} {wt ms : Int} (h : LgB w b sv lv wt ms) (v : Value) : LgB (w.setCell ⟨b, 0, none⟩ v) b v lv wt ms := by
  unfold LgB
  rw [heap_setCell_here h]
  simp
/-- The most that waited is written. -/
theorem LkAt.mostd {M : QM} (hM : M.Fine) {C : LkC} {S : LkS M.σ} {w : World} {F : Nat → Prop} {sv lv : Value} (h : LkAt M C S w F sv lv) {v : Int} (hv : v = max S.most (M.bytes S.s)) : LkAt M C (mostS M S) (w.setCell ⟨C.bg, 3, none⟩ (.int .i64 v)) F sv lv := by
  refine h.logd (S' := mostS M S) hM ?_ (h.sent.setCell (p := ⟨C.bg, 3, none⟩) (fun e => (h.sn _ e).2.2.2.1 rfl) _) (Ot.setCell (S := fun k => k = C.bg ∨ sv.ownBlock = some k) (p := ⟨C.bg, 3, none⟩) (Ot.refl _ _) (Or.inl (Or.inl rfl)) _) (fun k hk => Or.inl hk) rfl rfl rfl rfl
  show LgB _ _ _ _ _ (max S.most (M.bytes S.s))
  rw [← hv]
  exact LgB.most (ms := S.most) h.log v
def gaugeL (u : Int) (nv mv : Value) : Nat := match mv with
  | .bool true => (u + 1 - intOf nv).toNat + 1
  | _ => 0
theorem send_any {M : QM} (hM : M.Fine) {C : LkC} (hC : C.Good) {S : LkS M.σ} {now : Int} (w : World) (h : LkW M C S w) (h2 : now ≤ 10000000) (hI : ∃ tI, 0 ≤ tI ∧ tI ≤ now ∧ M.inv tI S.put S.s) (hput : S.put ≤ C.items.length) (hl : S.lost.length ≤ 16000000000000) :
    Calls Tryz.prog 43 #[.pointer (some ⟨C.bw, 0, none⟩), .int .i64 now] w fun e w' => e = .returned (ans (sendS M C.n C.t now S).2) ∧ LkW M C (sendS M C.n C.t now S).1 w' := by
  by_cases hb : now < S.free
  · have e0 : sendS M C.n C.t now S = (S, none) := by unfold sendS; rw [if_pos hb]
    rw [e0]
    exact send_busy hM w h hb
  · exact send_free hM hC w h hb h2 hI hput hl
set_option maxRecDepth 20000 in
set_option maxHeartbeats 4000000 in
theorem run_yes {M : QM} (hM : M.Fine) (F0 : Nat → Prop) (s0 : M.σ) (n t : Int) (x : Option Addr) (cap : Nat) (items : List It) (u : Int) (w : World) (hA : M.At w F0 s0) (hI : M.inv 0 0 s0) (hr : okRate n t = true) (hl : okL items) (hL : Laid w) (hit : ItemsAt w x items) (hout : ∀ a, x = some a → items ≠ [] → ¬ F0 a.block) (hm : items.length ≤ maxLen) (hu0 : 0 ≤ u) (hu1 : u ≤ 10000000) :
    Calls Tryz.prog 26 #[.iface M.ty M.rv, .agg #[.int .i64 n, .int .i64 t], .slice x items.length cap, .int .i64 u] w fun e w' => ∃ k sv lv F, e = .returned (.tuple #[.agg #[sv, lv, .int .i64 (M.len (itL M items n t s0 k).1.s), .int .i64 (itL M items n t s0 k).1.most], .nilIface]) ∧ RunP M items n t u s0 F0 w k sv lv F w' := by
  have HM : Hid M.Fine := hM
  have HA0 : Hid (M.At w F0 s0) := hA
  have HI0 : Hid (M.inv 0 0 s0) := hI
  have HGOOD : Hid (∀ W bw bg, Below w.heap.size w W → (LkC.mk W F0 bw bg n t x cap items).Good) := fun W bw bg hW => ⟨(hit.below hW).lies, hout, hl.fine.2, hl.all.1, hl.all.2, hr⟩
  have HCK : Hid (∀ W, Below w.heap.size w W → Calls Tryz.prog 39 #[.iface M.ty M.rv, .agg #[.int .i64 n, .int .i64 t], .slice x items.length cap, .int .i64 u] W fun e w' => e = .returned .nilIface ∧ Below W.heap.size W w') := fun W hW => lkcheck_yes M.ty M.rv n t x cap items u W hr hl (hL.below hW) (hit.below hW) hm hu0 hu1
  have hlen : items.length ≤ 100 := hl.fine.2
  have hmf := lk_makeFunc
  have hmL := hM.mL
  have heL := hM.eL
  have hmB := hM.mB
  have heB := hM.eB
  have HLOW : Hid (∀ k, F0 k → k < w.heap.size) := HM.out.low hA
  have HORD : Hid ((items.map It.a).Pairwise (· ≤ ·)) := hl.all.2
  clear hM hA hI hr hl hL hit hout hm
  go_enter Tryz.func26, Tryz.ntmps26
  go_wp2_with (go_at_call 39; fail)
  have HB1 : Hid (Below w.heap.size w ((w.alloc (.cells #[.int .i64 n, .int .i64 t] 37)).alloc (.cells #[.slice none 0 0, .slice none 0 0, .int .i64 0, .int .i64 0] 41))) := below_alloc_ (below_alloc_ (Below.refl _ _) _) _
  have hr1 : ((w.alloc (.cells #[.int .i64 n, .int .i64 t] 37)).alloc (.cells #[.slice none 0 0, .slice none 0 0, .int .i64 0, .int .i64 0] 41)).heap[w.heap.size]? = some (.cells #[.int .i64 n, .int .i64 t] 37 (0, 0)) := by rw [Below.heap_alloc _ _ _ (by simp)]; exact new_block _ _
  have hg1 : ((w.alloc (.cells #[.int .i64 n, .int .i64 t] 37)).alloc (.cells #[.slice none 0 0, .slice none 0 0, .int .i64 0, .int .i64 0] 41)).heap[w.heap.size + 1]? = some (.cells #[.slice none 0 0, .slice none 0 0, .int .i64 0, .int .i64 0] 41 (0, 0)) := new_block_ (by simp)
  generalize (w.alloc (.cells #[.int .i64 n, .int .i64 t] 37)).alloc (.cells #[.slice none 0 0, .slice none 0 0, .int .i64 0, .int .i64 0] 41) = w1 at *
  refine (HCK.out _ HB1.out).mono ?_
  rintro e w2 ⟨rfl, hb2⟩
  have HB2 : Hid (Below w.heap.size w w2) := HB1.out.trans (hb2.mono HB1.out.size)
  have hr2 := (hb2.block _ (lt_of_block hr1)).trans hr1
  have HG2 : Hid (w2.heap[w.heap.size + 1]? = some (.cells #[.slice none 0 0, .slice none 0 0, .int .i64 0, .int .i64 0] 41 (0, 0))) := (hb2.block _ (lt_of_block hg1)).trans hg1
  have hs2 : w.heap.size + 1 < w2.heap.size := lt_of_block HG2.out
  have hs2b : w.heap.size < w2.heap.size := by omega
  have r0 : w2.cell? ⟨w.heap.size, 0, none⟩ = some (.int .i64 n) := by simp [World.cell?, hr2]
  have r1 : w2.cell? ⟨w.heap.size, 1, none⟩ = some (.int .i64 t) := by simp [World.cell?, hr2]
  clear hr1 hg1 hr2 hb2
  go_wp2
  obtain ⟨C, hC⟩ : ∃ C, LkC.mk w2 F0 (w2.heap.size + 1) w2.heap.size n t x cap items = C := ⟨_, rfl⟩
  have HCG : Hid C.Good := by show C.Good; rw [← hC]; exact HGOOD.out _ _ _ HB2.out
  have HC1 : Hid (C.w0 = w2 ∧ C.F0 = F0 ∧ C.bw = w2.heap.size + 1 ∧ C.bg = w2.heap.size ∧ C.n = n ∧ C.t = t ∧ C.x = x ∧ C.cap = cap ∧ C.items = items) := by show _ ∧ _; rw [← hC]; exact ⟨rfl, rfl, rfl, rfl, rfl, rfl, rfl, rfl, rfl⟩
  have HB3 : Hid (Below w.heap.size w ((w2.alloc (.cells #[.slice none 0 0, .slice none 0 0, .int .i64 0, .int .i64 0] 41)).alloc (.cells #[.iface M.ty M.rv, .int .i64 n, .int .i64 t, .slice x items.length cap, .int .i64 0, .int .i64 0, .func (.func 40) #[] #[.pointer (some ⟨w2.heap.size, 0, none⟩)]] 103))) := (HB2.out.alloc HB2.out.size _).alloc (by simp; have := HB2.out.size; omega) _
  have HW0 : Hid (LkW M C ⟨s0, 0, 0, [], [], 0⟩ ((w2.alloc (.cells #[.slice none 0 0, .slice none 0 0, .int .i64 0, .int .i64 0] 41)).alloc (.cells #[.iface M.ty M.rv, .int .i64 n, .int .i64 t, .slice x items.length cap, .int .i64 0, .int .i64 0, .func (.func 40) #[] #[.pointer (some ⟨w2.heap.size, 0, none⟩)]] 103))) := by
    show LkW _ _ _ _
    rw [← hC]
    refine ⟨F0, .slice none 0 0, .slice none 0 0, new_block_ (by simp), ?_, HM.out.kept HA0.out (fun k hk => HB3.out.block k (HLOW.out k hk)), Seg.nil _ _ _, Ins.nil _, fun hf => ?_, fun hf => ?_, ?_, ?_, ?_, fun b hb => by simp [Value.ownBlock] at hb, fun b hb => by simp [Value.ownBlock] at hb, fun k hk => Or.inl hk, Ot.alloc (Ot.alloc (Ot.refl _ _) _) _⟩
    · rw [Below.heap_alloc _ _ _ (by simp)]; exact new_block _ _
    · have := HLOW.out _ hf; simp at this; omega
    · have := HLOW.out _ hf; simp at this; omega
    · show w2.heap.size + 1 ≠ w2.heap.size; omega
    · show w2.heap.size ≤ w2.heap.size + 1; omega
    · show w2.heap.size ≤ w2.heap.size; omega
  have HG3 : Hid (((w2.alloc (.cells #[.slice none 0 0, .slice none 0 0, .int .i64 0, .int .i64 0] 41)).alloc (.cells #[.iface M.ty M.rv, .int .i64 n, .int .i64 t, .slice x items.length cap, .int .i64 0, .int .i64 0, .func (.func 40) #[] #[.pointer (some ⟨w2.heap.size, 0, none⟩)]] 103)).heap[w.heap.size + 1]? = some (.cells #[.slice none 0 0, .slice none 0 0, .int .i64 0, .int .i64 0] 41 (0, 0))) := by
    show _ = _
    rw [Below.heap_alloc _ _ _ (by simp; omega), Below.heap_alloc _ _ _ hs2]
    exact HG2.out
  generalize (w2.alloc (.cells #[.slice none 0 0, .slice none 0 0, .int .i64 0, .int .i64 0] 41)).alloc (.cells #[.iface M.ty M.rv, .int .i64 n, .int .i64 t, .slice x items.length cap, .int .i64 0, .int .i64 0, .func (.func 40) #[] #[.pointer (some ⟨w2.heap.size, 0, none⟩)]] 103) = w3 at *
  have HC2 : Hid (w3.heap.size = w2.heap.size + 2 ∨ True) := Or.inr trivial
  clear r0 r1 hC
  have hbw : C.bw = w2.heap.size + 1 := HC1.out.2.2.1
  go_loopw [13, 14] (fun nv mv wr => ∃ k : Nat, nv = .int .i64 (itL M items n t s0 k).2.1 ∧ mv = .bool (itL M items n t s0 k).2.2 ∧ LkW M C (itL M items n t s0 k).1 wr ∧ (∀ j, j < k → goesOn u (itL M items n t s0 j)) ∧ LkI M items (itL M items n t s0 k).1 (itL M items n t s0 k).2.1 (itL M items n t s0 k).2.2 ∧ wr.heap[w.heap.size + 1]? = some (.cells #[.slice none 0 0, .slice none 0 0, .int .i64 0, .int .i64 0] 41 (0, 0))) (fun nv mv _ => gaugeL u nv mv)
  case atStart => exact ⟨0, rfl, rfl, HW0.out, fun j hj => by omega, ⟨Nat.zero_le _, ⟨0, Int.le_refl _, fun _ => Int.le_refl _, HI0.out⟩, fun _ => Int.le_refl _, fun _ j x _ hx => by have h1 := HCG.out.ok x (by rw [HC1.out.2.2.2.2.2.2.2.2]; exact List.mem_of_getElem? hx); simp only [It.ok, Bool.and_eq_true, wth_iff] at h1; exact h1.1.1.1.1.1, fun _ => Nat.zero_le _, fun _ => Nat.zero_le _⟩, HG3.out⟩
  case round =>
    obtain ⟨k, rfl, rfl, hw, hon, hi, hgr⟩ := hrel
    have HW : Hid (LkW M C (itL M items n t s0 k).1 wr) := hw
    have HON : Hid (∀ j, j < k → goesOn u (itL M items n t s0 j)) := hon
    have HI : Hid (LkI M items (itL M items n t s0 k).1 (itL M items n t s0 k).2.1 (itL M items n t s0 k).2.2) := hi
    have HGR : Hid (wr.heap[w.heap.size + 1]? = some (.cells #[.slice none 0 0, .slice none 0 0, .int .i64 0, .int .i64 0] 41 (0, 0))) := hgr
    clear hw hon hi hgr HW0 HG3
    by_cases hgo : goesOn u (itL M items n t s0 k)
    · have HGO : Hid (goesOn u (itL M items n t s0 k)) := hgo
      obtain ⟨hmore, hnow⟩ := hgo
      have HSU : Hid (itL M items n t s0 (k + 1) = roundS M items n t (itL M items n t s0 k).2.1 (itL M items n t s0 k).1) := rfl
      have hi := HI.out
      rw [hmore] at hi
      rw [hmore]
      have HGK : Hid (∀ (S : LkS M.σ) (W : World), LkW M C S W → W.heap[w.heap.size + 1]? = some (.cells #[.slice none 0 0, .slice none 0 0, .int .i64 0, .int .i64 0] 41 (0, 0))) := by
        rintro S W ⟨F, sv, lv, h⟩
        have := h.ot
        rw [HC1.out.1, HC1.out.2.1] at this
        exact (this.block _ hs2 (fun hf => by have := HLOW.out _ hf; omega)).trans HG2.out
      clear hmore HI
      generalize (itL M items n t s0 k).1 = S at *
      generalize (itL M items n t s0 k).2.1 = now at *
      have hn0 := hi.n0 rfl
      have hci : C.items = items := HC1.out.2.2.2.2.2.2.2.2
      have hinv0 : ∃ tI, 0 ≤ tI ∧ tI ≤ now ∧ M.inv tI S.put S.s := by obtain ⟨tI, a, b, c⟩ := hi.inv; exact ⟨tI, a, b rfl, c⟩
      have hp0 := hi.put
      have hlo := hi.lost rfl
      have hse := hi.sent rfl
      have HCM := come_any HM.out HCG.out wr HW.out (by omega : now ≤ 10000000) hinv0 (by rw [hci]; exact hp0) (by rw [hci]; exact hi.coming rfl) (by omega)
      rw [hci, hbw] at HCM
      clear hi hinv0 HW HGR
      go_wp2_with (go_at_call 42; fail)
      refine HCM.mono ?_
      rintro e w4 ⟨rfl, hw4, hci4, hnx4⟩
      obtain ⟨S1, hS1⟩ : ∃ S1, comeS M items now S = S1 := ⟨_, rfl⟩
      rw [hS1] at hw4 hci4 hnx4
      have HS1 : Hid (comeS M items now S = S1) := hS1
      have HW4 : Hid (LkW M C S1 w4) := hw4
      have HCI : Hid (ComeI M C now S S1) := hci4
      have HNX4 : Hid (∀ x, items[S1.put]? = some x → now < x.a) := hnx4
      have hp1 : S1.put ≤ 100 := by have := hci4.put; rw [hci] at this; omega
      have hge1 := hci4.ge
      have hlo1 : S1.lost.length ≤ 1000000 * (S1.put + now.toNat) := by have := hci4.lost; omega
      have hse1 : S1.sent.length ≤ now.toNat := by rw [hci4.keep.2.1]; exact hse
      clear hw4 hci4 hnx4 hS1 HCM
      go_upto_region 44 with (fail)
      go_cut [48] (fun _ wx => LkW M C (mostS M S1) wx)
      case first =>
        obtain ⟨F, sv, lv, hat⟩ := HW4.out
        have HA : Hid (LkAt M C S1 w4 F sv lv) := hat
        obtain ⟨tI, t0, t1, hinv1⟩ := HCI.out.inv
        have HBY : Hid (∀ W, Below w4.heap.size w4 W → Calls Tryz.prog M.fB #[M.rB] W fun e w' => e = .returned (.int .i64 (M.bytes S1.s)) ∧ Below W.heap.size W w') := fun W hW => HM.out.cB (HA.out.below HM.out hW).que hinv1 (by omega)
        have hlg : LgB w4 w2.heap.size sv lv 0 S1.most := by have := hat.log; rw [HC1.out.2.2.2.1] at this; exact this
        have HLG : Hid (LgB w4 w2.heap.size sv lv 0 S1.most) := hlg
        have hbgl := lt_of_block hlg
        obtain ⟨l0, l1, l2, l3, _, _, _, fz3⟩ := hlg.cells
        have HBG : Hid (C.bg = w2.heap.size) := HC1.out.2.2.2.1
        obtain ⟨B, hB⟩ : ∃ B, M.bytes S1.s = B := ⟨_, rfl⟩
        have HBB : Hid (M.bytes S1.s = B) := hB
        rw [hB] at HBY
        clear hB hat hlg hinv1
        by_cases hmx : S1.most < B
        · have HMX : Hid (B = max S1.most (M.bytes S1.s)) := by show _ = _; rw [HBB.out]; omega
          go_region_with (refine (HBY.out _ ?_).mono ?_; exact ⟨rfl, rfl, rfl, Nat.le_refl _, fun _ _ => rfl⟩; rintro e w5 ⟨rfl, hb5⟩; have hb55 : Below w4.heap.size w4 w5 := (below_drew1 w4).trans hb5; obtain ⟨_, _, _, q3, _, _, _, g3⟩ := (LgB.below HLG.out hb55).cells)
          all_goals
            go_wp2_with fail
            go_meet
            case rel =>
              have hd := (HA.out.below HM.out hb55).mostd HM.out HMX.out
              rw [HBG.out] at hd
              exact ⟨F, sv, lv, hd⟩
        · have HMX : Hid (S1.most = max S1.most (M.bytes S1.s)) := by show _ = _; rw [HBB.out]; omega
          go_region_with (refine (HBY.out _ ?_).mono ?_; exact ⟨rfl, rfl, rfl, Nat.le_refl _, fun _ _ => rfl⟩; rintro e w5 ⟨rfl, hb5⟩; have hb55 : Below w4.heap.size w4 w5 := (below_drew1 w4).trans hb5; obtain ⟨_, _, _, q3, _, _, _, g3⟩ := (LgB.below HLG.out hb55).cells)
          all_goals
            go_wp2_with fail
            go_meet
            case rel =>
              have hd := (HA.out.below HM.out hb55).mostd HM.out HMX.out
              rw [HBG.out] at hd
              exact ⟨F, sv, lv, hd⟩
      case rest =>
      have HW5 : Hid (LkW M C (mostS M S1) wc) := hcut
      have hinv2 : ∃ tI, 0 ≤ tI ∧ tI ≤ now ∧ M.inv tI (mostS M S1).put (mostS M S1).s := HCI.out.inv
      have HSD := send_any HM.out HCG.out wc HW5.out (by omega : now ≤ 10000000) hinv2 HCI.out.put (by show S1.lost.length ≤ _; omega)
      have hsk := sendS_keeps HM.out (n := n) (t := t) hinv2 (by omega : now ≤ 10000000) (by show S1.put ≤ 1000; omega)
      rw [hbw, HC1.out.2.2.2.2.1, HC1.out.2.2.2.2.2.1] at HSD
      obtain ⟨R, hR⟩ : ∃ R, sendS M n t now (mostS M S1) = R := ⟨_, rfl⟩
      rw [hR] at HSD hsk
      have HRR : Hid (sendS M n t now (mostS M S1) = R) := hR
      clear hR hcut hinv2 HW4
      obtain ⟨S3, o⟩ := R
      obtain ⟨sk1, sk2, sk3, sk4, sk5⟩ := hsk
      have HINV3 : Hid (∃ tI, 0 ≤ tI ∧ tI ≤ now ∧ M.inv tI S3.put S3.s) := sk5
      have hp3 : S3.put = S1.put := sk1
      have hl3 : S3.lost.length ≤ S1.lost.length + 1000000 := sk4
      have hs3 : S3.sent = S1.sent := sk2
      have HNX : Hid (∀ (W : World) (S4 : LkS M.σ), LkW M C S4 W → (S4.put, S4.s) = (S3.put, S3.s) → Calls Tryz.prog 41 #[.pointer (some ⟨w2.heap.size + 1, 0, none⟩), .int .i64 now] W fun e w' => e = .returned (.tuple #[.int .i64 (nextS M items now S4).2.1, .bool (nextS M items now S4).2.2]) ∧ LkW M C (nextS M items now S4).1 w') := by
        intro W S4 h4 e4
        simp only [Prod.mk.injEq] at e4
        have := next_step HM.out HCG.out W h4 (by omega : now ≤ 10000000) (by rw [e4.1, e4.2]; exact HINV3.out) (by rw [e4.1, hp3]; exact HCI.out.put)
        rw [hbw, hci] at this
        exact this
      have HNK : Hid (∀ (S4 : LkS M.σ), S4.put = S3.put → S4.s = S3.s → (nextS M items now S4).1.put = S4.put ∧ (nextS M items now S4).1.sent = S4.sent ∧ (nextS M items now S4).1.lost = S4.lost ∧ (∃ tI, 0 ≤ tI ∧ tI ≤ now + 1 ∧ M.inv tI (nextS M items now S4).1.put (nextS M items now S4).1.s) ∧ ((nextS M items now S4).2.2 = true → now + 1 ≤ (nextS M items now S4).2.1 ∧ ∀ j x, S4.put ≤ j → items[j]? = some x → (nextS M items now S4).2.1 ≤ x.a)) := by
        intro S4 e1 e2
        exact nextS_keeps HM.out (by rw [e1, e2]; exact HINV3.out) (by omega) (by rw [e1]; omega) (by rw [e1, hp3]; exact HNX4.out) HORD.out
      have HLK : Hid (∀ (S4 : LkS M.σ), S4.put = S3.put → (S4.s, S4.lost) = (S3.s, S3.lost) → S4.sent.length ≤ S3.sent.length + 1 → LkI M items (nextS M items now S4).1 (nextS M items now S4).2.1 (nextS M items now S4).2.2) := by
        intro S4 e1 e2 e3
        simp only [Prod.mk.injEq] at e2
        obtain ⟨k1, k2, k3, ⟨tI, k4, k5, k6⟩, k7⟩ := HNK.out S4 e1 e2.1
        refine ⟨by rw [k1, e1, hp3]; have := HCI.out.put; rw [hci] at this; exact this, ⟨tI, k4, fun h => by have := (k7 h).1; omega, k6⟩, fun h => by have := (k7 h).1; omega, fun h j x hj hx => (k7 h).2 j x (by rw [k1] at hj; exact hj) hx, fun h => ?_, fun h => ?_⟩
        · have := (k7 h).1
          rw [k3, k1, e2.2, e1, hp3]
          omega
        · have := (k7 h).1
          rw [k2]
          rw [hs3] at e3
          omega
      have hsl : S3.sent.length ≤ 10000000 := by rw [hs3]; omega
      clear sk1 sk2 sk3 sk4 sk5 hs3 hp3
      go_wp2_with (go_at_call 43; fail)
      refine HSD.mono ?_
      rintro e w6 ⟨rfl, hw6⟩
      have HW6 : Hid (LkW M C S3 w6) := hw6
      clear hw6 HSD
      cases o with
      | none =>
        simp only [ans, Option.getD_none, Option.isSome_none, snt0, Snt.val]
        go_wp2_with (go_at_call 41; fail)
        have hw7 := HW6.out.below HM.out (below_alloc_ (Below.refl _ _) (.cells #[.int .i64 0, .int .i64 0, .int .i64 0, .int .i64 0] 49))
        have hw7 : LkW M C (sentS (S3, none)) (w6.alloc (.cells #[.int .i64 0, .int .i64 0, .int .i64 0, .int .i64 0] 49)) := by
          have e : sentS (S3, none) = S3 := by unfold sentS; simp
          rw [e]; exact hw7
        generalize w6.alloc (.cells #[.int .i64 0, .int .i64 0, .int .i64 0, .int .i64 0] 49) = w7 at *
        refine (HNX.out _ (sentS (S3, none)) hw7 rfl).mono ?_
        rintro e w8 ⟨rfl, hw8⟩
        have HW8 : Hid (LkW M C (nextS M items now (sentS (S3, none))).1 w8) := hw8
        clear hw8
        obtain ⟨nk1, nk2, nk3, nk4, nk5⟩ := HNK.out (sentS (S3, none)) rfl rfl
        have HLI : Hid (LkI M items (nextS M items now (sentS (S3, none))).1 (nextS M items now (sentS (S3, none))).2.1 (nextS M items now (sentS (S3, none))).2.2) := HLK.out (sentS (S3, none)) rfl rfl (by simp [sentS])
        have HTM : Hid ((nextS M items now (sentS (S3, none))).2.2 = true → now + 1 ≤ (nextS M items now (sentS (S3, none))).2.1) := fun h => (nk5 h).1
        clear nk1 nk2 nk3 nk4 nk5
        have HK1 : Hid (itL M items n t s0 (k + 1) = nextS M items now (sentS (S3, none))) := by show _ = _; rw [HSU.out]; unfold roundS; rw [HS1.out, HRR.out]
        generalize nextS M items now (sentS (S3, none)) = N at *
        obtain ⟨SN, nN, mN⟩ := N
        simp only at HW8 HLI HTM
        go_wp2
        go_roundw
        case rel =>
          refine ⟨k + 1, by rw [HK1.out], by rw [HK1.out], by rw [HK1.out]; exact HW8.out, fun j hj => ?_, by rw [HK1.out]; exact HLI.out, HGK.out _ _ HW8.out⟩
          by_cases e : j = k
          · subst e; exact HGO.out
          · exact HON.out j (by omega)
        case measure =>
          have h1 := HTM.out
          cases mN with
          | false => simp [gaugeL]
          | true =>
            have h2 := h1 rfl
            simp only [gaugeL, intOf]
            omega
      | some v =>
        simp only [ans, Option.getD_some, Option.isSome_some, Snt.val]
        obtain ⟨F, sv, lv, hat⟩ := HW6.out
        have HA : Hid (LkAt M C S3 w6 F sv lv) := hat
        have hlg : LgB w6 w2.heap.size sv lv 0 S3.most := by have := hat.log; rw [HC1.out.2.2.2.1] at this; exact this
        have HLG : Hid (LgB w6 w2.heap.size sv lv 0 S3.most) := hlg
        have HSEG : Hid (Seg w6 49 4 sv S3.sent.length (flt Snt.cs S3.sent)) := hat.sent
        have hbgl := lt_of_block hlg
        obtain ⟨l0, l1, l2, l3, fz0, _⟩ := hlg.cells
        have HSNE : Hid (sv.ownBlock ≠ some w2.heap.size) := fun e => by have := (hat.sn _ e).2.2.2.1; rw [HC1.out.2.2.2.1] at this; exact this rfl
        clear hat hlg
        obtain ⟨i0, hi, hz0, hz1, hz2⟩ := info_parts infoSent
        go_wp2_with (at_builtin; refine wpList_append_seg _ rfl (.tmp 57) (.tmp 59) 39 rfl 49 i0 _ 4 32 Tryz.underlying39 hi hz0 hz1 hz2 rfl (by decide) _ _ _ rfl (HSEG.out.below (by repeat' (first | with_reducible exact Below.refl _ _ | with_reducible refine Below.drew ?_ | with_reducible refine below_alloc_ ?_ _ | with_reducible refine below_set_ ?_ (by simp) _))) _ 1 1 _ rfl rfl (news_of (new_block_ (by simp))) (by simp [Value.oneCell']) (by decide) (by unfold maxLen; omega) (by omega) _ rfl ?_; intro g goff gcap w7 hs7 hg7 ha7 hl7; have hm7 := HLG.out.mid (by repeat' (first | with_reducible exact Below.refl _ _ | with_reducible refine Below.drew ?_ | with_reducible refine below_alloc_ ?_ _)) hg7 HSNE.out; obtain ⟨m0, _, _, _, mz0, _⟩ := hm7.cells)
        have hgb : g ≠ w2.heap.size ∧ (sv.ownBlock = some g ∨ w6.heap.size ≤ g) := by
          rcases ha7 with h | h
          · exact ⟨fun e => HSNE.out (e ▸ h), Or.inl h⟩
          · simp at h; exact ⟨by omega, Or.inr (by omega)⟩
        have hw7 : LkW M C (sentS (S3, some v)) (w7.setCell ⟨w2.heap.size, 0, none⟩ (.slice (some ⟨g, goff, none⟩) (S3.sent.length + 1) gcap)) := by
          refine ⟨F, _, lv, HA.out.logd (S' := sentS (S3, some v)) HM.out (sv' := .slice (some ⟨g, goff, none⟩) (S3.sent.length + 1) gcap) ?_ ?_ ?_ ?_ rfl rfl rfl rfl⟩
          · rw [HC1.out.2.2.2.1]
            exact hm7.sent _
          · have e : (sentS (S3, some v)).sent = S3.sent ++ [v] := rfl
            rw [e, flt_append, flt_one, List.length_append]
            exact hs7.setCell (p := ⟨w2.heap.size, 0, none⟩) (by simp [Value.ownBlock]; exact hgb.1) _
          · rw [HC1.out.2.2.2.1]
            refine Ot.setCell (S := fun k => k = w2.heap.size ∨ sv.ownBlock = some k) (p := ⟨w2.heap.size, 0, none⟩) ?_ (Or.inl (Or.inl rfl)) _
            refine Ot.grown (row := sv.ownBlock) ?_ hg7 (fun j e => Or.inl (Or.inr e))
            exact Ot.alloc (Ot.alloc (Ot.refl _ _) _) _
          · intro j hj
            simp only [Value.ownBlock, Option.some.injEq] at hj
            subst hj
            exact hgb.2
        generalize w7.setCell ⟨w2.heap.size, 0, none⟩ (.slice (some ⟨g, goff, none⟩) (S3.sent.length + 1) gcap) = w77 at *
        refine (HNX.out _ (sentS (S3, some v)) hw7 rfl).mono ?_
        rintro e w8 ⟨rfl, hw8⟩
        have HW8 : Hid (LkW M C (nextS M items now (sentS (S3, some v))).1 w8) := hw8
        clear hw8
        obtain ⟨nk1, nk2, nk3, nk4, nk5⟩ := HNK.out (sentS (S3, some v)) rfl rfl
        have HLI : Hid (LkI M items (nextS M items now (sentS (S3, some v))).1 (nextS M items now (sentS (S3, some v))).2.1 (nextS M items now (sentS (S3, some v))).2.2) := HLK.out (sentS (S3, some v)) rfl rfl (by simp [sentS])
        have HTM : Hid ((nextS M items now (sentS (S3, some v))).2.2 = true → now + 1 ≤ (nextS M items now (sentS (S3, some v))).2.1) := fun h => (nk5 h).1
        clear nk1 nk2 nk3 nk4 nk5
        have HK1 : Hid (itL M items n t s0 (k + 1) = nextS M items now (sentS (S3, some v))) := by show _ = _; rw [HSU.out]; unfold roundS; rw [HS1.out, HRR.out]
        generalize nextS M items now (sentS (S3, some v)) = N at *
        obtain ⟨SN, nN, mN⟩ := N
        simp only at HW8 HLI HTM
        go_wp2
        go_roundw
        case rel =>
          refine ⟨k + 1, by rw [HK1.out], by rw [HK1.out], by rw [HK1.out]; exact HW8.out, fun j hj => ?_, by rw [HK1.out]; exact HLI.out, HGK.out _ _ HW8.out⟩
          by_cases e : j = k
          · subst e; exact HGO.out
          · exact HON.out j (by omega)
        case measure =>
          have h1 := HTM.out
          cases mN with
          | false => simp [gaugeL]
          | true =>
            have h2 := h1 rfl
            simp only [gaugeL, intOf]
            omega
    · have HOFF : Hid (¬ goesOn u (itL M items n t s0 k)) := hgo
      have hoff : ((itL M items n t s0 k).2.2 = false) ∨ ((itL M items n t s0 k).2.2 = true ∧ ¬ (itL M items n t s0 k).2.1 ≤ u) := by
        cases hc : (itL M items n t s0 k).2.2 with
        | false => exact Or.inl rfl
        | true => exact Or.inr ⟨rfl, fun h => hgo ⟨hc, h⟩⟩
      clear hgo
      rcases hoff with hf | ⟨hf, hle⟩
      · rw [hf]
        clear hf
        obtain ⟨F, sv, lv, hat⟩ := HW.out
        have HA : Hid (LkAt M C (itL M items n t s0 k).1 wr F sv lv) := hat
        obtain ⟨tI, t0, _, hinv⟩ := HI.out.inv
        have HLN : Hid (Calls Tryz.prog M.fL #[M.rL] wr fun e w' => e = .returned (.int .i64 (M.len (itL M items n t s0 k).1.s)) ∧ Below wr.heap.size wr w') := HM.out.cL hat.que hinv (by have := HI.out.put; omega)
        clear hat hinv
        go_wp2_with fail
        refine HLN.out.mono ?_
        rintro e w4 ⟨rfl, hb4⟩
        have HA4 : Hid (LkAt M C (itL M items n t s0 k).1 w4 F sv lv) := HA.out.below HM.out hb4
        have HG4 : Hid (w4.heap[w.heap.size + 1]? = some (.cells #[.slice none 0 0, .slice none 0 0, .int .i64 0, .int .i64 0] 41 (0, 0))) := (hb4.block _ (lt_of_block HGR.out)).trans HGR.out
        have hlg : LgB w4 w2.heap.size sv lv 0 (itL M items n t s0 k).1.most := by have := HA4.out.log; rw [HC1.out.2.2.2.1] at this; exact this
        have HLG : Hid (LgB w4 w2.heap.size sv lv 0 (itL M items n t s0 k).1.most) := hlg
        obtain ⟨l0, l1, l2, l3, _, _, fz2, _⟩ := hlg.cells
        obtain ⟨⟨z0, z1, z2, z3⟩, y0, y1, y2, y3⟩ := four HG4.out
        obtain ⟨svx, svn, svc, hsv⟩ : ∃ x n c, sv = .slice x n c := by rcases HA4.out.sent.form with ⟨h, _⟩ | ⟨b, o, c, h, _⟩ <;> exact ⟨_, _, _, h⟩
        obtain ⟨lvx, lvn, lvc, hlv⟩ : ∃ x n c, lv = .slice x n c := by rcases Seg.form HA4.out.lost with ⟨h, _⟩ | ⟨b, o, c, h, _⟩ <;> exact ⟨_, _, _, h⟩
        subst hsv hlv
        have h4l := lt_of_block HG4.out
        have h4b := lt_of_block HLG.out
        clear hlg hb4
        obtain ⟨Lw, hLw⟩ : ∃ L, M.len (itL M items n t s0 k).1.s = L := ⟨_, rfl⟩
        have HLW : Hid (M.len (itL M items n t s0 k).1.s = Lw) := hLw
        obtain ⟨ms, hms⟩ : ∃ L, (itL M items n t s0 k).1.most = L := ⟨_, rfl⟩
        have HMS : Hid ((itL M items n t s0 k).1.most = ms) := hms
        rw [hms] at l3
        rw [hLw]
        clear hLw hms
        go_wp2
        (try simp only [Exit.inBlock, Exit.then])
        refine bodyPost_ret (v := .tuple #[.agg #[.slice svx svn svc, .slice lvx lvn lvc, .int .i64 Lw, .int .i64 ms], .nilIface]) ?_ rfl ⟨k, .slice svx svn svc, .slice lvx lvn lvc, F, by rw [HLW.out, HMS.out], ?_⟩
        · rw [results_cell_tmp rfl]
          have ho5 : Ot (· = w2.heap.size) w4 (w4.setCell ⟨w2.heap.size, 2, none⟩ (.int .i64 Lw)) := Ot.setCell (S := (· = w2.heap.size)) (p := ⟨w2.heap.size, 2, none⟩) (Ot.refl _ _) (Or.inl rfl) _
          have hg5 := (ho5.block _ h4l (fun e => by omega)).trans HG4.out
          have hld := load_log (four_set hg5 (.slice svx svn svc) (.slice lvx lvn lvc) (.int .i64 Lw) (.int .i64 ms))
          simp [asAddr, Result.andThen, hld]
        · have ho6 : Ot (fun j => j = w2.heap.size ∨ j = w.heap.size + 1) w4 (((((w4.setCell ⟨w2.heap.size, 2, none⟩ (.int .i64 Lw)).setCell ⟨w.heap.size + 1, 0, none⟩ (.slice svx svn svc)).setCell ⟨w.heap.size + 1, 1, none⟩ (.slice lvx lvn lvc)).setCell ⟨w.heap.size + 1, 2, none⟩ (.int .i64 Lw)).setCell ⟨w.heap.size + 1, 3, none⟩ (.int .i64 ms)) := by
            repeat' (first | with_reducible exact Ot.refl _ _ | with_reducible refine Ot.setCell ?_ (by simp) _)
          have hA := HA4.out
          have hw0 : C.w0.heap.size = w2.heap.size := by rw [HC1.out.1]
          have hne : ∀ j, F j → j ≠ w2.heap.size ∧ j ≠ w.heap.size + 1 := fun j hj => by
            have hg := hA.fg
            rw [HC1.out.2.2.2.1] at hg
            refine ⟨fun e => hg (e ▸ hj), fun e => ?_⟩
            rcases hA.fnew j hj with h1 | h1
            · rw [HC1.out.2.1] at h1
              have := HLOW.out j h1; omega
            · omega
          have hot4 : Ot F0 w w4 := by
            have := hA.ot
            rw [HC1.out.2.1, HC1.out.1] at this
            exact (Ot.of_below HB2.out).trans this
          have hbs := HB2.out.size
          refine ⟨HON.out, HOFF.out, hA.sent.oth ho6 (fun b hb e => ?_), Seg.oth hA.lost ho6 (fun b hb e => ?_), fun b hb => by have := (hA.sn b hb).1; omega, fun b hb => by have := (hA.ln b hb).1; omega, HM.out.kept hA.que (fun j hj => ho6.block j (HM.out.low hA.que j hj) (fun e => by have := hne j hj; omega)), fun j hj => ?_, hot4.trans' ho6 (fun i hi hlt => by omega)⟩
          · have h1 := hA.sn b hb
            rw [HC1.out.2.2.2.1] at h1
            omega
          · have h1 := hA.ln b hb
            rw [HC1.out.2.2.2.1] at h1
            omega
          · rcases hA.fnew j hj with h1 | h1
            · rw [HC1.out.2.1] at h1; exact Or.inl h1
            · exact Or.inr (by omega)
      · rw [hf]
        clear hf
        generalize (itL M items n t s0 k).2.1 = now at *
        obtain ⟨F, sv, lv, hat⟩ := HW.out
        have HA : Hid (LkAt M C (itL M items n t s0 k).1 wr F sv lv) := hat
        obtain ⟨tI, t0, _, hinv⟩ := HI.out.inv
        have HLN : Hid (Calls Tryz.prog M.fL #[M.rL] wr fun e w' => e = .returned (.int .i64 (M.len (itL M items n t s0 k).1.s)) ∧ Below wr.heap.size wr w') := HM.out.cL hat.que hinv (by have := HI.out.put; omega)
        clear hat hinv
        go_wp2_with fail
        refine HLN.out.mono ?_
        rintro e w4 ⟨rfl, hb4⟩
        have HA4 : Hid (LkAt M C (itL M items n t s0 k).1 w4 F sv lv) := HA.out.below HM.out hb4
        have HG4 : Hid (w4.heap[w.heap.size + 1]? = some (.cells #[.slice none 0 0, .slice none 0 0, .int .i64 0, .int .i64 0] 41 (0, 0))) := (hb4.block _ (lt_of_block HGR.out)).trans HGR.out
        have hlg : LgB w4 w2.heap.size sv lv 0 (itL M items n t s0 k).1.most := by have := HA4.out.log; rw [HC1.out.2.2.2.1] at this; exact this
        have HLG : Hid (LgB w4 w2.heap.size sv lv 0 (itL M items n t s0 k).1.most) := hlg
        obtain ⟨l0, l1, l2, l3, _, _, fz2, _⟩ := hlg.cells
        obtain ⟨⟨z0, z1, z2, z3⟩, y0, y1, y2, y3⟩ := four HG4.out
        obtain ⟨svx, svn, svc, hsv⟩ : ∃ x n c, sv = .slice x n c := by rcases HA4.out.sent.form with ⟨h, _⟩ | ⟨b, o, c, h, _⟩ <;> exact ⟨_, _, _, h⟩
        obtain ⟨lvx, lvn, lvc, hlv⟩ : ∃ x n c, lv = .slice x n c := by rcases Seg.form HA4.out.lost with ⟨h, _⟩ | ⟨b, o, c, h, _⟩ <;> exact ⟨_, _, _, h⟩
        subst hsv hlv
        have h4l := lt_of_block HG4.out
        have h4b := lt_of_block HLG.out
        clear hlg hb4
        obtain ⟨Lw, hLw⟩ : ∃ L, M.len (itL M items n t s0 k).1.s = L := ⟨_, rfl⟩
        have HLW : Hid (M.len (itL M items n t s0 k).1.s = Lw) := hLw
        obtain ⟨ms, hms⟩ : ∃ L, (itL M items n t s0 k).1.most = L := ⟨_, rfl⟩
        have HMS : Hid ((itL M items n t s0 k).1.most = ms) := hms
        rw [hms] at l3
        rw [hLw]
        clear hLw hms
        go_wp2
        (try simp only [Exit.inBlock, Exit.then])
        refine bodyPost_ret (v := .tuple #[.agg #[.slice svx svn svc, .slice lvx lvn lvc, .int .i64 Lw, .int .i64 ms], .nilIface]) ?_ rfl ⟨k, .slice svx svn svc, .slice lvx lvn lvc, F, by rw [HLW.out, HMS.out], ?_⟩
        · rw [results_cell_tmp rfl]
          have ho5 : Ot (· = w2.heap.size) w4 (w4.setCell ⟨w2.heap.size, 2, none⟩ (.int .i64 Lw)) := Ot.setCell (S := (· = w2.heap.size)) (p := ⟨w2.heap.size, 2, none⟩) (Ot.refl _ _) (Or.inl rfl) _
          have hg5 := (ho5.block _ h4l (fun e => by omega)).trans HG4.out
          have hld := load_log (four_set hg5 (.slice svx svn svc) (.slice lvx lvn lvc) (.int .i64 Lw) (.int .i64 ms))
          simp [asAddr, Result.andThen, hld]
        · have ho6 : Ot (fun j => j = w2.heap.size ∨ j = w.heap.size + 1) w4 (((((w4.setCell ⟨w2.heap.size, 2, none⟩ (.int .i64 Lw)).setCell ⟨w.heap.size + 1, 0, none⟩ (.slice svx svn svc)).setCell ⟨w.heap.size + 1, 1, none⟩ (.slice lvx lvn lvc)).setCell ⟨w.heap.size + 1, 2, none⟩ (.int .i64 Lw)).setCell ⟨w.heap.size + 1, 3, none⟩ (.int .i64 ms)) := by
            repeat' (first | with_reducible exact Ot.refl _ _ | with_reducible refine Ot.setCell ?_ (by simp) _)
          have hA := HA4.out
          have hw0 : C.w0.heap.size = w2.heap.size := by rw [HC1.out.1]
          have hne : ∀ j, F j → j ≠ w2.heap.size ∧ j ≠ w.heap.size + 1 := fun j hj => by
            have hg := hA.fg
            rw [HC1.out.2.2.2.1] at hg
            refine ⟨fun e => hg (e ▸ hj), fun e => ?_⟩
            rcases hA.fnew j hj with h1 | h1
            · rw [HC1.out.2.1] at h1
              have := HLOW.out j h1; omega
            · omega
          have hot4 : Ot F0 w w4 := by
            have := hA.ot
            rw [HC1.out.2.1, HC1.out.1] at this
            exact (Ot.of_below HB2.out).trans this
          have hbs := HB2.out.size
          refine ⟨HON.out, HOFF.out, hA.sent.oth ho6 (fun b hb e => ?_), Seg.oth hA.lost ho6 (fun b hb e => ?_), fun b hb => by have := (hA.sn b hb).1; omega, fun b hb => by have := (hA.ln b hb).1; omega, HM.out.kept hA.que (fun j hj => ho6.block j (HM.out.low hA.que j hj) (fun e => by have := hne j hj; omega)), fun j hj => ?_, hot4.trans' ho6 (fun i hi hlt => by omega)⟩
          · have h1 := hA.sn b hb
            rw [HC1.out.2.2.2.1] at h1
            omega
          · have h1 := hA.ln b hb
            rw [HC1.out.2.2.2.1] at h1
            omega
          · rcases hA.fnew j hj with h1 | h1
            · rw [HC1.out.2.1] at h1; exact Or.inl h1
            · exact Or.inr (by omega)
end Go.Proofs.YtfakjedolecdcaaGreatDoor
