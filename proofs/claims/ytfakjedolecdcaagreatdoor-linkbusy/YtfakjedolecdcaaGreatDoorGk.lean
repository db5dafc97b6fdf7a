/-
  package link with whatever queue: the wire and the log in memory; the closure that tells what is lost; busy; item.Takes of bytes beyond. Conditions: the queue's methods do what a model of it tells (a premise).
  package link with whatever queue: what comes is put in. Conditions: the queue's methods do what a model of it tells (a premise); the packets lie in memory, in order, none of them ahead of now.
-/
import Derived.Test.YtfakjedolecdcaaGreatDoorGd
import Derived.Test.YtfakjedolecdcaaGreatDoorItemTk
namespace Go.Proofs.YtfakjedolecdcaaGreatDoor
open Go.RowKit Go.Extern.Stop Go.Stop Go.Extern

/-- A packet that went. -/
structure Snt where
  n : Int
  f : Int
  t : Int
  m : Int
def Snt.cs (s : Snt) : List Value := [.int .i64 s.n, .int .i64 s.f, .int .i64 s.t, .int .i64 s.m]
theorem Snt.len (s : Snt) : s.cs.length = 4 := rfl
def itc (x : It) : List Value := [.int .i64 x.a, .int .i64 x.l, .int .i64 x.f, .int .i64 x.b, .int .i64 x.m]
theorem itc_len (x : It) : (itc x).length = 5 := rfl
/-- What a wire is at a time: its queue, how many came, when it is free; what went, what was lost, the most that waited. -/
structure LkS (σ : Type) where
  s : σ
  put : Nat
  free : Int
  sent : List Snt
  lost : List Int
  most : Int
/-- What does not change: the world ahead of it, the queue's blocks then, the wire's block, the log's, the rate, the packets. -/
structure LkC where
  w0 : World
  F0 : Nat → Prop
  bw : Nat
  bg : Nat
  n : Int
  t : Int
  x : Option Addr
  cap : Nat
  items : List It
def loseV (bg : Nat) : Value := .func (.func 40) #[] #[.pointer (some ⟨bg, 0, none⟩)]
/-- The wire and the log in memory. -/
structure LkAt (M : QM) (C : LkC) (S : LkS M.σ) (w : World) (F : Nat → Prop) (sv lv : Value) : Prop where
  wire : w.heap[C.bw]? = some (.cells #[.iface M.ty M.rv, .int .i64 C.n, .int .i64 C.t, .slice C.x C.items.length C.cap, .int .i64 S.put, .int .i64 S.free, loseV C.bg] 103 (0, 0))
  log : w.heap[C.bg]? = some (.cells #[sv, lv, .int .i64 0, .int .i64 S.most] 41 (0, 0))
  que : M.At w F S.s
  sent : Seg w 49 4 sv S.sent.length (flt Snt.cs S.sent)
  lost : Ins w lv S.lost
  fw : ¬ F C.bw
  fg : ¬ F C.bg
  wg : C.bw ≠ C.bg
  wb : C.w0.heap.size ≤ C.bw
  gb : C.w0.heap.size ≤ C.bg
  sn : ∀ b, sv.ownBlock = some b → C.w0.heap.size ≤ b ∧ ¬ F b ∧ b ≠ C.bw ∧ b ≠ C.bg ∧ lv.ownBlock ≠ some b
  ln : ∀ b, lv.ownBlock = some b → C.w0.heap.size ≤ b ∧ ¬ F b ∧ b ≠ C.bw ∧ b ≠ C.bg
  fnew : ∀ k, F k → C.F0 k ∨ C.w0.heap.size ≤ k
  ot : Ot C.F0 C.w0 w
def LkW (M : QM) (C : LkC) (S : LkS M.σ) (w : World) : Prop := ∃ F sv lv, LkAt M C S w F sv lv
/-- The packets lie in memory that the queue does not write. -/
structure LkC.Good (C : LkC) : Prop where
  lies : Lies C.w0 C.x (flt itc C.items)
  out : ∀ a, C.x = some a → C.items ≠ [] → ¬ C.F0 a.block
  len : C.items.length ≤ 100
  ok : ∀ x ∈ C.items, x.ok = true
  ord : (C.items.map It.a).Pairwise (· ≤ ·)
  rate : okRate C.n C.t = true
/-- The cells of the wire. -/
theorem LkAt.cells {M : QM} {C : LkC} {S : LkS M.σ} {w : World} {F : Nat → Prop} {sv lv : Value} (h : LkAt M C S w F sv lv) :
    w.cell? ⟨C.bw, 0, none⟩ = some (.iface M.ty M.rv) ∧ w.cell? ⟨C.bw, 1, none⟩ = some (.int .i64 C.n) ∧ w.cell? ⟨C.bw, 2, none⟩ = some (.int .i64 C.t) ∧ w.cell? ⟨C.bw, 3, none⟩ = some (.slice C.x C.items.length C.cap) ∧ w.cell? ⟨C.bw, 4, none⟩ = some (.int .i64 S.put) ∧ w.cell? ⟨C.bw, 5, none⟩ = some (.int .i64 S.free) ∧ w.cell? ⟨C.bw, 6, none⟩ = some (loseV C.bg) ∧ w.frozen? ⟨C.bw, 4, none⟩ = false ∧ w.frozen? ⟨C.bw, 5, none⟩ = false ∧ C.bw < w.heap.size ∧ C.bg < w.heap.size := by
  have hb := h.wire
  refine ⟨?_, ?_, ?_, ?_, ?_, ?_, ?_, ?_, ?_, lt_of_block hb, lt_of_block h.log⟩
  all_goals simp [World.cell?, World.frozen?, hb]
/-- A packet's cells. -/
theorem LkAt.item {M : QM} {C : LkC} {S : LkS M.σ} {w : World} {F : Nat → Prop} {sv lv : Value} (h : LkAt M C S w F sv lv) (hC : C.Good) {k : Nat} {x : It} (hx : C.items[k]? = some x) :
    ∃ b off, C.x = some ⟨b, off, none⟩ ∧ b < C.w0.heap.size ∧ ¬ C.F0 b ∧ w.cell? ⟨b, off + k * 5, none⟩ = some (.int .i64 x.a) ∧ w.cell? ⟨b, off + k * 5 + 1, none⟩ = some (.int .i64 x.l) ∧ w.cell? ⟨b, off + k * 5 + 2, none⟩ = some (.int .i64 x.f) ∧ w.cell? ⟨b, off + k * 5 + 3, none⟩ = some (.int .i64 x.b) ∧ w.cell? ⟨b, off + k * 5 + 4, none⟩ = some (.int .i64 x.m) := by
  have hne : C.items ≠ [] := by rintro e; rw [e] at hx; simp at hx
  rcases hC.lies with he | ⟨b, off, e, hb, hc⟩
  · exfalso
    have := flt_at itc 5 itc_len hx (j := 0) (by omega)
    rw [he] at this
    simp [itc] at this
  · have hnf := hC.out _ e hne
    have hat : ∀ j, j < 5 → w.cell? ⟨b, off + (k * 5 + j), none⟩ = (itc x)[j]? := fun j hj => by
      have hj2 : ∃ u, (itc x)[j]? = some u := ⟨_, List.getElem?_eq_getElem (by rw [itc_len]; exact hj)⟩
      obtain ⟨u, hu⟩ := hj2
      rw [h.ot.cell (p := ⟨b, off + (k * 5 + j), none⟩) hb hnf, hu]
      exact hc _ _ ((flt_at itc 5 itc_len hx hj).trans hu)
    exact ⟨b, off, e, hb, hnf, hat 0 (by omega), hat 1 (by omega), hat 2 (by omega), hat 3 (by omega), hat 4 (by omega)⟩
/-- Memory that is made beside it. -/
theorem LkAt.below {M : QM} (hM : M.Fine) {C : LkC} {S : LkS M.σ} {w w' : World} {F : Nat → Prop} {sv lv : Value} (h : LkAt M C S w F sv lv) (hb : Below w.heap.size w w') : LkAt M C S w' F sv lv :=
  ⟨(hb.block _ (lt_of_block h.wire)).trans h.wire, (hb.block _ (lt_of_block h.log)).trans h.log, hM.kept h.que (fun k hk => hb.block k (hM.low h.que k hk)), h.sent.below hb, Seg.below h.lost hb, h.fw, h.fg, h.wg, h.wb, h.gb, h.sn, h.ln, h.fnew, h.ot.trans (Ot.of_below hb)⟩
theorem LkW.below {M : QM} (hM : M.Fine) {C : LkC} {S : LkS M.σ} {w w' : World} (h : LkW M C S w) (hb : Below w.heap.size w w') : LkW M C S w' := by
  obtain ⟨F, sv, lv, h⟩ := h
  exact ⟨F, sv, lv, h.below hM hb⟩
/-- How many came, and when it is free, are written. -/
theorem LkAt.setw {M : QM} (hM : M.Fine) {C : LkC} {S S' : LkS M.σ} {w w' : World} {F : Nat → Prop} {sv lv : Value} (h : LkAt M C S w F sv lv) (ho : Ot (· = C.bw) w w')
    (hw : w'.heap[C.bw]? = some (.cells #[.iface M.ty M.rv, .int .i64 C.n, .int .i64 C.t, .slice C.x C.items.length C.cap, .int .i64 S'.put, .int .i64 S'.free, loseV C.bg] 103 (0, 0)))
    (e1 : S'.s = S.s) (e2 : S'.sent = S.sent) (e3 : S'.lost = S.lost) (e4 : S'.most = S.most) : LkAt M C S' w' F sv lv := by
  have hl := hM.low h.que
  refine ⟨hw, ?_, ?_, ?_, ?_, h.fw, h.fg, h.wg, h.wb, h.gb, h.sn, h.ln, h.fnew, ?_⟩
  · rw [ho.block _ (lt_of_block h.log) (fun e => h.wg e.symm), h.log, e4]
  · rw [e1]; exact hM.kept h.que (fun k hk => ho.block k (hl k hk) (fun e => h.fw (e ▸ hk)))
  · rw [e2]; exact h.sent.oth ho (fun b hb => (h.sn b hb).2.2.1)
  · rw [e3]; exact Seg.oth h.lost ho (fun b hb => (h.ln b hb).2.2.1)
  · refine h.ot.trans' ho (fun i hi hlt => ?_)
    have := h.wb; omega

theorem takes_out (n t x : Int) (w : World) (h : okRate n t = true) (hx : ¬ (0 ≤ x ∧ x ≤ 1000000)) :
    Calls Tryz.prog 14 #[.agg #[.int .i64 n, .int .i64 t], .int .i64 x] w fun e w' => e = .returned (.int .i64 0) ∧ Below w.heap.size w w' := by
  have H : Hid (okRate n t = true) := h
  clear h
  have hw : wth x 0 1000000 = false := wth_no.2 hx
  clear hx
  go_enter Tryz.func14, Tryz.ntmps14
  go_wp2_with (first | (go_at_call 28; refine (speed_yes _ _ _ H.out).mono ?_; rintro e w' ⟨rfl, rfl⟩) | (go_at_call 29; refine (within_any _ _ _ _).mono ?_; rintro e w' ⟨rfl, rfl⟩))
  go_ret
  exact ⟨rfl, below_alloc_ (below_alloc_ (Below.refl _ _) _) _⟩
def tkL (n t x : Int) : Int := if 0 ≤ x ∧ x ≤ 1000000 then takes n t x else 0
theorem tkL_le {n t x : Int} (h : okRate n t = true) : 0 ≤ tkL n t x ∧ tkL n t x ≤ 1000001000000 := by
  simp only [okRate, Bool.and_eq_true, wth_iff] at h
  obtain ⟨⟨h1, h2⟩, h3, h4⟩ := h
  unfold tkL
  split
  · rename_i hx
    unfold takes
    have hp0 : 0 ≤ x * t := Int.mul_nonneg hx.1 (by omega)
    have hp1 : x * t ≤ 1000000000000 := by
      have := Int.mul_le_mul hx.2 h4 (by omega) (by omega : (0 : Int) ≤ 1000000)
      omega
    refine ⟨Int.ediv_nonneg (by omega) (by omega), ?_⟩
    have := Int.ediv_le_self (a := x * t + n - 1) n (by omega)
    omega
  · omega
theorem takes_both (n t x : Int) (w : World) (h : okRate n t = true) :
    Calls Tryz.prog 14 #[.agg #[.int .i64 n, .int .i64 t], .int .i64 x] w fun e w' => e = .returned (.int .i64 (tkL n t x)) ∧ Below w.heap.size w w' := by
  by_cases hx : 0 ≤ x ∧ x ≤ 1000000
  · refine (takes_yes n t x w h hx.1 hx.2).mono ?_
    rintro e w' ⟨rfl, rfl⟩
    exact ⟨by unfold tkL; rw [if_pos hx], below_alloc_ (below_alloc_ (Below.refl _ _) _) _⟩
  · refine (takes_out n t x w h hx).mono ?_
    rintro e w' ⟨rfl, hb⟩
    exact ⟨by unfold tkL; rw [if_neg hx], hb⟩
theorem busy_any {bw : Nat} {free : Int} (now : Int) (w : World) (c5 : w.cell? ⟨bw, 5, none⟩ = some (.int .i64 free)) :
    Calls Tryz.prog 57 #[.pointer (some ⟨bw, 0, none⟩), .int .i64 now] w fun e w' => e = .returned (.bool (decide (now < free))) ∧ w' = w := by
  go_enter Tryz.func57, Tryz.ntmps57
  go_wp2
  go_ret
  exact ⟨rfl, rfl⟩
/-- A log in block b. -/
def LgB (w : World) (b : Nat) (sv lv : Value) (wt ms : Int) : Prop := w.heap[b]? = some (.cells #[sv, lv, .int .i64 wt, .int .i64 ms] 41 (0, 0))
theorem LgB.cells {w : World} {b : Nat} {sv lv : Value} {wt ms : Int} (h : LgB w b sv lv wt ms) : w.cell? ⟨b, 0, none⟩ = some sv ∧ w.cell? ⟨b, 1, none⟩ = some lv ∧ w.cell? ⟨b, 2, none⟩ = some (.int .i64 wt) ∧ w.cell? ⟨b, 3, none⟩ = some (.int .i64 ms) ∧ w.frozen? ⟨b, 0, none⟩ = false ∧ w.frozen? ⟨b, 1, none⟩ = false ∧ w.frozen? ⟨b, 2, none⟩ = false ∧ w.frozen? ⟨b, 3, none⟩ = false := by
  have hb : w.heap[b]? = _ := h
  refine ⟨?_, ?_, ?_, ?_, ?_, ?_, ?_, ?_⟩
  all_goals simp [World.cell?, World.frozen?, hb]
theorem LgB.mid {w W w2 : World} {row : Option Nat} {b : Nat} {sv lv : Value} {wt ms : Int} (h : LgB w b sv lv wt ms) (hW : Below w.heap.size w W) (hg : W.grownBy w2 row) (hr : row ≠ some b) : LgB w2 b sv lv wt ms :=
  (hg.block b (Nat.lt_of_lt_of_le (lt_of_block h) hW.size) (fun e => hr e.symm)).trans ((hW.block b (lt_of_block h)).trans h)
theorem LgB.lost {w : World} {b : Nat} {sv lv : Value} {wt ms : Int} (h : LgB w b sv lv wt ms) (v : Value) : LgB (w.setCell ⟨b, 1, none⟩ v) b sv v wt ms := by
  unfold LgB
  rw [heap_setCell_here h v]
  simp
set_option maxHeartbeats 2000000 in
theorem tellLost_any {b : Nat} {sv lv0 : Value} {wt ms : Int} {u : Value} {L : List Hd} {l0 : List Int} (w : World) (hx : LgB w b sv lv0 wt ms) (hu : Hs w u L) (h0 : Ins w lv0 l0) (hne : u.ownBlock ≠ some b) (hne2 : ∀ k, u.ownBlock = some k → lv0.ownBlock ≠ some k) (hne3 : lv0.ownBlock ≠ some b) (hn : L.length ≤ 1000000) (hn0 : l0.length ≤ 17000000000000) :
    Calls Tryz.prog 40 #[u, .pointer (some ⟨b, 0, none⟩)] w fun e w' => e = .returned (.tuple #[]) ∧ ∃ lv, LgB w' b sv lv wt ms ∧ Ins w' lv (l0 ++ L.map Hd.n) ∧ (∀ k, lv.ownBlock = some k → lv0.ownBlock = some k ∨ w.heap.size ≤ k) ∧ Ot (fun k => k = b ∨ lv0.ownBlock = some k) w w' := by
  have HX : Hid (LgB w b sv lv0 wt ms) := hx
  have H0 : Hid (Ins w lv0 l0) := h0
  obtain ⟨x, cap, rfl, hl⟩ := hu.lies
  have HL : Hid (Lies w x (flt Hd.cs L)) := hl
  have hbl : b < w.heap.size := lt_of_block hx
  have HNE : Hid (∀ a, x = some a → a.block ≠ b ∧ lv0.ownBlock ≠ some a.block) := by
    rintro a rfl
    exact ⟨fun e => hne (by simp [Value.ownBlock, e]), hne2 _ rfl⟩
  have HN3 : Hid (lv0.ownBlock ≠ some b) := hne3
  have HLT0 : Hid (∀ k, lv0.ownBlock = some k → k < w.heap.size) := fun k hk => Seg.lt h0 hk
  clear hl hx hu hne hne2 h0 hne3
  generalize hq : L.length = q at *
  have HQ : Hid (L.length = q) := hq
  clear hq
  obtain ⟨i0, hi, hz0, hz1, hz2⟩ := info_parts infoInt1
  go_enter Tryz.func40, Tryz.ntmps40
  go_wp2
  go_loopw [7] (fun i wr => ∃ (k : Nat) (lv : Value), k ≤ q ∧ i = .int .i64 k ∧ LgB wr b sv lv wt ms ∧ Ins wr lv (l0 ++ nums L k) ∧ (∀ k, lv.ownBlock = some k → lv0.ownBlock = some k ∨ w.heap.size ≤ k) ∧ Ot (fun k => k = b ∨ lv0.ownBlock = some k) w wr) (fun i _ => q - (intOf i).toNat)
  case atStart => exact ⟨0, _, Nat.zero_le _, rfl, HX.out, by simpa [nums] using H0.out, fun k hk => Or.inl hk, Ot.refl _ _⟩
  case round =>
    obtain ⟨k, lv, hk, rfl, hbx, hin, hnw, hot⟩ := hrel
    have HB : Hid (LgB wr b sv lv wt ms) := hbx
    have HI : Hid (Ins wr lv (l0 ++ nums L k)) := hin
    have HW : Hid (∀ k, lv.ownBlock = some k → lv0.ownBlock = some k ∨ w.heap.size ≤ k) := hnw
    have hws := hot.size
    clear hin hnw
    by_cases hlt : k < q
    · obtain ⟨s, hs⟩ : ∃ s, L[k]? = some s := ⟨_, List.getElem?_eq_getElem (by have := HQ.out; omega)⟩
      have HS : Hid (L[k]? = some s) := hs
      obtain ⟨bb, off, rfl, hbb, k0, k1, k2, k3, k4, k5⟩ := (HL.out.ot hot (fun a e h => by rcases h with h | h; exact (HNE.out a e).1 h; exact (HNE.out a e).2 h)).held hs
      clear hs
      obtain ⟨_, z1, _, _, _, y1, _, _⟩ := hbx.cells
      have hbs : b < wr.heap.size := by omega
      have hnl : (l0 ++ nums L k).length = l0.length + k := by rw [List.length_append, nums_length (by have := HQ.out; omega)]
      clear hbx
      have HI' : Hid (Seg wr 3 1 lv (l0.length + k) ((l0 ++ nums L k).map (Value.int .i64))) := by have := HI.out; unfold Ins at this; rw [hnl] at this; exact this
      have hne4 : lv.ownBlock ≠ some b := fun e => by
        rcases HW.out b e with h | h
        · exact HN3.out h
        · omega
      clear hnl
      go_wp2_with (at_builtin; refine wpList_append_seg _ rfl (.tmp 12) (.tmp 15) 22 rfl 3 i0 _ 1 8 Tryz.underlying22 hi hz0 hz1 hz2 rfl (by decide) _ _ _ rfl (HI'.out.below (by repeat' (first | with_reducible exact Below.refl _ _ | with_reducible refine Below.drew ?_ | with_reducible refine below_alloc_ ?_ _ | with_reducible refine below_set_ ?_ (by simp) _))) _ 1 1 _ rfl rfl (news_of (new_block_ (by simp))) (by simp [Value.oneCell']) (by decide) (by unfold maxLen; omega) (by omega) _ rfl ?_; intro g goff gcap w2 hs2 hg2 ha2 hl2; have hm2 := HB.out.mid (by repeat' (first | with_reducible exact Below.refl _ _ | with_reducible refine Below.drew ?_ | with_reducible refine below_alloc_ ?_ _)) hg2 hne4; obtain ⟨_, t1, _, _, _, e1, _, _⟩ := hm2.cells)
      have hgb : g ≠ b ∧ (lv0.ownBlock = some g ∨ w.heap.size ≤ g) := by
        rcases ha2 with ha2 | ha2
        · exact ⟨fun e => hne4 (e ▸ ha2), HW.out _ ha2⟩
        · simp at ha2; exact ⟨by omega, Or.inr (by omega)⟩
      go_roundw
      case rel =>
        refine ⟨k + 1, _, by omega, by go_num, hm2.lost _, ?_, ?_, ?_⟩
        · unfold Ins
          rw [nums_succ HS.out, ← List.append_assoc, List.length_append, List.length_append, nums_length (by have := HQ.out; omega), List.map_append]
          exact hs2.setCell (p := ⟨b, 1, none⟩) (by simp [Value.ownBlock]; exact hgb.1) _
        · intro j hj
          simp only [Value.ownBlock, Option.some.injEq] at hj
          subst hj
          exact hgb.2
        · refine Ot.setCell (S := fun k => k = b ∨ lv0.ownBlock = some k) (p := ⟨b, 1, none⟩) ?_ (Or.inl (Or.inl rfl)) _
          refine Ot.grown (row := lv.ownBlock) ?_ hg2 (fun j e => by rcases HW.out j e with h | h; exact Or.inl (Or.inr h); exact Or.inr h)
          exact Ot.alloc (Ot.alloc hot _) _
      case measure => simp [intOf]; omega
    · obtain rfl : k = q := by omega
      go_wp2
      go_end0
      refine ⟨rfl, lv, HB.out, ?_, HW.out, hot⟩
      have := HI.out
      rw [← HQ.out, nums_all] at this
      exact this
theorem entersLose (args : Array Value) (W : World) : (callFunc 40 args).run Tryz.prog W = .ok (.enter 40 args) W := enters_of Tryz.func40 (by kernel_rfl) rfl args W
end Go.Proofs.YtfakjedolecdcaaGreatDoor
namespace Go.Proofs.YtfakjedolecdcaaGreatDoor
open Go.RowKit Go.Extern.Stop Go.Stop Go.Extern

def hdIt (x : It) (n : Nat) : Hd := ⟨x.a, x.l, x.f, x.b, x.m, n⟩
/-- What comes by a time is put in. -/
def comeL (M : QM) (now : Int) : List It → M.σ → Nat → M.σ × Nat × List Int
  | [], s, n => (s, n, [])
  | x :: r, s, n => if x.a ≤ now then ((comeL M now r (M.put s now (hdIt x n)).1 (n + 1)).1, (comeL M now r (M.put s now (hdIt x n)).1 (n + 1)).2.1, (M.put s now (hdIt x n)).2.map Hd.n ++ (comeL M now r (M.put s now (hdIt x n)).1 (n + 1)).2.2) else (s, n, [])
def comeS (M : QM) (items : List It) (now : Int) (S : LkS M.σ) : LkS M.σ :=
  { S with s := (comeL M now (items.drop S.put) S.s S.put).1, put := (comeL M now (items.drop S.put) S.s S.put).2.1, lost := S.lost ++ (comeL M now (items.drop S.put) S.s S.put).2.2 }
/-- One is put in. -/
def putL (M : QM) (now : Int) (x : It) (S : LkS M.σ) : LkS M.σ :=
  { S with s := (M.put S.s now (hdIt x S.put)).1, put := S.put + 1, lost := S.lost ++ (M.put S.s now (hdIt x S.put)).2.map Hd.n }
theorem comeS_none {M : QM} {items : List It} {now : Int} {S : LkS M.σ} (h : items.length ≤ S.put) : comeS M items now S = S := by
  unfold comeS
  rw [List.drop_of_length_le h]
  simp [comeL]
theorem comeS_late {M : QM} {items : List It} {now : Int} {S : LkS M.σ} {x : It} (h : items[S.put]? = some x) (hx : ¬ x.a ≤ now) : comeS M items now S = S := by
  obtain ⟨hl, e⟩ := List.getElem?_eq_some_iff.1 h
  unfold comeS
  rw [List.drop_eq_getElem_cons hl, e]
  simp [comeL, hx]
theorem comeS_one {M : QM} {items : List It} {now : Int} {S : LkS M.σ} {x : It} (h : items[S.put]? = some x) (hx : x.a ≤ now) : comeS M items now S = comeS M items now (putL M now x S) := by
  obtain ⟨hl, e⟩ := List.getElem?_eq_some_iff.1 h
  unfold comeS
  rw [List.drop_eq_getElem_cons hl, e]
  simp [comeL, hx, putL]
def putAt (bw : Nat) (w : World) : Nat := match w.cell? ⟨bw, 4, none⟩ with
  | some (.int _ p) => p.toNat
  | _ => 0
theorem LkW.putAt {M : QM} {C : LkC} {S : LkS M.σ} {w : World} (h : LkW M C S w) : putAt C.bw w = S.put := by
  obtain ⟨F, sv, lv, h⟩ := h
  unfold Go.Proofs.YtfakjedolecdcaaGreatDoor.putAt
  rw [h.cells.2.2.2.2.1]
  simp
/-- What is so while what comes is put in. -/
structure ComeI (M : QM) (C : LkC) (now : Int) (S S' : LkS M.σ) : Prop where
  inv : ∃ tI, 0 ≤ tI ∧ tI ≤ now ∧ M.inv tI S'.put S'.s
  put : S'.put ≤ C.items.length
  ge : S.put ≤ S'.put
  lost : S'.lost.length ≤ S.lost.length + 1000000 * (S'.put - S.put)
  same : comeS M C.items now S' = comeS M C.items now S
  keep : S'.free = S.free ∧ S'.sent = S.sent ∧ S'.most = S.most
theorem ComeI.step {M : QM} (hM : M.Fine) {C : LkC} (hC : C.Good) {now : Int} (h2 : now ≤ 10000000) {S S' : LkS M.σ} (h : ComeI M C now S S') {x : It} (hx : C.items[S'.put]? = some x) (hle : x.a ≤ now) (hge : now ≤ x.a) : ComeI M C now S (putL M now x S') := by
  obtain ⟨tI, a, b, hi⟩ := h.inv
  have hl := (List.getElem?_eq_some_iff.1 hx).1
  have hlen := hC.len
  obtain ⟨i1, i2⟩ := hM.iP now (hdIt x S'.put) hi a b (by omega) (hC.ok x (List.mem_of_getElem? hx)) (by show x.a = now; omega) rfl (by omega)
  refine ⟨⟨now, by omega, Int.le_refl _, i1⟩, ?_, ?_, ?_, ?_, h.keep⟩
  · show S'.put + 1 ≤ _; omega
  · show S.put ≤ S'.put + 1; have := h.ge; omega
  · show (S'.lost ++ _).length ≤ _
    rw [List.length_append, List.length_map]
    have := h.lost
    have := h.ge
    have e : (putL M now x S').put = S'.put + 1 := rfl
    rw [e]
    omega
  · rw [← comeS_one hx hle]; exact h.same
/-- The queue changed. -/
theorem LkAt.queue {M : QM} {C : LkC} {S S' : LkS M.σ} {w w' : World} {F F' : Nat → Prop} {sv lv : Value} (h : LkAt M C S w F sv lv) (ho : Ot F w w') (hq : M.At w' F' S'.s) (hF : ∀ k, F' k → F k ∨ w.heap.size ≤ k) (e1 : S'.put = S.put) (e2 : S'.free = S.free) (e3 : S'.sent = S.sent) (e4 : S'.lost = S.lost) (e5 : S'.most = S.most) : LkAt M C S' w' F' sv lv := by
  have hw := lt_of_block h.wire
  have hg := lt_of_block h.log
  have hn : ∀ b, b < w.heap.size → ¬ F b → ¬ F' b := fun b hb hf hf' => by
    rcases hF b hf' with h1 | h1
    · exact hf h1
    · omega
  refine ⟨?_, ?_, hq, ?_, ?_, hn _ hw h.fw, hn _ hg h.fg, h.wg, h.wb, h.gb, ?_, ?_, ?_, ?_⟩
  · rw [ho.block _ hw h.fw, h.wire, e1, e2]
  · rw [ho.block _ hg h.fg, h.log, e5]
  · rw [e3]; exact h.sent.oth ho (fun b hb => (h.sn b hb).2.1)
  · rw [e4]; exact Seg.oth h.lost ho (fun b hb => (h.ln b hb).2.1)
  · intro b hb
    obtain ⟨a1, a2, a3⟩ := h.sn b hb
    exact ⟨a1, hn b (h.sent.lt hb) a2, a3⟩
  · intro b hb
    obtain ⟨a1, a2, a3⟩ := h.ln b hb
    exact ⟨a1, hn b (Seg.lt h.lost hb) a2, a3⟩
  · intro k hk
    rcases hF k hk with h1 | h1
    · exact h.fnew k h1
    · have := h.ot.size; exact Or.inr (by omega)
  · refine h.ot.trans' ho (fun i hi hlt => ?_)
    rcases h.fnew i hi with h1 | h1
    · exact h1
    · omega
/-- What is lost is told. -/
theorem LkAt.told {M : QM} (hM : M.Fine) {C : LkC} {S S' : LkS M.σ} {w w' : World} {F : Nat → Prop} {sv lv lv' : Value} (h : LkAt M C S w F sv lv) (hg : LgB w' C.bg sv lv' 0 S.most) (hi : Ins w' lv' S'.lost) (hn : ∀ k, lv'.ownBlock = some k → lv.ownBlock = some k ∨ w.heap.size ≤ k) (ho : Ot (fun k => k = C.bg ∨ lv.ownBlock = some k) w w') (e0 : S'.s = S.s) (e1 : S'.put = S.put) (e2 : S'.free = S.free) (e3 : S'.sent = S.sent) (e5 : S'.most = S.most) : LkAt M C S' w' F sv lv' := by
  have hw := lt_of_block h.wire
  have hgl := lt_of_block h.log
  have hlow := hM.low h.que
  refine ⟨?_, ?_, ?_, ?_, hi, h.fw, h.fg, h.wg, h.wb, h.gb, ?_, ?_, h.fnew, ?_⟩
  · rw [ho.block _ hw (fun e => by rcases e with e | e; exact h.wg e; exact (h.ln _ e).2.2.1 rfl), h.wire, e1, e2]
  · rw [e5]; exact hg
  · rw [e0]; exact hM.kept h.que (fun k hk => ho.block k (hlow k hk) (fun e => by rcases e with e | e; exact h.fg (e ▸ hk); exact (h.ln _ e).2.1 hk))
  · rw [e3]; exact h.sent.oth ho (fun b hb e => by rcases e with e | e; exact (h.sn b hb).2.2.2.1 e; exact (h.sn b hb).2.2.2.2 e)
  · intro b hb
    obtain ⟨a1, a2, a3, a4, a5⟩ := h.sn b hb
    refine ⟨a1, a2, a3, a4, fun e => ?_⟩
    rcases hn b e with h1 | h1
    · exact a5 h1
    · have := h.sent.lt hb; omega
  · intro b hb
    rcases hn b hb with h1 | h1
    · exact h.ln b h1
    · have := h.ot.size
      exact ⟨by omega, fun hf => by have := hlow b hf; omega, by omega, by omega⟩
  · refine h.ot.trans' ho (fun i hi hlt => ?_)
    rcases hi with e | e
    · have := h.gb; omega
    · have := (h.ln i e).1; omega
theorem wire_put {w : World} {b : Nat} {a0 a1 a2 a3 a4 a5 a6 : Value} {t : TypeId} {fr : Nat × Nat} (h : w.heap[b]? = some (.cells #[a0, a1, a2, a3, a4, a5, a6] t fr)) (v : Value) : (w.setCell ⟨b, 4, none⟩ v).heap[b]? = some (.cells #[a0, a1, a2, a3, v, a5, a6] t fr) := by
  rw [heap_setCell_here h v]
  simp
theorem wire_free {w : World} {b : Nat} {a0 a1 a2 a3 a4 a5 a6 : Value} {t : TypeId} {fr : Nat × Nat} (h : w.heap[b]? = some (.cells #[a0, a1, a2, a3, a4, a5, a6] t fr)) (v : Value) : (w.setCell ⟨b, 5, none⟩ v).heap[b]? = some (.cells #[a0, a1, a2, a3, a4, v, a6] t fr) := by
  rw [heap_setCell_here h v]
  simp
set_option maxRecDepth 20000 in
set_option maxHeartbeats 4000000 in
theorem come_any {M : QM} (hM : M.Fine) {C : LkC} (hC : C.Good) {S : LkS M.σ} {now : Int} (w : World) (h : LkW M C S w) (h2 : now ≤ 10000000) (hI : ∃ tI, 0 ≤ tI ∧ tI ≤ now ∧ M.inv tI S.put S.s) (hput : S.put ≤ C.items.length) (hc : ∀ j x, S.put ≤ j → C.items[j]? = some x → now ≤ x.a) (hl : S.lost.length ≤ 15000000000000) :
    Calls Tryz.prog 42 #[.pointer (some ⟨C.bw, 0, none⟩), .int .i64 now] w fun e w' => e = .returned (.tuple #[]) ∧ LkW M C (comeS M C.items now S) w' ∧ ComeI M C now S (comeS M C.items now S) ∧ ∀ x, C.items[(comeS M C.items now S).put]? = some x → now < x.a := by
  have HM : Hid M.Fine := hM
  have HC : Hid C.Good := hC
  have HW0 : Hid (LkW M C S w) := h
  have HI0 : Hid (ComeI M C now S S) := ⟨hI, hput, Nat.le_refl _, by omega, rfl, rfl, rfl, rfl⟩
  have HCO : Hid (∀ j x, S.put ≤ j → C.items[j]? = some x → now ≤ x.a) := hc
  have HLL : Hid (S.lost.length ≤ 15000000000000) := hl
  have HLN : Hid (C.items.length ≤ 100) := hC.len
  have hmP := hM.mP
  have heP := hM.eP
  have heL := entersLose
  clear h hI hput hc hl hC hM
  go_enter Tryz.func42, Tryz.ntmps42
  go_wp2
  go_loopw [4] (fun _ wr => ∃ S', LkW M C S' wr ∧ ComeI M C now S S') (fun _ wr => C.items.length - putAt C.bw wr)
  case atStart => exact ⟨S, HW0.out, HI0.out⟩
  case round =>
    obtain ⟨S', hw, hi⟩ := hrel
    have HW : Hid (LkW M C S' wr) := hw
    have HI : Hid (ComeI M C now S S') := hi
    obtain ⟨F, sv, lv, hat⟩ := hw
    have HA : Hid (LkAt M C S' wr F sv lv) := hat
    obtain ⟨c0, c1, c2, c3, c4, c5, c6, f4, f5, hbw, hbg⟩ := hat.cells
    have HQ : Hid (C.items.length ≤ 100) := HLN.out
    have HPA : Hid (putAt C.bw wr = S'.put) := HW.out.putAt
    have hq := HLN.out
    clear hi
    by_cases hlt : S'.put < C.items.length
    · obtain ⟨x, hx⟩ : ∃ x, C.items[S'.put]? = some x := ⟨_, List.getElem?_eq_getElem hlt⟩
      have HX : Hid (C.items[S'.put]? = some x) := hx
      obtain ⟨xb, xo, hxe, hxl, hxf, x0, x1, x2, x3, x4⟩ := hat.item HC.out hx
      have hge : now ≤ x.a := HCO.out _ _ HI.out.ge hx
      have HXL : Hid (xb < C.w0.heap.size ∧ ¬ C.F0 xb ∧ C.x = some ⟨xb, xo, none⟩) := ⟨hxl, hxf, hxe⟩
      have hxw : xb < wr.heap.size := by have := hat.ot.size; omega
      have hxne : xb ≠ C.bw := by have := hat.wb; omega
      rw [hxe] at c3
      clear hx hxl hxf hxe
      by_cases hle : x.a ≤ now
      · go_upto_region 5 with (fail)
        go_cut [29] (fun bv wx => bv = .bool true ∧ LkAt M C S' wx F sv lv)
        case first =>
          go_quiet (fail)
          go_wp2_with fail
          go_meet
          case rel => exact ⟨rfl, HA.out.below HM.out ⟨rfl, rfl, rfl, Nat.le_refl _, fun _ _ => rfl⟩⟩
        case rest =>
        obtain ⟨rfl, hatc⟩ := hcut
        clear c0 c1 c2 c3 c4 c5 c6 f4 f5 hbw hbg x0 x1 x2 x3 x4 hxw hxne HW HA HXL
        generalize wc = w1 at *
        have HA : Hid (LkAt M C S' w1 F sv lv) := hatc
        obtain ⟨c0, c1, c2, c3, c4, c5, c6, f4, f5, hbw, hbg⟩ := hatc.cells
        obtain ⟨xb, xo, hxe, hxl, hxf, x0, x1, x2, x3, x4⟩ := hatc.item HC.out HX.out
        have hxw : xb < w1.heap.size := by have := hatc.ot.size; omega
        have hxne : xb ≠ C.bw := by have := hatc.wb; omega
        rw [hxe] at c3
        clear hatc hxe hxf hxl
        obtain ⟨tI, t0, t1, hinv⟩ := HI.out.inv
        have hok : (hdIt x S'.put).ok = true := HC.out.ok x (List.mem_of_getElem? HX.out)
        have hxa : x.a = now := by omega
        have HXA : Hid (x.a = now) := hxa
        have hp100 : S'.put < 1000 := by have := HQ.out; omega
        have HPUT : Hid (∀ W, Ot (· = C.bw) w1 W → Calls Tryz.prog M.fP #[M.rP, .int .i64 now, .agg #[.int .i64 x.a, .int .i64 x.l, .int .i64 x.f, .int .i64 x.b, .int .i64 x.m, .int .i64 S'.put]] W fun e w' => ∃ u F', e = .returned u ∧ Hs w' u (M.put S'.s now (hdIt x S'.put)).2 ∧ M.At w' F' (M.put S'.s now (hdIt x S'.put)).1 ∧ (∀ k, F' k → F k ∨ W.heap.size ≤ k) ∧ (∀ k, u.ownBlock = some k → F k ∨ W.heap.size ≤ k) ∧ Ot F W w') := fun W hW => HM.out.cP now (hdIt x S'.put) (HM.out.kept HA.out.que (fun k hk => hW.block k (HM.out.low HA.out.que k hk) (fun e => HA.out.fw (e ▸ hk)))) hinv t0 t1 (by omega) hok hxa rfl (by omega)
        have hln := (HM.out.iP now (hdIt x S'.put) hinv t0 t1 (by omega) hok hxa rfl (by omega)).2
        have HST : Hid (ComeI M C now S (putL M now x S')) := HI.out.step HM.out HC.out h2 HX.out hle hge
        have HLB : Hid (S'.lost.length ≤ 16000000000000 ∧ (M.put S'.s now (hdIt x S'.put)).2.length ≤ 1000000) := ⟨by have := HI.out.lost; have := HLL.out; have := HQ.out; have := HI.out.put; omega, hln⟩
        clear hinv hok hln hxa
        go_upto_region 30 with (fail)
        go_cut [4] (fun p wx => p = .pointer (some ⟨w1.heap.size, 0, none⟩) ∧ ∃ n, wx = (w1.alloc (.cells #[.int .i64 x.a, .int .i64 x.l, .int .i64 x.f, .int .i64 x.b, .int .i64 x.m, .int .i64 S'.put] 76)).drewN n)
        case first =>
          go_region
          all_goals
            go_wp2_with fail
            go_meet
            case rel => exact ⟨rfl, 1, rfl⟩
        case rest =>
          obtain ⟨rfl, nd, hwc⟩ := hcut
          have d0 : wc.heap[w1.heap.size]? = some (.cells #[.int .i64 x.a, .int .i64 x.l, .int .i64 x.f, .int .i64 x.b, .int .i64 x.m, .int .i64 S'.put] 76 (0, 0)) := by rw [hwc]; exact new_block _ _
          have hsz : wc.heap.size = w1.heap.size + 1 := by rw [hwc]; simp
          have HB12 : Hid (Below w1.heap.size w1 wc) := by show Below _ _ _; rw [hwc]; exact (below_alloc_ (Below.refl _ _) _).trans ⟨rfl, rfl, rfl, Nat.le_refl _, fun _ _ => rfl⟩
          have hAc : LkAt M C S' wc F sv lv := HA.out.below HM.out HB12.out
          clear hwc c0 c1 c2 c3 c4 c5 c6 f4 f5 hbw hbg x0 x1 x2 x3 x4 hxw hxne
          generalize wc = w2 at *
          have HD0 : Hid (w2.heap[w1.heap.size]? = some (.cells #[.int .i64 x.a, .int .i64 x.l, .int .i64 x.f, .int .i64 x.b, .int .i64 x.m, .int .i64 S'.put] 76 (0, 0))) := d0
          have HAC : Hid (LkAt M C S' w2 F sv lv) := hAc
          obtain ⟨c0, c1, c2, c3, c4, c5, c6, f4, f5, hbw, hbg⟩ := hAc.cells
          have hbne : C.bw ≠ w1.heap.size := by have := (HA.out.cells).2.2.2.2.2.2.2.2.2.1; omega
          have HBNE : Hid (C.bw ≠ w1.heap.size) := hbne
          clear d0 hAc
          go_wp2
          generalize hw3e : w2.setCell ⟨C.bw, 4, none⟩ (.int .i64 ((S'.put : Int) + 1)) = w3
          have ho3 : Ot (· = C.bw) w2 w3 := by rw [← hw3e]; exact Ot.setCell (S := (· = C.bw)) (p := ⟨C.bw, 4, none⟩) (Ot.refl _ _) (Or.inl rfl) _
          have hw3 : w3.heap[C.bw]? = some (.cells #[.iface M.ty M.rv, .int .i64 C.n, .int .i64 C.t, .slice C.x C.items.length C.cap, .int .i64 ((S'.put + 1 : Nat) : Int), .int .i64 S'.free, loseV C.bg] 103 (0, 0)) := by
            have e : ((S'.put + 1 : Nat) : Int) = (S'.put : Int) + 1 := by omega
            rw [← hw3e, e]
            exact wire_put HAC.out.wire _
          clear hw3e
          have hA3 : LkAt M C { S' with put := S'.put + 1 } w3 F sv lv := HAC.out.setw (S' := { S' with put := S'.put + 1 }) HM.out ho3 hw3 rfl rfl rfl rfl
          have hd3 : w3.heap[w1.heap.size]? = some (.cells #[.int .i64 x.a, .int .i64 x.l, .int .i64 x.f, .int .i64 x.b, .int .i64 x.m, .int .i64 S'.put] 76 (0, 0)) := (ho3.block _ (by omega) (fun e => HBNE.out e.symm)).trans HD0.out
          have hot13 : Ot (· = C.bw) w1 w3 := by
            exact (Ot.of_below HB12.out).trans ho3
          clear c0 c1 c2 c3 c4 c5 c6 f4 f5 hbw hbg ho3 hw3
          have HA3 : Hid (LkAt M C { S' with put := S'.put + 1 } w3 F sv lv) := hA3
          obtain ⟨c0, c1, c2, c3, c4, c5, c6, f4, f5, hbw, hbg⟩ := hA3.cells
          obtain ⟨⟨g0, g1, g2, g3, g4, g5⟩, _⟩ := six hd3
          have HP3 : Hid (∀ W, Below w3.heap.size w3 W → Calls Tryz.prog M.fP #[M.rP, .int .i64 now, .agg #[.int .i64 x.a, .int .i64 x.l, .int .i64 x.f, .int .i64 x.b, .int .i64 x.m, .int .i64 S'.put]] W fun e w' => ∃ u F', e = .returned u ∧ Hs w' u (M.put S'.s now (hdIt x S'.put)).2 ∧ LkAt M C { S' with s := (M.put S'.s now (hdIt x S'.put)).1, put := S'.put + 1 } w' F' sv lv ∧ u.ownBlock ≠ some C.bg ∧ (∀ k, u.ownBlock = some k → lv.ownBlock ≠ some k)) := by
            intro W hW
            refine (HPUT.out W (hot13.trans (Ot.of_below hW))).mono ?_
            rintro e w4 ⟨u, F4, rfl, hu4, ha4, hf4, hn4, ho4⟩
            have hAW := HA3.out.below HM.out hW
            refine ⟨u, F4, rfl, hu4, hAW.queue (S' := { S' with s := (M.put S'.s now (hdIt x S'.put)).1, put := S'.put + 1 }) ho4 ha4 hf4 rfl rfl rfl rfl rfl, ?_, ?_⟩
            · intro e
              rcases hn4 _ e with h1 | h1
              · exact hAW.fg h1
              · have := lt_of_block hAW.log; omega
            · intro k hk hk2
              rcases hn4 _ hk with h1 | h1
              · exact (hAW.ln k hk2).2.1 h1
              · have := Seg.lt hAW.lost hk2; omega
          have HT3 : Hid (∀ w4 u F4, Hs w4 u (M.put S'.s now (hdIt x S'.put)).2 → LkAt M C { S' with s := (M.put S'.s now (hdIt x S'.put)).1, put := S'.put + 1 } w4 F4 sv lv → u.ownBlock ≠ some C.bg → (∀ k, u.ownBlock = some k → lv.ownBlock ≠ some k) → ∀ W, Below w4.heap.size w4 W → Calls Tryz.prog 40 #[u, .pointer (some ⟨C.bg, 0, none⟩)] W fun e w' => e = .returned (.tuple #[]) ∧ LkW M C (putL M now x S') w') := by
            intro w4 u F4 hu4 hA4 hn1 hn2 W hW
            have hAW := hA4.below HM.out hW
            refine (tellLost_any W hAW.log (Hs.below hu4 hW) hAW.lost hn1 hn2 (fun e => (hAW.ln _ e).2.2.2 rfl) HLB.out.2 (by have := HLB.out.1; show S'.lost.length ≤ _; omega)).mono ?_
            rintro e w5 ⟨rfl, lv5, hg5, hi5, hn5, ho5⟩
            exact ⟨rfl, F4, sv, lv5, hAW.told (S' := putL M now x S') HM.out hg5 hi5 hn5 ho5 rfl rfl rfl rfl rfl⟩
          clear hA3 hd3 hot13
          unfold loseV at c6
          go_region_with (first | (refine (HP3.out _ ?_).mono ?_; exact ⟨rfl, rfl, rfl, Nat.le_refl _, fun _ _ => rfl⟩; rintro e w4 ⟨u, F4, rfl, hu4, hA4, hn1, hn2⟩; have c66 := hA4.cells.2.2.2.2.2.2.1; unfold loseV at c66) | (go_at_call 40; refine (HT3.out w4 u F4 hu4 hA4 hn1 hn2 _ ?_).mono ?_; exact ⟨rfl, rfl, rfl, Nat.le_refl _, fun _ _ => rfl⟩; rintro e w5 ⟨rfl, hW5⟩))
          all_goals
            go_wp2_with fail
            go_roundw
            case rel => exact ⟨putL M now x S', hW5.below HM.out ⟨rfl, rfl, rfl, Nat.le_refl _, fun _ _ => rfl⟩, HST.out⟩
            case measure =>
              have e5 := hW5.putAt
              have e6 := HPA.out
              show C.items.length - putAt C.bw w5 < C.items.length - putAt C.bw wr
              rw [e5, e6]
              show _ - (S'.put + 1) < _
              omega
      · have HLE : Hid (¬ x.a ≤ now) := hle
        go_wp2
        go_quiet (fail)
        go_wp2
        go_end0
        have e := comeS_late (M := M) (now := now) HX.out (by have := HLE.out; omega)
        have hs := HI.out.same
        rw [e] at hs
        rw [← hs]
        exact ⟨rfl, HW.out.below HM.out ⟨rfl, rfl, rfl, Nat.le_refl _, fun _ _ => rfl⟩, HI.out, fun y hy => by rw [HX.out] at hy; obtain rfl := Option.some.inj hy; have := HLE.out; omega⟩
    · have HLT : Hid (C.items.length ≤ S'.put) := by show _ ≤ _; omega
      go_wp2
      go_quiet (fail)
      go_wp2
      go_end0
      have e := comeS_none (M := M) (now := now) HLT.out
      have hs := HI.out.same
      rw [e] at hs
      rw [← hs]
      exact ⟨rfl, HW.out.below HM.out ⟨rfl, rfl, rfl, Nat.le_refl _, fun _ _ => rfl⟩, HI.out, fun y hy => by rw [List.getElem?_eq_none HLT.out] at hy; cases hy⟩
end Go.Proofs.YtfakjedolecdcaaGreatDoor
