/-
  package plant: a Fifo that a text tells, or an error, whatever stands there. Conditions: as for numbers; errors.errorType is laid.
  millracekeep.run over whatever text: nothing, or a log in which each packet that came went, was thrown away, or waits. Conditions: Parse is as it is told (a premise); errors.errorType is laid; the packets lie in memory.
  LinkKeeps, as mathematics: which packets are marked, and how many are not. Nothing of the program is claimed here.
  package plant: a queue that begins with fifo or head. Conditions: as for a Fifo; not too many queues have begun, nor stand around.
-/
import Derived.Test.YtfakjedolecdcaaGreatDoorU36
import Derived.Test.YtfakjedolecdcaaGreatDoorU14
import Derived.Test.YtfakjedolecdcaaGreatDoorU8
import Derived.Test.YtfakjedolecdcaaGreatDoorU2
import Derived.Test.YtfakjedolecdcaaGreatDoorU13
namespace Go.Proofs.YtfakjedolecdcaaGreatDoor
open Go.RowKit Go.Extern.Stop Go.Stop Go.Extern
variable {E : Prop}

/-- An error, or some queue that is fine, holds nothing, loses and makes no packet, and lies in new memory; k queues stand in it. -/
def Qk (E : Prop) (k : Nat) (w0 w' : World) (e : Ending) : Prop := (∃ B, e = .returned (.tuple #[.nilIface, errV B])) ∨ ∃ (M : QM) (cont : M.σ → List (Int × Int)) (s0 : M.σ) (F : Nat → Prop), e = .returned (.tuple #[.iface M.ty M.rv, .nilIface]) ∧ M.Fine ∧ M.Late E cont ∧ M.Tame k ∧ M.inv 0 0 s0 ∧ cont s0 = [] ∧ M.At w' F s0 ∧ (∀ k, F k → w0.heap.size ≤ k)
theorem Qk.ot {k : Nat} {w0 w1 w2 : World} {e : Ending} {S : Nat → Prop} (h : Qk E k w0 w1 e) (ho : Ot S w1 w2) (hS : ∀ k, w0.heap.size ≤ k → k < w1.heap.size → ¬ S k) : Qk E k w0 w2 e := by
  rcases h with h | ⟨M, cont, s0, F, he, hM, hK, hT, hi, hc, ha, hF⟩
  · exact Or.inl h
  · exact Or.inr ⟨M, cont, s0, F, he, hM, hK, hT, hi, hc, hM.kept ha (fun k hk => ho.block k (hM.low ha k hk) (hS k (hF k hk) (hM.low ha k hk))), hF⟩
theorem Qk.below {k : Nat} {w0 w1 w2 : World} {e : Ending} (h : Qk E k w0 w1 e) (hb : Below w1.heap.size w1 w2) : Qk E k w0 w2 e := h.ot (S := fun _ => False) (Ot.of_below hb) (fun _ _ _ h => h)
theorem Qk.mono {k : Nat} {w0 w0' w1 : World} {e : Ending} (h : Qk E k w0 w1 e) (hs : w0'.heap.size ≤ w0.heap.size) : Qk E k w0' w1 e := by
  rcases h with h | ⟨M, cont, s0, F, he, hM, hK, hT, hi, hc, ha, hF⟩
  · exact Or.inl h
  · exact Or.inr ⟨M, cont, s0, F, he, hM, hK, hT, hi, hc, ha, fun k hk => Nat.le_trans hs (hF k hk)⟩
/-- So too, and a reader that has read. -/
def QkR (E : Prop) (k : Nat) (w w' : World) (b n : Nat) (rest : List Value) (v : Value) (L : List (List UInt8 × Nat)) (e : Ending) : Prop := Qk E k w w' e ∧ ∃ L', RdL w w' b n rest v L L'
theorem made_no (x : List UInt8 × Nat) (qv : Value) (c : Int) (w : World) (hL : Laid w) :
    Calls Tryz.prog 46 #[.agg #[.string ⟨x.1.toArray⟩, .int .i64 x.2], qv, .iface 57 (.int .i64 c)] w fun e w' => ∃ B, e = .returned (.tuple #[.nilIface, errV B]) ∧ Below w.heap.size w w' := by
  have HT : Hid (∀ w1, Below w.heap.size w w1 → Calls Tryz.prog 63 #[.iface 57 (.int .i64 c)] w1 fun e w' => e = .returned (.int .i64 c) ∧ Below w1.heap.size w1 w') := fun w1 h => tell_errno c w1 (hL.below h)
  clear hL
  go_enter Tryz.func46, Tryz.ntmps46
  go_wp2_with fail
  have HB0 : Hid (Below w.heap.size w (w.alloc (.cells #[.string ⟨x.1.toArray⟩, .int .i64 x.2] 60))) := below_alloc_ (Below.refl _ _) _
  have HX0 : Hid ((w.alloc (.cells #[.string ⟨x.1.toArray⟩, .int .i64 x.2] 60)).heap[w.heap.size]? = some (.cells #[.string ⟨x.1.toArray⟩, .int .i64 x.2] 60 (0, 0))) := new_block _ _
  generalize w.alloc (.cells #[.string ⟨x.1.toArray⟩, .int .i64 x.2] 60) = W0 at *
  have HC0 : Hid (∀ W, Below W0.heap.size W0 W → W.cell? ⟨w.heap.size, 0, none⟩ = some (.string ⟨x.1.toArray⟩) ∧ W.cell? ⟨w.heap.size, 1, none⟩ = some (.int .i64 x.2)) := fun W h => by
    have h2 := (h.block _ (lt_of_block HX0.out)).trans HX0.out
    exact ⟨by simp [World.cell?, h2], by simp [World.cell?, h2]⟩
  have HT0 : Hid (∀ w1, Below W0.heap.size W0 w1 → Calls Tryz.prog 63 #[.iface 57 (.int .i64 c)] w1 fun e w' => e = .returned (.int .i64 c) ∧ Hid (Below W0.heap.size W0 w')) := fun w1 h => (HT.out w1 (HB0.out.trans (h.mono HB0.out.size))).mono fun e w' ⟨h1, h2⟩ => ⟨h1, h.trans (h2.mono h.size)⟩
  have HU0 : Hid (∀ w1, Below W0.heap.size W0 w1 → Calls Tryz.prog 22 #[.agg #[.string ⟨x.1.toArray⟩, .int .i64 x.2], .int .i64 c] w1 fun e w' => ∃ B, e = .returned (errV B) ∧ Hid (Below W0.heap.size W0 w')) := fun w1 h => (wrongS_any _ _ _ w1).mono fun e w' ⟨B, h1, h2⟩ => ⟨B, h1, h.trans (h2.mono h.size)⟩
  go_region_held3 (fun W => W.cell? ⟨w.heap.size, 0, none⟩ = some (.string ⟨x.1.toArray⟩) ∧ W.cell? ⟨w.heap.size, 1, none⟩ = some (.int .i64 x.2))
    (first
      | (with_reducible exact HC0.out _ HW2.out)
      | (with_reducible exact HC0.out _ HW1.out)
      | (with_reducible exact HC0.out _ (Below.refl _ _).drew)
      | (with_reducible exact HC0.out _ (Below.refl _ _)))
    (first
      | (go_at_call 63; refine (HT0.out _ (Below.refl _ _).drew).mono ?_; rintro e w1 ⟨rfl, HW1⟩)
      | (go_at_call 22; refine (HU0.out _ HW1.out).mono ?_; rintro e w2 ⟨B, rfl, HW2⟩))
  all_goals
    go_wp2
    (try simp only [Exit.inBlock, Exit.then])
    go_ret2
    exact ⟨B, rfl, HB0.out.trans (HW2.out.mono HB0.out.size)⟩
end Go.Proofs.YtfakjedolecdcaaGreatDoor
namespace Go.Proofs.YtfakjedolecdcaaGreatDoor
open Go.RowKit Go.Extern.Stop Go.Stop Go.Extern
variable {E : Prop}

/-- What is so of a log. -/
structure KwL (E : Prop) (items : List It) (n t u : Int) (sent : List Snt) (lost : List Int) (wt : Int) : Prop where
  went : ∀ i s, sent[i]? = some s → KwS items n t u sent i s
  all : ∃ (p : Nat) (C : List Int), p ≤ items.length ∧ (∀ j, j < items.length → ((items.getD j it0).a ≤ u ↔ j < p)) ∧ (sent.map Snt.n ++ (lost ++ C)).Perm ((List.range p).map fun i => ((i : Nat) : Int)) ∧ wt ≤ C.length ∧ (E → wt = C.length)
theorem kwL_of {M : QM} (hM : M.Fine) {cont : M.σ → List (Int × Int)} (hK : M.Late E cont) {items : List It} {n t u : Int} {s0 : M.σ} (hi0 : M.inv 0 0 s0) (hc0 : cont s0 = []) (hl : okL items) (hu : u ≤ 10000000) {k : Nat} (hon : ∀ j, j < k → goesOn u (itL M items n t s0 j)) (hoff : ¬ goesOn u (itL M items n t s0 k)) :
    KwL E items n t u (itL M items n t s0 k).1.sent (itL M items n t s0 k).1.lost (M.len (itL M items n t s0 k).1.s) := by
  obtain ⟨hJ, h1, h2, h3⟩ := kw_end hM hK hi0 hc0 hl hu hon hoff
  refine ⟨hJ.went, (itL M items n t s0 k).1.put, (cont (itL M items n t s0 k).1.s).map Prod.fst, hJ.put, h1, ?_, by rw [List.length_map]; exact h2, fun e => by rw [List.length_map]; exact h3 e⟩
  obtain ⟨A, B, hA, hB, hAB⟩ := hJ.all
  have := hAB.map Prod.fst
  rw [prs_fst, List.map_append, List.map_append, hA, hB] at this
  exact this
def logZ : Value := .agg #[.slice none 0 0, .slice none 0 0, .int .i64 0, .int .i64 0]
/-- What the run gives. -/
def RunK (E : Prop) (items : List It) (n t u : Int) (w w' : World) (e : Ending) : Prop := (e = .returned (.tuple #[.agg #[.slice none 0 0, .slice none 0 0, .int .i64 0, .int .i64 0], .bool false]) ∨ ∃ (sent : List Snt) (lost : List Int) (sx lx : Option Addr) (sc lc : Nat) (wt ms : Int), e = .returned (.tuple #[.agg #[.slice sx sent.length sc, .slice lx lost.length lc, .int .i64 wt, .int .i64 ms], .bool true]) ∧ Seg w' 49 4 (.slice sx sent.length sc) sent.length (flt Snt.cs sent) ∧ Ins w' (.slice lx lost.length lc) lost ∧ KwL E items n t u sent lost wt ∧ okRate n t = true ∧ okL items ∧ u ≤ 10000000) ∧ Below w.heap.size w w'
/-- link.Run's, laid by itself. -/
def RunR (E : Prop) (items : List It) (n t u : Int) (F0 : Nat → Prop) (w w' : World) (e : Ending) : Prop := (∃ ey ev, e = .returned (.tuple #[.agg #[.slice none 0 0, .slice none 0 0, .int .i64 0, .int .i64 0], .iface ey ev]) ∧ Below w.heap.size w w') ∨ ∃ (sent : List Snt) (lost : List Int) (sx lx : Option Addr) (sc lc : Nat) (wt ms : Int), e = .returned (.tuple #[.agg #[.slice sx sent.length sc, .slice lx lost.length lc, .int .i64 wt, .int .i64 ms], .nilIface]) ∧ Hid (Seg w' 49 4 (.slice sx sent.length sc) sent.length (flt Snt.cs sent)) ∧ Hid (Ins w' (.slice lx lost.length lc) lost) ∧ Hid (KwL E items n t u sent lost wt ∧ okRate n t = true ∧ okL items ∧ u ≤ 10000000) ∧ Hid (∀ b, (Value.slice sx sent.length sc).ownBlock = some b → w.heap.size ≤ b) ∧ Hid (∀ b, (Value.slice lx lost.length lc).ownBlock = some b → w.heap.size ≤ b) ∧ Hid (Ot F0 w w')
theorem lkcheck_upto (ty : TypeId) (rv : Value) (n t : Int) (x : Option Addr) (cap : Nat) (xs : List It) (u : Int) (w : World) (h : okRate n t = true) (hl : okL xs) (hL : Laid w) (hI : ItemsAt w x xs) (hm : xs.length ≤ maxLen) (hu : ¬ (0 ≤ u ∧ u ≤ 10000000)) :
    Calls Tryz.prog 39 #[.iface ty rv, .agg #[.int .i64 n, .int .i64 t], .slice x xs.length cap, .int .i64 u] w fun e w' => ∃ ey ev, e = .returned (.iface ey ev) ∧ Below w.heap.size w w' := by
  have H : Hid (okRate n t = true) := h
  have HN : Hid (okL xs) := hl
  have HL : Hid (Laid w) := hL
  have HI : Hid (ItemsAt w x xs) := hI
  have HMM : Hid (xs.length ≤ maxLen) := hm
  clear h hl hL hI hm
  go_enter Tryz.func39, Tryz.ntmps39
  go_wp2_with (go_at_call 28; refine (speed_yes _ _ _ H.out).mono ?_; rintro e w1 ⟨rfl, rfl⟩)
  have hB0 : Below w.heap.size w ((w.alloc (.cells #[.int .i64 n, .int .i64 t] 37)).alloc (.cells #[.int .i64 n, .int .i64 t] 37)) := below_alloc_ (below_alloc_ (Below.refl _ _) _) _
  generalize (w.alloc (.cells #[.int .i64 n, .int .i64 t] 37)).alloc (.cells #[.int .i64 n, .int .i64 t] 37) = w0 at *
  refine (list_any x cap xs w0 (HL.out.below hB0) (HI.out.below hB0) HMM.out).mono ?_
  rintro e w1 ⟨v, rfl, hv, hb1⟩
  obtain rfl := HN.out.nil hv
  have HB : Hid (Below w.heap.size w w1) := hB0.trans (hb1.mono hB0.size)
  clear hv hb1 hB0
  by_cases h0 : u < 0
  · have o1 : decide (u < 0) = true := by simpa using h0
    clear hu h0
    go_wp2
    go_ret
    exact ⟨_, _, rfl, HB.out⟩
  · have o1 : decide (u < 0) = false := by simpa using h0
    have o2 : decide (10000000 < u) = true := by simp; omega
    clear hu h0
    go_wp2
    go_ret
    exact ⟨_, _, rfl, HB.out⟩
theorem lkrun_any {M : QM} (hM : M.Fine) {cont : M.σ → List (Int × Int)} (hK : M.Late E cont) (F0 : Nat → Prop) (s0 : M.σ) (n t : Int) (x : Option Addr) (cap : Nat) (items : List It) (u : Int) (w : World) (hA : M.At w F0 s0) (hI : M.inv 0 0 s0) (hc : cont s0 = []) (hL : Laid w) (hit : ItemsAt w x items) (hout : ∀ a, x = some a → items ≠ [] → ¬ F0 a.block) (hm : items.length ≤ 60) :
    Calls Tryz.prog 26 #[.iface M.ty M.rv, .agg #[.int .i64 n, .int .i64 t], .slice x items.length cap, .int .i64 u] w fun e w' => RunR E items n t u F0 w w' e := by
  have hmm : items.length ≤ maxLen := by unfold maxLen; omega
  by_cases hg : okRate n t = true ∧ okL items ∧ 0 ≤ u ∧ u ≤ 10000000
  · obtain ⟨hr, hl, hu0, hu1⟩ := hg
    refine (run_yes hM F0 s0 n t x cap items u w hA hI hr hl hL hit hout hmm hu0 hu1).mono ?_
    rintro e w' ⟨k, sv, lv, F', rfl, hR⟩
    have hkw := kwL_of hM hK hI hc hl hu1 hR.on hR.off
    have hs := hR.sent
    have hlo := hR.lost
    have hsn := hR.sn
    have hln := hR.ln
    obtain ⟨sx, sc, rfl⟩ : ∃ x c, sv = .slice x (itL M items n t s0 k).1.sent.length c := by
      rcases Seg.form hs with ⟨h, h0⟩ | ⟨b, o, c, h, _⟩
      · exact ⟨none, 0, by rw [h, h0.1]⟩
      · exact ⟨_, _, h⟩
    obtain ⟨lx, lc, rfl⟩ : ∃ x c, lv = .slice x (itL M items n t s0 k).1.lost.length c := by
      rcases Seg.form hlo with ⟨h, h0⟩ | ⟨b, o, c, h, _⟩
      · exact ⟨none, 0, by rw [h, h0.1]⟩
      · exact ⟨_, _, h⟩
    exact Or.inr ⟨_, _, sx, lx, sc, lc, _, _, rfl, hs, hlo, ⟨hkw, hr, hl, hu1⟩, hsn, hln, hR.ot⟩
  · refine (run_no _ _ _ _ _ _ _ _ _ (fun W hW => ?_)).mono (fun e w' h => Or.inl h)
    cases hr : okRate n t with
    | false => exact (lkcheck_rate _ _ _ _ _ _ _ _ _ hr).mono fun e w' ⟨h1, h2⟩ => ⟨_, _, h1, h2⟩
    | true =>
      by_cases hl : okL items
      · exact lkcheck_upto _ _ _ _ _ _ _ _ _ hr hl (hL.below hW) (hit.below hW) hmm (fun h => hg ⟨hr, hl, h⟩)
      · exact lkcheck_list _ _ _ _ _ _ _ _ _ hr hl (hL.below hW) (hit.below hW) hmm
set_option maxRecDepth 20000 in
set_option maxHeartbeats 4000000 in
theorem runK_any (tx : ByteArray) (n t : Int) (x : Option Addr) (cap : Nat) (items : List It) (u : Int) (w : World)
    (hP : ∀ w1, Below w.heap.size w w1 → Calls Tryz.prog 7 #[.string tx, .slice none 0 0] w1 fun e w' => Qk E 20 w1 w' e ∧ Below w1.heap.size w1 w')
    (hL : Laid w) (hit : ItemsAt w x items) (hm : items.length ≤ 60) :
    Calls Tryz.prog 11 #[.string tx, .agg #[.int .i64 n, .int .i64 t], .slice x items.length cap, .int .i64 u] w fun e w' => RunK E items n t u w w' e := by
  have HPF : Hid (∀ w1, Below w.heap.size w w1 → Calls Tryz.prog 7 #[.string tx, .slice none 0 0] w1 fun e w' => Qk E 20 w1 w' e ∧ Below w1.heap.size w1 w') := hP
  have HRN : Hid (∀ w1 (M : QM) (cont : M.σ → List (Int × Int)) (s0 : M.σ) (F : Nat → Prop), M.Fine → M.Late E cont → M.inv 0 0 s0 → cont s0 = [] → M.At w1 F s0 → Below w.heap.size w w1 → (∀ k, F k → w.heap.size ≤ k) → Calls Tryz.prog 26 #[.iface M.ty M.rv, .agg #[.int .i64 n, .int .i64 t], .slice x items.length cap, .int .i64 u] w1 fun e w' => RunR E items n t u F w1 w' e) := by
    intro w1 M cont s0 F hM hK hi hc ha h1 hF
    refine lkrun_any hM hK F s0 n t x cap items u w1 ha hi hc (hL.below h1) (hit.below h1) ?_ hm
    intro a ha hne e
    rcases hit with h | ⟨b, off, h, hc⟩
    · exact hne h
    · rw [h] at ha
      obtain rfl := Option.some.inj ha
      obtain ⟨y, r, hy⟩ : ∃ y r, items = y :: r := by cases hxs : items with | nil => exact absurd hxs hne | cons y r => exact ⟨y, r, rfl⟩
      have hlt := lt_of_cell (hc 0 y (by rw [hy]; rfl)).1
      have hlt' : b < w.heap.size := hlt
      have := hF b e
      omega
  clear hP hL hit hm
  go_enter Tryz.func11, Tryz.ntmps11
  go_wp2_with (go_at_call 7; fail)
  have hb0 : Below w.heap.size w ((w.alloc (.cells #[.int .i64 n, .int .i64 t] 37)).alloc (.cells #[.slice none 0 0, .slice none 0 0, .int .i64 0, .int .i64 0] 41)) := below_alloc_ (below_alloc_ (Below.refl _ _) _) _
  have hx0 : ((w.alloc (.cells #[.int .i64 n, .int .i64 t] 37)).alloc (.cells #[.slice none 0 0, .slice none 0 0, .int .i64 0, .int .i64 0] 41)).heap[w.heap.size]? = some (.cells #[.int .i64 n, .int .i64 t] 37 (0, 0)) := (Below.heap_alloc _ _ _ (by simp)).trans (new_block _ _)
  have hx1 : ((w.alloc (.cells #[.int .i64 n, .int .i64 t] 37)).alloc (.cells #[.slice none 0 0, .slice none 0 0, .int .i64 0, .int .i64 0] 41)).heap[w.heap.size + 1]? = some (.cells #[.slice none 0 0, .slice none 0 0, .int .i64 0, .int .i64 0] 41 (0, 0)) := new_block_ (by simp)
  have hs0 : ((w.alloc (.cells #[.int .i64 n, .int .i64 t] 37)).alloc (.cells #[.slice none 0 0, .slice none 0 0, .int .i64 0, .int .i64 0] 41)).heap.size = w.heap.size + 2 := by simp
  generalize (w.alloc (.cells #[.int .i64 n, .int .i64 t] 37)).alloc (.cells #[.slice none 0 0, .slice none 0 0, .int .i64 0, .int .i64 0] 41) = w0 at *
  refine (HPF.out w0 hb0).mono ?_
  rintro e w1 ⟨hqk, hb1⟩
  have hb01 : Below w.heap.size w w1 := hb0.trans (hb1.mono hb0.size)
  have hx01 := (hb1.block w.heap.size (by omega)).trans hx0
  have hx11 := (hb1.block (w.heap.size + 1) (by omega)).trans hx1
  have HB01 : Hid (Below w.heap.size w w1) := hb01
  have HX11 : Hid (w1.heap[w.heap.size + 1]? = some (.cells #[.slice none 0 0, .slice none 0 0, .int .i64 0, .int .i64 0] 41 (0, 0))) := hx11
  have hs1 := hb1.size
  rcases hqk with ⟨B, rfl⟩ | ⟨M, cont, s0, F, rfl, hM, hK, -, hi, hc, ha, hF⟩
  · unfold errV
    have z0 : w1.cell? ⟨w.heap.size + 1, 0, none⟩ = some (.slice none 0 0) := by simp [World.cell?, hx11]
    have z1 : w1.cell? ⟨w.heap.size + 1, 1, none⟩ = some (.slice none 0 0) := by simp [World.cell?, hx11]
    have z2 : w1.cell? ⟨w.heap.size + 1, 2, none⟩ = some (.int .i64 0) := by simp [World.cell?, hx11]
    have z3 : w1.cell? ⟨w.heap.size + 1, 3, none⟩ = some (.int .i64 0) := by simp [World.cell?, hx11]
    have y0 : w1.frozen? ⟨w.heap.size + 1, 0, none⟩ = false := by simp [World.frozen?, hx11]
    have y1 : w1.frozen? ⟨w.heap.size + 1, 1, none⟩ = false := by simp [World.frozen?, hx11]
    have y2 : w1.frozen? ⟨w.heap.size + 1, 2, none⟩ = false := by simp [World.frozen?, hx11]
    have y3 : w1.frozen? ⟨w.heap.size + 1, 3, none⟩ = false := by simp [World.frozen?, hx11]
    have hblx := lt_of_block hx11
    clear hb0 hx0 hx1 hb1 hb01 hx01 hx11 HPF HRN
    go_wp2
    (try simp only [Exit.inBlock, Exit.then])
    have hz : ((((w1.setCell ⟨w.heap.size + 1, 0, none⟩ (.slice none 0 0)).setCell ⟨w.heap.size + 1, 1, none⟩ (.slice none 0 0)).setCell ⟨w.heap.size + 1, 2, none⟩ (.int .i64 0)).setCell ⟨w.heap.size + 1, 3, none⟩ (.int .i64 0)).heap[w.heap.size + 1]? = some (.cells #[.slice none 0 0, .slice none 0 0, .int .i64 0, .int .i64 0] 41 (0, 0)) := by
      rw [heap_setCell_here (heap_setCell_here (heap_setCell_here (heap_setCell_here HX11.out _) _) _) _]
      simp
    have hot : Ot (fun k => k = w.heap.size + 1) w1 ((((w1.setCell ⟨w.heap.size + 1, 0, none⟩ (.slice none 0 0)).setCell ⟨w.heap.size + 1, 1, none⟩ (.slice none 0 0)).setCell ⟨w.heap.size + 1, 2, none⟩ (.int .i64 0)).setCell ⟨w.heap.size + 1, 3, none⟩ (.int .i64 0)) := by
      repeat' (first | with_reducible exact Ot.refl _ _ | with_reducible refine Ot.drew ?_ | with_reducible refine Ot.setCell ?_ (by simp) _ | with_reducible refine Ot.alloc ?_ _)
    refine bodyPost_ret (v := .tuple #[.agg #[.slice none 0 0, .slice none 0 0, .int .i64 0, .int .i64 0], .bool false]) ?_ rfl ⟨Or.inl rfl, HB01.out.trans (hot.below HB01.out.size (fun k hk => by omega))⟩
    rw [results_cell_tmp rfl]
    simp [asAddr, Result.andThen, load_log hz]
  · have r0 : w1.cell? ⟨w.heap.size, 0, none⟩ = some (.int .i64 n) := by simp [World.cell?, hx01]
    have r1 : w1.cell? ⟨w.heap.size, 1, none⟩ = some (.int .i64 t) := by simp [World.cell?, hx01]
    have HFF : Hid (∀ k, F k → w.heap.size + 2 ≤ k) := fun k hk => by have := hF k hk; omega
    have HR1 := HRN.out w1 M cont s0 F hM hK hi hc ha hb01 (fun k hk => by have := hF k hk; omega)
    clear hb0 hx0 hx1 hb1 hb01 hx01 hx11 HPF hM hK hi hc ha hF HRN
    go_wp2_with (go_at_call 26; fail)
    refine HR1.mono ?_
    rintro e w2 (⟨ey, ev, rfl, hb2⟩ | ⟨sent, lost, sx, lx, sc, lc, wt, ms, rfl, HSE, HLO, HKW, HSN, HLN, hot2⟩)
    · have hx2 : w2.heap[w.heap.size + 1]? = some (.cells #[.slice none 0 0, .slice none 0 0, .int .i64 0, .int .i64 0] 41 (0, 0)) := (hb2.block (w.heap.size + 1) (by omega)).trans HX11.out
      have hs2 := hb2.size
      have HB02 : Hid (Below w.heap.size w w2) := HB01.out.trans (hb2.mono HB01.out.size)
      have HX2 : Hid (w2.heap[w.heap.size + 1]? = some (.cells #[.slice none 0 0, .slice none 0 0, .int .i64 0, .int .i64 0] 41 (0, 0))) := hx2
      have z0 : w2.cell? ⟨w.heap.size + 1, 0, none⟩ = some (.slice none 0 0) := by simp [World.cell?, hx2]
      have z1 : w2.cell? ⟨w.heap.size + 1, 1, none⟩ = some (.slice none 0 0) := by simp [World.cell?, hx2]
      have z2 : w2.cell? ⟨w.heap.size + 1, 2, none⟩ = some (.int .i64 0) := by simp [World.cell?, hx2]
      have z3 : w2.cell? ⟨w.heap.size + 1, 3, none⟩ = some (.int .i64 0) := by simp [World.cell?, hx2]
      have y0 : w2.frozen? ⟨w.heap.size + 1, 0, none⟩ = false := by simp [World.frozen?, hx2]
      have y1 : w2.frozen? ⟨w.heap.size + 1, 1, none⟩ = false := by simp [World.frozen?, hx2]
      have y2 : w2.frozen? ⟨w.heap.size + 1, 2, none⟩ = false := by simp [World.frozen?, hx2]
      have y3 : w2.frozen? ⟨w.heap.size + 1, 3, none⟩ = false := by simp [World.frozen?, hx2]
      have hblx := lt_of_block hx2
      clear hx2 r0 r1 hb2 HR1
      go_wp2_with fail
      go_region
      all_goals go_wp2
      all_goals (try simp only [Exit.inBlock, Exit.then])
      have hz : (((((w2.setCell ⟨w.heap.size + 1, 0, none⟩ (.slice none 0 0)).setCell ⟨w.heap.size + 1, 1, none⟩ (.slice none 0 0)).setCell ⟨w.heap.size + 1, 2, none⟩ (.int .i64 0)).setCell ⟨w.heap.size + 1, 3, none⟩ (.int .i64 0)).alloc (.cells #[.slice none 0 0, .slice none 0 0, .int .i64 0, .int .i64 0] 41)).drew.heap[w.heap.size + 1]? = some (.cells #[.slice none 0 0, .slice none 0 0, .int .i64 0, .int .i64 0] 41 (0, 0)) := by
        refine (Below.heap_alloc _ _ _ (by simp; omega)).trans ?_
        rw [heap_setCell_here (heap_setCell_here (heap_setCell_here (heap_setCell_here HX2.out _) _) _) _]
        simp
      have hot : Ot (fun k => k = w.heap.size + 1) w2 (((((w2.setCell ⟨w.heap.size + 1, 0, none⟩ (.slice none 0 0)).setCell ⟨w.heap.size + 1, 1, none⟩ (.slice none 0 0)).setCell ⟨w.heap.size + 1, 2, none⟩ (.int .i64 0)).setCell ⟨w.heap.size + 1, 3, none⟩ (.int .i64 0)).alloc (.cells #[.slice none 0 0, .slice none 0 0, .int .i64 0, .int .i64 0] 41)).drew := by
        repeat' (first | with_reducible exact Ot.refl _ _ | with_reducible refine Ot.drew ?_ | with_reducible refine Ot.setCell ?_ (by simp) _ | with_reducible refine Ot.alloc ?_ _)
      refine bodyPost_ret (v := .tuple #[.agg #[.slice none 0 0, .slice none 0 0, .int .i64 0, .int .i64 0], .bool false]) ?_ rfl ⟨Or.inl rfl, HB02.out.trans (hot.below HB02.out.size (fun k hk => by omega))⟩
      rw [results_cell_tmp rfl]
      simp [asAddr, Result.andThen, load_log hz]
    · have hx2 : w2.heap[w.heap.size + 1]? = some (.cells #[.slice none 0 0, .slice none 0 0, .int .i64 0, .int .i64 0] 41 (0, 0)) := (hot2.out.block (w.heap.size + 1) (by omega) (fun h => by have := HFF.out _ h; omega)).trans HX11.out
      have hs2 := hot2.out.size
      have HB02 : Hid (Below w.heap.size w w2) := HB01.out.trans (hot2.out.below HB01.out.size (fun j hj => by have := HFF.out j hj; omega))
      have HX2 : Hid (w2.heap[w.heap.size + 1]? = some (.cells #[.slice none 0 0, .slice none 0 0, .int .i64 0, .int .i64 0] 41 (0, 0))) := hx2
      have z0 : w2.cell? ⟨w.heap.size + 1, 0, none⟩ = some (.slice none 0 0) := by simp [World.cell?, hx2]
      have z1 : w2.cell? ⟨w.heap.size + 1, 1, none⟩ = some (.slice none 0 0) := by simp [World.cell?, hx2]
      have z2 : w2.cell? ⟨w.heap.size + 1, 2, none⟩ = some (.int .i64 0) := by simp [World.cell?, hx2]
      have z3 : w2.cell? ⟨w.heap.size + 1, 3, none⟩ = some (.int .i64 0) := by simp [World.cell?, hx2]
      have y0 : w2.frozen? ⟨w.heap.size + 1, 0, none⟩ = false := by simp [World.frozen?, hx2]
      have y1 : w2.frozen? ⟨w.heap.size + 1, 1, none⟩ = false := by simp [World.frozen?, hx2]
      have y2 : w2.frozen? ⟨w.heap.size + 1, 2, none⟩ = false := by simp [World.frozen?, hx2]
      have y3 : w2.frozen? ⟨w.heap.size + 1, 3, none⟩ = false := by simp [World.frozen?, hx2]
      have hblx := lt_of_block hx2
      obtain ⟨sn, hsn⟩ : ∃ sn, sent.length = sn := ⟨_, rfl⟩
      obtain ⟨ln, hln⟩ : ∃ ln, lost.length = ln := ⟨_, rfl⟩
      rw [hsn] at HSE HSN ⊢
      rw [hln] at HLO HLN ⊢
      have HSNL : Hid (sent.length = sn) := hsn
      have HLNL : Hid (lost.length = ln) := hln
      clear hx2 r0 r1 hot2 HR1 hsn hln
      go_wp2_with fail
      go_region
      all_goals go_wp2
      all_goals (try simp only [Exit.inBlock, Exit.then])
      have hz : (((((w2.setCell ⟨w.heap.size + 1, 0, none⟩ (.slice sx sn sc)).setCell ⟨w.heap.size + 1, 1, none⟩ (.slice lx ln lc)).setCell ⟨w.heap.size + 1, 2, none⟩ (.int .i64 wt)).setCell ⟨w.heap.size + 1, 3, none⟩ (.int .i64 ms)).alloc (.cells #[.slice sx sn sc, .slice lx ln lc, .int .i64 wt, .int .i64 ms] 41)).drew.heap[w.heap.size + 1]? = some (.cells #[.slice sx sn sc, .slice lx ln lc, .int .i64 wt, .int .i64 ms] 41 (0, 0)) := by
        refine (Below.heap_alloc _ _ _ (by simp; omega)).trans ?_
        rw [heap_setCell_here (heap_setCell_here (heap_setCell_here (heap_setCell_here HX2.out _) _) _) _]
        simp
      have hot : Ot (fun k => k = w.heap.size + 1) w2 (((((w2.setCell ⟨w.heap.size + 1, 0, none⟩ (.slice sx sn sc)).setCell ⟨w.heap.size + 1, 1, none⟩ (.slice lx ln lc)).setCell ⟨w.heap.size + 1, 2, none⟩ (.int .i64 wt)).setCell ⟨w.heap.size + 1, 3, none⟩ (.int .i64 ms)).alloc (.cells #[.slice sx sn sc, .slice lx ln lc, .int .i64 wt, .int .i64 ms] 41)).drew := by
        repeat' (first | with_reducible exact Ot.refl _ _ | with_reducible refine Ot.drew ?_ | with_reducible refine Ot.setCell ?_ (by simp) _ | with_reducible refine Ot.alloc ?_ _)
      refine bodyPost_ret (v := .tuple #[.agg #[.slice sx sn sc, .slice lx ln lc, .int .i64 wt, .int .i64 ms], .bool true]) ?_ rfl ⟨Or.inr ⟨sent, lost, sx, lx, sc, lc, wt, ms, by rw [HSNL.out, HLNL.out], ?_, ?_, HKW.out.1, HKW.out.2.1, HKW.out.2.2.1, HKW.out.2.2.2⟩, HB02.out.trans (hot.below HB02.out.size (fun k hk => by omega))⟩
      · rw [results_cell_tmp rfl]
        simp [asAddr, Result.andThen, load_log hz]
      · rw [HSNL.out]; exact HSE.out.oth hot (fun b hb e => by have := HSN.out b hb; omega)
      · rw [HLNL.out]; exact Seg.oth HLO.out hot (fun b hb e => by have := HLN.out b hb; omega)
end Go.Proofs.YtfakjedolecdcaaGreatDoor
namespace Go.Proofs.YtfakjedolecdcaaGreatDoor

/-- How many of the first ones wait. -/
def cntK (T : List Int) (p : Nat) : Nat → Nat
  | 0 => 0
  | j + 1 => cntK T p j + if (j : Int) ∉ T ∧ j < p then 1 else 0
theorem cntK_le (T : List Int) (p : Nat) : ∀ j, cntK T p j ≤ j := by
  intro j
  induction j with
  | zero => exact Nat.le_refl _
  | succ j ih =>
    simp only [cntK]
    split <;> omega
theorem cntK_beyond (T : List Int) {p N : Nat} (h : p ≤ N) : cntK T p N = cntK T p p := by
  induction N with
  | zero => obtain rfl : p = 0 := by omega
            rfl
  | succ N ih =>
    by_cases e : p = N + 1
    · rw [e]
    · simp only [cntK]
      rw [ih (by omega), if_neg (by omega)]
      rfl
theorem cntK_filter (T : List Int) {p : Nat} : ∀ {j : Nat}, j ≤ p → cntK T p j = (((List.range j).map fun i => ((i : Nat) : Int)).filter fun x => !T.contains x).length := by
  intro j
  induction j with
  | zero => intro _; rfl
  | succ j ih =>
    intro h
    simp only [cntK]
    rw [ih (by omega), List.range_succ, List.map_append, List.filter_append, List.length_append]
    congr 1
    by_cases e : (j : Int) ∈ T
    · rw [if_neg (by simp [e])]
      simp [e]
    · rw [if_pos ⟨e, by omega⟩]
      simp [e]
theorem range_nodup (p : Nat) : ((List.range p).map fun i => ((i : Nat) : Int)).Nodup :=
  List.pairwise_map.2 (List.nodup_range.imp fun h e => h (by omega))
theorem cntK_end {T C : List Int} {p N : Nat} (h : (T ++ C).Perm ((List.range p).map fun i => ((i : Nat) : Int))) (hp : p ≤ N) : cntK T p N = C.length := by
  rw [cntK_beyond T hp, cntK_filter T (Nat.le_refl p), ← (h.filter _).length_eq, List.filter_append, List.length_append]
  have hnd := h.nodup_iff.2 (range_nodup p)
  rw [List.nodup_append] at hnd
  have h1 : T.filter (fun x => !T.contains x) = [] := by
    rw [List.filter_eq_nil_iff]
    intro x hx
    simp [hx]
  have h2 : C.filter (fun x => !T.contains x) = C := by
    rw [List.filter_eq_self]
    intro x hx
    have : x ∉ T := fun hT => hnd.2.2 x hT x hx rfl
    simp [this]
  rw [h1, h2]
  simp
/-- Each one that is marked, in order. -/
theorem KwL.at {E : Prop} {items : List It} {n t u : Int} {sent : List Snt} {lost : List Int} {wt : Int} (h : KwL E items n t u sent lost wt) {j : Nat} {k : Int} (hj : (sent.map Snt.n ++ lost)[j]? = some k) :
    ∃ kn : Nat, k = (kn : Int) ∧ kn < items.length ∧ (items.getD kn it0).a ≤ u ∧ k ∉ (sent.map Snt.n ++ lost).take j ∧ (sent.map Snt.n ++ lost).take (j + 1) = (sent.map Snt.n ++ lost).take j ++ [k] := by
  obtain ⟨p, C, hp, hu, hperm, _, _⟩ := h.all
  rw [← List.append_assoc] at hperm
  generalize sent.map Snt.n ++ lost = T at *
  have hmem : k ∈ (List.range p).map fun i => ((i : Nat) : Int) := hperm.mem_iff.1 (List.mem_append_left _ (List.mem_of_getElem? hj))
  obtain ⟨kn, hkn, rfl⟩ := List.mem_map.1 hmem
  have hkp := List.mem_range.1 hkn
  have hnd := hperm.nodup_iff.2 (range_nodup p)
  rw [List.nodup_append] at hnd
  have htk : T.take (j + 1) = T.take j ++ [(kn : Int)] := by
    rw [List.take_add_one, hj]
    rfl
  refine ⟨kn, rfl, by omega, (hu kn (by omega)).2 hkp, ?_, htk⟩
  have hnt : (T.take (j + 1)).Nodup := hnd.1.sublist (List.take_sublist _ _)
  rw [htk, List.nodup_append] at hnt
  exact fun hm => hnt.2.2 _ hm _ (by simp) rfl
theorem KwL.rest {E : Prop} {items : List It} {n t u : Int} {sent : List Snt} {lost : List Int} {wt : Int} (h : KwL E items n t u sent lost wt) :
    ∃ p, (∀ j, j < items.length → ((items.getD j it0).a ≤ u ↔ j < p)) ∧ wt ≤ cntK (sent.map Snt.n ++ lost) p items.length ∧ (E → wt = cntK (sent.map Snt.n ++ lost) p items.length) ∧ (sent.map Snt.n ++ lost).length ≤ items.length := by
  obtain ⟨p, C, hp, hu, hperm, h1, h2⟩ := h.all
  rw [← List.append_assoc] at hperm
  have e := cntK_end hperm hp
  have hl := hperm.length_eq
  rw [List.length_append, List.length_map, List.length_range] at hl
  exact ⟨p, hu, by rw [e]; exact h1, fun hE => by rw [e]; exact h2 hE, by omega⟩
end Go.Proofs.YtfakjedolecdcaaGreatDoor
namespace Go.Proofs.YtfakjedolecdcaaGreatDoor
open Go.RowKit Go.Extern.Stop Go.Stop Go.Extern

section
variable {w w' : World} {b : Nat} {T : TypeId} {n : Nat} {tv : Value} {k : Int} {v : Value} {L : List (List UInt8 × Nat)}
theorem RdAt.begun (h : RdAt w b T n [tv, .int .i64 k] v L) : w.cell? ⟨b, 4, none⟩ = some (.int .i64 k) ∧ w.frozen? ⟨b, 4, none⟩ = false := by
  have hb := h.blk
  constructor <;> simp [World.cell?, World.frozen?, hb]
theorem RdAt.begin_ (h : RdAt w b T n [tv, .int .i64 k] v L) (j : Int) : RdAt (w.setCell ⟨b, 4, none⟩ (.int .i64 j)) b T n [tv, .int .i64 j] v L :=
  ⟨by rw [heap_setCell_here h.blk _]; simp, h.row.setCell (p := ⟨b, 4, none⟩) h.ne _, h.ne⟩
end
/-- What a Fifo by its text is. -/
def FifoT (w w' : World) (b n : Nat) (rest : List Value) (v : Value) (P Rm : Int) (hd : Bool) (R : List (List UInt8 × Nat)) (e : Ending) : Prop :=
  ∃ q v', e = .returned (.tuple #[.iface 86 (.pointer (some ⟨q, 0, none⟩)), .nilIface]) ∧ w.heap.size ≤ q ∧ LAt w' q 110 (frest P Rm hd []) (.slice none 0 0) [] ∧ RdAt w' b 65 n rest v' R ∧ v'.ownBlock = v.ownBlock ∧ Ot (fun k => k = b) w w'
set_option maxHeartbeats 4000000 in
theorem queue_fifo {b : Nat} {n : Nat} {tv : Value} {k ar : Int} {v : Value} {f x1 x2 : List UInt8 × Nat} {R : List (List UInt8 × Nat)} (P Rm : Int) (w : World) (h : RdAt w b 65 n [tv, .int .i64 k] v (f :: x1 :: x2 :: R)) (hB : ∀ w', Ot (fun k => k = b) w w' → Glob w') (hf : (f.1 == fifoB) = true ∨ (f.1 == fifoB) = false ∧ (f.1 == headB) = true) (h1 : numL x1.1 = some P) (h2 : numL x2.1 = some Rm) (hl1 : x1.1.length ≤ 2000) (hl2 : x2.1.length ≤ 2000) (hP : 0 ≤ P ∧ P ≤ 1000000) (hR : 0 ≤ Rm ∧ Rm ≤ 1000000) (hk : 0 ≤ k ∧ k ≤ 19) (ha : 0 ≤ ar ∧ ar ≤ 7) :
    Calls Tryz.prog 19 #[.pointer (some ⟨b, 0, none⟩), .int .i64 ar] w fun e w' => FifoT w w' b n [tv, .int .i64 (k + 1)] v P Rm (f.1 == headB) R e := by
  have HNX : Hid (Calls Tryz.prog 20 #[.pointer (some ⟨b, 0, none⟩)] w fun e w' => e = .returned (.agg #[.string ⟨f.1.toArray⟩, .int .i64 f.2]) ∧ ∃ v2, RdAt w' b 65 n [tv, .int .i64 k] v2 (x1 :: x2 :: R) ∧ v2.ownBlock = v.ownBlock ∧ Ot (fun k => k = b) w w') := by
    refine (sgnext_any w h).mono ?_
    rintro e w' ⟨rfl, v2, h1, h2, h3⟩
    exact ⟨rfl, v2, h1, h2, h3⟩
  have HFF : Hid (∀ w1 v2, Ot (fun k => k = b) w w1 → RdAt w1 b 65 n [tv, .int .i64 (k + 1)] v2 (x1 :: x2 :: R) → v2.ownBlock = v.ownBlock → Calls Tryz.prog 31 #[.pointer (some ⟨b, 0, none⟩), .agg #[.string ⟨f.1.toArray⟩, .int .i64 f.2]] w1 fun e w' => FifoT w w' b n [tv, .int .i64 (k + 1)] v P Rm (f.1 == headB) R e) := by
    intro w1 v2 ho hr hv
    refine (fifo_yes f P Rm w1 hr (fun w' h' => hB w' (ho.trans h')) h1 h2 hl1 hl2 hP hR).mono ?_
    rintro e w' ⟨q, v', rfl, hq, hl', hr', hv', ho'⟩
    exact ⟨q, v', rfl, Nat.le_trans ho.size hq, hl', hr', hv'.trans hv, ho.trans ho'⟩
  have hb := h.lt
  have a1 : decide ((7 : Int) < ar) = false := by simp; omega
  have a2 : decide ((20 : Int) < k + 1) = false := by simp; omega
  have a3 : IntKind.i64.wrap (k + 1) = k + 1 := by rw [IntKind.wrap_i64]; omega
  clear h hB h1 h2 hl1 hl2 hP hR
  unfold fifoB headB at hf
  rcases hf with o1 | ⟨o1, o2⟩
  all_goals
    go_enter Tryz.func19, Tryz.ntmps19
    go_wp2_with (go_at_call 20; refine HNX.out.mono ?_; rintro e w1 ⟨rfl, v2, hr1, hv1, ho1⟩; have HR1 : Hid (RdAt w1 b 65 n [tv, .int .i64 k] v2 (x1 :: x2 :: R)) := hr1; have HV1 : Hid (v2.ownBlock = v.ownBlock) := hv1; have HO1 : Hid (Ot (fun k => k = b) w w1) := ho1; obtain ⟨r4, f4⟩ := hr1.begun; have hl1 := hr1.lt; clear hr1 hv1 ho1)
  all_goals
    refine (HFF.out _ v2 ((HO1.out.setCell (p := ⟨b, 4, none⟩) (Or.inl rfl) _).alloc _) ((HR1.out.begin_ (k + 1)).below (below_alloc_ (Below.refl _ _) _)) HV1.out).mono ?_
    rintro e w2 ⟨q, v', rfl, hr⟩
    go_wp2
    go_ret2
    exact ⟨q, v', rfl, hr⟩
end Go.Proofs.YtfakjedolecdcaaGreatDoor
