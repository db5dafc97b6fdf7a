/-
  link.Run's errors; millracekeep.linked: it is true. Conditions: errors.errorType holds its handle; the packets lie in memory.
  The law's run over a wire with one Fifo. Conditions: the rate and the packets may be; what errors and strconv have laid.
-/
import Derived.Test.YtfakjedolecdcaaGreatDoorLk6
import Derived.Test.YtfakjedolecdcaaGreatDoorGj
namespace Go.Proofs.YtfakjedolecdcaaGreatDoor
open Go.RowKit Go.Extern.Stop Go.Stop Go.Extern

theorem fifo_at0 (b : Nat) (P R : Int) (hd : Bool) {w : World} (h : LAt w b 110 (frest P R hd []) (.slice none 0 0) []) : (FifoM b P R hd).At w (· = b) ([] : List Hd) := ⟨_, h, fun k => by simp [Value.ownBlock]⟩
theorem fifo_inv00 (b : Nat) (P R : Int) (hd : Bool) : (FifoM b P R hd).inv 0 0 ([] : List Hd) := ⟨Nat.le_refl _, by simp⟩
theorem run_no (ty : TypeId) (rv : Value) (n t : Int) (x : Option Addr) (len cap : Nat) (u : Int) (w : World)
    (hck : ∀ W, Below w.heap.size w W → Calls Tryz.prog 39 #[.iface ty rv, .agg #[.int .i64 n, .int .i64 t], .slice x len cap, .int .i64 u] W fun e w' => ∃ ey ev, e = .returned (.iface ey ev) ∧ Below W.heap.size W w') :
    Calls Tryz.prog 26 #[.iface ty rv, .agg #[.int .i64 n, .int .i64 t], .slice x len cap, .int .i64 u] w fun e w' => ∃ ey ev, e = .returned (.tuple #[.agg #[.slice none 0 0, .slice none 0 0, .int .i64 0, .int .i64 0], .iface ey ev]) ∧ Below w.heap.size w w' := by
  have HCK : Hid (∀ W, Below w.heap.size w W → Calls Tryz.prog 39 #[.iface ty rv, .agg #[.int .i64 n, .int .i64 t], .slice x len cap, .int .i64 u] W fun e w' => ∃ ey ev, e = .returned (.iface ey ev) ∧ Below W.heap.size W w') := hck
  clear hck
  go_enter Tryz.func26, Tryz.ntmps26
  go_wp2_with (go_at_call 39; fail)
  have HB1 : Hid (Below w.heap.size w ((w.alloc (.cells #[.int .i64 n, .int .i64 t] 37)).alloc (.cells #[.slice none 0 0, .slice none 0 0, .int .i64 0, .int .i64 0] 41))) := below_alloc_ (below_alloc_ (Below.refl _ _) _) _
  have hg1 : ((w.alloc (.cells #[.int .i64 n, .int .i64 t] 37)).alloc (.cells #[.slice none 0 0, .slice none 0 0, .int .i64 0, .int .i64 0] 41)).heap[w.heap.size + 1]? = some (.cells #[.slice none 0 0, .slice none 0 0, .int .i64 0, .int .i64 0] 41 (0, 0)) := new_block_ (by simp)
  generalize (w.alloc (.cells #[.int .i64 n, .int .i64 t] 37)).alloc (.cells #[.slice none 0 0, .slice none 0 0, .int .i64 0, .int .i64 0] 41) = w1 at *
  refine (HCK.out _ HB1.out).mono ?_
  rintro e w2 ⟨ey, ev, rfl, hb2⟩
  have HB2 : Hid (Below w.heap.size w w2) := HB1.out.trans (hb2.mono HB1.out.size)
  have HG2 : Hid (w2.heap[w.heap.size + 1]? = some (.cells #[.slice none 0 0, .slice none 0 0, .int .i64 0, .int .i64 0] 41 (0, 0))) := (hb2.block _ (lt_of_block hg1)).trans hg1
  obtain ⟨⟨z0, z1, z2, z3⟩, y0, y1, y2, y3⟩ := four HG2.out
  clear hg1 hb2
  go_wp2
  (try simp only [Exit.inBlock, Exit.then])
  refine bodyPost_ret (v := .tuple #[.agg #[.slice none 0 0, .slice none 0 0, .int .i64 0, .int .i64 0], .iface ey ev]) ?_ rfl ⟨ey, ev, rfl, ?_⟩
  · rw [results_cell_tmp rfl]
    have hld := load_log (four_set HG2.out (.slice none 0 0) (.slice none 0 0) (.int .i64 0) (.int .i64 0))
    simp [asAddr, Result.andThen, hld]
  · refine HB2.out.trans ?_
    repeat' (first | with_reducible exact Below.refl _ _ | with_reducible refine Below.setCell ?_ (by simp) _)
/-- The one packet of linked. -/
def it35 : List It := [⟨3, 5, 0, 0, 0⟩]
theorem linked_runs (f : Nat) : (itL (FifoM f 5 100 false) it35 2 1 ([] : List Hd) 0).2 = (0, true) ∧ (itL (FifoM f 5 100 false) it35 2 1 ([] : List Hd) 1).2 = (3, true) ∧ (itL (FifoM f 5 100 false) it35 2 1 ([] : List Hd) 2).2.2 = false ∧ (itL (FifoM f 5 100 false) it35 2 1 ([] : List Hd) 2).1.sent = [⟨0, 3, 6, 0⟩] := ⟨rfl, rfl, rfl, rfl⟩
theorem okL_35 : okL it35 := rfl
theorem linked_k {f k : Nat} (hon : ∀ j, j < k → goesOn 100 (itL (FifoM f 5 100 false) it35 2 1 ([] : List Hd) j)) (hoff : ¬ goesOn 100 (itL (FifoM f 5 100 false) it35 2 1 ([] : List Hd) k)) : k = 2 := by
  obtain ⟨h0, h1, h2, _⟩ := linked_runs f
  match k with
  | 0 => exact absurd ⟨by rw [h0], by rw [h0]; decide⟩ hoff
  | 1 => exact absurd ⟨by rw [h1], by rw [h1]; decide⟩ hoff
  | 2 => rfl
  | k + 3 =>
    have := (hon 2 (by omega)).1
    rw [h2] at this
    cases this
set_option maxHeartbeats 2000000 in
theorem linked_true (w : World) (hL : Laid w) : Calls Tryz.prog 12 #[] w fun e w' => e = .returned (.bool true) ∧ Below w.heap.size w w' := by
  have HLD : Hid (Laid w) := hL
  clear hL
  go_enter Tryz.func12, Tryz.ntmps12
  go_wp2_with (go_at_call 27; fail)
  refine (newFifo_yes 5 100 false w (by decide) (by decide) (by decide) (by decide)).mono ?_
  rintro e w1 ⟨rfl, hl1, hw1⟩
  have HB1 : Hid (Below w.heap.size w w1) := by show Below _ _ _; rw [hw1]; exact below_alloc_ (Below.refl _ _) _
  have HL1 : Hid (LAt w1 w.heap.size 110 (frest 5 100 false []) (.slice none 0 0) []) := hl1
  have hs1 : w.heap.size < w1.heap.size := lt_of_block hl1.blk
  clear hw1 hl1
  go_wp2_with (go_at_call 26; fail)
  have HB2 : Hid (Below w1.heap.size w1 (w1.alloc (.cells #[.int .i64 3, .int .i64 5, .int .i64 0, .int .i64 0, .int .i64 0] 46))) := below_alloc_ (Below.refl _ _) _
  have hit : ItemsAt (w1.alloc (.cells #[.int .i64 3, .int .i64 5, .int .i64 0, .int .i64 0, .int .i64 0] 46)) (some ⟨w1.heap.size, 0, none⟩) it35 := by
    refine Or.inr ⟨w1.heap.size, 0, rfl, fun i x hx => ?_⟩
    have hi : i = 0 := by have := (List.getElem?_eq_some_iff.1 hx).1; simp [it35] at this; exact this
    subst hi
    simp [it35] at hx
    subst hx
    refine ⟨?_, ?_, ?_, ?_, ?_⟩ <;> simp
  generalize w1.alloc (.cells #[.int .i64 3, .int .i64 5, .int .i64 0, .int .i64 0, .int .i64 0] 46) = w2 at *
  have hb02 : Below w.heap.size w w2 := HB1.out.trans (HB2.out.mono HB1.out.size)
  have HRUN := run_yes (fifoM_fine w.heap.size 5 100 false (by decide) (by decide) (by decide)) (· = w.heap.size) ([] : List Hd) 2 1 (some ⟨w1.heap.size, 0, none⟩) 1 it35 100 w2 (fifo_at0 _ _ _ _ (HL1.out.below HB2.out)) (fifo_inv00 _ _ _ _) rfl okL_35 (HLD.out.below hb02) hit (fun a ha _ e => by simp only [Option.some.injEq] at ha; subst ha; have : w1.heap.size = w.heap.size := e; omega) (by unfold maxLen; decide) (by decide) (by decide)
  refine HRUN.mono ?_
  rintro e w3 ⟨k, sv, lv, F, rfl, hR⟩
  obtain rfl := linked_k hR.on hR.off
  have hsent := hR.sent
  rw [(linked_runs w.heap.size).2.2.2] at hsent
  obtain ⟨sb, so, sc, rfl, _, _, hsb, hsc⟩ := hsent.some (by decide)
  have q0 : w3.cell? ⟨sb, so, none⟩ = some (.int .i64 0) := hsc 0 _ rfl
  have q1 : w3.cell? ⟨sb, so + 1, none⟩ = some (.int .i64 3) := hsc 1 _ rfl
  have q2 : w3.cell? ⟨sb, so + 2, none⟩ = some (.int .i64 6) := hsc 2 _ rfl
  obtain ⟨lx, ln, lc, rfl⟩ : ∃ x n c, lv = .slice x n c := by rcases Seg.form hR.lost with ⟨h, _⟩ | ⟨b, o, c, h, _⟩ <;> exact ⟨_, _, _, h⟩
  have HFin : Hid (Below w.heap.size w w3) := hb02.trans (hR.ot.below hb02.size (fun k hk => by have : k = w.heap.size := hk; omega))
  generalize (FifoM w.heap.size 5 100 false).len _ = a1
  generalize (itL (FifoM w.heap.size 5 100 false) it35 2 1 ([] : List Hd) 2).1.most = a2
  clear hsc hsent hR HRUN hit hb02
  go_wp2
  go_ret
  exact ⟨rfl, HFin.out.alloc HFin.out.size _⟩
end Go.Proofs.YtfakjedolecdcaaGreatDoor
namespace Go.Proofs.YtfakjedolecdcaaGreatDoor
open Go.RowKit Go.Extern.Stop Go.Stop Go.Extern

/-- fifo 1000 1000000 -/
def textF : ByteArray := ⟨#[102, 105, 102, 111, 32, 49, 48, 48, 48, 32, 49, 48, 48, 48, 48, 48, 48]⟩
theorem signsF : signsL [32, 40, 41, 44] textF.data.toList 0 = [(fifoB, 0), ([49, 48, 48, 48], 5), ([49, 48, 48, 48, 48, 48, 48], 10)] := by rfl
theorem asciiF : ascii textF.data.toList := by
  intro j b hj
  have h := List.mem_of_getElem? hj
  simp [textF] at h
  rcases h with rfl | rfl | rfl | rfl | rfl | rfl | rfl | rfl | rfl | rfl | rfl | rfl | rfl | rfl | rfl | rfl | rfl <;> decide
theorem parseF (w : World) (hG : Glob w) : Calls Tryz.prog 7 #[.string textF, .slice none 0 0] w fun e w' => ∃ q, e = .returned (.tuple #[.iface 86 (.pointer (some ⟨q, 0, none⟩)), .nilIface]) ∧ w.heap.size ≤ q ∧ LAt w' q 110 (frest 1000 1000000 false []) (.slice none 0 0) [] ∧ Below w.heap.size w w' :=
  parse_fifo (f := (fifoB, 0)) textF 1000 1000000 w hG (by decide) signsF (Or.inl rfl) num1000 num1e6 (by decide) (by decide) (by decide) (by decide)
/-- What the run gives. -/
structure RunF (items : List It) (n t u : Int) (w w' : World) (q k : Nat) (sv lv : Value) : Prop where
  on : ∀ j, j < k → goesOn u (itL (FifoM q 1000 1000000 false) items n t ([] : List Hd) j)
  off : ¬ goesOn u (itL (FifoM q 1000 1000000 false) items n t ([] : List Hd) k)
  sent : Seg w' 49 4 sv (itL (FifoM q 1000 1000000 false) items n t ([] : List Hd) k).1.sent.length (flt Snt.cs (itL (FifoM q 1000 1000000 false) items n t ([] : List Hd) k).1.sent)
  lost : Ins w' lv (itL (FifoM q 1000 1000000 false) items n t ([] : List Hd) k).1.lost
  below : Below w.heap.size w w'
set_option maxHeartbeats 4000000 in
theorem runF_yes (n t : Int) (x : Option Addr) (cap : Nat) (items : List It) (u : Int) (w : World) (hG : Glob w) (hL : Laid w) (hr : okRate n t = true) (hl : okL items) (hit : ItemsAt w x items) (hm : items.length ≤ maxLen) (hu0 : 0 ≤ u) (hu1 : u ≤ 10000000) :
    Calls Tryz.prog 11 #[.string textF, .agg #[.int .i64 n, .int .i64 t], .slice x items.length cap, .int .i64 u] w fun e w' => ∃ q k sv lv, e = .returned (.tuple #[.agg #[sv, lv, .int .i64 (List.length (α := Hd) (itL (FifoM q 1000 1000000 false) items n t ([] : List Hd) k).1.s), .int .i64 (itL (FifoM q 1000 1000000 false) items n t ([] : List Hd) k).1.most], .bool true]) ∧ RunF items n t u w w' q k sv lv := by
  have HPF : Hid (∀ w1, Below w.heap.size w w1 → Calls Tryz.prog 7 #[.string textF, .slice none 0 0] w1 fun e w' => ∃ q, e = .returned (.tuple #[.iface 86 (.pointer (some ⟨q, 0, none⟩)), .nilIface]) ∧ w1.heap.size ≤ q ∧ LAt w' q 110 (frest 1000 1000000 false []) (.slice none 0 0) [] ∧ Below w1.heap.size w1 w') := fun w1 h1 => parseF w1 (hG.below h1)
  have HRN : Hid (∀ w1 q, Below w.heap.size w w1 → w.heap.size ≤ q → LAt w1 q 110 (frest 1000 1000000 false []) (.slice none 0 0) [] → Calls Tryz.prog 26 #[.iface 86 (.pointer (some ⟨q, 0, none⟩)), .agg #[.int .i64 n, .int .i64 t], .slice x items.length cap, .int .i64 u] w1 fun e w' => ∃ k sv lv F, e = .returned (.tuple #[.agg #[sv, lv, .int .i64 (List.length (α := Hd) (itL (FifoM q 1000 1000000 false) items n t ([] : List Hd) k).1.s), .int .i64 (itL (FifoM q 1000 1000000 false) items n t ([] : List Hd) k).1.most], .nilIface]) ∧ RunP (FifoM q 1000 1000000 false) items n t u ([] : List Hd) (· = q) w1 k sv lv F w') := by
    intro w1 q h1 hq hla
    refine run_yes (fifoM_fine q 1000 1000000 false (by decide) (by decide) (by decide)) (· = q) ([] : List Hd) n t x cap items u w1 (fifo_at0 _ _ _ _ hla) (fifo_inv00 _ _ _ _) hr hl (hL.below h1) (hit.below h1) ?_ hm hu0 hu1
    intro a ha hne e
    rcases hit with h | ⟨b, off, h, hc⟩
    · exact hne h
    · rw [h] at ha
      obtain rfl := Option.some.inj ha
      obtain ⟨y, r, hy⟩ : ∃ y r, items = y :: r := by cases hxs : items with | nil => exact absurd hxs hne | cons y r => exact ⟨y, r, rfl⟩
      have hlt := lt_of_cell (hc 0 y (by rw [hy]; rfl)).1
      have hlt' : b < w.heap.size := hlt
      have e' : b = q := e
      omega
  clear hG hL hr hl hit hm hu0 hu1
  go_enter Tryz.func11, Tryz.ntmps11
  go_wp2_with (go_at_call 7; fail)
  have hb0 : Below w.heap.size w ((w.alloc (.cells #[.int .i64 n, .int .i64 t] 37)).alloc (.cells #[.slice none 0 0, .slice none 0 0, .int .i64 0, .int .i64 0] 41)) := below_alloc_ (below_alloc_ (Below.refl _ _) _) _
  have hx0 : ((w.alloc (.cells #[.int .i64 n, .int .i64 t] 37)).alloc (.cells #[.slice none 0 0, .slice none 0 0, .int .i64 0, .int .i64 0] 41)).heap[w.heap.size]? = some (.cells #[.int .i64 n, .int .i64 t] 37 (0, 0)) := (Below.heap_alloc _ _ _ (by simp)).trans (new_block _ _)
  have hx1 : ((w.alloc (.cells #[.int .i64 n, .int .i64 t] 37)).alloc (.cells #[.slice none 0 0, .slice none 0 0, .int .i64 0, .int .i64 0] 41)).heap[w.heap.size + 1]? = some (.cells #[.slice none 0 0, .slice none 0 0, .int .i64 0, .int .i64 0] 41 (0, 0)) := new_block_ (by simp)
  have hs0 : ((w.alloc (.cells #[.int .i64 n, .int .i64 t] 37)).alloc (.cells #[.slice none 0 0, .slice none 0 0, .int .i64 0, .int .i64 0] 41)).heap.size = w.heap.size + 2 := by simp
  generalize (w.alloc (.cells #[.int .i64 n, .int .i64 t] 37)).alloc (.cells #[.slice none 0 0, .slice none 0 0, .int .i64 0, .int .i64 0] 41) = w0 at *
  refine (HPF.out w0 hb0).mono ?_
  rintro e w1 ⟨q, rfl, hq, hla, hb1⟩
  have hb01 : Below w.heap.size w w1 := hb0.trans (hb1.mono hb0.size)
  have hx01 := (hb1.block w.heap.size (by omega)).trans hx0
  have hx11 := (hb1.block (w.heap.size + 1) (by omega)).trans hx1
  have r0 : w1.cell? ⟨w.heap.size, 0, none⟩ = some (.int .i64 n) := by simp [World.cell?, hx01]
  have r1 : w1.cell? ⟨w.heap.size, 1, none⟩ = some (.int .i64 t) := by simp [World.cell?, hx01]
  have HB01 : Hid (Below w.heap.size w w1) := hb01
  have HX11 : Hid (w1.heap[w.heap.size + 1]? = some (.cells #[.slice none 0 0, .slice none 0 0, .int .i64 0, .int .i64 0] 41 (0, 0))) := hx11
  have HLA : Hid (LAt w1 q 110 (frest 1000 1000000 false []) (.slice none 0 0) []) := hla
  have hs1 := hb1.size
  clear hb0 hx0 hx1 hb1 hb01 hx01 hx11 hla HPF
  go_wp2_with (go_at_call 26; fail)
  refine (HRN.out w1 q HB01.out (by omega) HLA.out).mono ?_
  rintro e w2 ⟨k, sv, lv, F, rfl, hR⟩
  have hx2 : w2.heap[w.heap.size + 1]? = some (.cells #[.slice none 0 0, .slice none 0 0, .int .i64 0, .int .i64 0] 41 (0, 0)) := (hR.ot.block (w.heap.size + 1) (by omega) (by omega)).trans HX11.out
  have hs2 := hR.ot.size
  have HB02 : Hid (Below w.heap.size w w2) := HB01.out.trans (hR.ot.below HB01.out.size (fun j hj => by have : j = q := hj; omega))
  have HR : Hid (RunP (FifoM q 1000 1000000 false) items n t u ([] : List Hd) (· = q) w1 k sv lv F w2) := hR
  obtain ⟨sx, sn, sc, rfl⟩ : ∃ x n c, sv = .slice x n c := by rcases Seg.form hR.sent with ⟨h, _⟩ | ⟨b, o, c, h, _⟩ <;> exact ⟨_, _, _, h⟩
  obtain ⟨lx, ln, lc, rfl⟩ : ∃ x n c, lv = .slice x n c := by rcases Seg.form hR.lost with ⟨h, _⟩ | ⟨b, o, c, h, _⟩ <;> exact ⟨_, _, _, h⟩
  have HX2 : Hid (w2.heap[w.heap.size + 1]? = some (.cells #[.slice none 0 0, .slice none 0 0, .int .i64 0, .int .i64 0] 41 (0, 0))) := hx2
  have z0 : w2.cell? ⟨w.heap.size + 1, 0, none⟩ = some (.slice none 0 0) := by simp [World.cell?, hx2]
  have z1 : w2.cell? ⟨w.heap.size + 1, 1, none⟩ = some (.slice none 0 0) := by simp [World.cell?, hx2]
  have z2 : w2.cell? ⟨w.heap.size + 1, 2, none⟩ = some (.int .i64 0) := by simp [World.cell?, hx2]
  have z3 : w2.cell? ⟨w.heap.size + 1, 3, none⟩ = some (.int .i64 0) := by simp [World.cell?, hx2]
  have y0 : w2.frozen? ⟨w.heap.size + 1, 0, none⟩ = false := by simp [World.frozen?, hx2]
  have y1 : w2.frozen? ⟨w.heap.size + 1, 1, none⟩ = false := by simp [World.frozen?, hx2]
  have y2 : w2.frozen? ⟨w.heap.size + 1, 2, none⟩ = false := by simp [World.frozen?, hx2]
  have y3 : w2.frozen? ⟨w.heap.size + 1, 3, none⟩ = false := by simp [World.frozen?, hx2]
  have hbl2 := lt_of_block hx2
  obtain ⟨wt, hwt⟩ : ∃ wt : Int, (List.length (α := Hd) (itL (FifoM q 1000 1000000 false) items n t ([] : List Hd) k).1.s : Int) = wt := ⟨_, rfl⟩
  obtain ⟨ms, hms⟩ : ∃ ms, (itL (FifoM q 1000 1000000 false) items n t ([] : List Hd) k).1.most = ms := ⟨_, rfl⟩
  have HWT : Hid ((List.length (α := Hd) (itL (FifoM q 1000 1000000 false) items n t ([] : List Hd) k).1.s : Int) = wt) := hwt
  have HMS : Hid ((itL (FifoM q 1000 1000000 false) items n t ([] : List Hd) k).1.most = ms) := hms
  rw [hwt, hms]
  clear hR hx2 hwt hms r0 r1 HRN
  go_wp2_with fail
  go_region
  all_goals go_wp2
  all_goals (try simp only [Exit.inBlock, Exit.then])
  have hz : (((((w2.setCell ⟨w.heap.size + 1, 0, none⟩ (.slice sx sn sc)).setCell ⟨w.heap.size + 1, 1, none⟩ (.slice lx ln lc)).setCell ⟨w.heap.size + 1, 2, none⟩ (.int .i64 wt)).setCell ⟨w.heap.size + 1, 3, none⟩ (.int .i64 ms)).alloc (.cells #[.slice sx sn sc, .slice lx ln lc, .int .i64 wt, .int .i64 ms] 41)).drew.heap[w.heap.size + 1]? = some (.cells #[.slice sx sn sc, .slice lx ln lc, .int .i64 wt, .int .i64 ms] 41 (0, 0)) := by
    refine (Below.heap_alloc _ _ _ (by simp; omega)).trans ?_
    rw [heap_setCell_here (heap_setCell_here (heap_setCell_here (heap_setCell_here HX2.out _) _) _) _]
    simp
  have hot : Ot (fun k => k = w.heap.size + 1) w2 (((((w2.setCell ⟨w.heap.size + 1, 0, none⟩ (.slice sx sn sc)).setCell ⟨w.heap.size + 1, 1, none⟩ (.slice lx ln lc)).setCell ⟨w.heap.size + 1, 2, none⟩ (.int .i64 wt)).setCell ⟨w.heap.size + 1, 3, none⟩ (.int .i64 ms)).alloc (.cells #[.slice sx sn sc, .slice lx ln lc, .int .i64 wt, .int .i64 ms] 41)).drew := by
    repeat' (first | with_reducible exact Ot.refl _ _ | with_reducible refine Ot.drew ?_ | with_reducible refine Ot.setCell ?_ (by simp) _ | with_reducible refine Ot.alloc ?_ _)
  refine bodyPost_ret (v := .tuple #[.agg #[.slice sx sn sc, .slice lx ln lc, .int .i64 wt, .int .i64 ms], .bool true]) ?_ rfl ⟨q, k, .slice sx sn sc, .slice lx ln lc, by rw [HWT.out, HMS.out], HR.out.on, HR.out.off, ?_, ?_, ?_⟩
  · rw [results_cell_tmp rfl]
    simp [asAddr, Result.andThen, load_log hz]
  · exact HR.out.sent.oth hot (fun b hb e => by have := HR.out.sn b hb; omega)
  · exact Seg.oth HR.out.lost hot (fun b hb e => by have := HR.out.ln b hb; omega)
  · exact HB02.out.trans (hot.below HB02.out.size (fun k hk => by omega))
end Go.Proofs.YtfakjedolecdcaaGreatDoor
