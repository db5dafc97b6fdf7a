/-
  item.lines: the iterator of a text's lines that are not empty, each with its place. Conditions: what bytealg lays is laid; the text has 20000 bytes at most.
-/
import Derived.Test.YtcdcplocpdmjaaaDoorIp2
import Derived.RangeFuncNested
import Derived.RangeFuncBound
import Derived.RangeFuncCalls
import Derived.RangeFuncLeaves
import Derived.RangeFuncFrom
import Derived.Shelf.Abstract
import Derived.Shelf.RegionOpen
import Derived.WalkKit
import Derived.OwnWalkIn
import Derived.TacticsInMore
import Derived.LoopNIn
import Derived.LoopIn
namespace Go.Proofs.YtcdcplocpdmjaaaDoor
open Go.RowKit Go.Shelf Go.Extern.Stop Go.Stop Go.Extern
attribute [local go_sem] Oper.semAt_some

/-- What is left of a text's lines from place p on. -/
def remL (t : List UInt8) (p : Nat) : List (Nat × List UInt8) := if p < t.length then plc p (cutL 10 (t.drop p)) else []
theorem remL_start (t : List UInt8) : remL t 0 = linesL t := by
  unfold remL linesL
  split
  · rfl
  · have : t = [] := List.eq_nil_of_length_eq_zero (by omega)
    subst this
    rfl
/-- The line at place p. -/
def lineAt (t : List UInt8) (p : Nat) : List UInt8 := (Lib.cut (t.drop p) [10]).1
theorem line_none {t : List UInt8} {p : Nat} (h : Lib.indexByte (t.drop p) 10 = -1) : lineAt t p = t.drop p := by
  unfold lineAt Lib.cut
  rw [Lib.index_one, h, if_neg (by decide)]
theorem line_some {t : List UInt8} {p o : Nat} (h : Lib.indexByte (t.drop p) 10 = o) : lineAt t p = (t.drop p).take o := by
  unfold lineAt Lib.cut
  rw [Lib.index_one, h, if_pos (by omega)]
  simp
theorem remL_step {t : List UInt8} {p : Nat} (h : p < t.length) : remL t p = (if lineAt t p = [] then [] else [(p, lineAt t p)]) ++ remL t (p + ((lineAt t p).length + 1)) := by
  have e0 : remL t p = plc p (cutL 10 (t.drop p)) := by unfold remL; rw [if_pos h]
  rw [e0]
  have hrl : (t.drop p).length = t.length - p := List.length_drop
  rcases index_ge (t.drop p) 10 with h1 | ⟨o, h1⟩
  · have hn : remL t (p + ((t.drop p).length + 1)) = [] := by unfold remL; rw [if_neg (by omega)]
    rw [line_none h1, cutL_none (at_none h1), plc, plc, hn]
  · obtain ⟨h2, h3, h4⟩ := at_some h1
    have e2 : cutL 10 (t.drop p) = (t.drop p).take o :: cutL 10 ((t.drop p).drop (o + 1)) := by
      have := cutL_some (r := (t.drop p).drop (o + 1)) h2
      rw [← h3] at this
      exact this
    have hl : ((t.drop p).take o).length = o := by rw [List.length_take]; omega
    rw [e2, line_some h1, plc, hl, List.drop_drop]
    have e3 : p + o + 1 = p + (o + 1) := by omega
    rw [e3]
    unfold remL
    by_cases hp : p + (o + 1) < t.length
    · rw [if_pos hp]
    · have hd : t.drop (p + (o + 1)) = [] := List.drop_eq_nil_of_le (by omega)
      rw [if_neg hp, hd]
      simp [cutL, plc]
theorem lineAt_len (t : List UInt8) (p : Nat) : (lineAt t p).length ≤ t.length - p := by
  unfold lineAt Lib.cut
  split <;> simp <;> omega
theorem remL_many (t : List UInt8) : ∀ (k p : Nat), t.length - p ≤ k → (remL t p).length ≤ k
  | 0, p, h => by unfold remL; rw [if_neg (by omega)]; simp
  | k + 1, p, h => by
    by_cases hp : p < t.length
    · have := remL_many t k (p + ((lineAt t p).length + 1)) (by omega)
      rw [remL_step hp]
      split <;> simp <;> omega
    · unfold remL; rw [if_neg hp]; simp
/-- A line and its place, neither too great. -/
abbrev LnT := { x : Nat × List UInt8 // x.2.length ≤ 20000 ∧ x.1 ≤ 20000 }
def encL (x : LnT) : Array Value := #[.int .i64 (x.1.1 : Int), .string ⟨x.1.2.toArray⟩]
theorem fcut_any (s : ByteArray) (w : World) (hs : s.size ≤ 20000) (hG : ∃ m, w.cell? ⟨2, 0, none⟩ = some (.int .i64 m)) :
    Calls Tryd.prog 31 #[.string s, .string ⟨#[10]⟩] w fun e w' => ∃ b c, e = .returned (.tuple #[.string ⟨(Lib.cut s.data.toList [10]).1.toArray⟩, .string b, .bool c]) ∧ ∃ n, w' = w.drewN n := by
  obtain ⟨m, hm⟩ := hG
  refine (Tryd.strings_Cut s ⟨#[10]⟩ m w (by omega) hm).mono ?_
  rintro e w' ⟨rfl, h⟩
  exact ⟨_, _, rfl, h⟩
theorem grown_drewN (w : World) (n : Nat) : w.grownBy (w.drewN n) none := ⟨rfl, rfl, rfl, Nat.le_refl _, fun _ _ _ => rfl⟩
theorem below_drewNi (B : Nat) (w : World) (n : Nat) : Below B w (w.drewN n) := ⟨rfl, rfl, rfl, Nat.le_refl _, fun _ _ => rfl⟩
/-- What a round keeps: the text's box, and bytealg's number. -/
def KpT (tb : Nat) (W W' : World) : Prop := W'.heap[tb]? = W.heap[tb]? ∧ W'.heap[2]? = W.heap[2]?
theorem KpT.trans {tb : Nat} {A B C : World} (h : KpT tb A B) (k : KpT tb B C) : KpT tb A C := ⟨k.1.trans h.1, k.2.trans h.2⟩
set_option maxRecDepth 100000 in
set_option maxHeartbeats 4000000 in
theorem lines1_in (n : Nat) (hn : 1 ≤ n) (l tb : Nat) (t : List UInt8) (ht : t.length ≤ 20000) (J Jx : List LnT → World → Prop)
    (hY : ∀ pre x W, J pre W → pre.length < t.length + 1 → YieldAt Fence.wide (n - 1) Tryd.prog l (encL x) W fun e W' =>
      (e = .returned (.bool true) ∧ J (pre ++ [x]) W' ∧ KpT tb W W') ∨ (e = .returned (.bool false) ∧ Jx (pre ++ [x]) W'))
    (W : World) (hJ : AbidesFrom W.heap.size J) (hc : W.cell? ⟨tb, 0, none⟩ = some (.string ⟨t.toArray⟩)) (hm : ∃ m, W.cell? ⟨2, 0, none⟩ = some (.int .i64 m)) (h0 : J [] W) :
    CallsIn Fence.wide n Tryd.prog 30 #[.func (.yield l) #[] #[], .pointer (some ⟨tb, 0, none⟩)] W fun e W' => (∃ v, e = .returned v) ∧
      ((∃ ys, ys.map Subtype.val = linesL t ∧ J ys W') ∨ (∃ pre, (∃ r, pre.map Subtype.val ++ r = linesL t) ∧ Jx pre W')) := by
  refine callsIn_of_wp Tryd.func30 rfl trivial ?_ rfl
  simp only [Tryd.ntmps30, List.size_toArray, List.length_cons, List.length_nil, Nat.reduceAdd, Nat.reduceSub, Array.replicate_succ, Array.replicate_zero, List.push_toArray, List.append_toArray, List.nil_append, List.cons_append]
  have HJ : Hid (AbidesFrom W.heap.size J) := hJ
  have HLM : Hid (∀ (pre : List LnT) p, pre.map Subtype.val ++ remL t p = linesL t → p < t.length → lineAt t p ≠ [] → pre.length < t.length + 1) := by
    intro pre p h hp _
    have h1 := remL_many t t.length 0 (by omega)
    rw [remL_start, ← h, List.length_append, List.length_map] at h1
    omega
  gi_wp2
  gi_loopw [3] (fun i wr => ∃ (p : Nat) (pre : List LnT), p ≤ t.length + 1 ∧ i = .int .i64 p ∧ pre.map Subtype.val ++ remL t p = linesL t ∧ J pre wr ∧ KpT tb W wr)
    (fun i _ => t.length + 1 - (intOf i).toNat)
  case atStart => exact ⟨0, [], by omega, rfl, by rw [remL_start]; rfl, h0, rfl, rfl⟩
  case round =>
    obtain ⟨p, pre, hp, rfl, hrem, hJs, hnx⟩ := hrel
    have hcx : wr.cell? ⟨tb, 0, none⟩ = some (.string ⟨t.toArray⟩) := (World.cell?_of_block (w := W) hnx.1 : wr.cell? ⟨tb, 0, none⟩ = W.cell? ⟨tb, 0, none⟩).trans hc
    by_cases hlt : p < t.length
    · have hlt1 : (p : Int) < (t.length : Int) := by omega
      have hps : p ≤ t.length := by omega
      have HCU : Hid (Calls Tryd.prog 31 #[.string ((⟨t.toArray⟩ : ByteArray).extract p t.length), .string ⟨#[10]⟩] wr fun e w' => ∃ b c, e = .returned (.tuple #[.string ⟨(lineAt t p).toArray⟩, .string b, .bool c]) ∧ ∃ n, w' = wr.drewN n) := by
        have hd : ((⟨t.toArray⟩ : ByteArray).extract p t.length).data.toList = t.drop p := by
          have := Lib.extract_to_end (⟨t.toArray⟩ : ByteArray) p
          rw [show (⟨t.toArray⟩ : ByteArray).size = t.length from List.size_toArray] at this
          rw [this]
        have hz : ((⟨t.toArray⟩ : ByteArray).extract p t.length).size ≤ 20000 := by
          have : ((⟨t.toArray⟩ : ByteArray).extract p t.length).size = ((⟨t.toArray⟩ : ByteArray).extract p t.length).data.toList.length := (Array.length_toList).symm
          rw [this, hd, List.length_drop]; omega
        have := fcut_any ((⟨t.toArray⟩ : ByteArray).extract p t.length) wr hz (hm.imp fun _ h => (World.cell?_of_block (w := W) hnx.2 : wr.cell? ⟨2, 0, none⟩ = W.cell? ⟨2, 0, none⟩).trans h)
        rw [hd] at this
        exact this
      have HST : Hid (remL t p = (if lineAt t p = [] then [] else [(p, lineAt t p)]) ++ remL t (p + ((lineAt t p).length + 1))) := remL_step hlt
      have hll := lineAt_len t p
      have HLN : Hid (lineAt t p ≠ [] → pre.length < t.length + 1) := HLM.out pre p hrem hlt
      generalize lineAt t p = ln at *
      have HRE : Hid (pre.map Subtype.val ++ remL t p = linesL t) := hrem
      have HJS : Hid (∀ m, J pre (wr.drewN m)) := fun m => HJ.out pre wr _ none hJs (grown_drewN wr m) (fun r e => by cases e)
      clear hrem hJs
      gi_wp2
      refine ⟨trivial, ?_⟩
      refine (callsIn_wide.2 HCU.out).mono ?_
      rintro e w2 ⟨b, c, rfl, m, rfl⟩
      have hw1 : IntKind.i64.wrap ((ln.length : Int) + 1) = (ln.length : Int) + 1 := by rw [IntKind.wrap_i64]; omega
      have hw2 : IntKind.i64.wrap ((p : Int) + ((ln.length : Int) + 1)) = (p : Int) + ((ln.length : Int) + 1) := by rw [IntKind.wrap_i64]; omega
      cases hln : (ln == [])
      case true =>
        obtain rfl : ln = [] := by simpa using hln
        have HR2 : Hid (pre.map Subtype.val ++ remL t (p + (([] : List UInt8).length + 1)) = linesL t) := by show _ = _; rw [← HRE.out, HST.out]; simp
        gi_wp2
        refine ⟨fun _ h => (by cases h), ?_⟩
        gi_wp2
        refine ⟨⟨p + 1, pre, by omega, by (first | rfl | go_num | simp), HR2.out, HJS.out m, hnx⟩, ?_⟩
        simp [intOf]
        omega
      case false =>
        have hne : ln ≠ [] := by simpa using hln
        obtain ⟨fn, tmps, assign, body, hy, hR⟩ := hY pre ⟨(p, ln), by simp; omega, by simp; omega⟩ (wr.drewN m) (HJS.out m) (HLN.out hne)
        dsimp only [encL] at hy
        have HR2 : Hid ((pre ++ [(⟨(p, ln), by simp; omega, by simp; omega⟩ : LnT)]).map Subtype.val ++ remL t (p + (ln.length + 1)) = linesL t) := by show _ = _; rw [← HRE.out, HST.out, if_neg hne]; simp
        gi_wp2
        refine hR.mono ?_
        rintro e W3 (⟨rfl, hJ3, hk3⟩ | ⟨rfl, hJx3⟩)
        · gi_wp2
          refine ⟨⟨p + (ln.length + 1), _, by omega, by (first | rfl | go_num | simp), HR2.out, hJ3, hnx.trans hk3⟩, ?_⟩
          simp [intOf]
          omega
        · gi_wp2
          refine bodyPost_ret (results_none rfl _ _ _) rfl ?_
          exact ⟨⟨_, rfl⟩, .inr ⟨_, ⟨_, HR2.out⟩, hJx3⟩⟩
    · have hr : remL t p = [] := by unfold remL; rw [if_neg hlt]
      rw [hr, List.append_nil] at hrem
      have d1 : ¬ (p : Int) < (t.length : Int) := by omega
      gi_wp2
      go_end0
      exact ⟨⟨_, rfl⟩, .inl ⟨pre, hrem, hJs⟩⟩
/-- item.lines, and that its value gives a text's lines. -/
theorem lines_in (s : ByteArray) (n : Nat) (w : World) : CallsIn Fence.wide n Tryd.prog 16 #[.string s] w fun e w' => e = .returned (.func (.func 30) #[] #[.pointer (some ⟨w.heap.size, 0, none⟩)]) ∧ w' = w.alloc (.cells #[.string s] 9) := by
  refine callsIn_of_wp Tryd.func16 rfl trivial ?_ rfl
  simp only [Tryd.ntmps16, List.size_toArray, List.length_cons, List.length_nil, Nat.reduceAdd, Nat.reduceSub, Array.replicate_succ, Array.replicate_zero, List.push_toArray, List.append_toArray, List.nil_append, List.cons_append]
  gi_wp2
  go_ret
  exact ⟨rfl, rfl⟩
theorem lines_stops (n : Nat) (hn : 1 ≤ n) (tb : Nat) (t : List UInt8) (ht : t.length ≤ 20000) (w : World) (hc : w.cell? ⟨tb, 0, none⟩ = some (.string ⟨t.toArray⟩)) (hm : ∃ m, w.cell? ⟨2, 0, none⟩ = some (.int .i64 m)) :
    SeqStopsK Fence.wide n Tryd.prog 30 #[.pointer (some ⟨tb, 0, none⟩)] encL (KpT tb) (fun ys => ys.map Subtype.val = linesL t) (fun pre => ∃ r, pre.map Subtype.val ++ r = linesL t) (t.length + 1) w := fun l J Jx W hW hJ _ hY h0 =>
  lines1_in n hn l tb t ht J Jx hY W hJ ((hW.cell (p := ⟨tb, 0, none⟩) (cell_ltN hc)).trans hc) (hm.imp fun _ h => (hW.cell (p := ⟨_, 0, none⟩) (cell_ltN h)).trans h) h0
end Go.Proofs.YtcdcplocpdmjaaaDoor
