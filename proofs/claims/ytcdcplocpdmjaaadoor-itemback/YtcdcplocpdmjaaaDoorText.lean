/-
  item.Text: of any packets (their numbers of 64 bits) the text that the document tells: a line for each, its five numbers in decimals with a blank between two, a line feed behind it; nothing that was there before is otherwise. Conditions: internal/strconv's table of powers of ten is as the program's text lays it; at most 1000 packets.
-/
import Derived.Test.YtcdcplocpdmjaaaDoorBuilder
import Derived.Test.YtcdcplocpdmjaaaDoorRefList
import Derived.Lib.AppendIntMem
import Derived.Lib.ItoaLen
namespace Go.Proofs.YtcdcplocpdmjaaaDoor
open Go.RowKit

/-- A number of 64 bits. -/
def inI64 (n : Int) : Prop := -9223372036854775808 ≤ n ∧ n ≤ 9223372036854775807
def It.wf (x : It) : Prop := inI64 x.a ∧ inI64 x.l ∧ inI64 x.f ∧ inI64 x.b ∧ inI64 x.m
def It.num (x : It) : Nat → Int
  | 0 => x.a
  | 1 => x.l
  | 2 => x.f
  | 3 => x.b
  | _ => x.m
theorem It.wf.num {x : It} (h : x.wf) (k : Nat) : inI64 (x.num k) := by
  obtain ⟨h0, h1, h2, h3, h4⟩ := h
  match k with
  | 0 => exact h0
  | 1 => exact h1
  | 2 => exact h2
  | 3 => exact h3
  | _ + 4 => exact h4
/-- The first k numbers, with blanks between. -/
def lineTo (x : It) : Nat → List UInt8
  | 0 => []
  | k + 1 => lineTo x k ++ ((if k = 0 then [] else [32]) ++ Lib.itoa (x.num k))
def It.line (x : It) : List UInt8 := lineTo x 5 ++ [10]
theorem lineTo_len {x : It} (h : x.wf) (k : Nat) : (lineTo x k).length ≤ 22 * k := by
  induction k with
  | zero => simp [lineTo]
  | succ k ih =>
    have := Lib.itoa_length_le (x.num k) (h.num k).1 (h.num k).2
    simp only [lineTo, List.length_append]
    split <;> simp <;> omega
theorem line_len {x : It} (h : x.wf) : x.line.length ≤ 111 := by
  have := lineTo_len h 5
  simp [It.line]; omega
/-- The text of packets. -/
def textOf (xs : List It) : List UInt8 := xs.flatMap It.line

/-- internal/strconv's powers of ten are laid. -/
def Tab (w : World) : Prop := Lib.TabIs Tryd.prog w "internal/strconv.uint64pow10" .u64 Lib.pow10Tab
theorem Tab.below {w w' : World} (h : Tab w) (hb : Below w.heap.size w w') : Tab w' := Lib.tabBelow_of_tabIs h w' hb

theorem itoa_any (n : Int) (hn : inI64 n) (w : World) (hT : Tab w) : Calls Tryd.prog 37 #[.int .i64 n] w fun e w' => e = .returned (.string ⟨(Lib.itoa n).toArray⟩) ∧ Below w.heap.size w w' := by
  refine (Tryd.strconv_Itoa n hn.1 hn.2 w hT).mono ?_
  rintro e w' ⟨rfl, k, os, rfl⟩
  exact ⟨rfl, Lib.below_grow _ _ (Nat.le_refl _) _ _⟩

theorem bytes_snoc (bs : List Value) (l : List UInt8) (c : UInt8) : bs ++ Lib.byteCells l ++ [Value.int .u8 (c.toNat : Int)] = bs ++ Lib.byteCells (l ++ [c]) := by
  simp [Lib.byteCells]
theorem bytes_app (bs : List Value) (l m : List UInt8) : bs ++ Lib.byteCells l ++ Lib.strCells ⟨m.toArray⟩ = bs ++ Lib.byteCells (l ++ m) := by
  simp [Lib.byteCells, Lib.strCells]
theorem isB {T e : TypeId} {B b : Nat} {bs : List Value} {w : World} (h : Lib.BuilderAt T e B b (.pointer (some ⟨b, 0, none⟩)) bs w) : Lib.IsBuilder T e B b bs w := Or.inr h

theorem rowIdx0 (a l f b m : Int) (w : World) : (Instr.index 51 (.agg #[.int .i64 a, .int .i64 l, .int .i64 f, .int .i64 b, .int .i64 m]) (.int .i64 0)).run Tryd.prog w = .ok (.int .i64 a) w := by kernel_rfl
theorem rowIdx1 (a l f b m : Int) (w : World) : (Instr.index 51 (.agg #[.int .i64 a, .int .i64 l, .int .i64 f, .int .i64 b, .int .i64 m]) (.int .i64 1)).run Tryd.prog w = .ok (.int .i64 l) w := by kernel_rfl
theorem rowIdx2 (a l f b m : Int) (w : World) : (Instr.index 51 (.agg #[.int .i64 a, .int .i64 l, .int .i64 f, .int .i64 b, .int .i64 m]) (.int .i64 2)).run Tryd.prog w = .ok (.int .i64 f) w := by kernel_rfl
theorem rowIdx3 (a l f b m : Int) (w : World) : (Instr.index 51 (.agg #[.int .i64 a, .int .i64 l, .int .i64 f, .int .i64 b, .int .i64 m]) (.int .i64 3)).run Tryd.prog w = .ok (.int .i64 b) w := by kernel_rfl
theorem rowIdx4 (a l f b m : Int) (w : World) : (Instr.index 51 (.agg #[.int .i64 a, .int .i64 l, .int .i64 f, .int .i64 b, .int .i64 m]) (.int .i64 4)).run Tryd.prog w = .ok (.int .i64 m) w := by kernel_rfl

set_option maxHeartbeats 2000000 in
set_option maxRecDepth 100000 in
theorem write_any (x : It) (hx : x.wf) (B b : Nat) (bs : List Value) (w : World) (h : Lib.IsBuilder 63 5 B b bs w) (hT : ∀ w', Below B w w' → Tab w') (hBw : B ≤ w.heap.size) (hlen : bs.length ≤ 1000000) :
    Calls Tryd.prog 24 #[.agg #[.int .i64 x.a, .int .i64 x.l, .int .i64 x.f, .int .i64 x.b, .int .i64 x.m], .pointer (some ⟨b, 0, none⟩)] w fun e w' =>
      e = .returned (.tuple #[]) ∧ Lib.IsBuilder 63 5 B b (bs ++ Lib.byteCells x.line) w' ∧ Below B w w' := by
  have H0 : Hid (Lib.IsBuilder 63 5 B b bs w) := h
  have HT : Hid (∀ w', Below B w w' → Tab w') := hT
  clear h hT
  go_enter Tryd.func24, Tryd.ntmps24
  go_wp2
  go_loopw [7] (fun i wr => ∃ k : Nat, k ≤ 5 ∧ i = .int .i64 k ∧ Lib.IsBuilder 63 5 B b (bs ++ Lib.byteCells (lineTo x k)) wr ∧ Below B w wr) (fun i _ => 5 - (intOf i).toNat)
  case atStart =>
    refine ⟨0, by omega, rfl, ?_, (Below.refl _ _).alloc hBw _⟩
    have := isBuilder_below H0.out ((Below.refl _ _).alloc (Nat.le_refl _) (.cells #[.int .i64 x.a, .int .i64 x.l, .int .i64 x.f, .int .i64 x.b, .int .i64 x.m] 51))
    simpa [lineTo, Lib.byteCells] using this
  case round =>
    obtain ⟨k, hk, rfl, hbr, hb⟩ := hrel
    have HB : Hid (Lib.IsBuilder 63 5 B b (bs ++ Lib.byteCells (lineTo x k)) wr) := hbr
    clear hbr
    have hl := lineTo_len hx k
    have hBr : B ≤ wr.heap.size := by have := hb.size; omega
    by_cases hlt : k < 5
    · have hcase : k = 0 ∨ k = 1 ∨ k = 2 ∨ k = 3 ∨ k = 4 := by omega
      rcases hcase with rfl | rfl | rfl | rfl | rfl
      · have ix := rowIdx0 x.a x.l x.f x.b x.m
        go_wp2_with fail
        refine (itoa_any x.a (hx.num 0) _ (HT.out _ hb)).mono ?_
        rintro e w2 ⟨rfl, hb2⟩
        have hB2 := isBuilder_below HB.out hb2
        have hb2' : Below B w w2 := hb.trans (hb2.mono hBr)
        have hBw2 : B ≤ w2.heap.size := by have := hb2.size; omega
        have hi := Lib.itoa_length_le x.a (hx.num 0).1 (hx.num 0).2
        go_wp2_with fail
        refine (writeString_any B b _ _ _ hB2 (by simp [Lib.byteCells_length, ByteArray.size]; omega) hBw2).mono ?_
        rintro e w3 ⟨rfl, hB3, hb3⟩
        have H3 : Hid (Lib.IsBuilder 63 5 B b (bs ++ Lib.byteCells (lineTo x 1)) w3) := by
          have := isB hB3
          rw [bytes_app] at this
          have e : lineTo x 0 ++ Lib.itoa x.a = lineTo x 1 := by simp [lineTo, It.num]
          rw [e] at this
          exact this
        clear hB3 hB2
        go_wp2
        go_roundw
        case rel => exact ⟨1, by omega, rfl, H3.out, hb2'.trans hb3⟩
        case measure => simp [intOf]
      · have ix := rowIdx1 x.a x.l x.f x.b x.m
        go_wp2_with fail
        refine (writeByte_any B b _ _ _ HB.out (by simp [Lib.byteCells_length]; omega) hBr).mono ?_
        rintro e w1 ⟨rfl, hB1, hb1⟩
        have H1 : Hid (Lib.IsBuilder 63 5 B b (bs ++ Lib.byteCells (lineTo x 1 ++ [32])) w1) := by
          have := isB hB1
          rw [show (Value.int .u8 32) = Value.int .u8 ((32 : UInt8).toNat : Int) from rfl, bytes_snoc] at this
          exact this
        have hb1' : Below B w w1 := hb.trans hb1
        have hBw1 : B ≤ w1.heap.size := by have := hb1.size; omega
        clear hB1
        go_wp2_with fail
        refine (itoa_any x.l (hx.num 1) _ (HT.out _ hb1')).mono ?_
        rintro e w2 ⟨rfl, hb2⟩
        have hB2 := isBuilder_below H1.out hb2
        have hb2' : Below B w w2 := hb1'.trans (hb2.mono hBw1)
        have hBw2 : B ≤ w2.heap.size := by have := hb2.size; omega
        have hi := Lib.itoa_length_le x.l (hx.num 1).1 (hx.num 1).2
        go_wp2_with fail
        refine (writeString_any B b _ _ _ hB2 (by simp [Lib.byteCells_length, ByteArray.size]; omega) hBw2).mono ?_
        rintro e w3 ⟨rfl, hB3, hb3⟩
        have H3 : Hid (Lib.IsBuilder 63 5 B b (bs ++ Lib.byteCells (lineTo x 2)) w3) := by
          have := isB hB3
          rw [bytes_app] at this
          have e : lineTo x 1 ++ [32] ++ Lib.itoa x.l = lineTo x 2 := by rw [show lineTo x 2 = lineTo x 1 ++ ([32] ++ Lib.itoa x.l) from rfl, List.append_assoc]
          rw [e] at this
          exact this
        clear hB3 hB2
        go_wp2
        go_roundw
        case rel => exact ⟨2, by omega, rfl, H3.out, hb2'.trans hb3⟩
        case measure => simp [intOf]
      · have ix := rowIdx2 x.a x.l x.f x.b x.m
        go_wp2_with fail
        refine (writeByte_any B b _ _ _ HB.out (by simp [Lib.byteCells_length]; omega) hBr).mono ?_
        rintro e w1 ⟨rfl, hB1, hb1⟩
        have H1 : Hid (Lib.IsBuilder 63 5 B b (bs ++ Lib.byteCells (lineTo x 2 ++ [32])) w1) := by
          have := isB hB1
          rw [show (Value.int .u8 32) = Value.int .u8 ((32 : UInt8).toNat : Int) from rfl, bytes_snoc] at this
          exact this
        have hb1' : Below B w w1 := hb.trans hb1
        have hBw1 : B ≤ w1.heap.size := by have := hb1.size; omega
        clear hB1
        go_wp2_with fail
        refine (itoa_any x.f (hx.num 2) _ (HT.out _ hb1')).mono ?_
        rintro e w2 ⟨rfl, hb2⟩
        have hB2 := isBuilder_below H1.out hb2
        have hb2' : Below B w w2 := hb1'.trans (hb2.mono hBw1)
        have hBw2 : B ≤ w2.heap.size := by have := hb2.size; omega
        have hi := Lib.itoa_length_le x.f (hx.num 2).1 (hx.num 2).2
        go_wp2_with fail
        refine (writeString_any B b _ _ _ hB2 (by simp [Lib.byteCells_length, ByteArray.size]; omega) hBw2).mono ?_
        rintro e w3 ⟨rfl, hB3, hb3⟩
        have H3 : Hid (Lib.IsBuilder 63 5 B b (bs ++ Lib.byteCells (lineTo x 3)) w3) := by
          have := isB hB3
          rw [bytes_app] at this
          have e : lineTo x 2 ++ [32] ++ Lib.itoa x.f = lineTo x 3 := by rw [show lineTo x 3 = lineTo x 2 ++ ([32] ++ Lib.itoa x.f) from rfl, List.append_assoc]
          rw [e] at this
          exact this
        clear hB3 hB2
        go_wp2
        go_roundw
        case rel => exact ⟨3, by omega, rfl, H3.out, hb2'.trans hb3⟩
        case measure => simp [intOf]
      · have ix := rowIdx3 x.a x.l x.f x.b x.m
        go_wp2_with fail
        refine (writeByte_any B b _ _ _ HB.out (by simp [Lib.byteCells_length]; omega) hBr).mono ?_
        rintro e w1 ⟨rfl, hB1, hb1⟩
        have H1 : Hid (Lib.IsBuilder 63 5 B b (bs ++ Lib.byteCells (lineTo x 3 ++ [32])) w1) := by
          have := isB hB1
          rw [show (Value.int .u8 32) = Value.int .u8 ((32 : UInt8).toNat : Int) from rfl, bytes_snoc] at this
          exact this
        have hb1' : Below B w w1 := hb.trans hb1
        have hBw1 : B ≤ w1.heap.size := by have := hb1.size; omega
        clear hB1
        go_wp2_with fail
        refine (itoa_any x.b (hx.num 3) _ (HT.out _ hb1')).mono ?_
        rintro e w2 ⟨rfl, hb2⟩
        have hB2 := isBuilder_below H1.out hb2
        have hb2' : Below B w w2 := hb1'.trans (hb2.mono hBw1)
        have hBw2 : B ≤ w2.heap.size := by have := hb2.size; omega
        have hi := Lib.itoa_length_le x.b (hx.num 3).1 (hx.num 3).2
        go_wp2_with fail
        refine (writeString_any B b _ _ _ hB2 (by simp [Lib.byteCells_length, ByteArray.size]; omega) hBw2).mono ?_
        rintro e w3 ⟨rfl, hB3, hb3⟩
        have H3 : Hid (Lib.IsBuilder 63 5 B b (bs ++ Lib.byteCells (lineTo x 4)) w3) := by
          have := isB hB3
          rw [bytes_app] at this
          have e : lineTo x 3 ++ [32] ++ Lib.itoa x.b = lineTo x 4 := by rw [show lineTo x 4 = lineTo x 3 ++ ([32] ++ Lib.itoa x.b) from rfl, List.append_assoc]
          rw [e] at this
          exact this
        clear hB3 hB2
        go_wp2
        go_roundw
        case rel => exact ⟨4, by omega, rfl, H3.out, hb2'.trans hb3⟩
        case measure => simp [intOf]
      · have ix := rowIdx4 x.a x.l x.f x.b x.m
        go_wp2_with fail
        refine (writeByte_any B b _ _ _ HB.out (by simp [Lib.byteCells_length]; omega) hBr).mono ?_
        rintro e w1 ⟨rfl, hB1, hb1⟩
        have H1 : Hid (Lib.IsBuilder 63 5 B b (bs ++ Lib.byteCells (lineTo x 4 ++ [32])) w1) := by
          have := isB hB1
          rw [show (Value.int .u8 32) = Value.int .u8 ((32 : UInt8).toNat : Int) from rfl, bytes_snoc] at this
          exact this
        have hb1' : Below B w w1 := hb.trans hb1
        have hBw1 : B ≤ w1.heap.size := by have := hb1.size; omega
        clear hB1
        go_wp2_with fail
        refine (itoa_any x.m (hx.num 4) _ (HT.out _ hb1')).mono ?_
        rintro e w2 ⟨rfl, hb2⟩
        have hB2 := isBuilder_below H1.out hb2
        have hb2' : Below B w w2 := hb1'.trans (hb2.mono hBw1)
        have hBw2 : B ≤ w2.heap.size := by have := hb2.size; omega
        have hi := Lib.itoa_length_le x.m (hx.num 4).1 (hx.num 4).2
        go_wp2_with fail
        refine (writeString_any B b _ _ _ hB2 (by simp [Lib.byteCells_length, ByteArray.size]; omega) hBw2).mono ?_
        rintro e w3 ⟨rfl, hB3, hb3⟩
        have H3 : Hid (Lib.IsBuilder 63 5 B b (bs ++ Lib.byteCells (lineTo x 5)) w3) := by
          have := isB hB3
          rw [bytes_app] at this
          have e : lineTo x 4 ++ [32] ++ Lib.itoa x.m = lineTo x 5 := by rw [show lineTo x 5 = lineTo x 4 ++ ([32] ++ Lib.itoa x.m) from rfl, List.append_assoc]
          rw [e] at this
          exact this
        clear hB3 hB2
        go_wp2
        go_roundw
        case rel => exact ⟨5, by omega, rfl, H3.out, hb2'.trans hb3⟩
        case measure => simp [intOf]
    · obtain rfl : k = 5 := by omega
      go_wp2_with fail
      refine (writeByte_any B b _ _ _ HB.out (by simp [Lib.byteCells_length]; omega) hBr).mono ?_
      rintro e w1 ⟨rfl, hB1, hb1⟩
      have H1 : Hid (Lib.IsBuilder 63 5 B b (bs ++ Lib.byteCells x.line) w1) := by
        have := isB hB1
        rw [show (Value.int .u8 10) = Value.int .u8 ((10 : UInt8).toNat : Int) from rfl, bytes_snoc] at this
        exact this
      clear hB1
      go_wp2
      go_end0
      exact ⟨rfl, H1.out, hb.trans hb1⟩

theorem rowOf_any (a l f b m : Int) (w : World) : Calls Tryd.prog 23 #[.agg #[.int .i64 a, .int .i64 l, .int .i64 f, .int .i64 b, .int .i64 m]] w fun e w' => e = .returned (.agg #[.int .i64 a, .int .i64 l, .int .i64 f, .int .i64 b, .int .i64 m]) ∧ Below w.heap.size w w' := by
  go_enter Tryd.func23, Tryd.ntmps23
  go_wp2
  refine bodyPost_ret (v := .agg #[.int .i64 a, .int .i64 l, .int .i64 f, .int .i64 b, .int .i64 m]) (by simp [results, Tryd.results23, go_sem]) rfl ⟨rfl, ?_⟩
  repeat' (first | exact Below.refl _ _ | refine Below.drew ?_ | refine Below.alloc ?_ ?_ _ | refine Below.setCell ?_ ?_ _)
  all_goals (simp <;> omega)

theorem textOf_take {xs : List It} {k : Nat} {x : It} (hx : xs[k]? = some x) : textOf (xs.take (k + 1)) = textOf (xs.take k) ++ x.line := by
  unfold textOf
  rw [List.take_add_one, hx]
  simp
theorem text_len {xs : List It} (h : ∀ x ∈ xs, x.wf) : (textOf xs).length ≤ 111 * xs.length := by
  induction xs with
  | nil => simp [textOf]
  | cons x r ih =>
    have h1 := line_len (h x (by simp))
    have h2 := ih fun y hy => h y (by simp [hy])
    simp only [textOf, List.flatMap_cons, List.length_append, List.length_cons] at *
    omega

set_option maxHeartbeats 2000000 in
set_option maxRecDepth 100000 in
theorem text_any (x0 : Option Addr) (cap : Nat) (xs : List It) (w : World) (hT : Tab w) (hI : ItemsAt w x0 xs) (hw : ∀ x ∈ xs, x.wf) (h1 : xs.length ≤ 1000) :
    Calls Tryd.prog 11 #[.slice x0 xs.length cap] w fun e w' => e = .returned (.string ⟨(textOf xs).toArray⟩) ∧ Below w.heap.size w w' := by
  have HW : Hid (∀ x ∈ xs, x.wf) := hw
  have hTB : ∀ w', Below w.heap.size w w' → Tab w' := fun w' hb => hT.below hb
  have HT : Hid (∀ w', Below w.heap.size w w' → Tab w') := hTB
  have HL : Hid (∀ k, (textOf (xs.take k)).length ≤ 111 * 1000) := fun k => by
    have a := text_len (xs := xs.take k) fun y hy => hw y (List.mem_of_mem_take hy)
    have c := List.length_take_le k xs
    have d : (xs.take k).length ≤ xs.length := by rw [List.length_take]; omega
    omega
  generalize hn : xs.length = n at *
  have HN : Hid (xs.length = n) := hn
  have HI : Hid (ItemsAt w x0 xs) := hI
  have HF := Lib.fresh_isBuilder 63 5 w
  have HF0 : Hid (Lib.IsBuilder 63 5 w.heap.size w.heap.size [] (w.alloc (.cells #[.pointer none, .slice none 0 0] 63))) := HF
  clear hn hI hw hTB hT HF
  go_enter Tryd.func11, Tryd.ntmps11
  go_wp2
  go_loopw [8] (fun i wr => ∃ k : Nat, k ≤ n ∧ i = .int .i64 k ∧ Lib.IsBuilder 63 5 w.heap.size w.heap.size (Lib.byteCells (textOf (xs.take k))) wr ∧ Below w.heap.size w wr) (fun i _ => n - (intOf i).toNat)
  case atStart => exact ⟨0, Nat.zero_le _, rfl, by simpa [textOf, Lib.byteCells] using HF0.out, (Below.refl _ _).alloc (Nat.le_refl _) _⟩
  case round =>
    obtain ⟨k, hk, rfl, hbr, hb⟩ := hrel
    have HB : Hid (Lib.IsBuilder 63 5 w.heap.size w.heap.size (Lib.byteCells (textOf (xs.take k))) wr) := hbr
    clear hbr
    have hsz := hb.size
    by_cases hlt : k < n
    · obtain ⟨y, hy⟩ : ∃ y, xs[k]? = some y := ⟨_, List.getElem?_eq_getElem (by have := HN.out; omega)⟩
      rcases HI.out with hnil | ⟨b, off, hx, hI⟩
      · subst hnil; simp at hy
      subst hx
      have HY : Hid (xs[k]? = some y) := hy
      have hyw : Hid y.wf := HW.out y (List.mem_of_getElem? hy)
      obtain ⟨c0, c1, c2, c3, c4⟩ := (hI.below hb) k y hy
      clear hy hI
      go_wp2_with fail
      refine (rowOf_any _ _ _ _ _ _).mono ?_
      rintro e w1 ⟨rfl, hb1⟩
      have hbA : Below wr.heap.size wr w1 := ((Below.refl _ _).alloc (Nat.le_refl _) _).trans (hb1.mono (by simp))
      have hB1 := isBuilder_below HB.out hbA
      have H1 : Hid (Lib.IsBuilder 63 5 w.heap.size w.heap.size (Lib.byteCells (textOf (xs.take k))) w1) := hB1
      have hb1' : Below w.heap.size w w1 := hb.trans (hbA.mono hsz)
      have hsz1 := hb1'.size
      clear hB1 hb1
      go_wp2_with fail
      refine (write_any y hyw.out w.heap.size w.heap.size _ _ H1.out (fun w' h' => HT.out w' (hb1'.trans h')) hsz1 (by have := HL.out k; simp [Lib.byteCells_length]; omega)).mono ?_
      rintro e w2 ⟨rfl, hB2, hb2⟩
      have H2 : Hid (Lib.IsBuilder 63 5 w.heap.size w.heap.size (Lib.byteCells (textOf (xs.take (k + 1)))) w2) := by
        rw [← Lib.byteCells_append, ← textOf_take HY.out] at hB2
        exact hB2
      clear hB2
      go_wp2
      go_roundw
      case rel => exact ⟨k + 1, by omega, by go_num, H2.out, hb1'.trans hb2⟩
      case measure => simp [intOf]; omega
    · go_wp2_with fail
      refine (Tryd.Builder_String_any w.heap.size w.heap.size _ _ HB.out hsz).mono ?_
      rintro e w1 ⟨rfl, hb1⟩
      go_wp2
      go_ret
      have hkn : k = n := by omega
      have e : xs.take k = xs := List.take_of_length_le (by have := HN.out; omega)
      rw [e]
      exact ⟨rfl, hb.trans hb1⟩
end Go.Proofs.YtcdcplocpdmjaaaDoor
