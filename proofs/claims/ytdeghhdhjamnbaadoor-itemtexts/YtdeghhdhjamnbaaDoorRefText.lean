/-
  millraceref.Told of a packet's five numbers and millraceref.ItemText: the same text as item.Text's; nothing that was there before is otherwise. Conditions: as item.Text's.
-/
import Derived.Test.YtdeghhdhjamnbaaDoorText
namespace Go.Proofs.YtdeghhdhjamnbaaDoor
open Go.RowKit

theorem ba_append (a b : List UInt8) : (⟨a.toArray⟩ : ByteArray) ++ (⟨b.toArray⟩ : ByteArray) = ⟨(a ++ b).toArray⟩ := by
  apply ByteArray.ext
  simp [ByteArray.data_append]
theorem ownsRow_below {w w' : World} {base : Nat} {e : TypeId} {size : Nat} {v : Value} {n : Nat} {xs : List Value} (h : w.ownsRow base e size v n xs) (hb : Below w.heap.size w w') : w'.ownsRow base e size v n xs := by
  obtain ⟨h1, h2⟩ := h
  refine ⟨h1, ?_⟩
  rcases h2 with h2 | ⟨g, cap, cur, hv, hg, hh, r⟩
  · exact Or.inl h2
  · refine Or.inr ⟨g, cap, cur, hv, hg, ?_, r⟩
    have hgl : g < w.heap.size := by
      rcases Nat.lt_or_ge g w.heap.size with h' | h'
      · exact h'
      · simp [Array.getElem?_eq_none h'] at hh
    rw [hb.block g hgl]; exact hh

/-- The first k numbers, each as a string. -/
def words (x : It) (k : Nat) : List Value := (List.range k).map fun i => Value.string ⟨(Lib.itoa (x.num i)).toArray⟩
theorem words_succ (x : It) (k : Nat) : words x (k + 1) = words x k ++ [Value.string ⟨(Lib.itoa (x.num k)).toArray⟩] := by simp [words, List.range_succ]
theorem infoString : ∃ i, Tryd.prog.info? 9 = some i ∧ i.zero = some (.string ⟨#[]⟩) ∧ i.size = 1 ∧ i.bytes = 16 := by
  have h : (Tryd.prog.info? 9).map (fun i => (i.zero, i.size, i.bytes)) = some (some (.string ⟨#[]⟩), 1, 16) := by kernel_rfl
  obtain ⟨i, hi, he⟩ := Option.map_eq_some_iff.1 h
  simp only [Prod.mk.injEq] at he
  exact ⟨i, hi, he.1, he.2.1, he.2.2⟩
theorem join_line (x : It) : Lib.join ([⟨(Lib.itoa x.a).toArray⟩, ⟨(Lib.itoa x.l).toArray⟩, ⟨(Lib.itoa x.f).toArray⟩, ⟨(Lib.itoa x.b).toArray⟩, (⟨(Lib.itoa x.m).toArray⟩ : ByteArray)].map (·.data.toList)) [32] = lineTo x 5 := by
  simp [Lib.join, List.intercalate, List.intersperse, lineTo, It.num]

set_option maxHeartbeats 2000000 in
set_option maxRecDepth 100000 in
theorem told_any (x : It) (hx : x.wf) (b : Nat) (w : World) (hT : Tab w) (hc : ∀ k, k < 5 → w.cell? ⟨b, 0 + k, none⟩ = some (.int .i64 (x.num k))) :
    Calls Tryd.prog 38 #[.slice (some ⟨b, 0, none⟩) 5 5] w fun e w' => e = .returned (.string ⟨(lineTo x 5).toArray⟩) ∧ Below w.heap.size w w' := by
  obtain ⟨i0, hi, hz0, hz1, hz2⟩ := infoString
  have HX : Hid x.wf := hx
  have HT : Hid (Tab w) := hT
  have HC : Hid (∀ k, k < 5 → w.cell? ⟨b, 0 + k, none⟩ = some (.int .i64 (x.num k))) := hc
  clear hx hT hc
  go_enter Tryd.func38, Tryd.ntmps38
  go_wp2
  go_loopw [3, 8] (fun v i wr => ∃ k : Nat, k ≤ 5 ∧ i = .int .i64 k ∧ wr.ownsRow w.heap.size 9 1 v k (words x k) ∧ Below w.heap.size w wr) (fun _ i _ => 5 - (intOf i).toNat)
  case atStart => exact ⟨0, by omega, rfl, ⟨by simp [words], Or.inl ⟨rfl, rfl⟩⟩, Below.refl _ _⟩
  case round =>
    obtain ⟨k, hk, rfl, hown, hb⟩ := hrel
    have hsz := hb.size
    by_cases hlt : k < 5
    · have cc : wr.cell? ⟨b, k, none⟩ = some (.int .i64 (x.num k)) := by
        have := HC.out k hlt
        rw [Nat.zero_add] at this
        exact cell_below hb this
      have hk0 : (0 : Int) ≤ (k : Int) := by omega
      have hk5 : (k : Int) < 5 := by omega
      have HO : Hid (wr.ownsRow w.heap.size 9 1 u3 k (words x k)) := hown
      clear hown
      go_wp2_with fail
      refine (itoa_any _ (HX.out.num k) _ (HT.out.below hb)).mono ?_
      rintro e w1 ⟨rfl, hb1⟩
      have hown1 := ownsRow_below HO.out hb1
      have hb1' : Below w.heap.size w w1 := hb.trans (hb1.mono hsz)
      have hsz1 := hb1'.size
      go_wp2_with (at_builtin; refine wpList_append_own _ rfl _ _ 73 rfl w.heap.size 9 i0 (.string ⟨#[]⟩) 1 16 Tryd.underlying73 hi hz0 hz1 hz2 rfl (by decide) _ _ _ rfl (hown1.alloc _) ⟨w1.heap.size, 0, none⟩ 1 1 [.string ⟨(Lib.itoa (x.num k)).toArray⟩] rfl rfl ?c1 ?c2 ?c3 ?c4 ?c5 ?_)
      case c1 =>
        intro j u hj
        match j, hj with
        | 0, hj => simp at hj; subst hj; simp [Addr.add]
      case c2 => intro u hu; simp at hu; subst hu; rfl
      case c3 => unfold maxLen; omega
      case c4 => omega
      case c5 => simp; omega
      intro v' w2 hown' hgrow _
      have H2 : Hid (w2.ownsRow w.heap.size 9 1 v' (k + 1) (words x (k + 1))) := by rw [words_succ]; exact hown'
      have hb2 : Below w.heap.size w w2 := (hb1'.alloc hsz1 _).grown hgrow (by simp; omega) (fun j hj => (hown1.lt j hj).1)
      clear hown' hown1 hgrow
      go_wp2
      go_roundw
      case rel => exact ⟨k + 1, by omega, by go_num, H2.out, hb2⟩
      case measure => simp [intOf]; omega
    · obtain rfl : k = 5 := by omega
      obtain ⟨g, cap, cur, rfl, hg, hh, hcap, hmax, hcs, htake⟩ : ∃ g cap cur, u3 = .slice (some ⟨g, 0, none⟩) 5 cap ∧ w.heap.size ≤ g ∧ wr.heap[g]? = some (.cells cur 9 (0, 0)) ∧ 5 ≤ cap ∧ cap ≤ maxLen ∧ cur.size = cap * 1 ∧ cur.toList.take (5 * 1) = words x 5 := by
        rcases hown.2 with ⟨_, h0⟩ | h
        · omega
        · exact h
      have hgl : g < wr.heap.size := by
        rcases Nat.lt_or_ge g wr.heap.size with h' | h'
        · exact h'
        · simp [Array.getElem?_eq_none h'] at hh
      have hcell : ∀ (j : Nat) y, [⟨(Lib.itoa x.a).toArray⟩, ⟨(Lib.itoa x.l).toArray⟩, ⟨(Lib.itoa x.f).toArray⟩, ⟨(Lib.itoa x.b).toArray⟩, (⟨(Lib.itoa x.m).toArray⟩ : ByteArray)][j]? = some y → wr.cell? ⟨g, 0 + j, none⟩ = some (.string y) := by
        intro j y hy
        have hj : j < 5 := by
          rcases Nat.lt_or_ge j 5 with h | h
          · exact h
          · rw [List.getElem?_eq_none (by simpa using h)] at hy; cases hy
        rw [Nat.zero_add]
        have e1 : wr.cell? ⟨g, j, none⟩ = (words x 5)[j]? := by
          have hown2 : wr.ownsRow w.heap.size 9 1 (.slice (some ⟨g, 0, none⟩) 5 cap) 5 (words x 5) := hown
          exact hown2.cellAt j (by omega)
        rw [e1]
        have hc5 : j = 0 ∨ j = 1 ∨ j = 2 ∨ j = 3 ∨ j = 4 := by omega
        rcases hc5 with rfl | rfl | rfl | rfl | rfl <;> (simp at hy; subst hy; rfl)
      have hjl : (Lib.join ([⟨(Lib.itoa x.a).toArray⟩, ⟨(Lib.itoa x.l).toArray⟩, ⟨(Lib.itoa x.f).toArray⟩, ⟨(Lib.itoa x.b).toArray⟩, (⟨(Lib.itoa x.m).toArray⟩ : ByteArray)].map (·.data.toList)) (⟨#[32]⟩ : ByteArray).data.toList).length ≤ 140737488355328 := by
        rw [show (⟨#[32]⟩ : ByteArray).data.toList = [32] from rfl, join_line]
        have := lineTo_len HX.out 5
        omega
      have hj := Tryd.strings_Join g 0 cap [⟨(Lib.itoa x.a).toArray⟩, ⟨(Lib.itoa x.l).toArray⟩, ⟨(Lib.itoa x.f).toArray⟩, ⟨(Lib.itoa x.b).toArray⟩, ⟨(Lib.itoa x.m).toArray⟩] ⟨#[32]⟩ wr hcell hgl (by simp) hcap hjl
      rw [show (⟨#[32]⟩ : ByteArray).data.toList = [32] from rfl, join_line] at hj
      have HJ : Hid (Calls Tryd.prog 53 #[.slice (some ⟨g, 0, none⟩) 5 cap, .string ⟨#[32]⟩] wr fun e w' => e = .returned (.string ⟨(lineTo x 5).toArray⟩) ∧ Below wr.heap.size wr w') := hj
      clear hj hjl hcell hh htake hown hcs
      go_wp2_with fail
      refine HJ.out.mono ?_
      rintro e w1 ⟨rfl, hb1⟩
      go_wp2
      go_ret
      exact ⟨rfl, hb.trans (hb1.mono hsz)⟩

set_option maxHeartbeats 2000000 in
set_option maxRecDepth 100000 in
theorem rtext_any (x0 : Option Addr) (cap : Nat) (xs : List It) (w : World) (hT : Tab w) (hI : ItemsAt w x0 xs) (hw : ∀ x ∈ xs, x.wf) (h1 : xs.length ≤ 1000) :
    Calls Tryd.prog 20 #[.slice x0 xs.length cap] w fun e w' => e = .returned (.string ⟨(textOf xs).toArray⟩) ∧ Below w.heap.size w w' := by
  have HW : Hid (∀ x ∈ xs, x.wf) := hw
  have HT : Hid (Tab w) := hT
  generalize hn : xs.length = n at *
  have HN : Hid (xs.length = n) := hn
  have HI : Hid (ItemsAt w x0 xs) := hI
  clear hn hI hw hT
  go_enter Tryd.func20, Tryd.ntmps20
  go_wp2
  go_loopw [3, 8] (fun s i wr => ∃ k : Nat, k ≤ n ∧ i = .int .i64 k ∧ s = .string ⟨(textOf (xs.take k)).toArray⟩ ∧ Below w.heap.size w wr) (fun _ i _ => n - (intOf i).toNat)
  case atStart => exact ⟨0, Nat.zero_le _, rfl, by simp [textOf], Below.refl _ _⟩
  case round =>
    obtain ⟨k, hk, rfl, rfl, hb⟩ := hrel
    have hsz := hb.size
    by_cases hlt : k < n
    · obtain ⟨y, hy⟩ : ∃ y, xs[k]? = some y := ⟨_, List.getElem?_eq_getElem (by have := HN.out; omega)⟩
      rcases HI.out with hnil | ⟨b, off, hx, hI⟩
      · subst hnil; simp at hy
      subst hx
      have HY : Hid (xs[k]? = some y) := hy
      have hyw : Hid y.wf := HW.out y (List.mem_of_getElem? hy)
      obtain ⟨c0, c1, c2, c3, c4⟩ := (hI.below hb) k y hy
      clear hy hI
      generalize ht : textOf (xs.take k) = t at *
      have HTK : Hid (textOf (xs.take k) = t) := ht
      clear ht
      have hbA : Below wr.heap.size wr ((wr.alloc (.cells #[.int .i64 y.a, .int .i64 y.l, .int .i64 y.f, .int .i64 y.b, .int .i64 y.m] 28)).alloc (.cells #[.int .i64 y.a, .int .i64 y.l, .int .i64 y.f, .int .i64 y.b, .int .i64 y.m] 3)) := ((Below.refl _ _).alloc (Nat.le_refl _) _).alloc (by simp) _
      have hT1 := (HT.out.below hb).below hbA
      have HC : Hid (∀ j, j < 5 → ((wr.alloc (.cells #[.int .i64 y.a, .int .i64 y.l, .int .i64 y.f, .int .i64 y.b, .int .i64 y.m] 28)).alloc (.cells #[.int .i64 y.a, .int .i64 y.l, .int .i64 y.f, .int .i64 y.b, .int .i64 y.m] 3)).cell? ⟨wr.heap.size + 1, 0 + j, none⟩ = some (.int .i64 (y.num j))) := by
        intro j hj
        have hc5 : j = 0 ∨ j = 1 ∨ j = 2 ∨ j = 3 ∨ j = 4 := by omega
        rcases hc5 with rfl | rfl | rfl | rfl | rfl <;> simp [It.num]
      have HT1 : Hid (Tab ((wr.alloc (.cells #[.int .i64 y.a, .int .i64 y.l, .int .i64 y.f, .int .i64 y.b, .int .i64 y.m] 28)).alloc (.cells #[.int .i64 y.a, .int .i64 y.l, .int .i64 y.f, .int .i64 y.b, .int .i64 y.m] 3))) := hT1
      clear hT1
      go_wp2_with fail
      refine (told_any y hyw.out _ _ HT1.out HC.out).mono ?_
      rintro e w1 ⟨rfl, hb1⟩
      have hb1' : Below w.heap.size w w1 := hb.trans ((hbA.trans (hb1.mono (by simp; omega))).mono hsz)
      have HL : Hid (textOf (xs.take (k + 1)) = t ++ y.line) := by rw [← HTK.out]; exact textOf_take HY.out
      have e2 : y.line = lineTo y 5 ++ [10] := rfl
      have HE2 : Hid (y.line = lineTo y 5 ++ [10]) := e2
      clear e2
      have hq : (lineTo y 5).length ≤ 110 := lineTo_len hyw.out 5
      have ht : t.length ≤ 111000 := by
        rw [← HTK.out]
        have a := text_len (xs := xs.take k) fun z hz => HW.out z (List.mem_of_mem_take hz)
        have d : (xs.take k).length ≤ 1000 := by rw [List.length_take]; omega
        omega
      generalize lineTo y 5 = ly at *
      have hq1 : ¬ 9223372036854775807 < ly.length + 1 := by omega
      have hq2 : ¬ 9223372036854775807 < t.length + (ly.length + 1) := by omega
      go_wp2
      go_roundw
      case rel => exact ⟨k + 1, by omega, by go_num, by rw [HL.out, HE2.out, ← ba_append, ← ba_append], hb1'⟩
      case measure => simp [intOf]; omega
    · go_wp2
      go_ret
      have e : xs.take k = xs := List.take_of_length_le (by have := HN.out; omega)
      rw [e]
      exact ⟨rfl, hb⟩
end Go.Proofs.YtdeghhdhjamnbaaDoor
