/-
  millracekeep.busy, and PlantKeeps walked whole: it returns true for whatever text, numbers and steps; nothing that was there before is otherwise. Conditions: the numbers and the steps lie in memory; what strconv and errors lay is laid.
-/
import Derived.Test.YtfakjedolecdcaaGreatDoorU45
import Derived.Test.YtfakjedolecdcaaGreatDoorU14
import Derived.Test.YtfakjedolecdcaaGreatDoorU15
namespace Go.Proofs.YtfakjedolecdcaaGreatDoor
open Go.RowKit Go.Extern.Stop Go.Stop Go.Extern
variable {E : Prop}

theorem signF_infix (al : List UInt8) : ∀ (f : Nat) (l : List UInt8) (p : Nat) (x : List UInt8 × Nat), x ∈ signF al f l p → x.1 <:+: l := by
  intro f
  induction f with
  | zero => intro l p x h; simp [signF] at h
  | succ f ih =>
    intro l p x h
    cases l with
    | nil => simp [signF] at h
    | cons b l =>
      simp only [signF, List.mem_append] at h
      rcases h with h | h
      · split at h
        · simp at h
        · simp only [List.mem_singleton] at h
          subst h
          exact (List.take_prefix _ _).isInfix
      · exact (ih _ _ _ h).trans (List.drop_suffix _ _).isInfix
theorem infix_at {b l : List UInt8} (h : b <:+: l) : ∃ j, j + b.length ≤ l.length ∧ (l.drop j).take b.length = b := by
  obtain ⟨s, t, rfl⟩ := h
  refine ⟨s.length, by simp, ?_⟩
  rw [List.append_assoc, List.drop_left, List.take_left]
theorem lsOk_of {E : Prop} {s : ByteArray} (hs : s.size ≤ 2000) (h : ∀ j, j + 6 ≤ s.size → ¬ (s.extract j (j + 6)).toList = roundsB) (h5 : E → ∀ j, j + 5 ≤ s.size → ¬ (s.extract j (j + 5)).toList = shapeB) : LsOk E (signsL [32, 40, 41, 44] s.data.toList 0) := by
  intro x hx
  have hi := signF_infix _ _ _ _ _ hx
  have hsz : s.data.toList.length = s.size := Array.length_toList
  refine ⟨by have := hi.length_le; omega, fun e => ?_, fun hE e => ?_⟩
  · rw [e] at hi
    obtain ⟨j, h1, h2⟩ := infix_at hi
    have h1' : j + 6 ≤ s.data.toList.length := h1
    refine h j (by omega) ?_
    rw [toList_data, ext_list]
    exact h2
  · rw [e] at hi
    obtain ⟨j, h1, h2⟩ := infix_at hi
    have h1' : j + 5 ≤ s.data.toList.length := h1
    refine h5 hE j (by omega) ?_
    rw [toList_data, ext_list]
    exact h2
theorem busy_text (s : ByteArray) (w : World) (hs : s.size ≤ 600) :
    Calls Tryz.prog 6 #[.string s] w fun e w' => (e = .returned (.bool true) ∨ e = .returned (.bool false) ∧ ∀ j, j + 6 ≤ s.size → ¬ (s.extract j (j + 6)).toList = roundsB) ∧ Below w.heap.size w w' := by
  go_enter Tryz.func6, Tryz.ntmps6
  go_wp2
  go_loopw [3] (fun pv wr => ∃ i : Nat, i ≤ s.size ∧ pv = .int .i64 i ∧ wr = w ∧ ∀ j, j < i → j + 6 ≤ s.size → ¬ (s.extract j (j + 6)).toList = roundsB) (fun pv _ => s.size + 1 - (intOf pv).toNat)
  case atStart => exact ⟨0, Nat.zero_le _, rfl, rfl, fun j hj => absurd hj (by omega)⟩
  case round =>
    obtain ⟨i, hi, rfl, rfl, hall⟩ := hrel
    have HALL : Hid (∀ j, j < i → j + 6 ≤ s.size → ¬ (s.extract j (j + 6)).toList = roundsB) := hall
    clear hall
    by_cases h6 : i + 6 ≤ s.size
    · have hj1 : (i : Int) ≤ (i : Int) + 6 := by omega
      have hj2 : (i : Int) + 6 ≤ (s.size : Int) := by omega
      have hj3 : ((i : Int) + 6).toNat = i + 6 := by omega
      by_cases hr : (s.extract i (i + 6)).toList = roundsB
      · have o1 : ((s.extract i (i + 6)).toList == [114, 111, 117, 110, 100, 115]) = true := by rw [hr]; rfl
        clear hr
        go_wp2
        go_ret
        exact ⟨Or.inl rfl, Below.refl _ _⟩
      · have o1 : ((s.extract i (i + 6)).toList == [114, 111, 117, 110, 100, 115]) = false := by simpa [roundsB] using hr
        have HR : Hid (¬ (s.extract i (i + 6)).toList = roundsB) := hr
        clear hr
        go_wp2
        go_roundw
        case rel =>
          refine ⟨i + 1, by omega, by go_num, trivial, fun j hj h => ?_⟩
          by_cases e : j = i
          · subst e; exact HR.out
          · exact HALL.out j (by omega) h
        case measure => simp [intOf]; omega
    · have hj2 : ¬ (i : Int) + 6 ≤ (s.size : Int) := by omega
      go_wp2
      go_ret
      exact ⟨Or.inr ⟨rfl, fun j hj => HALL.out j (by omega) hj⟩, Below.refl _ _⟩
theorem IRow.below {w w' : World} {x : Option Addr} {n : Nat} {f : Nat → Int} (h : IRow w x n f) (hb : Below w.heap.size w w') : IRow w' x n f := by
  rcases h with h | ⟨b, off, e, hl, hc⟩
  · exact Or.inl h
  · exact Or.inr ⟨b, off, e, Nat.lt_of_lt_of_le hl hb.size, fun i hi => (hb.cell (p := ⟨b, off + i, none⟩) hl).trans (hc i hi)⟩
set_option maxRecDepth 20000 in
set_option maxHeartbeats 4000000 in
theorem plantKeeps_long (s : ByteArray) (px : Option Addr) (m pcap : Nat) (x : Option Addr) (cap n : Nat) (w : World) (hs : s.size ≤ maxLen) (hm : m ≤ maxLen) (hn : n ≤ maxLen) (h : ¬ (s.size ≤ 600 ∧ m ≤ 200 ∧ n ≤ 120)) :
    Calls Tryz.prog 3 #[.string s, .slice px m pcap, .slice x n cap] w fun e w' => e = .returned (.bool true) ∧ Below w.heap.size w w' := by
  unfold maxLen at hs hm hn
  by_cases h1 : s.size ≤ 600
  · have a1 : decide ((600 : Int) < (s.size : Int)) = false := by simp; omega
    by_cases h2 : m ≤ 200
    · have a2 : decide ((200 : Int) < (m : Int)) = false := by simp; omega
      have a3 : decide ((120 : Int) < (n : Int)) = true := by simp; omega
      clear h h1 h2
      go_enter Tryz.func3, Tryz.ntmps3
      go_wp2
      go_ret
      exact ⟨rfl, Below.refl _ _⟩
    · have a2 : decide ((200 : Int) < (m : Int)) = true := by simp; omega
      clear h h1 h2
      go_enter Tryz.func3, Tryz.ntmps3
      go_wp2
      go_ret
      exact ⟨rfl, Below.refl _ _⟩
  · have a1 : decide ((600 : Int) < (s.size : Int)) = true := by simp; omega
    clear h h1
    go_enter Tryz.func3, Tryz.ntmps3
    go_wp2
    go_ret
    exact ⟨rfl, Below.refl _ _⟩
set_option maxRecDepth 20000 in
set_option maxHeartbeats 4000000 in
theorem plantKeeps_short (s : ByteArray) (px : Option Addr) (m pcap : Nat) (fn : Nat → Int) (x : Option Addr) (cap : Nat) (xs : List Stp) (w : World) (hG : Glob w) (hL : Laid w) (hI : IRow w px m fn) (hpn : px = none → m = 0 ∧ pcap = 0) (hl : Lies w x (flt Stp.cs xs)) (h1 : s.size ≤ 600) (h2 : m ≤ 200) (h3 : xs.length ≤ 120) :
    Calls Tryz.prog 3 #[.string s, .slice px m pcap, .slice x xs.length cap] w fun e w' => e = .returned (.bool true) ∧ Below w.heap.size w w' := by
  have HBT : Hid (Calls Tryz.prog 6 #[.string s] w fun e w' => (e = .returned (.bool true) ∨ e = .returned (.bool false) ∧ ∀ j, j + 6 ≤ s.size → ¬ (s.extract j (j + 6)).toList = roundsB) ∧ Below w.heap.size w w') := busy_text s w h1
  have HPA : Hid (∀ w1, Below w.heap.size w w1 → (∀ j, j + 6 ≤ s.size → ¬ (s.extract j (j + 6)).toList = roundsB) → Calls Tryz.prog 7 #[.string s, .slice px m pcap] w1 fun e w' => Qk False 20 w1 w' e ∧ Below w1.heap.size w1 w') := fun w1 hb hno => parse_all s w1 (fn := fn) (by omega) (by omega) hpn (fun w' h' => ⟨hG.below (hb.trans (h'.mono hb.size)), hL.below (hb.trans (h'.mono hb.size)), hI.below (hb.trans (h'.mono hb.size))⟩) (lsOk_of (by omega) hno (fun f => f.elim))
  have HPT : Hid (∀ w1, Below w.heap.size w w1 → Calls Tryz.prog 8 #[] w1 fun e w' => e = .returned (.bool true) ∧ Below w1.heap.size w1 w') := fun w1 h1 => planted_true w1 (hG.below h1)
  have HLI : Hid (Lies w x (flt Stp.cs xs)) := hl
  have H3 : Hid (xs.length ≤ 120) := h3
  have a1 : decide ((600 : Int) < (s.size : Int)) = false := by simp; omega
  have a2 : decide ((200 : Int) < (m : Int)) = false := by simp; omega
  have a3 : decide ((120 : Int) < (xs.length : Int)) = false := by simp; omega
  clear hG hL hI hpn hl h1 h2 h3
  go_enter Tryz.func3, Tryz.ntmps3
  go_wp2_with fail
  refine HBT.out.mono ?_
  rintro e w1 ⟨hbt, hb1⟩
  have HB1 : Hid (Below w.heap.size w w1) := hb1
  clear hb1 HBT
  rcases hbt with rfl | ⟨rfl, hno⟩
  · go_wp2
    go_ret
    exact ⟨rfl, HB1.out⟩
  · have HPA1 := HPA.out w1 HB1.out hno
    clear hno HPA
    go_wp2_with fail
    refine HPA1.mono ?_
    rintro e w2 ⟨hq, hb2⟩
    have HB2 : Hid (Below w.heap.size w w2) := HB1.out.trans (hb2.mono HB1.out.size)
    clear hb2 HPA1
    rcases hq with ⟨B, rfl⟩ | ⟨M, cont, s0, F, rfl, hM, hK, -, hinv, hc, hat, hF⟩
    · unfold errV
      go_wp2_with fail
      refine (HPT.out w2 HB2.out).mono ?_
      rintro e w3 ⟨rfl, hb3⟩
      have HB3 : Hid (Below w.heap.size w w3) := HB2.out.trans (hb3.mono HB2.out.size)
      clear hb3
      go_wp2_with fail
      refine (HPT.out w3 HB3.out).mono ?_
      rintro e w4 ⟨rfl, hb4⟩
      have HB4 : Hid (Below w.heap.size w w4) := HB3.out.trans (hb4.mono HB3.out.size)
      clear hb4
      go_wp2
      go_ret
      exact ⟨rfl, HB4.out⟩
    · have HM : Hid M.Fine := hM
      have HK : Hid (M.Late False cont) := hK
      have HIV : Hid (M.inv 0 0 s0) := hinv
      have HC : Hid (cont s0 = []) := hc
      have HAT : Hid (M.At w2 F s0) := hat
      have HF : Hid (∀ k, F k → w1.heap.size ≤ k) := hF
      clear hM hK hinv hc hat hF
      go_wp2_with fail
      refine (HPT.out w2 HB2.out).mono ?_
      rintro e w3 ⟨rfl, hb3⟩
      have HB3 : Hid (Below w.heap.size w w3) := HB2.out.trans (hb3.mono HB2.out.size)
      have HAT3 : Hid (M.At w3 F s0) := HM.out.kept HAT.out (fun k hk => hb3.block k (HM.out.low HAT.out k hk))
      clear hb3
      go_wp2_with fail
      refine (play_any M HM.out F s0 x cap xs w3 (HLI.out.below HB3.out) (by have := H3.out; omega) HAT3.out HIV.out).mono ?_
      rintro e w4 ⟨u, us, F', rfl, hsn, hot⟩
      obtain ⟨G, G2, hG0, hG⟩ := play_late HM.out HK.out HIV.out HC.out xs (by have := H3.out; omega)
      have hsl := playFrom_length M s0 0 (timesL 0 xs)
      rw [timesL_length] at hsl
      have HB4 : Hid (Below w.heap.size w w4) := HB3.out.trans (hot.below HB3.out.size (fun k hk => by have h1 := HF.out k hk; have h2 := HB1.out.size; omega))
      have hk := left_late xs (playFrom M s0 0 (timesL 0 xs)) us G G2 x cap u _ F' w4 (HLI.out.below HB4.out) (by have := H3.out; omega) hsn hsl hG0 hG
      clear hsn hot hG0 hG hsl
      go_wp2_with fail
      refine hk.mono ?_
      rintro e w5 ⟨rfl, hb5⟩
      have HB5 : Hid (Below w.heap.size w w5) := HB4.out.trans (hb5.mono HB4.out.size)
      clear hb5 hk
      go_wp2
      go_ret
      exact ⟨rfl, HB5.out⟩
/-- The law. -/
theorem plantKeeps_any (s : ByteArray) (px : Option Addr) (m pcap : Nat) (fn : Nat → Int) (x : Option Addr) (cap : Nat) (xs : List Stp) (w : World) (hG : Glob w) (hL : Laid w) (hI : IRow w px m fn) (hpn : px = none → m = 0 ∧ pcap = 0) (hl : Lies w x (flt Stp.cs xs)) (hs : s.size ≤ maxLen) (hm : m ≤ maxLen) (hn : xs.length ≤ maxLen) :
    Calls Tryz.prog 3 #[.string s, .slice px m pcap, .slice x xs.length cap] w fun e w' => e = .returned (.bool true) ∧ Below w.heap.size w w' := by
  by_cases h : s.size ≤ 600 ∧ m ≤ 200 ∧ xs.length ≤ 120
  · exact plantKeeps_short s px m pcap fn x cap xs w hG hL hI hpn hl h.1 h.2.1 h.2.2
  · exact plantKeeps_long s px m pcap x cap xs.length w hs hm hn h
end Go.Proofs.YtfakjedolecdcaaGreatDoor
