/-
  package book: names, checks and lines. Conditions: internal/strconv's table of powers of ten is laid.
-/
import Derived.Test.YtheadpemckoljaaGreatDoorJ0
import Derived.Laws.IdiomStrings
import Derived.Deep.LoopGhost
namespace Go.Proofs.YtheadpemckoljaaGreatDoor
open Go.RowKit Go.Extern.Stop Go.Stop Go.Extern

theorem conv_bytes (s : ByteArray) (w : World) : ∃ cap W', (convert 9 25 (.string s)).run Tryz.prog w = .ok (.slice (some ⟨w.heap.size, 0, none⟩) s.size cap) W' ∧ s.size ≤ cap ∧
    Hid (∀ (j : Nat) x, s.data.toList[j]? = some x → W'.cell? ⟨w.heap.size, j, none⟩ = some (.int .u8 (x.toNat : Int))) ∧ Below w.heap.size w W' ∧ W'.heap.size = w.heap.size + 1 := by
  refine ⟨_, _, run_bytes_of_string w 9 25 5 s Tryz.underlying9 Tryz.underlying25 Tryz.underlying5, ?_, ?_, (Below.refl _ _).drew.alloc (Nat.le_refl _) _, by simp⟩
  · exact grownCap_ge _ _ _ _
  · intro j x hx
    have hj : j < s.data.size := by have := (List.getElem?_eq_some_iff.1 hx).1; simpa using this
    refine (World.cell?_alloc_mark w.drew _ _ _ j).trans ?_
    rw [bytesRow_at s _ j hj]
    have : x = s.data[j] := by
      rw [Array.getElem?_toList, Array.getElem?_eq_getElem hj] at hx
      exact (Option.some.inj hx).symm
    rw [this]
theorem nameB_iff (c : UInt8) : nameB c = true ↔ (97 ≤ c.toNat ∧ c.toNat ≤ 122) ∨ (48 ≤ c.toNat ∧ c.toNat ≤ 57) ∨ c.toNat = 45 := by
  simp [nameB, or_assoc]
theorem nameOk_all {l : List UInt8} (h1 : 1 ≤ l.length) (h2 : l.length ≤ 12) (h : ∀ (j : Nat) x, l[j]? = some x → nameB x = true) : nameOk l = true := by
  simp only [nameOk, Bool.and_eq_true, decide_eq_true_eq, List.all_eq_true]
  refine ⟨⟨h1, h2⟩, fun x hx => ?_⟩
  obtain ⟨j, hj⟩ := mem_get hx
  exact h j x hj
theorem nameOk_bad {l : List UInt8} {j : Nat} {x : UInt8} (hj : l[j]? = some x) (h : ¬ nameB x = true) : nameOk l = false := by
  cases hc : nameOk l with
  | false => rfl
  | true =>
    simp only [nameOk, Bool.and_eq_true, List.all_eq_true] at hc
    exact absurd (hc.2 x (List.mem_of_getElem? hj)) h
theorem nameOk_size {l : List UInt8} (h : ¬ (1 ≤ l.length ∧ l.length ≤ 12)) : nameOk l = false := by
  cases hc : nameOk l with
  | false => rfl
  | true => exact absurd (nameOk_len hc) h
set_option maxRecDepth 100000 in
set_option maxHeartbeats 2000000 in
theorem name_any (s : ByteArray) (w : World) (hs : s.size ≤ maxLen) :
    Calls Tryz.prog 10 #[.string s] w fun e w' => e = .returned (.bool (nameOk s.data.toList)) ∧ Below w.heap.size w w' := by
  unfold maxLen at hs
  have HL : Hid (s.data.toList.length = s.size) := Array.length_toList
  obtain ⟨cap, W', hcv, hcap, HC, hb, hsz⟩ := conv_bytes s w
  have HB : Hid (Below w.heap.size w W') := hb
  clear hb hsz
  by_cases h1 : (s.size : Int) < 1
  · go_enter Tryz.func10, Tryz.ntmps10
    go_wp2
    go_ret
    have e : nameOk s.data.toList = false := nameOk_size (by have := HL.out; omega)
    exact ⟨by rw [e]; rfl, Below.refl _ _⟩
  by_cases h2 : (12 : Int) < s.size
  · go_enter Tryz.func10, Tryz.ntmps10
    go_wp2
    go_ret
    have e : nameOk s.data.toList = false := nameOk_size (by have := HL.out; omega)
    exact ⟨by rw [e]; rfl, Below.refl _ _⟩
  go_enter Tryz.func10, Tryz.ntmps10
  go_wp2
  go_loop [16] (fun i => ∃ k : Nat, k ≤ s.size ∧ i = .int .i64 k ∧ Hid (∀ (j : Nat) x, j < k → s.data.toList[j]? = some x → nameB x = true)) (fun i => s.size - (intOf i).toNat)
  case atStart => exact ⟨0, Nat.zero_le _, rfl, fun j x hj => absurd hj (Nat.not_lt_zero j)⟩
  case round =>
    obtain ⟨k, hk, rfl, HK⟩ := hrel
    by_cases hlt : k < s.size
    · obtain ⟨x, hx⟩ : ∃ x, s.data.toList[k]? = some x := ⟨_, List.getElem?_eq_getElem (by have := HL.out; omega)⟩
      have HX : Hid (s.data.toList[k]? = some x) := hx
      have c0 := HC.out k x hx
      have hu : x.toNat < 256 := x.toNat_lt
      have HN : Hid (nameB x = true ↔ (97 ≤ x.toNat ∧ x.toNat ≤ 122) ∨ (48 ≤ x.toNat ∧ x.toNat ≤ 57) ∨ x.toNat = 45) := nameB_iff x
      have hk1 : (k : Int) < s.size := by omega
      clear hx
      by_cases h45 : x.toNat = 45
      · have e45 : ((x.toNat : Int) != 45) = false := by simp; omega
        have l97 : (x.toNat : Int) < 97 := by omega
        have l48 : (x.toNat : Int) < 48 := by omega
        have H45 : Hid (x.toNat = 45) := h45
        clear h45
        go_wp2
        go_round
        case rel =>
          refine ⟨k + 1, by omega, by go_num, fun j y hj hy => ?_⟩
          rcases Nat.lt_or_ge j k with hjk | hjk
          · exact HK.out j y hjk hy
          · obtain rfl : j = k := by omega
            obtain rfl := Option.some.inj (HX.out.symm.trans hy)
            exact HN.out.2 (Or.inr (Or.inr H45.out))
        case measure => simp [intOf]; omega
      · have e45 : ((x.toNat : Int) != 45) = true := by simp; omega
        have H45 : Hid (x.toNat ≠ 45) := h45
        clear h45
        go_wp2
        all_goals
          first
          | (go_round
             case rel =>
               refine ⟨k + 1, by omega, by go_num, fun j y hj hy => ?_⟩
               rcases Nat.lt_or_ge j k with hjk | hjk
               · exact HK.out j y hjk hy
               · obtain rfl : j = k := by omega
                 obtain rfl := Option.some.inj (HX.out.symm.trans hy)
                 exact HN.out.2 (by omega)
             case measure => simp [intOf]; omega)
          | (go_ret
             have e : nameOk s.data.toList = false := nameOk_bad HX.out (fun h => by have := HN.out.1 h; have := H45.out; omega)
             exact ⟨by rw [e]; rfl, HB.out⟩)
    · obtain rfl : k = s.size := by omega
      go_wp2
      go_ret
      have e : nameOk s.data.toList = true := nameOk_all (by have := HL.out; omega) (by have := HL.out; omega) (fun j x hx => HK.out j x (by have := (List.getElem?_eq_some_iff.1 hx).1; have := HL.out; omega) hx)
      exact ⟨by rw [e]; rfl, HB.out⟩
end Go.Proofs.YtheadpemckoljaaGreatDoor
