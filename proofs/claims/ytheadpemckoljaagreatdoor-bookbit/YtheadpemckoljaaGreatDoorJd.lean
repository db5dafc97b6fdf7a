/-
  The reference's names, numbers and lines of a journal. Conditions: what strconv lays is laid.
-/
import Derived.Test.YtheadpemckoljaaGreatDoorJc
namespace Go.Proofs.YtheadpemckoljaaGreatDoor
open Go.RowKit Go.Extern.Stop Go.Stop Go.Extern Go.Maps Go.WideMaps

theorem str_at {s : ByteArray} {k : Nat} {x : UInt8} (h : s.data.toList[k]? = some x) (hk : k < s.size) : s[k] = x := by
  have hj : k < s.data.size := hk
  rw [Array.getElem?_toList, Array.getElem?_eq_getElem hj] at h
  exact Option.some.inj h
set_option maxRecDepth 100000 in
set_option maxHeartbeats 2000000 in
theorem rname_any (s : ByteArray) (w : World) (hs : s.size ≤ maxLen) :
    Calls Tryz.prog 11 #[.string s] w fun e w' => e = .returned (.bool (nameOk s.data.toList)) ∧ w' = w := by
  unfold maxLen at hs
  have HL : Hid (s.data.toList.length = s.size) := Array.length_toList
  go_enter Tryz.func11, Tryz.ntmps11
  go_wp2
  go_loop [7] (fun i => ∃ k : Nat, k ≤ s.size ∧ i = .int .i64 k ∧ Hid (∀ (j : Nat) x, j < k → s.data.toList[j]? = some x → nameB x = true)) (fun i => s.size - (intOf i).toNat)
  case atStart => exact ⟨0, Nat.zero_le _, rfl, fun j x hj => absurd hj (Nat.not_lt_zero j)⟩
  case round =>
    obtain ⟨k, hk, rfl, HK⟩ := hrel
    by_cases hlt : k < s.size
    · obtain ⟨x, hx⟩ : ∃ x, s.data.toList[k]? = some x := ⟨_, List.getElem?_eq_getElem (by have := HL.out; omega)⟩
      have HX : Hid (s.data.toList[k]? = some x) := hx
      have hsx := str_at hx hlt
      have hu : x.toNat < 256 := x.toNat_lt
      have HN : Hid (nameB x = true ↔ (97 ≤ x.toNat ∧ x.toNat ≤ 122) ∨ (48 ≤ x.toNat ∧ x.toNat ≤ 57) ∨ x.toNat = 45) := nameB_iff x
      have hk1 : (k : Int) < s.size := by omega
      clear hx
      by_cases h45 : x.toNat = 45
      · have e45 : ((x.toNat : Int) == 45) = true := by simp; omega
        have l97 : ¬ 97 ≤ (x.toNat : Int) := by omega
        have l48 : ¬ 48 ≤ (x.toNat : Int) := by omega
        have H45 : Hid (x.toNat = 45) := h45
        clear h45
        go_wp2
        go_round
        case rel =>
          refine ⟨k + 1, by omega, by go_num, fun j y hj hy => ?_⟩
          rcases Nat.lt_or_ge j k with hjk | hjk
          · exact HK.out j y hjk hy
          · obtain rfl : j = k := by omega
            obtain rfl := Option.some.inj (HX.out.symm.trans hy)
            exact HN.out.2 (Or.inr (Or.inr H45.out))
        case measure => simp [intOf]; omega
      · have e45 : ((x.toNat : Int) == 45) = false := by simp; omega
        have H45 : Hid (x.toNat ≠ 45) := h45
        clear h45
        go_wp2
        all_goals
          first
          | (go_round
             case rel =>
               refine ⟨k + 1, by omega, by go_num, fun j y hj hy => ?_⟩
               rcases Nat.lt_or_ge j k with hjk | hjk
               · exact HK.out j y hjk hy
               · obtain rfl : j = k := by omega
                 obtain rfl := Option.some.inj (HX.out.symm.trans hy)
                 exact HN.out.2 (by omega)
             case measure => simp [intOf]; omega)
          | (go_ret
             have e : nameOk s.data.toList = false := nameOk_bad HX.out (fun h => by have := HN.out.1 h; have := H45.out; omega)
             exact ⟨by rw [e]; rfl, rfl⟩)
          | (exfalso
             rename_i hz
             simp only [Bool.not_eq_eq_eq_not, Bool.not_false, decide_eq_true_eq] at hz
             omega)
    · obtain rfl : k = s.size := by omega
      have HALL : Hid (∀ (j : Nat) x, s.data.toList[j]? = some x → nameB x = true) := fun j x hx => HK.out j x (by have := (List.getElem?_eq_some_iff.1 hx).1; have := HL.out; omega) hx
      by_cases h1 : 1 ≤ (s.size : Int)
      · by_cases h2 : (s.size : Int) ≤ 12
        · go_wp2
          go_ret
          have e : nameOk s.data.toList = true := nameOk_all (by have := HL.out; omega) (by have := HL.out; omega) HALL.out
          exact ⟨by rw [e]; rfl, rfl⟩
        · go_wp2
          go_ret
          have e : nameOk s.data.toList = false := nameOk_size (by have := HL.out; omega)
          exact ⟨by rw [e]; rfl, rfl⟩
      · go_wp2
        go_ret
        have e : nameOk s.data.toList = false := nameOk_size (by have := HL.out; omega)
        exact ⟨by rw [e]; rfl, rfl⟩
def wthJ (n lo hi : Int) : Bool := decide (lo ≤ n) && decide (n ≤ hi)
theorem rwithin_any (n lo hi : Int) (w : World) : Calls Tryz.prog 31 #[.int .i64 n, .int .i64 lo, .int .i64 hi] w fun e w' => e = .returned (.bool (wthJ n lo hi)) ∧ w' = w := by
  by_cases h1 : lo ≤ n
  · by_cases h2 : n ≤ hi
    · go_enter Tryz.func31, Tryz.ntmps31
      go_wp2
      go_ret
      exact ⟨by simp [wthJ, h1, h2], rfl⟩
    · go_enter Tryz.func31, Tryz.ntmps31
      go_wp2
      go_ret
      exact ⟨by simp [wthJ, h1, h2], rfl⟩
  · go_enter Tryz.func31, Tryz.ntmps31
    go_wp2
    go_ret
    exact ⟨by simp [wthJ]; omega, rfl⟩
theorem infoString : (Tryz.prog.info? 9).map (fun i => (i.zero, i.size, i.bytes)) = some (some (.string ⟨#[]⟩), 1, 16) := by kernel_rfl
theorem join_one (x sep : List UInt8) : Lib.join [x] sep = x := by simp [Lib.join]
set_option maxRecDepth 100000 in
set_option maxHeartbeats 2000000 in
theorem rtold_any (n : Int) (b : Nat) (w : World) (hc : w.cell? ⟨b, 0, none⟩ = some (.int .i64 n)) (h0 : -9223372036854775808 ≤ n) (h1 : n ≤ 9223372036854775807) (hT : Tab w) :
    Calls Tryz.prog 45 #[.slice (some ⟨b, 0, none⟩) 1 1] w fun e w' => e = .returned (.string ⟨(Lib.itoa n).toArray⟩) ∧ Below w.heap.size w w' := by
  have HIT := jitoa_any n h0 h1 w hT
  have hl := itoa_len n h0 h1
  obtain ⟨i0, hi, hz0, hz1, hz2⟩ := info3 infoString
  generalize Lib.itoa n = it at *
  have HJN : Hid (∀ (g c : Nat) (wr : World), (wr.cell? ⟨g, 0, none⟩ = some (.string ⟨it.toArray⟩)) → 1 ≤ c → Calls Tryz.prog 60 #[.slice (some ⟨g, 0, none⟩) 1 c, .string ⟨#[32]⟩] wr fun e w' => e = .returned (.string ⟨it.toArray⟩) ∧ Below wr.heap.size wr w') := by
    intro g c wr hcell hcap
    have := Tryz.strings_Join g 0 c [⟨it.toArray⟩] ⟨#[32]⟩ wr (fun j x hj => by
      match j, hj with
      | 0, hj => simp at hj; subst hj; exact hcell) (World.block_lt_of_cell? wr _ hcell) (by simp) (by simpa using hcap) (by
        have e : Lib.join ([(⟨it.toArray⟩ : ByteArray)].map (·.data.toList)) (⟨#[32]⟩ : ByteArray).data.toList = it := by simp [Lib.join]
        rw [e]; omega)
    have e : Lib.join ([(⟨it.toArray⟩ : ByteArray)].map (·.data.toList)) (⟨#[32]⟩ : ByteArray).data.toList = it := by simp [Lib.join]
    rw [e] at this
    exact this
  clear h0 h1 hT
  go_enter Tryz.func45, Tryz.ntmps45
  go_wp2
  refine wp_loop_rounds 2 ?_
  rw [rounds_succ]
  go_wp2_with fail
  refine HIT.mono ?_
  rintro e w2 ⟨rfl, hb2⟩
  have HB2 : Hid (Below w.heap.size w w2) := hb2
  clear HIT
  go_wp2_with (at_builtin; refine wpList_append_own _ rfl _ _ 22 rfl w.heap.size 9 i0 (.string ⟨#[]⟩) 1 16 Tryz.underlying22 hi hz0 hz1 hz2 rfl (by decide) _ _ _ rfl (World.ownsRow_nil _ _ _ _) ⟨w2.heap.size, 0, none⟩ 1 1 [.string ⟨it.toArray⟩] rfl rfl ?c1 ?c2 ?c3 ?c4 ?c5 ?_)
  case c1 => exact news_of (new_block w2 (.cells #[.string ⟨it.toArray⟩] 9))
  case c2 => intro u hu; simp at hu; subst hu; rfl
  case c3 => unfold maxLen; omega
  case c4 => omega
  case c5 => have := HB2.out.size; simp; omega
  intro v' w3 hown hg _
  have hb3 : Below w.heap.size w w3 := (below_alloc_ HB2.out (.cells #[.string ⟨it.toArray⟩] 9)).grown hg (below_alloc_ HB2.out (.cells #[.string ⟨it.toArray⟩] 9)).size (fun k hk => by simp [Value.ownBlock] at hk)
  rcases hown.2 with ⟨_, h0⟩ | ⟨g, cap, cur, rfl, hg0, hg1, hg2, _⟩
  · omega
  have hcell : w3.cell? ⟨g, 0, none⟩ = some (.string ⟨it.toArray⟩) := by
    rcases owns_cells hown with ⟨_, h0⟩ | ⟨g', c', e, hcs⟩
    · omega
    · simp only [Value.slice.injEq, Option.some.injEq, Addr.mk.injEq, and_true, true_and] at e
      obtain ⟨rfl, rfl⟩ := e
      exact hcs 0 _ rfl
  have HJ := HJN.out g cap w3 hcell (by omega)
  have HB3 : Hid (Below w.heap.size w w3) := hb3
  clear hown hg hb3 hg1 hcell
  go_wp2
  rw [rounds_succ]
  go_wp2_with fail
  refine HJ.mono ?_
  rintro e w4 ⟨rfl, hb4⟩
  go_wp2
  go_ret
  exact ⟨rfl, HB3.out.trans (hb4.mono HB3.out.size)⟩
end Go.Proofs.YtheadpemckoljaaGreatDoor
