/-
  millracebig: trim, words, twin, give, SetInt64, NewInt, Set, Neg: what each makes of numbers, and what stays. Conditions: each number lies in memory as millracebig lays it.
-/
import Derived.Test.YtebahbcmlhdleaaDoorBigNum
import Derived.Deep.RegionHeld3
namespace Go.Proofs.YtebahbcmlhdleaaDoor
open Go.RowKit

theorem trim_nil (x : Option Addr) (cap : Nat) (w : World) : Calls Tryd.prog 79 #[.slice x 0 cap] w fun e w' => e = .returned (.slice x 0 cap) ∧ w' = w := by
  go_enter Tryd.func79, Tryd.ntmps79
  go_wp2
  refine wp_loop_rounds 1 ?_
  rw [rounds_succ]
  go_wp2
  go_ret
  exact ⟨rfl, rfl⟩

set_option maxHeartbeats 1000000 in
theorem trim_some (b off cap : Nat) (ws : List Nat) (w : World) (hl : ws.length ≤ cap) (hm : cap ≤ maxLen) (hw : ∀ u ∈ ws, u < 4294967296) (hc : ∀ (i u : Nat), ws[i]? = some u → w.cell? ⟨b, off + i, none⟩ = some (.int .u32 (u : Int))) :
    Calls Tryd.prog 79 #[.slice (some ⟨b, off, none⟩) ws.length cap] w fun e w' => ∃ k, k ≤ ws.length ∧ e = .returned (.slice (some ⟨b, off, none⟩) k cap) ∧ (∀ i, k ≤ i → i < ws.length → ws[i]? = some 0) ∧ (∀ j, k = j + 1 → ws[j]? ≠ some 0) ∧ w' = w := by
  unfold maxLen at hm
  generalize hn : ws.length = n at *
  have HN : Hid (ws.length = n) := hn
  have HC : Hid (∀ (i u : Nat), ws[i]? = some u → w.cell? ⟨b, off + i, none⟩ = some (.int .u32 (u : Int))) := hc
  clear hn hc
  go_enter Tryd.func79, Tryd.ntmps79
  go_wp2
  go_loop [3] (fun t => ∃ k : Nat, k ≤ n ∧ t = .int .i64 k ∧ (∀ i, k ≤ i → i < n → ws[i]? = some 0)) (fun t => (intOf t).toNat)
  case atStart => exact ⟨n, Nat.le_refl _, rfl, fun i h1 h2 => absurd h2 (by omega)⟩
  case round =>
    obtain ⟨k, hk, rfl, hz⟩ := hrel
    have HZ : Hid (∀ i, k ≤ i → i < n → ws[i]? = some 0) := hz
    clear hz
    by_cases h0 : k = 0
    · have hd : decide (0 < k) = false := by simp; omega
      have HK0 : Hid (k = 0) := h0
      clear h0
      have hk1 : (k : Int) ≤ (cap : Int) := by omega
      go_wp2
      go_ret
      exact ⟨k, hk, rfl, HZ.out, fun j hj => absurd hj (by have := HK0.out; omega), rfl⟩
    · obtain ⟨k1, hk1⟩ : ∃ k1, k = k1 + 1 := ⟨k - 1, by omega⟩
      have HK1 : Hid (k = k1 + 1) := hk1
      obtain ⟨u, hu⟩ : ∃ u, ws[k1]? = some u := ⟨_, List.getElem?_eq_getElem (by have := HN.out; omega)⟩
      have HU : Hid (ws[k1]? = some u) := hu
      have d0 := HC.out k1 u hu
      have hu1 : u < 4294967296 := hw u (List.mem_of_getElem? hu)
      have hd : decide (0 < k) = true := by simp; omega
      have hk2 : (k1 : Int) < (n : Int) := by omega
      have hk3 : (k : Int) ≤ (cap : Int) := by omega
      have hwk : IntKind.i64.wrap ((k : Int) - 1) = (k1 : Int) := by
        rw [hk1, show (((k1 + 1 : Nat) : Int) - 1) = (k1 : Int) by omega]; rw [IntKind.wrap_i64]; omega
      clear hu hk1 h0
      by_cases hz : u = 0
      · have hq : ((u : Int) == 0) = true := by simp [hz]
        have HZ0 : Hid (u = 0) := hz
        clear hz
        go_wp2
        go_round
        case rel =>
          refine ⟨k1, by have := HK1.out; omega, by first | rfl | go_num, ?_⟩
          intro i h1 h2
          by_cases h3 : i = k1
          · subst h3; rw [HU.out, HZ0.out]
          · exact HZ.out i (by have := HK1.out; omega) h2
        case measure => simp [intOf]; have := HK1.out; omega
      · have hq : ((u : Int) == 0) = false := by simp; omega
        go_wp2
        go_ret
        refine ⟨k, hk, rfl, HZ.out, ?_, rfl⟩
        intro j hj
        have : j = k1 := by have := HK1.out; omega
        subst this
        rw [HU.out]
        intro h
        exact hz (Option.some.inj h)

/-- trim: the same number, its words without noughts at the end. -/
theorem trim_any {v : Value} {ws : List Nat} (w : World) (h : WordsAt w v ws) (hw : ∀ u ∈ ws, u < 4294967296) (hlen : ws.length ≤ 1000000) :
    Calls Tryd.prog 79 #[v] w fun e w' => ∃ v', e = .returned v' ∧ NatAt w v' (val ws) ∧ w' = w := by
  obtain ⟨x, cap, rfl, h1, h2, h3⟩ := h
  rcases h3 with rfl | ⟨b, off, rfl, h3⟩
  · refine (trim_nil x cap w).mono ?_
    rintro e w' ⟨rfl, rfl⟩
    exact ⟨_, rfl, ⟨[], ⟨x, cap, rfl, by simp, h2, Or.inl rfl⟩, canon_nil, rfl, by simp⟩, rfl⟩
  · refine (trim_some b off cap ws w h1 h2 hw h3).mono ?_
    rintro e w' ⟨k, hk, rfl, hz, hl, rfl⟩
    have hlk : (ws.take k).length = k := by rw [List.length_take]; omega
    refine ⟨_, rfl, ⟨ws.take k, ⟨some ⟨b, off, none⟩, cap, by rw [hlk], by omega, h2, Or.inr ⟨b, off, rfl, ?_⟩⟩, ⟨fun u hu => hw u (List.mem_of_mem_take hu), ?_⟩, val_le_take ws k hz, by omega⟩, rfl⟩
    · intro i u hu
      rw [List.getElem?_take] at hu
      split at hu
      · exact h3 i u hu
      · cases hu
    · rw [List.getLast?_eq_getElem?, hlk, List.getElem?_take]
      split
      · rename_i hlt
        exact hl (k - 1) (by omega)
      · intro h; cases h

theorem words_two (b : Nat) (w : World) (u v : Nat) (hc0 : w.cell? ⟨b, 0, none⟩ = some (.int .u32 (u : Int))) (hc1 : w.cell? ⟨b, 1, none⟩ = some (.int .u32 (v : Int))) : WordsAt w (.slice (some ⟨b, 0, none⟩) 2 2) [u, v] := by
  refine ⟨some ⟨b, 0, none⟩, 2, rfl, by simp, by decide, Or.inr ⟨b, 0, rfl, ?_⟩⟩
  intro i y hy
  match i, hy with
  | 0, hy => simp at hy; subst hy; exact hc0
  | 1, hy => simp at hy; subst hy; exact hc1

set_option maxHeartbeats 1000000 in
theorem words_any (x : Nat) (hx : x < 18446744073709551616) (w : World) : Calls Tryd.prog 80 #[.int .u64 (x : Int)] w fun e w' => ∃ v, e = .returned v ∧ NatAt w' v x ∧ Below w.heap.size w w' := by
  have hv : val [x % 4294967296, x / 4294967296] = x := by simp only [val]; omega
  have HV : Hid (val [x % 4294967296, x / 4294967296] = x) := hv
  clear hv
  have hW := words_two w.heap.size (w.alloc (.cells #[.int .u32 ((x % 4294967296 : Nat) : Int), .int .u32 ((x / 4294967296 : Nat) : Int)] 113)) (x % 4294967296) (x / 4294967296) (by simp) (by simp)
  have e1 : ((x % 4294967296 : Nat) : Int) = (x : Int) % 4294967296 := by omega
  have e2 : ((x / 4294967296 : Nat) : Int) = (x : Int) / 4294967296 := by omega
  rw [e1, e2] at hW
  have HW : Hid (WordsAt (w.alloc (.cells #[.int .u32 ((x : Int) % 4294967296), .int .u32 ((x : Int) / 4294967296)] 113)) (.slice (some ⟨w.heap.size, 0, none⟩) 2 2) [x % 4294967296, x / 4294967296]) := hW
  clear hW e1 e2
  go_enter Tryd.func80, Tryd.ntmps80
  go_wp2_with fail
  refine (trim_any _ HW.out (by intro u hu; simp at hu; omega) (by simp)).mono ?_
  rintro e w1 ⟨v, rfl, hn, rfl⟩
  have HNt : Hid (NatAt (w.alloc (.cells #[.int .u32 ((x : Int) % 4294967296), .int .u32 ((x : Int) / 4294967296)] 113)) v x) := by
    have := HV.out
    rw [this] at hn
    exact hn
  clear hn
  go_wp2
  go_ret
  exact ⟨_, rfl, HNt.out, (Below.refl _ _).alloc (Nat.le_refl _) _⟩

theorem infoU32 : ∃ i, Tryd.prog.info? 113 = some i ∧ i.zero = some (.int .u32 0) ∧ i.size = 1 ∧ i.bytes = 4 := by
  have h : (Tryd.prog.info? 113).map (fun i => (i.zero, i.size, i.bytes)) = some (some (.int .u32 0), 1, 4) := by kernel_rfl
  obtain ⟨i, hi, he⟩ := Option.map_eq_some_iff.1 h
  simp only [Prod.mk.injEq] at he
  exact ⟨i, hi, he.1, he.2.1, he.2.2⟩

theorem twin_nil (x : Option Addr) (cap : Nat) (w : World) : Calls Tryd.prog 69 #[.slice x 0 cap] w fun e w' => e = .returned (.slice none 0 0) ∧ w' = w := by
  rcases x with _ | a
  · go_enter Tryd.func69, Tryd.ntmps69
    go_wp2
    go_ret
    exact ⟨rfl, rfl⟩
  · go_enter Tryd.func69, Tryd.ntmps69
    go_wp2
    go_ret
    exact ⟨rfl, rfl⟩

set_option maxHeartbeats 1000000 in
set_option maxRecDepth 100000 in
theorem twin_some (b off cap : Nat) (ws : List Nat) (w : World) (h0 : 0 < ws.length) (hl : ws.length ≤ 1000000) (hc : ∀ (i u : Nat), ws[i]? = some u → w.cell? ⟨b, off + i, none⟩ = some (.int .u32 (u : Int))) :
    Calls Tryd.prog 69 #[.slice (some ⟨b, off, none⟩) ws.length cap] w fun e w' => ∃ v, e = .returned v ∧ WordsAt w' v ws ∧ Below w.heap.size w w' := by
  obtain ⟨i0, hi, hz0, hz1, hz2⟩ := infoU32
  have HC : Hid (∀ (i u : Nat), ws[i]? = some u → w.cell? ⟨b, off + i, none⟩ = some (.int .u32 (u : Int))) := hc
  have hnil : w.ownsRow w.heap.size 113 1 (.slice none 0 0) 0 [] := ⟨rfl, Or.inl ⟨rfl, rfl⟩⟩
  generalize hn : ws.length = n at *
  have HN : Hid (ws.length = n) := hn
  clear hc hn
  go_enter Tryd.func69, Tryd.ntmps69
  go_wp2_with (at_builtin; refine wpList_append_own _ rfl _ _ 73 rfl w.heap.size 113 i0 (.int .u32 0) 1 4 Tryd.underlying73 hi hz0 hz1 hz2 rfl (by decide) _ 0 [] rfl hnil ⟨b, off, none⟩ n cap (ws.map fun u : Nat => Value.int .u32 (u : Int)) rfl ?c0 ?c1 ?c2 ?c3 ?c4 ?c5 ?_)
  case c0 => rw [List.length_map, HN.out, Nat.mul_one]
  case c1 =>
    intro j u hj
    rw [List.getElem?_map] at hj
    obtain ⟨y, hy, rfl⟩ := Option.map_eq_some_iff.1 hj
    have := HC.out j y hy
    by_cases hj0 : j = 0
    · subst hj0; simpa [Addr.add] using this
    · simpa [Addr.add, hj0] using this
  case c2 =>
    intro u hu
    obtain ⟨y, _, rfl⟩ := List.mem_map.1 hu
    rfl
  case c3 => unfold maxLen; omega
  case c4 => omega
  case c5 => exact Nat.le_refl _
  intro v' w2 hown hgrow _
  have hb : Below w.heap.size w w2 := (Below.refl _ _).grown hgrow (Nat.le_refl _) (fun k hk => by cases hk)
  have HW : Hid (WordsAt w2 v' ws) := by
    have hown' : w2.ownsRow w.heap.size 113 1 v' ws.length (ws.map fun u : Nat => Value.int .u32 (u : Int)) := by rw [HN.out]; simpa using hown
    have hn0 : 0 < ws.length := by rw [HN.out]; exact h0
    obtain ⟨g, cap', cur, rfl, hg, hh, h1, h2, h3, h4⟩ : ∃ g cap' cur, v' = .slice (some ⟨g, 0, none⟩) ws.length cap' ∧ w.heap.size ≤ g ∧ w2.heap[g]? = some (.cells cur 113 (0, 0)) ∧ ws.length ≤ cap' ∧ cap' ≤ maxLen ∧ cur.size = cap' * 1 ∧ cur.toList.take (ws.length * 1) = ws.map fun u : Nat => Value.int .u32 (u : Int) := by
      rcases hown'.2 with ⟨_, h⟩ | h
      · omega
      · exact h
    refine ⟨_, _, rfl, h1, h2, Or.inr ⟨g, 0, rfl, ?_⟩⟩
    intro i u hu
    rw [Nat.zero_add]
    have := hown'.cellAt i (by have := (List.getElem?_eq_some_iff.1 hu).1; omega)
    rw [this, List.getElem?_map, hu]; rfl
  clear hown hgrow
  go_wp2
  go_ret
  exact ⟨_, rfl, HW.out, hb⟩

theorem len_of_val {ws : List Nat} (h : canon ws) {n : Nat} (hn : val ws < 18446744073709551616) (e : val ws = n) : ws.length ≤ 2 := by
  rcases canon_two h hn with ⟨rfl, _⟩ | ⟨u, rfl, _⟩ | ⟨u, v, rfl, _⟩ <;> simp
theorem twin_any {v : Value} {n : Nat} (w : World) (h : NatAt w v n) : Calls Tryd.prog 69 #[v] w fun e w' => ∃ v', e = .returned v' ∧ NatAt w' v' n ∧ Below w.heap.size w w' := by
  obtain ⟨ws, ⟨x, cap, rfl, h1, h2, h3⟩, hcn, hv, hl⟩ := h
  by_cases h0 : ws = []
  · subst h0
    refine (twin_nil x cap w).mono ?_
    rintro e w' ⟨rfl, rfl⟩
    exact ⟨_, rfl, ⟨[], ⟨none, 0, rfl, by simp, by decide, Or.inl rfl⟩, canon_nil, hv, by simp⟩, Below.refl _ _⟩
  · rcases h3 with h3 | ⟨b, off, rfl, h3⟩
    · exact absurd h3 h0
    · refine (twin_some b off cap ws w (List.length_pos_iff.2 h0) hl h3).mono ?_
      rintro e w' ⟨v', rfl, hw, hb⟩
      exact ⟨v', rfl, ⟨ws, hw, hcn, hv, hl⟩, hb⟩
end Go.Proofs.YtebahbcmlhdleaaDoor
