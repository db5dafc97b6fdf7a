/-
  Plain numbers as lists of 32-bit words, the least first; how they, and whole numbers with a sign, lie in memory (millracebig's Int); what stays where one of them is written. Nothing is claimed here by itself.
  millracebig: trim, words, twin, give, SetInt64, NewInt, Set, Neg: what each makes of numbers, and what stays. Conditions: each number lies in memory as millracebig lays it.
  millracebig: give, SetInt64, NewInt, Set, Neg of a whole number: what lies behind the call where it was made, and that all else stays. Conditions: as in Big1.
  millracebig: Set, Neg of a whole number: what lies behind the call, and that all else stays.
-/
import Derived.Test.YtnppmigncjakeaaGreatDoorErrs
import Derived.Deep.RegionHeld3
import Derived.Deep.RegionWith
namespace Go.Proofs.YtnppmigncjakeaaGreatDoor
open Go.RowKit

/-- The number that words tell. -/
def val : List Nat → Nat
  | [] => 0
  | u :: r => u + 4294967296 * val r
/-- Each word is one, and the last is not 0. -/
def canon (ws : List Nat) : Prop := (∀ u ∈ ws, u < 4294967296) ∧ ws.getLast? ≠ some 0

theorem val_append (a b : List Nat) : val (a ++ b) = val a + 4294967296 ^ a.length * val b := by
  induction a with
  | nil => simp [val]
  | cons u r ih => simp only [List.cons_append, val, ih, List.length_cons, Nat.pow_succ]; rw [Nat.mul_add, ← Nat.mul_assoc, Nat.mul_comm 4294967296 (4294967296 ^ r.length)]; omega
theorem val_zeros (n : Nat) : val (List.replicate n 0) = 0 := by
  induction n with
  | zero => rfl
  | succ n ih => simp [List.replicate_succ, val, ih]
theorem val_lt {ws : List Nat} (h : ∀ u ∈ ws, u < 4294967296) : val ws < 4294967296 ^ ws.length := by
  induction ws with
  | nil => simp [val]
  | cons u r ih =>
    have h1 := h u (by simp)
    have h2 := ih fun x hx => h x (by simp [hx])
    simp only [val, List.length_cons, Nat.pow_succ]
    have : 4294967296 * (val r + 1) ≤ 4294967296 * 4294967296 ^ r.length := Nat.mul_le_mul_left _ h2
    rw [Nat.mul_comm (4294967296 ^ r.length)]
    omega
theorem val_le_take (ws : List Nat) (k : Nat) (h : ∀ i, k ≤ i → i < ws.length → ws[i]? = some 0) : val (ws.take k) = val ws := by
  have hd : ws.drop k = List.replicate (ws.length - k) 0 := by
    apply List.ext_getElem?
    intro i
    rw [List.getElem?_drop, List.getElem?_replicate]
    split
    · exact h (k + i) (by omega) (by omega)
    · rw [List.getElem?_eq_none (by omega)]
  have hs : ws.take k ++ ws.drop k = ws := List.take_append_drop k ws
  have := val_append (ws.take k) (ws.drop k)
  rw [hs, hd, val_zeros] at this
  simpa using this.symm

theorem canon_nil : canon [] := ⟨by simp, by simp⟩
theorem canon_zero {ws : List Nat} (h : canon ws) (h0 : val ws = 0) : ws = [] := by
  induction ws with
  | nil => rfl
  | cons u r ih =>
    exfalso
    simp only [val] at h0
    have hu : u = 0 := by omega
    have hr : val r = 0 := by omega
    cases r with
    | nil => exact h.2 (by simp [hu])
    | cons x s =>
      have := ih ⟨fun y hy => h.1 y (by simp [hy]), by have := h.2; simpa using this⟩ hr
      cases this
/-- A number of at most two words. -/
theorem canon_two {ws : List Nat} (h : canon ws) (h2 : val ws < 18446744073709551616) :
    (ws = [] ∧ val ws = 0) ∨ (∃ u, ws = [u] ∧ 0 < u ∧ u < 4294967296 ∧ val ws = u) ∨ (∃ u v, ws = [u, v] ∧ u < 4294967296 ∧ 0 < v ∧ v < 4294967296 ∧ val ws = u + 4294967296 * v) := by
  match ws, h, h2 with
  | [], _, _ => exact Or.inl ⟨rfl, rfl⟩
  | [u], h, _ =>
    have h1 := h.1 u (by simp)
    have h0 : u ≠ 0 := by have := h.2; simpa using this
    exact Or.inr (Or.inl ⟨u, rfl, by omega, h1, by simp [val]⟩)
  | [u, v], h, _ =>
    have h1 := h.1 u (by simp)
    have h3 := h.1 v (by simp)
    have h0 : v ≠ 0 := by have := h.2; simpa using this
    exact Or.inr (Or.inr ⟨u, v, rfl, h1, by omega, h3, by simp [val]⟩)
  | u :: v :: x :: r, h, h2 =>
    exfalso
    have hx : val (x :: r) ≠ 0 := by
      intro h0
      have := canon_zero (ws := x :: r) ⟨fun y hy => h.1 y (List.mem_cons_of_mem _ (List.mem_cons_of_mem _ hy)), by have := h.2; simpa using this⟩ h0
      cases this
    simp only [val] at h2 hx
    omega

/-- Words lie in memory, as a slice. -/
def WordsAt (w : World) (v : Value) (ws : List Nat) : Prop :=
  ∃ x cap, v = .slice x ws.length cap ∧ ws.length ≤ cap ∧ cap ≤ maxLen ∧ (ws = [] ∨ ∃ b off, x = some ⟨b, off, none⟩ ∧ ∀ (i u : Nat), ws[i]? = some u → w.cell? ⟨b, off + i, none⟩ = some (.int .u32 (u : Int)))
/-- A number lies in memory, by its words. -/
def NatAt (w : World) (v : Value) (n : Nat) : Prop := ∃ ws, WordsAt w v ws ∧ canon ws ∧ val ws = n ∧ ws.length ≤ 1000000
/-- A whole number lies at an address (millracebig's Int). -/
def IntAt (w : World) (b o : Nat) (z : Int) : Prop := w.cell? ⟨b, o, none⟩ = some (.bool (decide (z < 0))) ∧ ∃ v, w.cell? ⟨b, o + 1, none⟩ = some v ∧ NatAt w v z.natAbs
/-- A variable of that type lies there, and may be written. -/
def Slot (w : World) (b o : Nat) : Prop := (∃ c, w.cell? ⟨b, o, none⟩ = some (.bool c)) ∧ (∃ x n c, w.cell? ⟨b, o + 1, none⟩ = some (.slice x n c)) ∧ w.frozen? ⟨b, o, none⟩ = false ∧ w.frozen? ⟨b, o + 1, none⟩ = false

/-- All is as it was but for the variable at this address, and for new blocks. -/
structure Upd (zb zo : Nat) (w w' : World) : Prop where
  os : w'.os = w.os
  tape : w'.tape = w.tape
  output : w'.output = w.output
  size : w.heap.size ≤ w'.heap.size
  block : ∀ k, k < w.heap.size → k ≠ zb → w'.heap[k]? = w.heap[k]?
  cell : ∀ b o, b < w.heap.size → ¬ (b = zb ∧ (o = zo ∨ o = zo + 1)) → w'.cell? ⟨b, o, none⟩ = w.cell? ⟨b, o, none⟩
  frozen : ∀ b o, b < w.heap.size → w'.frozen? ⟨b, o, none⟩ = w.frozen? ⟨b, o, none⟩

theorem Upd.of_below {zb zo : Nat} {w w' : World} (h : Below w.heap.size w w') : Upd zb zo w w' :=
  ⟨h.os, h.tape, h.output, h.size, fun k hk _ => h.block k hk, fun b o hb _ => h.cell (p := ⟨b, o, none⟩) hb, fun b o hb => h.frozen (p := ⟨b, o, none⟩) hb⟩
theorem Upd.trans {zb zo : Nat} {a b c : World} (h : Upd zb zo a b) (k : Upd zb zo b c) : Upd zb zo a c :=
  ⟨k.os.trans h.os, k.tape.trans h.tape, k.output.trans h.output, Nat.le_trans h.size k.size, fun i hi hn => (k.block i (Nat.lt_of_lt_of_le hi h.size) hn).trans (h.block i hi hn),
    fun i o hi hn => (k.cell i o (Nat.lt_of_lt_of_le hi h.size) hn).trans (h.cell i o hi hn), fun i o hi => (k.frozen i o (Nat.lt_of_lt_of_le hi h.size)).trans (h.frozen i o hi)⟩
/-- Where the variable is new, nothing that was there is otherwise. -/
theorem Upd.below {B zb zo : Nat} {w w' : World} (h : Upd zb zo w w') (hB : B ≤ zb) (hw : B ≤ w.heap.size) : Below B w w' :=
  ⟨h.os, h.tape, h.output, h.size, fun k hk => h.block k (by omega) (by omega)⟩

theorem WordsAt.cells {w w' : World} {v : Value} {ws : List Nat} (h : WordsAt w v ws) (hc : ∀ b o (u : Int), w.cell? ⟨b, o, none⟩ = some (.int .u32 u) → w'.cell? ⟨b, o, none⟩ = some (.int .u32 u)) : WordsAt w' v ws := by
  obtain ⟨x, cap, hv, h1, h2, h3⟩ := h
  refine ⟨x, cap, hv, h1, h2, ?_⟩
  rcases h3 with h3 | ⟨b, off, hx, h3⟩
  · exact Or.inl h3
  · exact Or.inr ⟨b, off, hx, fun i u hu => hc _ _ _ (h3 i u hu)⟩
theorem NatAt.cells {w w' : World} {v : Value} {n : Nat} (h : NatAt w v n) (hc : ∀ b o (u : Int), w.cell? ⟨b, o, none⟩ = some (.int .u32 u) → w'.cell? ⟨b, o, none⟩ = some (.int .u32 u)) : NatAt w' v n := by
  obtain ⟨ws, h1, h2⟩ := h
  exact ⟨ws, h1.cells hc, h2⟩
theorem NatAt.below {w w' : World} {v : Value} {n : Nat} (h : NatAt w v n) (hb : Below w.heap.size w w') : NatAt w' v n :=
  h.cells fun b o u hu => by rw [hb.cell (lt_of_cell hu)]; exact hu
theorem WordsAt.below {w w' : World} {v : Value} {ws : List Nat} (h : WordsAt w v ws) (hb : Below w.heap.size w w') : WordsAt w' v ws :=
  h.cells fun b o u hu => by rw [hb.cell (lt_of_cell hu)]; exact hu
theorem IntAt.below {w w' : World} {b o : Nat} {z : Int} (h : IntAt w b o z) (hb : Below w.heap.size w w') : IntAt w' b o z := by
  obtain ⟨h1, v, h2, h3⟩ := h
  exact ⟨by rw [hb.cell (lt_of_cell h1)]; exact h1, v, by rw [hb.cell (lt_of_cell h2)]; exact h2, h3.below hb⟩
theorem Slot.below {w w' : World} {b o : Nat} (h : Slot w b o) (hb : Below w.heap.size w w') : Slot w' b o := by
  obtain ⟨⟨c, h1⟩, ⟨x, n, k, h2⟩, h3, h4⟩ := h
  exact ⟨⟨c, by rw [hb.cell (lt_of_cell h1)]; exact h1⟩, ⟨x, n, k, by rw [hb.cell (lt_of_cell h2)]; exact h2⟩, by rw [hb.frozen (p := ⟨b, o, none⟩) (lt_of_cell h1)]; exact h3, by rw [hb.frozen (p := ⟨b, o + 1, none⟩) (lt_of_cell h2)]; exact h4⟩
/-- Words elsewhere stay: a variable's two cells hold no words. -/
theorem NatAt.upd {zb zo : Nat} {w w' : World} {v : Value} {n : Nat} (h : NatAt w v n) (hs : Slot w zb zo) (hu : Upd zb zo w w') : NatAt w' v n := by
  refine h.cells fun b o u hw => ?_
  obtain ⟨⟨c, h1⟩, ⟨x, m, k, h2⟩, _⟩ := hs
  rw [hu.cell b o (lt_of_cell hw) ?_]
  · exact hw
  · rintro ⟨rfl, rfl | rfl⟩
    · rw [h1] at hw; cases hw
    · rw [h2] at hw; cases hw
theorem IntAt.upd {zb zo b o : Nat} {w w' : World} {z : Int} (h : IntAt w b o z) (hs : Slot w zb zo) (hu : Upd zb zo w w') (hne : b ≠ zb ∨ (o ≠ zo ∧ o ≠ zo + 1 ∧ o + 1 ≠ zo)) : IntAt w' b o z := by
  obtain ⟨h1, v, h2, h3⟩ := h
  refine ⟨?_, v, ?_, h3.upd hs hu⟩
  · rw [hu.cell b o (lt_of_cell h1) (by omega)]; exact h1
  · rw [hu.cell b (o + 1) (lt_of_cell h2) (by omega)]; exact h2
theorem Slot.upd {zb zo b o : Nat} {w w' : World} (h : Slot w b o) (hu : Upd zb zo w w') (hne : b ≠ zb ∨ (o ≠ zo ∧ o ≠ zo + 1 ∧ o + 1 ≠ zo)) : Slot w' b o := by
  obtain ⟨⟨c, h1⟩, ⟨x, n, k, h2⟩, h3, h4⟩ := h
  exact ⟨⟨c, by rw [hu.cell b o (lt_of_cell h1) (by omega)]; exact h1⟩, ⟨x, n, k, by rw [hu.cell b (o + 1) (lt_of_cell h2) (by omega)]; exact h2⟩, by rw [hu.frozen b o (lt_of_cell h1)]; exact h3, by rw [hu.frozen b (o + 1) (lt_of_cell h2)]; exact h4⟩
end Go.Proofs.YtnppmigncjakeaaGreatDoor
namespace Go.Proofs.YtnppmigncjakeaaGreatDoor
open Go.RowKit

theorem trim_nil (x : Option Addr) (cap : Nat) (w : World) : Calls Tryz.prog 96 #[.slice x 0 cap] w fun e w' => e = .returned (.slice x 0 cap) ∧ w' = w := by
  go_enter Tryz.func96, Tryz.ntmps96
  go_wp2
  refine wp_loop_rounds 1 ?_
  rw [rounds_succ]
  go_wp2
  go_ret
  exact ⟨rfl, rfl⟩

set_option maxHeartbeats 1000000 in
theorem trim_some (b off cap : Nat) (ws : List Nat) (w : World) (hl : ws.length ≤ cap) (hm : cap ≤ maxLen) (hw : ∀ u ∈ ws, u < 4294967296) (hc : ∀ (i u : Nat), ws[i]? = some u → w.cell? ⟨b, off + i, none⟩ = some (.int .u32 (u : Int))) :
    Calls Tryz.prog 96 #[.slice (some ⟨b, off, none⟩) ws.length cap] w fun e w' => ∃ k, k ≤ ws.length ∧ e = .returned (.slice (some ⟨b, off, none⟩) k cap) ∧ (∀ i, k ≤ i → i < ws.length → ws[i]? = some 0) ∧ (∀ j, k = j + 1 → ws[j]? ≠ some 0) ∧ w' = w := by
  unfold maxLen at hm
  generalize hn : ws.length = n at *
  have HN : Hid (ws.length = n) := hn
  have HC : Hid (∀ (i u : Nat), ws[i]? = some u → w.cell? ⟨b, off + i, none⟩ = some (.int .u32 (u : Int))) := hc
  clear hn hc
  go_enter Tryz.func96, Tryz.ntmps96
  go_wp2
  go_loop [3] (fun t => ∃ k : Nat, k ≤ n ∧ t = .int .i64 k ∧ (∀ i, k ≤ i → i < n → ws[i]? = some 0)) (fun t => (intOf t).toNat)
  case atStart => exact ⟨n, Nat.le_refl _, rfl, fun i h1 h2 => absurd h2 (by omega)⟩
  case round =>
    obtain ⟨k, hk, rfl, hz⟩ := hrel
    have HZ : Hid (∀ i, k ≤ i → i < n → ws[i]? = some 0) := hz
    clear hz
    by_cases h0 : k = 0
    · have hd : decide (0 < k) = false := by simp; omega
      have HK0 : Hid (k = 0) := h0
      clear h0
      have hk1 : (k : Int) ≤ (cap : Int) := by omega
      go_wp2
      go_ret
      exact ⟨k, hk, rfl, HZ.out, fun j hj => absurd hj (by have := HK0.out; omega), rfl⟩
    · obtain ⟨k1, hk1⟩ : ∃ k1, k = k1 + 1 := ⟨k - 1, by omega⟩
      have HK1 : Hid (k = k1 + 1) := hk1
      obtain ⟨u, hu⟩ : ∃ u, ws[k1]? = some u := ⟨_, List.getElem?_eq_getElem (by have := HN.out; omega)⟩
      have HU : Hid (ws[k1]? = some u) := hu
      have d0 := HC.out k1 u hu
      have hu1 : u < 4294967296 := hw u (List.mem_of_getElem? hu)
      have hd : decide (0 < k) = true := by simp; omega
      have hk2 : (k1 : Int) < (n : Int) := by omega
      have hk3 : (k : Int) ≤ (cap : Int) := by omega
      have hwk : IntKind.i64.wrap ((k : Int) - 1) = (k1 : Int) := by
        rw [hk1, show (((k1 + 1 : Nat) : Int) - 1) = (k1 : Int) by omega]; rw [IntKind.wrap_i64]; omega
      clear hu hk1 h0
      by_cases hz : u = 0
      · have hq : ((u : Int) == 0) = true := by simp [hz]
        have HZ0 : Hid (u = 0) := hz
        clear hz
        go_wp2
        go_round
        case rel =>
          refine ⟨k1, by have := HK1.out; omega, by first | rfl | go_num, ?_⟩
          intro i h1 h2
          by_cases h3 : i = k1
          · subst h3; rw [HU.out, HZ0.out]
          · exact HZ.out i (by have := HK1.out; omega) h2
        case measure => simp [intOf]; have := HK1.out; omega
      · have hq : ((u : Int) == 0) = false := by simp; omega
        go_wp2
        go_ret
        refine ⟨k, hk, rfl, HZ.out, ?_, rfl⟩
        intro j hj
        have : j = k1 := by have := HK1.out; omega
        subst this
        rw [HU.out]
        intro h
        exact hz (Option.some.inj h)

/-- trim: the same number, its words without noughts at the end. -/
theorem trim_any {v : Value} {ws : List Nat} (w : World) (h : WordsAt w v ws) (hw : ∀ u ∈ ws, u < 4294967296) (hlen : ws.length ≤ 1000000) :
    Calls Tryz.prog 96 #[v] w fun e w' => ∃ v', e = .returned v' ∧ NatAt w v' (val ws) ∧ w' = w := by
  obtain ⟨x, cap, rfl, h1, h2, h3⟩ := h
  rcases h3 with rfl | ⟨b, off, rfl, h3⟩
  · refine (trim_nil x cap w).mono ?_
    rintro e w' ⟨rfl, rfl⟩
    exact ⟨_, rfl, ⟨[], ⟨x, cap, rfl, by simp, h2, Or.inl rfl⟩, canon_nil, rfl, by simp⟩, rfl⟩
  · refine (trim_some b off cap ws w h1 h2 hw h3).mono ?_
    rintro e w' ⟨k, hk, rfl, hz, hl, rfl⟩
    have hlk : (ws.take k).length = k := by rw [List.length_take]; omega
    refine ⟨_, rfl, ⟨ws.take k, ⟨some ⟨b, off, none⟩, cap, by rw [hlk], by omega, h2, Or.inr ⟨b, off, rfl, ?_⟩⟩, ⟨fun u hu => hw u (List.mem_of_mem_take hu), ?_⟩, val_le_take ws k hz, by omega⟩, rfl⟩
    · intro i u hu
      rw [List.getElem?_take] at hu
      split at hu
      · exact h3 i u hu
      · cases hu
    · rw [List.getLast?_eq_getElem?, hlk, List.getElem?_take]
      split
      · rename_i hlt
        exact hl (k - 1) (by omega)
      · intro h; cases h

theorem words_two (b : Nat) (w : World) (u v : Nat) (hc0 : w.cell? ⟨b, 0, none⟩ = some (.int .u32 (u : Int))) (hc1 : w.cell? ⟨b, 1, none⟩ = some (.int .u32 (v : Int))) : WordsAt w (.slice (some ⟨b, 0, none⟩) 2 2) [u, v] := by
  refine ⟨some ⟨b, 0, none⟩, 2, rfl, by simp, by decide, Or.inr ⟨b, 0, rfl, ?_⟩⟩
  intro i y hy
  match i, hy with
  | 0, hy => simp at hy; subst hy; exact hc0
  | 1, hy => simp at hy; subst hy; exact hc1

set_option maxHeartbeats 1000000 in
theorem words_any (x : Nat) (hx : x < 18446744073709551616) (w : World) : Calls Tryz.prog 105 #[.int .u64 (x : Int)] w fun e w' => ∃ v, e = .returned v ∧ NatAt w' v x ∧ Below w.heap.size w w' := by
  have hv : val [x % 4294967296, x / 4294967296] = x := by simp only [val]; omega
  have HV : Hid (val [x % 4294967296, x / 4294967296] = x) := hv
  clear hv
  have hW := words_two w.heap.size (w.alloc (.cells #[.int .u32 ((x % 4294967296 : Nat) : Int), .int .u32 ((x / 4294967296 : Nat) : Int)] 141)) (x % 4294967296) (x / 4294967296) (by simp) (by simp)
  have e1 : ((x % 4294967296 : Nat) : Int) = (x : Int) % 4294967296 := by omega
  have e2 : ((x / 4294967296 : Nat) : Int) = (x : Int) / 4294967296 := by omega
  rw [e1, e2] at hW
  have HW : Hid (WordsAt (w.alloc (.cells #[.int .u32 ((x : Int) % 4294967296), .int .u32 ((x : Int) / 4294967296)] 141)) (.slice (some ⟨w.heap.size, 0, none⟩) 2 2) [x % 4294967296, x / 4294967296]) := hW
  clear hW e1 e2
  go_enter Tryz.func105, Tryz.ntmps105
  go_wp2_with fail
  refine (trim_any _ HW.out (by intro u hu; simp at hu; omega) (by simp)).mono ?_
  rintro e w1 ⟨v, rfl, hn, rfl⟩
  have HNt : Hid (NatAt (w.alloc (.cells #[.int .u32 ((x : Int) % 4294967296), .int .u32 ((x : Int) / 4294967296)] 141)) v x) := by
    have := HV.out
    rw [this] at hn
    exact hn
  clear hn
  go_wp2
  go_ret
  exact ⟨_, rfl, HNt.out, (Below.refl _ _).alloc (Nat.le_refl _) _⟩

theorem infoU32 : ∃ i, Tryz.prog.info? 141 = some i ∧ i.zero = some (.int .u32 0) ∧ i.size = 1 ∧ i.bytes = 4 := by
  have h : (Tryz.prog.info? 141).map (fun i => (i.zero, i.size, i.bytes)) = some (some (.int .u32 0), 1, 4) := by kernel_rfl
  obtain ⟨i, hi, he⟩ := Option.map_eq_some_iff.1 h
  simp only [Prod.mk.injEq] at he
  exact ⟨i, hi, he.1, he.2.1, he.2.2⟩

theorem twin_nil (x : Option Addr) (cap : Nat) (w : World) : Calls Tryz.prog 102 #[.slice x 0 cap] w fun e w' => e = .returned (.slice none 0 0) ∧ w' = w := by
  rcases x with _ | a
  · go_enter Tryz.func102, Tryz.ntmps102
    go_wp2
    go_ret
    exact ⟨rfl, rfl⟩
  · go_enter Tryz.func102, Tryz.ntmps102
    go_wp2
    go_ret
    exact ⟨rfl, rfl⟩

set_option maxHeartbeats 1000000 in
set_option maxRecDepth 100000 in
theorem twin_some (b off cap : Nat) (ws : List Nat) (w : World) (h0 : 0 < ws.length) (hl : ws.length ≤ 1000000) (hc : ∀ (i u : Nat), ws[i]? = some u → w.cell? ⟨b, off + i, none⟩ = some (.int .u32 (u : Int))) :
    Calls Tryz.prog 102 #[.slice (some ⟨b, off, none⟩) ws.length cap] w fun e w' => ∃ v, e = .returned v ∧ WordsAt w' v ws ∧ Below w.heap.size w w' := by
  obtain ⟨i0, hi, hz0, hz1, hz2⟩ := infoU32
  have HC : Hid (∀ (i u : Nat), ws[i]? = some u → w.cell? ⟨b, off + i, none⟩ = some (.int .u32 (u : Int))) := hc
  have hnil : w.ownsRow w.heap.size 141 1 (.slice none 0 0) 0 [] := ⟨rfl, Or.inl ⟨rfl, rfl⟩⟩
  generalize hn : ws.length = n at *
  have HN : Hid (ws.length = n) := hn
  clear hc hn
  go_enter Tryz.func102, Tryz.ntmps102
  go_wp2_with (at_builtin; refine wpList_append_own _ rfl _ _ 100 rfl w.heap.size 141 i0 (.int .u32 0) 1 4 Tryz.underlying100 hi hz0 hz1 hz2 rfl (by decide) _ 0 [] rfl hnil ⟨b, off, none⟩ n cap (ws.map fun u : Nat => Value.int .u32 (u : Int)) rfl ?c0 ?c1 ?c2 ?c3 ?c4 ?c5 ?_)
  case c0 => rw [List.length_map, HN.out, Nat.mul_one]
  case c1 =>
    intro j u hj
    rw [List.getElem?_map] at hj
    obtain ⟨y, hy, rfl⟩ := Option.map_eq_some_iff.1 hj
    have := HC.out j y hy
    by_cases hj0 : j = 0
    · subst hj0; simpa [Addr.add] using this
    · simpa [Addr.add, hj0] using this
  case c2 =>
    intro u hu
    obtain ⟨y, _, rfl⟩ := List.mem_map.1 hu
    rfl
  case c3 => unfold maxLen; omega
  case c4 => omega
  case c5 => exact Nat.le_refl _
  intro v' w2 hown hgrow _
  have hb : Below w.heap.size w w2 := (Below.refl _ _).grown hgrow (Nat.le_refl _) (fun k hk => by cases hk)
  have HW : Hid (WordsAt w2 v' ws) := by
    have hown' : w2.ownsRow w.heap.size 141 1 v' ws.length (ws.map fun u : Nat => Value.int .u32 (u : Int)) := by rw [HN.out]; simpa using hown
    have hn0 : 0 < ws.length := by rw [HN.out]; exact h0
    obtain ⟨g, cap', cur, rfl, hg, hh, h1, h2, h3, h4⟩ : ∃ g cap' cur, v' = .slice (some ⟨g, 0, none⟩) ws.length cap' ∧ w.heap.size ≤ g ∧ w2.heap[g]? = some (.cells cur 141 (0, 0)) ∧ ws.length ≤ cap' ∧ cap' ≤ maxLen ∧ cur.size = cap' * 1 ∧ cur.toList.take (ws.length * 1) = ws.map fun u : Nat => Value.int .u32 (u : Int) := by
      rcases hown'.2 with ⟨_, h⟩ | h
      · omega
      · exact h
    refine ⟨_, _, rfl, h1, h2, Or.inr ⟨g, 0, rfl, ?_⟩⟩
    intro i u hu
    rw [Nat.zero_add]
    have := hown'.cellAt i (by have := (List.getElem?_eq_some_iff.1 hu).1; omega)
    rw [this, List.getElem?_map, hu]; rfl
  clear hown hgrow
  go_wp2
  go_ret
  exact ⟨_, rfl, HW.out, hb⟩

theorem len_of_val {ws : List Nat} (h : canon ws) {n : Nat} (hn : val ws < 18446744073709551616) (e : val ws = n) : ws.length ≤ 2 := by
  rcases canon_two h hn with ⟨rfl, _⟩ | ⟨u, rfl, _⟩ | ⟨u, v, rfl, _⟩ <;> simp
theorem twin_any {v : Value} {n : Nat} (w : World) (h : NatAt w v n) : Calls Tryz.prog 102 #[v] w fun e w' => ∃ v', e = .returned v' ∧ NatAt w' v' n ∧ Below w.heap.size w w' := by
  obtain ⟨ws, ⟨x, cap, rfl, h1, h2, h3⟩, hcn, hv, hl⟩ := h
  by_cases h0 : ws = []
  · subst h0
    refine (twin_nil x cap w).mono ?_
    rintro e w' ⟨rfl, rfl⟩
    exact ⟨_, rfl, ⟨[], ⟨none, 0, rfl, by simp, by decide, Or.inl rfl⟩, canon_nil, hv, by simp⟩, Below.refl _ _⟩
  · rcases h3 with h3 | ⟨b, off, rfl, h3⟩
    · exact absurd h3 h0
    · refine (twin_some b off cap ws w (List.length_pos_iff.2 h0) hl h3).mono ?_
      rintro e w' ⟨v', rfl, hw, hb⟩
      exact ⟨v', rfl, ⟨ws, hw, hcn, hv, hl⟩, hb⟩
end Go.Proofs.YtnppmigncjakeaaGreatDoor
namespace Go.Proofs.YtnppmigncjakeaaGreatDoor
open Go.RowKit

theorem NatAt.form {w : World} {v : Value} {n : Nat} (h : NatAt w v n) : ∃ x m c, v = .slice x m c ∧ m ≤ 1000000 ∧ (m = 0 ↔ n = 0) := by
  obtain ⟨ws, ⟨x, cap, rfl, _, _, _⟩, hc, hv, hl⟩ := h
  refine ⟨x, _, cap, rfl, hl, ?_⟩
  constructor
  · intro h0
    have : ws = [] := List.length_eq_zero_iff.1 h0
    subst this
    exact hv.symm
  · intro h0
    rw [canon_zero hc (by omega)]; rfl

/-- The two stores of give, and what they leave. -/
theorem give_upd {w : World} {b o : Nat} (hs : Slot w b o) (x : Option Addr) (m c : Nat) (q : Bool) : Upd b o w ((w.setCell ⟨b, o + 1, none⟩ (.slice x m c)).setCell ⟨b, o, none⟩ (.bool q)) := by
  obtain ⟨⟨_, h1⟩, ⟨_, _, _, h2⟩, _⟩ := hs
  refine ⟨rfl, rfl, rfl, by simp [World.setCell], ?_, ?_, ?_⟩
  · intro k hk hne
    rw [Below.heap_setCell _ _ _ _ (by simpa using hne), Below.heap_setCell _ _ _ _ (by simpa using hne)]
  · intro b' o' hb' hne
    rw [World.cell?_setCell_other, World.cell?_setCell_other]
    · intro h; apply hne; injection h with e1 e2; exact ⟨e1.symm, Or.inr e2.symm⟩
    · intro h; apply hne; injection h with e1 e2; exact ⟨e1.symm, Or.inl e2.symm⟩
  · intro b' o' _
    simp

set_option maxHeartbeats 1000000 in
theorem give_any (b o : Nat) (q : Bool) {v : Value} {n : Nat} (w : World) (hs : Slot w b o) (hn : NatAt w v n) :
    Calls Tryz.prog 77 #[.pointer (some ⟨b, o, none⟩), .bool q, v] w fun e w' => e = .returned (.pointer (some ⟨b, o, none⟩)) ∧ IntAt w' b o (if q then -(n : Int) else n) ∧ Slot w' b o ∧ Upd b o w w' := by
  obtain ⟨x, m, c, rfl, hm, hm0⟩ := hn.form
  have HN : Hid (NatAt w (.slice x m c) n) := hn
  have HS : Hid (Slot w b o) := hs
  obtain ⟨⟨q0, h1⟩, ⟨x0, n0, k0, h2⟩, h3, h4⟩ := hs
  have HM : Hid (m = 0 ↔ n = 0) := hm0
  clear hn hm0
  have hU := give_upd HS.out x m c (q && decide (0 < m))
  have HU : Hid (Upd b o w ((w.setCell ⟨b, o + 1, none⟩ (.slice x m c)).setCell ⟨b, o, none⟩ (.bool (q && decide (0 < m))))) := hU
  clear hU
  have hc : ∀ q', ((w.setCell ⟨b, o + 1, none⟩ (.slice x m c)).setCell ⟨b, o, none⟩ (.bool q')).cell? ⟨b, o, none⟩ = some (.bool q') ∧ ((w.setCell ⟨b, o + 1, none⟩ (.slice x m c)).setCell ⟨b, o, none⟩ (.bool q')).cell? ⟨b, o + 1, none⟩ = some (.slice x m c) := by
    intro q'
    constructor
    · exact World.cell?_setCell_same _ _ _ ((World.cell?_setCell_other w ⟨b, o + 1, none⟩ ⟨b, o, none⟩ (.slice x m c) (by intro h; injection h with e1 e2; omega)).trans h1)
    · exact (World.cell?_setCell_other (w.setCell ⟨b, o + 1, none⟩ (.slice x m c)) ⟨b, o, none⟩ ⟨b, o + 1, none⟩ (.bool q') (by intro h; injection h with e1 e2; omega)).trans (World.cell?_setCell_same _ _ _ h2)
  have HC : Hid (∀ q', ((w.setCell ⟨b, o + 1, none⟩ (.slice x m c)).setCell ⟨b, o, none⟩ (.bool q')).cell? ⟨b, o, none⟩ = some (.bool q') ∧ ((w.setCell ⟨b, o + 1, none⟩ (.slice x m c)).setCell ⟨b, o, none⟩ (.bool q')).cell? ⟨b, o + 1, none⟩ = some (.slice x m c)) := hc
  clear hc
  have HI : Hid (∀ (q' : Bool) (z : Int), decide (z < 0) = q' → z.natAbs = n → Upd b o w ((w.setCell ⟨b, o + 1, none⟩ (.slice x m c)).setCell ⟨b, o, none⟩ (.bool q')) → IntAt ((w.setCell ⟨b, o + 1, none⟩ (.slice x m c)).setCell ⟨b, o, none⟩ (.bool q')) b o z ∧ Slot ((w.setCell ⟨b, o + 1, none⟩ (.slice x m c)).setCell ⟨b, o, none⟩ (.bool q')) b o) := by
    intro q' z hz hn hU
    refine ⟨⟨by rw [(HC.out q').1, hz], _, (HC.out q').2, by rw [hn]; exact HN.out.upd HS.out hU⟩, ⟨⟨q', (HC.out q').1⟩, ⟨_, _, _, (HC.out q').2⟩, ?_, ?_⟩⟩
    · simpa using h3
    · simpa using h4
  cases q
  · go_enter Tryz.func77, Tryz.ntmps77
    go_wp2
    go_ret
    obtain ⟨k1, k2⟩ := HI.out false (n : Int) (by simp) (by simp) HU.out
    exact ⟨rfl, k1, k2, HU.out⟩
  · go_enter Tryz.func77, Tryz.ntmps77
    go_wp2
    go_ret
    obtain ⟨k1, k2⟩ := HI.out (decide (0 < m)) (-(n : Int)) (by have := HM.out; by_cases h : m = 0 <;> simp <;> omega) (by simp) HU.out
    exact ⟨rfl, k1, k2, HU.out⟩

set_option maxHeartbeats 1000000 in
theorem setInt64_any (b o : Nat) (z : Int) (hz : -9223372036854775808 ≤ z ∧ z ≤ 9223372036854775807) (w : World) (hs : Slot w b o) :
    Calls Tryz.prog 94 #[.pointer (some ⟨b, o, none⟩), .int .i64 z] w fun e w' => e = .returned (.pointer (some ⟨b, o, none⟩)) ∧ IntAt w' b o z ∧ Slot w' b o ∧ Upd b o w w' := by
  obtain ⟨hz1, hz2⟩ := hz
  have HS : Hid (Slot w b o) := hs
  clear hs
  by_cases hn : z < 0
  · obtain ⟨y, hy⟩ : ∃ y : Nat, z = -(y : Int) := ⟨z.natAbs, by omega⟩
    subst hy
    have hd : decide (-(y : Int) < 0) = true := by simp; omega
    have hu : IntKind.u64.wrap (-IntKind.u64.wrap (-(y : Int))) = (y : Int) := by rw [IntKind.wrap_u64, IntKind.wrap_u64]; omega
    go_enter Tryz.func94, Tryz.ntmps94
    go_wp2_with fail
    refine (words_any y (by omega) _).mono ?_
    rintro e w1 ⟨v, rfl, hv, hb⟩
    have HV : Hid (NatAt w1 v y) := hv
    obtain ⟨x, m, c, rfl, _, _⟩ := hv.form
    have HS1 : Hid (Slot w1 b o) := HS.out.below hb
    clear hv
    go_wp2_with fail
    refine (give_any b o true _ HS1.out HV.out).mono ?_
    rintro e w2 ⟨rfl, hi, hs, hu⟩
    have HI : Hid (IntAt w2 b o (-(y : Int))) := by
      have h : IntAt w2 b o (-(y : Int)) := by simpa using hi
      exact h
    clear hi
    go_wp2
    go_ret
    exact ⟨rfl, HI.out, hs, (Upd.of_below hb).trans hu⟩
  · obtain ⟨y, rfl⟩ : ∃ y : Nat, z = (y : Int) := ⟨z.toNat, by omega⟩
    have hd : decide ((y : Int) < 0) = false := by simp
    have hu : IntKind.u64.wrap (y : Int) = (y : Int) := by rw [IntKind.wrap_u64]; omega
    go_enter Tryz.func94, Tryz.ntmps94
    go_wp2_with fail
    refine (words_any y (by omega) _).mono ?_
    rintro e w1 ⟨v, rfl, hv, hb⟩
    have HV : Hid (NatAt w1 v y) := hv
    obtain ⟨x, m, c, rfl, _, _⟩ := hv.form
    have HS1 : Hid (Slot w1 b o) := HS.out.below hb
    clear hv
    go_wp2_with fail
    refine (give_any b o false _ HS1.out HV.out).mono ?_
    rintro e w2 ⟨rfl, hi, hs, hu⟩
    have HI : Hid (IntAt w2 b o (y : Int)) := by
      have h : IntAt w2 b o (y : Int) := by simpa using hi
      exact h
    clear hi
    go_wp2
    go_ret
    exact ⟨rfl, HI.out, hs, (Upd.of_below hb).trans hu⟩

/-- A new variable of that type. -/
theorem slot_new (w : World) : Slot (w.alloc (.cells #[.bool false, .slice none 0 0] 102)) w.heap.size 0 := ⟨⟨false, by simp⟩, ⟨none, 0, 0, by simp⟩, by simp, by simp⟩

set_option maxHeartbeats 1000000 in
theorem newInt_any (z : Int) (hz : -9223372036854775808 ≤ z ∧ z ≤ 9223372036854775807) (w : World) :
    Calls Tryz.prog 74 #[.int .i64 z] w fun e w' => ∃ b, e = .returned (.pointer (some ⟨b, 0, none⟩)) ∧ w.heap.size ≤ b ∧ IntAt w' b 0 z ∧ Slot w' b 0 ∧ Below w.heap.size w w' := by
  have HS : Hid (Slot (w.alloc (.cells #[.bool false, .slice none 0 0] 102)) w.heap.size 0) := slot_new w
  go_enter Tryz.func74, Tryz.ntmps74
  go_wp2_with fail
  refine (setInt64_any w.heap.size 0 z hz _ HS.out).mono ?_
  rintro e w1 ⟨rfl, hi, hs, hu⟩
  have HI : Hid (IntAt w1 w.heap.size 0 z ∧ Slot w1 w.heap.size 0) := ⟨hi, hs⟩
  clear hi hs
  go_wp2
  go_ret
  exact ⟨_, rfl, Nat.le_refl _, HI.out.1, HI.out.2, ((Below.refl _ _).alloc (Nat.le_refl _) _).trans (hu.below (Nat.le_refl _) (by simp))⟩
end Go.Proofs.YtnppmigncjakeaaGreatDoor
namespace Go.Proofs.YtnppmigncjakeaaGreatDoor
open Go.RowKit

set_option maxHeartbeats 2000000 in
theorem set_any (b o xb xo : Nat) (z : Int) (w : World) (hs : Slot w b o) (hx : IntAt w xb xo z) :
    Calls Tryz.prog 92 #[.pointer (some ⟨b, o, none⟩), .pointer (some ⟨xb, xo, none⟩)] w fun e w' => e = .returned (.pointer (some ⟨b, o, none⟩)) ∧ IntAt w' b o z ∧ Slot w' b o ∧ Upd b o w w' := by
  have HS : Hid (Slot w b o) := hs
  have HX : Hid (IntAt w xb xo z) := hx
  obtain ⟨c0, v, c1, hn⟩ := hx
  obtain ⟨x, m, c, rfl, _, _⟩ := hn.form
  have HN : Hid (NatAt w (.slice x m c) z.natAbs) := hn
  have hcb : ∀ w1, Below w.drew.heap.size w.drew w1 → w1.cell? ⟨xb, xo, none⟩ = some (.bool (decide (z < 0))) := fun w1 hb => (hb.cell (p := ⟨xb, xo, none⟩) (lt_of_cell c0)).trans c0
  clear hn hs
  go_enter Tryz.func92, Tryz.ntmps92
  go_wp2_with fail
  go_region_with (first | (go_at_call 102; refine (twin_any _ (by exact HN.out)).mono ?_; rintro e w1 ⟨v1, rfl, hv1, hb1⟩; have d0 := hcb w1 hb1) | (go_at_call 77; refine (give_any b o _ _ (by exact Slot.below (w := w.drew) HS.out hb1) (by exact hv1)).mono ?_; rintro e w2 ⟨rfl, hi2, hs2, hu2⟩))
  all_goals
    have HI : Hid (IntAt w2 b o z) := by
      have h : (if decide (z < 0) = true then -(z.natAbs : Int) else (z.natAbs : Int)) = z := by split <;> simp_all <;> omega
      rw [h] at hi2
      exact hi2
    have hbw : Below w.heap.size w w1 := ((Below.refl _ w).drew).trans hb1
    clear hi2 hcb d0 hv1 hb1 c0 c1
    go_wp2
    go_ret
    exact ⟨rfl, HI.out, hs2, (Upd.of_below hbw).trans hu2⟩

set_option maxHeartbeats 2000000 in
theorem neg_any (b o xb xo : Nat) (z : Int) (w : World) (hs : Slot w b o) (hx : IntAt w xb xo z) :
    Calls Tryz.prog 91 #[.pointer (some ⟨b, o, none⟩), .pointer (some ⟨xb, xo, none⟩)] w fun e w' => e = .returned (.pointer (some ⟨b, o, none⟩)) ∧ IntAt w' b o (-z) ∧ Slot w' b o ∧ Upd b o w w' := by
  have HS : Hid (Slot w b o) := hs
  have HX : Hid (IntAt w xb xo z) := hx
  obtain ⟨c0, v, c1, hn⟩ := hx
  obtain ⟨x, m, c, rfl, _, _⟩ := hn.form
  have HN : Hid (NatAt w (.slice x m c) z.natAbs) := hn
  have hcb : ∀ w1, Below w.drew.heap.size w.drew w1 → w1.cell? ⟨xb, xo, none⟩ = some (.bool (decide (z < 0))) := fun w1 hb => (hb.cell (p := ⟨xb, xo, none⟩) (lt_of_cell c0)).trans c0
  clear hn hs
  go_enter Tryz.func91, Tryz.ntmps91
  go_wp2_with fail
  go_region_with (first | (go_at_call 102; refine (twin_any _ (by exact HN.out)).mono ?_; rintro e w1 ⟨v1, rfl, hv1, hb1⟩; have d0 := hcb w1 hb1) | (go_at_call 77; refine (give_any b o _ _ (by exact Slot.below (w := w.drew) HS.out hb1) (by exact hv1)).mono ?_; rintro e w2 ⟨rfl, hi2, hs2, hu2⟩))
  all_goals
    have HI : Hid (IntAt w2 b o (-z)) := by
      have h : (if (!decide (z < 0)) = true then -(z.natAbs : Int) else (z.natAbs : Int)) = -z := by split <;> simp_all <;> omega
      have h2 : IntAt w2 b o (if (!decide (z < 0)) = true then -(z.natAbs : Int) else (z.natAbs : Int)) := by simpa using hi2
      rw [h] at h2
      exact h2
    have hbw : Below w.heap.size w w1 := ((Below.refl _ w).drew).trans hb1
    clear hi2 hcb d0 hv1 hb1 c0 c1
    go_wp2
    go_ret
    exact ⟨rfl, HI.out, hs2, (Upd.of_below hbw).trans hu2⟩
end Go.Proofs.YtnppmigncjakeaaGreatDoor
