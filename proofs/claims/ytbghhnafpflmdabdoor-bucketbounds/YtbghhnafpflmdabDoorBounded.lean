/-
  millracekeep.bounded: of packets' times and bytes it tells whether in any row of them there are no more bytes than the room and what the rate fills meanwhile; nothing that was there before is otherwise. Conditions: at most 100 packets that may be, a bucket that may be.
-/
import Derived.Test.YtbghhnafpflmdabDoorBk2
namespace Go.Proofs.YtbghhnafpflmdabDoor
open Go.RowKit Go.Extern.Stop Go.Stop Go.Extern

/-- Times, bytes in memory. -/
def Tms (w : World) (g : Nat) (L : List It) : Prop := ∀ (j : Nat) (x : It), L[j]? = some x → w.cell? ⟨g, j, none⟩ = some (.int .i64 x.a)
def Bys (w : World) (g : Nat) (L : List It) : Prop := ∀ (j : Nat) (x : It), L[j]? = some x → w.cell? ⟨g, j, none⟩ = some (.int .i64 x.l)
def Okay (L : List It) : Prop := ∀ (j : Nat) (x : It), L[j]? = some x → 0 ≤ x.a ∧ x.a ≤ 1000000000 ∧ 1 ≤ x.l ∧ x.l ≤ 10000
theorem sumL_bounds {L : List It} (hL : Okay L) (i : Nat) : ∀ k, k ≤ L.length → 0 ≤ sumL L i k ∧ sumL L i k ≤ 10000 * k := by
  intro k
  induction k with
  | zero => intro _; simp [sumL]
  | succ k ih =>
    intro hk
    have h := ih (by omega)
    obtain ⟨x, hx⟩ : ∃ x, L[k]? = some x := ⟨_, List.getElem?_eq_getElem (by omega)⟩
    have h2 := hL k x hx
    simp only [sumL, hx]
    split <;> omega
/-- The row from i to k is within its bounds. -/
def rowOk (n t R : Int) (L : List It) (i k : Nat) : Prop := ∀ (x y : It), L[i]? = some x → L[k]? = some y → sumL L i (k + 1) * t ≤ R * t + (y.a - x.a) * n

set_option maxRecDepth 20000 in
set_option maxHeartbeats 2000000 in
theorem bounded_any (n t R : Int) (ga capa gb capb : Nat) (L : List It) (w : World) (h : okB n t R) (hO : Okay L) (h100 : L.length ≤ 100) (ha : Tms w ga L) (hb : Bys w gb L) :
    Calls Tryd.prog 10 #[.agg #[.int .i64 n, .int .i64 t, .int .i64 R], .slice (some ⟨ga, 0, none⟩) L.length capa, .slice (some ⟨gb, 0, none⟩) L.length capb] w fun e w' => ∃ r : Bool, e = .returned (.bool r) ∧ (r = true ↔ Bnd n t R L) ∧ Below w.heap.size w w' := by
  have HB : Hid (okB n t R) := h
  have HO : Hid (Okay L) := hO
  have HA : Hid (Tms w ga L) := ha
  have HBY : Hid (Bys w gb L) := hb
  obtain ⟨hr0, hr1⟩ := h.room
  have HC : Hid ((1 ≤ n ∧ n ≤ 1000000) ∧ 1 ≤ t ∧ t ≤ 1000000) := ⟨h.1, h.2.1⟩
  clear h hO ha hb
  generalize hn : L.length = m at *
  have HM : Hid (L.length = m) := hn
  clear hn
  have hB0 : Below w.heap.size w (w.alloc (.cells #[.int .i64 n, .int .i64 t, .int .i64 R] 25)) := (Below.refl _ _).alloc (Nat.le_refl _) _
  have c0 : (w.alloc (.cells #[.int .i64 n, .int .i64 t, .int .i64 R] 25)).cell? ⟨w.heap.size, 0, none⟩ = some (.int .i64 n) := by simp
  have c1 : (w.alloc (.cells #[.int .i64 n, .int .i64 t, .int .i64 R] 25)).cell? ⟨w.heap.size, 1, none⟩ = some (.int .i64 t) := by simp
  have c2 : (w.alloc (.cells #[.int .i64 n, .int .i64 t, .int .i64 R] 25)).cell? ⟨w.heap.size, 2, none⟩ = some (.int .i64 R) := by simp
  have HK : Hid (∀ (j : Nat) (x : It), L[j]? = some x → (w.alloc (.cells #[.int .i64 n, .int .i64 t, .int .i64 R] 25)).cell? ⟨ga, j, none⟩ = some (.int .i64 x.a) ∧ (w.alloc (.cells #[.int .i64 n, .int .i64 t, .int .i64 R] 25)).cell? ⟨gb, j, none⟩ = some (.int .i64 x.l)) := by
    intro j x hx
    have h1 := HA.out j x hx
    have h2 := HBY.out j x hx
    exact ⟨by rw [World.cell?_alloc_lt _ _ ⟨ga, j, none⟩ (lt_of_cell h1)]; exact h1, by rw [World.cell?_alloc_lt _ _ ⟨gb, j, none⟩ (lt_of_cell h2)]; exact h2⟩
  go_enter Tryd.func10, Tryd.ntmps10
  go_wp2
  generalize w.alloc (.cells #[.int .i64 n, .int .i64 t, .int .i64 R] 25) = W at *
  go_loopw [7] (fun i wr => ∃ k : Nat, k ≤ m ∧ i = .int .i64 k ∧ (∀ i' j, i' < k → i' ≤ j → j < m → rowOk n t R L i' j) ∧ ∃ q, wr = W.drewN q) (fun i _ => m - (intOf i).toNat)
  case atStart => exact ⟨0, Nat.zero_le _, rfl, fun i' j h => absurd h (Nat.not_lt_zero _), 0, rfl⟩
  case round =>
    obtain ⟨i, hi, rfl, hok, q, rfl⟩ := hrel
    have HOK : Hid (∀ i' j, i' < i → i' ≤ j → j < m → rowOk n t R L i' j) := hok
    clear hok
    by_cases hlt : i < m
    · obtain ⟨x, hx⟩ : ∃ x, L[i]? = some x := ⟨_, List.getElem?_eq_getElem (by have := HM.out; omega)⟩
      have HX : Hid (L[i]? = some x) := hx
      have a0 := (HK.out i x hx).1
      have hxo := HO.out i x hx
      clear hx
      go_wp2
      go_loopw [8, 9] (fun s k wr => ∃ k' : Nat, i ≤ k' ∧ k' ≤ m ∧ k = .int .i64 k' ∧ s = .int .i64 (sumL L i k') ∧ (∀ j, i ≤ j → j < k' → rowOk n t R L i j) ∧ ∃ q, wr = W.drewN q) (fun _ k _ => m - (intOf k).toNat)
      case atStart => exact ⟨i, Nat.le_refl _, by omega, rfl, by rw [sumL_self], fun j h1 h2 => by omega, _, rfl⟩
      case round =>
        obtain ⟨k, hik, hk, rfl, rfl, hok, q, rfl⟩ := hrel
        have HOI : Hid (∀ j, i ≤ j → j < k → rowOk n t R L i j) := hok
        clear hok
        by_cases hlk : k < m
        · obtain ⟨y, hy⟩ : ∃ y, L[k]? = some y := ⟨_, List.getElem?_eq_getElem (by have := HM.out; omega)⟩
          have HY : Hid (L[k]? = some y) := hy
          obtain ⟨b0, b1⟩ := HK.out k y hy
          have hyo := HO.out k y hy
          have hsb := sumL_bounds HO.out i k (by have := HM.out; omega)
          have hs1 := sumL_succ (i := i) hy hik
          have HS1 : Hid (sumL L i (k + 1) = sumL L i k + y.l) := hs1
          have hT := HC.out
          have hp := prod_bounds (n := t) (R := sumL L i k + y.l) (a := 1000000) (b := 1010000) (by omega) hT.2.2 (by omega) (by omega)
          have hq1 : (y.a - x.a) * n ≤ 1000000000 * 1000000 := by
            by_cases hc : 0 ≤ y.a - x.a
            · exact (prod_bounds (n := n) (R := y.a - x.a) (a := 1000000) (b := 1000000000) (by omega) hT.1.2 hc (by omega)).2
            · have : 0 ≤ (x.a - y.a) * n := Int.mul_nonneg (by omega) (by omega)
              have e : (y.a - x.a) * n = - ((x.a - y.a) * n) := by rw [← Int.neg_mul]; congr 1; omega
              omega
          have hq0 : -(1000000000 * 1000000) ≤ (y.a - x.a) * n := by
            by_cases hc : 0 ≤ x.a - y.a
            · have h1 := (prod_bounds (n := n) (R := x.a - y.a) (a := 1000000) (b := 1000000000) (by omega) hT.1.2 hc (by omega)).2
              have e : (y.a - x.a) * n = - ((x.a - y.a) * n) := by rw [← Int.neg_mul]; congr 1; omega
              omega
            · have : 0 ≤ (y.a - x.a) * n := Int.mul_nonneg (by omega) (by omega)
              omega
          obtain ⟨hp0, hp1⟩ := hp
          clear hy hs1 hT
          generalize hS : sumL L i k = sm at *
          by_cases hcmp : (sm + y.l) * t ≤ R * t + (y.a - x.a) * n
          · have HCMP : Hid ((sm + y.l) * t ≤ R * t + (y.a - x.a) * n) := hcmp
            go_wp2
            go_quiet (fail)
            go_wp2
            go_roundw
            case rel =>
              refine ⟨k + 1, by omega, by omega, by go_num, by rw [HS1.out], ?_, _, rfl⟩
              intro j h1 h2
              by_cases hjk : j < k
              · exact HOI.out j h1 hjk
              · obtain rfl : j = k := by omega
                intro x' y' hx' hy'
                have e1 := HX.out
                have e2 := HY.out
                rw [hx'] at e1
                rw [hy'] at e2
                obtain rfl := Option.some.inj e1
                obtain rfl := Option.some.inj e2
                rw [HS1.out]; exact HCMP.out
            case measure => simp [intOf]; omega
          · have HCMP : Hid (R * t + (y.a - x.a) * n < (sm + y.l) * t) := Int.not_le.1 hcmp
            go_wp2
            go_quiet (fail)
            go_wp2
            go_ret
            refine ⟨false, rfl, ⟨fun h => by simp at h, fun hB => ?_⟩, below_drewN (below_drewN hB0 _) _⟩
            exfalso
            have := hB i k x y hik HX.out HY.out
            rw [HS1.out] at this
            have := HCMP.out
            omega
        · go_wp2
          go_roundw
          case rel =>
            refine ⟨i + 1, by omega, by go_num, ?_, _, rfl⟩
            intro i' j h1 h2 h3
            by_cases hj : i' < i
            · exact HOK.out i' j hj h2 h3
            · obtain rfl : i' = i := by omega
              exact HOI.out j h2 (by omega)
          case measure => simp [intOf]; omega
    · go_wp2
      go_ret
      refine ⟨true, rfl, ⟨fun _ => ?_, fun _ => rfl⟩, below_drewN hB0 _⟩
      intro i' k x y hik hx hy
      have hk : k < m := by have := (List.getElem?_eq_some_iff.1 hy).1; have := HM.out; omega
      exact HOK.out i' k (by omega) hik hk x y hx hy
end Go.Proofs.YtbghhnafpflmdabDoor
