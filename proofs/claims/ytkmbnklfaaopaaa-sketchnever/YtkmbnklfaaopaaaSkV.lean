/-
  millracekeep.pick, many and the fact sketched(). Conditions: pairs lie in memory.
-/
import Derived.Test.YtkmbnklfaaopaaaSkU
namespace Go.Proofs.Ytkmbnklfaaopaaa
open Go.RowKit Go.Extern.Stop Go.Stop Go.Extern Go.Maps

def pickN (a n : Int) : Int := (a % 18446744073709551616) % n
theorem pickN_bd (a n : Int) (h : 1 ≤ n) : 0 ≤ pickN a n ∧ pickN a n < n := ⟨Int.emod_nonneg _ (by omega), Int.emod_lt_of_pos _ (by omega)⟩
theorem pick_any (a m : Int) (w : World) (h0 : 1 ≤ m) (h1 : m ≤ 2000) : Calls Try.prog 6 #[.int .i64 a, .int .i64 m] w fun e w' => e = .returned (.int .i64 (pickN a m)) ∧ w' = w := by
  have hz : ¬ m = 0 := by omega
  have hu : IntKind.u64.wrap m = m := by rw [IntKind.wrap_u64]; omega
  have he : wrap64 ((IntKind.u64.wrap a).tmod m) = pickN a m := by
    unfold pickN
    rw [IntKind.wrap_u64, Int.tmod_eq_emod_of_nonneg (by omega)]
    have h1 := Int.emod_nonneg (a % 18446744073709551616) hz
    have h2 := Int.emod_lt_of_pos (a % 18446744073709551616) (by omega : (0 : Int) < m)
    generalize a % 18446744073709551616 % m = r at *
    unfold wrap64; omega
  have HE : Hid (wrap64 ((IntKind.u64.wrap a).tmod m) = pickN a m) := he
  clear he
  go_enter Try.func6, Try.ntmps6
  go_wp2
  go_ret
  refine ⟨?_, rfl⟩
  rw [← HE.out]; rfl
theorem PrR.drewN {w : World} {x : Option Addr} {M : List (Int × Int)} (h : PrR w x M) (q : Nat) : PrR (w.drewN q) x M := h
theorem vl_drop {M : List (Int × Int)} {i : Nat} {p : Int × Int} (hp : M[i]? = some p) (x : Int) : vl (M.drop i) x = if p.1 = x then p.2 else vl (M.drop (i + 1)) x := by
  have hi := (List.getElem?_eq_some_iff.1 hp).1
  have e : M.drop i = p :: M.drop (i + 1) := by
    rw [List.drop_eq_getElem_cons hi]
    congr 1
    exact (List.getElem?_eq_some_iff.1 hp).2
  rw [e]
  unfold vl
  by_cases h : p.1 = x
  · rw [List.find?_cons_of_pos (by simpa using h), if_pos h]
  · rw [List.find?_cons_of_neg (by simpa using h), if_neg h]
set_option maxRecDepth 20000 in
set_option maxHeartbeats 2000000 in
theorem many_any (x : Option Addr) (cap : Nat) (M : List (Int × Int)) (key : Int) (w : World) (hx : PrR w x M) (hM : M.length ≤ 1000000) :
    Calls Try.prog 10 #[.slice x M.length cap, .int .i64 key] w fun e w' => e = .returned (.int .i64 (vl M key)) ∧ ∃ q, w' = w.drewN q := by
  have HX : Hid (PrR w x M) := hx
  clear hx
  go_enter Try.func10, Try.ntmps10
  go_wp2
  go_loopw [5] (fun i wr => ∃ k : Nat, k ≤ M.length ∧ i = .int .i64 k ∧ vl M key = vl (M.drop k) key ∧ ∃ q, wr = w.drewN q) (fun i _ => M.length - (intOf i).toNat)
  case atStart => exact ⟨0, Nat.zero_le _, rfl, rfl, 0, rfl⟩
  case round =>
    obtain ⟨k, hk, rfl, hv, q, rfl⟩ := hrel
    have HV : Hid (vl M key = vl (M.drop k) key) := hv
    clear hv
    by_cases hlt : k < M.length
    · obtain ⟨p, hp⟩ : ∃ p, M[k]? = some p := ⟨_, List.getElem?_eq_getElem hlt⟩
      obtain ⟨b, off, rfl, c0, c1⟩ := HX.out.at hp
      have hd := vl_drop hp key
      by_cases he : p.1 = key
      · have HR : Hid (vl M key = p.2) := by show vl M key = p.2; rw [HV.out, hd, if_pos he]
        have he2 : (p.1 == key) = true := by simpa using he
        clear hd he
        go_wp2
        go_ret
        exact ⟨by rw [HR.out]; rfl, _, rfl⟩
      · have HR : Hid (vl M key = vl (M.drop (k + 1)) key) := by show vl M key = _; rw [HV.out, hd, if_neg he]
        have he2 : (p.1 == key) = false := by simpa using he
        clear hd he
        go_wp2
        go_roundw
        case rel => exact ⟨k + 1, by omega, by go_num, HR.out, _, rfl⟩
        case measure => simp [intOf]; omega
    · obtain rfl : k = M.length := by omega
      have HR : Hid (vl M key = 0) := by show vl M key = 0; rw [HV.out, List.drop_eq_nil_of_le (Nat.le_refl _)]; rfl
      go_wp2
      go_ret
      exact ⟨by rw [HR.out]; rfl, _, rfl⟩
def fkt (i : Nat) : Int := if i < 2 then 4 else 5
theorem fkt_top : topN 1 fkt 3 = [(4, 1)] := by decide
theorem row_fkt (w : World) (t : TypeId) : Row (w.alloc (.cells #[.int .i64 4, .int .i64 4, .int .i64 5] t)) (some ⟨w.heap.size, 0, none⟩) 3 fkt :=
  Or.inr ⟨w.heap.size, 0, rfl, fun i hi => by
    match i, hi with
    | 0, _ => simp [fkt]
    | 1, _ => simp [fkt]
    | 2, _ => simp [fkt]⟩
set_option maxRecDepth 20000 in
set_option maxHeartbeats 2000000 in
theorem sketched_any (w : World) : Calls Try.prog 9 #[] w fun e w' => e = .returned (.bool true) ∧ Below w.heap.size w w' := by
  go_enter Try.func9, Try.ntmps9
  go_wp2_with fail
  refine (top_yes _ 3 3 fkt 1 _ (row_fkt w 3) (fun i _ => by unfold fkt I64; split <;> omega) (by omega) (by omega) (by omega)).mono ?_
  rintro e w' ⟨⟨x, cap, M, rfl, h1, h2, h3⟩, hb⟩
  rw [fkt_top] at h1
  obtain rfl : M = [(4, 1)] := List.perm_singleton.1 h1
  obtain ⟨b, off, rfl, c0, c1⟩ := h3.at (i := 0) rfl
  have HB : Hid (Below w.heap.size w w') := ((Below.refl _ _).alloc (Nat.le_refl _) _).trans (hb.mono (by simp))
  simp only [Nat.zero_mul, Nat.add_zero] at c0 c1
  clear h1 h2 h3 hb
  go_wp2
  go_ret
  exact ⟨rfl, HB.out⟩
end Go.Proofs.Ytkmbnklfaaopaaa
