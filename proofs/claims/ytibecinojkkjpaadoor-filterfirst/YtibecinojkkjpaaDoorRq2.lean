/-
  The reference's Meant: the bits of a number. Conditions: the filter lies in memory. Written by wip/mkrq1.py.
-/
import Derived.Test.YtibecinojkkjpaaDoorRq1
namespace Go.Proofs.YtibecinojkkjpaaDoor
open Go.RowKit Go.Extern.Stop Go.Stop Go.Extern

theorem has_quo (n p : Nat) (hn : n ≤ 1000000000) : (wrap64 ((n : Int) / (p : Int))).tmod 2 = ((n / p % 2 : Nat) : Int) := by
  have e : wrap64 ((n : Int) / (p : Int)) = ((n / p : Nat) : Int) := by
    rw [show (n : Int) / (p : Int) = ((n / p : Nat) : Int) from rfl]
    have := Nat.div_le_self n p
    generalize n / p = z at *
    unfold wrap64
    omega
  rw [e]; rfl
/-- So far all bits of n are bits of q: p is the next one's number. -/
def PwR (q : Int) (n p g : Nat) : Prop := ∃ j, p = 2 ^ j ∧ j + g = 31 ∧ HasTo q n j
theorem PwR.pos {q : Int} {n p g : Nat} (h : PwR q n p g) : 0 < p := by
  obtain ⟨j, rfl, _, _⟩ := h
  exact Nat.two_pow_pos j
theorem PwR.fin {q : Int} {n p g : Nat} (h : PwR q n p g) (hn : n ≤ 1000000000) (hp : n < p) : (bandI q n == (n : Int)) = true := by
  obtain ⟨j, rfl, _, ht⟩ := h
  exact has_end hn ht hp
theorem PwR.no {q : Int} {n p g : Nat} (h : PwR q n p g) (hn : n ≤ 1000000000) (hp : p ≤ n) (h1 : n / p % 2 = 1) (h2 : bits .and .i64 q (p : Int) = 0) : (bandI q n == (n : Int)) = false := by
  obtain ⟨j, rfl, _, ht⟩ := h
  exact has_not hn hp h1 h2
theorem PwR.next {q : Int} {n p g : Nat} (h : PwR q n p g) (hn : n ≤ 1000000000) (hp : p ≤ n) (h1 : n / p % 2 = 1 → ¬ bits .and .i64 q (p : Int) = 0) : PwR q n (p * 2) (g - 1) ∧ g - 1 < g := by
  obtain ⟨j, rfl, hg, ht⟩ := h
  have h3 := pow_le30 hp hn
  exact ⟨⟨j + 1, (Nat.pow_succ ..).symm, by omega, has_step (by omega) ht h1⟩, by omega⟩
set_option maxRecDepth 100000 in
set_option maxHeartbeats 4000000 in
theorem rm_has (x : It) (b f : Nat) (hf : f < 5) (n : Nat) (hn : n ≤ 1000000000) (hi : Int) (sl : Value) (w1 : World) (hb : w1.heap[b]? = some (.cells #[.string ⟨#[104, 97, 115]⟩, .int .i64 f, .int .i64 n, .int .i64 hi, sl] 65 (0, 0))) :
    Calls Tryd.prog 7 #[.pointer (some ⟨b, 0, none⟩), .agg #[.int .i64 x.a, .int .i64 x.l, .int .i64 x.f, .int .i64 x.b, .int .i64 x.m]] w1 fun e w' => e = .returned (.bool (bandI (fld x f) n == (n : Int))) ∧ Below w1.heap.size w1 w' := by
  have hcc := fld_cell x hf (w1.alloc (.cells #[.int .i64 x.a, .int .i64 x.l, .int .i64 x.f, .int .i64 x.b, .int .i64 x.m] 23)) (w1.heap.size + 1) 3 (by simp)
  generalize fld x f = q at *
  obtain ⟨xa, xl, xf, xb, xm⟩ := x
  simp only at hcc ⊢
  obtain ⟨c0, c1, c2, c3, c4⟩ := cells5 hb
  have hbl : b < w1.heap.size := lt_of_block hb
  have hf1 : (f : Int) < 5 := by omega
  go_enter Tryd.func7, Tryd.ntmps7
  go_upto_region 1 with (fail)
  go_cut [5] (fun v wx => v = .int .i64 q ∧ Below (w1.alloc (.cells #[.int .i64 xa, .int .i64 xl, .int .i64 xf, .int .i64 xb, .int .i64 xm] 23)).heap.size (w1.alloc (.cells #[.int .i64 xa, .int .i64 xl, .int .i64 xf, .int .i64 xb, .int .i64 xm] 23)) wx)
  case first =>
    go_wp2
    go_region
    all_goals go_wp2
    all_goals
      go_meet
      case rel =>
        refine ⟨rfl, ?_⟩
        repeat' (first | with_reducible exact Below.refl _ _ | with_reducible refine Below.drew ?_ | with_reducible refine below_alloc_ ?_ _)
  case rest =>
  obtain ⟨rfl, hbe0⟩ := hcut
  have hbA : Below w1.heap.size w1 (w1.alloc (.cells #[.int .i64 xa, .int .i64 xl, .int .i64 xf, .int .i64 xb, .int .i64 xm] 23)) := below_alloc_ (Below.refl _ _) _
  have hbe := hbA.trans (hbe0.mono hbA.size)
  have hbw := (hbe.block b hbl).trans hb
  have kx := (hbe0.block w1.heap.size (by simp)).trans (new_block w1 (.cells #[.int .i64 xa, .int .i64 xl, .int .i64 xf, .int .i64 xb, .int .i64 xm] 23))
  obtain ⟨e0, e1, e2, e3, e4⟩ := cells5 hbw
  clear hcc hbe0 hbA c0 c1 c2 c3 c4
  clear e0 e1 e2 e3 e4
  have HBE : Hid (Below w1.heap.size w1 wc) := hbe
  obtain ⟨e0, e1, e2, e3, e4⟩ := cells5 hbw
  clear hbe
  have HZ : Hid (PwR q n 1 31) := ⟨0, rfl, rfl, fun i hi => by omega⟩
  have HKB : Hid (wc.heap[b]? = some (.cells #[.string ⟨#[104, 97, 115]⟩, .int .i64 f, .int .i64 n, .int .i64 hi, sl] 65 (0, 0))) := hbw
  clear kx hbw hf hf1 hb
  go_wp2_with fail
  clear e0 e1 e2 e3 e4
  go_loopg [6] 31 (fun g v6 wy => ∃ p : Nat, v6 = .int .i64 p ∧ Hid (PwR q n p g) ∧ Below wc.heap.size wc wy)
  case atStart => exact ⟨1, rfl, HZ, Below.refl _ _⟩
  case round =>
    obtain ⟨p, rfl, HP, hbr⟩ := hrel
    have HBR2 : Hid (Below wc.heap.size wc wr) := hbr
    have HBR : Hid (Below w1.heap.size w1 wr) := HBE.out.trans (hbr.mono HBE.out.size)
    obtain ⟨e0, e1, e2, e3, e4⟩ := cells5 ((hbr.block b (lt_of_block HKB.out)).trans HKB.out)
    have hpos := HP.out.pos
    clear hbr
    by_cases h1 : p ≤ n
    · have d1 : decide ((p : Int) ≤ (n : Int)) = true := by simp; omega
      have hpn : ¬ (p : Int) = 0 := by omega
      have hq := has_quo n p hn
      by_cases h2 : n / p % 2 = 1
      · have b2 : (wrap64 ((n : Int) / (p : Int))).tmod 2 = 1 := by rw [hq, h2]; rfl
        clear hq
        by_cases h3 : bits .and .i64 q (p : Int) = 0
        · have HR := HP.out.no hn h1 h2 h3
          go_wp2
          go_ret
          exact ⟨by rw [HR]; rfl, HBR.out⟩
        · have HN : Hid (PwR q n (p * 2) (gk - 1) ∧ gk - 1 < gk) := HP.out.next hn h1 (fun _ => h3)
          go_wp2
          go_roundg (gk - 1)
          case measure => exact HN.out.2
          case rel => exact ⟨p * 2, by go_num, HN.out.1, HBR2.out⟩
      · have b2 : ((wrap64 ((n : Int) / (p : Int))).tmod 2 == 1) = false := by rw [hq]; simp; omega
        clear hq
        have HN : Hid (PwR q n (p * 2) (gk - 1) ∧ gk - 1 < gk) := HP.out.next hn h1 (fun h => absurd h h2)
        go_wp2
        go_roundg (gk - 1)
        case measure => exact HN.out.2
        case rel => exact ⟨p * 2, by go_num, HN.out.1, HBR2.out⟩
    · have d1 : decide ((p : Int) ≤ (n : Int)) = false := by simp; omega
      have HR := HP.out.fin hn (by omega)
      go_wp2
      go_ret
      exact ⟨by rw [HR]; rfl, HBR.out⟩
end Go.Proofs.YtibecinojkkjpaaDoor
