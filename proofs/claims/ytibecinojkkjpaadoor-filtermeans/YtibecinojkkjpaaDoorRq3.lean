/-
  The reference's Meant: not. Conditions: the filter lies in memory. Written by wip/mkrq1.py.
-/
import Derived.Test.YtibecinojkkjpaaDoorRq1
namespace Go.Proofs.YtibecinojkkjpaaDoor
open Go.RowKit Go.Extern.Stop Go.Stop Go.Extern

set_option maxRecDepth 100000 in
set_option maxHeartbeats 4000000 in
theorem rm_not (x : It) (b f : Nat) (hf : f < 5) (lo hi : Int) (sl : Value) (w1 : World) (hb : w1.heap[b]? = some (.cells #[.string ⟨#[110, 111, 116]⟩, .int .i64 f, .int .i64 lo, .int .i64 hi, sl] 65 (0, 0))) {r : Bool} {k g off cap : Nat} (hs : sl = .slice (some ⟨g, off, none⟩) 1 cap) (hk : w1.cell? ⟨g, off, none⟩ = some (.pointer (some ⟨k, 0, none⟩))) (hc : ∀ w2, Below w1.heap.size w1 w2 → Calls Tryd.prog 7 #[.pointer (some ⟨k, 0, none⟩), .agg #[.int .i64 x.a, .int .i64 x.l, .int .i64 x.f, .int .i64 x.b, .int .i64 x.m]] w2 fun e w' => e = .returned (.bool r) ∧ Below w2.heap.size w2 w') :
    Calls Tryd.prog 7 #[.pointer (some ⟨b, 0, none⟩), .agg #[.int .i64 x.a, .int .i64 x.l, .int .i64 x.f, .int .i64 x.b, .int .i64 x.m]] w1 fun e w' => e = .returned (.bool (!r)) ∧ Below w1.heap.size w1 w' := by
  have hcc := fld_cell x hf (w1.alloc (.cells #[.int .i64 x.a, .int .i64 x.l, .int .i64 x.f, .int .i64 x.b, .int .i64 x.m] 23)) (w1.heap.size + 1) 3 (by simp)
  generalize fld x f = q at *
  obtain ⟨xa, xl, xf, xb, xm⟩ := x
  simp only at hcc ⊢
  have HC : Hid (∀ w2, Below w1.heap.size w1 w2 → Calls Tryd.prog 7 #[.pointer (some ⟨k, 0, none⟩), .agg #[.int .i64 xa, .int .i64 xl, .int .i64 xf, .int .i64 xb, .int .i64 xm]] w2 fun e w' => e = .returned (.bool r) ∧ Below w2.heap.size w2 w') := hc
  subst hs
  have HK : Hid (w1.cell? ⟨g, off, none⟩ = some (.pointer (some ⟨k, 0, none⟩)) ∧ g < w1.heap.size) := ⟨hk, cell_lt1 hk⟩
  clear hc hk
  obtain ⟨c0, c1, c2, c3, c4⟩ := cells5 hb
  have hbl : b < w1.heap.size := lt_of_block hb
  have hf1 : (f : Int) < 5 := by omega
  go_enter Tryd.func7, Tryd.ntmps7
  go_upto_region 1 with (fail)
  go_cut [5] (fun v wx => v = .int .i64 q ∧ Below (w1.alloc (.cells #[.int .i64 xa, .int .i64 xl, .int .i64 xf, .int .i64 xb, .int .i64 xm] 23)).heap.size (w1.alloc (.cells #[.int .i64 xa, .int .i64 xl, .int .i64 xf, .int .i64 xb, .int .i64 xm] 23)) wx)
  case first =>
    go_wp2
    go_region
    all_goals go_wp2
    all_goals
      go_meet
      case rel =>
        refine ⟨rfl, ?_⟩
        repeat' (first | with_reducible exact Below.refl _ _ | with_reducible refine Below.drew ?_ | with_reducible refine below_alloc_ ?_ _)
  case rest =>
  obtain ⟨rfl, hbe0⟩ := hcut
  have hbA : Below w1.heap.size w1 (w1.alloc (.cells #[.int .i64 xa, .int .i64 xl, .int .i64 xf, .int .i64 xb, .int .i64 xm] 23)) := below_alloc_ (Below.refl _ _) _
  have hbe := hbA.trans (hbe0.mono hbA.size)
  have hbw := (hbe.block b hbl).trans hb
  have kx := (hbe0.block w1.heap.size (by simp)).trans (new_block w1 (.cells #[.int .i64 xa, .int .i64 xl, .int .i64 xf, .int .i64 xb, .int .i64 xm] 23))
  obtain ⟨e0, e1, e2, e3, e4⟩ := cells5 hbw
  clear hcc hbe0 hbA c0 c1 c2 c3 c4
  have HKB : Hid (w1.heap.size < wc.heap.size) := lt_of_block kx
  have HOC : Hid (∀ w', Below wc.heap.size wc w' → Calls Tryd.prog 7 #[.pointer (some ⟨k, 0, none⟩), .agg #[.int .i64 xa, .int .i64 xl, .int .i64 xf, .int .i64 xb, .int .i64 xm]] w' fun e w'' => e = .returned (.bool r) ∧ Below wc.heap.size wc w'') := fun w' hb => (HC.out w' (hbe.trans (hb.mono hbe.size))).mono fun e w'' ⟨h1, h2⟩ => ⟨h1, hb.trans (h2.mono hb.size)⟩
  have HSC : Hid (∀ w', Below wc.heap.size wc w' → w'.cell? ⟨b, 4, none⟩ = some (.slice (some ⟨g, off, none⟩) 1 cap) ∧ w'.cell? ⟨g, off, none⟩ = some (.pointer (some ⟨k, 0, none⟩)) ∧ w'.cell? ⟨w1.heap.size, 0, none⟩ = some (.int .i64 xa) ∧ w'.cell? ⟨w1.heap.size, 1, none⟩ = some (.int .i64 xl) ∧ w'.cell? ⟨w1.heap.size, 2, none⟩ = some (.int .i64 xf) ∧ w'.cell? ⟨w1.heap.size, 3, none⟩ = some (.int .i64 xb) ∧ w'.cell? ⟨w1.heap.size, 4, none⟩ = some (.int .i64 xm) ∧ Below wc.heap.size wc w') := by
    intro w' hb
    obtain ⟨_, _, _, _, q4⟩ := cells5 ((hb.block b (lt_of_block hbw)).trans hbw)
    obtain ⟨x0, x1, x2, x3, x4⟩ := cells5 ((hb.block w1.heap.size (lt_of_block kx)).trans kx)
    have hbb := hbe.trans (hb.mono hbe.size)
    exact ⟨q4, (hbb.cell (p := ⟨g, off, none⟩) HK.out.2).trans HK.out.1, x0, x1, x2, x3, x4, hb⟩
  have HE : Hid (∀ w', Below wc.heap.size wc w' → Below w1.heap.size w1 w') := fun w' hb => hbe.trans (hb.mono hbe.size)
  clear e1 e2 e3 e4 hbw kx HC hbe
  go_wp2_with fail
  go_region_held3 (fun w' => w'.cell? ⟨b, 4, none⟩ = some (.slice (some ⟨g, off, none⟩) 1 cap) ∧ w'.cell? ⟨g, off, none⟩ = some (.pointer (some ⟨k, 0, none⟩)) ∧ w'.cell? ⟨w1.heap.size, 0, none⟩ = some (.int .i64 xa) ∧ w'.cell? ⟨w1.heap.size, 1, none⟩ = some (.int .i64 xl) ∧ w'.cell? ⟨w1.heap.size, 2, none⟩ = some (.int .i64 xf) ∧ w'.cell? ⟨w1.heap.size, 3, none⟩ = some (.int .i64 xb) ∧ w'.cell? ⟨w1.heap.size, 4, none⟩ = some (.int .i64 xm) ∧ Below wc.heap.size wc w') ((refine HSC.out _ ?_; first | exact (Below.refl _ _).drew | assumption | exact Below.refl _ _)) ((go_at_call 7; refine (HOC.out _ (by first | exact (Below.refl _ _).drew | assumption | exact Below.refl _ _)).mono ?_; rintro e w' ⟨rfl, hbb⟩))
  go_wp2
  go_ret
  exact ⟨rfl, HE.out _ hbb⟩
end Go.Proofs.YtibecinojkkjpaaDoor
