/-
  millracekeep.pick; lines of two rows; Serve with its lengths named. Conditions: as each says.
-/
import Derived.Test.YtiiekmjkgdcglaaCvOnce
import Derived.Deep.OwnRows
namespace Go.Proofs.Ytiiekmjkgdcglaa
open Go.RowKit Go.Extern.Stop Go.Stop Go.Extern

def pickN (a n : Int) : Int := (a % 18446744073709551616) % n
theorem pickN_bd (a n : Int) (h : 1 ≤ n) : 0 ≤ pickN a n ∧ pickN a n < n := ⟨Int.emod_nonneg _ (by omega), Int.emod_lt_of_pos _ (by omega)⟩
theorem pick_any (a m : Int) (w : World) (h0 : 1 ≤ m) (h1 : m ≤ 2000) : Calls Try.prog 19 #[.int .i64 a, .int .i64 m] w fun e w' => e = .returned (.int .i64 (pickN a m)) ∧ w' = w := by
  have hz : ¬ m = 0 := by omega
  have hu : IntKind.u64.wrap m = m := by rw [IntKind.wrap_u64]; omega
  have he : wrap64 ((IntKind.u64.wrap a).tmod m) = pickN a m := by
    unfold pickN
    rw [IntKind.wrap_u64, Int.tmod_eq_emod_of_nonneg (by omega)]
    have h1 := Int.emod_nonneg (a % 18446744073709551616) hz
    have h2 := Int.emod_lt_of_pos (a % 18446744073709551616) (by omega : (0 : Int) < m)
    generalize a % 18446744073709551616 % m = r at *
    unfold wrap64; omega
  have HE : Hid (wrap64 ((IntKind.u64.wrap a).tmod m) = pickN a m) := he
  clear he
  go_enter Try.func19, Try.ntmps19
  go_wp2
  go_ret
  refine ⟨?_, rfl⟩
  rw [← HE.out]; rfl

/-- Two of anything. -/
def duo {α : Type} (a b : α) : Nat → α
  | 0 => a
  | _ => b
theorem lines2 (w : World) (x0 x1 : Option Addr) (c0 c1 n0 n1 : Nat) (f0 f1 : Nat → Int) (h0 : Row w x0 n0 f0) (h1 : Row w x1 n1 f1) (m0 : n0 ≤ maxLen) (m1 : n1 ≤ maxLen) :
    Calls Try.prog 8 #[.int .i64 60, .slice (some ⟨w.heap.size, 0, none⟩) 2 2] (w.alloc (.cells #[.slice x0 n0 c0, .slice x1 n1 c1] 22)) fun e w' => (((lineOk n0 f0 ∧ lineOk n1 f1) ∧ e = .returned (.bool true)) ∨ (¬ (lineOk n0 f0 ∧ lineOk n1 f1) ∧ e = .returned (.bool false))) ∧ w' = w.alloc (.cells #[.slice x0 n0 c0, .slice x1 n1 c1] 22) := by
  have := lines_any w.heap.size 2 2 (duo x0 x1) (duo n0 n1) (duo c0 c1) (duo f0 f1) (w.alloc (.cells #[.slice x0 n0 c0, .slice x1 n1 c1] 22)) (by omega) ?_ ?_ ?_
  · have e : Lines 2 (duo n0 n1) (duo f0 f1) ↔ lineOk n0 f0 ∧ lineOk n1 f1 := by
      constructor
      · intro h; exact ⟨h 0 (by omega), h 1 (by omega)⟩
      · rintro ⟨h0, h1⟩ i hi
        match i, hi with
        | 0, _ => exact h0
        | 1, _ => exact h1
    rw [e] at this
    exact this
  · intro i hi
    match i, hi with
    | 0, _ => simp [duo]
    | 1, _ => simp [duo]
  · intro i hi
    match i, hi with
    | 0, _ => exact h0.alloc _
    | 1, _ => exact h1.alloc _
  · intro i hi
    match i, hi with
    | 0, _ => exact m0
    | 1, _ => exact m1

/-- Serve of what may come, its row named. -/
theorem serve_k (x y : Option Addr) (cx cy n m : Nat) (c g : Nat → Int) (w : World) (hx : Row w x n c) (hy : Row w y m g) (h : okC m g) (hle : n ≤ m) (ha : ∀ i, i < n → okAmt (c i)) (F : Nat → Int) (hF : ∀ t, t < n → conv (tot c) g t = F t) :
    Calls Try.prog 15 #[.slice x n cx, .slice y m cy] w fun e w' => ∃ s, e = .returned (.tuple #[.slice (some ⟨s, 0, none⟩) n n, .nilIface]) ∧ Row w' (some ⟨s, 0, none⟩) n F ∧ Below w.heap.size w w' := by
  refine (serve_any x y cx cy n m c g w hx hy h hle).mono ?_
  rintro e w' ⟨⟨_, s, rfl, hr⟩ | ⟨hz, _⟩, hb⟩
  · exact ⟨s, rfl, hr.congr hF, hb⟩
  · exact absurd ((fst0_zero n).2 fun i hi => amtE_zero.2 (ha i hi)) hz
/-- An own row holds ints. -/
def OwnI (w : World) (s n : Nat) (f : Nat → Int) : Prop := w.rowIs s 3 n (fun i => .int .i64 (f i))
theorem OwnI.row {w : World} {s n : Nat} {f : Nat → Int} (h : OwnI w s n f) : Row w (some ⟨s, 0, none⟩) n f := Or.inr ⟨s, 0, rfl, fun i hi => by rw [Nat.zero_add]; exact World.rowIs.cell h hi⟩
theorem OwnI.lt {w : World} {s n : Nat} {f : Nat → Int} (h : OwnI w s n f) : s < w.heap.size := World.rowIs.lt h
theorem OwnI.below {w w' : World} {s n : Nat} {f : Nat → Int} (h : OwnI w s n f) (hb : Below w.heap.size w w') : OwnI w' s n f := World.rowIs.of_block h (hb.block s h.lt)
theorem OwnI.kept {w w' : World} {s n : Nat} {f : Nat → Int} (h : OwnI w s n f) (hb : w'.heap[s]? = w.heap[s]?) : OwnI w' s n f := World.rowIs.of_block h hb
theorem OwnI.drewN {w : World} {s n : Nat} {f : Nat → Int} (h : OwnI w s n f) (q : Nat) : OwnI (w.drewN q) s n f := h
theorem OwnI.made (w : World) (n : Nat) : OwnI (w.alloc (.cells (madeCells #[.int .i64 0] n) 3)) w.heap.size n (fun _ => 0) := World.rowIs_made w (.int .i64 0) n 3
theorem OwnI.set {w : World} {s n : Nat} {f : Nat → Int} (h : OwnI w s n f) (i : Nat) (v : Int) {F : Nat → Int} (hF : ∀ j, j < n → F j = if j = i then v else f j) : OwnI (w.setCell ⟨s, i, none⟩ (.int .i64 v)) s n F := by
  refine (World.rowIs.set h i _).congr fun j hj => ?_
  rw [hF j hj]
  by_cases e : j = i
  · rw [if_pos e, if_pos e]
  · rw [if_neg e, if_neg e]
theorem OwnI.congr {w : World} {s n : Nat} {f F : Nat → Int} (h : OwnI w s n f) (hF : ∀ j, j < n → f j = F j) : OwnI w s n F := World.rowIs.congr h fun i hi => by rw [hF i hi]
theorem make_ints (n : Nat) (h : n ≤ 1000) (w : World) : (Instr.makeSlice 22 (.int .i64 (n : Int)) (.int .i64 (n : Int))).run Try.prog w = .ok (.slice (some ⟨w.heap.size, 0, none⟩) n n) (w.alloc (.cells (madeCells #[.int .i64 0] n) 3)) :=
  run_make_row' (P := Try.prog) 22 3 (.int .i64 0) 8 Try.underlying22 infoInt rfl .i64 .i64 n (by omega) (by omega) w
end Go.Proofs.Ytiiekmjkgdcglaa
