/-
  millracelaw.LinkDelays: it returns true for all packets and logs; nothing that was there before is otherwise. Conditions: they lie in memory.
-/
import Derived.Test.YtgklojgflcekoaaLd1
namespace Go.Proofs.Ytgklojgflcekoaa
open Go.RowKit Go.Extern.Stop Go.Stop Go.Extern

set_option maxRecDepth 20000 in
set_option maxHeartbeats 2000000 in
theorem ldLaw_any (x : Option Addr) (cap n : Nat) (a : Nat → Int) (y : Option Addr) (ycap m : Nat) (s0 s1 s2 s3 : Nat → Int) (z : Option Addr) (zn zcap : Nat) (wt ms : Int) (w : World)
    (hx : ComeD w x n a) (hy : SentD w y m s0 s1 s2 s3) (hn0 : n ≤ maxLen) (hm0 : m ≤ maxLen) :
    Calls Try.prog 3 #[.slice x n cap, .agg #[.slice y m ycap, .slice z zn zcap, .int .i64 wt, .int .i64 ms]] w fun e w' => e = .returned (.bool true) ∧ Below w.heap.size w w' := by
  have HX : Hid (ComeD w x n a) := hx
  have HY : Hid (SentD w y m s0 s1 s2 s3) := hy
  clear hx hy
  unfold maxLen at hn0 hm0
  by_cases hn : 150 < n
  · go_enter Try.func3, Try.ntmps3
    go_wp2
    go_ret
    exact ⟨rfl, below_alloc_ (Below.refl _ _) _⟩
  by_cases hm : 150 < m
  · go_enter Try.func3, Try.ntmps3
    go_wp2
    go_ret
    exact ⟨rfl, below_alloc_ (Below.refl _ _) _⟩
  clear hn0 hm0
  go_enter Try.func3, Try.ntmps3
  go_wp2_with fail
  have HB0 : Hid (Below w.heap.size w (w.alloc (.cells #[.slice y m ycap, .slice z zn zcap, .int .i64 wt, .int .i64 ms] 26))) := below_alloc_ (Below.refl _ _) _
  have HC0 : Hid ((w.alloc (.cells #[.slice y m ycap, .slice z zn zcap, .int .i64 wt, .int .i64 ms] 26)).heap[w.heap.size]? = some (.cells #[.slice y m ycap, .slice z zn zcap, .int .i64 wt, .int .i64 ms] 26)) := new_block _ _
  have HS0 : Hid ((w.alloc (.cells #[.slice y m ycap, .slice z zn zcap, .int .i64 wt, .int .i64 ms] 26)).heap.size = w.heap.size + 1) := by show _ = _; simp
  generalize w.alloc (.cells #[.slice y m ycap, .slice z zn zcap, .int .i64 wt, .int .i64 ms] 26) = w0 at *
  refine (delays_any x cap n a y ycap m s0 s1 s2 s3 z zn zcap wt ms w0 (HX.out.below HB0.out) (HY.out.below HB0.out) (by omega) (by omega)).mono ?_
  rintro e w1 ⟨g, rfl, hg, hown, hb1⟩
  have HO : Hid (OwnD w1 g n (dlK a s0 s2 m)) := hown
  have HB1 : Hid (Below w.heap.size w w1) := HB0.out.trans (hb1.mono HB0.out.size)
  have c0 : w1.cell? ⟨w.heap.size, 0, none⟩ = some (.slice y m ycap) := by
    have h0 : w1.heap[w.heap.size]? = _ := (hb1.block w.heap.size (by have := HS0.out; omega)).trans HC0.out
    simp [World.cell?, h0]
  clear hown hb1
  go_wp2
  go_loopw [6] (fun i wr => ∃ k : Nat, k ≤ n ∧ i = .int .i64 k ∧ ∃ q, wr = w1.drewN q) (fun i _ => n - (intOf i).toNat)
  case atStart => exact ⟨0, Nat.zero_le _, rfl, 0, rfl⟩
  case round =>
    obtain ⟨k, hk, rfl, q, rfl⟩ := hrel
    by_cases hlt : k < n
    · obtain ⟨xb, xoff, rfl, hxl, hxc⟩ := (HX.out.below HB1.out).some hlt
      have e0 := hxc k hlt
      have HE0 : Hid (w1.cell? ⟨xb, xoff + k * 5, none⟩ = some (.int .i64 (a k))) := e0
      clear hxc
      go_wp2
      go_loopw [7, 8] (fun v i wr => ∃ j : Nat, j ≤ m ∧ i = .int .i64 j ∧ v = .int .i64 (dlK a s0 s2 j k) ∧ ∃ q, wr = w1.drewN q) (fun _ i _ => m - (intOf i).toNat)
      case atStart => exact ⟨0, Nat.zero_le _, rfl, rfl, q, rfl⟩
      case round =>
        obtain ⟨j, hj, rfl, rfl, q2, rfl⟩ := hrel
        by_cases hjm : j < m
        · obtain ⟨b, off, rfl, hbl, d0, d1, d2, d3⟩ := (HY.out.below HB1.out).some hjm
          have HD : Hid (dlK a s0 s2 (j + 1) k = if s0 j = (k : Int) then wrap64 (s2 j - a k) else dlK a s0 s2 j k) := rfl
          generalize s0 j = num at *
          generalize s1 j = frm at *
          generalize s2 j = too at *
          generalize s3 j = mrk at *
          generalize dlK a s0 s2 j k = old at *
          by_cases he : num = (k : Int)
          · have HD2 : Hid (dlK a s0 s2 (j + 1) k = wrap64 (too - a k)) := by have := HD.out; rw [if_pos he] at this; exact this
            clear HD
            generalize a k = ak at *
            have he2 : (num == (k : Int)) = true := by simpa using he
            clear he
            go_wp2
            go_quiet (fail)
            go_wp2
            go_roundw
            case rel => exact ⟨j + 1, by omega, by go_num, by rw [HD2.out], _, rfl⟩
            case measure => simp [intOf]; omega
          · have HD2 : Hid (dlK a s0 s2 (j + 1) k = old) := by have := HD.out; rw [if_neg he] at this; exact this
            have he2 : (num == (k : Int)) = false := by simpa using he
            clear HD he
            go_wp2
            go_roundw
            case rel => exact ⟨j + 1, by omega, by go_num, by rw [HD2.out], _, rfl⟩
            case measure => simp [intOf]; omega
        · obtain rfl : j = m := by omega
          have d0 : w1.cell? ⟨g, k, none⟩ = some (.int .i64 (dlK a s0 s2 j k)) := World.rowIs.cell HO.out (i := k) hlt
          generalize dlK a s0 s2 j k = vv at *
          go_wp2
          go_roundw
          case rel => exact ⟨k + 1, by omega, by go_num, _, rfl⟩
          case measure => simp [intOf]; omega
    · obtain rfl : k = n := by omega
      go_wp2
      go_ret
      exact ⟨rfl, drewD HB1.out _⟩
end Go.Proofs.Ytgklojgflcekoaa
