/-
  The law ItemParses, walked: any text is read, or refused with the place, as the reference tells. Conditions: what strconv, bytealg and millraceref.Fine lay is laid; errors.errorType holds its handle.
-/
import Derived.Test.YtcdcplocpdmjaaaDoorIp8
namespace Go.Proofs.YtcdcplocpdmjaaaDoor
open Go.RowKit Go.Shelf Go.Extern.Stop Go.Stop Go.Extern

theorem same_nil (x y : Option Addr) (c d : Nat) (w : World) : Calls Tryd.prog 8 #[.slice x 0 c, .slice y 0 d] w fun e w' => e = .returned (.bool true) ∧ Below w.heap.size w w' := by
  go_enter Tryd.func8, Tryd.ntmps8
  go_wp2
  refine wp_loop_rounds 1 ?_
  rw [rounds_succ]
  go_wp2
  go_ret
  exact ⟨rfl, Below.refl _ _⟩
set_option maxHeartbeats 2000000 in
theorem same_some (a o b q c d : Nat) (xs : List It) (w : World) (h1 : Items w a o xs) (h2 : Items w b q xs) (hm : xs.length ≤ 20001) : Calls Tryd.prog 8 #[.slice (some ⟨a, o, none⟩) xs.length c, .slice (some ⟨b, q, none⟩) xs.length d] w fun e w' => e = .returned (.bool true) ∧ Below w.heap.size w w' := by
  have H1 : Hid (Items w a o xs) := h1
  have H2 : Hid (Items w b q xs) := h2
  clear h1 h2
  go_enter Tryd.func8, Tryd.ntmps8
  go_wp2
  go_loopg [5] xs.length (fun g v5 wx => ∃ i : Nat, i + g = xs.length ∧ v5 = .int .i64 i ∧ Hid (Below w.heap.size w wx))
  case atStart => exact ⟨0, by omega, rfl, Below.refl _ _⟩
  case round =>
    obtain ⟨i, hig, rfl, HB⟩ := hrel
    by_cases hi : i < xs.length
    · obtain ⟨x, hx⟩ : ∃ x, xs[i]? = some x := ⟨_, List.getElem?_eq_getElem hi⟩
      obtain ⟨c0, c1, c2, c3, c4⟩ := (H1.out.below HB.out) i x hx
      obtain ⟨e0, e1, e2, e3, e4⟩ := (H2.out.below HB.out) i x hx
      have hi1 : (i : Int) < xs.length := by omega
      clear hx
      go_wp2
      go_region
      all_goals go_wp2
      all_goals go_roundg (gk - 1)
      case measure => omega
      case rel => exact ⟨i + 1, by omega, by go_num, HB.out.drew⟩
    · obtain rfl : i = xs.length := by omega
      go_wp2
      go_ret
      exact ⟨rfl, HB.out⟩
end Go.Proofs.YtcdcplocpdmjaaaDoor
