/-
  millraceref.ListCheck tells of any packets the error and the place that the document tells; nothing that was there before is otherwise. Conditions: millraceref.Fine holds what the program's text lays; the packets lie in memory.
-/
import Derived.Test.YtcdcplocpdmjaaaDoorRef
import Derived.Test.YtcdcplocpdmjaaaDoorListA
namespace Go.Proofs.YtcdcplocpdmjaaaDoor
open Go.RowKit Go.Extern.Stop Go.Stop Go.Extern

/-- millraceref.Fine is laid. -/
def FineLaid (w : World) : Prop := w.cell? ⟨0, 0, none⟩ = some (.int .i64 0) ∧ w.cell? ⟨0, 1, none⟩ = some (.int .i64 (-1))
theorem cell_below {W w : World} {a : Addr} {v : Value} (hb : Below W.heap.size W w) (h : W.cell? a = some v) : w.cell? a = some v := by
  rw [hb.cell (lt_of_cell h)]; exact h
theorem FineLaid.below {w w' : World} (h : FineLaid w) (hb : Below w.heap.size w w') : FineLaid w' := ⟨cell_below hb h.1, cell_below hb h.2⟩

/-- The block in which the result lies, as it is made. -/
abbrev res0 (w : World) : World := w.alloc (.cells #[.int .i64 0, .int .i64 0] 25)

/-- Behind all: the result's two cells are stored. -/
theorem below_res {w wr : World} (hb : Below (w.heap.size + 1) (res0 w) wr) (x y : Value) : Below w.heap.size w ((wr.setCell ⟨w.heap.size, 0, none⟩ x).setCell ⟨w.heap.size, 1, none⟩ y) := by
  have h0 : Below w.heap.size w (res0 w) := (Below.refl _ _).alloc (Nat.le_refl _) _
  exact ((h0.trans (hb.mono (by omega))).setCell (Nat.le_refl _) _).setCell (Nat.le_refl _) _

theorem cell_kept {w : World} {a : Addr} {v : Value} (o : Obj) (h : w.cell? a = some v) : (w.alloc o).cell? a = some v := by
  rw [World.cell?_alloc_lt _ _ a (lt_of_cell h)]; exact h
theorem res_cells {wr : World} {h : Nat} {v0 v1 : Value} (r0 : wr.cell? ⟨h, 0, none⟩ = some v0) (r1 : wr.cell? ⟨h, 1, none⟩ = some v1) (x y : Value) (o : Obj) :
    ((((wr.setCell ⟨h, 0, none⟩ x).setCell ⟨h, 1, none⟩ y).alloc o).alloc o).cell? ⟨h, 0, none⟩ = some x ∧ ((((wr.setCell ⟨h, 0, none⟩ x).setCell ⟨h, 1, none⟩ y).alloc o).alloc o).cell? ⟨h, 1, none⟩ = some y := by
  refine ⟨cell_kept _ (cell_kept _ ?_), cell_kept _ (cell_kept _ ?_)⟩
  · simp [go_sem, r0]
  · simp [go_sem, r1]

theorem rlist_nil (x : Option Addr) (cap : Nat) (w : World) (hF : FineLaid w) : Calls Tryd.prog 15 #[.slice x 0 cap] w fun e w' => e = .returned (.agg #[.int .i64 0, .int .i64 (-1)]) ∧ Below w.heap.size w w' := by
  have hl : 0 < w.heap.size := lt_of_cell hF.1
  obtain ⟨f0, f1⟩ := hF
  go_enter Tryd.func15, Tryd.ntmps15
  go_wp2
  refine wp_loop_rounds 1 ?_
  rw [rounds_succ]
  go_wp2
  refine bodyPost_ret (v := .agg #[.int .i64 0, .int .i64 (-1)]) (by simp [results, Tryd.results15, go_sem]) rfl ⟨rfl, ?_⟩
  repeat' (first | exact Below.refl _ _ | refine Below.drew ?_ | refine Below.alloc ?_ ?_ _ | refine Below.setCell ?_ ?_ _)
  all_goals (simp <;> omega)

theorem rlist_long (x : Option Addr) (n cap : Nat) (w : World) (h : 100 < n) (hm : n ≤ maxLen) : Calls Tryd.prog 15 #[.slice x n cap] w fun e w' => e = .returned (.agg #[.int .i64 4, .int .i64 (-1)]) ∧ Below w.heap.size w w' := by
  unfold maxLen at hm
  go_enter Tryd.func15, Tryd.ntmps15
  go_wp2_with fail
  refine (bareOf _ _).mono ?_
  rintro e w1 ⟨rfl, hb⟩
  have c0 : w1.cell? ⟨w.heap.size, 0, none⟩ = some (.int .i64 0) := by rw [hb.cell (by simp)]; simp
  have c1 : w1.cell? ⟨w.heap.size, 1, none⟩ = some (.int .i64 0) := by rw [hb.cell (by simp)]; simp
  have z0 : w1.frozen? ⟨w.heap.size, 0, none⟩ = false := by rw [hb.frozen (by simp)]; simp
  have z1 : w1.frozen? ⟨w.heap.size, 1, none⟩ = false := by rw [hb.frozen (by simp)]; simp
  go_wp2
  refine bodyPost_ret (v := .agg #[.int .i64 4, .int .i64 (-1)]) (by simp [results, Tryd.results15, go_sem, c0, c1]) rfl ⟨rfl, ?_⟩
  exact below_res (hb.mono (by simp)) _ _

set_option maxHeartbeats 2000000 in
theorem rlist_some (b off cap : Nat) (xs : List It) (w : World) (hF : FineLaid w) (hI : Items w b off xs) (h0 : 0 < xs.length) (h1 : xs.length ≤ 100) :
    Calls Tryd.prog 15 #[.slice (some ⟨b, off, none⟩) xs.length cap] w fun e w' => e = .returned (.agg #[.int .i64 (listE xs).1, .int .i64 (listE xs).2]) ∧ Below w.heap.size w w' := by
  have hnl : ¬ 100 < xs.length := by omega
  generalize hn : xs.length = n at *
  have HN : Hid (xs.length = n) := hn
  clear hn
  have h00 : Below w.heap.size w (res0 w) := (Below.refl _ _).alloc (Nat.le_refl _) _
  have HF : Hid (FineLaid (res0 w)) := hF.below h00
  have HI0 : Hid (Items (res0 w) b off xs) := hI.below h00
  clear hI hF
  go_enter Tryd.func15, Tryd.ntmps15
  go_wp2
  go_loopw [12] (fun i wr => ∃ k : Nat, k ≤ n ∧ i = .int .i64 k ∧ (∀ j, j < k → faultAt xs j = 0) ∧ Below (w.heap.size + 1) (res0 w) wr) (fun i _ => n - (intOf i).toNat)
  case atStart => exact ⟨0, Nat.zero_le _, rfl, fun j hj => absurd hj (Nat.not_lt_zero j), Below.refl _ _⟩
  case round =>
    obtain ⟨k, hk, rfl, hz, hb⟩ := hrel
    have HZ : Hid (∀ j, j < k → faultAt xs j = 0) := hz
    clear hz
    have hbR : Below (res0 w).heap.size (res0 w) wr := hb.mono (by simp)
    have hsz : w.heap.size < wr.heap.size := by have := hb.size; simp at this; omega
    have r0 : wr.cell? ⟨w.heap.size, 0, none⟩ = some (.int .i64 0) := by rw [hbR.cell (by simp)]; simp
    have r1 : wr.cell? ⟨w.heap.size, 1, none⟩ = some (.int .i64 0) := by rw [hbR.cell (by simp)]; simp
    have z0 : wr.frozen? ⟨w.heap.size, 0, none⟩ = false := by rw [hbR.frozen (by simp)]; simp
    have z1 : wr.frozen? ⟨w.heap.size, 1, none⟩ = false := by rw [hbR.frozen (by simp)]; simp
    have hne : w.heap.size ≠ wr.heap.size := by omega
    have hne1 : w.heap.size ≠ wr.heap.size + 1 := by omega
    by_cases hlt : k < n
    · obtain ⟨x, hx⟩ : ∃ x, xs[k]? = some x := ⟨_, List.getElem?_eq_getElem (by have := HN.out; omega)⟩
      have HX : Hid (xs[k]? = some x) := hx
      have HI : Hid (Items wr b off xs) := HI0.out.below hbR
      obtain ⟨c0, c1, c2, c3, c4⟩ := HI.out k x hx
      clear hx
      cases hok : x.ok with
      | false =>
        have HK : Hid (x.ok = false) := hok
        clear hok
        go_wp2_with (go_at_call 29; refine (rcheck_no _ _ _ _ _ _ HK.out).mono ?_; rintro e w1 ⟨rfl, rfl⟩)
        have he := listE_bad (xs := xs) (i := k) (by rw [HN.out]; exact hnl) (by rw [HN.out]; exact hlt) HZ.out (by rw [fault_range HX.out HK.out]; decide)
        rw [fault_range HX.out HK.out] at he
        rw [he]
        have hq := res_cells r0 r1 (.int .i64 2) (.int .i64 k) (.cells #[.int .i64 x.a, .int .i64 x.l, .int .i64 x.f, .int .i64 x.b, .int .i64 x.m] 39)
        refine bodyPost_ret (v := .agg #[.int .i64 2, .int .i64 k]) (by simp [results, Tryd.results15, go_sem, hq.1, hq.2]) rfl ⟨rfl, ?_⟩
        repeat' (first | exact h00.trans (hb.mono (by omega)) | refine Below.alloc ?_ ?_ _ | refine Below.setCell ?_ ?_ _)
        all_goals (simp <;> omega)
      | true =>
        have HK : Hid (x.ok = true) := hok
        clear hok
        by_cases hk0 : k = 0
        · have hd : decide (0 < k) = false := by simp; omega
          have HK0 : Hid (k = 0) := hk0
          clear hk0
          go_wp2_with (go_at_call 29; refine (rcheck_yes _ _ _ _ _ _ HK.out).mono ?_; rintro e w1 ⟨rfl, rfl⟩)
          go_quiet (fail)
          go_wp2
          go_roundw
          case rel =>
            refine ⟨k + 1, by omega, by go_num, ?_, below_drewN ((hb.alloc (by omega) _).alloc (by simp; omega) _) _⟩
            intro j hj
            obtain rfl : j = 0 := by have := HK0.out; omega
            exact fault_first (by have := HX.out; rw [HK0.out] at this; exact this) HK.out
          case measure => simp [intOf]; omega
        · obtain ⟨k1, hk1⟩ : ∃ k1, k = k1 + 1 := ⟨k - 1, by omega⟩
          have HK1 : Hid (k = k1 + 1) := hk1
          obtain ⟨y, hy⟩ : ∃ y, xs[k1]? = some y := ⟨_, List.getElem?_eq_getElem (by have := HN.out; omega)⟩
          have HY : Hid (xs[k1]? = some y) := hy
          obtain ⟨d0, _⟩ := HI.out k1 y hy
          have hbl : b < wr.heap.size := lt_of_cell d0
          have d1 : ((wr.alloc (.cells #[.int .i64 x.a, .int .i64 x.l, .int .i64 x.f, .int .i64 x.b, .int .i64 x.m] 39)).alloc (.cells #[.int .i64 x.a, .int .i64 x.l, .int .i64 x.f, .int .i64 x.b, .int .i64 x.m] 39)).cell? ⟨b, off + k1 * 5, none⟩ = some (.int .i64 y.a) := by
            rw [World.cell?_alloc_lt _ _ ⟨b, off + k1 * 5, none⟩ (by simp; omega), World.cell?_alloc_lt _ _ ⟨b, off + k1 * 5, none⟩ hbl]; exact d0
          have hd : decide (0 < k) = true := by simp; omega
          have hk2 : (k1 : Int) < (n : Int) := by omega
          have hwk : IntKind.i64.wrap ((k : Int) - 1) = (k1 : Int) := by
            rw [hk1, show (((k1 + 1 : Nat) : Int) - 1) = (k1 : Int) by omega]; rw [IntKind.wrap_i64]; omega
          clear hy hk1
          go_wp2_with (go_at_call 29; refine (rcheck_yes _ _ _ _ _ _ HK.out).mono ?_; rintro e w1 ⟨rfl, rfl⟩)
          go_quiet (fail)
          by_cases ho : x.a < y.a
          · go_wp2
            have hf : faultAt xs k = 10 := by rw [HK1.out]; exact fault_order (by rw [← HK1.out]; exact HX.out) HY.out HK.out ho
            have he := listE_bad (xs := xs) (i := k) (by rw [HN.out]; exact hnl) (by rw [HN.out]; exact hlt) HZ.out (by rw [hf]; decide)
            rw [hf] at he
            rw [he]
            have g0 := cell_kept (.cells #[.int .i64 x.a, .int .i64 x.l, .int .i64 x.f, .int .i64 x.b, .int .i64 x.m] 39) (cell_kept (.cells #[.int .i64 x.a, .int .i64 x.l, .int .i64 x.f, .int .i64 x.b, .int .i64 x.m] 39) r0)
            have g1 := cell_kept (.cells #[.int .i64 x.a, .int .i64 x.l, .int .i64 x.f, .int .i64 x.b, .int .i64 x.m] 39) (cell_kept (.cells #[.int .i64 x.a, .int .i64 x.l, .int .i64 x.f, .int .i64 x.b, .int .i64 x.m] 39) r1)
            refine bodyPost_ret (v := .agg #[.int .i64 10, .int .i64 k]) (by simp [results, Tryd.results15, go_sem, g0, g1]) rfl ⟨rfl, ?_⟩
            repeat' (first | exact h00.trans (hb.mono (by omega)) | refine below_drewN ?_ _ | refine Below.alloc ?_ ?_ _ | refine Below.setCell ?_ ?_ _)
            all_goals (first | omega | (simp <;> omega))
          · go_wp2
            go_roundw
            case rel =>
              refine ⟨k + 1, by omega, by go_num, ?_, below_drewN ((hb.alloc (by omega) _).alloc (by simp; omega) _) _⟩
              intro j hj
              by_cases hjk : j < k
              · exact HZ.out j hjk
              · obtain rfl : j = k := by omega
                rw [HK1.out]; exact fault_none (by rw [← HK1.out]; exact HX.out) HY.out HK.out ho
            case measure => simp [intOf]; omega
    · obtain ⟨f0, f1⟩ := HF.out.below hbR
      go_wp2
      have hkn : k = n := by omega
      have he := listE_fine (xs := xs) (by rw [HN.out]; exact hnl) (by rw [HN.out, ← hkn]; exact HZ.out)
      rw [he]
      refine bodyPost_ret (v := .agg #[.int .i64 0, .int .i64 (-1)]) (by simp [results, Tryd.results15, go_sem, r0, r1]) rfl ⟨rfl, ?_⟩
      exact below_res hb _ _

theorem rlist_any (x : Option Addr) (cap : Nat) (xs : List It) (w : World) (hF : FineLaid w) (hI : ItemsAt w x xs) (hm : xs.length ≤ maxLen) :
    Calls Tryd.prog 15 #[.slice x xs.length cap] w fun e w' => e = .returned (.agg #[.int .i64 (listE xs).1, .int .i64 (listE xs).2]) ∧ Below w.heap.size w w' := by
  by_cases hl : 100 < xs.length
  · rw [listE_long hl]; exact rlist_long x _ cap w hl hm
  · rcases hI with rfl | ⟨b, off, rfl, hI⟩
    · exact rlist_nil x cap w hF
    · by_cases h0 : 0 < xs.length
      · exact rlist_some b off cap xs w hF hI h0 (by omega)
      · obtain rfl : xs = [] := List.length_eq_zero_iff.1 (by omega)
        exact rlist_nil _ cap w hF
end Go.Proofs.YtcdcplocpdmjaaaDoor
