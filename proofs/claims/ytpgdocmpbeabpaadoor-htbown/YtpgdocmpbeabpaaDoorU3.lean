/-
  item.List: of any packets the error, and its place, that the document tells: more than 100; the first that may not be; the first that is out of order; nothing that was there before is otherwise. Conditions: errors.errorType holds its handle; the packets lie in memory.
  item.List of a slice of packets, wherever it lies. Conditions: errors.errorType holds its handle; the packets lie in memory.
-/
import Derived.Test.YtpgdocmpbeabpaaDoorU2
namespace Go.Proofs.YtpgdocmpbeabpaaDoor
open Go.RowKit Go.Extern.Stop Go.Stop Go.Extern

/-- What is wrong with packet i behind those ahead (0: nothing). -/
def faultAt (xs : List It) (i : Nat) : Int :=
  match xs[i]? with
  | none => 0
  | some x => if x.ok = false then 2 else if i = 0 then 0 else match xs[i - 1]? with
    | none => 0
    | some y => if x.a < y.a then 10 else 0
def firstBad (xs : List It) : Option Nat := (List.range xs.length).find? fun i => faultAt xs i != 0
/-- The error of a list, and its place. -/
def listE (xs : List It) : Int × Int := if 100 < xs.length then (4, -1) else match firstBad xs with | none => (0, -1) | some i => (faultAt xs i, i)

theorem faultAt_val (xs : List It) (i : Nat) : faultAt xs i = 0 ∨ faultAt xs i = 2 ∨ faultAt xs i = 10 := by
  unfold faultAt
  repeat' split
  all_goals simp
theorem firstBad_none {xs : List It} (h : ∀ j, j < xs.length → faultAt xs j = 0) : firstBad xs = none := by
  unfold firstBad; simp; exact h
theorem firstBad_some {xs : List It} {i : Nat} (hi : i < xs.length) (h : ∀ j, j < i → faultAt xs j = 0) (hb : faultAt xs i ≠ 0) : firstBad xs = some i := by
  unfold firstBad
  rw [List.find?_range_eq_some]
  exact ⟨by simpa using hb, by simpa using hi, fun j hj => by simpa using h j hj⟩
theorem listE_long {xs : List It} (h : 100 < xs.length) : listE xs = (4, -1) := by simp [listE, h]
theorem listE_fine {xs : List It} (h : ¬ 100 < xs.length) (hb : ∀ j, j < xs.length → faultAt xs j = 0) : listE xs = (0, -1) := by simp [listE, h, firstBad_none hb]
theorem listE_bad {xs : List It} {i : Nat} (h : ¬ 100 < xs.length) (hi : i < xs.length) (hj : ∀ j, j < i → faultAt xs j = 0) (hb : faultAt xs i ≠ 0) : listE xs = (faultAt xs i, (i : Int)) := by
  simp [listE, h, firstBad_some hi hj hb]
theorem fault_range {xs : List It} {i : Nat} {x : It} (hx : xs[i]? = some x) (h : x.ok = false) : faultAt xs i = 2 := by simp [faultAt, hx, h]
theorem fault_first {xs : List It} {x : It} (hx : xs[0]? = some x) (h : x.ok = true) : faultAt xs 0 = 0 := by simp [faultAt, hx, h]
theorem fault_order {xs : List It} {i : Nat} {x y : It} (hx : xs[i + 1]? = some x) (hy : xs[i]? = some y) (h : x.ok = true) (ho : x.a < y.a) : faultAt xs (i + 1) = 10 := by simp [faultAt, hx, hy, h, ho]
theorem fault_none {xs : List It} {i : Nat} {x y : It} (hx : xs[i + 1]? = some x) (hy : xs[i]? = some y) (h : x.ok = true) (ho : ¬ x.a < y.a) : faultAt xs (i + 1) = 0 := by simp [faultAt, hx, hy, h, ho]

/-- An error value, its number and its place. -/
def ErrIs (w : World) (v : Value) (E P : Int) : Prop :=
  (v = .nilIface ∧ E = 0 ∧ P = -1) ∨ (v = .iface 65 (.int .i64 E) ∧ E ≠ 0 ∧ P = -1) ∨
  ∃ a, v = .iface 103 (.pointer (some ⟨a, 0, none⟩)) ∧ w.cell? ⟨a, 0, none⟩ = some (.int .i64 E) ∧ w.cell? ⟨a, 0 + 1, none⟩ = some (.int .i64 P) ∧ E ≠ 0 ∧ 0 ≤ P

theorem ErrIs.below {w w' : World} {v : Value} {E P : Int} (h : ErrIs w v E P) (hb : Below w.heap.size w w') : ErrIs w' v E P := by
  rcases h with h | h | ⟨a, h1, h2, h3, h4⟩
  · exact Or.inl h
  · exact Or.inr (Or.inl h)
  · exact Or.inr (Or.inr ⟨a, h1, by rw [hb.cell (lt_of_cell h2)]; exact h2, by rw [hb.cell (lt_of_cell h3)]; exact h3, h4⟩)

theorem tell_any {v : Value} {E P : Int} (w : World) (h : ErrIs w v E P) (hL : Laid w) : Calls Tryd.prog 41 #[v] w fun e w' => e = .returned (.int .i64 E) ∧ Below w.heap.size w w' := by
  rcases h with ⟨rfl, rfl, _⟩ | ⟨rfl, _⟩ | ⟨a, rfl, h2, _⟩
  · exact (tell_nil w).mono (by rintro e w' ⟨rfl, rfl⟩; exact ⟨rfl, Below.refl _ _⟩)
  · exact tell_errno E w hL
  · exact tell_at a 0 E w h2 hL

/-- Packets lie in memory, one behind the other. -/
def Items (w : World) (b off : Nat) (xs : List It) : Prop := ∀ i x, xs[i]? = some x →
  w.cell? ⟨b, off + i * 5, none⟩ = some (.int .i64 x.a) ∧ w.cell? ⟨b, off + i * 5 + 1, none⟩ = some (.int .i64 x.l) ∧ w.cell? ⟨b, off + i * 5 + 2, none⟩ = some (.int .i64 x.f) ∧ w.cell? ⟨b, off + i * 5 + 3, none⟩ = some (.int .i64 x.b) ∧ w.cell? ⟨b, off + i * 5 + 4, none⟩ = some (.int .i64 x.m)

theorem Items.below {w w' : World} {b off : Nat} {xs : List It} (h : Items w b off xs) (hb : Below w.heap.size w w') : Items w' b off xs := by
  intro i x hx
  obtain ⟨h1, h2, h3, h4, h5⟩ := h i x hx
  have hl := lt_of_cell h1
  refine ⟨?_, ?_, ?_, ?_, ?_⟩
  · rw [hb.cell hl]; exact h1
  · rw [hb.cell (lt_of_cell h2)]; exact h2
  · rw [hb.cell (lt_of_cell h3)]; exact h3
  · rw [hb.cell (lt_of_cell h4)]; exact h4
  · rw [hb.cell (lt_of_cell h5)]; exact h5

theorem list_nil (x : Option Addr) (cap : Nat) (w : World) : Calls Tryd.prog 14 #[.slice x 0 cap] w fun e w' => e = .returned .nilIface ∧ w' = w := by
  go_enter Tryd.func14, Tryd.ntmps14
  go_wp2
  refine wp_loop_rounds 1 ?_
  rw [rounds_succ]
  go_wp2
  go_ret
  exact ⟨rfl, rfl⟩

theorem list_long (x : Option Addr) (n cap : Nat) (w : World) (h : 100 < n) (hm : n ≤ maxLen) : Calls Tryd.prog 14 #[.slice x n cap] w fun e w' => e = .returned (.iface 65 (.int .i64 4)) ∧ w' = w := by
  unfold maxLen at hm
  go_enter Tryd.func14, Tryd.ntmps14
  go_wp2
  go_ret
  exact ⟨rfl, rfl⟩

set_option maxHeartbeats 2000000 in
theorem list_some (b off cap : Nat) (xs : List It) (w : World) (hL : Laid w) (hI : Items w b off xs) (h0 : 0 < xs.length) (h1 : xs.length ≤ 100) :
    Calls Tryd.prog 14 #[.slice (some ⟨b, off, none⟩) xs.length cap] w fun e w' => ∃ v, e = .returned v ∧ ErrIs w' v (listE xs).1 (listE xs).2 ∧ Below w.heap.size w w' := by
  have hnl : ¬ 100 < xs.length := by omega
  generalize hn : xs.length = n at *
  have HN : Hid (xs.length = n) := hn
  clear hn
  go_enter Tryd.func14, Tryd.ntmps14
  go_wp2
  go_loopw [12] (fun i wr => ∃ k : Nat, k ≤ n ∧ i = .int .i64 k ∧ (∀ j, j < k → faultAt xs j = 0) ∧ Below w.heap.size w wr) (fun i _ => n - (intOf i).toNat)
  case atStart => exact ⟨0, Nat.zero_le _, rfl, fun j hj => absurd hj (Nat.not_lt_zero j), Below.refl _ _⟩
  case round =>
    obtain ⟨k, hk, rfl, hz, hb⟩ := hrel
    have HZ : Hid (∀ j, j < k → faultAt xs j = 0) := hz
    clear hz
    by_cases hlt : k < n
    · obtain ⟨x, hx⟩ : ∃ x, xs[k]? = some x := ⟨_, List.getElem?_eq_getElem (by have := HN.out; omega)⟩
      have HX : Hid (xs[k]? = some x) := hx
      obtain ⟨c0, c1, c2, c3, c4⟩ := (hI.below hb) k x hx
      clear hx
      have hLr : Laid wr := hL.below hb
      have HI : Hid (Items wr b off xs) := hI.below hb
      have HI0 : Hid (Items w b off xs) := hI
      clear hI
      cases hok : x.ok with
      | false =>
        have HK : Hid (x.ok = false) := hok
        clear hok
        go_wp2_with (first | (go_at_call 21; refine (check_no _ _ _ _ _ _ HK.out).mono ?_; rintro e w1 ⟨rfl, rfl⟩) | (go_at_call 27; refine (placed_errno 2 _ _ ((hLr.alloc _).alloc _)).mono ?_; rintro e w1 ⟨a, rfl, ha, ha0, ha1, hb1⟩))
        go_ret
        have he := listE_bad (xs := xs) (i := k) (by rw [HN.out]; exact hnl) (by rw [HN.out]; exact hlt) HZ.out (by rw [fault_range HX.out HK.out]; decide)
        rw [fault_range HX.out HK.out] at he
        refine ⟨_, rfl, Or.inr (Or.inr ⟨a, rfl, by rw [he]; exact ha0, by rw [he]; exact ha1, by rw [he]; simp, by rw [he]; simp⟩), ?_⟩
        exact ((hb.alloc hb.size _).alloc (by simp; have := hb.size; omega) _).trans (hb1.mono (by simp; have := hb.size; omega))
      | true =>
        have HK : Hid (x.ok = true) := hok
        clear hok
        by_cases hk0 : k = 0
        · have hd : decide (0 < k) = false := by simp; omega
          have HK0 : Hid (k = 0) := hk0
          clear hk0
          go_wp2_with (go_at_call 21; refine (check_yes _ _ _ _ _ _ HK.out).mono ?_; rintro e w1 ⟨rfl, rfl⟩)
          go_quiet (fail)
          go_wp2
          go_roundw
          case rel =>
            refine ⟨k + 1, by omega, by go_num, ?_, below_drewN ((hb.alloc hb.size _).alloc (by simp; have := hb.size; omega) _) _⟩
            intro j hj
            obtain rfl : j = 0 := by have := HK0.out; omega
            exact fault_first (by have := HX.out; rw [HK0.out] at this; exact this) HK.out
          case measure => simp [intOf]; omega
        · obtain ⟨k1, hk1⟩ : ∃ k1, k = k1 + 1 := ⟨k - 1, by omega⟩
          have HK1 : Hid (k = k1 + 1) := hk1
          obtain ⟨y, hy⟩ : ∃ y, xs[k1]? = some y := ⟨_, List.getElem?_eq_getElem (by have := HN.out; omega)⟩
          have HY : Hid (xs[k1]? = some y) := hy
          obtain ⟨d0, _⟩ := HI.out k1 y hy
          have hbl : b < wr.heap.size := lt_of_cell d0
          have d1 : ((wr.alloc (.cells #[.int .i64 x.a, .int .i64 x.l, .int .i64 x.f, .int .i64 x.b, .int .i64 x.m] 37)).alloc (.cells #[.int .i64 x.a, .int .i64 x.l, .int .i64 x.f, .int .i64 x.b, .int .i64 x.m] 37)).cell? ⟨b, off + k1 * 5, none⟩ = some (.int .i64 y.a) := by
            rw [World.cell?_alloc_lt _ _ ⟨b, off + k1 * 5, none⟩ (by simp; omega), World.cell?_alloc_lt _ _ ⟨b, off + k1 * 5, none⟩ hbl]; exact d0
          have hd : decide (0 < k) = true := by simp; omega
          have hk2 : (k1 : Int) < (n : Int) := by omega
          have hwk : IntKind.i64.wrap ((k : Int) - 1) = (k1 : Int) := by
            rw [hk1, show (((k1 + 1 : Nat) : Int) - 1) = (k1 : Int) by omega]; rw [IntKind.wrap_i64]; omega
          clear hy hk1
          go_wp2_with (go_at_call 21; refine (check_yes _ _ _ _ _ _ HK.out).mono ?_; rintro e w1 ⟨rfl, rfl⟩)
          go_quiet (fail)
          by_cases ho : x.a < y.a
          · go_wp2_with (go_at_call 27; refine (placed_errno 10 _ _ (((hLr.alloc _).alloc _).below (below_drewN (Below.refl _ _) _))).mono ?_; rintro e w1 ⟨a, rfl, ha, ha0, ha1, hb1⟩)
            go_ret
            have hf : faultAt xs k = 10 := by rw [HK1.out]; exact fault_order (by rw [← HK1.out]; exact HX.out) HY.out HK.out ho
            have he := listE_bad (xs := xs) (i := k) (by rw [HN.out]; exact hnl) (by rw [HN.out]; exact hlt) HZ.out (by rw [hf]; decide)
            rw [hf] at he
            refine ⟨_, rfl, Or.inr (Or.inr ⟨a, rfl, by rw [he]; exact ha0, by rw [he]; exact ha1, by rw [he]; simp, by rw [he]; simp⟩), ?_⟩
            exact (below_drewN ((hb.alloc hb.size _).alloc (by simp; have := hb.size; omega) _) _).trans (hb1.mono (by simp; have := hb.size; omega))
          · go_wp2
            go_roundw
            case rel =>
              refine ⟨k + 1, by omega, by go_num, ?_, below_drewN ((hb.alloc hb.size _).alloc (by simp; have := hb.size; omega) _) _⟩
              intro j hj
              by_cases hjk : j < k
              · exact HZ.out j hjk
              · obtain rfl : j = k := by omega
                rw [HK1.out]; exact fault_none (by rw [← HK1.out]; exact HX.out) HY.out HK.out ho
            case measure => simp [intOf]; omega
    · go_wp2
      go_ret
      have hkn : k = n := by omega
      have he := listE_fine (xs := xs) (by rw [HN.out]; exact hnl) (by rw [HN.out, ← hkn]; exact HZ.out)
      exact ⟨_, rfl, Or.inl ⟨rfl, by rw [he], by rw [he]⟩, hb⟩
end Go.Proofs.YtpgdocmpbeabpaaDoor
namespace Go.Proofs.YtpgdocmpbeabpaaDoor
open Go.RowKit Go.Extern.Stop Go.Stop Go.Extern

/-- A slice of packets, wherever it lies. -/
def ItemsAt (w : World) (x : Option Addr) (xs : List It) : Prop := xs = [] ∨ ∃ b off, x = some ⟨b, off, none⟩ ∧ Items w b off xs
theorem ItemsAt.below {w w' : World} {x : Option Addr} {xs : List It} (h : ItemsAt w x xs) (hb : Below w.heap.size w w') : ItemsAt w' x xs := by
  rcases h with h | ⟨b, off, h1, h2⟩
  · exact Or.inl h
  · exact Or.inr ⟨b, off, h1, h2.below hb⟩

theorem list_any (x : Option Addr) (cap : Nat) (xs : List It) (w : World) (hL : Laid w) (hI : ItemsAt w x xs) (hm : xs.length ≤ maxLen) :
    Calls Tryd.prog 14 #[.slice x xs.length cap] w fun e w' => ∃ v, e = .returned v ∧ ErrIs w' v (listE xs).1 (listE xs).2 ∧ Below w.heap.size w w' := by
  by_cases hl : 100 < xs.length
  · refine (list_long x _ cap w hl hm).mono ?_
    rintro e w' ⟨rfl, rfl⟩
    rw [listE_long hl]
    exact ⟨_, rfl, Or.inr (Or.inl ⟨rfl, by decide, rfl⟩), Below.refl _ _⟩
  · rcases hI with rfl | ⟨b, off, rfl, hI⟩
    · refine (list_nil x cap w).mono ?_
      rintro e w' ⟨rfl, rfl⟩
      exact ⟨_, rfl, Or.inl ⟨rfl, rfl, rfl⟩, Below.refl _ _⟩
    · by_cases h0 : 0 < xs.length
      · exact list_some b off cap xs w hL hI h0 (by omega)
      · obtain rfl : xs = [] := List.length_eq_zero_iff.1 (by omega)
        refine (list_nil _ cap w).mono ?_
        rintro e w' ⟨rfl, rfl⟩
        exact ⟨_, rfl, Or.inl ⟨rfl, rfl, rfl⟩, Below.refl _ _⟩
end Go.Proofs.YtpgdocmpbeabpaaDoor
