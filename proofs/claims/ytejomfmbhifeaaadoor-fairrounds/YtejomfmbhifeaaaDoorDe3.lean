/-
  early: what begin and goOn do. Conditions: the queue lies in memory, few packets; times within bounds.
-/
import Derived.Test.YtejomfmbhifeaaaDoorDe2
namespace Go.Proofs.YtejomfmbhifeaaaDoor
open Go.RowKit Go.Extern.Stop Go.Stop Go.Extern

theorem lawD_le {S n t : Int} (hS : 0 ≤ S) (hS1 : S ≤ 1000000) (ht : 0 ≤ t) : 0 ≤ lawD S n t ∧ lawD S n t ≤ t + 1000000000 := by
  unfold lawD
  have h1 : 0 ≤ (S * 1000) / (rtN (1000000 * n).toNat : Int) := Int.ediv_nonneg (by omega) (by omega)
  have h2 : (S * 1000) / (rtN (1000000 * n).toNat : Int) ≤ S * 1000 := Int.ediv_le_self _ (by omega)
  omega
set_option maxHeartbeats 2000000 in
theorem begin_any {b : Nat} {P R T S : Int} {v : Value} {s : DlS} (now : Int) (w : World) (h : DAt w b P R T S v s) (hS : 0 ≤ S) (hS1 : S ≤ 1000000) (hn0 : 0 ≤ now) (hn1 : now ≤ 1000000) (hc0 : 0 ≤ s.count) (hc1 : s.count ≤ 1000000) (hx0 : 0 ≤ s.next) (hx1 : s.next ≤ 10000000000) :
    Calls Tryd.prog 92 #[.pointer (some ⟨b, 0, none⟩), .int .i64 now] w fun e w' => e = .returned (.tuple #[]) ∧ DAt w' b P R T S v (beginD S s now) ∧ Ot (· = b) w w' := by
  have H : Hid (LAt w b 55 (frest P R false (dmore T S s)) v s.L) := h
  have hb := LAt.lt h
  obtain ⟨⟨c5, c6, c7, c8, c9, c10, c11⟩, f7, f8, f9, f10, f11⟩ := h.cells
  have hw1 : IntKind.i64.wrap (now - s.next) = now - s.next := by rw [IntKind.wrap_i64]; omega
  have hw2 : IntKind.i64.wrap (16 * S) = 16 * S := by rw [IntKind.wrap_i64]; omega
  clear h
  by_cases h1 : 2 < s.count
  · by_cases h2 : now - s.next < 16 * S
    · have hB : beginD S s now = { s with throws := true, count := s.count - 2, next := lawD S (s.count - 2) now } := by simp [beginD, h1, h2]
      rw [hB]
      have h2d : decide (now - s.next < 16 * S) = true := decide_eq_true h2
      clear hB h2
      go_enter Tryd.func92, Tryd.ntmps92
      go_wp2
      go_quiet (fail)
      go_wp2_with (go_at_call 93; refine (law_any (s := { s with throws := true, count := s.count - 2 }) now _ (((H.out.rest 7 (.bool true) rfl).drewN _).rest 8 (.int .i64 (s.count - 2)) rfl) hS hS1 (by show 1 ≤ s.count - 2; omega) (by show s.count - 2 ≤ _; omega) hn0 (by omega)).mono ?_; rintro e w2 ⟨rfl, q, hw2⟩; subst hw2)
      go_end0
      refine ⟨rfl, ((((H.out.rest 7 (.bool true) rfl).drewN _).rest 8 (.int .i64 (s.count - 2)) rfl).drewN _).rest 9 _ rfl, ?_⟩
      repeat' (first | with_reducible exact Ot.refl _ _ | with_reducible refine Ot.setCell ?_ (by simp) _ | with_reducible refine Ot.drewN ?_ _)
    · have hB : beginD S s now = { s with throws := true, count := 1, next := lawD S 1 now } := by simp [beginD, h2]
      rw [hB]
      have h2d : decide (now - s.next < 16 * S) = false := decide_eq_false h2
      clear hB h2
      go_enter Tryd.func92, Tryd.ntmps92
      go_wp2
      go_quiet (fail)
      go_wp2_with (go_at_call 93; refine (law_any (s := { s with throws := true, count := 1 }) now _ (((H.out.rest 7 (.bool true) rfl).drewN _).rest 8 (.int .i64 1) rfl) hS hS1 (by show (1 : Int) ≤ 1; omega) (by show (1 : Int) ≤ _; omega) hn0 (by omega)).mono ?_; rintro e w2 ⟨rfl, q, hw2⟩; subst hw2)
      go_end0
      refine ⟨rfl, ((((H.out.rest 7 (.bool true) rfl).drewN _).rest 8 (.int .i64 1) rfl).drewN _).rest 9 _ rfl, ?_⟩
      repeat' (first | with_reducible exact Ot.refl _ _ | with_reducible refine Ot.setCell ?_ (by simp) _ | with_reducible refine Ot.drewN ?_ _)
  · have hB : beginD S s now = { s with throws := true, count := 1, next := lawD S 1 now } := by simp [beginD, h1]
    rw [hB]
    have h1d : decide (2 < s.count) = false := decide_eq_false h1
    clear hB
    go_enter Tryd.func92, Tryd.ntmps92
    go_wp2
    go_quiet (fail)
    go_wp2_with (go_at_call 93; refine (law_any (s := { s with throws := true, count := 1 }) now _ (((H.out.rest 7 (.bool true) rfl).drewN _).rest 8 (.int .i64 1) rfl) hS hS1 (by show (1 : Int) ≤ 1; omega) (by show (1 : Int) ≤ _; omega) hn0 (by omega)).mono ?_; rintro e w2 ⟨rfl, q, hw2⟩; subst hw2)
    go_end0
    refine ⟨rfl, ((((H.out.rest 7 (.bool true) rfl).drewN _).rest 8 (.int .i64 1) rfl).drewN _).rest 9 _ rfl, ?_⟩
    repeat' (first | with_reducible exact Ot.refl _ _ | with_reducible refine Ot.setCell ?_ (by simp) _ | with_reducible refine Ot.drewN ?_ _)
theorem goD_stop {T S now : Int} {s : DlS} {x : Hd} (h : now < s.next) : goD T S now s.L s x = (s, [], x, true) := by
  cases hL : s.L with
  | nil => simp [goD, h]
  | cons y L => simp [goD, h]
theorem goD_next {T S now : Int} {s : DlS} {x : Hd} (h : ¬ now < s.next) {s3 : DlS} {y : Hd} {ok bad : Bool} (hp : pullD T S { s with count := s.count + 1 } now = (s3, y, ok, bad)) :
    goD T S now s.L s x = if bad then
      ((goD T S now s3.L { s3 with throws := true, next := lawD S (s.count + 1) s.next } y).1, x :: (goD T S now s3.L { s3 with throws := true, next := lawD S (s.count + 1) s.next } y).2.1, (goD T S now s3.L { s3 with throws := true, next := lawD S (s.count + 1) s.next } y).2.2.1, (goD T S now s3.L { s3 with throws := true, next := lawD S (s.count + 1) s.next } y).2.2.2)
      else ({ s3 with throws := false }, [x], y, ok) := by
  have e1 : ∀ M, ({ s with L := M } : DlS).next = s.next := fun _ => rfl
  cases hL : s.L with
  | nil =>
    simp only [pullD, hL, Prod.mk.injEq] at hp
    obtain ⟨rfl, rfl, rfl, rfl⟩ := hp
    simp [goD, h, hL]
  | cons z L =>
    have hL3 : s3.L = L ∧ y = z ∧ ok = true := by
      simp only [pullD, hL] at hp
      split at hp
      · simp only [Prod.mk.injEq] at hp; obtain ⟨rfl, rfl, rfl, rfl⟩ := hp; exact ⟨rfl, rfl, rfl⟩
      · split at hp
        · simp only [Prod.mk.injEq] at hp; obtain ⟨rfl, rfl, rfl, rfl⟩ := hp; exact ⟨rfl, rfl, rfl⟩
        · simp only [Prod.mk.injEq] at hp; obtain ⟨rfl, rfl, rfl, rfl⟩ := hp; exact ⟨rfl, rfl, rfl⟩
    obtain ⟨h1, rfl, rfl⟩ := hL3
    rw [goD, if_neg h, hp]
    cases bad <;> simp [h1]
/-- A pull leaves what goes on as it was, and no more waits. -/
theorem pullD_same {T S now : Int} {s s3 : DlS} {y : Hd} {ok bad : Bool} (hp : pullD T S s now = (s3, y, ok, bad)) : s3.throws = s.throws ∧ s3.count = s.count ∧ s3.next = s.next ∧ s3.L = s.L.tail ∧ y = hdOr s.L ∧ ok = !s.L.isEmpty ∧ (bad = true → ok = true ∧ s3.L ≠ [] ∧ T ≤ now - y.a) := by
  cases hL : s.L with
  | nil =>
    simp only [pullD, hL, Prod.mk.injEq] at hp
    obtain ⟨rfl, rfl, rfl, rfl⟩ := hp
    exact ⟨rfl, rfl, rfl, rfl, rfl, rfl, by simp⟩
  | cons z L =>
    simp only [pullD, hL] at hp
    split at hp
    · simp only [Prod.mk.injEq] at hp; obtain ⟨rfl, rfl, rfl, rfl⟩ := hp; exact ⟨rfl, rfl, rfl, rfl, rfl, rfl, by simp⟩
    · rename_i hn
      split at hp
      · simp only [Prod.mk.injEq] at hp; obtain ⟨rfl, rfl, rfl, rfl⟩ := hp; exact ⟨rfl, rfl, rfl, rfl, rfl, rfl, by simp⟩
      · simp only [Prod.mk.injEq] at hp; obtain ⟨rfl, rfl, rfl, rfl⟩ := hp; exact ⟨rfl, rfl, rfl, rfl, rfl, rfl, fun _ => ⟨rfl, fun e => hn (Or.inr e), by have : ¬ now - z.a < T := fun e => hn (Or.inl e); omega⟩⟩
end Go.Proofs.YtejomfmbhifeaaaDoor
