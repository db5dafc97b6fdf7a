/-
  early: what begin and goOn do. Conditions: the queue lies in memory, few packets; times within bounds.
  early: what goOn does. Conditions: the queue lies in memory, few packets; times within bounds.
-/
import Derived.Test.YtfakjedolecdcaaGreatDoorU23
namespace Go.Proofs.YtfakjedolecdcaaGreatDoor
open Go.RowKit Go.Extern.Stop Go.Stop Go.Extern

theorem lawD_le {S n t : Int} (hS : 0 ≤ S) (hS1 : S ≤ 1000000) (ht : 0 ≤ t) : 0 ≤ lawD S n t ∧ lawD S n t ≤ t + 1000000000 := by
  unfold lawD
  have h1 : 0 ≤ (S * 1000) / (rtN (1000000 * n).toNat : Int) := Int.ediv_nonneg (by omega) (by omega)
  have h2 : (S * 1000) / (rtN (1000000 * n).toNat : Int) ≤ S * 1000 := Int.ediv_le_self _ (by omega)
  omega
set_option maxHeartbeats 2000000 in
theorem begin_any {b : Nat} {P R T S : Int} {v : Value} {s : DlS} (now : Int) (w : World) (h : DAt w b P R T S v s) (hS : 0 ≤ S) (hS1 : S ≤ 1000000) (hn0 : 0 ≤ now) (hn1 : now ≤ 20000000) (hc0 : 0 ≤ s.count) (hc1 : s.count ≤ 1000000) (hx0 : 0 ≤ s.next) (hx1 : s.next ≤ 10000000000) :
    Calls Tryz.prog 157 #[.pointer (some ⟨b, 0, none⟩), .int .i64 now] w fun e w' => e = .returned (.tuple #[]) ∧ DAt w' b P R T S v (beginD S s now) ∧ Ot (· = b) w w' := by
  have H : Hid (LAt w b 154 (frest P R false (dmore T S s)) v s.L) := h
  have hb := LAt.lt h
  obtain ⟨⟨c5, c6, c7, c8, c9, c10, c11⟩, f7, f8, f9, f10, f11⟩ := h.cells
  have hw1 : IntKind.i64.wrap (now - s.next) = now - s.next := by rw [IntKind.wrap_i64]; omega
  have hw2 : IntKind.i64.wrap (16 * S) = 16 * S := by rw [IntKind.wrap_i64]; omega
  clear h
  by_cases h1 : 2 < s.count
  · by_cases h2 : now - s.next < 16 * S
    · have hB : beginD S s now = { s with throws := true, count := s.count - 2, next := lawD S (s.count - 2) now } := by simp [beginD, h1, h2]
      rw [hB]
      have h2d : decide (now - s.next < 16 * S) = true := decide_eq_true h2
      clear hB h2
      go_enter Tryz.func157, Tryz.ntmps157
      go_wp2
      go_quiet (fail)
      go_wp2_with (go_at_call 158; refine (law_any (s := { s with throws := true, count := s.count - 2 }) now _ (((H.out.rest 7 (.bool true) rfl).drewN _).rest 8 (.int .i64 (s.count - 2)) rfl) hS hS1 (by show 1 ≤ s.count - 2; omega) (by show s.count - 2 ≤ _; omega) hn0 (by omega)).mono ?_; rintro e w2 ⟨rfl, q, hw2⟩; subst hw2)
      go_end0
      refine ⟨rfl, ((((H.out.rest 7 (.bool true) rfl).drewN _).rest 8 (.int .i64 (s.count - 2)) rfl).drewN _).rest 9 _ rfl, ?_⟩
      repeat' (first | with_reducible exact Ot.refl _ _ | with_reducible refine Ot.setCell ?_ (by simp) _ | with_reducible refine Ot.drewN ?_ _)
    · have hB : beginD S s now = { s with throws := true, count := 1, next := lawD S 1 now } := by simp [beginD, h2]
      rw [hB]
      have h2d : decide (now - s.next < 16 * S) = false := decide_eq_false h2
      clear hB h2
      go_enter Tryz.func157, Tryz.ntmps157
      go_wp2
      go_quiet (fail)
      go_wp2_with (go_at_call 158; refine (law_any (s := { s with throws := true, count := 1 }) now _ (((H.out.rest 7 (.bool true) rfl).drewN _).rest 8 (.int .i64 1) rfl) hS hS1 (by show (1 : Int) ≤ 1; omega) (by show (1 : Int) ≤ _; omega) hn0 (by omega)).mono ?_; rintro e w2 ⟨rfl, q, hw2⟩; subst hw2)
      go_end0
      refine ⟨rfl, ((((H.out.rest 7 (.bool true) rfl).drewN _).rest 8 (.int .i64 1) rfl).drewN _).rest 9 _ rfl, ?_⟩
      repeat' (first | with_reducible exact Ot.refl _ _ | with_reducible refine Ot.setCell ?_ (by simp) _ | with_reducible refine Ot.drewN ?_ _)
  · have hB : beginD S s now = { s with throws := true, count := 1, next := lawD S 1 now } := by simp [beginD, h1]
    rw [hB]
    have h1d : decide (2 < s.count) = false := decide_eq_false h1
    clear hB
    go_enter Tryz.func157, Tryz.ntmps157
    go_wp2
    go_quiet (fail)
    go_wp2_with (go_at_call 158; refine (law_any (s := { s with throws := true, count := 1 }) now _ (((H.out.rest 7 (.bool true) rfl).drewN _).rest 8 (.int .i64 1) rfl) hS hS1 (by show (1 : Int) ≤ 1; omega) (by show (1 : Int) ≤ _; omega) hn0 (by omega)).mono ?_; rintro e w2 ⟨rfl, q, hw2⟩; subst hw2)
    go_end0
    refine ⟨rfl, ((((H.out.rest 7 (.bool true) rfl).drewN _).rest 8 (.int .i64 1) rfl).drewN _).rest 9 _ rfl, ?_⟩
    repeat' (first | with_reducible exact Ot.refl _ _ | with_reducible refine Ot.setCell ?_ (by simp) _ | with_reducible refine Ot.drewN ?_ _)
theorem goD_stop {T S now : Int} {s : DlS} {x : Hd} (h : now < s.next) : goD T S now s.L s x = (s, [], x, true) := by
  cases hL : s.L with
  | nil => simp [goD, h]
  | cons y L => simp [goD, h]
theorem goD_next {T S now : Int} {s : DlS} {x : Hd} (h : ¬ now < s.next) {s3 : DlS} {y : Hd} {ok bad : Bool} (hp : pullD T S { s with count := s.count + 1 } now = (s3, y, ok, bad)) :
    goD T S now s.L s x = if bad then
      ((goD T S now s3.L { s3 with throws := true, next := lawD S (s.count + 1) s.next } y).1, x :: (goD T S now s3.L { s3 with throws := true, next := lawD S (s.count + 1) s.next } y).2.1, (goD T S now s3.L { s3 with throws := true, next := lawD S (s.count + 1) s.next } y).2.2.1, (goD T S now s3.L { s3 with throws := true, next := lawD S (s.count + 1) s.next } y).2.2.2)
      else ({ s3 with throws := false }, [x], y, ok) := by
  have e1 : ∀ M, ({ s with L := M } : DlS).next = s.next := fun _ => rfl
  cases hL : s.L with
  | nil =>
    simp only [pullD, hL, Prod.mk.injEq] at hp
    obtain ⟨rfl, rfl, rfl, rfl⟩ := hp
    simp [goD, h, hL]
  | cons z L =>
    have hL3 : s3.L = L ∧ y = z ∧ ok = true := by
      simp only [pullD, hL] at hp
      split at hp
      · simp only [Prod.mk.injEq] at hp; obtain ⟨rfl, rfl, rfl, rfl⟩ := hp; exact ⟨rfl, rfl, rfl⟩
      · split at hp
        · simp only [Prod.mk.injEq] at hp; obtain ⟨rfl, rfl, rfl, rfl⟩ := hp; exact ⟨rfl, rfl, rfl⟩
        · simp only [Prod.mk.injEq] at hp; obtain ⟨rfl, rfl, rfl, rfl⟩ := hp; exact ⟨rfl, rfl, rfl⟩
    obtain ⟨h1, rfl, rfl⟩ := hL3
    rw [goD, if_neg h, hp]
    cases bad <;> simp [h1]
/-- A pull leaves what goes on as it was, and no more waits. -/
theorem pullD_same {T S now : Int} {s s3 : DlS} {y : Hd} {ok bad : Bool} (hp : pullD T S s now = (s3, y, ok, bad)) : s3.throws = s.throws ∧ s3.count = s.count ∧ s3.next = s.next ∧ s3.L = s.L.tail ∧ y = hdOr s.L ∧ ok = !s.L.isEmpty ∧ (bad = true → ok = true ∧ s3.L ≠ [] ∧ T ≤ now - y.a) := by
  cases hL : s.L with
  | nil =>
    simp only [pullD, hL, Prod.mk.injEq] at hp
    obtain ⟨rfl, rfl, rfl, rfl⟩ := hp
    exact ⟨rfl, rfl, rfl, rfl, rfl, rfl, by simp⟩
  | cons z L =>
    simp only [pullD, hL] at hp
    split at hp
    · simp only [Prod.mk.injEq] at hp; obtain ⟨rfl, rfl, rfl, rfl⟩ := hp; exact ⟨rfl, rfl, rfl, rfl, rfl, rfl, by simp⟩
    · rename_i hn
      split at hp
      · simp only [Prod.mk.injEq] at hp; obtain ⟨rfl, rfl, rfl, rfl⟩ := hp; exact ⟨rfl, rfl, rfl, rfl, rfl, rfl, by simp⟩
      · simp only [Prod.mk.injEq] at hp; obtain ⟨rfl, rfl, rfl, rfl⟩ := hp; exact ⟨rfl, rfl, rfl, rfl, rfl, rfl, fun _ => ⟨rfl, fun e => hn (Or.inr e), by have : ¬ now - z.a < T := fun e => hn (Or.inl e); omega⟩⟩
end Go.Proofs.YtfakjedolecdcaaGreatDoor
namespace Go.Proofs.YtfakjedolecdcaaGreatDoor
open Go.RowKit Go.Extern.Stop Go.Stop Go.Extern

/-- A round of goOn: what was thrown away, the queue and the one in hand. -/
structure GoR (T S now : Int) (s : DlS) (x : Hd) (w : World) (b : Nat) (P R : Int) (v : Value) (A : List Hd) (s1 : DlS) (x1 : Hd) (ok1 : Bool) (u : Value) (v1 : Value) (wr : World) : Prop where
  fin : (s1.throws = true ∧ ok1 = true ∧ A.length + s1.L.length = s.L.length ∧ goD T S now s.L s x = ((goD T S now s1.L s1 x1).1, A ++ (goD T S now s1.L s1 x1).2.1, (goD T S now s1.L s1 x1).2.2.1, (goD T S now s1.L s1 x1).2.2.2)) ∨ (s1.throws = false ∧ goD T S now s.L s x = (s1, A, x1, ok1))
  pos : DAt wr b P R T S v1 s1
  lost : Hs wr u A
  box : wr.heap[w.heap.size]? = some (.cells #[.int .i64 x1.a, .int .i64 x1.l, .int .i64 x1.f, .int .i64 x1.b, .int .i64 x1.m, .int .i64 x1.n] 76 (0, 0))
  res : wr.heap[w.heap.size + 1]? = some (.cells #[.int .i64 0, .int .i64 0, .int .i64 0, .int .i64 0, .int .i64 0, .int .i64 0] 76 (0, 0))
  blk : v1.ownBlock = v.ownBlock
  new : ∀ k, u.ownBlock = some k → w.heap.size + 2 ≤ k
  ot : Ot (· = b) w wr
  cnt : s1.count = s.count + A.length
  suf : ∀ y ∈ s1.L, y ∈ s.L
  nxt : 0 ≤ s1.next ∧ s1.next ≤ 10000000000
theorem goOn_mid {T S now : Int} {s : DlS} {x : Hd} {w : World} {b : Nat} {P R : Int} {v : Value} {A : List Hd} {s1 : DlS} {x1 : Hd} {ok1 : Bool} {u v1 : Value} {wr : World} (h : GoR T S now s x w b P R v A s1 x1 ok1 u v1 wr) (hb : b < w.heap.size) (hv : ∀ k, v.ownBlock = some k → k < w.heap.size) {o : Obj} {w2 : World} (hg : (wr.alloc o).grownBy w2 u.ownBlock) :
    DAt w2 b P R T S v1 s1 ∧ w2.heap[w.heap.size]? = some (.cells #[.int .i64 x1.a, .int .i64 x1.l, .int .i64 x1.f, .int .i64 x1.b, .int .i64 x1.m, .int .i64 x1.n] 76 (0, 0)) ∧
    w2.heap[w.heap.size + 1]? = some (.cells #[.int .i64 0, .int .i64 0, .int .i64 0, .int .i64 0, .int .i64 0, .int .i64 0] 76 (0, 0)) ∧ Ot (· = b) w w2 ∧ w.heap.size + 2 ≤ w2.heap.size ∧ wr.heap.size ≤ w2.heap.size := by
  have h1 := lt_of_block h.res
  have hs := hg.size
  have hs2 : wr.heap.size + 1 ≤ w2.heap.size := by simpa using hs
  have key : ∀ k, k < wr.heap.size → u.ownBlock ≠ some k → w2.heap[k]? = wr.heap[k]? := fun k hk hu => (hg.block k (by simp; omega) (fun e => hu e.symm)).trans (Below.heap_alloc _ _ _ hk)
  refine ⟨LAt.kept h.pos (key b (LAt.lt h.pos) (fun e => by have := h.new _ e; omega)) (fun k hk => key k (h.pos.row.lt hk) (fun e => by have := h.new _ e; have := hv k (by rw [← h.blk, hk]); omega)), (key _ (by omega) (fun e => by have := h.new _ e; omega)).trans h.box, (key _ h1 (fun e => by have := h.new _ e; omega)).trans h.res, Ot.grown (h.ot.alloc o) hg (fun k e => Or.inr (by have := h.new _ e; omega)), by omega, by omega⟩
theorem gor_bad {T S now : Int} {s : DlS} {x : Hd} {A : List Hd} {s1 s3 : DlS} {x1 y : Hd} {ok3 : Bool} (hl : A.length + s1.L.length = s.L.length) (hg : goD T S now s.L s x = ((goD T S now s1.L s1 x1).1, A ++ (goD T S now s1.L s1 x1).2.1, (goD T S now s1.L s1 x1).2.2.1, (goD T S now s1.L s1 x1).2.2.2)) (hnx : ¬ now < s1.next) (hp : pullD T S { s1 with count := s1.count + 1 } now = (s3, y, ok3, true)) :
    ok3 = true ∧ (A ++ [x1]).length + s3.L.length = s.L.length ∧ goD T S now s.L s x = ((goD T S now s3.L { s3 with throws := true, next := lawD S (s1.count + 1) s1.next } y).1, (A ++ [x1]) ++ (goD T S now s3.L { s3 with throws := true, next := lawD S (s1.count + 1) s1.next } y).2.1, (goD T S now s3.L { s3 with throws := true, next := lawD S (s1.count + 1) s1.next } y).2.2.1, (goD T S now s3.L { s3 with throws := true, next := lawD S (s1.count + 1) s1.next } y).2.2.2) := by
  obtain ⟨e1, e2, e3, e4, e5, e6, e7⟩ := pullD_same hp
  obtain ⟨k1, k2, k3⟩ := e7 rfl
  refine ⟨k1, ?_, ?_⟩
  · simp only at e4
    rw [e4] at k2 ⊢
    cases hL : s1.L with
    | nil => rw [hL] at k2; simp at k2
    | cons z L => rw [hL] at hl; simp at hl ⊢; omega
  · rw [hg, goD_next hnx hp]
    simp
theorem gor_good {T S now : Int} {s : DlS} {x : Hd} {A : List Hd} {s1 s3 : DlS} {x1 y : Hd} {ok3 : Bool} (hg : goD T S now s.L s x = ((goD T S now s1.L s1 x1).1, A ++ (goD T S now s1.L s1 x1).2.1, (goD T S now s1.L s1 x1).2.2.1, (goD T S now s1.L s1 x1).2.2.2)) (hnx : ¬ now < s1.next) (hp : pullD T S { s1 with count := s1.count + 1 } now = (s3, y, ok3, false)) :
    goD T S now s.L s x = ({ s3 with throws := false }, A ++ [x1], y, ok3) := by
  rw [hg, goD_next hnx hp]
  simp
theorem mid2 {w2 w3 : World} {b B i : Nat} {u : Value} {o : Obj} (hne : B ≠ b) (hB : w2.heap[B]? = some o) (ho : Ot (· = b) (w2.setCell ⟨b, i, none⟩ u) w3) : w3.heap[B]? = some o := by
  rw [ho.block B (by simpa using lt_of_block hB) hne]
  exact heap_other hne hB
theorem Hs.six {w : World} {u : Value} {A : List Hd} (h : Hs w u A) {r : Nat} (hv : ∀ k, u.ownBlock = some k → k ≠ r) (a0 a1 a2 a3 a4 a5 : Value) :
    Hs ((((((w.setCell ⟨r, 0, none⟩ a0).setCell ⟨r, 1, none⟩ a1).setCell ⟨r, 2, none⟩ a2).setCell ⟨r, 3, none⟩ a3).setCell ⟨r, 4, none⟩ a4).setCell ⟨r, 5, none⟩ a5) u A := by
  refine Seg.oth (S := (· = r)) h ?_ hv
  repeat' (first | with_reducible exact Ot.refl _ _ | with_reducible refine Ot.setCell ?_ (by simp) _)
theorem Hs.set9 {w : World} {u : Value} {A : List Hd} (h : Hs w u A) {b i : Nat} {a : Value} (hv : ∀ k, u.ownBlock = some k → k ≠ b) : Hs (w.setCell ⟨b, i, none⟩ a) u A :=
  Seg.oth (S := (· = b)) h (Ot.setCell (S := (· = b)) (Ot.refl _ _) (Or.inl rfl) _) hv
set_option maxRecDepth 20000 in
set_option maxHeartbeats 4000000 in
theorem goOn_any {b : Nat} {P R T S : Int} {v : Value} {s : DlS} (now : Int) (x : Hd) (w : World) (h : DAt w b P R T S v s) (hF : Fit s.L) (hS : 0 ≤ S) (hS1 : S ≤ 1000000) (hn0 : 0 ≤ now) (hn1 : now ≤ 20000000) (ha : ∀ x ∈ s.L, 0 ≤ x.a ∧ x.a ≤ 20000000) (ht : s.throws = true) (hc0 : 0 ≤ s.count) (hc1 : s.count + s.L.length ≤ 900000) (hx0 : 0 ≤ s.next) (hx1 : s.next ≤ 10000000000) :
    Calls Tryz.prog 156 #[.pointer (some ⟨b, 0, none⟩), .int .i64 now, x.val] w fun e w' => ∃ u, e = .returned (.tuple #[(goD T S now s.L s x).2.2.1.val, u, .bool (goD T S now s.L s x).2.2.2]) ∧ Hs w' u (goD T S now s.L s x).2.1 ∧ ∃ v', DAt w' b P R T S v' (goD T S now s.L s x).1 ∧ v'.ownBlock = v.ownBlock ∧ (∀ k, u.ownBlock = some k → w.heap.size ≤ k) ∧ Ot (· = b) w w' := by
  have H : Hid (DAt w b P R T S v s) := h
  have hb := LAt.lt h
  have hV := Hd.val_eq
  have HVL : Hid (∀ k, v.ownBlock = some k → k < w.heap.size) := fun k hk => h.row.lt hk
  have HA : Hid (∀ x ∈ s.L, 0 ≤ x.a ∧ x.a ≤ 20000000) := ha
  have HF : Hid (Fit s.L) := hF
  have HTH : Hid (s.throws = true) := ht
  have hFl : s.L.length ≤ 1000000 := hF.1
  clear h ha hF ht
  obtain ⟨i0, hi, hz0, hz1, hz2⟩ := info_parts infoHeld
  rw [Hd.val_eq x]
  go_enter Tryz.func156, Tryz.ntmps156
  go_wp2
  go_loopw [7, 8] (fun u o wr => ∃ (A : List Hd) (s1 : DlS) (x1 : Hd) (ok1 : Bool) (v1 : Value), o = .bool ok1 ∧ GoR T S now s x w b P R v A s1 x1 ok1 u v1 wr) (fun u _ _ => s.L.length + 2 - lenOf u)
  case atStart =>
    refine ⟨[], s, x, true, v, rfl, Or.inl ⟨HTH.out, rfl, by simp, by simp⟩, LAt.below H.out (below_alloc_ (below_alloc_ (Below.refl _ _) _) _), Hs.nil _, (Below.heap_alloc _ _ _ (by simp)).trans (new_block w _), new_block_ (by simp), rfl, fun k hk => by simp [Value.ownBlock] at hk, Ot.alloc (Ot.alloc (Ot.refl _ _) _) _, by simp, fun y h => h, ⟨hx0, hx1⟩⟩
  case round =>
    obtain ⟨A, s1, x1, ok1, v1, rfl, hr⟩ := hrel
    have HR : Hid (GoR T S now s x w b P R v A s1 x1 ok1 u7 v1 wr) := hr
    obtain ⟨⟨c5, c6, c7, c8, c9, c10, c11⟩, f7, f8, f9, f10, f11⟩ := hr.pos.cells
    obtain ⟨⟨z0, z1, z2, z3, z4, z5⟩, y0, y1, y2, y3, y4, y5⟩ := six hr.box
    obtain ⟨⟨r0, r1, r2, r3, r4, r5⟩, q0, q1, q2, q3, q4, q5⟩ := six hr.res
    have hbr := LAt.lt hr.pos
    have hwr := lt_of_block hr.res
    clear hr
    cases hth : s1.throws with
    | false =>
      have hg : goD T S now s.L s x = (s1, A, x1, ok1) := by
        rcases HR.out.fin with ⟨h, _⟩ | ⟨_, h⟩
        · rw [hth] at h; cases h
        · exact h
      go_wp2
      (try simp only [Exit.inBlock, Exit.then])
      rw [hg]
      refine bodyPost_ret (v := .tuple #[x1.val, u7, .bool ok1]) (ret_held2 rfl rfl (six_set HR.out.res _ _ _ _ _ _) rfl rfl) rfl ⟨u7, rfl, HR.out.lost.six (fun k hk => by have := HR.out.new k hk; omega) _ _ _ _ _ _, v1, LAt.six HR.out.pos (by omega) (fun k hk => by have := HVL.out k (by rw [← HR.out.blk, hk]); omega) _ _ _ _ _ _, HR.out.blk, fun k hk => by have := HR.out.new k hk; omega, ?_⟩
      have hO := HR.out.ot
      repeat' (first | with_reducible exact hO | with_reducible refine Ot.setCell ?_ (by simp) _)
    | true =>
      by_cases hnx : now < s1.next
      · have hg : goD T S now s.L s x = (s1, A, x1, ok1) := by
          rcases HR.out.fin with ⟨_, h1, _, h2⟩ | ⟨h, _⟩
          · rw [h2, goD_stop hnx, h1]; simp
          · rw [hth] at h; cases h
        go_wp2
        (try simp only [Exit.inBlock, Exit.then])
        rw [hg]
        refine bodyPost_ret (v := .tuple #[x1.val, u7, .bool ok1]) (ret_held2 rfl rfl (six_set HR.out.res _ _ _ _ _ _) rfl rfl) rfl ⟨u7, rfl, HR.out.lost.six (fun k hk => by have := HR.out.new k hk; omega) _ _ _ _ _ _, v1, LAt.six HR.out.pos (by omega) (fun k hk => by have := HVL.out k (by rw [← HR.out.blk, hk]); omega) _ _ _ _ _ _, HR.out.blk, fun k hk => by have := HR.out.new k hk; omega, ?_⟩
        have hO := HR.out.ot
        repeat' (first | with_reducible exact hO | with_reducible refine Ot.setCell ?_ (by simp) _)
      · obtain ⟨hok1, hlen, hgd⟩ : ok1 = true ∧ A.length + s1.L.length = s.L.length ∧ goD T S now s.L s x = ((goD T S now s1.L s1 x1).1, A ++ (goD T S now s1.L s1 x1).2.1, (goD T S now s1.L s1 x1).2.2.1, (goD T S now s1.L s1 x1).2.2.2) := by
          rcases HR.out.fin with ⟨_, h⟩ | ⟨h, _⟩
          · exact h
          · rw [hth] at h; cases h
        have HGD : Hid (goD T S now s.L s x = ((goD T S now s1.L s1 x1).1, A ++ (goD T S now s1.L s1 x1).2.1, (goD T S now s1.L s1 x1).2.2.1, (goD T S now s1.L s1 x1).2.2.2)) := hgd
        obtain ⟨p, hp⟩ : ∃ p, pullD T S { s1 with count := s1.count + 1 } now = p := ⟨_, rfl⟩
        obtain ⟨s3, y, ok3, bad3⟩ := p
        have HP : Hid (pullD T S { s1 with count := s1.count + 1 } now = (s3, y, ok3, bad3)) := hp
        have HPU : Hid (∀ (W : World) (v' : Value), DAt W b P R T S v' { s1 with count := s1.count + 1 } → Calls Tryz.prog 155 #[.pointer (some ⟨b, 0, none⟩), .int .i64 now] W fun e w' => e = .returned (.tuple #[y.val, .bool ok3, .bool bad3]) ∧ ∃ v'', DAt w' b P R T S v'' s3 ∧ v''.ownBlock = v'.ownBlock ∧ Ot (· = b) W w') := by
          intro W v' hD
          have hF1 : Fit s1.L := ⟨by omega, fun z hz => HF.out.2 z (HR.out.suf z hz)⟩
          have := pull_any now W hD hF1 hS hS1 hn0 hn1 (fun z hz => HA.out z (HR.out.suf z hz))
          rw [hp] at this
          exact this
        obtain ⟨p1, p2, p3, p4, p5, p6, p7⟩ := pullD_same hp
        simp only at p1 p2 p3 p4
        have HCN : Hid (s1.count = s.count + A.length) := HR.out.cnt
        have hcn : 0 ≤ s1.count ∧ s1.count ≤ s.count + A.length := by have := HCN.out; omega
        have hc3 : 1 ≤ s3.count ∧ s3.count ≤ 900001 := by omega
        have hn3 : 0 ≤ s3.next ∧ s3.next ≤ 10000000000 := by rw [p3]; exact HR.out.nxt
        have P2 : Hid (s3.count = s1.count + 1) := p2
        have P3 : Hid (s3.next = s1.next) := p3
        have hnx1 : 0 ≤ s1.next ∧ s1.next ≤ 10000000000 := HR.out.nxt
        have hla : A.length + 1 ≤ 1000001 := by omega
        have HSF : Hid (∀ z ∈ s3.L, z ∈ s.L) := fun z hz => HR.out.suf z (List.mem_of_mem_tail (by rw [p4] at hz; exact hz))
        have HLN : Hid (A.length + s1.L.length = s.L.length) := hlen
        have HNX : Hid (¬ now < s1.next) := hnx
        clear hp hgd p1 p2 p3 p4 p5 p6 p7
        cases bad3 with
        | false =>
          go_wp2_with (first | (at_builtin; refine wpList_append_seg _ rfl (.tmp 21) (.tmp 23) 74 rfl 76 i0 _ 6 48 Tryz.underlying74 hi hz0 hz1 hz2 rfl (by decide) _ _ _ rfl (Hs.below HR.out.lost (below_alloc_ (Below.refl _ _) _)) ⟨wr.heap.size, 0, none⟩ 1 1 x1.cs rfl rfl (news_of (new_block_ (by simp))) x1.one (by decide) (by unfold maxLen; omega) (by omega) _ rfl ?_; intro g off cap w2 hs2 hg2 ha2 hl2; obtain ⟨m0, m1, m2, m3, m4, m5⟩ := goOn_mid HR.out hb HVL.out hg2; obtain ⟨⟨d5, d6, d7, d8, d9, d10, d11⟩, e7, e8, e9, e10, e11⟩ := m0.cells; have hbw : b < w2.heap.size := (by omega); have HM0 : Hid (DAt w2 b P R T S v1 s1) := m0; clear m0) | (go_at_call 155; refine (HPU.out _ _ (HM0.out.rest 8 (.int .i64 (s1.count + 1)) rfl)).mono ?_; rintro e w3 ⟨rfl, v3, hD3, hk3, ho3⟩; have b3 := mid2 (B := w.heap.size) (by omega) m1 ho3; have r3 := mid2 (B := w.heap.size + 1) (by omega) m2 ho3; obtain ⟨⟨z0', z1', z2', z3', z4', z5'⟩, y0', y1', y2', y3', y4', y5'⟩ := six b3; obtain ⟨⟨d5', d6', d7', d8', d9', d10', d11'⟩, e7', e8', e9', e10', e11'⟩ := hD3.cells; have hbw3 : b < w3.heap.size := LAt.lt hD3; have hws3 := lt_of_block r3; have HV3 : Hid (∀ k, v3.ownBlock = some k → k ≠ w.heap.size) := fun k hk e => by { have := HVL.out k (by rw [← HR.out.blk, ← hk3, hk]); omega }; have HNW : Hid (∀ k, (Value.slice (some ⟨g, off, none⟩) (A.length + 1) cap).ownBlock = some k → w.heap.size + 2 ≤ k) := (by { intro k hk; simp only [Value.ownBlock, Option.some.injEq] at hk; subst hk; rcases ha2 with ha2 | ha2; exact HR.out.new _ ha2; simp at ha2; omega }); have HS3 : Hid (Hs w3 (.slice (some ⟨g, off, none⟩) (A.length + 1) cap) (A ++ [x1])) := Seg.oth (S := (· = b)) (Hs.set9 (Hs.snoc hs2 rfl) (fun k hk => by { have := HNW.out k hk; omega })) ho3 (fun k hk => by { have := HNW.out k hk; omega }); have HO3 : Hid (Ot (· = b) w w3) := (Ot.setCell m3 (Or.inl rfl) _).trans ho3))
          go_roundw
          case rel =>
            refine ⟨A ++ [x1], { s3 with throws := false }, y, ok3, v3, rfl, Or.inr ⟨rfl, gor_good HGD.out (by have := HNX.out; omega) HP.out⟩, (LAt.six hD3 (by omega) HV3.out _ _ _ _ _ _).rest 7 (.bool false) rfl, ?_, ?_, ?_, hk3.trans HR.out.blk, HNW.out, ?_, by show s3.count = _; rw [P2.out, HCN.out]; simp; omega, HSF.out, hn3⟩
            · exact Hs.set9 (Hs.six HS3.out (fun k hk => by have := HNW.out k hk; omega) _ _ _ _ _ _) (fun k hk => by have := HNW.out k hk; omega)
            · exact heap_other (by omega) (six_set b3 _ _ _ _ _ _)
            · exact heap_other (by omega) (heap_six (by omega) r3)
            · have hO := HO3.out
              repeat' (first | with_reducible exact hO | with_reducible refine Ot.setCell ?_ (by simp) _)
          case measure =>
            have h1 := HR.out.lost.len
            rw [h1]
            show s.L.length + 2 - (A.length + 1) < s.L.length + 2 - A.length
            omega
        | true =>
          go_wp2_with (first | (at_builtin; refine wpList_append_seg _ rfl (.tmp 21) (.tmp 23) 74 rfl 76 i0 _ 6 48 Tryz.underlying74 hi hz0 hz1 hz2 rfl (by decide) _ _ _ rfl (Hs.below HR.out.lost (below_alloc_ (Below.refl _ _) _)) ⟨wr.heap.size, 0, none⟩ 1 1 x1.cs rfl rfl (news_of (new_block_ (by simp))) x1.one (by decide) (by unfold maxLen; omega) (by omega) _ rfl ?_; intro g off cap w2 hs2 hg2 ha2 hl2; obtain ⟨m0, m1, m2, m3, m4, m5⟩ := goOn_mid HR.out hb HVL.out hg2; obtain ⟨⟨d5, d6, d7, d8, d9, d10, d11⟩, e7, e8, e9, e10, e11⟩ := m0.cells; have hbw : b < w2.heap.size := (by omega); have HM0 : Hid (DAt w2 b P R T S v1 s1) := m0; clear m0) | (go_at_call 155; refine (HPU.out _ _ (HM0.out.rest 8 (.int .i64 (s1.count + 1)) rfl)).mono ?_; rintro e w3 ⟨rfl, v3, hD3, hk3, ho3⟩; have b3 := mid2 (B := w.heap.size) (by omega) m1 ho3; have r3 := mid2 (B := w.heap.size + 1) (by omega) m2 ho3; obtain ⟨⟨z0', z1', z2', z3', z4', z5'⟩, y0', y1', y2', y3', y4', y5'⟩ := six b3; obtain ⟨⟨d5', d6', d7', d8', d9', d10', d11'⟩, e7', e8', e9', e10', e11'⟩ := hD3.cells; have hbw3 : b < w3.heap.size := LAt.lt hD3; have hws3 := lt_of_block r3; have HV3 : Hid (∀ k, v3.ownBlock = some k → k ≠ w.heap.size) := fun k hk e => by { have := HVL.out k (by rw [← HR.out.blk, ← hk3, hk]); omega }; have HNW : Hid (∀ k, (Value.slice (some ⟨g, off, none⟩) (A.length + 1) cap).ownBlock = some k → w.heap.size + 2 ≤ k) := (by { intro k hk; simp only [Value.ownBlock, Option.some.injEq] at hk; subst hk; rcases ha2 with ha2 | ha2; exact HR.out.new _ ha2; simp at ha2; omega }); have HS3 : Hid (Hs w3 (.slice (some ⟨g, off, none⟩) (A.length + 1) cap) (A ++ [x1])) := Seg.oth (S := (· = b)) (Hs.set9 (Hs.snoc hs2 rfl) (fun k hk => by { have := HNW.out k hk; omega })) ho3 (fun k hk => by { have := HNW.out k hk; omega }); have HO3 : Hid (Ot (· = b) w w3) := (Ot.setCell m3 (Or.inl rfl) _).trans ho3) | (go_at_call 158; refine (law_any (s := { s3 with throws := true }) s3.next _ ((LAt.six hD3 (by omega) HV3.out _ _ _ _ _ _).rest 7 (.bool true) rfl) hS hS1 (by show 1 ≤ s3.count; omega) (by show s3.count ≤ _; omega) (by omega) (by omega)).mono ?_; rintro e w4 ⟨rfl, q4, hw4⟩; subst hw4))
          go_roundw
          case rel =>
            obtain ⟨g1, g2, g3⟩ := gor_bad HLN.out HGD.out (by have := HNX.out; omega) HP.out
            have hlaw := lawD_le (n := s1.count + 1) hS hS1 hnx1.1
            refine ⟨A ++ [x1], { s3 with throws := true, next := lawD S (s1.count + 1) s1.next }, y, ok3, v3, rfl, Or.inl ⟨rfl, g1, g2, g3⟩, (((LAt.six hD3 (by omega) HV3.out _ _ _ _ _ _).rest 7 (.bool true) rfl).drewN _).rest 9 _ (by rw [← P2.out, ← P3.out]; rfl), ?_, ?_, ?_, hk3.trans HR.out.blk, HNW.out, ?_, by show s3.count = _; rw [P2.out, HCN.out]; simp; omega, HSF.out, by show 0 ≤ lawD _ _ _ ∧ lawD _ _ _ ≤ _; omega⟩
            · exact Hs.set9 (Seg.drewN (Hs.set9 (Hs.six HS3.out (fun k hk => by have := HNW.out k hk; omega) _ _ _ _ _ _) (fun k hk => by have := HNW.out k hk; omega)) _) (fun k hk => by have := HNW.out k hk; omega)
            · exact heap_other (by omega) (heap_drew (heap_other (by omega) (six_set b3 _ _ _ _ _ _)))
            · exact heap_other (by omega) (heap_drew (heap_other (by omega) (heap_six (by omega) r3)))
            · have hO := HO3.out
              repeat' (first | with_reducible exact hO | with_reducible refine Ot.setCell ?_ (by simp) _ | with_reducible refine Ot.drewN ?_ _)
          case measure =>
            have h1 := HR.out.lost.len
            rw [h1]
            show s.L.length + 2 - (A.length + 1) < s.L.length + 2 - A.length
            omega
end Go.Proofs.YtfakjedolecdcaaGreatDoor
