/-
  plain.Times: the steps with their times, in memory of the call's own; nothing that was there before is otherwise. Conditions: the steps lie in memory, a thousand at most.
-/
import Derived.Test.YtpgdocmpbeabpaaDoorSg
import Derived.Test.YtpgdocmpbeabpaaDoorU2
namespace Go.Proofs.YtpgdocmpbeabpaaDoor
open Go.RowKit Go.Extern.Stop Go.Stop Go.Extern

/-- A step: What, Later; At, Len, Flow, Band, Mark of its packet. -/
structure Stp where
  what : Int
  lt : Int
  a : Int
  l : Int
  f : Int
  b : Int
  m : Int
def Stp.cs (s : Stp) : List Value := [.int .i64 s.what, .int .i64 s.lt, .int .i64 s.a, .int .i64 s.l, .int .i64 s.f, .int .i64 s.b, .int .i64 s.m]
theorem Stp.len (s : Stp) : s.cs.length = 7 := rfl
theorem Stp.one (s : Stp) : ∀ u ∈ s.cs, u.oneCell' = true := by
  intro u hu
  simp only [Stp.cs, List.mem_cons, List.not_mem_nil, or_false] at hu
  rcases hu with rfl | rfl | rfl | rfl | rfl | rfl | rfl <;> rfl
/-- How many ticks later, from 0 to 1000. -/
def later (s : Stp) : Int := max 0 (min s.lt 1000)
theorem later_le (s : Stp) : 0 ≤ later s ∧ later s ≤ 1000 := by unfold later; omega
/-- A step at its time. -/
def timed (t : Int) (s : Stp) : Stp := { s with lt := t, a := t, what := if s.what = 0 ∧ It.ok ⟨t, s.l, s.f, s.b, s.m⟩ = false then 2 else s.what }
def nowAt (t : Int) : List Stp → Nat → Int
  | _, 0 => t
  | [], _ + 1 => t
  | s :: r, k + 1 => nowAt (t + later s) r k
def timesL (t : Int) : List Stp → List Stp
  | [] => []
  | s :: r => timed (t + later s) s :: timesL (t + later s) r
theorem timesL_length (t : Int) (xs : List Stp) : (timesL t xs).length = xs.length := by
  induction xs generalizing t with
  | nil => rfl
  | cons s r ih => simp [timesL, ih]
theorem nowAt_succ {t : Int} {xs : List Stp} {k : Nat} {s : Stp} (h : xs[k]? = some s) : nowAt t xs (k + 1) = nowAt t xs k + later s := by
  induction xs generalizing t k with
  | nil => simp at h
  | cons y r ih =>
    cases k with
    | zero =>
      simp at h; subst h
      cases r <;> rfl
    | succ k => simpa [nowAt] using ih (t := t + later y) (by simpa using h)
theorem timesL_at {t : Int} {xs : List Stp} {k : Nat} {s : Stp} (h : xs[k]? = some s) : (timesL t xs)[k]? = some (timed (nowAt t xs (k + 1)) s) := by
  induction xs generalizing t k with
  | nil => simp at h
  | cons y r ih =>
    cases k with
    | zero =>
      simp at h; subst h
      cases r <;> simp [timesL, nowAt]
    | succ k => simpa [timesL, nowAt] using ih (t := t + later y) (by simpa using h)
theorem nowAt_le (t : Int) (xs : List Stp) (k : Nat) : t ≤ nowAt t xs k ∧ nowAt t xs k ≤ t + 1000 * k := by
  induction xs generalizing t k with
  | nil => cases k <;> simp only [nowAt] <;> omega
  | cons y r ih =>
    cases k with
    | zero => simp only [nowAt]; omega
    | succ k =>
      have := ih (t + later y) k
      have := later_le y
      simp only [nowAt]
      omega
/-- Cells lie in memory, from an address on. -/
def Lies (w : World) (x : Option Addr) (cells : List Value) : Prop := cells = [] ∨ ∃ b off, x = some ⟨b, off, none⟩ ∧ b < w.heap.size ∧ ∀ j u, cells[j]? = some u → w.cell? ⟨b, off + j, none⟩ = some u
theorem Lies.below {w w' : World} {x : Option Addr} {cells : List Value} (h : Lies w x cells) (hb : Below w.heap.size w w') : Lies w' x cells := by
  rcases h with h | ⟨b, off, e, hl, h⟩
  · exact Or.inl h
  · exact Or.inr ⟨b, off, e, Nat.lt_of_lt_of_le hl hb.size, fun j u hj => by rw [hb.cell (p := ⟨b, off + j, none⟩) hl]; exact h j u hj⟩
theorem Lies.ot {S : Nat → Prop} {w w' : World} {x : Option Addr} {cells : List Value} (h : Lies w x cells) (hb : Ot S w w') (hs : ∀ a, x = some a → ¬ S a.block) : Lies w' x cells := by
  rcases h with h | ⟨b, off, e, hl, h⟩
  · exact Or.inl h
  · exact Or.inr ⟨b, off, e, Nat.lt_of_lt_of_le hl hb.size, fun j u hj => by rw [hb.cell (p := ⟨b, off + j, none⟩) hl (hs ⟨b, off, none⟩ e)]; exact h j u hj⟩
theorem Seg.lies {w : World} {e : TypeId} {k : Nat} {v : Value} {n : Nat} {xs : List Value} (h : Seg w e k v n xs) : ∃ x cap, v = .slice x n cap ∧ Lies w x xs := by
  rcases h.form with ⟨rfl, h0, hx⟩ | ⟨b, off, cap, rfl, _, _, hl, h⟩
  · exact ⟨none, 0, by rw [h0], Or.inl hx⟩
  · exact ⟨_, cap, rfl, Or.inr ⟨b, off, rfl, hl, h⟩⟩
theorem Lies.seven {w : World} {x : Option Addr} {xs : List Stp} (h : Lies w x (flt Stp.cs xs)) {k : Nat} {s : Stp} (hk : xs[k]? = some s) : ∃ b off, x = some ⟨b, off, none⟩ ∧ b < w.heap.size ∧ w.cell? ⟨b, off + k * 7, none⟩ = some (.int .i64 s.what) ∧ w.cell? ⟨b, off + k * 7 + 1, none⟩ = some (.int .i64 s.lt) ∧ w.cell? ⟨b, off + k * 7 + 2, none⟩ = some (.int .i64 s.a) ∧ w.cell? ⟨b, off + k * 7 + 3, none⟩ = some (.int .i64 s.l) ∧ w.cell? ⟨b, off + k * 7 + 4, none⟩ = some (.int .i64 s.f) ∧ w.cell? ⟨b, off + k * 7 + 5, none⟩ = some (.int .i64 s.b) ∧ w.cell? ⟨b, off + k * 7 + 6, none⟩ = some (.int .i64 s.m) := by
  have hat : ∀ j, j < 7 → (flt Stp.cs xs)[k * 7 + j]? = s.cs[j]? := fun j hj => flt_at Stp.cs 7 Stp.len hk hj
  rcases h with h | ⟨b, off, e, hl, h⟩
  · have := hat 0 (by omega)
    rw [h] at this
    simp [Stp.cs] at this
  · refine ⟨b, off, e, hl, ?_, ?_, ?_, ?_, ?_, ?_, ?_⟩
    · exact h _ _ (hat 0 (by omega))
    · exact h _ _ (hat 1 (by omega))
    · exact h _ _ (hat 2 (by omega))
    · exact h _ _ (hat 3 (by omega))
    · exact h _ _ (hat 4 (by omega))
    · exact h _ _ (hat 5 (by omega))
    · exact h _ _ (hat 6 (by omega))
theorem infoStep : (Tryd.prog.info? 39).map (fun i => (i.zero, i.size, i.bytes)) = some (some (.agg #[.int .i64 0, .int .i64 0, .int .i64 0, .int .i64 0, .int .i64 0, .int .i64 0, .int .i64 0]), 7, 56) := by kernel_rfl
/-- The steps with their times, as far as k. -/
def Tms (xs : List Stp) (k : Nat) : List Stp := (timesL 0 xs).take k
theorem Tms_succ {xs : List Stp} {k : Nat} {s : Stp} (h : xs[k]? = some s) : Tms xs (k + 1) = Tms xs k ++ [timed (nowAt 0 xs k + later s) s] := by
  unfold Tms
  rw [List.take_add_one, timesL_at h, nowAt_succ h]
  rfl
theorem Tms_length {xs : List Stp} {k : Nat} (h : k ≤ xs.length) : (Tms xs k).length = k := by simp [Tms, timesL_length]; omega
theorem Tms_all (xs : List Stp) : Tms xs xs.length = timesL 0 xs := by rw [Tms, List.take_of_length_le (by rw [timesL_length]; exact Nat.le_refl _)]
def Sts (w : World) (v : Value) (xs : List Stp) : Prop := Seg w 39 7 v xs.length (flt Stp.cs xs)

set_option maxRecDepth 20000 in
set_option maxHeartbeats 4000000 in
theorem times_any (x : Option Addr) (cap : Nat) (xs : List Stp) (w : World) (h : Lies w x (flt Stp.cs xs)) (hn : xs.length ≤ 1000) :
    Calls Tryd.prog 10 #[.slice x xs.length cap] w fun e w' => ∃ u, e = .returned u ∧ Sts w' u (timesL 0 xs) ∧ (∀ k, u.ownBlock = some k → w.heap.size ≤ k) ∧ Below w.heap.size w w' := by
  have HL : Hid (Lies w x (flt Stp.cs xs)) := h
  clear h
  generalize hq : xs.length = q at *
  have HN : Hid (xs.length = q) := hq
  clear hq
  obtain ⟨i0, hi, hz0, hz1, hz2⟩ := info_parts infoStep
  go_enter Tryd.func10, Tryd.ntmps10
  go_wp2
  go_loopw [3, 4, 9] (fun u t i wr => ∃ k : Nat, k ≤ q ∧ i = .int .i64 k ∧ t = .int .i64 (nowAt 0 xs k) ∧ Seg wr 39 7 u k (flt Stp.cs (Tms xs k)) ∧ (∀ k, u.ownBlock = some k → w.heap.size ≤ k) ∧ Below w.heap.size w wr) (fun _ _ i _ => q - (intOf i).toNat)
  case atStart => exact ⟨0, Nat.zero_le _, rfl, by cases xs <;> rfl, Seg.nil _ _ _, fun k hk => by simp [Value.ownBlock] at hk, Below.refl _ _⟩
  case round =>
    obtain ⟨k, hk, rfl, rfl, hs, hnw, hb⟩ := hrel
    have HS : Hid (Seg wr 39 7 u3 k (flt Stp.cs (Tms xs k))) := hs
    have HW : Hid (∀ k, u3.ownBlock = some k → w.heap.size ≤ k) := hnw
    clear hs hnw
    by_cases hlt : k < q
    · obtain ⟨s, hx⟩ : ∃ s, xs[k]? = some s := ⟨_, List.getElem?_eq_getElem (by have := HN.out; omega)⟩
      have HX : Hid (xs[k]? = some s) := hx
      obtain ⟨b, off, rfl, hbl, c0, c1, c2, c3, c4, c5, c6⟩ := (HL.out.below hb).seven hx
      clear hx
      obtain ⟨t, ht⟩ : ∃ t, nowAt 0 xs k = t := ⟨_, rfl⟩
      have HT : Hid (nowAt 0 xs k = t) := ht
      have ht0 : 0 ≤ t ∧ t ≤ 1000 * k := by have := nowAt_le 0 xs k; omega
      rw [ht]
      clear ht
      obtain ⟨m, hm⟩ : ∃ m, t + later s = m := ⟨_, rfl⟩
      have HQ : Hid (∀ {u : Value} {w2 : World} {l : List Value} {W : World}, Seg w2 39 7 u (k + 1) (flt Stp.cs (Tms xs k) ++ l) → l = (timed m s).cs → Seg w2 39 7 u (k + 1) (flt Stp.cs (Tms xs (k + 1)))) := by
        intro u w2 l W h1 h2
        rw [Tms_succ HX.out, HT.out, flt_append, flt_one, hm, ← h2]
        exact h1
      have HM : Hid (nowAt 0 xs (k + 1) = m) := by rw [← hm, ← HT.out]; exact nowAt_succ HX.out
      have hcase : (s.lt ≤ 0 ∧ t = m) ∨ (0 < s.lt ∧ s.lt < 1000 ∧ t + s.lt = m) ∨ (1000 ≤ s.lt ∧ t + 1000 = m) := by rw [← hm]; unfold later; omega
      have hm0 : 0 ≤ m ∧ m ≤ 1000 * k + 1000 := by have := later_le s; omega
      clear hm
      go_upto_region 6 with (fail)
      go_cut [4] (fun v wx => v = .int .i64 m ∧ wx = wr.alloc (.cells #[.int .i64 s.what, .int .i64 s.lt, .int .i64 s.a, .int .i64 s.l, .int .i64 s.f, .int .i64 s.b, .int .i64 s.m] 39))
      case first =>
        rcases hcase with ⟨h1, h2⟩ | ⟨h1, h2, h3⟩ | ⟨h1, h2⟩
        · subst h2
          go_wp2
          all_goals
            go_meet
            case rel => exact ⟨rfl, rfl⟩
        · have H3 : Hid (t + s.lt = m) := h3
          clear h3
          go_wp2
          all_goals
            go_meet
            case rel => exact ⟨by have := H3.out; first | (congr 1; done) | (congr 1; omega), rfl⟩
        · have H3 : Hid (t + 1000 = m) := h2
          clear h2
          go_wp2
          all_goals
            go_meet
            case rel => exact ⟨by have := H3.out; first | (congr 1; done) | (congr 1; omega), rfl⟩
      case rest =>
      obtain ⟨rfl, rfl⟩ := hcut
      by_cases hw : s.what = 0
      · cases hok : It.ok ⟨m, s.l, s.f, s.b, s.m⟩ with
        | true =>
          have HK : Hid (It.ok ⟨m, s.l, s.f, s.b, s.m⟩ = true) := hok
          clear hok
          have HT2 : Hid (timed m s = ⟨0, m, m, s.l, s.f, s.b, s.m⟩) := by
            show _ = _
            simp [timed, HK.out, hw]
          go_wp2_with (first | (go_at_call 21; refine (check_yes _ _ _ _ _ _ HK.out).mono ?_; rintro e w1 ⟨rfl, rfl⟩) | (at_builtin; refine wpList_append_seg _ rfl (.tmp 34) (.tmp 36) 23 rfl 39 i0 _ 7 56 Tryd.underlying23 hi hz0 hz1 hz2 rfl (by decide) _ _ _ rfl (HS.out.below (by repeat' (first | with_reducible exact Below.refl _ _ | with_reducible refine Below.drew ?_ | with_reducible refine below_alloc_ ?_ _ | with_reducible refine below_set_ ?_ (by simp) _))) _ 1 1 _ rfl rfl (news_of (new_block_ (by simp))) (by simp [Value.oneCell']) (by decide) (by unfold maxLen; omega) (by omega) _ rfl ?_; intro g off cap w2 hs2 hg2 ha2 hl2))
          go_roundw
          case rel =>
            refine ⟨k + 1, by omega, by go_num, by rw [HM.out], HQ.out (W := w) hs2 (by rw [HT2.out]; rfl), ?_, ?_⟩
            · intro j hj
              simp only [Value.ownBlock, Option.some.injEq] at hj
              subst hj
              rcases ha2 with ha2 | ha2
              · exact HW.out _ ha2
              · have h1 := hb.size
                simp at ha2
                omega
            · refine below_grown_ ?_ hg2 HW.out
              repeat' (first | with_reducible exact hb | with_reducible refine Below.drew ?_ | with_reducible refine below_alloc_ ?_ _ | with_reducible refine below_set_ ?_ (by simp; have := hb.size; omega) _)
          case measure => simp [intOf]; omega
        | false =>
          have HK : Hid (It.ok ⟨m, s.l, s.f, s.b, s.m⟩ = false) := hok
          clear hok
          have HT2 : Hid (timed m s = ⟨2, m, m, s.l, s.f, s.b, s.m⟩) := by
            show _ = _
            simp [timed, HK.out, hw]
          go_wp2_with (first | (go_at_call 21; refine (check_no _ _ _ _ _ _ HK.out).mono ?_; rintro e w1 ⟨rfl, rfl⟩) | (at_builtin; refine wpList_append_seg _ rfl (.tmp 34) (.tmp 36) 23 rfl 39 i0 _ 7 56 Tryd.underlying23 hi hz0 hz1 hz2 rfl (by decide) _ _ _ rfl (HS.out.below (by repeat' (first | with_reducible exact Below.refl _ _ | with_reducible refine Below.drew ?_ | with_reducible refine below_alloc_ ?_ _ | with_reducible refine below_set_ ?_ (by simp) _))) _ 1 1 _ rfl rfl (news_of (new_block_ (by simp))) (by simp [Value.oneCell']) (by decide) (by unfold maxLen; omega) (by omega) _ rfl ?_; intro g off cap w2 hs2 hg2 ha2 hl2))
          go_roundw
          case rel =>
            refine ⟨k + 1, by omega, by go_num, by rw [HM.out], HQ.out (W := w) hs2 (by rw [HT2.out]; rfl), ?_, ?_⟩
            · intro j hj
              simp only [Value.ownBlock, Option.some.injEq] at hj
              subst hj
              rcases ha2 with ha2 | ha2
              · exact HW.out _ ha2
              · have h1 := hb.size
                simp at ha2
                omega
            · refine below_grown_ ?_ hg2 HW.out
              repeat' (first | with_reducible exact hb | with_reducible refine Below.drew ?_ | with_reducible refine below_alloc_ ?_ _ | with_reducible refine below_set_ ?_ (by simp; have := hb.size; omega) _)
          case measure => simp [intOf]; omega
      · have hw2 : (s.what == 0) = false := by simpa using hw
        have HT2 : Hid (timed m s = ⟨s.what, m, m, s.l, s.f, s.b, s.m⟩) := by
          show _ = _
          simp [timed, hw]
        go_wp2_with (first | (at_builtin; refine wpList_append_seg _ rfl (.tmp 34) (.tmp 36) 23 rfl 39 i0 _ 7 56 Tryd.underlying23 hi hz0 hz1 hz2 rfl (by decide) _ _ _ rfl (HS.out.below (by repeat' (first | with_reducible exact Below.refl _ _ | with_reducible refine Below.drew ?_ | with_reducible refine below_alloc_ ?_ _ | with_reducible refine below_set_ ?_ (by simp) _))) _ 1 1 _ rfl rfl (news_of (new_block_ (by simp))) (by simp [Value.oneCell']) (by decide) (by unfold maxLen; omega) (by omega) _ rfl ?_; intro g off cap w2 hs2 hg2 ha2 hl2))
        go_roundw
        case rel =>
          refine ⟨k + 1, by omega, by go_num, by rw [HM.out], HQ.out (W := w) hs2 (by rw [HT2.out]; rfl), ?_, ?_⟩
          · intro j hj
            simp only [Value.ownBlock, Option.some.injEq] at hj
            subst hj
            rcases ha2 with ha2 | ha2
            · exact HW.out _ ha2
            · have h1 := hb.size
              simp at ha2
              omega
          · refine below_grown_ ?_ hg2 HW.out
            repeat' (first | with_reducible exact hb | with_reducible refine Below.drew ?_ | with_reducible refine below_alloc_ ?_ _ | with_reducible refine below_set_ ?_ (by simp; have := hb.size; omega) _)
        case measure => simp [intOf]; omega
    · obtain rfl : k = q := by omega
      go_wp2
      go_ret
      refine ⟨u3, rfl, ?_, HW.out, hb⟩
      have := HS.out
      rw [← HN.out, Tms_all] at this
      unfold Sts
      rw [timesL_length]
      exact this
end Go.Proofs.YtpgdocmpbeabpaaDoor
