/-
  plain.Times: the steps with their times, in memory of the call's own; nothing that was there before is otherwise. Conditions: the steps lie in memory, a thousand at most.
  plain.Play's closure: the numbers of packets are put behind what was lost. Conditions: the packets and what was seen lie in memory, apart.
  plain.Play with whatever queue: what is seen step by step, in memory of the call's own. Conditions: the steps lie in memory, a thousand at most; the queue's methods do what a model of it tells (a premise).
-/
import Derived.Test.YtfakjedolecdcaaGreatDoorSg
import Derived.Test.YtfakjedolecdcaaGreatDoorU2
import Derived.Test.YtfakjedolecdcaaGreatDoorQd
namespace Go.Proofs.YtfakjedolecdcaaGreatDoor
open Go.RowKit Go.Extern.Stop Go.Stop Go.Extern

/-- A step: What, Later; At, Len, Flow, Band, Mark of its packet. -/
structure Stp where
  what : Int
  lt : Int
  a : Int
  l : Int
  f : Int
  b : Int
  m : Int
def Stp.cs (s : Stp) : List Value := [.int .i64 s.what, .int .i64 s.lt, .int .i64 s.a, .int .i64 s.l, .int .i64 s.f, .int .i64 s.b, .int .i64 s.m]
theorem Stp.len (s : Stp) : s.cs.length = 7 := rfl
theorem Stp.one (s : Stp) : ∀ u ∈ s.cs, u.oneCell' = true := by
  intro u hu
  simp only [Stp.cs, List.mem_cons, List.not_mem_nil, or_false] at hu
  rcases hu with rfl | rfl | rfl | rfl | rfl | rfl | rfl <;> rfl
/-- How many ticks later, from 0 to 1000. -/
def later (s : Stp) : Int := max 0 (min s.lt 1000)
theorem later_le (s : Stp) : 0 ≤ later s ∧ later s ≤ 1000 := by unfold later; omega
/-- A step at its time. -/
def timed (t : Int) (s : Stp) : Stp := { s with lt := t, a := t, what := if s.what = 0 ∧ It.ok ⟨t, s.l, s.f, s.b, s.m⟩ = false then 2 else s.what }
def nowAt (t : Int) : List Stp → Nat → Int
  | _, 0 => t
  | [], _ + 1 => t
  | s :: r, k + 1 => nowAt (t + later s) r k
def timesL (t : Int) : List Stp → List Stp
  | [] => []
  | s :: r => timed (t + later s) s :: timesL (t + later s) r
theorem timesL_length (t : Int) (xs : List Stp) : (timesL t xs).length = xs.length := by
  induction xs generalizing t with
  | nil => rfl
  | cons s r ih => simp [timesL, ih]
theorem nowAt_succ {t : Int} {xs : List Stp} {k : Nat} {s : Stp} (h : xs[k]? = some s) : nowAt t xs (k + 1) = nowAt t xs k + later s := by
  induction xs generalizing t k with
  | nil => simp at h
  | cons y r ih =>
    cases k with
    | zero =>
      simp at h; subst h
      cases r <;> rfl
    | succ k => simpa [nowAt] using ih (t := t + later y) (by simpa using h)
theorem timesL_at {t : Int} {xs : List Stp} {k : Nat} {s : Stp} (h : xs[k]? = some s) : (timesL t xs)[k]? = some (timed (nowAt t xs (k + 1)) s) := by
  induction xs generalizing t k with
  | nil => simp at h
  | cons y r ih =>
    cases k with
    | zero =>
      simp at h; subst h
      cases r <;> simp [timesL, nowAt]
    | succ k => simpa [timesL, nowAt] using ih (t := t + later y) (by simpa using h)
theorem nowAt_le (t : Int) (xs : List Stp) (k : Nat) : t ≤ nowAt t xs k ∧ nowAt t xs k ≤ t + 1000 * k := by
  induction xs generalizing t k with
  | nil => cases k <;> simp only [nowAt] <;> omega
  | cons y r ih =>
    cases k with
    | zero => simp only [nowAt]; omega
    | succ k =>
      have := ih (t + later y) k
      have := later_le y
      simp only [nowAt]
      omega
/-- Cells lie in memory, from an address on. -/
def Lies (w : World) (x : Option Addr) (cells : List Value) : Prop := cells = [] ∨ ∃ b off, x = some ⟨b, off, none⟩ ∧ b < w.heap.size ∧ ∀ j u, cells[j]? = some u → w.cell? ⟨b, off + j, none⟩ = some u
theorem Lies.below {w w' : World} {x : Option Addr} {cells : List Value} (h : Lies w x cells) (hb : Below w.heap.size w w') : Lies w' x cells := by
  rcases h with h | ⟨b, off, e, hl, h⟩
  · exact Or.inl h
  · exact Or.inr ⟨b, off, e, Nat.lt_of_lt_of_le hl hb.size, fun j u hj => by rw [hb.cell (p := ⟨b, off + j, none⟩) hl]; exact h j u hj⟩
theorem Lies.ot {S : Nat → Prop} {w w' : World} {x : Option Addr} {cells : List Value} (h : Lies w x cells) (hb : Ot S w w') (hs : ∀ a, x = some a → ¬ S a.block) : Lies w' x cells := by
  rcases h with h | ⟨b, off, e, hl, h⟩
  · exact Or.inl h
  · exact Or.inr ⟨b, off, e, Nat.lt_of_lt_of_le hl hb.size, fun j u hj => by rw [hb.cell (p := ⟨b, off + j, none⟩) hl (hs ⟨b, off, none⟩ e)]; exact h j u hj⟩
theorem Seg.lies {w : World} {e : TypeId} {k : Nat} {v : Value} {n : Nat} {xs : List Value} (h : Seg w e k v n xs) : ∃ x cap, v = .slice x n cap ∧ Lies w x xs := by
  rcases h.form with ⟨rfl, h0, hx⟩ | ⟨b, off, cap, rfl, _, _, hl, h⟩
  · exact ⟨none, 0, by rw [h0], Or.inl hx⟩
  · exact ⟨_, cap, rfl, Or.inr ⟨b, off, rfl, hl, h⟩⟩
theorem Lies.seven {w : World} {x : Option Addr} {xs : List Stp} (h : Lies w x (flt Stp.cs xs)) {k : Nat} {s : Stp} (hk : xs[k]? = some s) : ∃ b off, x = some ⟨b, off, none⟩ ∧ b < w.heap.size ∧ w.cell? ⟨b, off + k * 7, none⟩ = some (.int .i64 s.what) ∧ w.cell? ⟨b, off + k * 7 + 1, none⟩ = some (.int .i64 s.lt) ∧ w.cell? ⟨b, off + k * 7 + 2, none⟩ = some (.int .i64 s.a) ∧ w.cell? ⟨b, off + k * 7 + 3, none⟩ = some (.int .i64 s.l) ∧ w.cell? ⟨b, off + k * 7 + 4, none⟩ = some (.int .i64 s.f) ∧ w.cell? ⟨b, off + k * 7 + 5, none⟩ = some (.int .i64 s.b) ∧ w.cell? ⟨b, off + k * 7 + 6, none⟩ = some (.int .i64 s.m) := by
  have hat : ∀ j, j < 7 → (flt Stp.cs xs)[k * 7 + j]? = s.cs[j]? := fun j hj => flt_at Stp.cs 7 Stp.len hk hj
  rcases h with h | ⟨b, off, e, hl, h⟩
  · have := hat 0 (by omega)
    rw [h] at this
    simp [Stp.cs] at this
  · refine ⟨b, off, e, hl, ?_, ?_, ?_, ?_, ?_, ?_, ?_⟩
    · exact h _ _ (hat 0 (by omega))
    · exact h _ _ (hat 1 (by omega))
    · exact h _ _ (hat 2 (by omega))
    · exact h _ _ (hat 3 (by omega))
    · exact h _ _ (hat 4 (by omega))
    · exact h _ _ (hat 5 (by omega))
    · exact h _ _ (hat 6 (by omega))
theorem infoStep : (Tryz.prog.info? 70).map (fun i => (i.zero, i.size, i.bytes)) = some (some (.agg #[.int .i64 0, .int .i64 0, .int .i64 0, .int .i64 0, .int .i64 0, .int .i64 0, .int .i64 0]), 7, 56) := by kernel_rfl
/-- The steps with their times, as far as k. -/
def Tms (xs : List Stp) (k : Nat) : List Stp := (timesL 0 xs).take k
theorem Tms_succ {xs : List Stp} {k : Nat} {s : Stp} (h : xs[k]? = some s) : Tms xs (k + 1) = Tms xs k ++ [timed (nowAt 0 xs k + later s) s] := by
  unfold Tms
  rw [List.take_add_one, timesL_at h, nowAt_succ h]
  rfl
theorem Tms_length {xs : List Stp} {k : Nat} (h : k ≤ xs.length) : (Tms xs k).length = k := by simp [Tms, timesL_length]; omega
theorem Tms_all (xs : List Stp) : Tms xs xs.length = timesL 0 xs := by rw [Tms, List.take_of_length_le (by rw [timesL_length]; exact Nat.le_refl _)]
def Sts (w : World) (v : Value) (xs : List Stp) : Prop := Seg w 70 7 v xs.length (flt Stp.cs xs)

set_option maxRecDepth 20000 in
set_option maxHeartbeats 4000000 in
theorem times_any (x : Option Addr) (cap : Nat) (xs : List Stp) (w : World) (h : Lies w x (flt Stp.cs xs)) (hn : xs.length ≤ 1000) :
    Calls Tryz.prog 23 #[.slice x xs.length cap] w fun e w' => ∃ u, e = .returned u ∧ Sts w' u (timesL 0 xs) ∧ (∀ k, u.ownBlock = some k → w.heap.size ≤ k) ∧ Below w.heap.size w w' := by
  have HL : Hid (Lies w x (flt Stp.cs xs)) := h
  clear h
  generalize hq : xs.length = q at *
  have HN : Hid (xs.length = q) := hq
  clear hq
  obtain ⟨i0, hi, hz0, hz1, hz2⟩ := info_parts infoStep
  go_enter Tryz.func23, Tryz.ntmps23
  go_wp2
  go_loopw [3, 4, 9] (fun u t i wr => ∃ k : Nat, k ≤ q ∧ i = .int .i64 k ∧ t = .int .i64 (nowAt 0 xs k) ∧ Seg wr 70 7 u k (flt Stp.cs (Tms xs k)) ∧ (∀ k, u.ownBlock = some k → w.heap.size ≤ k) ∧ Below w.heap.size w wr) (fun _ _ i _ => q - (intOf i).toNat)
  case atStart => exact ⟨0, Nat.zero_le _, rfl, by cases xs <;> rfl, Seg.nil _ _ _, fun k hk => by simp [Value.ownBlock] at hk, Below.refl _ _⟩
  case round =>
    obtain ⟨k, hk, rfl, rfl, hs, hnw, hb⟩ := hrel
    have HS : Hid (Seg wr 70 7 u3 k (flt Stp.cs (Tms xs k))) := hs
    have HW : Hid (∀ k, u3.ownBlock = some k → w.heap.size ≤ k) := hnw
    clear hs hnw
    by_cases hlt : k < q
    · obtain ⟨s, hx⟩ : ∃ s, xs[k]? = some s := ⟨_, List.getElem?_eq_getElem (by have := HN.out; omega)⟩
      have HX : Hid (xs[k]? = some s) := hx
      obtain ⟨b, off, rfl, hbl, c0, c1, c2, c3, c4, c5, c6⟩ := (HL.out.below hb).seven hx
      clear hx
      obtain ⟨t, ht⟩ : ∃ t, nowAt 0 xs k = t := ⟨_, rfl⟩
      have HT : Hid (nowAt 0 xs k = t) := ht
      have ht0 : 0 ≤ t ∧ t ≤ 1000 * k := by have := nowAt_le 0 xs k; omega
      rw [ht]
      clear ht
      obtain ⟨m, hm⟩ : ∃ m, t + later s = m := ⟨_, rfl⟩
      have HQ : Hid (∀ {u : Value} {w2 : World} {l : List Value} {W : World}, Seg w2 70 7 u (k + 1) (flt Stp.cs (Tms xs k) ++ l) → l = (timed m s).cs → Seg w2 70 7 u (k + 1) (flt Stp.cs (Tms xs (k + 1)))) := by
        intro u w2 l W h1 h2
        rw [Tms_succ HX.out, HT.out, flt_append, flt_one, hm, ← h2]
        exact h1
      have HM : Hid (nowAt 0 xs (k + 1) = m) := by rw [← hm, ← HT.out]; exact nowAt_succ HX.out
      have hcase : (s.lt ≤ 0 ∧ t = m) ∨ (0 < s.lt ∧ s.lt < 1000 ∧ t + s.lt = m) ∨ (1000 ≤ s.lt ∧ t + 1000 = m) := by rw [← hm]; unfold later; omega
      have hm0 : 0 ≤ m ∧ m ≤ 1000 * k + 1000 := by have := later_le s; omega
      clear hm
      go_upto_region 6 with (fail)
      go_cut [4] (fun v wx => v = .int .i64 m ∧ wx = wr.alloc (.cells #[.int .i64 s.what, .int .i64 s.lt, .int .i64 s.a, .int .i64 s.l, .int .i64 s.f, .int .i64 s.b, .int .i64 s.m] 70))
      case first =>
        rcases hcase with ⟨h1, h2⟩ | ⟨h1, h2, h3⟩ | ⟨h1, h2⟩
        · subst h2
          go_wp2
          all_goals
            go_meet
            case rel => exact ⟨rfl, rfl⟩
        · have H3 : Hid (t + s.lt = m) := h3
          clear h3
          go_wp2
          all_goals
            go_meet
            case rel => exact ⟨by have := H3.out; first | (congr 1; done) | (congr 1; omega), rfl⟩
        · have H3 : Hid (t + 1000 = m) := h2
          clear h2
          go_wp2
          all_goals
            go_meet
            case rel => exact ⟨by have := H3.out; first | (congr 1; done) | (congr 1; omega), rfl⟩
      case rest =>
      obtain ⟨rfl, rfl⟩ := hcut
      by_cases hw : s.what = 0
      · cases hok : It.ok ⟨m, s.l, s.f, s.b, s.m⟩ with
        | true =>
          have HK : Hid (It.ok ⟨m, s.l, s.f, s.b, s.m⟩ = true) := hok
          clear hok
          have HT2 : Hid (timed m s = ⟨0, m, m, s.l, s.f, s.b, s.m⟩) := by
            show _ = _
            simp [timed, HK.out, hw]
          go_wp2_with (first | (go_at_call 38; refine (check_yes _ _ _ _ _ _ HK.out).mono ?_; rintro e w1 ⟨rfl, rfl⟩) | (at_builtin; refine wpList_append_seg _ rfl (.tmp 34) (.tmp 36) 23 rfl 70 i0 _ 7 56 Tryz.underlying23 hi hz0 hz1 hz2 rfl (by decide) _ _ _ rfl (HS.out.below (by repeat' (first | with_reducible exact Below.refl _ _ | with_reducible refine Below.drew ?_ | with_reducible refine below_alloc_ ?_ _ | with_reducible refine below_set_ ?_ (by simp) _))) _ 1 1 _ rfl rfl (news_of (new_block_ (by simp))) (by simp [Value.oneCell']) (by decide) (by unfold maxLen; omega) (by omega) _ rfl ?_; intro g off cap w2 hs2 hg2 ha2 hl2))
          go_roundw
          case rel =>
            refine ⟨k + 1, by omega, by go_num, by rw [HM.out], HQ.out (W := w) hs2 (by rw [HT2.out]; rfl), ?_, ?_⟩
            · intro j hj
              simp only [Value.ownBlock, Option.some.injEq] at hj
              subst hj
              rcases ha2 with ha2 | ha2
              · exact HW.out _ ha2
              · have h1 := hb.size
                simp at ha2
                omega
            · refine below_grown_ ?_ hg2 HW.out
              repeat' (first | with_reducible exact hb | with_reducible refine Below.drew ?_ | with_reducible refine below_alloc_ ?_ _ | with_reducible refine below_set_ ?_ (by simp; have := hb.size; omega) _)
          case measure => simp [intOf]; omega
        | false =>
          have HK : Hid (It.ok ⟨m, s.l, s.f, s.b, s.m⟩ = false) := hok
          clear hok
          have HT2 : Hid (timed m s = ⟨2, m, m, s.l, s.f, s.b, s.m⟩) := by
            show _ = _
            simp [timed, HK.out, hw]
          go_wp2_with (first | (go_at_call 38; refine (check_no _ _ _ _ _ _ HK.out).mono ?_; rintro e w1 ⟨rfl, rfl⟩) | (at_builtin; refine wpList_append_seg _ rfl (.tmp 34) (.tmp 36) 23 rfl 70 i0 _ 7 56 Tryz.underlying23 hi hz0 hz1 hz2 rfl (by decide) _ _ _ rfl (HS.out.below (by repeat' (first | with_reducible exact Below.refl _ _ | with_reducible refine Below.drew ?_ | with_reducible refine below_alloc_ ?_ _ | with_reducible refine below_set_ ?_ (by simp) _))) _ 1 1 _ rfl rfl (news_of (new_block_ (by simp))) (by simp [Value.oneCell']) (by decide) (by unfold maxLen; omega) (by omega) _ rfl ?_; intro g off cap w2 hs2 hg2 ha2 hl2))
          go_roundw
          case rel =>
            refine ⟨k + 1, by omega, by go_num, by rw [HM.out], HQ.out (W := w) hs2 (by rw [HT2.out]; rfl), ?_, ?_⟩
            · intro j hj
              simp only [Value.ownBlock, Option.some.injEq] at hj
              subst hj
              rcases ha2 with ha2 | ha2
              · exact HW.out _ ha2
              · have h1 := hb.size
                simp at ha2
                omega
            · refine below_grown_ ?_ hg2 HW.out
              repeat' (first | with_reducible exact hb | with_reducible refine Below.drew ?_ | with_reducible refine below_alloc_ ?_ _ | with_reducible refine below_set_ ?_ (by simp; have := hb.size; omega) _)
          case measure => simp [intOf]; omega
      · have hw2 : (s.what == 0) = false := by simpa using hw
        have HT2 : Hid (timed m s = ⟨s.what, m, m, s.l, s.f, s.b, s.m⟩) := by
          show _ = _
          simp [timed, hw]
        go_wp2_with (first | (at_builtin; refine wpList_append_seg _ rfl (.tmp 34) (.tmp 36) 23 rfl 70 i0 _ 7 56 Tryz.underlying23 hi hz0 hz1 hz2 rfl (by decide) _ _ _ rfl (HS.out.below (by repeat' (first | with_reducible exact Below.refl _ _ | with_reducible refine Below.drew ?_ | with_reducible refine below_alloc_ ?_ _ | with_reducible refine below_set_ ?_ (by simp) _))) _ 1 1 _ rfl rfl (news_of (new_block_ (by simp))) (by simp [Value.oneCell']) (by decide) (by unfold maxLen; omega) (by omega) _ rfl ?_; intro g off cap w2 hs2 hg2 ha2 hl2))
        go_roundw
        case rel =>
          refine ⟨k + 1, by omega, by go_num, by rw [HM.out], HQ.out (W := w) hs2 (by rw [HT2.out]; rfl), ?_, ?_⟩
          · intro j hj
            simp only [Value.ownBlock, Option.some.injEq] at hj
            subst hj
            rcases ha2 with ha2 | ha2
            · exact HW.out _ ha2
            · have h1 := hb.size
              simp at ha2
              omega
          · refine below_grown_ ?_ hg2 HW.out
            repeat' (first | with_reducible exact hb | with_reducible refine Below.drew ?_ | with_reducible refine below_alloc_ ?_ _ | with_reducible refine below_set_ ?_ (by simp; have := hb.size; omega) _)
        case measure => simp [intOf]; omega
    · obtain rfl : k = q := by omega
      go_wp2
      go_ret
      refine ⟨u3, rfl, ?_, HW.out, hb⟩
      have := HS.out
      rw [← HN.out, Tms_all] at this
      unfold Sts
      rw [timesL_length]
      exact this
end Go.Proofs.YtfakjedolecdcaaGreatDoor
namespace Go.Proofs.YtfakjedolecdcaaGreatDoor
open Go.RowKit Go.Extern.Stop Go.Stop Go.Extern

theorem infoInt1 : (Tryz.prog.info? 3).map (fun i => (i.zero, i.size, i.bytes)) = some (some (.int .i64 0), 1, 8) := by kernel_rfl
/-- Ints lie in a slice of the call's own. -/
def Ins (w : World) (v : Value) (l : List Int) : Prop := Seg w 3 1 v l.length (l.map (Value.int .i64))
theorem Ins.nil (w : World) : Ins w (.slice none 0 0) [] := Seg.nil _ _ _
theorem Lies.held {w : World} {x : Option Addr} {L : List Hd} (h : Lies w x (flt Hd.cs L)) {k : Nat} {s : Hd} (hk : L[k]? = some s) : ∃ b off, x = some ⟨b, off, none⟩ ∧ b < w.heap.size ∧ w.cell? ⟨b, off + k * 6, none⟩ = some (.int .i64 s.a) ∧ w.cell? ⟨b, off + k * 6 + 1, none⟩ = some (.int .i64 s.l) ∧ w.cell? ⟨b, off + k * 6 + 2, none⟩ = some (.int .i64 s.f) ∧ w.cell? ⟨b, off + k * 6 + 3, none⟩ = some (.int .i64 s.b) ∧ w.cell? ⟨b, off + k * 6 + 4, none⟩ = some (.int .i64 s.m) ∧ w.cell? ⟨b, off + k * 6 + 5, none⟩ = some (.int .i64 s.n) := by
  have hat : ∀ j, j < 6 → (flt Hd.cs L)[k * 6 + j]? = s.cs[j]? := fun j hj => flt_at Hd.cs 6 Hd.len hk hj
  rcases h with h | ⟨b, off, e, hl, h⟩
  · have := hat 0 (by omega)
    rw [h] at this
    simp [Hd.cs] at this
  · refine ⟨b, off, e, hl, ?_, ?_, ?_, ?_, ?_, ?_⟩
    · exact h _ _ (hat 0 (by omega))
    · exact h _ _ (hat 1 (by omega))
    · exact h _ _ (hat 2 (by omega))
    · exact h _ _ (hat 3 (by omega))
    · exact h _ _ (hat 4 (by omega))
    · exact h _ _ (hat 5 (by omega))
/-- The numbers of the first k packets. -/
def nums (L : List Hd) (k : Nat) : List Int := (L.take k).map Hd.n
theorem nums_succ {L : List Hd} {k : Nat} {s : Hd} (h : L[k]? = some s) : nums L (k + 1) = nums L k ++ [s.n] := by
  unfold nums
  rw [List.take_add_one, h]
  simp
theorem nums_all (L : List Hd) : nums L L.length = L.map Hd.n := by simp [nums]
theorem nums_length {L : List Hd} {k : Nat} (h : k ≤ L.length) : (nums L k).length = k := by simp [nums]; omega

/-- What was seen in a step lies in block b: the five numbers, and what was lost. -/
def Bx (w : World) (b : Nat) (c0 c1 c2 c3 c4 : Value) (lv : Value) : Prop := w.heap[b]? = some (.cells #[c0, c1, c2, c3, c4, lv] 72 (0, 0))

theorem Bx.mid {w W w2 : World} {row : Option Nat} {b : Nat} {c0 c1 c2 c3 c4 lv : Value} (h : Bx w b c0 c1 c2 c3 c4 lv) (hW : Below w.heap.size w W) (hg : W.grownBy w2 row) (hr : row ≠ some b) : Bx w2 b c0 c1 c2 c3 c4 lv :=
  (hg.block b (Nat.lt_of_lt_of_le (lt_of_block h) hW.size) (fun e => hr e.symm)).trans ((hW.block b (lt_of_block h)).trans h)
theorem Bx.lost {w : World} {b : Nat} {c0 c1 c2 c3 c4 lv : Value} (h : Bx w b c0 c1 c2 c3 c4 lv) (v : Value) : Bx (w.setCell ⟨b, 5, none⟩ v) b c0 c1 c2 c3 c4 v := by
  unfold Bx
  rw [heap_setCell_here h v]
  simp
set_option maxHeartbeats 2000000 in
theorem lose_any {b : Nat} {c0 c1 c2 c3 c4 : Value} {u : Value} {L : List Hd} (w : World) (hx : Bx w b c0 c1 c2 c3 c4 (.slice none 0 0)) (hu : Hs w u L) (hne : u.ownBlock ≠ some b) (hn : L.length ≤ 1000000) :
    Calls Tryz.prog 25 #[u, .pointer (some ⟨b, 0, none⟩)] w fun e w' => e = .returned (.tuple #[]) ∧ ∃ lv, Bx w' b c0 c1 c2 c3 c4 lv ∧ Ins w' lv (L.map Hd.n) ∧ (∀ k, lv.ownBlock = some k → w.heap.size ≤ k) ∧ Ot (· = b) w w' := by
  have HX : Hid (Bx w b c0 c1 c2 c3 c4 (.slice none 0 0)) := hx
  have HU : Hid (Hs w u L) := hu
  obtain ⟨x, cap, rfl, hl⟩ := hu.lies
  have HL : Hid (Lies w x (flt Hd.cs L)) := hl
  have hbl : b < w.heap.size := lt_of_block hx
  have HNE : Hid (∀ a, x = some a → a.block ≠ b) := by
    rintro a rfl e
    exact hne (by simp [Value.ownBlock, e])
  clear hl hx hu hne
  generalize hq : L.length = q at *
  have HQ : Hid (L.length = q) := hq
  clear hq
  obtain ⟨i0, hi, hz0, hz1, hz2⟩ := info_parts infoInt1
  go_enter Tryz.func25, Tryz.ntmps25
  go_wp2
  go_loopw [7] (fun i wr => ∃ (k : Nat) (lv : Value), k ≤ q ∧ i = .int .i64 k ∧ Bx wr b c0 c1 c2 c3 c4 lv ∧ Ins wr lv (nums L k) ∧ (∀ k, lv.ownBlock = some k → w.heap.size ≤ k) ∧ Ot (· = b) w wr) (fun i _ => q - (intOf i).toNat)
  case atStart => exact ⟨0, _, Nat.zero_le _, rfl, HX.out, Ins.nil _, fun k hk => by simp [Value.ownBlock] at hk, Ot.refl _ _⟩
  case round =>
    obtain ⟨k, lv, hk, rfl, hbx, hin, hnw, hot⟩ := hrel
    have HB : Hid (Bx wr b c0 c1 c2 c3 c4 lv) := hbx
    have HI : Hid (Ins wr lv (nums L k)) := hin
    have HW : Hid (∀ k, lv.ownBlock = some k → w.heap.size ≤ k) := hnw
    have hws := hot.size
    clear hin hnw
    by_cases hlt : k < q
    · obtain ⟨s, hs⟩ : ∃ s, L[k]? = some s := ⟨_, List.getElem?_eq_getElem (by have := HQ.out; omega)⟩
      have HS : Hid (L[k]? = some s) := hs
      obtain ⟨bb, off, rfl, hbb, k0, k1, k2, k3, k4, k5⟩ := (HL.out.ot hot (fun a e h => HNE.out a e h)).held hs
      clear hs
      obtain ⟨⟨_, _, _, _, _, z5⟩, _, _, _, _, _, y5⟩ := six hbx
      have hbs : b < wr.heap.size := by omega
      have hnl : (nums L k).length = k := nums_length (by have := HQ.out; omega)
      clear hbx
      have HI' : Hid (Seg wr 3 1 lv k ((nums L k).map (Value.int .i64))) := by have := HI.out; unfold Ins at this; rw [hnl] at this; exact this
      clear hnl
      go_wp2_with (at_builtin; refine wpList_append_seg _ rfl (.tmp 12) (.tmp 15) 22 rfl 3 i0 _ 1 8 Tryz.underlying22 hi hz0 hz1 hz2 rfl (by decide) _ _ _ rfl (HI'.out.below (by repeat' (first | with_reducible exact Below.refl _ _ | with_reducible refine Below.drew ?_ | with_reducible refine below_alloc_ ?_ _ | with_reducible refine below_set_ ?_ (by simp) _))) _ 1 1 _ rfl rfl (news_of (new_block_ (by simp))) (by simp [Value.oneCell']) (by decide) (by unfold maxLen; omega) (by omega) _ rfl ?_; intro g goff gcap w2 hs2 hg2 ha2 hl2; have hm2 := HB.out.mid (by repeat' (first | with_reducible exact Below.refl _ _ | with_reducible refine Below.drew ?_ | with_reducible refine below_alloc_ ?_ _)) hg2 (fun e => by have := HW.out b e; omega); obtain ⟨⟨_, _, _, _, _, t5⟩, _, _, _, _, _, e5⟩ := six hm2)
      have hgb : w.heap.size ≤ g := by
        rcases ha2 with ha2 | ha2
        · exact HW.out _ ha2
        · simp at ha2; omega
      go_roundw
      case rel =>
        refine ⟨k + 1, _, by omega, by go_num, hm2.lost _, ?_, ?_, ?_⟩
        · unfold Ins
          rw [nums_succ HS.out, List.length_append, nums_length (by have := HQ.out; omega), List.map_append]
          exact hs2.setCell (p := ⟨b, 5, none⟩) (by simp [Value.ownBlock]; omega) _
        · intro j hj
          simp only [Value.ownBlock, Option.some.injEq] at hj
          omega
        · refine Ot.setCell (S := (· = b)) (p := ⟨b, 5, none⟩) ?_ (Or.inl rfl) _
          refine Ot.grown (row := lv.ownBlock) ?_ hg2 (fun j e => Or.inr (HW.out j e))
          exact Ot.alloc (Ot.alloc hot _) _
      case measure => simp [intOf]; omega
    · obtain rfl : k = q := by omega
      go_wp2
      go_end0
      refine ⟨rfl, lv, HB.out, ?_, HW.out, hot⟩
      have := HI.out
      rw [← HQ.out, nums_all] at this
      exact this
end Go.Proofs.YtfakjedolecdcaaGreatDoor
namespace Go.Proofs.YtfakjedolecdcaaGreatDoor
open Go.RowKit Go.Extern.Stop Go.Stop Go.Extern

/-- A queue as the interface has it, and what its methods tell of its state. -/
structure QM where
  σ : Type
  ty : TypeId
  rv : Value
  fP : FuncId
  fT : FuncId
  fW : FuncId
  fL : FuncId
  fB : FuncId
  rP : Value
  rT : Value
  rW : Value
  rL : Value
  rB : Value
  At : World → (Nat → Prop) → σ → Prop
  put : σ → Int → Hd → σ × List Hd
  take : σ → Int → σ × List Hd × Hd × Bool
  when : σ → Int → σ × Int × Bool
  len : σ → Int
  bytes : σ → Int
  inv : Int → Nat → σ → Prop
def Hd.ok (x : Hd) : Bool := It.ok ⟨x.a, x.l, x.f, x.b, x.m⟩
/-- The methods do so. -/
structure QM.Fine (M : QM) : Prop where
  kept : ∀ {w w' : World} {F : Nat → Prop} {s : M.σ}, M.At w F s → (∀ k, F k → w'.heap[k]? = w.heap[k]?) → M.At w' F s
  low : ∀ {w : World} {F : Nat → Prop} {s : M.σ}, M.At w F s → ∀ k, F k → k < w.heap.size
  mP : ∀ W : World, (Go.method 395 M.ty M.rv "Put").run Tryz.prog W = .ok (M.fP, M.rP) W
  mT : ∀ W : World, (Go.method 395 M.ty M.rv "Take").run Tryz.prog W = .ok (M.fT, M.rT) W
  mW : ∀ W : World, (Go.method 395 M.ty M.rv "When").run Tryz.prog W = .ok (M.fW, M.rW) W
  mL : ∀ W : World, (Go.method 395 M.ty M.rv "Len").run Tryz.prog W = .ok (M.fL, M.rL) W
  mB : ∀ W : World, (Go.method 395 M.ty M.rv "Bytes").run Tryz.prog W = .ok (M.fB, M.rB) W
  eP : ∀ (args : Array Value) (W : World), (callFunc M.fP args).run Tryz.prog W = .ok (.enter M.fP args) W
  eT : ∀ (args : Array Value) (W : World), (callFunc M.fT args).run Tryz.prog W = .ok (.enter M.fT args) W
  eW : ∀ (args : Array Value) (W : World), (callFunc M.fW args).run Tryz.prog W = .ok (.enter M.fW args) W
  eL : ∀ (args : Array Value) (W : World), (callFunc M.fL args).run Tryz.prog W = .ok (.enter M.fL args) W
  eB : ∀ (args : Array Value) (W : World), (callFunc M.fB args).run Tryz.prog W = .ok (.enter M.fB args) W
  cP : ∀ {w : World} {F : Nat → Prop} {s : M.σ} {t : Int} {n : Nat} (now : Int) (x : Hd), M.At w F s → M.inv t n s → 0 ≤ t → t ≤ now → now ≤ 20000000 → x.ok = true → x.a = now → x.n = n → n ≤ 1000 →
    Calls Tryz.prog M.fP #[M.rP, .int .i64 now, x.val] w fun e w' => ∃ u F', e = .returned u ∧ Hs w' u (M.put s now x).2 ∧ M.At w' F' (M.put s now x).1 ∧ (∀ k, F' k → F k ∨ w.heap.size ≤ k) ∧ (∀ k, u.ownBlock = some k → F k ∨ w.heap.size ≤ k) ∧ Ot F w w'
  iP : ∀ {s : M.σ} {t : Int} {n : Nat} (now : Int) (x : Hd), M.inv t n s → 0 ≤ t → t ≤ now → now ≤ 20000000 → x.ok = true → x.a = now → x.n = n → n ≤ 1000 → M.inv now (n + 1) (M.put s now x).1 ∧ (M.put s now x).2.length ≤ 1000000
  cT : ∀ {w : World} {F : Nat → Prop} {s : M.σ} {t : Int} {n : Nat} (now : Int), M.At w F s → M.inv t n s → 0 ≤ t → t ≤ now → now ≤ 20000000 → n ≤ 1000 →
    Calls Tryz.prog M.fT #[M.rT, .int .i64 now] w fun e w' => ∃ u F', e = .returned (.tuple #[(M.take s now).2.2.1.val, u, .bool (M.take s now).2.2.2]) ∧ Hs w' u (M.take s now).2.1 ∧ M.At w' F' (M.take s now).1 ∧ (∀ k, F' k → F k ∨ w.heap.size ≤ k) ∧ (∀ k, u.ownBlock = some k → F k ∨ w.heap.size ≤ k) ∧ Ot F w w'
  iT : ∀ {s : M.σ} {t : Int} {n : Nat} (now : Int), M.inv t n s → 0 ≤ t → t ≤ now → now ≤ 20000000 → n ≤ 1000 → M.inv now n (M.take s now).1 ∧ (M.take s now).2.1.length ≤ 1000000
  cW : ∀ {w : World} {F : Nat → Prop} {s : M.σ} {t : Int} {n : Nat} (now : Int), M.At w F s → M.inv t n s → 0 ≤ t → t ≤ now → now ≤ 20000000 → n ≤ 1000 →
    Calls Tryz.prog M.fW #[M.rW, .int .i64 now] w fun e w' => ∃ F', e = .returned (.tuple #[.int .i64 (M.when s now).2.1, .bool (M.when s now).2.2]) ∧ M.At w' F' (M.when s now).1 ∧ (∀ k, F' k → F k ∨ w.heap.size ≤ k) ∧ Ot F w w'
  iW : ∀ {s : M.σ} {t : Int} {n : Nat} (now : Int), M.inv t n s → 0 ≤ t → t ≤ now → now ≤ 20000000 → n ≤ 1000 → M.inv now n (M.when s now).1
  cL : ∀ {w : World} {F : Nat → Prop} {s : M.σ} {t : Int} {n : Nat}, M.At w F s → M.inv t n s → n ≤ 1001 → Calls Tryz.prog M.fL #[M.rL] w fun e w' => e = .returned (.int .i64 (M.len s)) ∧ Below w.heap.size w w'
  cB : ∀ {w : World} {F : Nat → Prop} {s : M.σ} {t : Int} {n : Nat}, M.At w F s → M.inv t n s → n ≤ 1001 → Calls Tryz.prog M.fB #[M.rB] w fun e w' => e = .returned (.int .i64 (M.bytes s)) ∧ Below w.heap.size w w'

/-- What a step told: which was taken, its mark, when, how many wait, how many bytes, which were lost. -/
structure Sn where
  taken : Int
  mark : Int
  when : Int
  len : Int
  bytes : Int
  lost : List Int
def Sn.cs (p : Sn × Value) : List Value := [.int .i64 p.1.taken, .int .i64 p.1.mark, .int .i64 p.1.when, .int .i64 p.1.len, .int .i64 p.1.bytes, p.2]
theorem Sn.len6 (p : Sn × Value) : (Sn.cs p).length = 6 := rfl
def hdOf (st : Stp) (n : Nat) : Hd := ⟨st.a, st.l, st.f, st.b, st.m, n⟩
/-- One step. -/
def stepQ (M : QM) (s : M.σ) (n : Nat) (st : Stp) : (M.σ × Nat) × Sn :=
  if st.what = 0 then (((M.put s st.lt (hdOf st n)).1, n + 1), ⟨-1, 0, -1, M.len (M.put s st.lt (hdOf st n)).1, M.bytes (M.put s st.lt (hdOf st n)).1, (M.put s st.lt (hdOf st n)).2.map Hd.n⟩)
  else if st.what = 1 then (((M.take s st.lt).1, n), ⟨if (M.take s st.lt).2.2.2 then (M.take s st.lt).2.2.1.n else -1, if (M.take s st.lt).2.2.2 then (M.take s st.lt).2.2.1.m else 0, -1, M.len (M.take s st.lt).1, M.bytes (M.take s st.lt).1, (M.take s st.lt).2.1.map Hd.n⟩)
  else (((M.when s st.lt).1, n), ⟨-1, 0, if (M.when s st.lt).2.2 then (M.when s st.lt).2.1 else -1, M.len (M.when s st.lt).1, M.bytes (M.when s st.lt).1, []⟩)
def stFrom (M : QM) : M.σ → Nat → List Stp → Nat → M.σ × Nat
  | s, n, _, 0 => (s, n)
  | s, n, [], _ + 1 => (s, n)
  | s, n, st :: r, k + 1 => stFrom M (stepQ M s n st).1.1 (stepQ M s n st).1.2 r k
def playFrom (M : QM) : M.σ → Nat → List Stp → List Sn
  | _, _, [] => []
  | s, n, st :: r => (stepQ M s n st).2 :: playFrom M (stepQ M s n st).1.1 (stepQ M s n st).1.2 r
theorem stFrom_zero (M : QM) (s : M.σ) (n : Nat) (xs : List Stp) : stFrom M s n xs 0 = (s, n) := by cases xs <;> rfl
theorem stFrom_succ {M : QM} {s : M.σ} {n : Nat} {xs : List Stp} {k : Nat} {st : Stp} (h : xs[k]? = some st) : stFrom M s n xs (k + 1) = (stepQ M (stFrom M s n xs k).1 (stFrom M s n xs k).2 st).1 := by
  induction xs generalizing s n k with
  | nil => simp at h
  | cons y r ih =>
    cases k with
    | zero =>
      simp at h; subst h
      simp [stFrom]
    | succ k => simpa [stFrom] using ih (s := (stepQ M s n y).1.1) (n := (stepQ M s n y).1.2) (by simpa using h)
theorem playFrom_length (M : QM) (s : M.σ) (n : Nat) (xs : List Stp) : (playFrom M s n xs).length = xs.length := by
  induction xs generalizing s n with
  | nil => rfl
  | cons y r ih => simp [playFrom, ih]
theorem playFrom_at {M : QM} {s : M.σ} {n : Nat} {xs : List Stp} {k : Nat} {st : Stp} (h : xs[k]? = some st) : (playFrom M s n xs)[k]? = some (stepQ M (stFrom M s n xs k).1 (stFrom M s n xs k).2 st).2 := by
  induction xs generalizing s n k with
  | nil => simp at h
  | cons y r ih =>
    cases k with
    | zero => simp at h; subst h; simp [playFrom, stFrom]
    | succ k => simpa [playFrom, stFrom] using ih (s := (stepQ M s n y).1.1) (n := (stepQ M s n y).1.2) (by simpa using h)
theorem stFrom_le (M : QM) (s : M.σ) (n : Nat) (xs : List Stp) (k : Nat) : (stFrom M s n xs k).2 ≤ n + k := by
  induction xs generalizing s n k with
  | nil => cases k <;> simp [stFrom]
  | cons y r ih =>
    cases k with
    | zero => simp [stFrom]
    | succ k =>
      have := ih (stepQ M s n y).1.1 (stepQ M s n y).1.2 k
      have h2 : (stepQ M s n y).1.2 ≤ n + 1 := by unfold stepQ; split; exact Nat.le_refl _; split <;> exact Nat.le_succ _
      simp only [stFrom]
      omega
theorem timed_lt (t : Int) (s : Stp) : (timed t s).lt = t ∧ (timed t s).a = t := ⟨rfl, rfl⟩
theorem timed_ok {t : Int} {s : Stp} (h : (timed t s).what = 0) : It.ok ⟨t, s.l, s.f, s.b, s.m⟩ = true := by
  cases hok : It.ok ⟨t, s.l, s.f, s.b, s.m⟩ with
  | true => rfl
  | false =>
    exfalso
    simp only [timed, hok, and_true] at h
    by_cases hw : s.what = 0
    · rw [if_pos hw] at h; omega
    · rw [if_neg hw] at h; exact hw h
/-- What is seen of the first k steps. -/
def Psn (M : QM) (s0 : M.σ) (ts : List Stp) (k : Nat) : List Sn := (playFrom M s0 0 ts).take k
theorem Psn_succ {M : QM} {s0 : M.σ} {ts : List Stp} {k : Nat} {st : Stp} (h : ts[k]? = some st) : Psn M s0 ts (k + 1) = Psn M s0 ts k ++ [(stepQ M (stFrom M s0 0 ts k).1 (stFrom M s0 0 ts k).2 st).2] := by
  unfold Psn
  rw [List.take_add_one, playFrom_at h]
  rfl
theorem Psn_length {M : QM} {s0 : M.σ} {ts : List Stp} {k : Nat} (h : k ≤ ts.length) : (Psn M s0 ts k).length = k := by simp [Psn, playFrom_length]; omega
theorem Psn_all (M : QM) (s0 : M.σ) (ts : List Stp) : Psn M s0 ts ts.length = playFrom M s0 0 ts := by rw [Psn, List.take_of_length_le (by rw [playFrom_length]; exact Nat.le_refl _)]

/-- What was seen lies in memory of the call's own, from block base on, apart from F. -/
structure Sns (w : World) (base : Nat) (F : Nat → Prop) (v : Value) (ss : List Sn) (us : List Value) : Prop where
  len : us.length = ss.length
  row : Seg w 72 6 v ss.length (flt Sn.cs (ss.zip us))
  new : ∀ b, v.ownBlock = some b → base ≤ b ∧ ¬ F b
  lost : ∀ (i : Nat) (sn : Sn) (u : Value), ss[i]? = some sn → us[i]? = some u → Ins w u sn.lost ∧ ∀ b, u.ownBlock = some b → base ≤ b ∧ ¬ F b
theorem Sns.nil (w : World) (base : Nat) (F : Nat → Prop) : Sns w base F (.slice none 0 0) [] [] := ⟨rfl, Seg.nil _ _ _, fun b hb => by simp [Value.ownBlock] at hb, fun i sn u h => by simp at h⟩
theorem Sns.ot {w w' : World} {base : Nat} {F F' G : Nat → Prop} {v : Value} {ss : List Sn} {us : List Value} (h : Sns w base F v ss us) (ho : Ot G w w') (hG : ∀ k, base ≤ k → k < w.heap.size → ¬ F k → ¬ G k) (hF : ∀ k, k < w.heap.size → F' k → F k) : Sns w' base F' v ss us := by
  refine ⟨h.len, Seg.oth h.row ho (fun b hb => hG b (h.new b hb).1 (h.row.lt hb) (h.new b hb).2), fun b hb => ⟨(h.new b hb).1, fun x => (h.new b hb).2 (hF b (h.row.lt hb) x)⟩, ?_⟩
  intro i sn u h1 h2
  obtain ⟨h3, h4⟩ := h.lost i sn u h1 h2
  exact ⟨Seg.oth h3 ho (fun b hb => hG b (h4 b hb).1 (Seg.lt h3 hb) (h4 b hb).2), fun b hb => ⟨(h4 b hb).1, fun x => (h4 b hb).2 (hF b (Seg.lt h3 hb) x)⟩⟩
end Go.Proofs.YtfakjedolecdcaaGreatDoor
