/-
  early: a Red is a queue as plain.Play and millracelaw.played ask it: its model. Conditions: room and setup within their bounds.
  queue.NewBands: what it says of no queue, of more than eight, and where the last is nil. Conditions: the queues ahead of the last lie in memory.
  The root of a number, rounded down, and Newton's steps to it; controlled delay as a function of what waits. Conditions: none.
  early: root and law, and what pull does. Conditions: numbers within bounds; the queue lies in memory.
  early: what pull does. Conditions: the queue lies in memory, few packets; times within bounds.
-/
import Derived.Test.YtfakjedolecdcaaGreatDoorU22
import Derived.Test.YtfakjedolecdcaaGreatDoorU8
import Derived.Test.YtfakjedolecdcaaGreatDoorU16
import Derived.Test.YtfakjedolecdcaaGreatDoorQf
import Derived.Test.YtfakjedolecdcaaGreatDoorU21
namespace Go.Proofs.YtfakjedolecdcaaGreatDoor
open Go.RowKit Go.Extern.Stop Go.Stop Go.Extern

theorem mRedP (a : Addr) (W : World) : (Go.method 395 116 (.pointer (some ⟨a.block, 0, none⟩)) "Put").run Tryz.prog W = .ok (149, .pointer (some ⟨a.block, 0, none⟩)) W := by kernel_rfl
theorem mRedT (a : Addr) (W : World) : (Go.method 395 116 (.pointer (some ⟨a.block, 0, none⟩)) "Take").run Tryz.prog W = .ok (141, .pointer (some ⟨a.block, 0, none⟩)) W := by kernel_rfl
theorem mRedW (a : Addr) (W : World) : (Go.method 395 116 (.pointer (some ⟨a.block, 0, none⟩)) "When").run Tryz.prog W = .ok (142, .pointer (some ⟨a.block, 0, none⟩)) W := by kernel_rfl
theorem mRedL (a : Addr) (W : World) : (Go.method 395 116 (.pointer (some ⟨a.block, 0, none⟩)) "Len").run Tryz.prog W = .ok (139, .pointer (some ⟨a.block, 0, none⟩)) W := by kernel_rfl
theorem mRedB (a : Addr) (W : World) : (Go.method 395 116 (.pointer (some ⟨a.block, 0, none⟩)) "Bytes").run Tryz.prog W = .ok (138, .pointer (some ⟨a.block, 0, none⟩)) W := by kernel_rfl
theorem eRedP (args : Array Value) (W : World) : (callFunc 149 args).run Tryz.prog W = .ok (.enter 149 args) W := enters_of Tryz.func149 (by kernel_rfl) rfl args W
/-- A Red in block b. -/
def RedM (b : Nat) (P R : Int) (q : RSet) : QM where
  σ := RdS
  ty := 116
  rv := .pointer (some ⟨b, 0, none⟩)
  fP := 149
  fT := 141
  fW := 142
  fL := 139
  fB := 138
  rP := .pointer (some ⟨b, 0, none⟩)
  rT := .pointer (some ⟨b, 0, none⟩)
  rW := .pointer (some ⟨b, 0, none⟩)
  rL := .pointer (some ⟨b, 0, none⟩)
  rB := .pointer (some ⟨b, 0, none⟩)
  At := fun w F s => ∃ v tv, RedP w b P R q v tv s ∧ ∀ k, F k ↔ k = b ∨ v.ownBlock = some k ∨ tv.ownBlock = some k
  put := fun s _ x => putR P R q s x
  take := fun s _ => ({ s with L := s.L.tail }, [], hdOr s.L, !s.L.isEmpty)
  when := fun s now => (s, now, !s.L.isEmpty)
  len := fun s => s.L.length
  bytes := fun s => sumL s.L
  inv := fun _ n s => s.L.length ≤ n ∧ (∀ x ∈ s.L, 0 ≤ x.l ∧ x.l ≤ 10000) ∧ (0 ≤ s.since ∧ s.since ≤ n) ∧ 0 ≤ s.sum ∧ s.sum ≤ 10000000 * n
theorem putR_L {P R : Int} {q : RSet} {s : RdS} {x : Hd} (h0 : 0 ≤ s.since) : (∀ y ∈ (putR P R q s x).1.L, y ∈ s.L ∨ y = x ∨ y = marked x) ∧ (putR P R q s x).1.L.length ≤ s.L.length + 1 ∧ (putR P R q s x).2.length ≤ 1 + s.L.length ∧ (putR P R q s x).1.sum = s.sum + (sumL s.L - meanR q s.sum) ∧ 0 ≤ (putR P R q s x).1.since ∧ (putR P R q s x).1.since ≤ s.since + 1 := by
  obtain ⟨e1, e2, e3, e4⟩ := hitR_L q (sumR q s) h0
  have e2' : (hitR q (sumR q s)).2.sum = s.sum + (sumL s.L - meanR q s.sum) := e2
  have e1' : (hitR q (sumR q s)).2.L = s.L := e1
  have e4' : (hitR q (sumR q s)).2.since ≤ s.since + 1 := e4
  unfold putR
  split
  · split
    · obtain ⟨h1, h2, h3⟩ := putF_mem (P := P) (R := R) (hd := false) (L := s.L) (x := marked x)
      refine ⟨fun y hy => ?_, h2, by show (putF P R false s.L (marked x)).1.length ≤ _; omega, e2', e3, e4'⟩
      rcases List.mem_append.1 (h1 y hy) with h | h
      · exact Or.inl h
      · simp at h; exact Or.inr (Or.inr h)
    · refine ⟨fun y hy => Or.inl ?_, ?_, by simp, e2', e3, e4'⟩
      · rw [e1'] at hy; exact hy
      · show (hitR q (sumR q s)).2.L.length ≤ _; rw [e1']; omega
  · obtain ⟨h1, h2, h3⟩ := putF_mem (P := P) (R := R) (hd := false) (L := s.L) (x := x)
    refine ⟨fun y hy => ?_, h2, by show (putF P R false s.L x).1.length ≤ _; omega, e2', e3, e4'⟩
    rcases List.mem_append.1 (h1 y hy) with h | h
    · exact Or.inl h
    · simp at h; exact Or.inr (Or.inl h)
theorem redM_fine (b : Nat) (P R : Int) (q : RSet) (hq : q.Ok) (hP : 0 ≤ P) (hR : 0 ≤ R) (hR1 : R ≤ 1000000) : (RedM b P R q).Fine where
  kept := by
    rintro w w' F s ⟨v, tv, h, hF⟩ hk
    exact ⟨v, tv, h.kept (hk b ((hF b).2 (Or.inl rfl))) (fun k hv => hk k ((hF k).2 (Or.inr (Or.inl hv)))) (fun k hv => hk k ((hF k).2 (Or.inr (Or.inr hv)))), hF⟩
  low := by
    rintro w F s ⟨v, tv, h, hF⟩ k hk
    rcases (hF k).1 hk with rfl | hv | hv
    · exact LAt.lt h.pos
    · exact h.pos.row.lt hv
    · exact Seg.lt h.tape hv
  mP := mRedP ⟨b, 0, none⟩
  mT := mRedT ⟨b, 0, none⟩
  mW := mRedW ⟨b, 0, none⟩
  mL := mRedL ⟨b, 0, none⟩
  mB := mRedB ⟨b, 0, none⟩
  eP := eRedP
  eT := eFifoT
  eW := eFifoW
  eL := eFifoL
  eB := eFifoB
  cP := by
    rintro w F (s : RdS) t n now x ⟨v, tv, h, hF⟩ hI ht0 ht1 ht2 hok hxa hxn hn
    obtain ⟨i1, i2, i3, i4, i5⟩ := hI
    have hxl := ok_len hok
    have hfit : Fit (s.L ++ [x]) := ⟨by simp; omega, fun y hy => by rcases List.mem_append.1 hy with h | h; exact i2 y h; simp at h; subst h; omega⟩
    refine (rput_any now x w h hq hfit hP hR hR1 i3.1 (by omega) i4 (by omega)).mono ?_
    rintro e w' ⟨u, v', tv', rfl, hu, hr, hk, hkt, hn', ho⟩
    refine ⟨u, fun k => k = b ∨ v'.ownBlock = some k ∨ tv'.ownBlock = some k, rfl, hu, ⟨v', tv', hr, fun k => Iff.rfl⟩, ?_, fun k hk => Or.inr (hn' k hk), ho.mono (fun k _ h => ?_)⟩
    · intro k hk'
      rcases hk' with rfl | h | h
      · exact Or.inl ((hF _).2 (Or.inl rfl))
      · rcases hk k h with h | h
        · exact Or.inl ((hF k).2 (Or.inr (Or.inl h)))
        · exact Or.inr h
      · exact Or.inl ((hF k).2 (Or.inr (Or.inr (by rw [← hkt]; exact h))))
    · rcases h with h | h
      · exact (hF k).2 (Or.inl h)
      · exact (hF k).2 (Or.inr (Or.inl h))
  iP := by
    intro (s : RdS) t n now x hI ht0 ht1 ht2 hok hxa hxn hn
    obtain ⟨i1, i2, i3, i4, i5⟩ := hI
    have hxl := ok_len hok
    obtain ⟨h1, h2, h3, h4, h5, h6⟩ := putR_L (P := P) (R := R) (q := q) (s := s) (x := x) i3.1
    have hsum := Fit.sum i2
    have hm := meanR_bd q i4
    refine ⟨⟨by show (putR P R q s x).1.L.length ≤ n + 1; omega, fun y hy => ?_, ⟨h5, by show (putR P R q s x).1.since ≤ _; omega⟩, ?_, ?_⟩, by show (putR P R q s x).2.length ≤ _; omega⟩
    · rcases h1 y hy with h | h | h
      · exact i2 y h
      · subst h; omega
      · subst h; show 0 ≤ x.l ∧ x.l ≤ 10000; omega
    · show 0 ≤ (putR P R q s x).1.sum
      rw [h4]; omega
    · show (putR P R q s x).1.sum ≤ 10000000 * ((n + 1 : Nat) : Int)
      rw [h4]; omega
  cT := by
    rintro w F (s : RdS) t n now ⟨v, tv, h, hF⟩ hI ht0 ht1 ht2 hn
    obtain ⟨i1, i2, i3, i4, i5⟩ := hI
    refine (fifo_take now w h.pos ⟨by omega, i2⟩).mono ?_
    rintro e w' ⟨rfl, v', hl, hk, ho⟩
    refine ⟨_, F, rfl, Hs.nil _, ⟨v', tv, ⟨hl, Seg.oth h.tape ho (fun k hk' e => h.tb (by rw [← e]; exact hk')), h.tb, fun k hk' => by rw [hk]; exact h.tvv k hk'⟩, fun k => by rw [hF, hk]⟩, fun k hk => Or.inl hk, fun k hk => by simp [Value.ownBlock] at hk, ho.mono (fun k _ h => (hF k).2 (Or.inl h))⟩
  iT := by
    intro (s : RdS) t n now hI ht0 ht1 ht2 hn
    obtain ⟨i1, i2, i3, i4, i5⟩ := hI
    exact ⟨⟨by show s.L.tail.length ≤ n; rw [List.length_tail]; omega, fun y hy => i2 y (List.mem_of_mem_tail hy), i3, i4, i5⟩, by simp [RedM]⟩
  cW := by
    rintro w F (s : RdS) t n now ⟨v, tv, h, hF⟩ hI ht0 ht1 ht2 hn
    refine (fifo_when now w h.pos).mono ?_
    rintro e w' ⟨rfl, rfl⟩
    exact ⟨F, rfl, ⟨v, tv, h, hF⟩, fun k hk => Or.inl hk, Ot.refl _ _⟩
  iW := by
    intro (s : RdS) t n now hI ht0 ht1 ht2 hn
    exact hI
  cL := by
    rintro w F (s : RdS) t n ⟨v, tv, h, hF⟩ hI hn
    exact (len_any w h.pos).mono (by rintro e w' ⟨rfl, rfl⟩; exact ⟨rfl, Below.refl _ _⟩)
  cB := by
    rintro w F (s : RdS) t n ⟨v, tv, h, hF⟩ hI hn
    exact (bytes_any w h.pos).mono (by rintro e w' ⟨rfl, rfl⟩; exact ⟨rfl, Below.refl _ _⟩)
end Go.Proofs.YtfakjedolecdcaaGreatDoor
namespace Go.Proofs.YtfakjedolecdcaaGreatDoor
open Go.RowKit Go.Extern.Stop Go.Stop Go.Extern

theorem newBands_limit {x : Option Addr} {N cap : Nat} (w : World) (h : N < 1 ∨ 8 < N) (hm : N ≤ 1000) :
    Calls Tryz.prog 54 #[.slice x N cap] w fun e w' => e = .returned (.tuple #[.pointer none, .iface 57 (.int .i64 4)]) ∧ w' = w := by
  rcases h with h | h
  · go_enter Tryz.func54, Tryz.ntmps54
    go_wp2
    all_goals
      go_ret2
      exact ⟨rfl, rfl⟩
  · go_enter Tryz.func54, Tryz.ntmps54
    go_wp2
    all_goals
      go_ret2
      exact ⟨rfl, rfl⟩
theorem nilC_yes (w : World) : Calls Tryz.prog 71 #[.nilIface] w fun e w' => e = .returned (.bool true) ∧ w' = w := by
  go_enter Tryz.func71, Tryz.ntmps71
  go_wp2
  go_ret
  exact ⟨rfl, rfl⟩
set_option maxHeartbeats 1000000 in
theorem index_last {b off N cap : Nat} {Q : Nat → TypeId × Value} (w : World) (h : QRowAt w b off N Q) (hl : w.cell? ⟨b, off + N, none⟩ = some .nilIface) (hN : N ≤ 7) :
    Calls Tryz.prog 84 #[.slice (some ⟨b, off, none⟩) (N + 1) cap, .func (.func 71) #[] #[]] w fun e w' => e = .returned (.int .i64 N) ∧ w' = w := by
  have H : Hid (QRowAt w b off N Q) := h
  have HL : Hid (w.cell? ⟨b, off + N, none⟩ = some .nilIface) := hl
  clear h hl
  have hent := eNilC
  go_enter Tryz.func84, Tryz.ntmps84
  go_wp2
  go_loopw [8] (fun i wr => ∃ k : Nat, k ≤ N ∧ i = .int .i64 k ∧ wr = w) (fun i _ => N + 1 - (intOf i).toNat)
  case atStart => exact ⟨0, Nat.zero_le _, rfl, rfl⟩
  case round =>
    obtain ⟨k, hk, rfl, rfl⟩ := hrel
    by_cases hlt : k < N
    · have hc := H.out k hlt
      go_wp2_with (go_at_call 71; refine (nilC_no _ _ _).mono ?_; rintro e w1 ⟨rfl, rfl⟩)
      go_roundw
      case rel => exact ⟨k + 1, by omega, by go_num, by first | rfl | trivial⟩
      case measure => simp [intOf]; omega
    · obtain rfl : k = N := by omega
      have hc := HL.out
      go_wp2_with (go_at_call 71; refine (nilC_yes _).mono ?_; rintro e w1 ⟨rfl, rfl⟩)
      go_ret
      exact ⟨rfl, rfl⟩
theorem contains_last {b off N cap : Nat} {Q : Nat → TypeId × Value} (w : World) (h : QRowAt w b off N Q) (hl : w.cell? ⟨b, off + N, none⟩ = some .nilIface) (hN : N ≤ 7) :
    Calls Tryz.prog 70 #[.slice (some ⟨b, off, none⟩) (N + 1) cap, .func (.func 71) #[] #[]] w fun e w' => e = .returned (.bool true) ∧ w' = w := by
  have HC := index_last (cap := cap) w h hl hN
  clear h hl
  go_enter Tryz.func70, Tryz.ntmps70
  go_wp2_with (go_at_call 84; refine HC.mono ?_; rintro e w1 ⟨rfl, rfl⟩)
  go_ret
  exact ⟨rfl, rfl⟩
theorem newBands_missing {b off N cap : Nat} {Q : Nat → TypeId × Value} (w : World) (h : QRowAt w b off N Q) (hl : w.cell? ⟨b, off + N, none⟩ = some .nilIface) (hN : N ≤ 7) :
    Calls Tryz.prog 54 #[.slice (some ⟨b, off, none⟩) (N + 1) cap] w fun e w' => e = .returned (.tuple #[.pointer none, .iface 57 (.int .i64 7)]) ∧ w' = w := by
  have HC := contains_last (cap := cap) w h hl hN
  clear h hl
  go_enter Tryz.func54, Tryz.ntmps54
  go_wp2_with (go_at_call 70; refine HC.mono ?_; rintro e w1 ⟨rfl, hw1⟩; subst hw1)
  go_ret2
  exact ⟨rfl, rfl⟩
end Go.Proofs.YtfakjedolecdcaaGreatDoor
namespace Go.Proofs.YtfakjedolecdcaaGreatDoor
open Go.RowKit Go.Extern.Stop Go.Stop Go.Extern

def rtN : Nat → Nat
  | 0 => 0
  | n + 1 => if (rtN n + 1) * (rtN n + 1) ≤ n + 1 then rtN n + 1 else rtN n
theorem sq_succ (r : Nat) : (r + 1) * (r + 1) = r * r + 2 * r + 1 := by
  simp only [Nat.add_mul, Nat.mul_add]; omega
theorem rtN_spec (n : Nat) : rtN n * rtN n ≤ n ∧ n < (rtN n + 1) * (rtN n + 1) := by
  induction n with
  | zero => simp [rtN]
  | succ n ih =>
    obtain ⟨h1, h2⟩ := ih
    simp only [rtN]
    split
    · rename_i h
      refine ⟨h, ?_⟩
      have e1 := sq_succ (rtN n + 1)
      have e2 := sq_succ (rtN n)
      omega
    · rename_i h
      exact ⟨by omega, by omega⟩
theorem sq_le {a b : Nat} (h : a ≤ b) : a * a ≤ b * b := Nat.mul_le_mul h h
theorem rt_uniq {n r : Nat} (h1 : r * r ≤ n) (h2 : n < (r + 1) * (r + 1)) : r = rtN n := by
  obtain ⟨k1, k2⟩ := rtN_spec n
  rcases Nat.lt_trichotomy r (rtN n) with h | h | h
  · have := sq_le (show r + 1 ≤ rtN n from h); omega
  · exact h
  · have := sq_le (show rtN n + 1 ≤ r from h); omega
theorem rtN_le (n : Nat) : rtN n ≤ n := by
  obtain ⟨k1, _⟩ := rtN_spec n
  cases h : rtN n with
  | zero => omega
  | succ r => rw [h, sq_succ] at k1; omega
theorem rtN_pos {n : Nat} (h : 1 ≤ n) : 1 ≤ rtN n := by
  obtain ⟨_, k2⟩ := rtN_spec n
  cases h' : rtN n with
  | zero => rw [h'] at k2; omega
  | succ r => omega
theorem newton_ge {n g r : Nat} (hg : 1 ≤ g) (hr : r * r ≤ n) : r ≤ (g + n / g) / 2 := by
  by_cases h : 2 * r ≤ g
  · have : r ≤ (g + n / g) / 2 := by
      have := Nat.zero_le (n / g)
      omega
    exact this
  · have h1 : (2 * r - g) * g ≤ r * r := by
      rcases Nat.le_total g r with hgr | hgr
      · obtain ⟨d, rfl⟩ := Nat.exists_eq_add_of_le hgr
        have : 2 * (g + d) - g = g + 2 * d := by omega
        rw [this]
        simp only [Nat.add_mul, Nat.mul_add]
        have := Nat.mul_comm g d
        have : 2 * d * g = 2 * (d * g) := Nat.mul_assoc _ _ _
        omega
      · obtain ⟨d, rfl⟩ := Nat.exists_eq_add_of_le hgr
        obtain ⟨e, rfl⟩ : ∃ e, r = d + e := ⟨r - d, by omega⟩
        have : 2 * (d + e) - (d + e + d) = e := by omega
        rw [this]
        simp only [Nat.add_mul, Nat.mul_add]
        have := Nat.mul_comm e d
        omega
    have h2 : 2 * r - g ≤ n / g := (Nat.le_div_iff_mul_le (by omega)).2 (Nat.le_trans h1 hr)
    omega
theorem newton_end {n g : Nat} (hg : 1 ≤ g) (h : g ≤ (g + n / g) / 2) (hr : rtN n ≤ g) : g = rtN n := by
  have h1 : g ≤ n / g := by omega
  have h2 : g * g ≤ n := (Nat.le_div_iff_mul_le (by omega)).1 h1
  obtain ⟨_, k2⟩ := rtN_spec n
  rcases Nat.lt_or_ge (rtN n) g with h3 | h3
  · have := sq_le (show rtN n + 1 ≤ g from h3); omega
  · omega
/-- The law of a time. -/
def lawD (S n t : Int) : Int := t + (S * 1000) / (rtN (1000000 * n).toNat : Int)
/-- What a Delay keeps. -/
structure DlS where
  L : List Hd
  late : Bool
  dl : Int
  throws : Bool
  count : Int
  next : Int
/-- One is pulled: what is left, the one, whether there is one, whether it is bad. -/
def pullD (T S : Int) (s : DlS) (now : Int) : DlS × Hd × Bool × Bool :=
  match s.L with
  | [] => ({ s with late := false }, hd0, false, false)
  | x :: L => if now - x.a < T ∨ L = [] then ({ s with L := L, late := false }, x, true, false) else if s.late = false then ({ s with L := L, late := true, dl := now + S }, x, true, false) else ({ s with L := L }, x, true, decide (s.dl ≤ now))
/-- Bad ones are thrown away from x on, as long as it is time. -/
def goD (T S now : Int) : List Hd → DlS → Hd → DlS × List Hd × Hd × Bool
  | [], s, x => if now < s.next then (s, [], x, true) else ({ s with late := false, throws := false, count := s.count + 1 }, [x], hd0, false)
  | y :: L, s, x =>
    if now < s.next then (s, [], x, true)
    else if (pullD T S { s with count := s.count + 1 } now).2.2.2 then
      let r := goD T S now L { (pullD T S { s with count := s.count + 1 } now).1 with throws := true, next := lawD S (s.count + 1) s.next } y
      (r.1, x :: r.2.1, r.2.2.1, r.2.2.2)
    else ({ (pullD T S { s with count := s.count + 1 } now).1 with throws := false }, [x], y, true)
/-- It begins to throw away. -/
def beginD (S : Int) (s : DlS) (now : Int) : DlS :=
  let c := if 2 < s.count ∧ now - s.next < 16 * S then s.count - 2 else 1
  { s with throws := true, count := c, next := lawD S c now }
/-- One is taken. -/
def takeD (T S : Int) (s : DlS) (now : Int) : DlS × List Hd × Hd × Bool :=
  let p := pullD T S s now
  if p.2.2.2 = false then ({ p.1 with throws := false }, [], p.2.1, p.2.2.1)
  else if p.1.throws then goD T S now p.1.L p.1 p.2.1
  else
    let r := pullD T S p.1 now
    (beginD S r.1 now, [p.2.1], r.2.1, r.2.2.1)
end Go.Proofs.YtfakjedolecdcaaGreatDoor
namespace Go.Proofs.YtfakjedolecdcaaGreatDoor
open Go.RowKit Go.Extern.Stop Go.Stop Go.Extern

set_option maxHeartbeats 1000000 in
theorem root_any (n : Nat) (w : World) (h1 : 1 ≤ n) (h2 : n ≤ 4000000000000000000) :
    Calls Tryz.prog 159 #[.int .i64 n] w fun e w' => e = .returned (.int .i64 (rtN n)) ∧ w' = w := by
  go_enter Tryz.func159, Tryz.ntmps159
  go_wp2
  go_loopw [3] (fun g wr => ∃ k : Nat, rtN n ≤ k ∧ k ≤ n ∧ g = .int .i64 k ∧ wr = w) (fun g _ => (intOf g).toNat)
  case atStart => exact ⟨n, rtN_le n, Nat.le_refl _, rfl, rfl⟩
  case round =>
    obtain ⟨k, hk1, hk2, rfl, rfl⟩ := hrel
    have hk : 1 ≤ k := Nat.le_trans (rtN_pos h1) hk1
    have hz : ((k : Int) == 0) = false := by simp; omega
    obtain ⟨q, hq⟩ : ∃ q, n / k = q := ⟨_, rfl⟩
    have hd : q ≤ n := by rw [← hq]; exact Nat.div_le_self n k
    have e1 : (n : Int) / (k : Int) = (q : Int) := by rw [← hq]; exact (Int.natCast_ediv n k).symm
    have HG : Hid (rtN n ≤ (k + q) / 2) := by have := newton_ge hk (rtN_spec n).1; rw [hq] at this; exact this
    have HE : Hid (k ≤ (k + q) / 2 → k = rtN n) := by intro h; rw [← hq] at h; exact newton_end hk h hk1
    clear hq
    by_cases hlt : (k + q) / 2 < k
    · go_wp2
      go_roundw
      case rel => exact ⟨(k + q) / 2, HG.out, by omega, by go_num, by first | rfl | trivial⟩
      case measure => simp [intOf]; omega
    · go_wp2
      go_ret
      exact ⟨by rw [← HE.out (by omega)]; rfl, rfl⟩
/-- A Delay in block b: its Fifo's room P and R, its Target T and Span S. -/
def dmore (T S : Int) (s : DlS) : List Value := [.int .i64 T, .int .i64 S, .bool s.late, .int .i64 s.dl, .bool s.throws, .int .i64 s.count, .int .i64 s.next]
def DAt (w : World) (b : Nat) (P R T S : Int) (v : Value) (s : DlS) : Prop := LAt w b 154 (frest P R false (dmore T S s)) v s.L
theorem DAt.cells {w : World} {b : Nat} {P R T S : Int} {v : Value} {s : DlS} (h : DAt w b P R T S v s) : (w.cell? ⟨b, 5, none⟩ = some (.int .i64 T) ∧ w.cell? ⟨b, 6, none⟩ = some (.int .i64 S) ∧ w.cell? ⟨b, 7, none⟩ = some (.bool s.late) ∧ w.cell? ⟨b, 8, none⟩ = some (.int .i64 s.dl) ∧ w.cell? ⟨b, 9, none⟩ = some (.bool s.throws) ∧ w.cell? ⟨b, 10, none⟩ = some (.int .i64 s.count) ∧ w.cell? ⟨b, 11, none⟩ = some (.int .i64 s.next)) ∧
    w.frozen? ⟨b, 7, none⟩ = false ∧ w.frozen? ⟨b, 8, none⟩ = false ∧ w.frozen? ⟨b, 9, none⟩ = false ∧ w.frozen? ⟨b, 10, none⟩ = false ∧ w.frozen? ⟨b, 11, none⟩ = false :=
  ⟨⟨(LAt.cell h rfl).1, (LAt.cell h rfl).1, (LAt.cell h rfl).1, (LAt.cell h rfl).1, (LAt.cell h rfl).1, (LAt.cell h rfl).1, (LAt.cell h rfl).1⟩, (LAt.cell h (i := 7) rfl).2, (LAt.cell h (i := 8) rfl).2, (LAt.cell h (i := 9) rfl).2, (LAt.cell h (i := 10) rfl).2, (LAt.cell h (i := 11) rfl).2⟩
theorem root_pos (n : Int) (h : 1 ≤ n) : 1 ≤ rtN (1000000 * n).toNat := rtN_pos (by omega)
set_option maxHeartbeats 1000000 in
theorem law_any {b : Nat} {P R T S : Int} {v : Value} {s : DlS} (t : Int) (w : World) (h : DAt w b P R T S v s) (hS : 0 ≤ S) (hS1 : S ≤ 1000000) (hc : 1 ≤ s.count) (hc1 : s.count ≤ 1000000) (ht : 0 ≤ t) (ht1 : t ≤ 1000000000000000) :
    Calls Tryz.prog 158 #[.pointer (some ⟨b, 0, none⟩), .int .i64 t] w fun e w' => e = .returned (.int .i64 (lawD S s.count t)) ∧ ∃ q, w' = w.drewN q := by
  have hb := LAt.lt h
  obtain ⟨⟨c5, c6, c7, c8, c9, c10, c11⟩, f7, f8, f9, f10, f11⟩ := h.cells
  clear h
  obtain ⟨n, hn⟩ : ∃ n : Nat, (1000000 * s.count).toNat = n := ⟨_, rfl⟩
  have hn1 : IntKind.i64.wrap (1000000 * s.count) = (n : Int) := by rw [IntKind.wrap_i64]; omega
  have HL : Hid (lawD S s.count t = t + (S * 1000) / (rtN n : Int)) := by show _ = _; rw [lawD, hn]
  have hnb : 1 ≤ n ∧ n ≤ 4000000000000000000 := by omega
  obtain ⟨r, hr⟩ : ∃ r, rtN n = r := ⟨_, rfl⟩
  have hrp : 1 ≤ r := by rw [← hr]; exact rtN_pos hnb.1
  have HQ := fun W => root_any n W hnb.1 hnb.2
  rw [hr] at HQ
  have hz : ((r : Int) == 0) = false := by simp; omega
  obtain ⟨q, hq⟩ : ∃ q : Int, (S * 1000) / (r : Int) = q := ⟨_, rfl⟩
  have hq0 : 0 ≤ q ∧ q ≤ 1000000000 := by
    rw [← hq]
    exact ⟨Int.ediv_nonneg (by omega) (by omega), Int.le_trans (Int.ediv_le_self _ (by omega)) (by omega)⟩
  rw [HL.out, hr, hq]
  clear HL hn hr hnb
  go_enter Tryz.func158, Tryz.ntmps158
  go_wp2
  go_quiet (first | (go_at_call 159; exact Calls.quiet_of_same (HQ _)))
  go_wp2
  go_ret
  exact ⟨rfl, _, rfl⟩
end Go.Proofs.YtfakjedolecdcaaGreatDoor
namespace Go.Proofs.YtfakjedolecdcaaGreatDoor
open Go.RowKit Go.Extern.Stop Go.Stop Go.Extern

/-- A Delay's cells as a Fifo's call leaves them. -/
theorem dcells {w : World} {b : Nat} {P R T S : Int} {v : Value} {s : DlS} {L : List Hd} (h : LAt w b 154 (frest P R false (dmore T S s)) v L) : (w.cell? ⟨b, 5, none⟩ = some (.int .i64 T) ∧ w.cell? ⟨b, 6, none⟩ = some (.int .i64 S) ∧ w.cell? ⟨b, 7, none⟩ = some (.bool s.late) ∧ w.cell? ⟨b, 8, none⟩ = some (.int .i64 s.dl) ∧ w.cell? ⟨b, 9, none⟩ = some (.bool s.throws) ∧ w.cell? ⟨b, 10, none⟩ = some (.int .i64 s.count) ∧ w.cell? ⟨b, 11, none⟩ = some (.int .i64 s.next)) ∧
    w.frozen? ⟨b, 7, none⟩ = false ∧ w.frozen? ⟨b, 8, none⟩ = false ∧ w.frozen? ⟨b, 9, none⟩ = false ∧ w.frozen? ⟨b, 10, none⟩ = false ∧ w.frozen? ⟨b, 11, none⟩ = false := DAt.cells (s := { s with L := L }) h
set_option maxHeartbeats 4000000 in
theorem pull_any {b : Nat} {P R T S : Int} {v : Value} {s : DlS} (now : Int) (w : World) (h : DAt w b P R T S v s) (hF : Fit s.L) (hS : 0 ≤ S) (hS1 : S ≤ 1000000) (hn0 : 0 ≤ now) (hn1 : now ≤ 20000000) (ha : ∀ x ∈ s.L, 0 ≤ x.a ∧ x.a ≤ 20000000) :
    Calls Tryz.prog 155 #[.pointer (some ⟨b, 0, none⟩), .int .i64 now] w fun e w' => e = .returned (.tuple #[(pullD T S s now).2.1.val, .bool (pullD T S s now).2.2.1, .bool (pullD T S s now).2.2.2]) ∧ ∃ v', DAt w' b P R T S v' (pullD T S s now).1 ∧ v'.ownBlock = v.ownBlock ∧ Ot (· = b) w w' := by
  have H : Hid (LAt w b 154 (frest P R false (dmore T S s)) v s.L) := h
  have hb := LAt.lt h
  have hV := Hd.val_eq
  clear h
  have HF : Hid (Fit s.L) := hF
  cases hL : s.L with
  | nil =>
    have hp : pullD T S s now = ({ s with late := false }, hd0, false, false) := by simp [pullD, hL]
    rw [hp]
    have HT : Hid (s.L.tail = s.L) := by show _ = _; rw [hL]; rfl
    have hO : hdOr s.L = hd0 := by rw [hL]; rfl
    have hE : s.L.isEmpty = true := by rw [hL]; rfl
    clear hp hL ha hF
    go_enter Tryz.func155, Tryz.ntmps155
    go_wp2_with (go_at_call 145; refine (next_any _ (H.out.below ((Below.refl _ _).alloc (Nat.le_refl _) _)) HF.out).mono ?_; rintro e w1 ⟨rfl, v1, hl1, hk1, ho1⟩; obtain ⟨hs1, hz⟩ := after_ot ho1 (by omega); obtain ⟨⟨z0, z1, z2, z3, z4, z5⟩, y0, y1, y2, y3, y4, y5⟩ := six hz; have hbs : b < w1.heap.size := Nat.lt_trans hb hs1; rw [HT.out] at hl1; obtain ⟨⟨c5, c6, c7, c8, c9, c10, c11⟩, f7, f8, f9, f10, f11⟩ := dcells hl1; have HL1 : Hid (LAt w1 b 154 (frest P R false (dmore T S s)) v1 s.L) := hl1; clear hl1; have HV1 : Hid (∀ k, v1.ownBlock = some k → k ≠ w.heap.size) := fun k hk e => by { have := H.out.row.lt (b := k) (by rw [← hk1, hk]); omega })
    go_quiet (first | (go_at_call 139; go_loud (exact Calls.quiet_of_same (len_any _ ((HL1.out.six (by omega) HV1.out _ _ _ _ _ _).drewN _)))))
    go_wp2
    (try simp only [Exit.inBlock, Exit.then])
    refine bodyPost_ret (v := .tuple #[hd0.val, .bool false, .bool false]) ?_ rfl ⟨rfl, v1, ?_, hk1, ?_⟩
    · exact ret_held2 rfl rfl (six_set (heap_other (by omega) (heap_drew (six_set hz _ _ _ _ _ _))) _ _ _ _ _ _) rfl rfl
    · exact LAt.six (((HL1.out.six (by omega) HV1.out _ _ _ _ _ _).drewN _).rest 5 (.bool false) rfl) (by omega) HV1.out _ _ _ _ _ _
    · have hO : Ot (· = b) w w1 := (Ot.of_below ((Below.refl _ _).alloc (Nat.le_refl _) _)).trans ho1
      repeat' (first | with_reducible exact hO | with_reducible refine Ot.setCell ?_ (by simp) _ | with_reducible refine Ot.drewN ?_ _)
  | cons x L' =>
    have hx := ha x (by rw [hL]; simp)
    have HT : Hid (s.L.tail = L') := by show _ = _; rw [hL]; rfl
    have hO : hdOr s.L = x := by rw [hL]; rfl
    have hE : s.L.isEmpty = false := by rw [hL]; rfl
    have hw : IntKind.i64.wrap (now - x.a) = now - x.a := by rw [IntKind.wrap_i64]; omega
    by_cases h1 : now - x.a < T
    · have hp : pullD T S s now = ({ s with L := L', late := false }, x, true, false) := by simp [pullD, hL, h1]
      rw [hp]
      clear hp hL ha hF
      go_enter Tryz.func155, Tryz.ntmps155
      go_wp2_with (go_at_call 145; refine (next_any _ (H.out.below ((Below.refl _ _).alloc (Nat.le_refl _) _)) HF.out).mono ?_; rintro e w1 ⟨rfl, v1, hl1, hk1, ho1⟩; obtain ⟨hs1, hz⟩ := after_ot ho1 (by omega); obtain ⟨⟨z0, z1, z2, z3, z4, z5⟩, y0, y1, y2, y3, y4, y5⟩ := six hz; have hbs : b < w1.heap.size := Nat.lt_trans hb hs1; rw [HT.out] at hl1; obtain ⟨⟨c5, c6, c7, c8, c9, c10, c11⟩, f7, f8, f9, f10, f11⟩ := dcells hl1; have HL1 : Hid (LAt w1 b 154 (frest P R false (dmore T S s)) v1 L') := hl1; clear hl1; have HV1 : Hid (∀ k, v1.ownBlock = some k → k ≠ w.heap.size) := fun k hk e => by { have := H.out.row.lt (b := k) (by rw [← hk1, hk]); omega })
      go_quiet (first | (go_at_call 139; go_loud (exact Calls.quiet_of_same (len_any _ ((HL1.out.six (by omega) HV1.out _ _ _ _ _ _).drewN _)))))
      go_wp2
      (try simp only [Exit.inBlock, Exit.then])
      refine bodyPost_ret (v := .tuple #[x.val, .bool true, .bool false]) ?_ rfl ⟨rfl, v1, ?_, hk1, ?_⟩
      · exact ret_held2 rfl rfl (six_set (heap_other (by omega) (heap_drew (six_set hz _ _ _ _ _ _))) _ _ _ _ _ _) rfl rfl
      · exact LAt.six (((HL1.out.six (by omega) HV1.out _ _ _ _ _ _).drewN _).rest 5 (.bool false) rfl) (by omega) HV1.out _ _ _ _ _ _
      · have hO : Ot (· = b) w w1 := (Ot.of_below ((Below.refl _ _).alloc (Nat.le_refl _) _)).trans ho1
        repeat' (first | with_reducible exact hO | with_reducible refine Ot.setCell ?_ (by simp) _ | with_reducible refine Ot.drewN ?_ _)
    have h1d : decide (now - x.a < T) = false := decide_eq_false h1
    by_cases h2 : L' = []
    · have hp : pullD T S s now = ({ s with L := L', late := false }, x, true, false) := by simp [pullD, hL, h2]
      rw [hp]
      have hlen : ((L'.length : Int) == 0) = true := by rw [h2]; rfl
      clear hp hL ha hF
      go_enter Tryz.func155, Tryz.ntmps155
      go_wp2_with (go_at_call 145; refine (next_any _ (H.out.below ((Below.refl _ _).alloc (Nat.le_refl _) _)) HF.out).mono ?_; rintro e w1 ⟨rfl, v1, hl1, hk1, ho1⟩; obtain ⟨hs1, hz⟩ := after_ot ho1 (by omega); obtain ⟨⟨z0, z1, z2, z3, z4, z5⟩, y0, y1, y2, y3, y4, y5⟩ := six hz; have hbs : b < w1.heap.size := Nat.lt_trans hb hs1; rw [HT.out] at hl1; obtain ⟨⟨c5, c6, c7, c8, c9, c10, c11⟩, f7, f8, f9, f10, f11⟩ := dcells hl1; have HL1 : Hid (LAt w1 b 154 (frest P R false (dmore T S s)) v1 L') := hl1; clear hl1; have HV1 : Hid (∀ k, v1.ownBlock = some k → k ≠ w.heap.size) := fun k hk e => by { have := H.out.row.lt (b := k) (by rw [← hk1, hk]); omega })
      go_quiet (first | (go_at_call 139; go_loud (exact Calls.quiet_of_same (len_any _ ((HL1.out.six (by omega) HV1.out _ _ _ _ _ _).drewN _)))))
      go_wp2
      (try simp only [Exit.inBlock, Exit.then])
      refine bodyPost_ret (v := .tuple #[x.val, .bool true, .bool false]) ?_ rfl ⟨rfl, v1, ?_, hk1, ?_⟩
      · exact ret_held2 rfl rfl (six_set (heap_other (by omega) (heap_drew (six_set hz _ _ _ _ _ _))) _ _ _ _ _ _) rfl rfl
      · exact LAt.six (((HL1.out.six (by omega) HV1.out _ _ _ _ _ _).drewN _).rest 5 (.bool false) rfl) (by omega) HV1.out _ _ _ _ _ _
      · have hO : Ot (· = b) w w1 := (Ot.of_below ((Below.refl _ _).alloc (Nat.le_refl _) _)).trans ho1
        repeat' (first | with_reducible exact hO | with_reducible refine Ot.setCell ?_ (by simp) _ | with_reducible refine Ot.drewN ?_ _)
    have hlen : ((L'.length : Int) == 0) = false := by
      cases L' with
      | nil => exact absurd rfl h2
      | cons y l => simp; omega
    cases hlate : s.late with
    | false =>
      have hp : pullD T S s now = ({ s with L := L', late := true, dl := now + S }, x, true, false) := by simp [pullD, hL, h1, h2, hlate]
      rw [hp]
      clear hp hL ha hF
      go_enter Tryz.func155, Tryz.ntmps155
      go_wp2_with (go_at_call 145; refine (next_any _ (H.out.below ((Below.refl _ _).alloc (Nat.le_refl _) _)) HF.out).mono ?_; rintro e w1 ⟨rfl, v1, hl1, hk1, ho1⟩; obtain ⟨hs1, hz⟩ := after_ot ho1 (by omega); obtain ⟨⟨z0, z1, z2, z3, z4, z5⟩, y0, y1, y2, y3, y4, y5⟩ := six hz; have hbs : b < w1.heap.size := Nat.lt_trans hb hs1; rw [HT.out] at hl1; obtain ⟨⟨c5, c6, c7, c8, c9, c10, c11⟩, f7, f8, f9, f10, f11⟩ := dcells hl1; have HL1 : Hid (LAt w1 b 154 (frest P R false (dmore T S s)) v1 L') := hl1; clear hl1; have HV1 : Hid (∀ k, v1.ownBlock = some k → k ≠ w.heap.size) := fun k hk e => by { have := H.out.row.lt (b := k) (by rw [← hk1, hk]); omega })
      go_quiet (first | (go_at_call 139; go_loud (exact Calls.quiet_of_same (len_any _ ((HL1.out.six (by omega) HV1.out _ _ _ _ _ _).drewN _)))))
      go_wp2
      (try simp only [Exit.inBlock, Exit.then])
      refine bodyPost_ret (v := .tuple #[x.val, .bool true, .bool false]) ?_ rfl ⟨rfl, v1, ?_, hk1, ?_⟩
      · exact ret_held2 rfl rfl (six_set (heap_other (by omega) (heap_other (by omega) (heap_drew (six_set hz _ _ _ _ _ _)))) _ _ _ _ _ _) rfl rfl
      · exact LAt.six (((((HL1.out.six (by omega) HV1.out _ _ _ _ _ _).drewN _).rest 5 (.bool true) rfl).rest 6 (.int .i64 (now + S)) rfl)) (by omega) HV1.out _ _ _ _ _ _
      · have hO : Ot (· = b) w w1 := (Ot.of_below ((Below.refl _ _).alloc (Nat.le_refl _) _)).trans ho1
        repeat' (first | with_reducible exact hO | with_reducible refine Ot.setCell ?_ (by simp) _ | with_reducible refine Ot.drewN ?_ _)
    | true =>
      have hp : pullD T S s now = ({ s with L := L' }, x, true, decide (s.dl ≤ now)) := by simp [pullD, hL, h1, h2, hlate]
      rw [hp]
      clear hp hL ha hF
      go_enter Tryz.func155, Tryz.ntmps155
      go_wp2_with (go_at_call 145; refine (next_any _ (H.out.below ((Below.refl _ _).alloc (Nat.le_refl _) _)) HF.out).mono ?_; rintro e w1 ⟨rfl, v1, hl1, hk1, ho1⟩; obtain ⟨hs1, hz⟩ := after_ot ho1 (by omega); obtain ⟨⟨z0, z1, z2, z3, z4, z5⟩, y0, y1, y2, y3, y4, y5⟩ := six hz; have hbs : b < w1.heap.size := Nat.lt_trans hb hs1; rw [HT.out] at hl1; obtain ⟨⟨c5, c6, c7, c8, c9, c10, c11⟩, f7, f8, f9, f10, f11⟩ := dcells hl1; have HL1 : Hid (LAt w1 b 154 (frest P R false (dmore T S s)) v1 L') := hl1; clear hl1; have HV1 : Hid (∀ k, v1.ownBlock = some k → k ≠ w.heap.size) := fun k hk e => by { have := H.out.row.lt (b := k) (by rw [← hk1, hk]); omega })
      go_quiet (first | (go_at_call 139; go_loud (exact Calls.quiet_of_same (len_any _ ((HL1.out.six (by omega) HV1.out _ _ _ _ _ _).drewN _)))))
      go_wp2
      go_region
      all_goals go_wp2
      (try simp only [Exit.inBlock, Exit.then])
      refine bodyPost_ret (v := .tuple #[x.val, .bool true, .bool (decide (s.dl ≤ now))]) ?_ rfl ⟨rfl, v1, ?_, hk1, ?_⟩
      · exact ret_held2 rfl rfl (six_set ((heap_drew (six_set hz _ _ _ _ _ _))) _ _ _ _ _ _) rfl rfl
      · exact LAt.six ((HL1.out.six (by omega) HV1.out _ _ _ _ _ _).drewN _) (by omega) HV1.out _ _ _ _ _ _
      · have hO : Ot (· = b) w w1 := (Ot.of_below ((Below.refl _ _).alloc (Nat.le_refl _) _)).trans ho1
        repeat' (first | with_reducible exact hO | with_reducible refine Ot.setCell ?_ (by simp) _ | with_reducible refine Ot.drewN ?_ _)
end Go.Proofs.YtfakjedolecdcaaGreatDoor
