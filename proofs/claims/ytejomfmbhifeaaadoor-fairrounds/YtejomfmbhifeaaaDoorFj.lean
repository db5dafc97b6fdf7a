/-
  fair.Rounds: what Len, Bytes, When and Credit tell. Conditions: they lie in memory; few packets.
-/
import Derived.Test.YtejomfmbhifeaaaDoorFi
namespace Go.Proofs.YtejomfmbhifeaaaDoor
open Go.RowKit Go.Extern.Stop Go.Stop Go.Extern

/-- What waits in the first n lists. -/
def allF (fl : Nat → List Hd) (n : Nat) : List Hd := (List.range n).flatMap fl
theorem allF_succ (fl : Nat → List Hd) (n : Nat) : allF fl (n + 1) = allF fl n ++ fl n := by
  unfold allF
  rw [List.range_succ, List.flatMap_append]
  simp
theorem allF_mono (fl : Nat → List Hd) {k n : Nat} (h : k ≤ n) : (allF fl k).length ≤ (allF fl n).length ∧ (∀ x ∈ allF fl k, x ∈ allF fl n) := by
  induction n with
  | zero => obtain rfl : k = 0 := by omega
            exact ⟨Nat.le_refl _, fun _ hx => hx⟩
  | succ n ih =>
    rcases Nat.lt_or_ge n k with h1 | h1
    · obtain rfl : k = n + 1 := by omega
      exact ⟨Nat.le_refl _, fun _ hx => hx⟩
    · obtain ⟨h2, h3⟩ := ih h1
      rw [allF_succ]
      refine ⟨by simp; omega, fun x hx => by simp [h3 x hx]⟩
set_option maxHeartbeats 1000000 in
theorem packs_any {b N : Nat} {T : TypeId} {C : Nat → Value} {o n : Nat} {vs : Nat → Value} {fl : Nat → List Hd} (w : World) (h : ∀ i, i < n → LO w b N T C (o + i * 2) (vs i) (fl i)) (hn : n ≤ 1000) (hF : Fit (allF fl n)) :
    Calls Tryd.prog 104 #[.slice (some ⟨b, o, none⟩) n n] w fun e w' => e = .returned (.int .i64 (allF fl n).length) ∧ w' = w := by
  have HL : Hid (∀ i, i < n → LO w b N T C (o + i * 2) (vs i) (fl i)) := h
  have HF : Hid (Fit (allF fl n)) := hF
  clear h hF
  go_enter Tryd.func104, Tryd.ntmps104
  go_wp2
  go_loopw [3, 7] (fun a i wr => ∃ k : Nat, k ≤ n ∧ i = .int .i64 k ∧ a = .int .i64 (allF fl k).length ∧ wr = w) (fun _ i _ => n - (intOf i).toNat)
  case atStart => exact ⟨0, Nat.zero_le _, rfl, rfl, rfl⟩
  case round =>
    obtain ⟨k, hk, rfl, rfl, rfl⟩ := hrel
    by_cases hlt : k < n
    · have HQ := lenO_any wr (HL.out k hlt)
      have h1 := (allF_mono fl (show k + 1 ≤ n by omega)).1
      have h2 := HF.out.1
      have HS : Hid (allF fl (k + 1) = allF fl k ++ fl k) := allF_succ fl k
      rw [HS.out, List.length_append] at h1
      obtain ⟨a, ha⟩ : ∃ a, (allF fl k).length = a := ⟨_, rfl⟩
      have HA : Hid ((allF fl k).length = a) := ha
      obtain ⟨c, hc⟩ : ∃ c, (fl k).length = c := ⟨_, rfl⟩
      have HC : Hid ((fl k).length = c) := hc
      rw [ha, hc] at h1
      rw [ha]
      rw [hc] at HQ
      have hac : a + c ≤ 1000000 := by omega
      clear ha hc h1 h2
      go_wp2_with (go_at_call 71; refine HQ.mono ?_; rintro e w2 ⟨rfl, hw2⟩; subst hw2)
      go_roundw
      case rel => exact ⟨k + 1, by omega, by go_num, by rw [HS.out, List.length_append, HA.out, HC.out]; congr 1, by first | rfl | trivial⟩
      case measure => simp [intOf]; omega
    · obtain rfl : k = n := by omega
      go_wp2
      go_ret
      exact ⟨rfl, rfl⟩
set_option maxHeartbeats 1000000 in
theorem bytesF_any {b N : Nat} {T : TypeId} {C : Nat → Value} {o n : Nat} {vs : Nat → Value} {fl : Nat → List Hd} (w : World) (h : ∀ i, i < n → LO w b N T C (o + i * 2) (vs i) (fl i)) (hn : n ≤ 1000) (hF : Fit (allF fl n)) :
    Calls Tryd.prog 103 #[.slice (some ⟨b, o, none⟩) n n] w fun e w' => e = .returned (.int .i64 (sumL (allF fl n))) ∧ w' = w := by
  have HL : Hid (∀ i, i < n → LO w b N T C (o + i * 2) (vs i) (fl i)) := h
  have HF : Hid (Fit (allF fl n)) := hF
  clear h hF
  go_enter Tryd.func103, Tryd.ntmps103
  go_wp2
  go_loopw [3, 7] (fun a i wr => ∃ k : Nat, k ≤ n ∧ i = .int .i64 k ∧ a = .int .i64 (sumL (allF fl k)) ∧ wr = w) (fun _ i _ => n - (intOf i).toNat)
  case atStart => exact ⟨0, Nat.zero_le _, rfl, rfl, rfl⟩
  case round =>
    obtain ⟨k, hk, rfl, rfl, rfl⟩ := hrel
    by_cases hlt : k < n
    · have HQ := bytesO_any wr (HL.out k hlt)
      have HS : Hid (allF fl (k + 1) = allF fl k ++ fl k) := allF_succ fl k
      have h1 := allF_mono fl (show k + 1 ≤ n by omega)
      have h2 := HF.out.1
      rw [HS.out] at h1
      have hb1 := Fit.sum (L := allF fl k) (fun x hx => HF.out.2 x (h1.2 x (by simp [hx])))
      have hb2 := Fit.sum (L := fl k) (fun x hx => HF.out.2 x (h1.2 x (by simp [hx])))
      have h3 := h1.1
      rw [List.length_append] at h3
      obtain ⟨a, ha⟩ : ∃ a, sumL (allF fl k) = a := ⟨_, rfl⟩
      have HA : Hid (sumL (allF fl k) = a) := ha
      obtain ⟨c, hc⟩ : ∃ c, sumL (fl k) = c := ⟨_, rfl⟩
      have HC : Hid (sumL (fl k) = c) := hc
      rw [ha] at hb1 ⊢
      rw [hc] at hb2 HQ
      have hac : 0 ≤ a ∧ a ≤ 10000000000 ∧ 0 ≤ c ∧ c ≤ 10000000000 := by omega
      clear ha hc h1 h2 h3 hb1 hb2
      go_wp2_with (go_at_call 70; refine HQ.mono ?_; rintro e w2 ⟨rfl, hw2⟩; subst hw2)
      go_roundw
      case rel => exact ⟨k + 1, by omega, by go_num, by rw [HS.out, sumL_append, HA.out, HC.out], by first | rfl | trivial⟩
      case measure => simp [intOf]; omega
    · obtain rfl : k = n := by omega
      go_wp2
      go_ret
      exact ⟨rfl, rfl⟩
theorem slice16 (b : Nat) (w : World) : (Instr.sliceAt 113 (.pointer (some ⟨b, 33, none⟩)) none none none).run Tryd.prog w = .ok (.slice (some ⟨b, 33, none⟩) 16 16) w := by kernel_rfl
theorem rlen_any {b : Nat} {room : Int} {q : Nat → Int} {C : Nat → Value} {vs : Nat → Value} {tv : Value} {s : RnS} (w : World) (h : RnP w b room q C vs tv s) (hF : Fit (allF s.fl 16)) :
    Calls Tryd.prog 99 #[.pointer (some ⟨b, 0, none⟩)] w fun e w' => e = .returned (.int .i64 (allF s.fl 16).length) ∧ w' = w := by
  have HQ := packs_any (o := 33) (n := 16) w (fun i hi => h.list hi) (by decide) hF
  have hsl := slice16 b
  have hb := h.blk.lt
  clear h
  go_enter Tryd.func99, Tryd.ntmps99
  go_wp2_with (go_at_call 104; refine HQ.mono ?_; rintro e w2 ⟨rfl, hw2⟩; subst hw2)
  go_ret
  exact ⟨rfl, rfl⟩
theorem rbts_any {b : Nat} {room : Int} {q : Nat → Int} {C : Nat → Value} {vs : Nat → Value} {tv : Value} {s : RnS} (w : World) (h : RnP w b room q C vs tv s) (hF : Fit (allF s.fl 16)) :
    Calls Tryd.prog 98 #[.pointer (some ⟨b, 0, none⟩)] w fun e w' => e = .returned (.int .i64 (sumL (allF s.fl 16))) ∧ w' = w := by
  have HQ := bytesF_any (o := 33) (n := 16) w (fun i hi => h.list hi) (by decide) hF
  have hsl := slice16 b
  have hb := h.blk.lt
  clear h
  go_enter Tryd.func98, Tryd.ntmps98
  go_wp2_with (go_at_call 103; refine HQ.mono ?_; rintro e w2 ⟨rfl, hw2⟩; subst hw2)
  go_ret
  exact ⟨rfl, rfl⟩
theorem twhen_any {tv : Value} {l : List Int} (now : Int) (w : World) (h : Ins w tv l) : Calls Tryd.prog 110 #[tv, .int .i64 now] w fun e w' => e = .returned (.tuple #[.int .i64 now, .bool (!l.isEmpty)]) ∧ w' = w := by
  obtain ⟨x, cap, rfl⟩ := Ins.slice h
  have HE : Hid (decide (0 < l.length) = !l.isEmpty) := by
    show _ = _
    cases l <;> simp
  clear h
  go_enter Tryd.func110, Tryd.ntmps110
  go_wp2
  go_ret2
  exact ⟨by rw [← HE.out]; simp, rfl⟩
theorem rwhen_any {b : Nat} {room : Int} {q : Nat → Int} {C : Nat → Value} {vs : Nat → Value} {tv : Value} {s : RnS} (now : Int) (w : World) (h : RnP w b room q C vs tv s) :
    Calls Tryd.prog 102 #[.pointer (some ⟨b, 0, none⟩), .int .i64 now] w fun e w' => e = .returned (.tuple #[.int .i64 now, .bool (!s.tn.isEmpty)]) ∧ w' = w := by
  have HQ := twhen_any now w h.trow
  obtain ⟨⟨c0, c65, c66⟩, f65, f66⟩ := h.cells
  have hb := h.blk.lt
  obtain ⟨x, cap, hx⟩ := Ins.slice h.trow
  clear h
  subst hx
  go_enter Tryd.func102, Tryd.ntmps102
  go_wp2_with (go_at_call 110; refine HQ.mono ?_; rintro e w2 ⟨rfl, hw2⟩; subst hw2)
  go_ret2
  exact ⟨rfl, rfl⟩
theorem rcred_any {b : Nat} {room : Int} {q : Nat → Int} {C : Nat → Value} {vs : Nat → Value} {tv : Value} {s : RnS} (f : Nat) (hf : f < 16) (w : World) (h : RnP w b room q C vs tv s) :
    Calls Tryd.prog 18 #[.pointer (some ⟨b, 0, none⟩), .int .i64 f] w fun e w' => e = .returned (.int .i64 (s.cr f)) ∧ w' = w := by
  obtain ⟨d0, d1, d2⟩ := h.flow hf
  have hb := h.blk.lt
  clear h
  go_enter Tryd.func18, Tryd.ntmps18
  go_wp2
  go_ret
  exact ⟨rfl, rfl⟩
end Go.Proofs.YtejomfmbhifeaaaDoor
