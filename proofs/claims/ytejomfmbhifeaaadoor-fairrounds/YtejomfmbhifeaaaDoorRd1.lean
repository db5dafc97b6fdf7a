/-
  early.Red: its state, its mean, and the tape. Conditions: the queue lies in memory; numbers within bounds.
-/
import Derived.Test.YtejomfmbhifeaaaDoorGm
import Derived.Test.YtejomfmbhifeaaaDoorLs
namespace Go.Proofs.YtejomfmbhifeaaaDoor
open Go.RowKit Go.Extern.Stop Go.Stop Go.Extern

/-- A setup. -/
structure RSet where
  lo : Int
  hi : Int
  often : Int
  sl : Int
  mrk : Bool
structure RSet.Ok (q : RSet) : Prop where
  lo0 : 0 ≤ q.lo
  lohi : q.lo < q.hi
  hi1 : q.hi ≤ 1000000
  of0 : 1 ≤ q.often
  of1 : q.often ≤ 1000
  sl0 : 0 ≤ q.sl
  sl1 : q.sl ≤ 10
/-- What a Red keeps. -/
structure RdS where
  L : List Hd
  tape : List Int
  sum : Int
  since : Int
def rmore (q : RSet) (tv : Value) (s : RdS) : List Value := [.int .i64 q.lo, .int .i64 q.hi, .int .i64 q.often, .int .i64 q.sl, .bool q.mrk, tv, .int .i64 s.sum, .int .i64 s.since]
/-- A Red in block b. -/
def DRed (w : World) (b : Nat) (P R : Int) (q : RSet) (v tv : Value) (s : RdS) : Prop := LAt w b 83 (frest P R false (rmore q tv s)) v s.L
theorem DRed.cells {w : World} {b : Nat} {P R : Int} {q : RSet} {v tv : Value} {s : RdS} (h : DRed w b P R q v tv s) : (w.cell? ⟨b, 5, none⟩ = some (.int .i64 q.lo) ∧ w.cell? ⟨b, 6, none⟩ = some (.int .i64 q.hi) ∧ w.cell? ⟨b, 7, none⟩ = some (.int .i64 q.often) ∧ w.cell? ⟨b, 8, none⟩ = some (.int .i64 q.sl) ∧ w.cell? ⟨b, 9, none⟩ = some (.bool q.mrk) ∧ w.cell? ⟨b, 10, none⟩ = some tv ∧ w.cell? ⟨b, 11, none⟩ = some (.int .i64 s.sum) ∧ w.cell? ⟨b, 12, none⟩ = some (.int .i64 s.since)) ∧
    w.frozen? ⟨b, 10, none⟩ = false ∧ w.frozen? ⟨b, 11, none⟩ = false ∧ w.frozen? ⟨b, 12, none⟩ = false :=
  ⟨⟨(LAt.cell h rfl).1, (LAt.cell h rfl).1, (LAt.cell h rfl).1, (LAt.cell h rfl).1, (LAt.cell h rfl).1, (LAt.cell h rfl).1, (LAt.cell h rfl).1, (LAt.cell h rfl).1⟩, (LAt.cell h (i := 10) rfl).2, (LAt.cell h (i := 11) rfl).2, (LAt.cell h (i := 12) rfl).2⟩
def meanR (q : RSet) (sum : Int) : Int := sum / 2 ^ q.sl.toNat
theorem meanR_bd (q : RSet) {sum : Int} (h : 0 ≤ sum) : 0 ≤ meanR q sum ∧ meanR q sum ≤ sum := by
  unfold meanR
  have : (0 : Int) ≤ 2 ^ q.sl.toNat := Int.pow_nonneg (by decide)
  exact ⟨Int.ediv_nonneg h this, Int.ediv_le_self _ h⟩
set_option maxHeartbeats 1000000 in
theorem mean_any {b : Nat} {P R : Int} {q : RSet} {v tv : Value} {s : RdS} (w : World) (h : DRed w b P R q v tv s) (hq : q.Ok) :
    Calls Tryd.prog 12 #[.pointer (some ⟨b, 0, none⟩)] w fun e w' => e = .returned (.int .i64 (meanR q s.sum)) ∧ ∃ n, w' = w.drewN n := by
  have hb := LAt.lt h
  obtain ⟨⟨c5, c6, c7, c8, c9, c10, c11, c12⟩, f10, f11, f12⟩ := h.cells
  clear h
  have hs0 := hq.sl0
  have hs1 := hq.sl1
  go_enter Tryd.func12, Tryd.ntmps12
  go_wp2
  go_quiet (fail)
  go_wp2
  go_ret
  exact ⟨rfl, _, rfl⟩
/-- A Red, and its tape, which nobody else writes. -/
structure RedP (w : World) (b : Nat) (P R : Int) (q : RSet) (v tv : Value) (s : RdS) : Prop where
  pos : DRed w b P R q v tv s
  tape : Ins w tv s.tape
  tb : tv.ownBlock ≠ some b
  tvv : ∀ k, tv.ownBlock = some k → v.ownBlock ≠ some k
theorem RedP.kept {w w' : World} {b : Nat} {P R : Int} {q : RSet} {v tv : Value} {s : RdS} (h : RedP w b P R q v tv s) (hb : w'.heap[b]? = w.heap[b]?) (hv : ∀ k, v.ownBlock = some k → w'.heap[k]? = w.heap[k]?) (ht : ∀ k, tv.ownBlock = some k → w'.heap[k]? = w.heap[k]?) : RedP w' b P R q v tv s :=
  ⟨LAt.kept h.pos hb hv, Seg.kept h.tape ht, h.tb, h.tvv⟩
theorem RedP.drewN {w : World} {b : Nat} {P R : Int} {q : RSet} {v tv : Value} {s : RdS} (h : RedP w b P R q v tv s) (n : Nat) : RedP (w.drewN n) b P R q v tv s := h.kept rfl (fun _ _ => rfl) (fun _ _ => rfl)
def drawV : List Int → Int
  | [] => 0
  | a :: _ => (a % 18446744073709551616) % 1000
theorem drawV_bd (t : List Int) : 0 ≤ drawV t ∧ drawV t ≤ 999 := by
  cases t with
  | nil => exact ⟨Int.le_refl _, by decide⟩
  | cons a t => simp only [drawV]; omega
set_option maxHeartbeats 1000000 in
theorem draw_any {b : Nat} {P R : Int} {q : RSet} {v tv : Value} {s : RdS} (w : World) (h : RedP w b P R q v tv s) :
    Calls Tryd.prog 83 #[.pointer (some ⟨b, 0, none⟩)] w fun e w' => e = .returned (.int .i64 (drawV s.tape)) ∧ ∃ tv', RedP w' b P R q v tv' { s with tape := s.tape.tail } ∧ tv'.ownBlock = tv.ownBlock ∧ Ot (· = b) w w' := by
  have H : Hid (RedP w b P R q v tv s) := h
  have hb := LAt.lt h.pos
  obtain ⟨⟨c5, c6, c7, c8, c9, c10, c11, c12⟩, f10, f11, f12⟩ := h.pos.cells
  cases ht : s.tape with
  | nil =>
    obtain ⟨x, cap, rfl⟩ : ∃ x cap, tv = .slice x 0 cap := by
      obtain ⟨x, cap, e, _⟩ := Seg.lies h.tape
      rw [ht] at e
      exact ⟨x, cap, e⟩
    clear h
    go_enter Tryd.func83, Tryd.ntmps83
    go_wp2
    go_ret
    refine ⟨rfl, _, ?_, rfl, Ot.refl _ _⟩
    have e : ({ s with tape := [].tail } : RdS) = s := by rw [List.tail_nil, ← ht]
    rw [e]
    exact H.out
  | cons a t =>
    have h1 := h.tape
    unfold Ins at h1
    rw [ht] at h1
    obtain ⟨b1, off, cap, rfl, hn, hx, hlt, hc⟩ := h1.some (by simp)
    have k0 : w.cell? ⟨b1, off, none⟩ = some (.int .i64 a) := hc 0 _ rfl
    have hd : ∀ off' cap', (off' = off + 1 ∧ cap' = cap - 1 ∨ cap = 1 ∧ off' = off ∧ cap' = 0) → Ins w (.slice (some ⟨b1, off', none⟩) t.length cap') t := by
      intro off' cap' ho
      have := Seg.drop (w := w) (e := 3) (k := 1) (n := t.length + 1) (m := 1) h1 (by omega) off' (by omega)
      unfold Ins
      have hc : cap' = cap - 1 := by omega
      rw [hc]
      simpa using this
    have HD : Hid (∀ off' cap', (off' = off + 1 ∧ cap' = cap - 1 ∨ cap = 1 ∧ off' = off ∧ cap' = 0) → Ins w (.slice (some ⟨b1, off', none⟩) t.length cap') t) := hd
    have he : wrap64 ((IntKind.u64.wrap a).tmod 1000) = drawV (a :: t) := by
      simp only [drawV]
      rw [IntKind.wrap_u64, Int.tmod_eq_emod_of_nonneg (by omega)]
      unfold wrap64; omega
    have HE : Hid (wrap64 ((IntKind.u64.wrap a).tmod 1000) = drawV (a :: t)) := he
    have hnl : t.length + 1 ≤ 9223372036854775807 := by unfold maxLen at hx; simp only [List.length_cons] at hn hx; omega
    have hb1 : b1 ≠ b := fun e => h.tb (by rw [← e]; rfl)
    have htv : v.ownBlock ≠ some b1 := h.tvv b1 rfl
    simp only [List.length_cons] at c10 hn
    clear h h1 hc hd he
    have HF : Hid (∀ off' cap', (off' = off + 1 ∧ cap' = cap - 1 ∨ cap = 1 ∧ off' = off ∧ cap' = 0) → RedP (w.setCell ⟨b, 10, none⟩ (.slice (some ⟨b1, off', none⟩) t.length cap')) b P R q v (.slice (some ⟨b1, off', none⟩) t.length cap') { s with tape := (a :: t).tail }) := by
      intro off' cap' ho
      refine ⟨LAt.rest H.out.pos 8 (.slice (some ⟨b1, off', none⟩) t.length cap') rfl, Seg.setCell (p := ⟨b, 10, none⟩) (HD.out off' cap' ho) (by simpa [Value.ownBlock] using hb1) _, by simpa [Value.ownBlock] using hb1, fun k hk => ?_⟩
      simp only [Value.ownBlock, Option.some.injEq] at hk
      exact hk ▸ htv
    by_cases hcap : cap = 1
    · go_enter Tryd.func83, Tryd.ntmps83
      go_wp2
      go_ret
      exact ⟨by rw [← HE.out]; rfl, _, HF.out off 0 (Or.inr ⟨hcap, rfl, rfl⟩), rfl, Ot.setCell (S := (· = b)) (Ot.refl _ _) (Or.inl rfl) _⟩
    · go_enter Tryd.func83, Tryd.ntmps83
      go_wp2
      go_ret
      exact ⟨by rw [← HE.out]; rfl, _, HF.out (off + 1) (cap - 1) (Or.inl ⟨rfl, rfl⟩), rfl, Ot.setCell (S := (· = b)) (Ot.refl _ _) (Or.inl rfl) _⟩
end Go.Proofs.YtejomfmbhifeaaaDoor
