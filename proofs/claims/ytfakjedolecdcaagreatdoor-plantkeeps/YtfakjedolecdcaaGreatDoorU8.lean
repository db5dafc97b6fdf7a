/-
  plain.Play's closure: the numbers of packets are put behind what was lost. Conditions: the packets and what was seen lie in memory, apart.
  early.Red: its state, its mean, and the tape. Conditions: the queue lies in memory; numbers within bounds.
  early.Red: whether a packet is hit. Conditions: the queue lies in memory; numbers within bounds.
-/
import Derived.Test.YtfakjedolecdcaaGreatDoorQd
import Derived.Test.YtfakjedolecdcaaGreatDoorTm
import Derived.Test.YtfakjedolecdcaaGreatDoorU7
namespace Go.Proofs.YtfakjedolecdcaaGreatDoor
open Go.RowKit Go.Extern.Stop Go.Stop Go.Extern

theorem infoInt1 : (Tryz.prog.info? 3).map (fun i => (i.zero, i.size, i.bytes)) = some (some (.int .i64 0), 1, 8) := by kernel_rfl
/-- Ints lie in a slice of the call's own. -/
def Ins (w : World) (v : Value) (l : List Int) : Prop := Seg w 3 1 v l.length (l.map (Value.int .i64))
theorem Ins.nil (w : World) : Ins w (.slice none 0 0) [] := Seg.nil _ _ _
theorem Lies.held {w : World} {x : Option Addr} {L : List Hd} (h : Lies w x (flt Hd.cs L)) {k : Nat} {s : Hd} (hk : L[k]? = some s) : ∃ b off, x = some ⟨b, off, none⟩ ∧ b < w.heap.size ∧ w.cell? ⟨b, off + k * 6, none⟩ = some (.int .i64 s.a) ∧ w.cell? ⟨b, off + k * 6 + 1, none⟩ = some (.int .i64 s.l) ∧ w.cell? ⟨b, off + k * 6 + 2, none⟩ = some (.int .i64 s.f) ∧ w.cell? ⟨b, off + k * 6 + 3, none⟩ = some (.int .i64 s.b) ∧ w.cell? ⟨b, off + k * 6 + 4, none⟩ = some (.int .i64 s.m) ∧ w.cell? ⟨b, off + k * 6 + 5, none⟩ = some (.int .i64 s.n) := by
  have hat : ∀ j, j < 6 → (flt Hd.cs L)[k * 6 + j]? = s.cs[j]? := fun j hj => flt_at Hd.cs 6 Hd.len hk hj
  rcases h with h | ⟨b, off, e, hl, h⟩
  · have := hat 0 (by omega)
    rw [h] at this
    simp [Hd.cs] at this
  · refine ⟨b, off, e, hl, ?_, ?_, ?_, ?_, ?_, ?_⟩
    · exact h _ _ (hat 0 (by omega))
    · exact h _ _ (hat 1 (by omega))
    · exact h _ _ (hat 2 (by omega))
    · exact h _ _ (hat 3 (by omega))
    · exact h _ _ (hat 4 (by omega))
    · exact h _ _ (hat 5 (by omega))
/-- The numbers of the first k packets. -/
def nums (L : List Hd) (k : Nat) : List Int := (L.take k).map Hd.n
theorem nums_succ {L : List Hd} {k : Nat} {s : Hd} (h : L[k]? = some s) : nums L (k + 1) = nums L k ++ [s.n] := by
  unfold nums
  rw [List.take_add_one, h]
  simp
theorem nums_all (L : List Hd) : nums L L.length = L.map Hd.n := by simp [nums]
theorem nums_length {L : List Hd} {k : Nat} (h : k ≤ L.length) : (nums L k).length = k := by simp [nums]; omega

/-- What was seen in a step lies in block b: the five numbers, and what was lost. -/
def Bx (w : World) (b : Nat) (c0 c1 c2 c3 c4 : Value) (lv : Value) : Prop := w.heap[b]? = some (.cells #[c0, c1, c2, c3, c4, lv] 72 (0, 0))

theorem Bx.mid {w W w2 : World} {row : Option Nat} {b : Nat} {c0 c1 c2 c3 c4 lv : Value} (h : Bx w b c0 c1 c2 c3 c4 lv) (hW : Below w.heap.size w W) (hg : W.grownBy w2 row) (hr : row ≠ some b) : Bx w2 b c0 c1 c2 c3 c4 lv :=
  (hg.block b (Nat.lt_of_lt_of_le (lt_of_block h) hW.size) (fun e => hr e.symm)).trans ((hW.block b (lt_of_block h)).trans h)
theorem Bx.lost {w : World} {b : Nat} {c0 c1 c2 c3 c4 lv : Value} (h : Bx w b c0 c1 c2 c3 c4 lv) (v : Value) : Bx (w.setCell ⟨b, 5, none⟩ v) b c0 c1 c2 c3 c4 v := by
  unfold Bx
  rw [heap_setCell_here h v]
  simp
set_option maxHeartbeats 2000000 in
theorem lose_any {b : Nat} {c0 c1 c2 c3 c4 : Value} {u : Value} {L : List Hd} (w : World) (hx : Bx w b c0 c1 c2 c3 c4 (.slice none 0 0)) (hu : Hs w u L) (hne : u.ownBlock ≠ some b) (hn : L.length ≤ 1000000) :
    Calls Tryz.prog 25 #[u, .pointer (some ⟨b, 0, none⟩)] w fun e w' => e = .returned (.tuple #[]) ∧ ∃ lv, Bx w' b c0 c1 c2 c3 c4 lv ∧ Ins w' lv (L.map Hd.n) ∧ (∀ k, lv.ownBlock = some k → w.heap.size ≤ k) ∧ Ot (· = b) w w' := by
  have HX : Hid (Bx w b c0 c1 c2 c3 c4 (.slice none 0 0)) := hx
  have HU : Hid (Hs w u L) := hu
  obtain ⟨x, cap, rfl, hl⟩ := hu.lies
  have HL : Hid (Lies w x (flt Hd.cs L)) := hl
  have hbl : b < w.heap.size := lt_of_block hx
  have HNE : Hid (∀ a, x = some a → a.block ≠ b) := by
    rintro a rfl e
    exact hne (by simp [Value.ownBlock, e])
  clear hl hx hu hne
  generalize hq : L.length = q at *
  have HQ : Hid (L.length = q) := hq
  clear hq
  obtain ⟨i0, hi, hz0, hz1, hz2⟩ := info_parts infoInt1
  go_enter Tryz.func25, Tryz.ntmps25
  go_wp2
  go_loopw [7] (fun i wr => ∃ (k : Nat) (lv : Value), k ≤ q ∧ i = .int .i64 k ∧ Bx wr b c0 c1 c2 c3 c4 lv ∧ Ins wr lv (nums L k) ∧ (∀ k, lv.ownBlock = some k → w.heap.size ≤ k) ∧ Ot (· = b) w wr) (fun i _ => q - (intOf i).toNat)
  case atStart => exact ⟨0, _, Nat.zero_le _, rfl, HX.out, Ins.nil _, fun k hk => by simp [Value.ownBlock] at hk, Ot.refl _ _⟩
  case round =>
    obtain ⟨k, lv, hk, rfl, hbx, hin, hnw, hot⟩ := hrel
    have HB : Hid (Bx wr b c0 c1 c2 c3 c4 lv) := hbx
    have HI : Hid (Ins wr lv (nums L k)) := hin
    have HW : Hid (∀ k, lv.ownBlock = some k → w.heap.size ≤ k) := hnw
    have hws := hot.size
    clear hin hnw
    by_cases hlt : k < q
    · obtain ⟨s, hs⟩ : ∃ s, L[k]? = some s := ⟨_, List.getElem?_eq_getElem (by have := HQ.out; omega)⟩
      have HS : Hid (L[k]? = some s) := hs
      obtain ⟨bb, off, rfl, hbb, k0, k1, k2, k3, k4, k5⟩ := (HL.out.ot hot (fun a e h => HNE.out a e h)).held hs
      clear hs
      obtain ⟨⟨_, _, _, _, _, z5⟩, _, _, _, _, _, y5⟩ := six hbx
      have hbs : b < wr.heap.size := by omega
      have hnl : (nums L k).length = k := nums_length (by have := HQ.out; omega)
      clear hbx
      have HI' : Hid (Seg wr 3 1 lv k ((nums L k).map (Value.int .i64))) := by have := HI.out; unfold Ins at this; rw [hnl] at this; exact this
      clear hnl
      go_wp2_with (at_builtin; refine wpList_append_seg _ rfl (.tmp 12) (.tmp 15) 22 rfl 3 i0 _ 1 8 Tryz.underlying22 hi hz0 hz1 hz2 rfl (by decide) _ _ _ rfl (HI'.out.below (by repeat' (first | with_reducible exact Below.refl _ _ | with_reducible refine Below.drew ?_ | with_reducible refine below_alloc_ ?_ _ | with_reducible refine below_set_ ?_ (by simp) _))) _ 1 1 _ rfl rfl (news_of (new_block_ (by simp))) (by simp [Value.oneCell']) (by decide) (by unfold maxLen; omega) (by omega) _ rfl ?_; intro g goff gcap w2 hs2 hg2 ha2 hl2; have hm2 := HB.out.mid (by repeat' (first | with_reducible exact Below.refl _ _ | with_reducible refine Below.drew ?_ | with_reducible refine below_alloc_ ?_ _)) hg2 (fun e => by have := HW.out b e; omega); obtain ⟨⟨_, _, _, _, _, t5⟩, _, _, _, _, _, e5⟩ := six hm2)
      have hgb : w.heap.size ≤ g := by
        rcases ha2 with ha2 | ha2
        · exact HW.out _ ha2
        · simp at ha2; omega
      go_roundw
      case rel =>
        refine ⟨k + 1, _, by omega, by go_num, hm2.lost _, ?_, ?_, ?_⟩
        · unfold Ins
          rw [nums_succ HS.out, List.length_append, nums_length (by have := HQ.out; omega), List.map_append]
          exact hs2.setCell (p := ⟨b, 5, none⟩) (by simp [Value.ownBlock]; omega) _
        · intro j hj
          simp only [Value.ownBlock, Option.some.injEq] at hj
          omega
        · refine Ot.setCell (S := (· = b)) (p := ⟨b, 5, none⟩) ?_ (Or.inl rfl) _
          refine Ot.grown (row := lv.ownBlock) ?_ hg2 (fun j e => Or.inr (HW.out j e))
          exact Ot.alloc (Ot.alloc hot _) _
      case measure => simp [intOf]; omega
    · obtain rfl : k = q := by omega
      go_wp2
      go_end0
      refine ⟨rfl, lv, HB.out, ?_, HW.out, hot⟩
      have := HI.out
      rw [← HQ.out, nums_all] at this
      exact this
end Go.Proofs.YtfakjedolecdcaaGreatDoor
namespace Go.Proofs.YtfakjedolecdcaaGreatDoor
open Go.RowKit Go.Extern.Stop Go.Stop Go.Extern

/-- A setup. -/
structure RSet where
  lo : Int
  hi : Int
  often : Int
  sl : Int
  mrk : Bool
structure RSet.Ok (q : RSet) : Prop where
  lo0 : 0 ≤ q.lo
  lohi : q.lo < q.hi
  hi1 : q.hi ≤ 1000000
  of0 : 1 ≤ q.often
  of1 : q.often ≤ 1000
  sl0 : 0 ≤ q.sl
  sl1 : q.sl ≤ 10
/-- What a Red keeps. -/
structure RdS where
  L : List Hd
  tape : List Int
  sum : Int
  since : Int
def rmore (q : RSet) (tv : Value) (s : RdS) : List Value := [.int .i64 q.lo, .int .i64 q.hi, .int .i64 q.often, .int .i64 q.sl, .bool q.mrk, tv, .int .i64 s.sum, .int .i64 s.since]
/-- A Red in block b. -/
def DRed (w : World) (b : Nat) (P R : Int) (q : RSet) (v tv : Value) (s : RdS) : Prop := LAt w b 152 (frest P R false (rmore q tv s)) v s.L
theorem DRed.cells {w : World} {b : Nat} {P R : Int} {q : RSet} {v tv : Value} {s : RdS} (h : DRed w b P R q v tv s) : (w.cell? ⟨b, 5, none⟩ = some (.int .i64 q.lo) ∧ w.cell? ⟨b, 6, none⟩ = some (.int .i64 q.hi) ∧ w.cell? ⟨b, 7, none⟩ = some (.int .i64 q.often) ∧ w.cell? ⟨b, 8, none⟩ = some (.int .i64 q.sl) ∧ w.cell? ⟨b, 9, none⟩ = some (.bool q.mrk) ∧ w.cell? ⟨b, 10, none⟩ = some tv ∧ w.cell? ⟨b, 11, none⟩ = some (.int .i64 s.sum) ∧ w.cell? ⟨b, 12, none⟩ = some (.int .i64 s.since)) ∧
    w.frozen? ⟨b, 10, none⟩ = false ∧ w.frozen? ⟨b, 11, none⟩ = false ∧ w.frozen? ⟨b, 12, none⟩ = false :=
  ⟨⟨(LAt.cell h rfl).1, (LAt.cell h rfl).1, (LAt.cell h rfl).1, (LAt.cell h rfl).1, (LAt.cell h rfl).1, (LAt.cell h rfl).1, (LAt.cell h rfl).1, (LAt.cell h rfl).1⟩, (LAt.cell h (i := 10) rfl).2, (LAt.cell h (i := 11) rfl).2, (LAt.cell h (i := 12) rfl).2⟩
def meanR (q : RSet) (sum : Int) : Int := sum / 2 ^ q.sl.toNat
theorem meanR_bd (q : RSet) {sum : Int} (h : 0 ≤ sum) : 0 ≤ meanR q sum ∧ meanR q sum ≤ sum := by
  unfold meanR
  have : (0 : Int) ≤ 2 ^ q.sl.toNat := Int.pow_nonneg (by decide)
  exact ⟨Int.ediv_nonneg h this, Int.ediv_le_self _ h⟩
set_option maxHeartbeats 1000000 in
theorem mean_any {b : Nat} {P R : Int} {q : RSet} {v tv : Value} {s : RdS} (w : World) (h : DRed w b P R q v tv s) (hq : q.Ok) :
    Calls Tryz.prog 150 #[.pointer (some ⟨b, 0, none⟩)] w fun e w' => e = .returned (.int .i64 (meanR q s.sum)) ∧ ∃ n, w' = w.drewN n := by
  have hb := LAt.lt h
  obtain ⟨⟨c5, c6, c7, c8, c9, c10, c11, c12⟩, f10, f11, f12⟩ := h.cells
  clear h
  have hs0 := hq.sl0
  have hs1 := hq.sl1
  go_enter Tryz.func150, Tryz.ntmps150
  go_wp2
  go_quiet (fail)
  go_wp2
  go_ret
  exact ⟨rfl, _, rfl⟩
/-- A Red, and its tape, which nobody else writes. -/
structure RedP (w : World) (b : Nat) (P R : Int) (q : RSet) (v tv : Value) (s : RdS) : Prop where
  pos : DRed w b P R q v tv s
  tape : Ins w tv s.tape
  tb : tv.ownBlock ≠ some b
  tvv : ∀ k, tv.ownBlock = some k → v.ownBlock ≠ some k
theorem RedP.kept {w w' : World} {b : Nat} {P R : Int} {q : RSet} {v tv : Value} {s : RdS} (h : RedP w b P R q v tv s) (hb : w'.heap[b]? = w.heap[b]?) (hv : ∀ k, v.ownBlock = some k → w'.heap[k]? = w.heap[k]?) (ht : ∀ k, tv.ownBlock = some k → w'.heap[k]? = w.heap[k]?) : RedP w' b P R q v tv s :=
  ⟨LAt.kept h.pos hb hv, Seg.kept h.tape ht, h.tb, h.tvv⟩
theorem RedP.drewN {w : World} {b : Nat} {P R : Int} {q : RSet} {v tv : Value} {s : RdS} (h : RedP w b P R q v tv s) (n : Nat) : RedP (w.drewN n) b P R q v tv s := h.kept rfl (fun _ _ => rfl) (fun _ _ => rfl)
def drawV : List Int → Int
  | [] => 0
  | a :: _ => (a % 18446744073709551616) % 1000
theorem drawV_bd (t : List Int) : 0 ≤ drawV t ∧ drawV t ≤ 999 := by
  cases t with
  | nil => exact ⟨Int.le_refl _, by decide⟩
  | cons a t => simp only [drawV]; omega
set_option maxHeartbeats 1000000 in
theorem rddraw_any {b : Nat} {P R : Int} {q : RSet} {v tv : Value} {s : RdS} (w : World) (h : RedP w b P R q v tv s) :
    Calls Tryz.prog 153 #[.pointer (some ⟨b, 0, none⟩)] w fun e w' => e = .returned (.int .i64 (drawV s.tape)) ∧ ∃ tv', RedP w' b P R q v tv' { s with tape := s.tape.tail } ∧ tv'.ownBlock = tv.ownBlock ∧ Ot (· = b) w w' := by
  have H : Hid (RedP w b P R q v tv s) := h
  have hb := LAt.lt h.pos
  obtain ⟨⟨c5, c6, c7, c8, c9, c10, c11, c12⟩, f10, f11, f12⟩ := h.pos.cells
  cases ht : s.tape with
  | nil =>
    obtain ⟨x, cap, rfl⟩ : ∃ x cap, tv = .slice x 0 cap := by
      obtain ⟨x, cap, e, _⟩ := Seg.lies h.tape
      rw [ht] at e
      exact ⟨x, cap, e⟩
    clear h
    go_enter Tryz.func153, Tryz.ntmps153
    go_wp2
    go_ret
    refine ⟨rfl, _, ?_, rfl, Ot.refl _ _⟩
    have e : ({ s with tape := [].tail } : RdS) = s := by rw [List.tail_nil, ← ht]
    rw [e]
    exact H.out
  | cons a t =>
    have h1 := h.tape
    unfold Ins at h1
    rw [ht] at h1
    obtain ⟨b1, off, cap, rfl, hn, hx, hlt, hc⟩ := h1.some (by simp)
    have k0 : w.cell? ⟨b1, off, none⟩ = some (.int .i64 a) := hc 0 _ rfl
    have hd : ∀ off' cap', (off' = off + 1 ∧ cap' = cap - 1 ∨ cap = 1 ∧ off' = off ∧ cap' = 0) → Ins w (.slice (some ⟨b1, off', none⟩) t.length cap') t := by
      intro off' cap' ho
      have := Seg.drop (w := w) (e := 3) (k := 1) (n := t.length + 1) (m := 1) h1 (by omega) off' (by omega)
      unfold Ins
      have hc : cap' = cap - 1 := by omega
      rw [hc]
      simpa using this
    have HD : Hid (∀ off' cap', (off' = off + 1 ∧ cap' = cap - 1 ∨ cap = 1 ∧ off' = off ∧ cap' = 0) → Ins w (.slice (some ⟨b1, off', none⟩) t.length cap') t) := hd
    have he : wrap64 ((IntKind.u64.wrap a).tmod 1000) = drawV (a :: t) := by
      simp only [drawV]
      rw [IntKind.wrap_u64, Int.tmod_eq_emod_of_nonneg (by omega)]
      unfold wrap64; omega
    have HE : Hid (wrap64 ((IntKind.u64.wrap a).tmod 1000) = drawV (a :: t)) := he
    have hnl : t.length + 1 ≤ 9223372036854775807 := by unfold maxLen at hx; simp only [List.length_cons] at hn hx; omega
    have hb1 : b1 ≠ b := fun e => h.tb (by rw [← e]; rfl)
    have htv : v.ownBlock ≠ some b1 := h.tvv b1 rfl
    simp only [List.length_cons] at c10 hn
    clear h h1 hc hd he
    have HF : Hid (∀ off' cap', (off' = off + 1 ∧ cap' = cap - 1 ∨ cap = 1 ∧ off' = off ∧ cap' = 0) → RedP (w.setCell ⟨b, 10, none⟩ (.slice (some ⟨b1, off', none⟩) t.length cap')) b P R q v (.slice (some ⟨b1, off', none⟩) t.length cap') { s with tape := (a :: t).tail }) := by
      intro off' cap' ho
      refine ⟨LAt.rest H.out.pos 8 (.slice (some ⟨b1, off', none⟩) t.length cap') rfl, Seg.setCell (p := ⟨b, 10, none⟩) (HD.out off' cap' ho) (by simpa [Value.ownBlock] using hb1) _, by simpa [Value.ownBlock] using hb1, fun k hk => ?_⟩
      simp only [Value.ownBlock, Option.some.injEq] at hk
      exact hk ▸ htv
    by_cases hcap : cap = 1
    · go_enter Tryz.func153, Tryz.ntmps153
      go_wp2
      go_ret
      exact ⟨by rw [← HE.out]; rfl, _, HF.out off 0 (Or.inr ⟨hcap, rfl, rfl⟩), rfl, Ot.setCell (S := (· = b)) (Ot.refl _ _) (Or.inl rfl) _⟩
    · go_enter Tryz.func153, Tryz.ntmps153
      go_wp2
      go_ret
      exact ⟨by rw [← HE.out]; rfl, _, HF.out (off + 1) (cap - 1) (Or.inl ⟨rfl, rfl⟩), rfl, Ot.setCell (S := (· = b)) (Ot.refl _ _) (Or.inl rfl) _⟩
end Go.Proofs.YtfakjedolecdcaaGreatDoor
namespace Go.Proofs.YtfakjedolecdcaaGreatDoor
open Go.RowKit Go.Extern.Stop Go.Stop Go.Extern

def decR (q : RSet) (s : RdS) (m : Int) : Bool × RdS :=
  if 1000 * (q.hi - q.lo) - s.since * (q.often * (m - q.lo)) ≤ 0 then (true, s)
  else (decide (drawV s.tape * (1000 * (q.hi - q.lo) - s.since * (q.often * (m - q.lo))) < 1000 * (q.often * (m - q.lo))), { s with since := s.since + 1, tape := s.tape.tail })
def hitR (q : RSet) (s : RdS) : Bool × RdS :=
  if meanR q s.sum < q.lo then (false, { s with since := 0 }) else if q.hi ≤ meanR q s.sum then (true, { s with since := 0 })
  else ((decR q s (meanR q s.sum)).1, if (decR q s (meanR q s.sum)).1 then { (decR q s (meanR q s.sum)).2 with since := 0 } else (decR q s (meanR q s.sum)).2)
theorem mul_bd {a b A B : Int} (h0 : 0 ≤ a) (h1 : a ≤ A) (k0 : 0 ≤ b) (k1 : b ≤ B) : 0 ≤ a * b ∧ a * b ≤ A * B := ⟨Int.mul_nonneg h0 k0, Int.mul_le_mul h1 k1 k0 (by omega)⟩
theorem RedP.since {w : World} {b : Nat} {P R : Int} {q : RSet} {v tv : Value} {s : RdS} (h : RedP w b P R q v tv s) (n : Int) : RedP (w.setCell ⟨b, 12, none⟩ (.int .i64 n)) b P R q v tv { s with since := n } :=
  ⟨LAt.rest h.pos 10 (.int .i64 n) rfl, Seg.setCell (p := ⟨b, 12, none⟩) h.tape h.tb _, h.tb, h.tvv⟩
theorem RedP.sum {w : World} {b : Nat} {P R : Int} {q : RSet} {v tv : Value} {s : RdS} (h : RedP w b P R q v tv s) (n : Int) : RedP (w.setCell ⟨b, 11, none⟩ (.int .i64 n)) b P R q v tv { s with sum := n } :=
  ⟨LAt.rest h.pos 9 (.int .i64 n) rfl, Seg.setCell (p := ⟨b, 11, none⟩) h.tape h.tb _, h.tb, h.tvv⟩
set_option maxHeartbeats 2000000 in
theorem decides_any {b : Nat} {P R : Int} {q : RSet} {v tv : Value} {s : RdS} (m : Int) (w : World) (h : RedP w b P R q v tv s) (hq : q.Ok) (hm0 : q.lo ≤ m) (hm1 : m < q.hi) (hc0 : 0 ≤ s.since) (hc1 : s.since ≤ 100000) :
    Calls Tryz.prog 152 #[.pointer (some ⟨b, 0, none⟩), .int .i64 m] w fun e w' => e = .returned (.bool (decR q s m).1) ∧ ∃ tv', RedP w' b P R q v tv' (decR q s m).2 ∧ tv'.ownBlock = tv.ownBlock ∧ Ot (· = b) w w' := by
  have H : Hid (RedP w b P R q v tv s) := h
  have hb := LAt.lt h.pos
  obtain ⟨⟨c5, c6, c7, c8, c9, c10, c11, c12⟩, f10, f11, f12⟩ := h.pos.cells
  clear h
  have l0 := hq.lo0
  have l1 := hq.lohi
  have l2 := hq.hi1
  have l3 := hq.of0
  have l4 := hq.of1
  obtain ⟨o, ho⟩ : ∃ o, q.often * (m - q.lo) = o := ⟨_, rfl⟩
  have ho0 := mul_bd (a := q.often) (b := m - q.lo) (A := 1000) (B := 1000000) (by omega) l4 (by omega) (by omega)
  rw [ho] at ho0
  obtain ⟨p, hp⟩ : ∃ p, s.since * o = p := ⟨_, rfl⟩
  have hp0 := mul_bd (a := s.since) (b := o) (A := 100000) (B := 1000000000) hc0 hc1 ho0.1 (by omega)
  rw [hp] at hp0
  have hw0 : IntKind.i64.wrap (m - q.lo) = m - q.lo := by rw [IntKind.wrap_i64]; omega
  have hw1 : IntKind.i64.wrap (q.often * (m - q.lo)) = o := by rw [ho, IntKind.wrap_i64]; omega
  have hw2 : IntKind.i64.wrap (s.since * o) = p := by rw [hp, IntKind.wrap_i64]; omega
  have hw3 : IntKind.i64.wrap (q.hi - q.lo) = q.hi - q.lo := by rw [IntKind.wrap_i64]; omega
  have hw4 : IntKind.i64.wrap (1000 * (q.hi - q.lo)) = 1000 * (q.hi - q.lo) := by rw [IntKind.wrap_i64]; omega
  obtain ⟨r, hr⟩ : ∃ r, 1000 * (q.hi - q.lo) - p = r := ⟨_, rfl⟩
  have hw5 : IntKind.i64.wrap (1000 * (q.hi - q.lo) - p) = r := by rw [IntKind.wrap_i64]; omega
  have hr1 : r ≤ 1000000000 := by omega
  by_cases hneg : r ≤ 0
  · have hD : decR q s m = (true, s) := by unfold decR; rw [ho, hp, hr, if_pos hneg]
    rw [hD]
    clear hD ho hp hr
    go_enter Tryz.func152, Tryz.ntmps152
    go_wp2
    go_quiet (fail)
    go_wp2
    go_quiet (fail)
    go_wp2
    go_ret
    exact ⟨rfl, tv, H.out.drewN _, rfl, (Ot.refl _ _).drewN _⟩
  · have hD : decR q s m = (decide (drawV s.tape * r < 1000 * o), { s with since := s.since + 1, tape := s.tape.tail }) := by unfold decR; rw [ho, hp, hr, if_neg hneg]
    rw [hD]
    have hdv := drawV_bd s.tape
    obtain ⟨dv, hdv'⟩ : ∃ dv, drawV s.tape = dv := ⟨_, rfl⟩
    have HDV : Hid (drawV s.tape = dv) := hdv'
    rw [hdv'] at hdv ⊢
    obtain ⟨y, hy⟩ : ∃ y, dv * r = y := ⟨_, rfl⟩
    have hy0 := mul_bd (a := dv) (b := r) (A := 999) (B := 1000000000) hdv.1 hdv.2 (by omega) hr1
    rw [hy] at hy0 ⊢
    have hw6 : IntKind.i64.wrap (dv * r) = y := by rw [hy, IntKind.wrap_i64]; omega
    have hw7 : IntKind.i64.wrap (1000 * o) = 1000 * o := by rw [IntKind.wrap_i64]; omega
    have HRN : Hid (r > 0) := by show r > 0; omega
    clear hD ho hp hr hy hdv'
    go_enter Tryz.func152, Tryz.ntmps152
    go_wp2
    go_quiet (fail)
    go_wp2
    go_quiet (fail)
    go_wp2_with (go_at_call 153; fail)
    refine (rddraw_any _ ((H.out.drewN _).since (s.since + 1))).mono ?_
    rintro e w2 ⟨rfl, tv', hr2, hk2, ho2⟩
    rw [HDV.out]
    go_wp2
    go_ret
    exact ⟨rfl, tv', hr2, hk2, (Ot.setCell (S := (· = b)) ((Ot.refl _ _).drewN _) (Or.inl rfl) _).trans ho2⟩
set_option maxHeartbeats 2000000 in
theorem hits_any {b : Nat} {P R : Int} {q : RSet} {v tv : Value} {s : RdS} (w : World) (h : RedP w b P R q v tv s) (hq : q.Ok) (hc0 : 0 ≤ s.since) (hc1 : s.since ≤ 100000) :
    Calls Tryz.prog 151 #[.pointer (some ⟨b, 0, none⟩)] w fun e w' => e = .returned (.bool (hitR q s).1) ∧ ∃ tv', RedP w' b P R q v tv' (hitR q s).2 ∧ tv'.ownBlock = tv.ownBlock ∧ Ot (· = b) w w' := by
  have H : Hid (RedP w b P R q v tv s) := h
  have hb := LAt.lt h.pos
  have HME := mean_any w h.pos hq
  obtain ⟨⟨c5, c6, c7, c8, c9, c10, c11, c12⟩, f10, f11, f12⟩ := h.pos.cells
  clear h
  obtain ⟨m, hm⟩ : ∃ m, meanR q s.sum = m := ⟨_, rfl⟩
  rw [hm] at HME
  by_cases h1 : m < q.lo
  · have hD : hitR q s = (false, { s with since := 0 }) := by unfold hitR; rw [hm, if_pos h1]
    rw [hD]
    clear hD hm
    go_enter Tryz.func151, Tryz.ntmps151
    go_wp2_with (go_at_call 150; refine HME.mono ?_; rintro e w1 ⟨rfl, n1, hw1⟩; subst hw1)
    go_ret
    exact ⟨rfl, tv, (H.out.drewN _).since 0, rfl, Ot.setCell (S := (· = b)) ((Ot.refl _ _).drewN _) (Or.inl rfl) _⟩
  by_cases h2 : q.hi ≤ m
  · have hD : hitR q s = (true, { s with since := 0 }) := by unfold hitR; rw [hm, if_neg h1, if_pos h2]
    rw [hD]
    clear hD hm
    go_enter Tryz.func151, Tryz.ntmps151
    go_wp2_with (go_at_call 150; refine HME.mono ?_; rintro e w1 ⟨rfl, n1, hw1⟩; subst hw1)
    go_ret
    exact ⟨rfl, tv, (H.out.drewN _).since 0, rfl, Ot.setCell (S := (· = b)) ((Ot.refl _ _).drewN _) (Or.inl rfl) _⟩
  have h2d : decide (q.hi ≤ m) = false := decide_eq_false h2
  have HDE := fun W (hW : RedP W b P R q v tv s) => decides_any m W hW hq (by omega) (by omega) hc0 hc1
  obtain ⟨d, hd⟩ : ∃ d, decR q s m = d := ⟨_, rfl⟩
  obtain ⟨hit, s2⟩ := d
  rw [hd] at HDE
  cases hit with
  | true =>
    have hD : hitR q s = (true, { s2 with since := 0 }) := by unfold hitR; rw [hm, if_neg h1, if_neg h2, hd]; rfl
    rw [hD]
    clear hD hm hd
    go_enter Tryz.func151, Tryz.ntmps151
    go_wp2_with (first | (go_at_call 150; refine HME.mono ?_; rintro e w1 ⟨rfl, n1, hw1⟩; subst hw1) | (go_at_call 152; refine (HDE _ (H.out.drewN _)).mono ?_; rintro e w2 ⟨rfl, tv2, hr2, hk2, ho2⟩; have hb2 := LAt.lt hr2.pos; obtain ⟨⟨d5, d6, d7, d8, d9, d10, d11, d12⟩, e10, e11, e12⟩ := hr2.pos.cells))
    go_ret
    exact ⟨rfl, tv2, hr2.since 0, hk2, Ot.setCell (S := (· = b)) (((Ot.refl _ _).drewN _).trans ho2) (Or.inl rfl) _⟩
  | false =>
    have hD : hitR q s = (false, s2) := by unfold hitR; rw [hm, if_neg h1, if_neg h2, hd]; rfl
    rw [hD]
    clear hD hm hd
    go_enter Tryz.func151, Tryz.ntmps151
    go_wp2_with (first | (go_at_call 150; refine HME.mono ?_; rintro e w1 ⟨rfl, n1, hw1⟩; subst hw1) | (go_at_call 152; refine (HDE _ (H.out.drewN _)).mono ?_; rintro e w2 ⟨rfl, tv2, hr2, hk2, ho2⟩; have hb2 := LAt.lt hr2.pos; obtain ⟨⟨d5, d6, d7, d8, d9, d10, d11, d12⟩, e10, e11, e12⟩ := hr2.pos.cells))
    go_ret
    exact ⟨rfl, tv2, hr2, hk2, ((Ot.refl _ _).drewN _).trans ho2⟩
end Go.Proofs.YtfakjedolecdcaaGreatDoor
