/-
  fair.NewHashed, where its numbers are within bounds. Conditions: they are.
  fair.New: what it makes, and when it tells an error. Conditions: the quanta lie in memory.
  fair.Rounds: what Put and Take leave keeps what holds of them; nothing is lost but what is told; each flow keeps its order. Mathematics alone.
-/
import Derived.Test.YtfakjedolecdcaaGreatDoorU30
import Derived.Test.YtfakjedolecdcaaGreatDoorU29
import Derived.Test.YtfakjedolecdcaaGreatDoorU17
namespace Go.Proofs.YtfakjedolecdcaaGreatDoor
open Go.RowKit Go.Extern.Stop Go.Stop Go.Extern

def ha0 : HaS := ⟨fun _ => [], []⟩
noncomputable def haC (p : HaC) : Array Value := ((Tryz.zeroCells158.setIfInBounds 0 (.int .i64 p.many)).setIfInBounds 1 (.int .i64 p.salt)).setIfInBounds 2 (.int .i64 p.room)
theorem haZ : ∀ f, f < 64 → Tryz.zeroCells158[3 + f * 2]? = some (.slice none 0 0) ∧ Tryz.zeroCells158[3 + f * 2 + 1]? = some (.int .i64 0) := fun f hf => match f, hf with
  | 0, _ => ⟨by kernel_rfl, by kernel_rfl⟩
  | 1, _ => ⟨by kernel_rfl, by kernel_rfl⟩
  | 2, _ => ⟨by kernel_rfl, by kernel_rfl⟩
  | 3, _ => ⟨by kernel_rfl, by kernel_rfl⟩
  | 4, _ => ⟨by kernel_rfl, by kernel_rfl⟩
  | 5, _ => ⟨by kernel_rfl, by kernel_rfl⟩
  | 6, _ => ⟨by kernel_rfl, by kernel_rfl⟩
  | 7, _ => ⟨by kernel_rfl, by kernel_rfl⟩
  | 8, _ => ⟨by kernel_rfl, by kernel_rfl⟩
  | 9, _ => ⟨by kernel_rfl, by kernel_rfl⟩
  | 10, _ => ⟨by kernel_rfl, by kernel_rfl⟩
  | 11, _ => ⟨by kernel_rfl, by kernel_rfl⟩
  | 12, _ => ⟨by kernel_rfl, by kernel_rfl⟩
  | 13, _ => ⟨by kernel_rfl, by kernel_rfl⟩
  | 14, _ => ⟨by kernel_rfl, by kernel_rfl⟩
  | 15, _ => ⟨by kernel_rfl, by kernel_rfl⟩
  | 16, _ => ⟨by kernel_rfl, by kernel_rfl⟩
  | 17, _ => ⟨by kernel_rfl, by kernel_rfl⟩
  | 18, _ => ⟨by kernel_rfl, by kernel_rfl⟩
  | 19, _ => ⟨by kernel_rfl, by kernel_rfl⟩
  | 20, _ => ⟨by kernel_rfl, by kernel_rfl⟩
  | 21, _ => ⟨by kernel_rfl, by kernel_rfl⟩
  | 22, _ => ⟨by kernel_rfl, by kernel_rfl⟩
  | 23, _ => ⟨by kernel_rfl, by kernel_rfl⟩
  | 24, _ => ⟨by kernel_rfl, by kernel_rfl⟩
  | 25, _ => ⟨by kernel_rfl, by kernel_rfl⟩
  | 26, _ => ⟨by kernel_rfl, by kernel_rfl⟩
  | 27, _ => ⟨by kernel_rfl, by kernel_rfl⟩
  | 28, _ => ⟨by kernel_rfl, by kernel_rfl⟩
  | 29, _ => ⟨by kernel_rfl, by kernel_rfl⟩
  | 30, _ => ⟨by kernel_rfl, by kernel_rfl⟩
  | 31, _ => ⟨by kernel_rfl, by kernel_rfl⟩
  | 32, _ => ⟨by kernel_rfl, by kernel_rfl⟩
  | 33, _ => ⟨by kernel_rfl, by kernel_rfl⟩
  | 34, _ => ⟨by kernel_rfl, by kernel_rfl⟩
  | 35, _ => ⟨by kernel_rfl, by kernel_rfl⟩
  | 36, _ => ⟨by kernel_rfl, by kernel_rfl⟩
  | 37, _ => ⟨by kernel_rfl, by kernel_rfl⟩
  | 38, _ => ⟨by kernel_rfl, by kernel_rfl⟩
  | 39, _ => ⟨by kernel_rfl, by kernel_rfl⟩
  | 40, _ => ⟨by kernel_rfl, by kernel_rfl⟩
  | 41, _ => ⟨by kernel_rfl, by kernel_rfl⟩
  | 42, _ => ⟨by kernel_rfl, by kernel_rfl⟩
  | 43, _ => ⟨by kernel_rfl, by kernel_rfl⟩
  | 44, _ => ⟨by kernel_rfl, by kernel_rfl⟩
  | 45, _ => ⟨by kernel_rfl, by kernel_rfl⟩
  | 46, _ => ⟨by kernel_rfl, by kernel_rfl⟩
  | 47, _ => ⟨by kernel_rfl, by kernel_rfl⟩
  | 48, _ => ⟨by kernel_rfl, by kernel_rfl⟩
  | 49, _ => ⟨by kernel_rfl, by kernel_rfl⟩
  | 50, _ => ⟨by kernel_rfl, by kernel_rfl⟩
  | 51, _ => ⟨by kernel_rfl, by kernel_rfl⟩
  | 52, _ => ⟨by kernel_rfl, by kernel_rfl⟩
  | 53, _ => ⟨by kernel_rfl, by kernel_rfl⟩
  | 54, _ => ⟨by kernel_rfl, by kernel_rfl⟩
  | 55, _ => ⟨by kernel_rfl, by kernel_rfl⟩
  | 56, _ => ⟨by kernel_rfl, by kernel_rfl⟩
  | 57, _ => ⟨by kernel_rfl, by kernel_rfl⟩
  | 58, _ => ⟨by kernel_rfl, by kernel_rfl⟩
  | 59, _ => ⟨by kernel_rfl, by kernel_rfl⟩
  | 60, _ => ⟨by kernel_rfl, by kernel_rfl⟩
  | 61, _ => ⟨by kernel_rfl, by kernel_rfl⟩
  | 62, _ => ⟨by kernel_rfl, by kernel_rfl⟩
  | 63, _ => ⟨by kernel_rfl, by kernel_rfl⟩
  | n + 64, h => absurd h (by omega)
theorem ha_new {w : World} {b : Nat} {p : HaC} (h : w.heap[b]? = some (.cells (haC p) 158 (0, 0))) : HaP w b p (fun i => ((haC p)[i]?).getD undef) (fun _ => .slice none 0 0) (.slice none 0 0) ha0 := by
  have hs : Tryz.zeroCells158.size = 132 := by kernel_rfl
  have hs2 : (haC p).size = 132 := by simp [haC, hs]
  have h131 : Tryz.zeroCells158[131]? = some (.slice none 0 0) := by kernel_rfl
  have hfar : ∀ i, 3 ≤ i → (haC p)[i]? = Tryz.zeroCells158[i]? := by
    intro i hi
    unfold haC
    rw [Array.getElem?_setIfInBounds_ne (by omega), Array.getElem?_setIfInBounds_ne (by omega), Array.getElem?_setIfInBounds_ne (by omega)]
  refine ⟨⟨_, h, hs2, fun i hi => ?_⟩, ?_, ?_, ?_, fun f hf => ?_, fun f hf => ?_, ?_, fun _ _ => Hs.nil _, fun _ _ => by simp [Value.ownBlock], fun _ _ _ _ _ k hk => by simp [Value.ownBlock] at hk, Ins.nil _, by simp [Value.ownBlock], fun _ _ k hk => by simp [Value.ownBlock] at hk⟩
  · have e := Array.getElem?_eq_getElem (xs := haC p) (i := i) (by rw [hs2]; exact hi)
    show _ = some (((haC p)[i]?).getD undef)
    rw [e, Option.getD_some]
  · simp [haC, hs]
  · simp [haC, hs]
  · simp [haC, hs]
  · simp only [hfar _ (show 3 ≤ 3 + f * 2 by omega), (haZ f hf).1]; rfl
  · simp only [hfar _ (show 3 ≤ 3 + f * 2 + 1 by omega), (haZ f hf).2]; rfl
  · simp only [hfar 131 (by decide), h131]; rfl
set_option maxRecDepth 20000 in
set_option maxHeartbeats 4000000 in
theorem newHa_yes (p : HaC) (w : World) (hm0 : 1 ≤ p.many) (hm1 : p.many ≤ 64) (hs0 : 0 ≤ p.salt) (hs1 : p.salt ≤ 1000000) (hr0 : 1 ≤ p.room) (hr1 : p.room ≤ 1000000) :
    Calls Tryz.prog 49 #[.int .i64 p.many, .int .i64 p.salt, .int .i64 p.room] w fun e w' => e = .returned (.tuple #[.pointer (some ⟨w.heap.size, 0, none⟩), .nilIface]) ∧ ∃ C, HaP w' w.heap.size p C (fun _ => .slice none 0 0) (.slice none 0 0) ha0 ∧ Below w.heap.size w w' := by
  have HN : Hid (∃ C, HaP (w.alloc (.cells (haC p) 158)) w.heap.size p C (fun _ => .slice none 0 0) (.slice none 0 0) ha0) := ⟨_, ha_new (new_block w _)⟩
  go_enter Tryz.func49, Tryz.ntmps49
  go_wp2
  go_ret2
  obtain ⟨C, hC⟩ := HN.out
  exact ⟨rfl, C, hC, below_alloc_ (Below.refl _ _) _⟩
end Go.Proofs.YtfakjedolecdcaaGreatDoor
namespace Go.Proofs.YtfakjedolecdcaaGreatDoor
open Go.RowKit Go.Extern.Stop Go.Stop Go.Extern

def qOk (a : Int) : Bool := decide (1 ≤ a) && decide (a ≤ 1000000)
theorem eNewQ (args : Array Value) (W : World) : (callFunc 67 args).run Tryz.prog W = .ok (.enter 67 args) W := enters_of Tryz.func67 (by kernel_rfl) rfl args W
theorem newQ_any (a : Int) (w : World) : Calls Tryz.prog 67 #[.int .i64 a] w fun e w' => e = .returned (.bool (!qOk a)) ∧ w' = w := by
  by_cases h1 : 1 ≤ a
  · by_cases h2 : a ≤ 1000000
    · have hq : (!qOk a) = false := by simp [qOk, h1, h2]
      rw [hq]
      clear hq
      go_enter Tryz.func67, Tryz.ntmps67
      go_wp2
      go_ret
      exact ⟨by first | rfl | (simp; omega), rfl⟩
    · have hq : (!qOk a) = true := by simp [qOk, h2]
      rw [hq]
      clear hq
      go_enter Tryz.func67, Tryz.ntmps67
      go_wp2
      go_ret
      exact ⟨rfl, rfl⟩
  · have hq : (!qOk a) = true := by simp [qOk, h1]
    rw [hq]
    clear hq
    go_enter Tryz.func67, Tryz.ntmps67
    go_wp2
    go_ret
    exact ⟨rfl, rfl⟩
theorem irow_cell {w : World} {px : Option Addr} {m : Nat} {f : Nat → Int} (h : IRow w px m f) {k : Nat} (hk : k < m) : ∃ b off, px = some ⟨b, off, none⟩ ∧ b < w.heap.size ∧ w.cell? ⟨b, off + k, none⟩ = some (.int .i64 (f k)) := by
  rcases h with h | ⟨b, off, h1, h2, h3⟩
  · omega
  · exact ⟨b, off, h1, h2, h3 k hk⟩
set_option maxHeartbeats 1000000 in
/-- The first one that may not be, or none. -/
theorem qidx_any {px : Option Addr} {m pcap : Nat} {f : Nat → Int} (w : World) (h : IRow w px m f) (hm : m ≤ 1000) (j : Nat) (hj : j ≤ m) (hlow : ∀ i, i < j → qOk (f i) = true) (hat : j < m → qOk (f j) = false) :
    Calls Tryz.prog 81 #[.slice px m pcap, .func (.func 67) #[] #[]] w fun e w' => e = .returned (.int .i64 (if j < m then (j : Int) else -1)) ∧ w' = w := by
  have HI : Hid (IRow w px m f) := h
  have heq := eNewQ
  have HLO : Hid (∀ i, i < j → qOk (f i) = true) := hlow
  have HAT : Hid (j < m → qOk (f j) = false) := hat
  clear h hlow hat
  go_enter Tryz.func81, Tryz.ntmps81
  go_wp2
  go_loopw [8] (fun i wr => ∃ k : Nat, k ≤ j ∧ i = .int .i64 k ∧ wr = w) (fun i _ => m + 1 - (intOf i).toNat)
  case atStart => exact ⟨0, Nat.zero_le _, rfl, rfl⟩
  case round =>
    obtain ⟨k, hk, rfl, rfl⟩ := hrel
    by_cases hlt : k < m
    · obtain ⟨b, off, rfl, hb, hc⟩ := irow_cell HI.out hlt
      have HQ := newQ_any (f k) wr
      by_cases hkj : k < j
      · rw [HLO.out k hkj] at HQ
        go_wp2_with (go_at_call 67; refine HQ.mono ?_; rintro e w2 ⟨rfl, hw2⟩; subst hw2)
        go_roundw
        case rel => exact ⟨k + 1, by omega, by go_num, by first | rfl | trivial⟩
        case measure => simp [intOf]; omega
      · obtain rfl : k = j := by omega
        rw [HAT.out hlt] at HQ
        go_wp2_with (go_at_call 67; refine HQ.mono ?_; rintro e w2 ⟨rfl, hw2⟩; subst hw2)
        go_ret
        exact ⟨by first | rfl | (rw [if_pos hlt]; rfl), rfl⟩
    · obtain rfl : k = j := by omega
      go_wp2
      go_ret
      exact ⟨by first | rfl | (rw [if_neg hlt]; rfl), rfl⟩
/-- Whether each of them may be. -/
def allQ (f : Nat → Int) (m : Nat) : Bool := (List.range m).all (fun i => qOk (f i))
theorem allQ_yes {f : Nat → Int} {m : Nat} (h : allQ f m = true) {i : Nat} (hi : i < m) : 1 ≤ f i ∧ f i ≤ 1000000 := by
  unfold allQ at h
  rw [List.all_eq_true] at h
  have := h i (List.mem_range.2 hi)
  simpa [qOk] using this
theorem allQ_first {f : Nat → Int} : ∀ m, ∃ j, j ≤ m ∧ (∀ i, i < j → qOk (f i) = true) ∧ (j < m → qOk (f j) = false) ∧ (allQ f m = decide (j = m)) := by
  intro m
  induction m with
  | zero => exact ⟨0, Nat.le_refl _, fun i hi => by omega, fun h => by omega, rfl⟩
  | succ m ih =>
    obtain ⟨j, h1, h2, h3, h4⟩ := ih
    have e : allQ f (m + 1) = (allQ f m && qOk (f m)) := by simp [allQ, List.range_succ]
    by_cases hj : j = m
    · subst hj
      cases hq : qOk (f j) with
      | true =>
        refine ⟨j + 1, Nat.le_refl _, fun i hi => ?_, fun h => by omega, by rw [e, h4, hq]; simp⟩
        rcases Nat.lt_or_ge i j with h | h
        · exact h2 i h
        · obtain rfl : i = j := by omega
          exact hq
      | false => exact ⟨j, by omega, h2, fun _ => hq, by rw [e, hq]; simp⟩
    · have e2 : decide (j = m) = false := by simp [hj]
      have e3 : decide (j = m + 1) = false := by simp; omega
      exact ⟨j, by omega, h2, fun _ => h3 (by omega), by rw [e, h4, e2, e3]; rfl⟩
theorem qcont_any {px : Option Addr} {m pcap : Nat} {f : Nat → Int} (w : World) (h : IRow w px m f) (hm : m ≤ 1000) :
    Calls Tryz.prog 68 #[.slice px m pcap, .func (.func 67) #[] #[]] w fun e w' => e = .returned (.bool (!allQ f m)) ∧ w' = w := by
  obtain ⟨j, h1, h2, h3, h4⟩ := allQ_first (f := f) m
  have HQ := qidx_any (pcap := pcap) w h hm j h1 h2 h3
  rw [h4]
  by_cases hj : j < m
  · rw [if_pos hj] at HQ
    have hd : (!decide (j = m)) = true := by simp; omega
    rw [hd]
    clear h h2 h3 h4
    go_enter Tryz.func68, Tryz.ntmps68
    go_wp2_with (go_at_call 81; refine HQ.mono ?_; rintro e w2 ⟨rfl, hw2⟩; subst hw2)
    go_ret
    exact ⟨by simp, rfl⟩
  · rw [if_neg hj] at HQ
    have hd : (!decide (j = m)) = false := by simp; omega
    rw [hd]
    clear h h2 h3 h4
    go_enter Tryz.func68, Tryz.ntmps68
    go_wp2_with (go_at_call 81; refine HQ.mono ?_; rintro e w2 ⟨rfl, hw2⟩; subst hw2)
    go_ret
    exact ⟨rfl, rfl⟩
/-- Empty ones. -/
def rn0 : RnS := ⟨fun _ => [], fun _ => 0, [], false⟩
theorem RnP.setQ {w : World} {b : Nat} {room : Int} {q : Nat → Int} {C : Nat → Value} {vs : Nat → Value} {tv : Value} {s : RnS} (h : RnP w b room q C vs tv s) {f : Nat} (hf : f < 16) (x : Int) : RnP (w.setCell ⟨b, 1 + f, none⟩ (.int .i64 x)) b room (updF q f x) (updC C (1 + f) (.int .i64 x)) vs tv s where
  blk := h.blk.set _ _
  c0 := by rw [updC_ne (by omega)]; exact h.c0
  cq := fun g hg => by
    by_cases e : g = f
    · subst e; rw [updC_same, updF_same]
    · rw [updC_ne (by omega), updF_ne e]; exact h.cq g hg
  cc := fun g hg => by rw [updC_ne (by omega)]; exact h.cc g hg
  cv := fun g hg => by rw [updC_ne (by omega)]; exact h.cv g hg
  cs := fun g hg => by rw [updC_ne (by omega)]; exact h.cs g hg
  ct := by rw [updC_ne (by omega)]; exact h.ct
  cb := by rw [updC_ne (by omega)]; exact h.cb
  row := fun g hg => (h.row g hg).setCell (p := ⟨b, 1 + f, none⟩) (h.vne g hg) _
  vne := h.vne
  vdis := h.vdis
  trow := Seg.setCell (p := ⟨b, 1 + f, none⟩) h.trow h.tne _
  tne := h.tne
  tdis := h.tdis
/-- The quantum of a flow. -/
def qF (f : Nat → Int) (m k i : Nat) : Int := if i < k then f (min i (m - 1)) else 0
theorem qF_succ (f : Nat → Int) (m k : Nat) : updF (qF f m k) k (f (min k (m - 1))) = qF f m (k + 1) := by
  funext i
  unfold updF qF
  by_cases e : i = k
  · subst e; simp
  · by_cases h : i < k
    · simp [e, h, show i < k + 1 by omega]
    · simp [e, h, show ¬ i < k + 1 by omega]
theorem rn_new {w : World} {b : Nat} {room : Int} (h : w.heap[b]? = some (.cells (Tryz.zeroCells164.setIfInBounds 0 (.int .i64 room)) 164 (0, 0))) : RnP w b room (fun _ => 0) (fun i => ((Tryz.zeroCells164.setIfInBounds 0 (.int .i64 room))[i]?).getD undef) (fun _ => .slice none 0 0) (.slice none 0 0) rn0 where
  blk := by
    have hs : Tryz.zeroCells164.size = 67 := by kernel_rfl
    refine ⟨_, h, by rw [Array.size_setIfInBounds, hs], fun i hi => ?_⟩
    have e := Array.getElem?_eq_getElem (xs := Tryz.zeroCells164.setIfInBounds 0 (.int .i64 room)) (i := i) (by rw [Array.size_setIfInBounds, hs]; exact hi)
    show _ = some (((Tryz.zeroCells164.setIfInBounds 0 (.int .i64 room))[i]?).getD undef)
    rw [e]
    rfl
  c0 := by kernel_rfl
  cq := fun f hf => match f, hf with | 0, _ => by kernel_rfl | 1, _ => by kernel_rfl | 2, _ => by kernel_rfl | 3, _ => by kernel_rfl | 4, _ => by kernel_rfl | 5, _ => by kernel_rfl | 6, _ => by kernel_rfl | 7, _ => by kernel_rfl | 8, _ => by kernel_rfl | 9, _ => by kernel_rfl | 10, _ => by kernel_rfl | 11, _ => by kernel_rfl | 12, _ => by kernel_rfl | 13, _ => by kernel_rfl | 14, _ => by kernel_rfl | 15, _ => by kernel_rfl | n + 16, h => absurd h (by omega)
  cc := fun f hf => match f, hf with | 0, _ => by kernel_rfl | 1, _ => by kernel_rfl | 2, _ => by kernel_rfl | 3, _ => by kernel_rfl | 4, _ => by kernel_rfl | 5, _ => by kernel_rfl | 6, _ => by kernel_rfl | 7, _ => by kernel_rfl | 8, _ => by kernel_rfl | 9, _ => by kernel_rfl | 10, _ => by kernel_rfl | 11, _ => by kernel_rfl | 12, _ => by kernel_rfl | 13, _ => by kernel_rfl | 14, _ => by kernel_rfl | 15, _ => by kernel_rfl | n + 16, h => absurd h (by omega)
  cv := fun f hf => match f, hf with | 0, _ => by kernel_rfl | 1, _ => by kernel_rfl | 2, _ => by kernel_rfl | 3, _ => by kernel_rfl | 4, _ => by kernel_rfl | 5, _ => by kernel_rfl | 6, _ => by kernel_rfl | 7, _ => by kernel_rfl | 8, _ => by kernel_rfl | 9, _ => by kernel_rfl | 10, _ => by kernel_rfl | 11, _ => by kernel_rfl | 12, _ => by kernel_rfl | 13, _ => by kernel_rfl | 14, _ => by kernel_rfl | 15, _ => by kernel_rfl | n + 16, h => absurd h (by omega)
  cs := fun f hf => match f, hf with | 0, _ => by kernel_rfl | 1, _ => by kernel_rfl | 2, _ => by kernel_rfl | 3, _ => by kernel_rfl | 4, _ => by kernel_rfl | 5, _ => by kernel_rfl | 6, _ => by kernel_rfl | 7, _ => by kernel_rfl | 8, _ => by kernel_rfl | 9, _ => by kernel_rfl | 10, _ => by kernel_rfl | 11, _ => by kernel_rfl | 12, _ => by kernel_rfl | 13, _ => by kernel_rfl | 14, _ => by kernel_rfl | 15, _ => by kernel_rfl | n + 16, h => absurd h (by omega)
  ct := by kernel_rfl
  cb := by kernel_rfl
  row := fun _ _ => Hs.nil _
  vne := fun _ _ => by simp [Value.ownBlock]
  vdis := fun _ _ _ _ _ k hk => by simp [Value.ownBlock] at hk
  trow := Ins.nil _
  tne := by simp [Value.ownBlock]
  tdis := fun _ _ k hk => by simp [Value.ownBlock] at hk
set_option maxRecDepth 20000 in
set_option maxHeartbeats 4000000 in
theorem newRn_yes {px : Option Addr} {m pcap : Nat} {f : Nat → Int} (room : Int) (w : World) (h : IRow w px m f) (hm0 : 1 ≤ m) (hm : m ≤ 16) (hr0 : 0 ≤ room) (hr1 : room ≤ 1000000) (hq : allQ f m = true) :
    Calls Tryz.prog 51 #[.int .i64 room, .slice px m pcap] w fun e w' => e = .returned (.tuple #[.pointer (some ⟨w.heap.size, 0, none⟩), .nilIface]) ∧ ∃ C, RnP w' w.heap.size room (qF f m 16) C (fun _ => .slice none 0 0) (.slice none 0 0) rn0 ∧ Below w.heap.size w w' := by
  have HI : Hid (IRow w px m f) := h
  have HC := qcont_any (pcap := pcap) w h (by omega)
  rw [hq] at HC
  have hmi : (1 : Int) ≤ m ∧ (m : Int) ≤ 16 := by omega
  clear h hq
  go_enter Tryz.func51, Tryz.ntmps51
  go_wp2_with (go_at_call 68; refine HC.mono ?_; rintro e w2 ⟨rfl, hw2⟩; subst hw2)
  have HNW := rn_new (w := w2.alloc (.cells (Tryz.zeroCells164.setIfInBounds 0 (.int .i64 room)) 164)) (room := room) (new_block w2 _)
  have e0 : (fun _ => 0) = qF f m 0 := by funext i; simp [qF]
  rw [e0] at HNW
  have HN0 : Hid (∃ C, RnP (w2.alloc (.cells (Tryz.zeroCells164.setIfInBounds 0 (.int .i64 room)) 164)) w2.heap.size room (qF f m 0) C (fun _ => .slice none 0 0) (.slice none 0 0) rn0) := ⟨_, HNW⟩
  clear HNW e0
  go_loopw [33] (fun i wr => ∃ k : Nat, k ≤ 16 ∧ i = .int .i64 k ∧ (∃ C, RnP wr w2.heap.size room (qF f m k) C (fun _ => .slice none 0 0) (.slice none 0 0) rn0) ∧ Below w2.heap.size w2 wr) (fun i _ => 16 - (intOf i).toNat)
  case atStart => exact ⟨0, Nat.zero_le _, rfl, HN0.out, below_alloc_ (Below.refl _ _) _⟩
  case round =>
    obtain ⟨k, hk, rfl, ⟨C, hP⟩, hbl⟩ := hrel
    have HP : Hid (RnP wr w2.heap.size room (qF f m k) C (fun _ => .slice none 0 0) (.slice none 0 0) rn0) := hP
    have HBL : Hid (Below w2.heap.size w2 wr) := hbl
    have hB := hP.blk.lt
    clear hP hbl
    by_cases hlt : k < 16
    · have d := HP.out.blk.cell (i := 1 + k) (by omega)
      rw [HP.out.cq k hlt] at d
      obtain ⟨d0, d1⟩ := d
      have HQS := qF_succ f m k
      by_cases hkm : k < m
      · obtain ⟨pb, poff, rfl, hpb, hc⟩ := irow_cell HI.out hkm
        have hc' : wr.cell? ⟨pb, poff + k, none⟩ = some (.int .i64 (f k)) := (World.cell?_of_block (w := w2) (a := ⟨pb, poff + k, none⟩) (HBL.out.block pb hpb)).trans hc
        have hpb' : pb < wr.heap.size := Nat.lt_of_lt_of_le hpb HBL.out.size
        have hmn : min k (m - 1) = k := by omega
        rw [hmn] at HQS
        have HQ : Hid (updF (qF f m k) k (f k) = qF f m (k + 1)) := HQS
        have h1 : decide ((m : Int) - 1 < (k : Int)) = false := by simp; omega
        have h2 : ¬ ((m : Int) - 1 < (k : Int)) := by omega
        have h3 : ¬ (pb = w2.heap.size) := by omega
        clear HQS hmn hc
        go_wp2
        all_goals go_region
        all_goals go_wp2
        all_goals
          refine ⟨⟨k + 1, by omega, by go_num, ⟨_, by rw [← HQ.out]; exact (HP.out.setQ hlt _).drewN 1⟩, ?_⟩, by simp [intOf]; omega⟩
          exact (below_set_ HBL.out (Nat.le_refl _) _).drew
      · obtain ⟨pb, poff, rfl, hpb, hc⟩ := irow_cell HI.out (show m - 1 < m by omega)
        have hc' : wr.cell? ⟨pb, poff + (m - 1), none⟩ = some (.int .i64 (f (m - 1))) := (World.cell?_of_block (w := w2) (a := ⟨pb, poff + (m - 1), none⟩) (HBL.out.block pb hpb)).trans hc
        have hpb' : pb < wr.heap.size := Nat.lt_of_lt_of_le hpb HBL.out.size
        have hmn : min k (m - 1) = m - 1 := by omega
        rw [hmn] at HQS
        obtain ⟨m1, hm1⟩ : ∃ m1, m - 1 = m1 := ⟨_, rfl⟩
        have hmm : m = m1 + 1 := by omega
        rw [hm1] at HQS hc'
        have HQ : Hid (updF (qF f m k) k (f m1) = qF f m (k + 1)) := HQS
        have h1 : decide ((m1 : Int) < (k : Int)) = true := by simp; omega
        have h2 : (m1 : Int) < (k : Int) := by omega
        have h4 : (m : Int) - 1 = (m1 : Int) := by omega
        have h6 : IntKind.i64.wrap ((m : Int) - 1) = (m1 : Int) := by rw [IntKind.wrap_i64]; omega
        have h5 : m1 < m := by omega
        have h3 : ¬ (pb = w2.heap.size) := by omega
        clear HQS hmn hc hm1 hmm
        go_wp2
        all_goals go_region
        all_goals go_wp2
        all_goals
          refine ⟨⟨k + 1, by omega, by go_num, ⟨_, by rw [← HQ.out]; exact (HP.out.setQ hlt _).drewN 1⟩, ?_⟩, by simp [intOf]; omega⟩
          exact (below_set_ HBL.out (Nat.le_refl _) _).drew
    · obtain rfl : k = 16 := by omega
      go_wp2
      go_ret2
      exact ⟨rfl, C, HP.out, HBL.out⟩
end Go.Proofs.YtfakjedolecdcaaGreatDoor
namespace Go.Proofs.YtfakjedolecdcaaGreatDoor
open Go.RowKit Go.Extern.Stop Go.Stop Go.Extern

theorem RnI.put {q : Nat → Int} {room : Int} {s : RnS} {x : Hd} (h : RnI q s) (hlen : (s.fl x.f.toNat).length ≤ 1000) : RnI q (putW room s x).1 := by
  unfold putW
  split
  · rename_i hc
    have hfl := ok_flow hc.1
    obtain ⟨f, hf⟩ : ∃ f : Nat, x.f = f := ⟨x.f.toNat, by omega⟩
    have hf16 : f < 16 := by omega
    have ht : x.f.toNat = f := by omega
    rw [ht] at hlen ⊢
    have hlen' : ∀ g, g < 16 → (updF s.fl f (s.fl f ++ [x]) g).length ≤ 1001 := by
      intro g hg
      by_cases e : g = f
      · subst e; rw [updF_same]; simp; omega
      · rw [updF_ne e]; exact h.len g hg
    have hok' : ∀ g, g < 16 → ∀ y ∈ updF s.fl f (s.fl f ++ [x]) g, y.ok = true ∧ y.f = (g : Int) := by
      intro g hg y hy
      by_cases e : g = f
      · subst e
        rw [updF_same] at hy
        rcases List.mem_append.1 hy with h1 | h1
        · exact h.ok g hg y h1
        · simp at h1; subst h1; exact ⟨hc.1, hf⟩
      · rw [updF_ne e] at hy; exact h.ok g hg y hy
    cases he : s.fl f with
    | nil =>
      have hnin : (f : Int) ∉ s.tn := fun hm => (h.tfl f hf16).1 hm he
      simp only [List.isEmpty_nil, if_true, hf]
      rw [he] at hlen' hok'
      refine ⟨fun m hm => ?_, ?_, fun g hg => ?_, hlen', hok', fun g hg => ?_, fun m hm hd => ?_, h.qs⟩
      · rcases List.mem_append.1 hm with h1 | h1
        · exact h.tin m h1
        · simp at h1; omega
      · show (s.tn ++ [(f : Int)]).Nodup
        rw [List.nodup_append]
        exact ⟨h.tnd, by simp, fun a ha b hb e => by simp at hb; subst hb; subst e; exact hnin ha⟩
      · show (g : Int) ∈ s.tn ++ [(f : Int)] ↔ updF s.fl f ([] ++ [x]) g ≠ []
        by_cases e : g = f
        · subst e; rw [updF_same]; simp
        · rw [updF_ne e, ← h.tfl g hg]; simp; omega
      · show 0 ≤ updF s.cr f 0 g ∧ updF s.cr f 0 g ≤ 1010000
        by_cases e : g = f
        · subst e; rw [updF_same]; omega
        · rw [updF_ne e]; exact h.cr0 g hg
      · show updF s.cr f 0 m.toNat ≤ 10000
        rcases List.mem_append.1 hm with h1 | h1
        · have hm0 := h.tin m h1
          have hmf : m ≠ (f : Int) := fun e => hnin (e ▸ h1)
          rw [updF_ne (by omega)]
          refine h.crt m h1 ?_
          rcases hd with hd | hd
          · exact Or.inl hd
          · refine Or.inr (fun e => hd ?_)
            show (s.tn ++ [(f : Int)]).head? = some m
            cases ht : s.tn with
            | nil => rw [ht] at h1; simp at h1
            | cons a l => rw [ht] at e; simpa using e
        · simp at h1
          subst h1
          rw [Int.toNat_natCast, updF_same]; omega
    | cons y L =>
      simp only [List.isEmpty_cons, Bool.false_eq_true, if_false]
      rw [he] at hlen' hok'
      refine ⟨h.tin, h.tnd, fun g hg => ?_, hlen', hok', h.cr0, h.crt, h.qs⟩
      show (g : Int) ∈ s.tn ↔ updF s.fl f (y :: L ++ [x]) g ≠ []
      by_cases e : g = f
      · subst e; rw [updF_same, h.tfl g hg, he]; simp
      · rw [updF_ne e]; exact h.tfl g hg
  · exact h
theorem takeW_fl (q : Nat → Int) : ∀ (n : Nat) (s : RnS), mu s < n → ((takeW q s).2.2.2 = false ∧ (takeW q s).1.fl = s.fl ∧ (takeW q s).2.1 = []) ∨ (∃ f x L, f < 16 ∧ s.fl f = x :: L ∧ (takeW q s).1.fl = updF s.fl f L ∧ (takeW q s).2 = ([], x, true)) := by
  intro n
  induction n with
  | zero => intro s h; omega
  | succ n ih =>
    intro s hs
    rw [takeW]
    cases ht : s.tn with
    | nil => exact Or.inl ⟨rfl, rfl, rfl⟩
    | cons m B =>
      simp only
      cases hL : s.fl m.toNat with
      | nil => exact Or.inl ⟨rfl, rfl, rfl⟩
      | cons x L =>
        simp only
        split
        · rename_i hc
          refine Or.inr ⟨m.toNat, x, L, hc.2, hL, ?_, rfl⟩
          show updF (beginS q s m.toNat).fl m.toNat L = _
          rw [(beginS_fl q s m.toNat).1]
        · split
          · rename_i hm
            have h1 := ih (passS (beginS q s m.toNat) m) (by omega)
            have e : (passS (beginS q s m.toNat) m).fl = s.fl := (beginS_fl q s m.toNat).1
            rw [e] at h1
            exact h1
          · exact Or.inl ⟨rfl, rfl, rfl⟩
theorem RnI.take {q : Nat → Int} : ∀ (n : Nat) (s : RnS), mu s < n → RnI q s → RnI q (takeW q s).1 := by
  intro n
  induction n with
  | zero => intro s h; omega
  | succ n ih =>
    intro s hs h
    cases ht : s.tn with
    | nil => rw [takeW_nil ht]; exact h
    | cons m B =>
      have hm := h.tin m (by rw [ht]; simp)
      obtain ⟨f, hf⟩ : ∃ f : Nat, m = f := ⟨m.toNat, by omega⟩
      subst hf
      have hf : f < 16 := by omega
      obtain ⟨x, L, hL⟩ : ∃ x L, s.fl f = x :: L := by
        cases hL : s.fl f with
        | nil => exact absurd hL ((h.tfl f hf).1 (by rw [ht]; simp))
        | cons x L => exact ⟨x, L, rfl⟩
      obtain ⟨e1, e2, e3⟩ := beginS_fl q s f
      have hB := h.begin hf ht
      have hxl := ok_len (h.ok f hf x (by rw [hL]; simp)).1
      by_cases hx : x.l ≤ (beginS q s f).cr f
      · rw [takeW_send ht hf hL hx]
        exact hB.send hf (by rw [e2]; exact ht) (by rw [e1]; exact hL) hx e3
      · have hmp := mu_pass h hf ht (by omega)
        rw [takeW_pass ht hL hx hmp]
        exact ih _ (by omega) (hB.pass (by rw [e2]; exact ht) (by omega))
theorem allF_split {fl : Nat → List Hd} {N j : Nat} (hj : j < N) (L : List Hd) : ∃ R, (allF fl N).Perm (fl j ++ R) ∧ (allF (updF fl j L) N).Perm (L ++ R) := by
  have h := List.perm_cons_erase (List.mem_range.2 hj)
  refine ⟨((List.range N).erase j).flatMap fl, (h.flatMap_right fl).trans (by rw [List.flatMap_cons]), ?_⟩
  refine (h.flatMap_right (updF fl j L)).trans ?_
  rw [List.flatMap_cons, updF_same]
  have e : ((List.range N).erase j).flatMap (updF fl j L) = ((List.range N).erase j).flatMap fl := by
    rw [List.flatMap_def, List.flatMap_def]
    congr 1
    refine List.map_congr_left fun i hi => updF_ne (fun e => ?_)
    subst e
    exact (List.nodup_range.not_mem_erase) hi
  rw [e]
theorem putW_keeps (room : Int) (s : RnS) (x : Hd) : (allF s.fl 16 ++ [x]).Perm ((putW room s x).2 ++ allF (putW room s x).1.fl 16) := by
  unfold putW
  split
  · rename_i hc
    have hfl := ok_flow hc.1
    obtain ⟨R, h1, h2⟩ := allF_split (fl := s.fl) (show x.f.toNat < 16 by omega) (s.fl x.f.toNat ++ [x])
    show (allF s.fl 16 ++ [x]).Perm ([] ++ allF (updF s.fl x.f.toNat (s.fl x.f.toNat ++ [x])) 16)
    rw [List.nil_append]
    refine (h1.append_right [x]).trans (List.Perm.trans ?_ h2.symm)
    rw [List.append_assoc, List.append_assoc]
    exact List.Perm.append_left _ List.perm_append_comm
  · exact List.perm_append_comm
theorem takeW_keeps (q : Nat → Int) (s : RnS) : (allF s.fl 16).Perm ((takeW q s).2.1 ++ (if (takeW q s).2.2.2 then [(takeW q s).2.2.1] else []) ++ allF (takeW q s).1.fl 16) := by
  rcases takeW_fl q (mu s + 1) s (Nat.lt_succ_self _) with ⟨h1, h2, h3⟩ | ⟨f, x, L, hf, hL, h2, h3⟩
  · rw [h1, h2, h3]; exact List.Perm.refl _
  · rw [h2, h3]
    obtain ⟨R, k1, k2⟩ := allF_split (fl := s.fl) hf L
    rw [hL] at k1
    show (allF s.fl 16).Perm ([] ++ [x] ++ allF (updF s.fl f L) 16)
    exact k1.trans (List.Perm.cons x k2.symm)
/-- Each flow's numbers go up, and are below n. -/
def SO (n : Nat) (s : RnS) : Prop := ∀ f, f < 16 → ((s.fl f).map Hd.n).Pairwise (· < ·) ∧ ∀ x ∈ s.fl f, 0 ≤ x.n ∧ x.n < (n : Int)
theorem SO.put {n : Nat} {room : Int} {s : RnS} {x : Hd} (h : SO n s) (hx : x.n = (n : Int)) : SO (n + 1) (putW room s x).1 := by
  have hw : SO (n + 1) s := fun f hf => ⟨(h f hf).1, fun y hy => by have := (h f hf).2 y hy; omega⟩
  unfold putW
  split
  · intro f hf
    show ((updF s.fl x.f.toNat (s.fl x.f.toNat ++ [x]) f).map Hd.n).Pairwise (· < ·) ∧ ∀ y ∈ updF s.fl x.f.toNat (s.fl x.f.toNat ++ [x]) f, 0 ≤ y.n ∧ y.n < ((n + 1 : Nat) : Int)
    by_cases e : f = x.f.toNat
    · subst e
      rw [updF_same]
      refine ⟨?_, fun y hy => ?_⟩
      · rw [List.map_append, List.pairwise_append]
        refine ⟨(h _ hf).1, by simp, fun a ha b hb => ?_⟩
        obtain ⟨y, hy, rfl⟩ := List.mem_map.1 ha
        simp at hb
        subst hb
        have := (h _ hf).2 y hy
        omega
      · rcases List.mem_append.1 hy with h1 | h1
        · have := (h _ hf).2 y h1; omega
        · simp at h1; subst h1; omega
    · rw [updF_ne e]; exact hw f hf
  · exact hw
theorem SO.take {n : Nat} {q : Nat → Int} {s : RnS} (h : SO n s) : SO n (takeW q s).1 := by
  intro g hg
  rcases takeW_fl q (mu s + 1) s (Nat.lt_succ_self _) with ⟨_, h2, _⟩ | ⟨f, x, L, hf, hL, h2, _⟩
  · rw [h2]; exact h g hg
  · rw [h2]
    by_cases e : g = f
    · subst e
      rw [updF_same]
      have h1 := h g hg
      rw [hL, List.map_cons, List.pairwise_cons] at h1
      exact ⟨h1.1.2, fun y hy => h1.2 y (by simp [hy])⟩
    · rw [updF_ne e]; exact h g hg
end Go.Proofs.YtfakjedolecdcaaGreatDoor
