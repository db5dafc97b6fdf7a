/-
  sketch.Top and sketch.Exact: what they return at every argument, and that nothing that was there is otherwise. Conditions: the keys lie in memory, numbers of 64 bits, at most 1000.
-/
import Derived.Test.YtkmbnklfaaopaaaDoorSkQ
namespace Go.Proofs.YtkmbnklfaaopaaaDoor
open Go.RowKit Go.Extern.Stop Go.Stop Go.Extern Go.Maps

/-- One key more is counted. -/
def addL (L : List (Int × Int)) (k : Int) : List (Int × Int) := putL k (vl L k + 1) L
/-- All keys are counted. -/
def exN (f : Nat → Int) : Nat → List (Int × Int)
  | 0 => []
  | k + 1 => addL (exN f k) (f k)
/-- One key more, with so many counters. -/
def topS (c : Int) (L : List (Int × Int)) (k : Int) : List (Int × Int) := if 0 < vl L k ∨ (L.length : Int) < c then addL L k else lowL (fun _ => false) L
def topN (c : Int) (f : Nat → Int) : Nat → List (Int × Int)
  | 0 => []
  | k + 1 => topS c (topN c f k) (f k)
theorem len_put_le (k x : Int) (L : List (Int × Int)) : (putL k x L).length ≤ L.length + 1 := by
  have := List.length_filter_le (fun p : Int × Int => p.1 != k) L
  simp only [putL, List.length_cons]; omega
theorem len_filter_mem {L : List (Int × Int)} {k v : Int} (hm : (k, v) ∈ L) : (L.filter fun p => p.1 != k).length + 1 ≤ L.length := by
  induction L with
  | nil => cases hm
  | cons a L ih =>
    rcases List.mem_cons.1 hm with e | h
    · have := List.length_filter_le (fun p : Int × Int => p.1 != k) L
      rw [List.filter_cons_of_neg (by rw [← e]; simp)]
      simp only [List.length_cons]; omega
    · have := ih h
      rw [List.filter_cons]
      split <;> simp only [List.length_cons] <;> omega
theorem len_put_mem {L : List (Int × Int)} {k v : Int} (hm : (k, v) ∈ L) (x : Int) : (putL k x L).length ≤ L.length := by
  have := len_filter_mem hm
  simp only [putL, List.length_cons]; omega
theorem len_low_le (lf : Int → Bool) (L : List (Int × Int)) : (lowL lf L).length ≤ L.length := List.length_filterMap_le _ _
theorem mem_put {k x : Int} {L : List (Int × Int)} {p : Int × Int} (h : p ∈ putL k x L) : p = (k, x) ∨ p ∈ L := by
  rcases List.mem_cons.1 h with h | h
  · exact Or.inl h
  · exact Or.inr (List.mem_filter.1 h).1
/-- What is so of counters behind k keys. -/
structure CtS (L : List (Int × Int)) (k : Nat) : Prop where
  ap : Ap L
  val : ∀ p ∈ L, 1 ≤ p.2 ∧ p.2 ≤ k
  len : L.length ≤ k
theorem CtS.nil : CtS [] 0 := ⟨List.Pairwise.nil, by simp, by simp⟩
theorem CtS.vl {L : List (Int × Int)} {k : Nat} (h : CtS L k) (x : Int) : 0 ≤ vl L x ∧ vl L x ≤ k := by
  rcases vl_cases L x with ⟨v, hm, e⟩ | ⟨_, e⟩
  · have := h.val _ hm
    rw [e]
    have h1 : 1 ≤ v := this.1
    have h2 : v ≤ k := this.2
    omega
  · rw [e]; omega
theorem CtS.add {L : List (Int × Int)} {k : Nat} (h : CtS L k) (x : Int) : CtS (addL L x) (k + 1) := by
  refine ⟨h.ap.put _ _, fun p hp => ?_, by have := len_put_le x (Go.Proofs.YtkmbnklfaaopaaaDoor.vl L x + 1) L; have := h.len; unfold addL; omega⟩
  have hv := h.vl x
  rcases mem_put hp with rfl | hp
  · exact ⟨by show 1 ≤ Go.Proofs.YtkmbnklfaaopaaaDoor.vl L x + 1; omega, by show Go.Proofs.YtkmbnklfaaopaaaDoor.vl L x + 1 ≤ ((k + 1 : Nat) : Int); omega⟩
  · have := h.val p hp
    exact ⟨this.1, by omega⟩
theorem CtS.low {L : List (Int × Int)} {k : Nat} (h : CtS L k) : CtS (lowL (fun _ => false) L) (k + 1) := by
  refine ⟨h.ap.low _, fun p hp => ?_, by have := len_low_le (fun _ => false) L; have := h.len; omega⟩
  rcases mem_low.1 hp with ⟨_, h2⟩ | ⟨_, h2, h3⟩
  · cases h2
  · have := (h.val _ h2).2
    have h4 : p.2 + 1 ≤ (k : Int) := this
    exact ⟨h3, by omega⟩
theorem exN_ok (f : Nat → Int) : ∀ k, CtS (exN f k) k
  | 0 => CtS.nil
  | k + 1 => (exN_ok f k).add _
theorem topN_ok (c : Int) (f : Nat → Int) : ∀ k, CtS (topN c f k) k
  | 0 => CtS.nil
  | k + 1 => by
    show CtS (topS c (topN c f k) (f k)) (k + 1)
    unfold topS
    split
    · exact (topN_ok c f k).add _
    · exact (topN_ok c f k).low
theorem MpI.lenrun {w : World} {b : Nat} {L : List (Int × Int)} (h : MpI w b L) : (Builtin.len_ #[23] 3 #[.map (some b)]).run Tryd.prog w = .ok (.int .i64 (L.length : Nat)) w := by
  obtain ⟨es, clock, hb, hes⟩ := h.len
  rw [← hes]
  simp [Builtin.len_, run_underlying Tryd.underlying23, MapKept.run_getObj_map hb, Result.andThen]
  rfl
theorem below_upd {w wr w2 : World} {b : Nat} (hb : Below w.heap.size w wr) (h : w.heap.size ≤ b) (hg : wr.grownBy w2 (some b)) : Below w.heap.size w w2 := hb.grown hg hb.size (fun j e => by cases e; exact h)
/-- What pairs hands back. -/
def PsR (e : Ending) (w' : World) (L : List (Int × Int)) : Prop := ∃ x cap M, e = .returned (.slice x M.length cap) ∧ M.Perm L ∧ Srt M ∧ PrR w' x M
set_option maxRecDepth 20000 in
set_option maxHeartbeats 2000000 in
theorem exact_any (x : Option Addr) (cap n : Nat) (f : Nat → Int) (w : World) (hx : Row w x n f) (hw : ∀ i, i < n → I64 (f i)) (hn : n ≤ 1000) :
    Calls Tryd.prog 10 #[.slice x n cap] w fun e w' => PsR e w' (exN f n) ∧ Below w.heap.size w w' := by
  have HX : Hid (Row w x n f) := hx
  have HW : Hid (∀ i, i < n → I64 (f i)) := hw
  clear hx hw
  have hmm := @run_makeMap Tryd.prog
  go_enter Tryd.func10, Tryd.ntmps10
  go_wp2
  clear hmm
  go_loopw [9] (fun i wr => ∃ k : Nat, k ≤ n ∧ i = .int .i64 k ∧ MpI wr w.heap.size (exN f k) ∧ Below w.heap.size w wr) (fun i _ => n - (intOf i).toNat)
  case atStart => exact ⟨0, Nat.zero_le _, rfl, MpI.made w, (Below.refl _ _).alloc (Nat.le_refl _) _⟩
  case round =>
    obtain ⟨k, hk, rfl, hm, hbel⟩ := hrel
    have HM : Hid (MpI wr w.heap.size (exN f k)) := hm
    have HB : Hid (Below w.heap.size w wr) := hbel
    have hc := exN_ok f k
    by_cases hlt : k < n
    · obtain ⟨b, off, rfl⟩ := HX.out.some (by omega)
      have c0 := (HX.out.below hbel).at hlt
      have hki := HW.out k hlt
      have hv := hc.vl (f k)
      have hlk := hm.look hki
      have hlen := hc.len
      obtain ⟨w2, hrun, hm2, hg2⟩ := hm.upd (x := vl (exN f k) (f k) + 1) hki ⟨by omega, by omega⟩ (by omega)
      have HM2 : Hid (MpI w2 w.heap.size (exN f (k + 1))) := hm2
      have HB2 : Hid (Below w.heap.size w w2) := below_upd hbel (Nat.le_refl _) hg2
      have ew : IntKind.i64.wrap (vl (exN f k) (f k) + 1) = vl (exN f k) (f k) + 1 := by rw [IntKind.wrap_i64]; omega
      clear hm hbel hc hm2 hg2 hv hlen
      go_wp2
      go_roundw
      case rel => exact ⟨k + 1, by omega, by go_num, HM2.out, HB2.out⟩
      case measure => simp [intOf]; omega
    · obtain rfl : k = n := by omega
      have hlen := hc.len
      clear hm hbel hc
      go_wp2_with fail
      refine (pairs_any w.heap.size (exN f k) wr HM.out (by omega)).mono ?_
      rintro e w' ⟨⟨x', cap', M, rfl, h1, h2, h3⟩, hb⟩
      have HR : Hid (M.Perm (exN f k) ∧ Srt M ∧ PrR w' x' M) := ⟨h1, h2, h3⟩
      have HBB : Hid (Below w.heap.size w w') := HB.out.trans (hb.mono HB.out.size)
      clear h1 h2 h3 hb
      go_wp2
      go_ret
      exact ⟨⟨x', cap', M, rfl, HR.out⟩, HBB.out⟩
set_option maxRecDepth 20000 in
set_option maxHeartbeats 2000000 in
theorem top_no (x : Option Addr) (cap n : Nat) (c : Int) (w : World) (h : c < 1 ∨ 100 < c) :
    Calls Tryd.prog 7 #[.slice x n cap, .int .i64 c] w fun e w' => e = .returned (.tuple #[.slice none 0 0, .iface 24 (.int .i64 2)]) ∧ w' = w := by
  rcases h with h | h
  · go_enter Tryd.func7, Tryd.ntmps7
    go_wp2
    go_ret2
    exact ⟨rfl, rfl⟩
  · have h0 : ¬ c < 1 := by omega
    go_enter Tryd.func7, Tryd.ntmps7
    go_wp2
    go_ret2
    exact ⟨rfl, rfl⟩
/-- What Top hands back. -/
def TpR (e : Ending) (w' : World) (L : List (Int × Int)) : Prop := ∃ x cap M, e = .returned (.tuple #[.slice x M.length cap, .nilIface]) ∧ M.Perm L ∧ Srt M ∧ PrR w' x M
set_option maxRecDepth 20000 in
set_option maxHeartbeats 2000000 in
theorem top_yes (x : Option Addr) (cap n : Nat) (f : Nat → Int) (c : Int) (w : World) (hx : Row w x n f) (hw : ∀ i, i < n → I64 (f i)) (hn : n ≤ 1000) (hc0 : 1 ≤ c) (hc1 : c ≤ 100) :
    Calls Tryd.prog 7 #[.slice x n cap, .int .i64 c] w fun e w' => TpR e w' (topN c f n) ∧ Below w.heap.size w w' := by
  have HX : Hid (Row w x n f) := hx
  have HW : Hid (∀ i, i < n → I64 (f i)) := hw
  have g0 : ¬ c < 1 := by omega
  have g1 : ¬ 100 < c := by omega
  clear hx hw hc0 hc1
  have hmm := @run_makeMap Tryd.prog
  go_enter Tryd.func7, Tryd.ntmps7
  go_wp2
  clear hmm
  go_loopw [19] (fun i wr => ∃ k : Nat, k ≤ n ∧ i = .int .i64 k ∧ MpI wr w.heap.size (topN c f k) ∧ Below w.heap.size w wr) (fun i _ => n - (intOf i).toNat)
  case atStart => exact ⟨0, Nat.zero_le _, rfl, MpI.made w, (Below.refl _ _).alloc (Nat.le_refl _) _⟩
  case round =>
    obtain ⟨k, hk, rfl, hm, hbel⟩ := hrel
    have HM : Hid (MpI wr w.heap.size (topN c f k)) := hm
    have HB : Hid (Below w.heap.size w wr) := hbel
    have hc := topN_ok c f k
    by_cases hlt : k < n
    · obtain ⟨b, off, rfl⟩ := HX.out.some (by omega)
      have c0 := (HX.out.below hbel).at hlt
      have hki := HW.out k hlt
      have hv := hc.vl (f k)
      have hlk := hm.look hki
      have hlen := hc.len
      have hlr := hm.lenrun
      have HT : Hid (topN c f (k + 1) = topS c (topN c f k) (f k)) := rfl
      obtain ⟨w2, hrun, hm2, hg2⟩ := hm.upd (x := vl (topN c f k) (f k) + 1) hki ⟨by omega, by omega⟩ (by omega)
      have HM2 : Hid (MpI w2 w.heap.size (addL (topN c f k) (f k))) := hm2
      have HB2 : Hid (Below w.heap.size w w2) := below_upd hbel (Nat.le_refl _) hg2
      have ew : IntKind.i64.wrap (vl (topN c f k) (f k) + 1) = vl (topN c f k) (f k) + 1 := by rw [IntKind.wrap_i64]; omega
      by_cases hpos : 0 < vl (topN c f k) (f k)
      · have HT2 : Hid (topN c f (k + 1) = addL (topN c f k) (f k)) := by show _ = _; rw [HT.out]; unfold topS; rw [if_pos (Or.inl hpos)]
        clear hm hbel hc hm2 hg2 hv hlen
        go_wp2
        go_roundw
        case rel => exact ⟨k + 1, by omega, by go_num, by rw [HT2.out]; exact HM2.out, HB2.out⟩
        case measure => simp [intOf]; omega
      · by_cases hfree : ((topN c f k).length : Int) < c
        · have HT2 : Hid (topN c f (k + 1) = addL (topN c f k) (f k)) := by show _ = _; rw [HT.out]; unfold topS; rw [if_pos (Or.inr hfree)]
          clear hm hbel hc hm2 hg2 hv hlen
          go_wp2
          go_roundw
          case rel => exact ⟨k + 1, by omega, by go_num, by rw [HT2.out]; exact HM2.out, HB2.out⟩
          case measure => simp [intOf]; omega
        · have HT2 : Hid (topN c f (k + 1) = lowL (fun _ => false) (topN c f k)) := by show _ = _; rw [HT.out]; unfold topS; rw [if_neg (by omega)]
          have hlow := lower_any w.heap.size (topN c f k) wr hm (by omega) (fun p hp => by have := hc.val p hp; omega)
          have HLOW : Hid (Calls Tryd.prog 21 #[.map (some w.heap.size)] wr fun e w' => e = .returned (.tuple #[]) ∧ MpI w' w.heap.size (lowL (fun _ => false) (topN c f k)) ∧ wr.grownBy w' (some w.heap.size)) := hlow
          clear hm hbel hc hm2 hg2 hv hlen hlow hrun
          go_wp2_with fail
          refine HLOW.out.mono ?_
          rintro e w3 ⟨rfl, hm3, hg3⟩
          have HM3 : Hid (MpI w3 w.heap.size (lowL (fun _ => false) (topN c f k))) := hm3
          have HB3 : Hid (Below w.heap.size w w3) := below_upd HB.out (Nat.le_refl _) hg3
          clear hm3 hg3
          go_wp2
          go_roundw
          case rel => exact ⟨k + 1, by omega, by go_num, by rw [HT2.out]; exact HM3.out, HB3.out⟩
          case measure => simp [intOf]; omega
    · obtain rfl : k = n := by omega
      have hlen := hc.len
      clear hm hbel hc
      go_wp2_with fail
      refine (pairs_any w.heap.size (topN c f k) wr HM.out (by omega)).mono ?_
      rintro e w' ⟨⟨x', cap', M, rfl, h1, h2, h3⟩, hb⟩
      have HR : Hid (M.Perm (topN c f k) ∧ Srt M ∧ PrR w' x' M) := ⟨h1, h2, h3⟩
      have HBB : Hid (Below w.heap.size w w') := HB.out.trans (hb.mono HB.out.size)
      clear h1 h2 h3 hb
      go_wp2
      go_ret2
      exact ⟨⟨x', cap', M, rfl, HR.out⟩, HBB.out⟩
end Go.Proofs.YtkmbnklfaaopaaaDoor
