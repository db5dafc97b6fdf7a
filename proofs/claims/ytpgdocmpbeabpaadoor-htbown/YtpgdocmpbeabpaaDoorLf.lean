/-
  millracekeep.left (and kept): true where each packet that was put in is taken, lost, or waits, each just once. Conditions: the steps and what was seen lie in memory; the count is as a fold tells (a premise).
-/
import Derived.Test.YtpgdocmpbeabpaaDoorU23
namespace Go.Proofs.YtpgdocmpbeabpaaDoor
open Go.RowKit Go.Extern.Stop Go.Stop Go.Extern

/-- What left counts: the bytes of each packet, whether it has gone (1), how many wait, how many bytes. -/
structure LS where
  size : List Int
  st : List Int
  wait : Int
  bytes : Int
/-- Packet k goes. -/
def outS (s : LS) (k : Int) : Option LS := if 0 ≤ k ∧ k < s.st.length ∧ s.st[k.toNat]? = some 0 then some { s with st := s.st.set k.toNat 1, wait := s.wait - 1, bytes := s.bytes - s.size.getD k.toNat 0 } else none
def outsS (s : LS) : List Int → Option LS
  | [] => some s
  | k :: r => match outS s k with
    | none => none
    | some s' => outsS s' r
def addS (s : LS) (t : Stp) : LS := if t.what = 0 then { size := s.size ++ [t.l], st := s.st ++ [0], wait := s.wait + 1, bytes := s.bytes + t.l } else s
/-- How many zeros, and the sum of what stands beside them. -/
def zc : List Int → Int
  | [] => 0
  | x :: r => (if x = 0 then 1 else 0) + zc r
def zs : List Int → List Int → Int
  | z :: zr, x :: r => (if x = 0 then z else 0) + zs zr r
  | _, _ => 0
theorem zc_append (a b : List Int) : zc (a ++ b) = zc a + zc b := by
  induction a with
  | nil => simp [zc]
  | cons x r ih => simp only [List.cons_append, zc, ih]; omega
theorem zs_append {a b : List Int} : ∀ {c d : List Int}, a.length = c.length → zs (a ++ b) (c ++ d) = zs a c + zs b d := by
  induction a with
  | nil => intro c d h; cases c with | nil => simp [zs] | cons _ _ => simp at h
  | cons x r ih =>
    intro c d h
    cases c with
    | nil => simp at h
    | cons y t => simp only [List.cons_append, zs, ih (c := t) (d := d) (by simpa using h)]; omega
theorem zc_set : ∀ {l : List Int} {j : Nat}, l[j]? = some 0 → zc (l.set j 1) = zc l - 1 := by
  intro l
  induction l with
  | nil => intro j h; simp at h
  | cons x r ih =>
    intro j h
    cases j with
    | zero => simp at h; subst h; simp [zc]; omega
    | succ j => simp only [List.set_cons_succ, zc, ih (by simpa using h)]; omega
theorem zs_set : ∀ {z l : List Int} {j : Nat}, z.length = l.length → l[j]? = some 0 → zs z (l.set j 1) = zs z l - z.getD j 0 := by
  intro z
  induction z with
  | nil => intro l j h1 h; cases l with | nil => simp at h | cons _ _ => simp at h1
  | cons y t ih =>
    intro l j h1 h
    cases l with
    | nil => simp at h
    | cons x r =>
      cases j with
      | zero => simp at h; subst h; simp [zs]; omega
      | succ j =>
        have := ih (l := r) (j := j) (by simpa using h1) (by simpa using h)
        simp only [List.set_cons_succ, zs, this, List.getD_cons_succ]
        omega
theorem zc_le (l : List Int) : 0 ≤ zc l ∧ zc l ≤ l.length := by
  induction l with
  | nil => simp [zc]
  | cons x r ih => simp only [zc, List.length_cons]; split <;> omega
theorem zs_le : ∀ (z l : List Int), (∀ x ∈ z, 0 ≤ x ∧ x ≤ 10000) → 0 ≤ zs z l ∧ zs z l ≤ 10000 * l.length := by
  intro z
  induction z with
  | nil => intro l _; simp [zs]; omega
  | cons y t ih =>
    intro l h
    cases l with
    | nil => simp [zs]
    | cons x r =>
      have h1 := ih r (fun x hx => h x (by simp [hx]))
      have h2 := h y (by simp)
      simp only [zs, List.length_cons]
      split <;> omega
/-- The numbers are as they should be. -/
structure LS.Ok (s : LS) (n : Nat) : Prop where
  len : s.size.length = s.st.length
  le : s.st.length ≤ n
  each : ∀ x ∈ s.size, 0 ≤ x ∧ x ≤ 10000
  wait : s.wait = zc s.st
  bytes : s.bytes = zs s.size s.st
theorem LS.Ok.add {s : LS} {n : Nat} (h : s.Ok n) {t : Stp} (hl : t.what = 0 → 0 ≤ t.l ∧ t.l ≤ 10000) : (addS s t).Ok (n + 1) := by
  unfold addS
  split
  · rename_i hw
    refine ⟨by simp [h.len], by simp; exact h.le, ?_, ?_, ?_⟩
    · intro x hx
      rcases List.mem_append.1 hx with hx | hx
      · exact h.each x hx
      · simp at hx; exact hx ▸ hl hw
    · simp only [h.wait, zc_append]; simp [zc]
    · simp only [h.bytes, zs_append h.len]; simp [zs]
  · exact ⟨h.len, Nat.le_succ_of_le h.le, h.each, h.wait, h.bytes⟩
theorem LS.Ok.out {s s' : LS} {n : Nat} {k : Int} (h : s.Ok n) (ho : outS s k = some s') : s'.Ok n := by
  unfold outS at ho
  split at ho
  · rename_i hc
    simp only [Option.some.injEq] at ho
    subst ho
    refine ⟨by simp [h.len], by simpa using h.le, h.each, ?_, ?_⟩
    · simp only [h.wait, zc_set hc.2.2]
    · simp only [h.bytes, zs_set h.len hc.2.2]
  · simp at ho
theorem LS.Ok.bounds {s : LS} {n : Nat} (h : s.Ok n) : (0 ≤ s.wait ∧ s.wait ≤ n) ∧ 0 ≤ s.bytes ∧ s.bytes ≤ 10000 * n := by
  have h1 := zc_le s.st
  have h2 := zs_le s.size s.st h.each
  have h3 := h.le
  rw [h.wait, h.bytes]
  omega
/-- It lies in memory: four variables from block B on, and two rows behind them. -/
structure LSAt (w : World) (B : Nat) (s : LS) (zv sv : Value) : Prop where
  vz : w.heap[B]? = some (.cells #[zv] 40 (0, 0))
  vs : w.heap[B + 1]? = some (.cells #[sv] 40 (0, 0))
  vw : w.heap[B + 2]? = some (.cells #[.int .i64 s.wait] 3 (0, 0))
  vb : w.heap[B + 3]? = some (.cells #[.int .i64 s.bytes] 3 (0, 0))
  rz : Ins w zv s.size
  rs : Ins w sv s.st
  nz : ∀ k, zv.ownBlock = some k → B + 4 ≤ k ∧ sv.ownBlock ≠ some k
  ns : ∀ k, sv.ownBlock = some k → B + 4 ≤ k
theorem one_cell {w : World} {b : Nat} {t : TypeId} {v : Value} (h : w.heap[b]? = some (.cells #[v] t (0, 0))) : w.cell? ⟨b, 0, none⟩ = some v ∧ w.frozen? ⟨b, 0, none⟩ = false := by
  refine ⟨?_, ?_⟩
  all_goals simp [World.cell?, World.frozen?, h]
theorem Ins.at {w : World} {v : Value} {l : List Int} (h : Ins w v l) {k : Nat} {x : Int} (hk : l[k]? = some x) : ∃ b off cap, v = .slice (some ⟨b, off, none⟩) l.length cap ∧ b < w.heap.size ∧ w.cell? ⟨b, off + k, none⟩ = some (.int .i64 x) ∧ w.frozen? ⟨b, off + k, none⟩ = false := by
  have hkl := (List.getElem?_eq_some_iff.1 hk).1
  rcases h.2 with ⟨_, h0⟩ | ⟨b, off, cap, cur, rfl, hh, _, _, _, hc⟩
  · omega
  · refine ⟨b, off, cap, rfl, lt_of_block hh, ?_, by simp [World.frozen?, hh]⟩
    simp only [World.cell?, hh]
    exact hc k _ (by simp [hk])
theorem Ins.slice {w : World} {v : Value} {l : List Int} (h : Ins w v l) : ∃ x cap, v = .slice x l.length cap := by
  rcases h.form with ⟨rfl, h0, _⟩ | ⟨b, off, cap, rfl, _⟩
  · exact ⟨none, 0, by rw [h0]⟩
  · exact ⟨_, _, rfl⟩
/-- One of the ints is written. -/
theorem Ins.set {w : World} {b off cap : Nat} {l : List Int} (h : Ins w (.slice (some ⟨b, off, none⟩) l.length cap) l) (k : Nat) (hk : k < l.length) (x : Int) : Ins (w.setCell ⟨b, off + k, none⟩ (.int .i64 x)) (.slice (some ⟨b, off, none⟩) l.length cap) (l.set k x) := by
  rcases h.2 with ⟨hv, _⟩ | ⟨b', off', cap', cur, hv, hh, h1, h2, h3, h4⟩
  · simp at hv
  · simp only [Value.slice.injEq, Option.some.injEq, Addr.mk.injEq, and_true, true_and] at hv
    obtain ⟨⟨rfl, rfl⟩, rfl⟩ := hv
    have hls : (l.set k x).length = l.length := by simp
    refine ⟨by simp, Or.inr ⟨b, off, cap, _, by rw [hls], heap_setCell_here hh _, by omega, h2, by simpa using h3, fun j u hj => ?_⟩⟩
    rw [Array.getElem?_setIfInBounds]
    rw [List.map_set, List.getElem?_set] at hj
    by_cases hjk : k = j
    · subst hjk
      rw [if_pos rfl, if_pos (by omega)]
      rw [if_pos rfl, if_pos (by simpa using hk)] at hj
      exact hj
    · rw [if_neg (by omega)]
      rw [if_neg hjk] at hj
      exact h4 j u hj

theorem LSAt.out {w : World} {B : Nat} {s : LS} {bz oz cz bs os cs j : Nat} {z : Int} (h : LSAt w B s (.slice (some ⟨bz, oz, none⟩) s.size.length cz) (.slice (some ⟨bs, os, none⟩) s.st.length cs)) (hj : j < s.st.length) : LSAt (((w.setCell ⟨bs, os + j, none⟩ (.int .i64 1)).setCell ⟨B + 2, 0, none⟩ (.int .i64 (s.wait - 1))).setCell ⟨B + 3, 0, none⟩ (.int .i64 (s.bytes - z))) B { s with st := s.st.set j 1, wait := s.wait - 1, bytes := s.bytes - z } (.slice (some ⟨bz, oz, none⟩) s.size.length cz) (.slice (some ⟨bs, os, none⟩) s.st.length cs) := by
  have hd1 := h.ns bs rfl
  have hd2 := (h.nz bz rfl).1
  have hd3 : bz ≠ bs := fun e => (h.nz bz rfl).2 (by rw [e]; rfl)
  refine ⟨?_, ?_, ?_, ?_, ?_, ?_, h.nz, h.ns⟩
  · rw [Below.heap_setCell _ _ _ _ (by show B ≠ B + 3; omega), Below.heap_setCell _ _ _ _ (by show B ≠ B + 2; omega), Below.heap_setCell _ _ _ _ (by show B ≠ bs; omega)]
    exact h.vz
  · rw [Below.heap_setCell _ _ _ _ (by show B + 1 ≠ B + 3; omega), Below.heap_setCell _ _ _ _ (by show B + 1 ≠ B + 2; omega), Below.heap_setCell _ _ _ _ (by show B + 1 ≠ bs; omega)]
    exact h.vs
  · rw [Below.heap_setCell _ _ _ _ (by show B + 2 ≠ B + 3; omega), heap_setCell_here (((Below.heap_setCell _ _ _ _ (by show B + 2 ≠ bs; omega))).trans h.vw)]
    rfl
  · rw [heap_setCell_here ((Below.heap_setCell _ _ _ _ (by show B + 3 ≠ B + 2; omega)).trans ((Below.heap_setCell _ _ _ _ (by show B + 3 ≠ bs; omega)).trans h.vb))]
    rfl
  · exact ((h.rz.setCell (p := ⟨bs, os + j, none⟩) (by simpa [Value.ownBlock] using hd3) _).setCell (p := ⟨B + 2, 0, none⟩) (by simp [Value.ownBlock]; omega) _).setCell (p := ⟨B + 3, 0, none⟩) (by simp [Value.ownBlock]; omega) _
  · have := h.rs.set j hj 1
    exact (Seg.setCell this (p := ⟨B + 2, 0, none⟩) (by simp [Value.ownBlock]; omega) _).setCell (p := ⟨B + 3, 0, none⟩) (by simp [Value.ownBlock]; omega) _
theorem LSAt.drew {w : World} {B : Nat} {s : LS} {zv sv : Value} (h : LSAt w B s zv sv) : LSAt w.drew B s zv sv := ⟨h.vz, h.vs, h.vw, h.vb, h.rz, h.rs, h.nz, h.ns⟩
theorem LSAt.drewN {w : World} {B : Nat} {s : LS} {zv sv : Value} (h : LSAt w B s zv sv) (q : Nat) : LSAt (w.drewN q) B s zv sv := ⟨h.vz, h.vs, h.vw, h.vb, h.rz, h.rs, h.nz, h.ns⟩
set_option maxHeartbeats 1000000 in
theorem out_any {B : Nat} {s s' : LS} {zv sv : Value} {n : Nat} (k : Int) (w : World) (h : LSAt w B s zv sv) (hok : s.Ok n) (hn : n ≤ 1000000) (ho : outS s k = some s') :
    Calls Tryd.prog 36 #[.int .i64 k, .pointer (some ⟨B + 1, 0, none⟩), .pointer (some ⟨B + 2, 0, none⟩), .pointer (some ⟨B + 3, 0, none⟩), .pointer (some ⟨B, 0, none⟩)] w fun e w' => e = .returned (.bool true) ∧ LSAt w' B s' zv sv ∧ Below B w w' ∧ w.heap.size = w'.heap.size := by
  have H : Hid (LSAt w B s zv sv) := h
  unfold outS at ho
  split at ho
  · rename_i hc
    obtain ⟨h0, h1, h2⟩ := hc
    simp only [Option.some.injEq] at ho
    obtain ⟨j, rfl⟩ : ∃ j : Nat, k = (j : Int) := ⟨k.toNat, by omega⟩
    simp only [Int.toNat_natCast] at h2 ho
    have hj : j < s.st.length := by omega
    obtain ⟨z, hz⟩ : ∃ z, s.size[j]? = some z := ⟨_, List.getElem?_eq_getElem (by rw [hok.len]; exact hj)⟩
    have HZ : Hid (s.size[j]? = some z) := hz
    have hz0 := hok.each z (List.mem_of_getElem? hz)
    obtain ⟨a0, b0⟩ := one_cell h.vz
    obtain ⟨a1, b1⟩ := one_cell h.vs
    obtain ⟨a2, b2⟩ := one_cell h.vw
    obtain ⟨a3, b3⟩ := one_cell h.vb
    obtain ⟨bs, os, cs, rfl, hbs, ks, fs⟩ := h.rs.at h2
    obtain ⟨bz, oz, cz, rfl, hbz, kz, fz⟩ := h.rz.at hz
    have hd1 := h.ns bs rfl
    have hd2 := (h.nz bz rfl).1
    have hd3 : bz ≠ bs := fun e => (h.nz bz rfl).2 (by rw [e]; rfl)
    have hl3 := lt_of_block h.vb
    have HO : Hid ({ s with st := s.st.set j 1, wait := s.wait - 1, bytes := s.bytes - s.size.getD j 0 } = s') := ho
    have hg : s.size.getD j 0 = z := by simp [List.getD, hz]
    have HG : Hid (s.size.getD j 0 = z) := hg
    obtain ⟨sz, hsz⟩ : ∃ sz, s.st.length = sz := ⟨_, rfl⟩
    have HS : Hid (s.st.length = sz) := hsz
    have hzl : s.size.length = sz := by rw [hok.len]; exact hsz
    have HW : Hid (s.Ok n) := hok
    obtain ⟨hw1, hw2⟩ := hok.bounds
    have hln : sz ≤ n := by rw [← hsz]; exact hok.le
    rw [hsz] at hj a1
    rw [hzl] at a0
    clear h ho h1 h2 hz hg hok hsz hzl
    go_enter Tryd.func36, Tryd.ntmps36
    go_wp2
    go_region
    all_goals
      go_wp2
      go_ret
      have h := H.out
      rw [← HO.out, HG.out]
      exact ⟨rfl, (h.out (z := z) (by rw [HS.out]; exact hj)).drew, (((Below.refl B w).setCell (p := ⟨bs, os + j, none⟩) (by show B ≤ bs; omega) _).setCell (p := ⟨B + 2, 0, none⟩) (by show B ≤ B + 2; omega) _).setCell (p := ⟨B + 3, 0, none⟩) (by show B ≤ B + 3; omega) _ |>.drew, by simp [World.setCell]⟩
  · simp at ho
end Go.Proofs.YtpgdocmpbeabpaaDoor
