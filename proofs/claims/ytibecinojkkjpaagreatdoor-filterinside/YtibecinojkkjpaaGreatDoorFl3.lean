/-
  package filter: the reader's smaller parts: fields, numbers, tests. Conditions: signs have 2000 bytes at most; what the program lays is laid.
-/
import Derived.Test.YtibecinojkkjpaaGreatDoorFl2
import Derived.Lib.CutLaws
namespace Go.Proofs.YtibecinojkkjpaaGreatDoor
open Go.RowKit Go.Extern.Stop Go.Stop Go.Extern

def shortL (L : List (List UInt8 × Nat)) : Prop := ∀ y ∈ L, y.1.length ≤ 2000
theorem hdW_end (L : List (List UInt8 × Nat)) (n : Nat) : (L.headD (endS n)).1 = hdW L := by cases L <;> rfl
theorem shortL.hd {L : List (List UInt8 × Nat)} (h : shortL L) : (hdW L).length ≤ 2000 := by
  cases L with
  | nil => simp [hdW]
  | cons a L => exact h a (by simp)
theorem shortL.tl {L : List (List UInt8 × Nat)} (h : shortL L) : shortL L.tail := fun y hy => h y (List.mem_of_mem_tail hy)
theorem hdP_end (L : List (List UInt8 × Nat)) (n : Nat) : (L.headD (endS n)).2 = hdP n L := by cases L <;> rfl
/-- What the reader leaves, and what it tells. -/
def RdP (w w' : World) (b n : Nat) (v : Value) (L : List (List UInt8 × Nat)) (d : Nat) (res : Rd) (e : Ending) : Prop :=
  ∃ v' L', RdAt w' b 54 n [] v' L' ∧ v'.ownBlock = v.ownBlock ∧ Ot (fun k => k = b) w w' ∧ (∀ y ∈ L', y ∈ L) ∧ ((∃ t fv, res = .ok (t, L') ∧ e = .returned (.tuple #[fv, .nilIface]) ∧ FAt w' (fun k => w.heap.size ≤ k) d t fv) ∨ (∃ (c : Int) (p B : Nat), res = .error (c, p) ∧ e = .returned (.tuple #[.nilIface, .iface 82 (.pointer (some ⟨B, 0, none⟩))]) ∧ w'.heap[B]? = some (.cells #[.int .i64 c, .int .i64 p] 83 (0, 0)) ∧ w.heap.size ≤ B))
theorem wrong_any (t : ByteArray) (p c : Int) (w : World) : Calls Tryz.prog 19 #[.agg #[.string t, .int .i64 p], .int .i64 c] w fun e w' => ∃ B, e = .returned (.iface 82 (.pointer (some ⟨B, 0, none⟩))) ∧ w'.heap[B]? = some (.cells #[.int .i64 c, .int .i64 p] 83 (0, 0)) ∧ w.heap.size ≤ B ∧ Below w.heap.size w w' := by
  go_enter Tryz.func19, Tryz.ntmps19
  go_wp2
  go_ret
  exact ⟨w.heap.size + 1, rfl, new_block_ (by simp), by omega, below_alloc_ (below_alloc_ (Below.refl _ _) _) _⟩
theorem end_any' (t : ByteArray) (p : Int) (w : World) : Calls Tryz.prog 18 #[.agg #[.string t, .int .i64 p]] w fun e w' => e = .returned (.bool (t.data.toList == [])) ∧ Below w.heap.size w w' := by
  go_enter Tryz.func18, Tryz.ntmps18
  go_wp2
  go_ret
  refine ⟨?_, below_alloc_ (Below.refl _ _) _⟩
  have e0 : t.toList.isEmpty = (t.data.toList == []) := by
    rw [toList_data]
    cases t.data.toList <;> rfl
  rw [← e0]; rfl
theorem fnum_any (l : List UInt8) (w : World) (hl : l.length ≤ 2000) (hG : Glob w) :
    Calls Tryz.prog 45 #[.string ⟨l.toArray⟩] w fun e w' => ∃ c : Int, e = .returned (.tuple #[.int .i64 ((numF l).getD 0), .int .i64 c]) ∧ (c == 0) = (numF l).isSome ∧ (numF l = none → c = numC l) ∧ Below w.heap.size w w' := by
  have HN := number_any ⟨l.toArray⟩ w (by simpa [ByteArray.size] using hl) hG
  cases hq : numL l with
  | none =>
    have HF : Hid (numF l = none ∧ numC l = 3) := by refine ⟨?_, ?_⟩; (unfold numF; rw [hq]); (unfold numC; rw [hq])
    rw [hq] at HN
    have HN' : Hid (Calls Tryz.prog 62 #[.string ⟨l.toArray⟩] w fun e w' => e = .returned (.tuple #[.int .i64 0, .bool false]) ∧ Below w.heap.size w w') := HN
    clear HN hq hG
    go_enter Tryz.func45, Tryz.ntmps45
    go_wp2_with (go_at_call 62; refine HN'.out.mono ?_; rintro e w1 ⟨rfl, hb1⟩)
    go_ret2
    exact ⟨3, by rw [HF.out.1]; rfl, by rw [HF.out.1]; rfl, fun _ => HF.out.2.symm, hb1⟩
  | some q =>
    rw [hq] at HN
    have HN' : Hid (Calls Tryz.prog 62 #[.string ⟨l.toArray⟩] w fun e w' => e = .returned (.tuple #[.int .i64 q, .bool true]) ∧ Below w.heap.size w w') := HN
    by_cases h0 : q < 0
    · have HF : Hid (numF l = none ∧ numC l = 2) := by refine ⟨?_, ?_⟩; (unfold numF; rw [hq]; simp only []; rw [if_neg (by omega)]); (unfold numC; rw [hq])
      have d1 : decide (q < 0) = true := by simpa using h0
      clear HN hq hG
      go_enter Tryz.func45, Tryz.ntmps45
      go_wp2_with (go_at_call 62; refine HN'.out.mono ?_; rintro e w1 ⟨rfl, hb1⟩)
      go_ret2
      exact ⟨2, by rw [HF.out.1]; rfl, by rw [HF.out.1]; rfl, fun _ => HF.out.2.symm, hb1⟩
    · have d1 : decide (q < 0) = false := by simpa using h0
      by_cases h1 : 1000000000 < q
      · have HF : Hid (numF l = none ∧ numC l = 2) := by refine ⟨?_, ?_⟩; (unfold numF; rw [hq]; simp only []; rw [if_neg (by omega)]); (unfold numC; rw [hq])
        have d2 : decide (1000000000 < q) = true := by simpa using h1
        clear HN hq hG
        go_enter Tryz.func45, Tryz.ntmps45
        go_wp2_with (go_at_call 62; refine HN'.out.mono ?_; rintro e w1 ⟨rfl, hb1⟩)
        go_ret2
        exact ⟨2, by rw [HF.out.1]; rfl, by rw [HF.out.1]; rfl, fun _ => HF.out.2.symm, hb1⟩
      · have HF : Hid (numF l = some q) := by show _ = _; unfold numF; rw [hq]; simp only []; rw [if_pos (by omega)]
        have d2 : decide (1000000000 < q) = false := by simpa using h1
        clear HN hq hG
        go_enter Tryz.func45, Tryz.ntmps45
        go_wp2_with (go_at_call 62; refine HN'.out.mono ?_; rintro e w1 ⟨rfl, hb1⟩)
        go_ret2
        exact ⟨0, by rw [HF.out]; rfl, by rw [HF.out]; rfl, fun h => absurd (HF.out.symm.trans h) (by simp), hb1⟩
theorem numF_bd {l : List UInt8} {q : Int} (h : numF l = some q) : 0 ≤ q ∧ q ≤ 1000000000 := by
  unfold numF at h
  split at h
  · split at h
    · rename_i h1; obtain rfl := Option.some.inj h; exact h1
    · cases h
  · cases h
theorem nix0 (w : World) : (Instr.index 105 (.agg #[.string ⟨#[97, 116]⟩, .string ⟨#[108, 101, 110]⟩, .string ⟨#[102, 108, 111, 119]⟩, .string ⟨#[98, 97, 110, 100]⟩, .string ⟨#[109, 97, 114, 107]⟩]) (.int .i64 0)).run Tryz.prog w = .ok (.string ⟨#[97, 116]⟩) w := by kernel_rfl
theorem nix1 (w : World) : (Instr.index 105 (.agg #[.string ⟨#[97, 116]⟩, .string ⟨#[108, 101, 110]⟩, .string ⟨#[102, 108, 111, 119]⟩, .string ⟨#[98, 97, 110, 100]⟩, .string ⟨#[109, 97, 114, 107]⟩]) (.int .i64 1)).run Tryz.prog w = .ok (.string ⟨#[108, 101, 110]⟩) w := by kernel_rfl
theorem nix2 (w : World) : (Instr.index 105 (.agg #[.string ⟨#[97, 116]⟩, .string ⟨#[108, 101, 110]⟩, .string ⟨#[102, 108, 111, 119]⟩, .string ⟨#[98, 97, 110, 100]⟩, .string ⟨#[109, 97, 114, 107]⟩]) (.int .i64 2)).run Tryz.prog w = .ok (.string ⟨#[102, 108, 111, 119]⟩) w := by kernel_rfl
theorem nix3 (w : World) : (Instr.index 105 (.agg #[.string ⟨#[97, 116]⟩, .string ⟨#[108, 101, 110]⟩, .string ⟨#[102, 108, 111, 119]⟩, .string ⟨#[98, 97, 110, 100]⟩, .string ⟨#[109, 97, 114, 107]⟩]) (.int .i64 3)).run Tryz.prog w = .ok (.string ⟨#[98, 97, 110, 100]⟩) w := by kernel_rfl
theorem nix4 (w : World) : (Instr.index 105 (.agg #[.string ⟨#[97, 116]⟩, .string ⟨#[108, 101, 110]⟩, .string ⟨#[102, 108, 111, 119]⟩, .string ⟨#[98, 97, 110, 100]⟩, .string ⟨#[109, 97, 114, 107]⟩]) (.int .i64 4)).run Tryz.prog w = .ok (.string ⟨#[109, 97, 114, 107]⟩) w := by kernel_rfl
set_option maxRecDepth 100000 in
set_option maxHeartbeats 2000000 in
theorem fieldOf_any (l : List UInt8) (w : World) (hG : GlobF w) :
    Calls Tryz.prog 31 #[.string ⟨l.toArray⟩] w fun e w' => e = .returned (.tuple #[.int .i64 (((fieldL l).getD 0 : Nat) : Int), .bool (fieldL l).isSome]) ∧ w' = w := by
  obtain ⟨-, c0, c1, c2, c3, c4, -⟩ := hG
  have HE : Hid (∀ i j : Nat, (nameF i == l) = (l == nameF i)) := fun i _ => by
    cases h : (l == nameF i)
    · have : l ≠ nameF i := by simpa using h
      simpa using this.symm
    · have : l = nameF i := by simpa using h
      simpa using this.symm
  go_enter Tryz.func31, Tryz.ntmps31
  go_wp2_with fail
  go_loopg [7, 4, 5] 5 (fun g v7 _ _ wx => ∃ i : Nat, i + g = 5 ∧ v7 = .int .i64 i ∧ wx = w ∧ ∀ j, j < i → (l == nameF j) = false)
  case atStart => exact ⟨0, by omega, rfl, rfl, fun j hj => by omega⟩
  case round =>
    obtain ⟨i, hi, rfl, rfl, hno⟩ := hrel
    rcases (by omega : i = 0 ∨ i = 1 ∨ i = 2 ∨ i = 3 ∨ i = 4 ∨ i = 5) with rfl | rfl | rfl | rfl | rfl | rfl
    · have he := HE.out 0 0
      have hix := nix0
      cases hl : (l == nameF 0)
      · rw [hl] at he
        have o1 : ([97, 116] == l) = false := he
        have HNO : Hid (∀ j, j < 1 → (l == nameF j) = false) := fun j hj => by
          rcases (by omega : j = 0 ∨ j < 0) with rfl | h
          · exact hl
          · exact hno j h
        clear hno he hl
        go_wp2
        go_roundg (gk - 1)
        case measure => omega
        case rel => exact ⟨1, by omega, by go_num, rfl, HNO.out⟩
      · rw [hl] at he
        have o1 : ([97, 116] == l) = true := he
        have HF : Hid (fieldL l = some 0) := by
          show _ = _
          simp [nameF] at hl 
          simp [fieldL, hl]
        clear hno he hl 
        go_wp2
        go_ret2
        exact ⟨by rw [HF.out]; rfl, rfl⟩
    · have he := HE.out 1 0
      have hix := nix1
      cases hl : (l == nameF 1)
      · rw [hl] at he
        have o1 : ([108, 101, 110] == l) = false := he
        have HNO : Hid (∀ j, j < 2 → (l == nameF j) = false) := fun j hj => by
          rcases (by omega : j = 1 ∨ j < 1) with rfl | h
          · exact hl
          · exact hno j h
        clear hno he hl
        go_wp2
        go_roundg (gk - 1)
        case measure => omega
        case rel => exact ⟨2, by omega, by go_num, rfl, HNO.out⟩
      · rw [hl] at he
        have o1 : ([108, 101, 110] == l) = true := he
        have n0 := hno 0 (by omega)
        have HF : Hid (fieldL l = some 1) := by
          show _ = _
          simp [nameF] at hl n0
          simp [fieldL, hl]
        clear hno he hl n0
        go_wp2
        go_ret2
        exact ⟨by rw [HF.out]; rfl, rfl⟩
    · have he := HE.out 2 0
      have hix := nix2
      cases hl : (l == nameF 2)
      · rw [hl] at he
        have o1 : ([102, 108, 111, 119] == l) = false := he
        have HNO : Hid (∀ j, j < 3 → (l == nameF j) = false) := fun j hj => by
          rcases (by omega : j = 2 ∨ j < 2) with rfl | h
          · exact hl
          · exact hno j h
        clear hno he hl
        go_wp2
        go_roundg (gk - 1)
        case measure => omega
        case rel => exact ⟨3, by omega, by go_num, rfl, HNO.out⟩
      · rw [hl] at he
        have o1 : ([102, 108, 111, 119] == l) = true := he
        have n0 := hno 0 (by omega)
        have n1 := hno 1 (by omega)
        have HF : Hid (fieldL l = some 2) := by
          show _ = _
          simp [nameF] at hl n0 n1
          simp [fieldL, hl]
        clear hno he hl n0 n1
        go_wp2
        go_ret2
        exact ⟨by rw [HF.out]; rfl, rfl⟩
    · have he := HE.out 3 0
      have hix := nix3
      cases hl : (l == nameF 3)
      · rw [hl] at he
        have o1 : ([98, 97, 110, 100] == l) = false := he
        have HNO : Hid (∀ j, j < 4 → (l == nameF j) = false) := fun j hj => by
          rcases (by omega : j = 3 ∨ j < 3) with rfl | h
          · exact hl
          · exact hno j h
        clear hno he hl
        go_wp2
        go_roundg (gk - 1)
        case measure => omega
        case rel => exact ⟨4, by omega, by go_num, rfl, HNO.out⟩
      · rw [hl] at he
        have o1 : ([98, 97, 110, 100] == l) = true := he
        have n0 := hno 0 (by omega)
        have n1 := hno 1 (by omega)
        have n2 := hno 2 (by omega)
        have HF : Hid (fieldL l = some 3) := by
          show _ = _
          simp [nameF] at hl n0 n1 n2
          simp [fieldL, hl]
        clear hno he hl n0 n1 n2
        go_wp2
        go_ret2
        exact ⟨by rw [HF.out]; rfl, rfl⟩
    · have he := HE.out 4 0
      have hix := nix4
      cases hl : (l == nameF 4)
      · rw [hl] at he
        have o1 : ([109, 97, 114, 107] == l) = false := he
        have HNO : Hid (∀ j, j < 5 → (l == nameF j) = false) := fun j hj => by
          rcases (by omega : j = 4 ∨ j < 4) with rfl | h
          · exact hl
          · exact hno j h
        clear hno he hl
        go_wp2
        go_roundg (gk - 1)
        case measure => omega
        case rel => exact ⟨5, by omega, by go_num, rfl, HNO.out⟩
      · rw [hl] at he
        have o1 : ([109, 97, 114, 107] == l) = true := he
        have n0 := hno 0 (by omega)
        have n1 := hno 1 (by omega)
        have n2 := hno 2 (by omega)
        have n3 := hno 3 (by omega)
        have HF : Hid (fieldL l = some 4) := by
          show _ = _
          simp [nameF] at hl n0 n1 n2 n3
          simp [fieldL, hl]
        clear hno he hl n0 n1 n2 n3
        go_wp2
        go_ret2
        exact ⟨by rw [HF.out]; rfl, rfl⟩
    · have n0 := hno 0 (by omega)
      have n1 := hno 1 (by omega)
      have n2 := hno 2 (by omega)
      have n3 := hno 3 (by omega)
      have n4 := hno 4 (by omega)
      have HF : Hid (fieldL l = none) := by
        show _ = _
        simp [nameF] at n0 n1 n2 n3 n4
        simp [fieldL, n0, n1, n2, n3, n4]
      clear hno n0 n1 n2 n3 n4
      go_wp2
      go_ret2
      exact ⟨by rw [HF.out]; rfl, rfl⟩
end Go.Proofs.YtibecinojkkjpaaGreatDoor
