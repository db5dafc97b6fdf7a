/-
  The reference reads a test: its field, its numbers, as mathematics; a word that is no field. Conditions: as FilterRC's.
-/
import Derived.Test.YtibecinojkkjpaaGreatDoorRp6
import Derived.Test.YtibecinojkkjpaaGreatDoorFli
namespace Go.Proofs.YtibecinojkkjpaaGreatDoor
open Go.RowKit Go.Extern.Stop Go.Stop Go.Extern

theorem fieldL_no {x : List UInt8} (h : fieldL x = none) : ∀ i, i < 5 → x ≠ nameF i := by
  intro i hi e
  subst e
  match i with
  | 0 => exact absurd h (by decide)
  | 1 => exact absurd h (by decide)
  | 2 => exact absurd h (by decide)
  | 3 => exact absurd h (by decide)
  | 4 => exact absurd h (by decide)
  | i + 5 => omega
theorem fieldL_yes {x : List UInt8} {f : Nat} (h : fieldL x = some f) : x = nameF f ∧ f < 5 := by
  unfold fieldL at h
  repeat' split at h
  all_goals first
    | (rename_i hx; obtain rfl := Option.some.inj h; exact ⟨by simpa [nameF] using hx, by decide⟩)
    | cases h
theorem nameF_inj : ∀ i, i < 5 → ∀ j, j < 5 → nameF i = nameF j → i = j := by decide
theorem nameF_ne : ∀ i, i < 5 → nameF i ≠ [] := by decide
/-- Two points are in no number. -/
theorem numL_dots {l : List UInt8} (h : 0 ≤ Lib.index l [46, 46]) : numL l = none := by
  cases hn : numL l with
  | none => rfl
  | some v =>
    exfalso
    have hi : Lib.itoa v = l := by
      unfold numL at hn
      split at hn
      · split at hn
        · rename_i hh
          obtain rfl := Option.some.inj hn
          exact hh
        · cases hn
      · cases hn
    have hm : (46 : UInt8) ∈ l := by
      rcases Lib.index_spec l [46, 46] with ⟨h1, _⟩ | ⟨i, _, _, h3, _⟩
      · omega
      · unfold Lib.occAt at h3
        have h4 : [46, 46] <+: l.drop i := List.isPrefixOf_iff_prefix.1 h3
        exact List.mem_of_mem_drop (h4.subset (by simp))
    rw [← hi] at hm
    unfold Lib.itoa at hm
    split at hm
    · rcases List.mem_cons.1 hm with hm | hm
      · exact absurd hm (by decide)
      · have := decDigits_mem _ _ hm
        simp at this
    · have := decDigits_mem _ _ hm
      simp at this
theorem numF_dots {l : List UInt8} (h : 0 ≤ Lib.index l [46, 46]) : numF l = none ∧ numC l = 3 := by
  have := numL_dots h
  exact ⟨by unfold numF; rw [this], by unfold numC; rw [this]⟩
theorem cut_no {l : List UInt8} (h : ¬ 0 ≤ Lib.index l [46, 46]) : cutA l = l ∧ cutB l = l := by
  unfold cutA cutB Lib.cut
  rw [if_neg h]
  exact ⟨rfl, rfl⟩
theorem cut_yes {l : List UInt8} (h : 0 ≤ Lib.index l [46, 46]) : cutA l = l.take (Lib.index l [46, 46]).toNat ∧ cutB l = l.drop ((Lib.index l [46, 46]).toNat + 2) := by
  unfold cutA cutB Lib.cut
  rw [if_pos h]
  exact ⟨rfl, rfl⟩
set_option maxRecDepth 100000 in
set_option maxHeartbeats 4000000 in
theorem rf_none {b n d : Nat} {at' : Int} {v : Value} {L : List (List UInt8 × Nat)} (ar : Int) (w : World) (h : PsAt w b n 0 at' v L) (hG : GlobR w) (ha : ar ≤ 19) (h0 : hdW L ≠ [97, 110, 121]) (h1 : hdW L ≠ [110, 111, 116]) (h2 : hdW L ≠ [40]) (hf : fieldL (hdW L) = none) :
    Calls Tryz.prog 13 #[.pointer (some ⟨b, 0, none⟩), .int .i64 ar] w fun e w' => RpP w w' b n at' v L (d + 1) (.error (3, hdP n L)) e := by
  have H : Hid (PsAt w b n 0 at' v L) := h
  obtain ⟨c0, c1, c2, c3, f0, f2, f3⟩ := h.cells
  obtain ⟨fb, off, cap, g0, hnm⟩ := hG.fs
  have HNM : Hid (∀ i, i < 5 → w.cell? ⟨fb, off + i, none⟩ = some (.string ⟨(nameF i).toArray⟩)) := hnm
  have HNO : Hid (∀ i, i < 5 → hdW L ≠ nameF i) := fieldL_no hf
  have HN : Hid (hdW L ≠ [97, 110, 121]) := h0
  have HN1 : Hid (hdW L ≠ [110, 111, 116]) := h1
  have HN2 : Hid (hdW L ≠ [40]) := h2
  clear h h0 h1 h2 hf hG hnm
  go_enter Tryz.func13, Tryz.ntmps13
  go_wp2_with fail
  refine (is_no w H.out ⟨#[97, 110, 121]⟩ HN.out).mono ?_
  rintro e w ⟨rfl, rfl⟩
  go_wp2_with fail
  refine (is_no _ H.out ⟨#[110, 111, 116]⟩ HN1.out).mono ?_
  rintro e w ⟨rfl, rfl⟩
  go_wp2_with fail
  refine (is_no _ H.out ⟨#[40]⟩ HN2.out).mono ?_
  rintro e w ⟨rfl, rfl⟩
  go_wp2
  go_loopw [84] (fun iv wr => ∃ i : Nat, i ≤ 5 ∧ iv = .int .i64 i ∧ wr = w) (fun iv _ => 5 - (intOf iv).toNat)
  case atStart => exact ⟨0, by decide, rfl, rfl⟩
  case round =>
    obtain ⟨i, hi, rfl, rfl⟩ := hrel
    by_cases hlt : i < 5
    · have k0 := HNM.out i hlt
      have HX : Hid (hdW L ≠ nameF i) := HNO.out i hlt
      have o1 : (i : Int) < 5 := by omega
      go_wp2_with fail
      refine (is_no _ H.out ⟨(nameF i).toArray⟩ (by show hdW L ≠ (nameF i).toArray.toList; rw [List.toList_toArray]; exact HX.out)).mono ?_
      rintro e w7 ⟨rfl, rfl⟩
      go_wp2
      exact ⟨⟨i + 1, by omega, by go_num, trivial⟩, by simp [intOf]; omega⟩
    · obtain rfl : i = 5 := by omega
      go_wp2_with fail
      refine (fail_any at' _ H.out 3).mono ?_
      rintro e w1 ⟨rfl, hp, ho⟩
      have HP : Hid (PsAt w1 b n 3 (hdP n L) v L) := hp
      clear hp
      go_wp2
      go_ret
      exact ⟨3, _, v, L, HP.out, rfl, ho, fun y hy => hy, Or.inr ⟨3, hdP n L, none, rfl, rfl, rfl, by decide, rfl⟩⟩
end Go.Proofs.YtibecinojkkjpaaGreatDoor
