/-
  The law ActionFields, walked: only marks, bands and flows change, and only to what an action tells. Conditions: actions and buckets lie in memory, errors.errorType is laid.
-/
import Derived.Test.YtnoppfgikanebaaDoorAc8
import Derived.Test.YtnoppfgikanebaaDoorErrs
namespace Go.Proofs.YtnoppfgikanebaaDoor
open Go.RowKit Go.Extern.Stop Go.Stop Go.Extern

/-! ### Mathematics -/
/-- A number that is as it was, or that an action of that kind tells. -/
def ToldA (L : List Ac) (kind was is : Int) : Prop := was = is ∨ ∃ a ∈ L, a.k = kind ∧ a.a = is
structure FieldsA (L : List Ac) (x y : It) : Prop where
  a : y.a = x.a
  l : y.l = x.l
  m : ToldA L 3 x.m y.m
  b : ToldA L 4 x.b y.b
  f : ToldA L 5 x.f y.f
theorem FieldsA.refl (L : List Ac) (x : It) : FieldsA L x x := ⟨rfl, rfl, Or.inl rfl, Or.inl rfl, Or.inl rfl⟩
theorem ToldA.trans {L : List Ac} {kind p q r : Int} (h : ToldA L kind p q) (k : ToldA L kind q r) : ToldA L kind p r := by
  rcases k with rfl | k
  · exact h
  · exact Or.inr k
theorem FieldsA.trans {L : List Ac} {x y z : It} (h : FieldsA L x y) (k : FieldsA L y z) : FieldsA L x z := ⟨k.a.trans h.a, k.l.trans h.l, h.m.trans k.m, h.b.trans k.b, h.f.trans k.f⟩
theorem stepA_fields {L : List Ac} {a : Ac} {s : AS} (ha : a ∈ L) : FieldsA L s.x (stepA a s).x := by
  by_cases e3 : a.k = 3
  · have e : (stepA a s).x = { s.x with m := a.a } := by simp [stepA, e3]
    rw [e]
    exact ⟨rfl, rfl, Or.inr ⟨a, ha, e3, rfl⟩, Or.inl rfl, Or.inl rfl⟩
  by_cases e4 : a.k = 4
  · have e : (stepA a s).x = { s.x with b := a.a } := by simp [stepA, e4]
    rw [e]
    exact ⟨rfl, rfl, Or.inl rfl, Or.inr ⟨a, ha, e4, rfl⟩, Or.inl rfl⟩
  by_cases e5 : a.k = 5
  · have e : (stepA a s).x = { s.x with f := a.a } := by simp [stepA, e5]
    rw [e]
    exact ⟨rfl, rfl, Or.inl rfl, Or.inl rfl, Or.inr ⟨a, ha, e5, rfl⟩⟩
  have e : (stepA a s).x = s.x := by
    simp only [stepA, if_neg e3, if_neg e4, if_neg e5]
    repeat' split
    all_goals rfl
  rw [e]
  exact FieldsA.refl _ _
theorem doA_fields {L : List Ac} : ∀ (f : Nat) (s : AS), FieldsA L s.x (doA L f s).1.x := by
  intro f
  induction f with
  | zero =>
    intro s
    by_cases hlt : s.i < L.length
    · rw [doA_cycle hlt]; exact FieldsA.refl _ _
    · rw [doA_end hlt]; exact FieldsA.refl _ _
  | succ f ih =>
    intro s
    by_cases hlt : s.i < L.length
    · by_cases e1 : (L.getD s.i nilA).k = 1
      · rw [doA_on hlt e1]; exact FieldsA.refl _ _
      by_cases e2 : (L.getD s.i nilA).k = 2
      · rw [doA_off hlt e2]; exact FieldsA.refl _ _
      rw [doA_step hlt e1 e2]
      exact (stepA_fields (List.mem_iff_getElem?.2 ⟨s.i, getD_at hlt⟩)).trans (ih _)
    · rw [doA_end hlt]; exact FieldsA.refl _ _

/-! ### told -/
theorem eTold (args : Array Value) (W : World) : (callFunc 10 args).run Tryd.prog W = .ok (.enter 10 args) W := enters_of Tryd.func10 (by kernel_rfl) rfl args W
set_option maxRecDepth 100000 in
set_option maxHeartbeats 2000000 in
theorem told_yes (px : Option Addr) (cap c : Nat) (L : List Ac) (kind was is : Int) (w : World) (hc : w.heap[c]? = some (.cells #[.slice px L.length cap] 22 (0, 0))) (hA : ArgAt Ac.cells w px L) (hm : L.length ≤ 60) (h : ToldA L kind was is) :
    Calls Tryd.prog 10 #[.int .i64 kind, .int .i64 was, .int .i64 is, .pointer (some ⟨c, 0, none⟩)] w fun e w' => e = .returned (.bool true) ∧ w' = w := by
  by_cases hw : was = is
  · subst hw
    clear hc hA h hm
    go_enter Tryd.func10, Tryd.ntmps10
    go_wp2
    go_ret
    exact ⟨rfl, rfl⟩
  · obtain ⟨a, ha, hak, haa⟩ : ∃ a ∈ L, a.k = kind ∧ a.a = is := by
      rcases h with h | h
      · exact absurd h hw
      · exact h
    obtain ⟨j, hj⟩ := List.mem_iff_getElem?.1 ha
    have HJ : Hid (L[j]? = some a) := hj
    have HA : Hid (ArgAt Ac.cells w px L) := hA
    have hjl : j < L.length := (List.getElem?_eq_some_iff.1 hj).1
    have c0 : w.cell? ⟨c, 0, none⟩ = some (.slice px L.length cap) := by simp [World.cell?, hc]
    have hw' : (was == is) = false := by simpa using hw
    obtain ⟨n, HN⟩ : ∃ n, Hid (L.length = n) := ⟨_, rfl⟩
    rw [HN.out] at hm hjl c0
    clear hc hA h ha hj
    go_enter Tryd.func10, Tryd.ntmps10
    go_wp2
    go_loopw [8] (fun i wr => ∃ k : Nat, k ≤ j ∧ i = .int .i64 k ∧ wr = w) (fun i _ => n - (intOf i).toNat)
    case atStart => exact ⟨0, Nat.zero_le _, rfl, rfl⟩
    case round =>
      obtain ⟨k, hk, rfl, rfl⟩ := hrel
      have hlt : k < n := by omega
      obtain ⟨b, hb⟩ : ∃ b, L[k]? = some b := ⟨_, List.getElem?_eq_getElem (by rw [HN.out]; exact hlt)⟩
      have HKJ : Hid (k = j → b = a) := by
        rintro rfl
        have := HJ.out
        rw [hb] at this
        exact Option.some.inj this
      obtain ⟨ab, aoff, rfl, hab, a0, a1, a2⟩ := HA.out.acts hb
      clear hb
      obtain ⟨bk, ba, bb⟩ := b
      simp only at a0 a1 a2
      by_cases q1 : bk = kind
      · subst q1
        by_cases q2 : ba = is
        · subst q2
          go_wp2
          go_ret
          exact ⟨rfl, rfl⟩
        · have q2' : (ba == is) = false := by simpa using q2
          have hkj : k + 1 ≤ j := by
            rcases Nat.lt_or_ge k j with h | h
            · exact h
            · exact absurd (by have e := HKJ.out (by omega); rw [← e] at haa; exact haa) q2
          go_wp2
          go_roundw
          case rel => exact ⟨k + 1, hkj, by go_num, by first | rfl | trivial⟩
          case measure => simp [intOf]; omega
      · have q1' : (bk == kind) = false := by simpa using q1
        have hkj : k + 1 ≤ j := by
          rcases Nat.lt_or_ge k j with h | h
          · exact h
          · exact absurd (by have e := HKJ.out (by omega); rw [← e] at hak; exact hak) q1
        go_wp2
        go_roundw
        case rel => exact ⟨k + 1, hkj, by go_num, by first | rfl | trivial⟩
        case measure => simp [intOf]; omega
end Go.Proofs.YtnoppfgikanebaaDoor
