/-
  package filter: how tests are written. Conditions: what the program lays is laid.
-/
import Derived.Test.YtibecinojkkjpaaGreatDoorFl6
import Derived.Test.YtibecinojkkjpaaGreatDoorFl9
namespace Go.Proofs.YtibecinojkkjpaaGreatDoor
open Go.RowKit Go.Extern.Stop Go.Stop Go.Extern

theorem name_any (f : Nat) (w : World) (hf : f < 5) (hG : GlobF w) :
    Calls Tryz.prog 119 #[.int .i64 f] w fun e w' => e = .returned (.string ⟨(nameF f).toArray⟩) ∧ w' = w := by
  obtain ⟨-, c0, c1, c2, c3, c4, -⟩ := hG
  rcases (by omega : f = 0 ∨ f = 1 ∨ f = 2 ∨ f = 3 ∨ f = 4) with rfl | rfl | rfl | rfl | rfl
  all_goals
    go_enter Tryz.func119, Tryz.ntmps119
    go_wp2
    go_ret
    exact ⟨rfl, rfl⟩
theorem fitoa_any (n : Int) (w : World) (h0 : 0 ≤ n) (h1 : n ≤ 1000000000) (hG : GlobF w) :
    Calls Tryz.prog 34 #[.int .i64 n] w fun e w' => e = .returned (.string ⟨(Lib.itoa n).toArray⟩) ∧ Below w.heap.size w w' := by
  refine (Tryz.strconv_Itoa n (by omega) (by omega) w hG.num.1).mono ?_
  rintro e w' ⟨rfl, k, os, rfl⟩
  exact ⟨rfl, Lib.below_grow _ _ (Nat.le_refl _) _ _⟩
theorem fjoin_any (bk o c : Nat) (xs : List (List UInt8)) (sep : List UInt8) (w : World) (hcells : ∀ (j : Nat) x, xs[j]? = some x → w.cell? ⟨bk, o + j, none⟩ = some (.string ⟨x.toArray⟩)) (hbk : bk < w.heap.size) (hn : xs.length ≤ c) (hx : xs.length ≤ 100000) (hlen : (Lib.join xs sep).length ≤ 100000000) :
    Calls Tryz.prog 35 #[.slice (some ⟨bk, o, none⟩) xs.length c, .string ⟨sep.toArray⟩] w fun e w' => e = .returned (.string ⟨(Lib.join xs sep).toArray⟩) ∧ Below w.heap.size w w' := by
  have e1 : (xs.map fun l => (⟨l.toArray⟩ : ByteArray)).map (·.data.toList) = xs := by rw [List.map_map]; simp [Function.comp_def]
  have h := Tryz.strings_Join bk o c (xs.map fun l => ⟨l.toArray⟩) ⟨sep.toArray⟩ w (fun j x hj => by
    rw [List.getElem?_map] at hj
    cases hq : xs[j]? with
    | none => rw [hq] at hj; cases hj
    | some y => rw [hq] at hj; obtain rfl := Option.some.inj hj; exact hcells j y hq) hbk (by rw [List.length_map]; omega) (by rw [List.length_map]; exact hn) (by rw [e1]; exact Nat.le_trans (by simpa using hlen) (show 100000000 ≤ 140737488355328 by decide))
  rw [e1, List.length_map] at h
  exact h
theorem joined_any (bk c : Nat) (xs : List (List UInt8)) (w : World) (hcells : ∀ (j : Nat) x, xs[j]? = some x → w.cell? ⟨bk, 0 + j, none⟩ = some (.string ⟨x.toArray⟩)) (hbk : bk < w.heap.size) (hn : xs.length ≤ c) (hx : xs.length ≤ 100000) (hlen : (Lib.join xs [32]).length ≤ 100000000) :
    Calls Tryz.prog 124 #[.slice (some ⟨bk, 0, none⟩) xs.length c] w fun e w' => e = .returned (.string ⟨(Lib.join xs [32]).toArray⟩) ∧ Below w.heap.size w w' := by
  have H := fjoin_any bk 0 c xs [32] w hcells hbk hn hx hlen
  clear hcells hbk hn hx hlen
  go_enter Tryz.func124, Tryz.ntmps124
  go_wp2_with fail
  refine H.mono ?_
  rintro e w1 ⟨rfl, hb1⟩
  go_wp2
  go_ret
  exact ⟨rfl, hb1⟩
theorem cells2 {w : World} {a b : List UInt8} {ty : TypeId} (j : Nat) (x : List UInt8) (h : [a, b][j]? = some x) : (w.alloc (.cells #[.string ⟨a.toArray⟩, .string ⟨b.toArray⟩] ty)).cell? ⟨w.heap.size, 0 + j, none⟩ = some (.string ⟨x.toArray⟩) := by
  have k := new_block w (.cells #[.string ⟨a.toArray⟩, .string ⟨b.toArray⟩] ty)
  generalize w.alloc (.cells #[.string ⟨a.toArray⟩, .string ⟨b.toArray⟩] ty) = w' at *
  match j with
  | 0 => simp at h; subst h; simp [World.cell?, k]
  | 1 => simp at h; subst h; simp [World.cell?, k]
  | j + 2 => simp at h
theorem cells3 {w : World} {a b d : List UInt8} {ty : TypeId} (j : Nat) (x : List UInt8) (h : [a, b, d][j]? = some x) : (w.alloc (.cells #[.string ⟨a.toArray⟩, .string ⟨b.toArray⟩, .string ⟨d.toArray⟩] ty)).cell? ⟨w.heap.size, 0 + j, none⟩ = some (.string ⟨x.toArray⟩) := by
  have k := new_block w (.cells #[.string ⟨a.toArray⟩, .string ⟨b.toArray⟩, .string ⟨d.toArray⟩] ty)
  generalize w.alloc (.cells #[.string ⟨a.toArray⟩, .string ⟨b.toArray⟩, .string ⟨d.toArray⟩] ty) = w' at *
  match j with
  | 0 => simp at h; subst h; simp [World.cell?, k]
  | 1 => simp at h; subst h; simp [World.cell?, k]
  | 2 => simp at h; subst h; simp [World.cell?, k]
  | j + 3 => simp at h
set_option maxHeartbeats 4000000 in
theorem text_bits (f : Nat) (n : Int) (w1 : World) (hf : f < 5) (h0 : 0 ≤ n) (h1 : n ≤ 1000000000) (hG : GlobF w1) :
    Calls Tryz.prog 134 #[.agg #[.int .i64 f, .int .i64 n]] w1 fun e w' => e = .returned (.string ⟨(Lib.join [nameF f, [104, 97, 115], Lib.itoa n] [32]).toArray⟩) ∧ Below w1.heap.size w1 w' := by
  have hlj : (Lib.join [nameF f, [104, 97, 115], Lib.itoa n] [32]).length ≤ 100000000 := by
    have := join_le [nameF f, [104, 97, 115], Lib.itoa n] [32]
    have := nameF_len f
    have := itoa_len h0 h1
    simp at *
    omega
  have HNM : Hid (∀ w2, Below w1.heap.size w1 w2 → Calls Tryz.prog 119 #[.int .i64 f] w2 fun e w' => e = .returned (.string ⟨(nameF f).toArray⟩) ∧ w' = w2) := fun w2 h => name_any f w2 hf (hG.below h)
  have HIT : Hid (∀ w2, Below w1.heap.size w1 w2 → Calls Tryz.prog 34 #[.int .i64 n] w2 fun e w' => e = .returned (.string ⟨(Lib.itoa n).toArray⟩) ∧ Below w2.heap.size w2 w') := fun w2 h => fitoa_any n w2 h0 h1 (hG.below h)
  generalize nameF f = nm at *
  generalize Lib.itoa n = it at *
  have HJO : Hid (∀ w2 : World, Calls Tryz.prog 124 #[.slice (some ⟨w2.heap.size, 0, none⟩) 3 3] (w2.alloc (.cells #[.string ⟨nm.toArray⟩, .string ⟨#[104, 97, 115]⟩, .string ⟨it.toArray⟩] 9)) fun e w' => e = .returned (.string ⟨(Lib.join [nm, [104, 97, 115], it] [32]).toArray⟩) ∧ Below w2.heap.size w2 w') := by
    intro w2
    refine (joined_any w2.heap.size 3 [nm, [104, 97, 115], it] _ (fun j x h => cells3 j x h) (by simp) (by simp) (by simp) hlj).mono ?_
    rintro e w' ⟨rfl, hb⟩
    exact ⟨rfl, (below_alloc_ (Below.refl _ _) _).trans (hb.mono (by simp))⟩
  clear hG hlj
  go_enter Tryz.func134, Tryz.ntmps134
  go_wp2_with fail
  have hbA : Below w1.heap.size w1 (w1.alloc (.cells #[.int .i64 f, .int .i64 n] 134)) := below_alloc_ (Below.refl _ _) _
  have k2 : (w1.alloc (.cells #[.int .i64 f, .int .i64 n] 134)).heap[w1.heap.size]? = some (.cells #[.int .i64 f, .int .i64 n] 134 (0, 0)) := new_block _ _
  generalize w1.alloc (.cells #[.int .i64 f, .int .i64 n] 134) = wc at *
  have HSC : Hid (∀ w', Below wc.heap.size wc w' → w'.cell? ⟨w1.heap.size, 0, none⟩ = some (.int .i64 f) ∧ w'.cell? ⟨w1.heap.size, 1, none⟩ = some (.int .i64 n) ∧ Below wc.heap.size wc w') := by
    intro w' hb
    have e2 := (hb.block w1.heap.size (lt_of_block k2)).trans k2
    exact ⟨by simp [World.cell?, e2], by simp [World.cell?, e2], hb⟩
  have HE : Hid (∀ w', Below wc.heap.size wc w' → Below w1.heap.size w1 w') := fun w' hb => hbA.trans (hb.mono hbA.size)
  have HN2 : Hid (∀ w2, Below wc.heap.size wc w2 → Calls Tryz.prog 119 #[.int .i64 f] w2 fun e w' => e = .returned (.string ⟨nm.toArray⟩) ∧ Below wc.heap.size wc w') := fun w2 h => (HNM.out w2 (HE.out w2 h)).mono fun e w' ⟨a, b⟩ => ⟨a, b ▸ h⟩
  have HI2 : Hid (∀ w2, Below wc.heap.size wc w2 → Calls Tryz.prog 34 #[.int .i64 n] w2 fun e w' => e = .returned (.string ⟨it.toArray⟩) ∧ Below wc.heap.size wc w') := fun w2 h => (HIT.out w2 (HE.out w2 h)).mono fun e w' ⟨a, b⟩ => ⟨a, h.trans (b.mono h.size)⟩
  have HJ2 : Hid (∀ w2 : World, Below wc.heap.size wc w2 → Calls Tryz.prog 124 #[.slice (some ⟨w2.heap.size, 0, none⟩) 3 3] (w2.alloc (.cells #[.string ⟨nm.toArray⟩, .string ⟨#[104, 97, 115]⟩, .string ⟨it.toArray⟩] 9)) fun e w' => e = .returned (.string ⟨(Lib.join [nm, [104, 97, 115], it] [32]).toArray⟩) ∧ Below wc.heap.size wc w') := fun w2 h => (HJO.out w2).mono fun e w' ⟨a, b⟩ => ⟨a, h.trans (b.mono h.size)⟩
  clear HNM HIT HJO k2 hbA
  go_region_held3 (fun w' => w'.cell? ⟨w1.heap.size, 0, none⟩ = some (.int .i64 f) ∧ w'.cell? ⟨w1.heap.size, 1, none⟩ = some (.int .i64 n) ∧ Below wc.heap.size wc w') ((refine HSC.out _ ?_; (repeat (first | exact Below.refl _ _ | assumption | refine Below.drew ?_ | refine below_alloc_ ?_ _)))) (first
    | (go_at_call 119; refine (HN2.out _ (by (repeat (first | exact Below.refl _ _ | assumption | refine Below.drew ?_ | refine below_alloc_ ?_ _)))).mono ?_; rintro e wa ⟨rfl, hba⟩; have qa := (HSC.out _ hba).2.1; have qa' := (HSC.out _ hba).1)
    | (go_at_call 34; refine (HI2.out _ (by (repeat (first | exact Below.refl _ _ | assumption | refine Below.drew ?_ | refine below_alloc_ ?_ _)))).mono ?_; rintro e wb ⟨rfl, hbb⟩; have qb := (HSC.out _ hbb).2.1; have qb' := (HSC.out _ hbb).1)
    | (go_at_call 124; refine (HJ2.out _ (by (repeat (first | exact Below.refl _ _ | assumption | refine Below.drew ?_ | refine below_alloc_ ?_ _)))).mono ?_; rintro e wd ⟨rfl, hbd⟩; have qd := (HSC.out _ hbd).2.1; have qd' := (HSC.out _ hbd).1))
  all_goals
    go_wp2
    go_ret
    exact ⟨rfl, HE.out _ hbd⟩
end Go.Proofs.YtibecinojkkjpaaGreatDoor
