/-
  package filter: how a test from one number to another is written. Conditions: what the program lays is laid.
-/
import Derived.Test.YtibecinojkkjpaaGreatDoorFld
namespace Go.Proofs.YtibecinojkkjpaaGreatDoor
open Go.RowKit Go.Extern.Stop Go.Stop Go.Extern

theorem app_ba (a b : List UInt8) : (⟨a.toArray⟩ : ByteArray) ++ ⟨b.toArray⟩ = ⟨(a ++ b).toArray⟩ := by
  apply ByteArray.ext
  simp [ByteArray.data_append]
set_option maxHeartbeats 4000000 in
theorem text_span (f : Nat) (n hi : Int) (w1 : World) (hf : f < 5) (h0 : 0 ≤ n) (h1 : n ≤ hi) (h2 : hi ≤ 1000000000) (hG : GlobF w1) :
    Calls Tryz.prog 131 #[.agg #[.int .i64 f, .int .i64 n, .int .i64 hi]] w1 fun e w' => e = .returned (.string ⟨(Lib.join [nameF f, Lib.itoa n] [32] ++ (if n < hi then [46, 46] ++ Lib.itoa hi else [])).toArray⟩) ∧ Below w1.heap.size w1 w' := by
  have hlj : (Lib.join [nameF f, Lib.itoa n] [32]).length ≤ 100000000 := by
    have := join_le [nameF f, Lib.itoa n] [32]
    have := nameF_len f
    have := itoa_len h0 (by omega)
    simp at *
    omega
  have HNM : Hid (∀ w2, Below w1.heap.size w1 w2 → Calls Tryz.prog 119 #[.int .i64 f] w2 fun e w' => e = .returned (.string ⟨(nameF f).toArray⟩) ∧ w' = w2) := fun w2 h => name_any f w2 hf (hG.below h)
  have HIT : Hid (∀ w2, Below w1.heap.size w1 w2 → Calls Tryz.prog 34 #[.int .i64 n] w2 fun e w' => e = .returned (.string ⟨(Lib.itoa n).toArray⟩) ∧ Below w2.heap.size w2 w') := fun w2 h => fitoa_any n w2 h0 (by omega) (hG.below h)
  have HIH : Hid (∀ w2, Below w1.heap.size w1 w2 → Calls Tryz.prog 34 #[.int .i64 hi] w2 fun e w' => e = .returned (.string ⟨(Lib.itoa hi).toArray⟩) ∧ Below w2.heap.size w2 w') := fun w2 h => fitoa_any hi w2 (by omega) h2 (hG.below h)
  have hih := itoa_len (n := hi) (by omega) h2
  generalize nameF f = nm at *
  generalize Lib.itoa hi = ih at *
  generalize Lib.itoa n = it at *
  have HJO : Hid (∀ w2 : World, Calls Tryz.prog 124 #[.slice (some ⟨w2.heap.size, 0, none⟩) 2 2] (w2.alloc (.cells #[.string ⟨nm.toArray⟩, .string ⟨it.toArray⟩] 9)) fun e w' => e = .returned (.string ⟨(Lib.join [nm, it] [32]).toArray⟩) ∧ Below w2.heap.size w2 w') := by
    intro w2
    refine (joined_any w2.heap.size 2 [nm, it] _ (fun j x h => cells2 j x h) (by simp) (by simp) (by simp) hlj).mono ?_
    rintro e w' ⟨rfl, hb⟩
    exact ⟨rfl, (below_alloc_ (Below.refl _ _) _).trans (hb.mono (by simp))⟩
  have HT1 : Hid (n < hi → (if n < hi then [46, 46] ++ ih else []) = [46, 46] ++ ih) := fun h => by rw [if_pos h]
  have HT2 : Hid (¬ n < hi → (if n < hi then [46, 46] ++ ih else []) = []) := fun h => by rw [if_neg h]
  generalize (if n < hi then [46, 46] ++ ih else []) = tl at *
  have s1 : ¬ (9223372036854775807 < 2 + ih.length) := by omega
  have s2 : ¬ (9223372036854775807 < (Lib.join [nm, it] [32]).length + (2 + ih.length)) := by omega
  clear hG hlj hih
  go_enter Tryz.func131, Tryz.ntmps131
  go_wp2_with fail
  have hbA : Below w1.heap.size w1 (w1.alloc (.cells #[.int .i64 f, .int .i64 n, .int .i64 hi] 111)) := below_alloc_ (Below.refl _ _) _
  have k2 : (w1.alloc (.cells #[.int .i64 f, .int .i64 n, .int .i64 hi] 111)).heap[w1.heap.size]? = some (.cells #[.int .i64 f, .int .i64 n, .int .i64 hi] 111 (0, 0)) := new_block _ _
  generalize w1.alloc (.cells #[.int .i64 f, .int .i64 n, .int .i64 hi] 111) = wc at *
  have HSC : Hid (∀ w', Below wc.heap.size wc w' → w'.cell? ⟨w1.heap.size, 0, none⟩ = some (.int .i64 f) ∧ w'.cell? ⟨w1.heap.size, 1, none⟩ = some (.int .i64 n) ∧ w'.cell? ⟨w1.heap.size, 2, none⟩ = some (.int .i64 hi) ∧ Below wc.heap.size wc w') := by
    intro w' hb
    have e2 := (hb.block w1.heap.size (lt_of_block k2)).trans k2
    exact ⟨by simp [World.cell?, e2], by simp [World.cell?, e2], by simp [World.cell?, e2], hb⟩
  have HE : Hid (∀ w', Below wc.heap.size wc w' → Below w1.heap.size w1 w') := fun w' hb => hbA.trans (hb.mono hbA.size)
  have HN2 : Hid (∀ w2, Below wc.heap.size wc w2 → Calls Tryz.prog 119 #[.int .i64 f] w2 fun e w' => e = .returned (.string ⟨nm.toArray⟩) ∧ Below wc.heap.size wc w') := fun w2 h => (HNM.out w2 (HE.out w2 h)).mono fun e w' ⟨a, b⟩ => ⟨a, b ▸ h⟩
  have HI2 : Hid (∀ w2, Below wc.heap.size wc w2 → Calls Tryz.prog 34 #[.int .i64 n] w2 fun e w' => e = .returned (.string ⟨it.toArray⟩) ∧ Below wc.heap.size wc w') := fun w2 h => (HIT.out w2 (HE.out w2 h)).mono fun e w' ⟨a, b⟩ => ⟨a, h.trans (b.mono h.size)⟩
  have HJ2 : Hid (∀ w2 : World, Below wc.heap.size wc w2 → Calls Tryz.prog 124 #[.slice (some ⟨w2.heap.size, 0, none⟩) 2 2] (w2.alloc (.cells #[.string ⟨nm.toArray⟩, .string ⟨it.toArray⟩] 9)) fun e w' => e = .returned (.string ⟨(Lib.join [nm, it] [32]).toArray⟩) ∧ Below wc.heap.size wc w') := fun w2 h => (HJO.out w2).mono fun e w' ⟨a, b⟩ => ⟨a, h.trans (b.mono h.size)⟩
  clear HNM HIT HJO k2 hbA
  go_region_held3 (fun w' => w'.cell? ⟨w1.heap.size, 0, none⟩ = some (.int .i64 f) ∧ w'.cell? ⟨w1.heap.size, 1, none⟩ = some (.int .i64 n) ∧ w'.cell? ⟨w1.heap.size, 2, none⟩ = some (.int .i64 hi) ∧ Below wc.heap.size wc w') ((refine HSC.out _ ?_; (repeat (first | exact Below.refl _ _ | assumption | refine Below.drew ?_ | refine below_alloc_ ?_ _)))) (first
    | (go_at_call 119; refine (HN2.out _ (by (repeat (first | exact Below.refl _ _ | assumption | refine Below.drew ?_ | refine below_alloc_ ?_ _)))).mono ?_; rintro e wa ⟨rfl, hba⟩; have qa := (HSC.out _ hba).2.1; have qa' := (HSC.out _ hba).1)
    | (go_at_call 34; refine (HI2.out _ (by (repeat (first | exact Below.refl _ _ | assumption | refine Below.drew ?_ | refine below_alloc_ ?_ _)))).mono ?_; rintro e wb ⟨rfl, hbb⟩; have qb := (HSC.out _ hbb).2.1; have qb' := (HSC.out _ hbb).1)
    | (go_at_call 124; refine (HJ2.out _ (by (repeat (first | exact Below.refl _ _ | assumption | refine Below.drew ?_ | refine below_alloc_ ?_ _)))).mono ?_; rintro e wd ⟨rfl, hbd⟩; have qd := (HSC.out _ hbd).2.1; have qd' := (HSC.out _ hbd).1; have qe := (HSC.out _ hbd).2.2.1))
  all_goals
    by_cases hlt : n < hi
    · have d1 : decide (n < hi) = true := by simpa using hlt
      go_wp2_with fail
      refine (HIH.out _ (HE.out _ hbd)).mono ?_
      rintro e wf ⟨rfl, hbf⟩
      have HBF := (HE.out _ hbd).trans (hbf.mono (HE.out _ hbd).size)
      obtain rfl := HT1.out hlt
      clear hlt
      go_wp2
      go_ret
      refine ⟨?_, HBF⟩
      rw [← app_ba, ← app_ba]
      rfl
    · have d1 : decide (n < hi) = false := by simpa using hlt
      obtain rfl := HT2.out (by omega)
      clear hlt
      go_wp2
      go_ret
      exact ⟨by simp, HE.out _ hbd⟩
/-- A filter's value, as Text is asked of it. -/
def TextAt (w : World) (v : Value) (s : List UInt8) : Prop := ∃ (ty : TypeId) (rv : Value) (f : FuncId) (rc : Value), v = .iface ty rv ∧ (∀ W : World, (Go.method 326 ty rv "Text").run Tryz.prog W = .ok (f, rc) W) ∧ (∀ (args : Array Value) (W : World), (callFunc f args).run Tryz.prog W = .ok (.enter f args) W) ∧
  ∀ w1, Below w.heap.size w w1 → Calls Tryz.prog f #[rc] w1 fun e w' => e = .returned (.string ⟨s.toArray⟩) ∧ Below w1.heap.size w1 w'
theorem xAny (W : World) : (Go.method 326 76 (.agg #[]) "Text").run Tryz.prog W = .ok (118, .agg #[]) W := by kernel_rfl
theorem xSpan (a b c : Value) (W : World) : (Go.method 326 111 (.agg #[a, b, c]) "Text").run Tryz.prog W = .ok (131, .agg #[a, b, c]) W := by kernel_rfl
theorem xBits (a b : Value) (W : World) : (Go.method 326 134 (.agg #[a, b]) "Text").run Tryz.prog W = .ok (134, .agg #[a, b]) W := by kernel_rfl
theorem xNot (a : Value) (W : World) : (Go.method 326 93 (.agg #[a]) "Text").run Tryz.prog W = .ok (123, .agg #[a]) W := by kernel_rfl
theorem xAll (a : Addr) (W : World) : (Go.method 326 94 (.pointer (some a)) "Text").run Tryz.prog W = .ok (126, .pointer (some a)) W := by kernel_rfl
theorem xSome (a : Addr) (W : World) : (Go.method 326 95 (.pointer (some a)) "Text").run Tryz.prog W = .ok (129, .pointer (some a)) W := by kernel_rfl
theorem yAny (args : Array Value) (W : World) : (callFunc 118 args).run Tryz.prog W = .ok (.enter 118 args) W := enters_of Tryz.func118 (by kernel_rfl) rfl args W
theorem ySpan (args : Array Value) (W : World) : (callFunc 131 args).run Tryz.prog W = .ok (.enter 131 args) W := enters_of Tryz.func131 (by kernel_rfl) rfl args W
theorem yBits (args : Array Value) (W : World) : (callFunc 134 args).run Tryz.prog W = .ok (.enter 134 args) W := enters_of Tryz.func134 (by kernel_rfl) rfl args W
theorem yNot (args : Array Value) (W : World) : (callFunc 123 args).run Tryz.prog W = .ok (.enter 123 args) W := enters_of Tryz.func123 (by kernel_rfl) rfl args W
theorem yAll (args : Array Value) (W : World) : (callFunc 126 args).run Tryz.prog W = .ok (.enter 126 args) W := enters_of Tryz.func126 (by kernel_rfl) rfl args W
theorem ySome (args : Array Value) (W : World) : (callFunc 129 args).run Tryz.prog W = .ok (.enter 129 args) W := enters_of Tryz.func129 (by kernel_rfl) rfl args W
theorem text_leaf1 (w1 : World) : Calls Tryz.prog 118 #[.agg #[]] w1 fun e w' => e = .returned (.string ⟨#[97, 110, 121]⟩) ∧ Below w1.heap.size w1 w' := by
  go_enter Tryz.func118, Tryz.ntmps118
  go_wp2
  go_ret
  exact ⟨rfl, below_alloc_ (Below.refl _ _) _⟩
set_option maxHeartbeats 2000000 in
theorem text_not {s : List UInt8} {u : Value} (w : World) (h : TextAt w u s) (hl : (Lib.join [[110, 111, 116], s] [32]).length ≤ 100000000) : ∀ w1, Below w.heap.size w w1 → Calls Tryz.prog 123 #[.agg #[u]] w1 fun e w' => e = .returned (.string ⟨(Lib.join [[110, 111, 116], s] [32]).toArray⟩) ∧ Below w1.heap.size w1 w' := by
  intro w1 hb1
  obtain ⟨ty, rv, f, rc, rfl, hm, he, hc⟩ := h
  have HC : Hid (∀ w2, Below w1.heap.size w1 w2 → Calls Tryz.prog f #[rc] w2 fun e w' => e = .returned (.string ⟨s.toArray⟩) ∧ Below w2.heap.size w2 w') := fun w2 h2 => hc w2 (hb1.trans (h2.mono hb1.size))
  have HJO : Hid (∀ w2 : World, Calls Tryz.prog 124 #[.slice (some ⟨w2.heap.size, 0, none⟩) 2 2] (w2.alloc (.cells #[.string ⟨#[110, 111, 116]⟩, .string ⟨s.toArray⟩] 9)) fun e w' => e = .returned (.string ⟨(Lib.join [[110, 111, 116], s] [32]).toArray⟩) ∧ Below w2.heap.size w2 w') := by
    intro w2
    refine (joined_any w2.heap.size 2 [[110, 111, 116], s] _ (fun j x h => cells2 (a := [110, 111, 116]) j x h) (by simp) (by simp) (by simp) hl).mono ?_
    rintro e w' ⟨rfl, hb⟩
    exact ⟨rfl, (below_alloc_ (Below.refl _ _) _).trans (hb.mono (by simp))⟩
  clear hc hb1 hl
  go_enter Tryz.func123, Tryz.ntmps123
  go_wp2_with fail
  have hbA : Below w1.heap.size w1 (w1.alloc (.cells #[.iface ty rv] 93)) := below_alloc_ (Below.refl _ _) _
  refine (HC.out _ hbA).mono ?_
  rintro e w2 ⟨rfl, hb2⟩
  have HB : Hid (Below w1.heap.size w1 w2) := hbA.trans (hb2.mono hbA.size)
  clear hbA hb2
  go_wp2_with fail
  refine (HJO.out _).mono ?_
  rintro e w3 ⟨rfl, hb3⟩
  go_wp2
  go_ret
  exact ⟨rfl, HB.out.trans (hb3.mono HB.out.size)⟩
end Go.Proofs.YtibecinojkkjpaaGreatDoor
