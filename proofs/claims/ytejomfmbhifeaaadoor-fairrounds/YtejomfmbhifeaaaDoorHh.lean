/-
  fair.NewHashed, where its numbers are within bounds. Conditions: they are.
-/
import Derived.Test.YtejomfmbhifeaaaDoorHg
namespace Go.Proofs.YtejomfmbhifeaaaDoor
open Go.RowKit Go.Extern.Stop Go.Stop Go.Extern

def ha0 : HaS := ⟨fun _ => [], []⟩
noncomputable def haC (p : HaC) : Array Value := ((Tryd.zeroCells119.setIfInBounds 0 (.int .i64 p.many)).setIfInBounds 1 (.int .i64 p.salt)).setIfInBounds 2 (.int .i64 p.room)
theorem haZ : ∀ f, f < 64 → Tryd.zeroCells119[3 + f * 2]? = some (.slice none 0 0) ∧ Tryd.zeroCells119[3 + f * 2 + 1]? = some (.int .i64 0) := fun f hf => match f, hf with
  | 0, _ => ⟨by kernel_rfl, by kernel_rfl⟩
  | 1, _ => ⟨by kernel_rfl, by kernel_rfl⟩
  | 2, _ => ⟨by kernel_rfl, by kernel_rfl⟩
  | 3, _ => ⟨by kernel_rfl, by kernel_rfl⟩
  | 4, _ => ⟨by kernel_rfl, by kernel_rfl⟩
  | 5, _ => ⟨by kernel_rfl, by kernel_rfl⟩
  | 6, _ => ⟨by kernel_rfl, by kernel_rfl⟩
  | 7, _ => ⟨by kernel_rfl, by kernel_rfl⟩
  | 8, _ => ⟨by kernel_rfl, by kernel_rfl⟩
  | 9, _ => ⟨by kernel_rfl, by kernel_rfl⟩
  | 10, _ => ⟨by kernel_rfl, by kernel_rfl⟩
  | 11, _ => ⟨by kernel_rfl, by kernel_rfl⟩
  | 12, _ => ⟨by kernel_rfl, by kernel_rfl⟩
  | 13, _ => ⟨by kernel_rfl, by kernel_rfl⟩
  | 14, _ => ⟨by kernel_rfl, by kernel_rfl⟩
  | 15, _ => ⟨by kernel_rfl, by kernel_rfl⟩
  | 16, _ => ⟨by kernel_rfl, by kernel_rfl⟩
  | 17, _ => ⟨by kernel_rfl, by kernel_rfl⟩
  | 18, _ => ⟨by kernel_rfl, by kernel_rfl⟩
  | 19, _ => ⟨by kernel_rfl, by kernel_rfl⟩
  | 20, _ => ⟨by kernel_rfl, by kernel_rfl⟩
  | 21, _ => ⟨by kernel_rfl, by kernel_rfl⟩
  | 22, _ => ⟨by kernel_rfl, by kernel_rfl⟩
  | 23, _ => ⟨by kernel_rfl, by kernel_rfl⟩
  | 24, _ => ⟨by kernel_rfl, by kernel_rfl⟩
  | 25, _ => ⟨by kernel_rfl, by kernel_rfl⟩
  | 26, _ => ⟨by kernel_rfl, by kernel_rfl⟩
  | 27, _ => ⟨by kernel_rfl, by kernel_rfl⟩
  | 28, _ => ⟨by kernel_rfl, by kernel_rfl⟩
  | 29, _ => ⟨by kernel_rfl, by kernel_rfl⟩
  | 30, _ => ⟨by kernel_rfl, by kernel_rfl⟩
  | 31, _ => ⟨by kernel_rfl, by kernel_rfl⟩
  | 32, _ => ⟨by kernel_rfl, by kernel_rfl⟩
  | 33, _ => ⟨by kernel_rfl, by kernel_rfl⟩
  | 34, _ => ⟨by kernel_rfl, by kernel_rfl⟩
  | 35, _ => ⟨by kernel_rfl, by kernel_rfl⟩
  | 36, _ => ⟨by kernel_rfl, by kernel_rfl⟩
  | 37, _ => ⟨by kernel_rfl, by kernel_rfl⟩
  | 38, _ => ⟨by kernel_rfl, by kernel_rfl⟩
  | 39, _ => ⟨by kernel_rfl, by kernel_rfl⟩
  | 40, _ => ⟨by kernel_rfl, by kernel_rfl⟩
  | 41, _ => ⟨by kernel_rfl, by kernel_rfl⟩
  | 42, _ => ⟨by kernel_rfl, by kernel_rfl⟩
  | 43, _ => ⟨by kernel_rfl, by kernel_rfl⟩
  | 44, _ => ⟨by kernel_rfl, by kernel_rfl⟩
  | 45, _ => ⟨by kernel_rfl, by kernel_rfl⟩
  | 46, _ => ⟨by kernel_rfl, by kernel_rfl⟩
  | 47, _ => ⟨by kernel_rfl, by kernel_rfl⟩
  | 48, _ => ⟨by kernel_rfl, by kernel_rfl⟩
  | 49, _ => ⟨by kernel_rfl, by kernel_rfl⟩
  | 50, _ => ⟨by kernel_rfl, by kernel_rfl⟩
  | 51, _ => ⟨by kernel_rfl, by kernel_rfl⟩
  | 52, _ => ⟨by kernel_rfl, by kernel_rfl⟩
  | 53, _ => ⟨by kernel_rfl, by kernel_rfl⟩
  | 54, _ => ⟨by kernel_rfl, by kernel_rfl⟩
  | 55, _ => ⟨by kernel_rfl, by kernel_rfl⟩
  | 56, _ => ⟨by kernel_rfl, by kernel_rfl⟩
  | 57, _ => ⟨by kernel_rfl, by kernel_rfl⟩
  | 58, _ => ⟨by kernel_rfl, by kernel_rfl⟩
  | 59, _ => ⟨by kernel_rfl, by kernel_rfl⟩
  | 60, _ => ⟨by kernel_rfl, by kernel_rfl⟩
  | 61, _ => ⟨by kernel_rfl, by kernel_rfl⟩
  | 62, _ => ⟨by kernel_rfl, by kernel_rfl⟩
  | 63, _ => ⟨by kernel_rfl, by kernel_rfl⟩
  | n + 64, h => absurd h (by omega)
theorem ha_new {w : World} {b : Nat} {p : HaC} (h : w.heap[b]? = some (.cells (haC p) 119 (0, 0))) : HaP w b p (fun i => ((haC p)[i]?).getD undef) (fun _ => .slice none 0 0) (.slice none 0 0) ha0 := by
  have hs : Tryd.zeroCells119.size = 132 := by kernel_rfl
  have hs2 : (haC p).size = 132 := by simp [haC, hs]
  have h131 : Tryd.zeroCells119[131]? = some (.slice none 0 0) := by kernel_rfl
  have hfar : ∀ i, 3 ≤ i → (haC p)[i]? = Tryd.zeroCells119[i]? := by
    intro i hi
    unfold haC
    rw [Array.getElem?_setIfInBounds_ne (by omega), Array.getElem?_setIfInBounds_ne (by omega), Array.getElem?_setIfInBounds_ne (by omega)]
  refine ⟨⟨_, h, hs2, fun i hi => ?_⟩, ?_, ?_, ?_, fun f hf => ?_, fun f hf => ?_, ?_, fun _ _ => Hs.nil _, fun _ _ => by simp [Value.ownBlock], fun _ _ _ _ _ k hk => by simp [Value.ownBlock] at hk, Ins.nil _, by simp [Value.ownBlock], fun _ _ k hk => by simp [Value.ownBlock] at hk⟩
  · have e := Array.getElem?_eq_getElem (xs := haC p) (i := i) (by rw [hs2]; exact hi)
    show _ = some (((haC p)[i]?).getD undef)
    rw [e, Option.getD_some]
  · simp [haC, hs]
  · simp [haC, hs]
  · simp [haC, hs]
  · simp only [hfar _ (show 3 ≤ 3 + f * 2 by omega), (haZ f hf).1]; rfl
  · simp only [hfar _ (show 3 ≤ 3 + f * 2 + 1 by omega), (haZ f hf).2]; rfl
  · simp only [hfar 131 (by decide), h131]; rfl
set_option maxRecDepth 20000 in
set_option maxHeartbeats 4000000 in
theorem newHa_yes (p : HaC) (w : World) (hm0 : 1 ≤ p.many) (hm1 : p.many ≤ 64) (hs0 : 0 ≤ p.salt) (hs1 : p.salt ≤ 1000000) (hr0 : 1 ≤ p.room) (hr1 : p.room ≤ 1000000) :
    Calls Tryd.prog 21 #[.int .i64 p.many, .int .i64 p.salt, .int .i64 p.room] w fun e w' => e = .returned (.tuple #[.pointer (some ⟨w.heap.size, 0, none⟩), .nilIface]) ∧ ∃ C, HaP w' w.heap.size p C (fun _ => .slice none 0 0) (.slice none 0 0) ha0 ∧ Below w.heap.size w w' := by
  have HN : Hid (∃ C, HaP (w.alloc (.cells (haC p) 119)) w.heap.size p C (fun _ => .slice none 0 0) (.slice none 0 0) ha0) := ⟨_, ha_new (new_block w _)⟩
  go_enter Tryd.func21, Tryd.ntmps21
  go_wp2
  go_ret2
  obtain ⟨C, hC⟩ := HN.out
  exact ⟨rfl, C, hC, below_alloc_ (Below.refl _ _) _⟩
end Go.Proofs.YtejomfmbhifeaaaDoor
