/-
  fair.Hashed is a queue as plain.Play and millracelaw.played ask it: a model. Conditions: its numbers within their bounds.
-/
import Derived.Test.YtejomfmbhifeaaaDoorHi
namespace Go.Proofs.YtejomfmbhifeaaaDoor
open Go.RowKit Go.Extern.Stop Go.Stop Go.Extern

theorem mHaP (a : Addr) (W : World) : (Go.method 314 70 (.pointer (some a)) "Put").run Tryd.prog W = .ok (122, .pointer (some a)) W := by kernel_rfl
theorem mHaT (a : Addr) (W : World) : (Go.method 314 70 (.pointer (some a)) "Take").run Tryd.prog W = .ok (123, .pointer (some a)) W := by kernel_rfl
theorem mHaW (a : Addr) (W : World) : (Go.method 314 70 (.pointer (some a)) "When").run Tryd.prog W = .ok (124, .pointer (some a)) W := by kernel_rfl
theorem mHaL (a : Addr) (W : World) : (Go.method 314 70 (.pointer (some a)) "Len").run Tryd.prog W = .ok (121, .pointer (some a)) W := by kernel_rfl
theorem mHaB (a : Addr) (W : World) : (Go.method 314 70 (.pointer (some a)) "Bytes").run Tryd.prog W = .ok (120, .pointer (some a)) W := by kernel_rfl
theorem eHaP (args : Array Value) (W : World) : (callFunc 122 args).run Tryd.prog W = .ok (.enter 122 args) W := enters_of Tryd.func122 (by kernel_rfl) rfl args W
theorem eHaT (args : Array Value) (W : World) : (callFunc 123 args).run Tryd.prog W = .ok (.enter 123 args) W := enters_of Tryd.func123 (by kernel_rfl) rfl args W
theorem eHaW (args : Array Value) (W : World) : (callFunc 124 args).run Tryd.prog W = .ok (.enter 124 args) W := enters_of Tryd.func124 (by kernel_rfl) rfl args W
theorem eHaL (args : Array Value) (W : World) : (callFunc 121 args).run Tryd.prog W = .ok (.enter 121 args) W := enters_of Tryd.func121 (by kernel_rfl) rfl args W
theorem eHaB (args : Array Value) (W : World) : (callFunc 120 args).run Tryd.prog W = .ok (.enter 120 args) W := enters_of Tryd.func120 (by kernel_rfl) rfl args W
/-- Each list's numbers go up, and are below n. -/
def SH (n : Nat) (s : HaS) : Prop := ∀ f, f < 64 → ((s.fl f).map Hd.n).Pairwise (· < ·) ∧ ∀ x ∈ s.fl f, 0 ≤ x.n ∧ x.n < (n : Int)
theorem SH.less {n : Nat} {s s' : HaS} (h : SH n s) {f : Nat} {L : List Hd} (hs : s'.fl = updF s.fl f L) (hL : L.Sublist (s.fl f)) : SH n s' := by
  intro g hg
  rw [hs]
  by_cases e : g = f
  · subst e; rw [updF_same]
    exact ⟨(h g hg).1.sublist (hL.map _), fun x hx => (h g hg).2 x (hL.subset hx)⟩
  · rw [updF_ne e]; exact h g hg
theorem SH.into {n : Nat} {p : HaC} {s : HaS} {x : Hd} (h : SH n s) (hx : x.n = (n : Int)) : SH (n + 1) (intoH p s x) := by
  have hw : SH (n + 1) s := fun f hf => ⟨(h f hf).1, fun y hy => by have := (h f hf).2 y hy; omega⟩
  intro f hf
  show ((updF s.fl (whereN p x.f).toNat (s.fl (whereN p x.f).toNat ++ [x]) f).map Hd.n).Pairwise (· < ·) ∧ ∀ y ∈ updF s.fl (whereN p x.f).toNat (s.fl (whereN p x.f).toNat ++ [x]) f, 0 ≤ y.n ∧ y.n < ((n + 1 : Nat) : Int)
  by_cases e : f = (whereN p x.f).toNat
  · rw [e, updF_same, ← e]
    refine ⟨?_, fun y hy => ?_⟩
    · rw [List.map_append, List.pairwise_append]
      refine ⟨(h _ hf).1, by simp, fun a ha b hb => ?_⟩
      obtain ⟨y, hy, rfl⟩ := List.mem_map.1 ha
      simp at hb
      subst hb
      have := (h _ hf).2 y hy
      omega
    · rcases List.mem_append.1 hy with h1 | h1
      · have := (h _ hf).2 y h1; omega
      · simp at h1; subst h1; omega
  · rw [updF_ne e]; exact hw f hf
/-- A Hashed in block b. -/
def HashM (b : Nat) (p : HaC) : QM where
  σ := HaS
  ty := 70
  rv := .pointer (some ⟨b, 0, none⟩)
  fP := 122
  fT := 123
  fW := 124
  fL := 121
  fB := 120
  rP := .pointer (some ⟨b, 0, none⟩)
  rT := .pointer (some ⟨b, 0, none⟩)
  rW := .pointer (some ⟨b, 0, none⟩)
  rL := .pointer (some ⟨b, 0, none⟩)
  rB := .pointer (some ⟨b, 0, none⟩)
  At := fun w F s => ∃ C vs tv, HaP w b p C vs tv s ∧ ∀ k, F k ↔ HaF b vs tv k
  put := fun s _ x => putH p s x
  take := fun s _ => takeH s
  when := fun s now => (s, now, !s.tn.isEmpty)
  len := fun s => (allF s.fl 64).length
  bytes := fun s => sumL (allF s.fl 64)
  inv := fun _ n s => HaI p s ∧ (allF s.fl 64).length ≤ n ∧ SH n s
end Go.Proofs.YtejomfmbhifeaaaDoor
