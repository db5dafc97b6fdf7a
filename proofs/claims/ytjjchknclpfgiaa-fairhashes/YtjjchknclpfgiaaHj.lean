/-
  fair.Hashed is a queue as plain.Play and millracelaw.played ask it: a model. Conditions: its numbers within their bounds.
-/
import Derived.Test.YtjjchknclpfgiaaHi
namespace Go.Proofs.Ytjjchknclpfgiaa
open Go.RowKit Go.Extern.Stop Go.Stop Go.Extern

theorem mHaP (a : Addr) (W : World) : (Go.method 223 61 (.pointer (some a)) "Put").run Try.prog W = .ok (79, .pointer (some a)) W := by kernel_rfl
theorem mHaT (a : Addr) (W : World) : (Go.method 223 61 (.pointer (some a)) "Take").run Try.prog W = .ok (80, .pointer (some a)) W := by kernel_rfl
theorem mHaW (a : Addr) (W : World) : (Go.method 223 61 (.pointer (some a)) "When").run Try.prog W = .ok (81, .pointer (some a)) W := by kernel_rfl
theorem mHaL (a : Addr) (W : World) : (Go.method 223 61 (.pointer (some a)) "Len").run Try.prog W = .ok (78, .pointer (some a)) W := by kernel_rfl
theorem mHaB (a : Addr) (W : World) : (Go.method 223 61 (.pointer (some a)) "Bytes").run Try.prog W = .ok (77, .pointer (some a)) W := by kernel_rfl
theorem eHaP (args : Array Value) (W : World) : (callFunc 79 args).run Try.prog W = .ok (.enter 79 args) W := enters_of Try.func79 (by kernel_rfl) rfl args W
theorem eHaT (args : Array Value) (W : World) : (callFunc 80 args).run Try.prog W = .ok (.enter 80 args) W := enters_of Try.func80 (by kernel_rfl) rfl args W
theorem eHaW (args : Array Value) (W : World) : (callFunc 81 args).run Try.prog W = .ok (.enter 81 args) W := enters_of Try.func81 (by kernel_rfl) rfl args W
theorem eHaL (args : Array Value) (W : World) : (callFunc 78 args).run Try.prog W = .ok (.enter 78 args) W := enters_of Try.func78 (by kernel_rfl) rfl args W
theorem eHaB (args : Array Value) (W : World) : (callFunc 77 args).run Try.prog W = .ok (.enter 77 args) W := enters_of Try.func77 (by kernel_rfl) rfl args W
/-- Each list's numbers go up, and are below n. -/
def SH (n : Nat) (s : HaS) : Prop := ∀ f, f < 64 → ((s.fl f).map Hd.n).Pairwise (· < ·) ∧ ∀ x ∈ s.fl f, 0 ≤ x.n ∧ x.n < (n : Int)
theorem SH.less {n : Nat} {s s' : HaS} (h : SH n s) {f : Nat} {L : List Hd} (hs : s'.fl = updF s.fl f L) (hL : L.Sublist (s.fl f)) : SH n s' := by
  intro g hg
  rw [hs]
  by_cases e : g = f
  · subst e; rw [updF_same]
    exact ⟨(h g hg).1.sublist (hL.map _), fun x hx => (h g hg).2 x (hL.subset hx)⟩
  · rw [updF_ne e]; exact h g hg
theorem SH.into {n : Nat} {p : HaC} {s : HaS} {x : Hd} (h : SH n s) (hx : x.n = (n : Int)) : SH (n + 1) (intoH p s x) := by
  have hw : SH (n + 1) s := fun f hf => ⟨(h f hf).1, fun y hy => by have := (h f hf).2 y hy; omega⟩
  intro f hf
  show ((updF s.fl (whereN p x.f).toNat (s.fl (whereN p x.f).toNat ++ [x]) f).map Hd.n).Pairwise (· < ·) ∧ ∀ y ∈ updF s.fl (whereN p x.f).toNat (s.fl (whereN p x.f).toNat ++ [x]) f, 0 ≤ y.n ∧ y.n < ((n + 1 : Nat) : Int)
  by_cases e : f = (whereN p x.f).toNat
  · rw [e, updF_same, ← e]
    refine ⟨?_, fun y hy => ?_⟩
    · rw [List.map_append, List.pairwise_append]
      refine ⟨(h _ hf).1, by simp, fun a ha b hb => ?_⟩
      obtain ⟨y, hy, rfl⟩ := List.mem_map.1 ha
      simp at hb
      subst hb
      have := (h _ hf).2 y hy
      omega
    · rcases List.mem_append.1 hy with h1 | h1
      · have := (h _ hf).2 y h1; omega
      · simp at h1; subst h1; omega
  · rw [updF_ne e]; exact hw f hf
/-- A Hashed in block b. -/
def HashM (b : Nat) (p : HaC) : QM where
  σ := HaS
  ty := 61
  rv := .pointer (some ⟨b, 0, none⟩)
  fP := 79
  fT := 80
  fW := 81
  fL := 78
  fB := 77
  rP := .pointer (some ⟨b, 0, none⟩)
  rT := .pointer (some ⟨b, 0, none⟩)
  rW := .pointer (some ⟨b, 0, none⟩)
  rL := .pointer (some ⟨b, 0, none⟩)
  rB := .pointer (some ⟨b, 0, none⟩)
  At := fun w F s => ∃ C vs tv, HaP w b p C vs tv s ∧ ∀ k, F k ↔ HaF b vs tv k
  put := fun s _ x => putH p s x
  take := fun s _ => takeH s
  when := fun s now => (s, now, !s.tn.isEmpty)
  len := fun s => (allF s.fl 64).length
  bytes := fun s => sumL (allF s.fl 64)
  inv := fun _ n s => HaI p s ∧ (allF s.fl 64).length ≤ n ∧ SH n s
end Go.Proofs.Ytjjchknclpfgiaa
