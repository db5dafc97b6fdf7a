/-
  Strings with their lengths' bound, and a byte, read off an argument. Nothing is claimed here by itself.
-/
import Derived.Test.YtheadpemckoljaaGreatDoorSvo
namespace Go.Proofs.YtheadpemckoljaaGreatDoor
open Go.ChangeShapes Go.WideShapes Go.ChangeAt Go.RowKit

set_option maxRecDepth 100000 in
/-- Strings, read off an argument, with their lengths' bound. -/
theorem open_strM {H : Type} {enc : TypeId × Value → H} {W : World} {b0 base : Nat} {spare : Nat → Bool} {held : Bool} {v : Value} {d : DataW H} {p : List MemPlace} {r : Reach}
    (hv : Value.okWide Tryz.prog W r b0 22 v) (h : DataW.Trod enc Tryz.prog W base spare held 22 v d p) :
    ∃ (x : Option Addr) (cap : Nat) (l : List (List UInt8)), v = .slice x l.length cap ∧ SlV W x (l.map encStr) ∧ ∀ s ∈ l, s.length ≤ maxLen := by
  obtain ⟨x, cap, l, h1, h2⟩ := open_sl (fun s : {s : List UInt8 // s.length ≤ maxLen} => encStr s.1) Tryz.underlying22 cellsStr (fun n u y hy => by
    obtain ⟨s, e, _, hs⟩ := DataW.trod_string Tryz.underlying9 hy
    simp only [List.cons.injEq, and_true] at e
    exact ⟨⟨s.data.toList, by simpa using hs⟩, by rw [e]⟩) hv h
  refine ⟨x, cap, l.map (fun s => s.1), by simpa using h1, by simpa using h2, fun s hs => ?_⟩
  obtain ⟨y, _, rfl⟩ := List.mem_map.1 hs
  exact y.2
set_option maxRecDepth 100000 in
/-- A byte, read off an argument. -/
theorem open_byte {H : Type} {enc : TypeId × Value → H} {W : World} {b0 base : Nat} {spare : Nat → Bool} {held : Bool} {v : Value} {d : DataW H} {p : List MemPlace} {r : Reach}
    (hv : Value.okWide Tryz.prog W r b0 5 v) (h : DataW.Trod enc Tryz.prog W base spare held 5 v d p) : ∃ x : UInt8, v = .int .u8 (x.toNat : Int) := by
  have h' := h
  obtain ⟨n, rfl, _⟩ := open_int Tryz.underlying5 hv h'
  obtain ⟨fuel, hf⟩ := h
  obtain ⟨u, e, _, hw⟩ := DataW.trod_int Tryz.underlying5 hf
  simp [Value.cells] at e
  subst e
  have hr : IntKind.u8.min ≤ n ∧ n ≤ IntKind.u8.max := by simpa [Lit.wf] using hw
  rw [show IntKind.u8.min = 0 by decide, show IntKind.u8.max = 255 by decide] at hr
  refine ⟨UInt8.ofNat n.toNat, ?_⟩
  have e : ((UInt8.ofNat n.toNat).toNat : Int) = n := by
    rw [UInt8.toNat_ofNat']
    omega
  rw [e]
end Go.Proofs.YtheadpemckoljaaGreatDoor
