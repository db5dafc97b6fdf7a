/-
  The fact about filters that the laws ask for: a filter and its other side. Conditions: what the program lays is laid.
-/
import Derived.Test.YtpaojmfgpeldeaaDoorFl8
import Derived.Test.YtpaojmfgpeldeaaDoorFla
import Derived.Test.YtpaojmfgpeldeaaDoorFlf
namespace Go.Proofs.YtpaojmfgpeldeaaDoor
open Go.RowKit Go.Extern.Stop Go.Stop Go.Extern

/-- A filter's value, as Meant is asked of it, whatever the packet. -/
def MeansAll (w : World) (v : Value) (d : Nat) (t : Ft) : Prop := ∃ (ty : TypeId) (rv : Value) (f : FuncId) (rc : Value), v = .iface ty rv ∧ (∀ W : World, (Go.method 259 ty rv "Meant").run Tryd.prog W = .ok (f, rc) W) ∧ (∀ (args : Array Value) (W : World), (callFunc f args).run Tryd.prog W = .ok (.enter f args) W) ∧
  ∀ (x : It) w1, Below w.heap.size w w1 → Calls Tryd.prog f #[rc, .agg #[.int .i64 x.a, .int .i64 x.l, .int .i64 x.f, .int .i64 x.b, .int .i64 x.m]] w1 fun e w' => e = .returned (.bool (means x d t)) ∧ Below w1.heap.size w1 w'
theorem means_all {w : World} {S : Nat → Prop} {d : Nat} {t : Ft} {v : Value} (h : FAt w S d t v) (hn : nd d t ≤ 100000) : MeansAll w v d t := by
  obtain ⟨ty, rv, f, rc, rfl, hm, he, _⟩ := means_at ⟨0, 0, 0, 0, 0⟩ w S d t v h hn
  refine ⟨ty, rv, f, rc, rfl, hm, he, fun x w1 hb => ?_⟩
  obtain ⟨ty', rv', f', rc', e, hm', he', hc⟩ := means_at x w S d t _ h hn
  injection e with e1 e2
  subst e1 e2
  have h1 := (hm w).symm.trans (hm' w)
  injection h1 with h2 h3
  injection h2 with h4 h5
  subst h4 h5
  exact hc w1 hb
def textM : ByteArray := ⟨#[110, 111, 116, 32, 40, 102, 108, 111, 119, 32, 50, 32, 97, 110, 100, 32, 108, 101, 110, 32, 53, 46, 46, 57, 41]⟩
def ftM : Ft := notT ⟨4, 0, 0, 0, [⟨1, 2, 2, 2, []⟩, ⟨1, 1, 5, 9, []⟩]⟩
theorem parseM : parseF textM.data.toList = some ftM := by kernel_rfl
set_option maxHeartbeats 2000000 in
theorem meant_true (w : World) (hG : GlobF w) : Calls Tryd.prog 5 #[] w fun e w' => e = .returned (.bool true) ∧ Below w.heap.size w w' := by
  have HP : Hid (Calls Tryd.prog 4 #[.string ⟨#[110, 111, 116, 32, 40, 102, 108, 111, 119, 32, 50, 32, 97, 110, 100, 32, 108, 101, 110, 32, 53, 46, 46, 57, 41]⟩] w fun e w' => Below w.heap.size w w' ∧ ∃ fv, e = .returned (.tuple #[fv, .nilIface]) ∧ FAt w' (fun k => w.heap.size ≤ k) 20 ftM fv) := by
    refine (fparse_some textM w hG).mono ?_
    rintro e w' ⟨hb, ⟨t, fv, h1, h2, h3⟩ | ⟨h1, _⟩⟩
    · rw [parseM] at h1
      obtain rfl := Option.some.inj h1
      exact ⟨hb, fv, h2, h3⟩
    · rw [parseM] at h1; cases h1
  clear hG
  go_enter Tryd.func5, Tryd.ntmps5
  go_wp2_with fail
  refine HP.out.mono ?_
  rintro e w1 ⟨hb1, fv, rfl, hf⟩
  obtain ⟨ty, rv, f, rc, rfl, hm, he, hc⟩ := means_all hf (by decide)
  have H1 : Hid (Calls Tryd.prog f #[rc, .agg #[.int .i64 0, .int .i64 4, .int .i64 2, .int .i64 0, .int .i64 0]] w1 fun e w' => e = .returned (.bool true) ∧ Below w1.heap.size w1 w') := hc ⟨0, 4, 2, 0, 0⟩ w1 (Below.refl _ _)
  have H2 : Hid (∀ w2, Below w1.heap.size w1 w2 → Calls Tryd.prog f #[rc, .agg #[.int .i64 0, .int .i64 9, .int .i64 2, .int .i64 0, .int .i64 0]] w2 fun e w' => e = .returned (.bool false) ∧ Below w2.heap.size w2 w') := fun w2 h => hc ⟨0, 9, 2, 0, 0⟩ w2 h
  clear hc hf
  go_wp2_with fail
  refine H1.out.mono ?_
  rintro e w2 ⟨rfl, hb2⟩
  go_wp2_with fail
  refine (H2.out _ hb2).mono ?_
  rintro e w3 ⟨rfl, hb3⟩
  go_wp2
  go_ret
  have h2 := hb1.trans (hb2.mono hb1.size)
  exact ⟨rfl, h2.trans (hb3.mono h2.size)⟩
end Go.Proofs.YtpaojmfgpeldeaaDoor
