/-
  A map from ints below 16 to ints, in memory: what it tells, and what is left when one is set. No condition.
-/
import Derived.Test.YtejomfmbhifeaaaDoorYa
import Derived.Maps.Own
import Derived.Maps.OwnSet
import Derived.Maps.Range
import Derived.WalkKit
namespace Go.Proofs.YtejomfmbhifeaaaDoor
open Go.RowKit Go.Extern.Stop Go.Stop Go.Extern Go.Maps

theorem keyI : Keyed Tryd.prog 3 := int_keyed Tryd.underlying3
theorem zeroI (w : World) : (zeroValue 3).run Tryd.prog w = .ok (.int .i64 0) w := by kernel_rfl
/-- A map of credits in block mb. -/
def CrM (w : World) (mb : Nat) (cr : Nat → Int) : Prop := ∃ l : List (Lit × DataW Unit), w.ownsMap Tryd.prog 3 (plainElem Tryd.prog 3) mb 16 (.map l) ∧ (∀ f : Nat, f < 16 → (DataW.map l).atKey (.int .i64 f) (.lit (.int .i64 0)) = .lit (.int .i64 (cr f))) ∧ ∀ p ∈ l, ∃ f : Nat, f < 16 ∧ p.1 = .int .i64 f
theorem wfI {x : Int} (h0 : -9223372036854775808 ≤ x) (h1 : x ≤ 9223372036854775807) : (Lit.int .i64 x).wf = true := by
  have e : wrap64 x = x := by have := IntKind.wrap_i64 x; unfold wrap64; omega
  rw [← e]
  exact wrap64_wf _
theorem keyOfI {f : Nat} (hf : f < 16) : keyOf Tryd.prog 3 (.int .i64 (f : Int)) = some (.int .i64 (f : Int)) := keyOf_int_mk Tryd.underlying3 (wfI (by omega) (by omega))
theorem CrM.lt {w : World} {mb : Nat} {cr : Nat → Int} (h : CrM w mb cr) : mb < w.heap.size := by
  obtain ⟨l, h1, _⟩ := h
  exact h1.lt
theorem CrM.kept {w w' : World} {mb : Nat} {cr : Nat → Int} (h : CrM w mb cr) (hb : w'.heap[mb]? = w.heap[mb]?) : CrM w' mb cr := by
  obtain ⟨l, ⟨es, clock, g1, g2⟩, h2⟩ := h
  exact ⟨l, ⟨es, clock, hb.trans g1, g2⟩, h2⟩
theorem CrM.made (w : World) : CrM (w.alloc (.map #[] 0)) w.heap.size (fun _ => 0) := ⟨[], (World.ownsMap_made w _ _ _).mono (by omega), fun f hf => rfl, by simp⟩
theorem CrM.look {w : World} {mb : Nat} {cr : Nat → Int} (h : CrM w mb cr) {f : Nat} (hf : f < 16) : (Instr.lookup 66 (.map (some mb)) (.int .i64 (f : Int)) false).run Tryd.prog w = .ok (.int .i64 (cr f)) w := by
  obtain ⟨l, h1, h2, _⟩ := h
  obtain ⟨c, hrun, hat, _⟩ := h1.lookup_int keyI Tryd.underlying66 Tryd.underlying3 (zeroI w) (keyOfI hf)
  rw [h2 f hf] at hat
  have : cr f = c := by simpa using hat
  rw [this]
  exact hrun
theorem own_tight {w : World} {P : Program} {k : TypeId} {R : Value → Option (DataW Unit × List MemPlace)} {b n m : Nat} {l : List (Lit × DataW Unit)} (h : w.ownsMap P k R b n (.map l)) (hl : l.length ≤ m) : w.ownsMap P k R b m (.map l) := by
  obtain ⟨es, clock, hb, F, hs, hD⟩ := h
  refine ⟨es, clock, hb, F, ?_, hD⟩
  have e : l = (es.toList.map (Go.WideElems.rg P k R)).foldr DataW.insert [] := by simpa using hD
  rw [e, length_sorted] at hl
  simpa using hl
def kN (p : Lit × DataW Unit) : Nat := match p.1 with
  | .int _ z => z.toNat
  | _ => 0
theorem keys_few {l : List (Lit × DataW Unit)} (hp : l.Pairwise (fun p q => p.1 ≠ q.1)) (hk : ∀ p ∈ l, ∃ f : Nat, f < 16 ∧ p.1 = .int .i64 f) : l.length ≤ 16 := by
  have h1 : (l.map kN).Nodup := by
    rw [List.nodup_iff_pairwise_ne, List.pairwise_map]
    refine List.Pairwise.imp_of_mem ?_ hp
    intro a b ha hb hab e
    obtain ⟨f, _, hf⟩ := hk a ha
    obtain ⟨g, _, hg⟩ := hk b hb
    simp only [kN, hf, hg, Int.toNat_natCast] at e
    subst e
    exact hab (hf.trans hg.symm)
  have h2 := nodup_lt 16 _ h1 (fun x hx => by
    obtain ⟨p, hp', rfl⟩ := List.mem_map.1 hx
    obtain ⟨f, hf1, hf⟩ := hk p hp'
    simp only [kN, hf, Int.toNat_natCast]
    exact hf1)
  simpa using h2
theorem litNe {g f : Nat} (e : g ≠ f) : Lit.int .i64 (g : Int) ≠ Lit.int .i64 (f : Int) := by
  intro h
  simp only [Lit.int.injEq, true_and] at h
  omega
theorem CrM.upd {w : World} {mb : Nat} {cr : Nat → Int} (h : CrM w mb cr) {f : Nat} (hf : f < 16) (x : Int) (h0 : -9223372036854775808 ≤ x) (h1 : x ≤ 9223372036854775807) : ∃ w', (Instr.mapUpdate 66 (.map (some mb)) (.int .i64 (f : Int)) (.int .i64 x)).run Tryd.prog w = .ok () w' ∧ CrM w' mb (updF cr f x) ∧ w.grownBy w' (some mb) := by
  obtain ⟨l, g1, g2, g3⟩ := h
  obtain ⟨w', hrun, hown, hg⟩ := g1.update keyI Tryd.underlying66 (by unfold maxLen; omega) (keyOfI hf) (plainElem_int Tryd.underlying3 (wfI h0 h1))
  refine ⟨w', hrun, ?_, hg⟩
  have hkeys : ∀ p ∈ ChangeMaps.putKey (.int .i64 (f : Int)) (.lit (.int .i64 x)) l, ∃ f : Nat, f < 16 ∧ p.1 = .int .i64 f := by
    intro p hp
    unfold ChangeMaps.putKey at hp
    rcases ChangeMaps.mem_insert_iff.1 hp with rfl | hp
    · exact ⟨f, hf, rfl⟩
    · exact g3 p (List.mem_filter.1 hp).1
  rw [DataW.put_eq] at hown
  obtain ⟨es, he, hpw, _⟩ := hown.entries keyI
  have he' : ChangeMaps.putKey (.int .i64 (f : Int)) (.lit (.int .i64 x)) l = es := by simpa using he
  refine ⟨_, own_tight hown (keys_few (by rw [he']; exact hpw) hkeys), fun g hg' => ?_, hkeys⟩
  rw [← DataW.put_eq]
  by_cases e : g = f
  · subst e
    rw [updF_same]
    exact atKey_put_same g1.isMap (keyI.key (keyOfI hf)) _ _
  · rw [updF_ne e, atKey_put_other (litNe e)]
    exact g2 g hg'
end Go.Proofs.YtejomfmbhifeaaaDoor
