/-
  book.Open: the book of the longest beginning that is whole lines. Conditions: the data lies in memory; what strconv and bytealg lay is laid.
-/
import Derived.Test.YtheadpemckoljaaGreatDoorJb
import Derived.Deep.LoopGhost
namespace Go.Proofs.YtheadpemckoljaaGreatDoor
open Go.RowKit Go.Extern.Stop Go.Stop Go.Extern Go.Maps Go.WideMaps

/-- A slice's address behind its first N bytes. -/
def dropP (a : Option Addr) (c N : Nat) : Option Addr := if c = N then a else a.map (·.add N)
theorem slice_from (a : Option Addr) (n c N : Nat) (h : N ≤ n) (w : World) : (Instr.slice 25 (.slice a n c) (some (.int .i64 (N : Int))) none none).run Tryz.prog w = .ok (.slice (dropP a c N) (n - N) (c - N)) w := by
  obtain ⟨i, hi, hz, hs, hy⟩ := info3 infoByte
  simp [Instr.slice, run_underlying Tryz.underlying25, Instr.sliceBounds, Instr.sliceBound, asIntOf, sizeOf, typeInfo, hi, hs, dropP]
  intro hh
  omega
theorem DtAt.drop {w : World} {p : Option Addr} {c : Nat} {d : List UInt8} (h : DtAt w p c d) {N : Nat} (hN : N ≤ d.length) : DtAt w (dropP p c N) (c - N) (d.drop N) := by
  have hc := h.cap
  have hm := h.max
  refine ⟨fun j x hx => ?_, fun e => ?_, by rw [List.length_drop]; omega, by omega⟩
  · rw [List.getElem?_drop] at hx
    obtain ⟨b, o, rfl, h2⟩ := h.lie _ x hx
    have hlt := (List.getElem?_eq_some_iff.1 hx).1
    refine ⟨b, o + N, ?_, by rw [Nat.add_assoc]; exact h2⟩
    unfold dropP
    rw [if_neg (by omega)]
    simp [Go.WideShapes.add_plain]
  · unfold dropP at e
    split at e
    · omega
    · cases p with
      | none => have := h.nil rfl; omega
      | some a => simp at e
theorem bks_new (b : Nat) : ∀ k, BkS b none (.slice none 0 0) k → b ≤ k := by
  rintro k (rfl | hk | hk)
  · exact Nat.le_refl _
  · cases hk
  · simp [Value.ownBlock] at hk
theorem openF_more {d : List UInt8} : ∀ (f : Nat) (l : List Ent), 500 < f + l.length → openF (f + 1) l d = openF f l d
  | 0, l, h => by
    have : folL l.length (d.drop (jour l).length) = none := by
      cases hf : folL l.length (d.drop (jour l).length) with
      | none => rfl
      | some e => have := (folL_some hf).2.1; omega
    simp only [openF, this]
  | f + 1, l, h => by
    rw [openF, openF]
    cases hf : folL l.length (d.drop (jour l).length) with
    | none => rfl
    | some e =>
      simp only []
      exact openF_more f (l ++ [e]) (by simp; omega)
theorem openL_step {d : List UInt8} {l : List Ent} {e : Ent} {f : Nat} (hf : folL l.length (d.drop (jour l).length) = some e) : openF (f + 1) l d = openF f (l ++ [e]) d := by
  rw [openF, hf]
theorem openL_end {d : List UInt8} {l : List Ent} {f : Nat} (hf : folL l.length (d.drop (jour l).length) = none) : openF (f + 1) l d = l := by
  rw [openF, hf]
set_option maxRecDepth 100000 in
set_option maxHeartbeats 4000000 in
theorem open_any (p : Option Addr) (c : Nat) (d : List UInt8) (w : World) (hG : GlobB w) (hd : DtAt w p c d) (hdl : d.length ≤ 20000) :
    Calls Tryz.prog 21 #[.slice p d.length c] w fun e w' => ∃ cm jv, e = .returned (.tuple #[.pointer (some ⟨w.heap.size, 0, none⟩), .int .i64 ((jour (openL d)).length : Nat)]) ∧ BkAt w' w.heap.size cm jv (jour (openL d)).length (openL d) ∧ (∀ k, BkS w.heap.size cm jv k → w.heap.size ≤ k) ∧ OpnS d (openL d) ∧ Below w.heap.size w w' := by
  have HG : Hid (∀ w', Below w.heap.size w w' → GlobB w') := fun w' hb => hG.below hb
  have HD : Hid (∀ w', Below w.heap.size w w' → DtAt w' p c d) := fun w' hb => hd.below hb
  have HN0 : Hid (BkAt (w.alloc (.cells #[.map none, .slice none 0 0, .int .i64 0, .int .i64 0] 28)) w.heap.size none (.slice none 0 0) 0 []) := BkAt.new w
  have hcap := hd.cap
  clear hG hd
  go_enter Tryz.func21, Tryz.ntmps21
  go_wp2
  go_loopg [] 500 (fun g wx => ∃ (l : List Ent) (cm : Option Nat) (jv : Value), l.length + g = 500 ∧ OpnS d l ∧ openF (501 - l.length) l d = openL d ∧ BkAt wx w.heap.size cm jv 0 l ∧ (∀ k, BkS w.heap.size cm jv k → w.heap.size ≤ k) ∧ Below w.heap.size w wx)
  case atStart => exact ⟨[], none, .slice none 0 0, by simp, OpnS.nil d, rfl, HN0.out, bks_new _, below_alloc_ (Below.refl _ _) _⟩
  case round =>
    obtain ⟨l, cm, jv, hlg, hO, hF, hB, hS, hb⟩ := hrel
    obtain ⟨jx, jc, rfl⟩ := owns_slice hB.jr
    obtain ⟨⟨c0, c1, c2, c3⟩, -⟩ := bk_cells hB.blk
    have hjl := hO.len
    have hsl := slice_from p d.length c (jour l).length hjl wr
    have hlen : (d.drop (jour l).length).length = d.length - (jour l).length := List.length_drop
    have HFO := follow_any w.heap.size cm _ 0 l (dropP p c (jour l).length) (c - (jour l).length) (d.drop (jour l).length) wr hB (HG.out wr hb) ((HD.out wr hb).drop hjl) (by rw [hlen]; omega)
    rw [hlen] at HFO
    have HO : Hid (OpnS d l) := hO
    have HF : Hid (openF (501 - l.length) l d = openL d) := hF
    have HBK : Hid (BkAt wr w.heap.size cm (.slice jx (jour l).length jc) 0 l) := hB
    have HS : Hid (∀ k, BkS w.heap.size cm (.slice jx (jour l).length jc) k → w.heap.size ≤ k) := hS
    have HB : Hid (Below w.heap.size w wr) := hb
    have hfw := hO.few
    clear hO hF hB hS hb
    cases hf : folL l.length (d.drop (jour l).length) with
    | some e =>
      have HFE : Hid (folL l.length (d.drop (jour l).length) = some e) := hf
      have h5 : l.length < 500 := (folL_some hf).2.1
      rw [hf] at HFO
      clear hf
      go_wp2_with fail
      refine HFO.mono ?_
      rintro e1 w1 ⟨rfl, cm', jv', h1, h2, h3⟩
      go_wp2
      go_roundg (gk - 1)
      case measure => omega
      case rel =>
        refine ⟨l ++ [e], cm', jv', by simp; omega, HO.out.step HFE.out, ?_, h1, fun k hk => ?_, ?_⟩
        · rw [← HF.out]
          have e2 : 501 - l.length = (501 - (l ++ [e]).length) + 1 := by simp; omega
          rw [e2]
          exact (openL_step HFE.out).symm
        · rcases h3 k hk with h4 | h4
          · exact HS.out k h4
          · have := HB.out.size; omega
        · exact HB.out.trans (h2.below HB.out.size (fun k hk => HS.out k hk))
    | none =>
      have HFE : Hid (openL d = l) := by
        show _ = _
        rw [← HF.out]
        have e2 : 501 - l.length = (500 - l.length) + 1 := by omega
        rw [e2]
        exact openL_end hf
      rw [hf] at HFO
      clear hf
      go_wp2_with fail
      refine HFO.mono ?_
      rintro e1 w1 ⟨rfl, hb1⟩
      have HB1 : Hid (Below w.heap.size w w1) := HB.out.trans (hb1.mono HB.out.size)
      have HSY := sync_any w.heap.size cm _ 0 l w1 (HBK.out.below hb1)
      clear c0 c1 c2 c3 hsl hb1
      go_wp2_with fail
      refine HSY.mono ?_
      rintro e2 w2 ⟨rfl, h1, h2⟩
      obtain ⟨⟨c0, c1, c2, c3⟩, -⟩ := bk_cells h1.blk
      have HR : Hid (BkAt w2 w.heap.size cm (.slice jx (jour l).length jc) (jour l).length l) := h1
      have HO2 : Hid (Below w.heap.size w w2) := HB1.out.trans (h2.below HB1.out.size (fun k hk => HS.out k hk))
      clear h1 h2
      go_wp2
      go_quiet (fail)
      go_wp2
      go_ret2
      rw [HFE.out]
      exact ⟨cm, _, rfl, HR.out.below (below_drewNj (Below.refl _ _) _), HS.out, HO.out, below_drewNj HO2.out _⟩
end Go.Proofs.YtheadpemckoljaaGreatDoor
