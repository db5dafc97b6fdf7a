/-
  What follow takes apart: data up to a feed, its four words. Conditions: the data lies in memory; what strconv and bytealg lay is laid.
-/
import Derived.Test.YtheadpemckoljaaGreatDoorJ8
import Derived.Test.YtheadpemckoljaaGreatDoorJ9
import Derived.Shelf.Strings.PiecesUse
import Derived.Lib.Bytes
import Derived.Laws.BytesString
namespace Go.Proofs.YtheadpemckoljaaGreatDoor
open Go.RowKit Go.Extern.Stop Go.Stop Go.Extern Go.Maps Go.WideMaps

theorem splitK_ge (c : UInt8) : ∀ (k : Nat) (l : List UInt8), l.count c ≤ k → Lib.splitK [c] 0 k l = cutL c l
  | 0, l, h => splitK_cut c 0 l (by omega)
  | k + 1, l, h => by
    rcases first_of c l with h1 | ⟨p, r, rfl, hp⟩
    · rw [splitK_none h1, cutL_none h1]
    · rw [splitK_some hp, cutL_some hp, splitK_ge c k r]
      rw [List.count_append, List.count_cons_self] at h
      omega
theorem splitK_len (c : UInt8) : ∀ (k : Nat) (l : List UInt8), (Lib.splitK [c] 0 k l).length ≤ k + 1
  | 0, l => by simp [Lib.splitK]
  | k + 1, l => by
    rcases first_of c l with h1 | ⟨p, r, rfl, hp⟩
    · rw [splitK_none h1]; simp
    · rw [splitK_some hp]
      have := splitK_len c k r
      simp; omega
theorem splitK_short (l : List UInt8) : Lib.splitK [32] 0 (min 4 (l.length + 1) - 1) l = Lib.splitK [32] 0 3 l := by
  by_cases h : 3 ≤ l.length
  · have : min 4 (l.length + 1) - 1 = 3 := by omega
    rw [this]
  · have h1 : l.count 32 ≤ l.length := List.count_le_length
    rw [splitK_ge 32 _ l (by omega), splitK_ge 32 3 l (by omega)]
/-- What strconv and bytealg have laid. -/
def GlobB (w : World) : Prop := Glob w ∧ ∃ m, w.cell? ⟨0, 0, none⟩ = some (.int .i64 m)
theorem GlobB.below {w w' : World} (h : GlobB w) (hb : Below w.heap.size w w') : GlobB w' := ⟨h.1.below hb, h.2.imp fun _ h => (hb.cell (p := ⟨_, 0, none⟩) (World.block_lt_of_cell? w _ h)).trans h⟩
theorem GlobB.tab {w : World} (h : GlobB w) : Tab w := h.1.1
theorem ba_list (x : ByteArray) : x = ⟨x.data.toList.toArray⟩ := by obtain ⟨⟨l⟩⟩ := x; rfl
theorem splitn_any (s : List UInt8) (w : World) (hs : s.length ≤ 20000) (hG : GlobB w) :
    Calls Tryz.prog 51 #[.string ⟨s.toArray⟩, .string ⟨#[32]⟩, .int .i64 4] w fun e w' => (∃ c, e = .returned (.slice (some ⟨w.heap.size, 0, none⟩) (Lib.splitK [32] 0 3 s).length c)) ∧ (∀ (j : Nat) x, (Lib.splitK [32] 0 3 s)[j]? = some x → w'.cell? ⟨w.heap.size, j, none⟩ = some (.string ⟨x.toArray⟩)) ∧ Below w.heap.size w w' := by
  obtain ⟨m, hm⟩ := hG.2
  have hsz : (⟨s.toArray⟩ : ByteArray).size = s.length := by show s.toArray.size = _; rw [List.size_toArray]
  have hd : (⟨s.toArray⟩ : ByteArray).data.toList = s := List.toList_toArray
  refine (Tryz.strings_SplitN ⟨s.toArray⟩ ⟨#[32]⟩ 4 m w (by rw [hsz]; omega) hm (by decide) (by decide) (by decide)).mono ?_
  rintro e w' ⟨rfl, rfl⟩
  have hdat := Lib.splitB_data ⟨#[32]⟩ 0 (min 4 ((⟨s.toArray⟩ : ByteArray).size + 1) - 1) ⟨s.toArray⟩
  rw [hd] at hdat
  have e32 : (⟨#[32]⟩ : ByteArray).data.toList = [32] := rfl
  rw [e32, hsz, splitK_short] at hdat
  rw [hsz]
  refine ⟨⟨_, by rw [← hdat, List.length_map]⟩, fun j x hj => ?_, below_alloc_ (Below.refl _ _) _⟩
  rw [← hdat, List.getElem?_map] at hj
  obtain ⟨y, hy, rfl⟩ := Option.map_eq_some_iff.1 hj
  rw [← ba_list]
  rw [World.cell?_alloc_at _ _ _ _ rfl]
  unfold Lib.cellsOf
  rw [List.getElem?_toArray, List.getElem?_append_left (by rw [List.length_map]; exact (List.getElem?_eq_some_iff.1 hy).1), List.getElem?_map, hy]
  rfl
/-! ### data -/
def nums (d : List UInt8) : List Int := d.map fun x => (x.toNat : Int)
theorem nums_bytes (d : List UInt8) : Lib.bytesOf (nums d) = d := by
  unfold Lib.bytesOf nums
  rw [List.map_map]
  conv => rhs; rw [← List.map_id d]
  refine List.map_congr_left fun x _ => ?_
  simp
theorem nums_len (d : List UInt8) : (nums d).length = d.length := by simp [nums]
theorem nums_rng (d : List UInt8) : ∀ x ∈ nums d, 0 ≤ x ∧ x < 256 := by
  intro x hx
  obtain ⟨y, _, rfl⟩ := List.mem_map.1 hx
  have := y.toNat_lt
  omega
/-- Bytes that lie in memory at a slice's address. -/
structure DtAt (w : World) (p : Option Addr) (c : Nat) (d : List UInt8) : Prop where
  lie : ∀ (j : Nat) x, d[j]? = some x → ∃ b o, p = some ⟨b, o, none⟩ ∧ w.cell? ⟨b, o + j, none⟩ = some (.int .u8 (x.toNat : Int))
  nil : p = none → c = 0
  cap : d.length ≤ c
  max : c ≤ maxLen
theorem DtAt.below {w w' : World} {p : Option Addr} {c : Nat} {d : List UInt8} (h : DtAt w p c d) (hb : Below w.heap.size w w') : DtAt w' p c d :=
  ⟨fun j x hx => by obtain ⟨b, o, h1, h2⟩ := h.lie j x hx; exact ⟨b, o, h1, (hb.cell (p := ⟨b, o + j, none⟩) (World.block_lt_of_cell? w _ h2)).trans h2⟩, h.nil, h.cap, h.max⟩
theorem DtAt.bytesIn {w : World} {p : Option Addr} {c : Nat} {d : List UInt8} (h : DtAt w p c d) : Lib.BytesIn w p d.length (nums d) := by
  intro hn
  obtain ⟨b, o, rfl, _⟩ := h.lie 0 d[0] (List.getElem?_eq_getElem hn)
  refine ⟨b, o, rfl, fun i hi => ?_⟩
  obtain ⟨b', o', e, h2⟩ := h.lie i d[i] (List.getElem?_eq_getElem hi)
  simp only [Option.some.injEq, Addr.mk.injEq, and_true] at e
  obtain ⟨rfl, rfl⟩ := e
  rw [h2]
  simp [nums, List.getD, List.getElem?_eq_getElem hi]
theorem conv_str0 (w : World) (d : List UInt8) : (convert 25 9 (.slice none 0 0)).run Tryz.prog w = .ok (.string ⟨(d.take 0).toArray⟩) w := by
  have e : (convert 25 9 (.slice none 0 0)).run Tryz.prog w = .ok (.string ⟨#[]⟩) w := by kernel_rfl
  exact e
theorem conv_str {w : World} {p : Option Addr} {c : Nat} {d : List UInt8} (h : DtAt w p c d) {m : Nat} (hm : m ≤ d.length) : (convert 25 9 (.slice p m c)).run Tryz.prog w = .ok (.string ⟨(d.take m).toArray⟩) w := by
  cases p with
  | none =>
    have h0 := h.nil rfl
    have h1 := h.cap
    obtain rfl : c = 0 := h0
    obtain rfl : m = 0 := by omega
    exact conv_str0 w d
  | some a =>
    have hl : (d.take m).length = m := by rw [List.length_take]; omega
    have := run_convert_bytes_back (P := Tryz.prog) w 25 9 5 a c (d.take m) Tryz.underlying25 Tryz.underlying5 Tryz.underlying9 (fun j hj => by
      have hjd : j < d.length := by omega
      obtain ⟨b, o, e, h2⟩ := h.lie j d[j] (List.getElem?_eq_getElem hjd)
      obtain rfl := Option.some.inj e
      rw [Go.WideShapes.add_plain, h2]
      simp)
    rw [hl] at this
    exact this
end Go.Proofs.YtheadpemckoljaaGreatDoor
