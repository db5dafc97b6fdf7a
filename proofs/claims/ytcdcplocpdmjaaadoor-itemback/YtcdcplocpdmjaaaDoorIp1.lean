/-
  item.readRow: a line's five numbers. Conditions: what strconv lays is laid; the line has 20000 bytes at most.
-/
import Derived.Test.YtcdcplocpdmjaaaDoorIp0
import Derived.Deep.RegionHeld3
import Derived.Shelf.Strings.PiecesUse
import Derived.Lib.Split
namespace Go.Proofs.YtcdcplocpdmjaaaDoor
open Go.RowKit Go.Extern.Stop Go.Stop Go.Extern

/-- What strconv and bytealg have laid. -/
def GlobM (w : World) : Prop := Glob w ∧ ∃ m, w.cell? ⟨2, 0, none⟩ = some (.int .i64 m)
theorem cell_ltN {w : World} {a : Addr} {v : Value} (h : w.cell? a = some v) : a.block < w.heap.size := by
  rcases Nat.lt_or_ge a.block w.heap.size with h1 | h1
  · exact h1
  · simp [World.cell?, Array.getElem?_eq_none h1] at h
theorem GlobM.below {w w' : World} (h : GlobM w) (hb : Below w.heap.size w w') : GlobM w' := ⟨h.1.below hb, h.2.imp fun _ h => (hb.cell (p := ⟨_, 0, none⟩) (cell_ltN h)).trans h⟩
theorem ba_list (x : ByteArray) : x = ⟨x.data.toList.toArray⟩ := by obtain ⟨⟨l⟩⟩ := x; rfl
/-- strings.Split at one byte. -/
theorem words_any (s : ByteArray) (c : UInt8) (w : World) (hs : s.size ≤ 20000) (hG : GlobM w) :
    Calls Tryd.prog 13 #[.string s, .string ⟨#[c]⟩] w fun e w' => e = .returned (.slice (some ⟨w.heap.size, 0, none⟩) (cutL c s.data.toList).length (cutL c s.data.toList).length) ∧ (∀ (j : Nat) x, (cutL c s.data.toList)[j]? = some x → w'.cell? ⟨w.heap.size, 0 + j, none⟩ = some (.string ⟨x.toArray⟩)) ∧ Below w.heap.size w w' := by
  obtain ⟨m, hm⟩ := hG.2
  refine (Tryd.strings_Split s ⟨#[c]⟩ m w (by omega) hm (by show 1 ≤ 1; decide)).mono ?_
  rintro e w' ⟨rfl, rfl⟩
  have hlen := Lib.splitB_all ⟨#[c]⟩ (by show 1 ≤ 1; decide) 0 _ s rfl
  have hdat := Lib.splitB_data ⟨#[c]⟩ 0 (Lib.countB s ⟨#[c]⟩) s
  have hcut : (Lib.splitB ⟨#[c]⟩ 0 (Lib.countB s ⟨#[c]⟩) s).map (·.data.toList) = cutL c s.data.toList := by
    rw [hdat]
    have e : Lib.countB s ⟨#[c]⟩ = Lib.count s.data.toList [c] := rfl
    rw [e]
    exact split_cut _ _
  have hl : (cutL c s.data.toList).length = Lib.countB s ⟨#[c]⟩ + 1 := by rw [← hcut, List.length_map, hlen]
  refine ⟨by rw [hl], fun j x hj => ?_, below_alloc_ (Below.refl _ _) _⟩
  rw [← hcut, List.getElem?_map] at hj
  cases hq : (Lib.splitB ⟨#[c]⟩ 0 (Lib.countB s ⟨#[c]⟩) s)[j]? with
  | none => rw [hq] at hj; cases hj
  | some y =>
    rw [hq] at hj
    obtain rfl := Option.some.inj hj
    rw [← ba_list]
    exact Lib.pieces_cell w _ _ j y hq
/-- The words in block B, the array in block w.heap.size + 1: i numbers are read. -/
structure RwS (w : World) (B : Nat) (xs : List (List UInt8)) (n0 n1 n2 n3 n4 : Int) (i : Nat) (wx : World) : Prop where
  arr : wx.heap[w.heap.size + 1]? = some (.cells #[.int .i64 (if 0 < i then n0 else 0), .int .i64 (if 1 < i then n1 else 0), .int .i64 (if 2 < i then n2 else 0), .int .i64 (if 3 < i then n3 else 0), .int .i64 (if 4 < i then n4 else 0)] 51 (0, 0))
  res : wx.heap[w.heap.size]? = some (.cells #[.int .i64 0, .int .i64 0, .int .i64 0, .int .i64 0, .int .i64 0] 51 (0, 0))
  wds : ∀ (j : Nat) x, xs[j]? = some x → wx.cell? ⟨B, 0 + j, none⟩ = some (.string ⟨x.toArray⟩)
  far : w.heap.size + 1 < B
  bel : Below w.heap.size w wx
theorem RwS.below {w wx w2 : World} {B : Nat} {xs : List (List UInt8)} {n0 n1 n2 n3 n4 : Int} {i : Nat} (h : RwS w B xs n0 n1 n2 n3 n4 i wx) (hb : Below wx.heap.size wx w2) : RwS w B xs n0 n1 n2 n3 n4 i w2 :=
  ⟨(hb.block _ (lt_of_block h.arr)).trans h.arr, (hb.block _ (lt_of_block h.res)).trans h.res, fun j x hj => (hb.cell (p := ⟨B, 0 + j, none⟩) (cell_ltN (h.wds j x hj))).trans (h.wds j x hj), h.far, h.bel.trans (hb.mono h.bel.size)⟩
theorem RwS.cells {w wx : World} {B : Nat} {xs : List (List UInt8)} {n0 n1 n2 n3 n4 : Int} {i : Nat} (h : RwS w B xs n0 n1 n2 n3 n4 i wx) : (∀ j, j < 5 → wx.frozen? ⟨w.heap.size + 1, j, none⟩ = false) ∧ (∀ j, j < 5 → (wx.cell? ⟨w.heap.size + 1, j, none⟩).isSome = true) := by
  have hb := h.arr
  refine ⟨fun j hj => by simp [World.frozen?, hb], fun j hj => ?_⟩
  match j, hj with
  | 0, _ => simp [World.cell?, hb]
  | 1, _ => simp [World.cell?, hb]
  | 2, _ => simp [World.cell?, hb]
  | 3, _ => simp [World.cell?, hb]
  | 4, _ => simp [World.cell?, hb]
theorem RwS.set {w wx : World} {B : Nat} {xs : List (List UInt8)} {n0 n1 n2 n3 n4 : Int} {i : Nat} (h : RwS w B xs n0 n1 n2 n3 n4 i wx) (hi : i < 5) (v : Int) (hv : v = [n0, n1, n2, n3, n4].getD i 0) : RwS w B xs n0 n1 n2 n3 n4 (i + 1) (wx.setCell ⟨w.heap.size + 1, i, none⟩ (.int .i64 v)) := by
  have hf := h.far
  refine ⟨?_, (heap_setCell_other _ ⟨w.heap.size + 1, i, none⟩ w.heap.size _ (by show w.heap.size ≠ w.heap.size + 1; omega)).trans h.res, fun j x hj => ?_, h.far, h.bel.setCell (by show w.heap.size ≤ w.heap.size + 1; omega) _⟩
  · rw [heap_setCell_here h.arr]
    subst hv
    match i, hi with
    | 0, _ => simp
    | 1, _ => simp
    | 2, _ => simp
    | 3, _ => simp
    | 4, _ => simp
  · rw [← h.wds j x hj]
    exact World.cell?_of_block (heap_setCell_other _ ⟨w.heap.size + 1, i, none⟩ B _ (by show B ≠ w.heap.size + 1; omega))
end Go.Proofs.YtcdcplocpdmjaaaDoor
