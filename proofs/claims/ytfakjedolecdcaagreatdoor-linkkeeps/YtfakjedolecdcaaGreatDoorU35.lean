/-
  strings.IndexAny at any text, where the signs that are looked for are ASCII: the shelf has it for ASCII texts, and for texts of more than 8 bytes. Conditions: two signs to look for at least, a hundred at most.
  package signs: a text cut into its signs, in new memory. Conditions: the bytes that are signs of their own are below 128.
-/
import Derived.Test.YtfakjedolecdcaaGreatDoorShelf
import Derived.Laws.RangeAny
import Derived.Laws.Runes
import Derived.Lib.DecodeN
import Derived.Lib.OthersKept
import Derived.Lib.IndexBytes
import Derived.Lib.IndexLaws
import Derived.BigQuiet
import Derived.Scope
import Derived.Test.YtfakjedolecdcaaGreatDoorSg
import Derived.Laws.ResultCell
namespace Go.Proofs.YtfakjedolecdcaaGreatDoor
open Go.RowKit Go.Extern.Stop Go.Stop Go.Extern

def ascii (l : List UInt8) : Prop := ∀ (j : Nat) (b : UInt8), l[j]? = some b → b.toNat < 128
theorem below_iter (w : World) (s : ByteArray) (i : Nat) : Below w.heap.size w (w.iter s i) := below_alloc_ (Below.refl _ _) _
theorem below_iterAt (w : World) (n : Nat) (s : ByteArray) (i : Nat) : Below n w (w.iterAt n s i) := by
  refine ⟨rfl, rfl, rfl, by simp [World.iterAt], fun b hb => ?_⟩
  simp only [World.iterAt]
  rw [Array.getElem?_setIfInBounds_ne (by omega)]
/-- A byte that no text of ASCII bytes has. -/
theorem indexByte_high {l : List UInt8} {c : UInt8} (h : ascii l) (hc : 128 ≤ c.toNat) : Lib.indexByte l c = -1 := by
  rcases Int.lt_or_le (Lib.indexByte l c) 0 with h0 | h0
  · have := Lib.indexByte_ge l c; omega
  · obtain ⟨o, ho⟩ : ∃ o : Nat, Lib.indexByte l c = o := ⟨_, (Int.toNat_of_nonneg h0).symm⟩
    have := h o c (Lib.indexByte_some ho).1
    omega
theorem ascii_extract {c : ByteArray} (h : ascii c.data.toList) (a b : Nat) : ascii (c.extract a b).data.toList := by
  intro j x hx
  have e : (c.extract a b).data.toList = (c.data.toList.drop a).take (b - a) := by
    simp [ByteArray.data_extract, Array.toList_extract, List.extract]
  rw [e] at hx
  have h1 : ((c.data.toList.drop a).take (b - a))[j]? = some x := hx
  rw [List.getElem?_take] at h1
  split at h1
  · rw [List.getElem?_drop] at h1; exact h _ _ h1
  · cases h1
theorem decode_valid (s : ByteArray) (i : Nat) : Utf8.valid ((Utf8.decode s i).1 : Nat) = true := by
  rw [Lib.decode_at]
  have h0 := (s.get! i).toNat_lt; have h1 := (s.get! (i + 1)).toNat_lt; have h2 := (s.get! (i + 2)).toNat_lt; have h3 := (s.get! (i + 3)).toNat_lt
  unfold Lib.decodeN Utf8.valid
  repeat' split
  all_goals simp
  all_goals omega
/-- What a step over a text passes by is no ASCII byte, but for one that is told. -/
theorem decode_step (s : ByteArray) (i : Nat) (hi : i < s.size) (ha : 128 ≤ (s[i]'hi).toNat) : 128 ≤ (Utf8.decode s i).1 ∧ 1 ≤ (Utf8.decode s i).2 ∧ i + (Utf8.decode s i).2 ≤ s.size ∧ ∀ j b, i ≤ j → j < i + (Utf8.decode s i).2 → s.data.toList[j]? = some b → 128 ≤ b.toNat := by
  have hg : ∀ j, j < s.size → s.data.toList[j]? = some (s.get! j) := by
    intro j hj
    rw [Lib.data_getElem? s j hj]
    congr 1
    simp [ByteArray.get!, getElem!_pos, hj]
    rfl
  have hd := decode_high s i hi ha
  refine ⟨hd.1, hd.2, ?_⟩
  have e0 : (s.get! i).toNat = (s[i]'hi).toNat := by
    have := Lib.data_getElem? s i hi
    rw [hg i hi] at this
    rw [Option.some.inj this]
  have key : (Utf8.decode s i).2 ≤ s.size - i ∧ ∀ k, 1 ≤ k → k < (Utf8.decode s i).2 → 128 ≤ (s.get! (i + k)).toNat := by
    rw [Lib.decode_at]
    unfold Lib.decodeN
    rw [if_neg (by omega)]
    repeat' split
    all_goals refine ⟨by simp only []; omega, fun k h1 h2 => ?_⟩
    all_goals simp only [] at h2
    · obtain rfl : k = 1 := by omega
      omega
    · omega
    · rcases (by omega : k = 1 ∨ k = 2) with rfl | rfl <;> omega
    · omega
    · rcases (by omega : k = 1 ∨ k = 2 ∨ k = 3) with rfl | rfl | rfl <;> omega
    · omega
    · omega
  refine ⟨by omega, ?_⟩
  intro j b hj1 hj2 hb
  have hjs : j < s.size := by omega
  rw [hg j hjs] at hb
  obtain rfl := Option.some.inj hb
  rcases Nat.lt_or_ge i j with h | h
  · have := key.2 (j - i) (by omega) (by omega)
    rwa [show i + (j - i) = j from by omega] at this
  · obtain rfl : j = i := by omega
    rw [e0]; exact ha
set_option maxRecDepth 100000 in
set_option maxHeartbeats 4000000 in
theorem indexRune_high (c : ByteArray) (r : Int) (w : World) (h1 : 128 ≤ r) (hv : Utf8.valid r = true) (hc : ascii c.data.toList) :
    Calls Tryz.prog 58 #[.string c, .int .i32 r] w fun e w' => e = .returned (.int .i64 (-1)) ∧ Below w.heap.size w w' := by
  have HA : Hid (ascii c.data.toList) := hc
  have hr2 : r ≤ 1114111 := by unfold Utf8.valid at hv; simp at hv; omega
  have o1 : decide (r < 128) = false := by simp; omega
  have o0 : decide (0 ≤ r) = true := by simp; omega
  clear hc
  by_cases he : r = 65533
  · have o2 : (r == 65533) = true := by simpa using he
    clear he hv
    go_enter Tryz.func58, Tryz.ntmps58
    go_wp2_with fail
    go_loopg [5, 6] c.size (fun g _ _ wx => ∃ i : Nat, i + g = c.size ∧ wx = w.iter c i)
    case atStart => exact ⟨0, by omega, rfl⟩
    case round =>
      obtain ⟨i, hig, rfl⟩ := hrel
      cases gk with
      | zero =>
        obtain rfl : i = c.size := by omega
        have hnx := run_next_end (P := Tryz.prog) w c c.size
        go_wp2
        go_ret
        exact ⟨rfl, below_iter _ _ _⟩
      | succ g =>
        have hi : i < c.size := by omega
        have hxl : c.data.toList[i]? = some (c[i]'hi) := Lib.data_getElem? c i hi
        have hx := HA.out i _ hxl
        have hnx := fun ty => run_next_ascii (P := Tryz.prog) w c i ty hi hx
        obtain ⟨x, hxe⟩ : ∃ x : UInt8, c[i]'hi = x := ⟨_, rfl⟩
        rw [hxe] at hnx hx
        have o3 : (((x.toNat : Nat) : Int) == 65533) = false := by simp; omega
        clear hxl hxe
        go_wp2
        go_roundg g
        case measure => omega
        case rel => exact ⟨i + 1, by omega, rfl⟩
  · have o2 : (r == 65533) = false := by simpa using he
    have hvr : Lib.validRune r = true := by unfold Lib.validRune; unfold Utf8.valid at hv; simp at hv ⊢; omega
    obtain ⟨e1, e2, e3⟩ := encode_facts r hv h1
    have HVR : Hid (∀ w1 : World, Calls Tryz.prog 75 #[.int .i32 r] w1 fun e w' => e = .returned (.bool true) ∧ w' = w1) := fun w1 => by
      have := Tryz.utf8_ValidRune r w1
      rwa [hvr] at this
    obtain ⟨rs, hrs⟩ : ∃ rs : ByteArray, Utf8.encode r = rs := ⟨_, rfl⟩
    rw [hrs] at e1 e2 e3
    have hlt : rs.size - 1 < rs.size := by omega
    have e4 := e3 hlt
    obtain ⟨lb, hlb⟩ : ∃ lb : UInt8, rs[rs.size - 1]'hlt = lb := ⟨_, rfl⟩
    rw [hlb] at e4
    have hcv : ∀ w, (convert 21 9 (.int .i32 r)).run Tryz.prog w = .ok (.string rs) w := fun w => by
      rw [run_convert_int_string _ _ _ _ _ (by rw [Tryz.underlying21]; rfl) Tryz.underlying9, hrs]
    obtain ⟨m, hm⟩ : ∃ m, rs.size = m + 1 := ⟨rs.size - 1, by omega⟩
    have hm2 : ((rs.size : Int) - 1) = (m : Int) := by omega
    clear he hv hvr e3
    go_enter Tryz.func58, Tryz.ntmps58
    go_wp2_with (go_at_call 75; refine (HVR.out _).mono ?_; rintro e w1 ⟨rfl, hw⟩; obtain rfl : w = w1 := hw.symm)
    refine wp_scope_straight ?_
    go_wp2_with fail
    go_loopg [9, 10] 0 (fun _ v9 _ wx => v9 = .int .i64 m ∧ wx = w)
    case atStart => exact ⟨rfl, rfl⟩
    case round =>
      obtain ⟨rfl, rfl⟩ := hrel
      by_cases hlt2 : m < c.size
      · have d1 : decide ((m : Int) < (c.size : Int)) = true := by simp; omega
        have hm3 : m < rs.size := by omega
        obtain ⟨x, hx⟩ : ∃ x : UInt8, c[m]'hlt2 = x := ⟨_, rfl⟩
        have hx1 : x.toNat < 128 := by rw [← hx]; exact HA.out m _ (Lib.data_getElem? c m hlt2)
        have hl2 : rs[m]'hm3 = lb := by rw [← hlb]; congr 1; omega
        have o3 : (((x.toNat : Nat) : Int) != ((lb.toNat : Nat) : Int)) = true := by simp; omega
        go_wp2
        refine wp_scope_straight ?_
        go_wp2
        go_quiet (fail)
        go_wp2
        have HIB : Hid (∀ (a b : Nat) (w1 : World), Calls Tryz.prog 74 #[.string (c.extract a b), .int .u8 (lb.toNat : Int)] w1 fun e w' => e = .returned (.int .i64 (-1)) ∧ w' = w1) := fun a b w1 => by
          have h1 := Tryz.strings_IndexByte (c.extract a b) (lb.toNat : Int) w1
          rw [show ((lb.toNat : Int)).toNat.toUInt8 = lb from by simp, indexByte_high (ascii_extract HA.out a b) e4] at h1
          exact h1
        have ew : IntKind.i64.wrap ((m : Int) + 1) = (m : Int) + 1 := by rw [IntKind.wrap_i64]; omega
        have hix : ∀ w, (Instr.index 9 (.string rs) (.int .i64 (m : Int))).run Tryz.prog w = .ok (.int .u8 (lb.toNat : Int)) w := fun w => by
          rw [run_index_string _ _ _ _ _ Tryz.underlying9, dif_pos ⟨by omega, by omega⟩]
          simp only [Int.toNat_natCast, hl2]
        have hsl : ∀ w, (Instr.slice 9 (.string c) (some (.int .i64 ((m : Int) + 1))) none none).run Tryz.prog w = .ok (.string (c.extract ((m : Int) + 1).toNat c.size)) w := fun w => by
          rw [run_slice_string_from_if _ _ _ _ _ Tryz.underlying9, if_pos (by omega)]
        go_quiet ((go_at_call 74; refine (HIB.out (m + 1) c.size _).mono ?_; rintro e w2 ⟨rfl, rfl⟩; exact ⟨rfl, _, rfl⟩))
        go_wp2
        rw [Exit.noGoto_ret]
        simp only [Exit.inBlock, Exit.then]
        rw [Exit.noGoto_ret]
        go_ret
        exact ⟨rfl, (Below.refl _ _).trans ⟨rfl, rfl, rfl, Nat.le_refl _, fun _ _ => rfl⟩⟩
      · have d1 : decide ((m : Int) < (c.size : Int)) = false := by simp; omega
        go_wp2
        rw [Exit.noGoto_ret]
        go_ret
        exact ⟨rfl, Below.refl _ _⟩
set_option maxRecDepth 100000 in
set_option maxHeartbeats 4000000 in
/-- A text of no more than eight bytes. -/
theorem indexAny_short (s c : ByteArray) (w : World) (h2 : 2 ≤ c.size) (hc : ascii c.data.toList) (h8 : s.size ≤ 8) :
    Calls Tryz.prog 44 #[.string s, .string c] w fun e w' => e = .returned (.int .i64 (Lib.indexAny s.data.toList c.data.toList)) ∧ Below w.heap.size w w' := by
  have HA : Hid (ascii c.data.toList) := hc
  have hemp : c.toList.isEmpty = false := by
    rw [Lib.toList_data]
    cases h : c.data.toList with
    | nil => have := Lib.size_eq c; rw [h, List.length_nil] at this; omega
    | cons _ _ => rfl
  have hn1 : ((c.size : Int) == 1) = false := beq_eq_false_iff_ne.2 (by omega)
  have HSU : Hid (∀ w1 : World, Calls Tryz.prog 59 #[.int .i64 s.size] w1 fun e w' => e = .returned (.bool false) ∧ w' = w1) := fun w1 => by
    have := Tryz.strings_shouldUseASCIISet s.size w1
    rwa [show decide ((8 : Int) < (s.size : Int)) = false from decide_eq_false (by omega)] at this
  have HRH : Hid (∀ (r : Int) (w1 : World), 128 ≤ r → Utf8.valid r = true → Calls Tryz.prog 58 #[.string c, .int .i32 r] w1 fun e w' => e = .returned (.int .i64 (-1)) ∧ Below w1.heap.size w1 w') := fun r w1 h1 hv => indexRune_high c r w1 h1 hv hc
  have HRA : Hid (∀ (x : UInt8) (w1 : World), x.toNat < 128 → Calls Tryz.prog 58 #[.string c, .int .i32 (x.toNat : Int)] w1 fun e w' => e = .returned (.int .i64 (Lib.indexByte c.data.toList x)) ∧ w' = w1) := fun x w1 h1 => by
    have := Tryz.strings_IndexRune_ascii c (x.toNat : Int) w1 (by omega) (by omega)
    rwa [show ((x.toNat : Int)).toNat.toUInt8 = x from by simp] at this
  clear hc
  go_enter Tryz.func44, Tryz.ntmps44
  go_wp2_with (go_at_call 59; refine (HSU.out _).mono ?_; rintro e w1 ⟨rfl, hw⟩; obtain rfl : w = w1 := hw.symm)
  go_loopg [9, 10] s.size (fun g _ _ wx => ∃ i : Nat, i ≤ s.size ∧ s.size - i ≤ g ∧ wx.heap[w.heap.size]? = some (.stringIter s i) ∧ Below w.heap.size w wx ∧ Lib.NoAny s.data.toList c.data.toList i)
  case atStart => exact ⟨0, by omega, by omega, World.iter_heap _ _ _, below_iter _ _ _, Lib.NoAny.zero _ _⟩
  case round =>
    obtain ⟨i, hig, hg, hit, hbw, hno⟩ := hrel
    have HN : Hid (Lib.NoAny s.data.toList c.data.toList i) := hno
    have HB : Hid (Below w.heap.size w wr) := hbw
    have HI : Hid (wr.heap[w.heap.size]? = some (.stringIter s i)) := hit
    clear hno hbw
    by_cases hi : i < s.size
    · obtain ⟨x, hx⟩ : ∃ x : UInt8, s[i]'hi = x := ⟨_, rfl⟩
      have hxl : s.data.toList[i]? = some x := by rw [← hx]; exact Lib.data_getElem? s i hi
      by_cases ha : x.toNat < 128
      · have hnx := fun ty => Lib.run_next_ascii_at (P := Tryz.prog) wr w.heap.size s i ty hit hi (by rw [hx]; exact ha)
        rw [hx] at hnx
        have HX : Hid (s.data.toList[i]? = some x) := hxl
        have hcon := Lib.contains_iff_indexByte c.data.toList x
        have HIT : Hid ((wr.iterAt w.heap.size s (i + 1)).heap[w.heap.size]? = some (.stringIter s (i + 1))) := Lib.iterAt_heap _ _ _ _ _ hit
        have HBT : Hid (Below w.heap.size w (wr.iterAt w.heap.size s (i + 1))) := HB.out.trans (below_iterAt _ _ _ _)
        clear hxl hx
        cases hin : c.data.toList.contains x
        · rw [hin] at hcon
          have o1 : decide ((0 : Int) ≤ Lib.indexByte c.data.toList x) = false := hcon.symm
          clear hcon hit
          go_wp2_with (go_at_call 58; refine (HRA.out x _ ha).mono ?_; rintro e w2 ⟨rfl, hw⟩; obtain rfl := hw)
          go_roundg (gk - 1)
          case measure => omega
          case rel => exact ⟨i + 1, by omega, by omega, HIT.out, HBT.out, HN.out.succ HX.out hin⟩
        · rw [hin] at hcon
          have o1 : decide ((0 : Int) ≤ Lib.indexByte c.data.toList x) = true := hcon.symm
          clear hcon hit
          go_wp2_with (go_at_call 58; refine (HRA.out x _ ha).mono ?_; rintro e w2 ⟨rfl, hw⟩; obtain rfl := hw)
          go_ret
          exact ⟨by rw [Lib.indexAny_hit HN.out HX.out hin]; rfl, HBT.out⟩
      · have hnx := fun ty => Lib.run_next_any_at (P := Tryz.prog) wr w.heap.size s i ty hit hi
        obtain ⟨d1, d2, d3, d4⟩ := decode_step s i hi (by rw [hx]; omega)
        have HDV := decode_valid s i
        generalize Utf8.decode s i = dc at *
        obtain ⟨dr, dw⟩ := dc
        simp only [] at d1 d2 d3 d4 hnx HDV
        have HIT : Hid ((wr.iterAt w.heap.size s (i + dw)).heap[w.heap.size]? = some (.stringIter s (i + dw))) := Lib.iterAt_heap _ _ _ _ _ hit
        have HBT : Hid (Below w.heap.size w (wr.iterAt w.heap.size s (i + dw))) := HB.out.trans (below_iterAt _ _ _ _)
        have hsz := HBT.out.size
        clear hxl hx hit
        have HR2 : Hid (∀ w1 : World, Calls Tryz.prog 58 #[.string c, .int .i32 (dr : Int)] w1 fun e w' => e = .returned (.int .i64 (-1)) ∧ Below w1.heap.size w1 w') := fun w1 => HRH.out _ w1 (by omega) HDV
        have hln : w.heap.size < (wr.iterAt w.heap.size s (i + dw)).heap.size := lt_of_block HIT.out
        go_wp2_with (go_at_call 58; refine (HR2.out _).mono ?_; rintro e w2 ⟨rfl, hb2⟩)
        go_roundg (gk - 1)
        case measure => omega
        case rel =>
          refine ⟨i + dw, by omega, by omega, (hb2.block _ hln).trans HIT.out, HBT.out.trans (hb2.mono hsz), ?_⟩
          intro j b hj hb
          by_cases hji : j < i
          · exact HN.out j b hji hb
          · have h128 := d4 j b (by omega) hj hb
            cases hcc : c.data.toList.contains b
            · rfl
            · obtain ⟨k, hk⟩ := List.mem_iff_getElem?.1 (List.contains_iff_mem.1 hcc)
              have := HA.out k b hk
              omega
    · obtain rfl : i = s.size := by omega
      have hnx := fun ty => Lib.run_next_end_at (P := Tryz.prog) wr w.heap.size s s.size ty hit (by omega)
      go_wp2
      go_ret
      exact ⟨by rw [Lib.indexAny_none (by rw [← Lib.size_eq]; exact HN.out)]; rfl, HB.out⟩
theorem info116 : (Tryz.prog.info? 144).map (fun i => (i.zero, i.size)) = some (some (.agg (Array.replicate 256 (.bool false))), 256) := by kernel_rfl
/-- strings.IndexAny, at any text. -/
theorem indexAny_any (s c : ByteArray) (w : World) (hs : s.size < 4294967281) (hcs : c.size < 4294967281) (h2 : 2 ≤ c.size) (hc : ascii c.data.toList) :
    Calls Tryz.prog 44 #[.string s, .string c] w fun e w' => e = .returned (.int .i64 (Lib.indexAny s.data.toList c.data.toList)) ∧ Below w.heap.size w w' := by
  by_cases h8 : s.size ≤ 8
  · exact indexAny_short s c w h2 hc h8
  · refine (Tryz.strings_IndexAny_long (zero_of_info info116).1 s c w h2 (by omega) hs hcs hc).mono ?_
    rintro e w' ⟨rfl, rfl⟩
    exact ⟨rfl, below_alloc_ (below_alloc_ (Below.refl _ _) _) _⟩
end Go.Proofs.YtfakjedolecdcaaGreatDoor
namespace Go.Proofs.YtfakjedolecdcaaGreatDoor
open Go.RowKit Go.Extern.Stop Go.Stop Go.Extern

/-- How many bytes the sign, or the blank, has with which a text begins. -/
def lenL (al l : List UInt8) : Nat := if Lib.indexAny l al = 0 then 1 else if Lib.indexAny l al = -1 then l.length else (Lib.indexAny l al).toNat
theorem indexAny_lt (al : List UInt8) : ∀ l : List UInt8, -1 ≤ Lib.indexAny l al ∧ Lib.indexAny l al < (l.length : Int)
  | [] => by simp [Lib.indexAny]
  | b :: l => by
    have := indexAny_lt al l
    simp only [Lib.indexAny, List.length_cons]
    split
    · omega
    · split
      · omega
      · rename_i h
        have h2 : ¬ Lib.indexAny l al = -1 := by simpa using h
        omega
theorem lenL_bd {al l : List UInt8} (h : l ≠ []) : 1 ≤ lenL al l ∧ lenL al l ≤ l.length := by
  have h1 := indexAny_lt al l
  have h2 : 1 ≤ l.length := by cases l with | nil => exact absurd rfl h | cons => simp
  unfold lenL
  split
  · omega
  · split
    · omega
    · omega
theorem length_any (s c : ByteArray) (w : World) (hs : s.size < 4294967281) (hc : c.size < 4294967281) (h2 : 2 ≤ c.size) (hb : ascii c.data.toList) :
    Calls Tryz.prog 30 #[.string s, .string c] w fun e w' => e = .returned (.int .i64 (lenL c.data.toList s.data.toList)) ∧ Below w.heap.size w w' := by
  have HIX : Hid (Calls Tryz.prog 44 #[.string s, .string c] w fun e w' => e = .returned (.int .i64 (Lib.indexAny s.data.toList c.data.toList)) ∧ Below w.heap.size w w') := indexAny_any s c w hs hc h2 hb
  have hx := indexAny_lt c.data.toList s.data.toList
  obtain ⟨ix, hix⟩ : ∃ ix, Lib.indexAny s.data.toList c.data.toList = ix := ⟨_, rfl⟩
  have HLN : Hid (lenL c.data.toList s.data.toList = if ix = 0 then 1 else if ix = -1 then s.data.toList.length else ix.toNat) := by show _ = _; unfold lenL; rw [hix]
  have hsz : s.data.toList.length = s.size := Array.length_toList
  rw [hix] at HIX hx
  rw [hsz] at HLN hx
  clear hb hix hsz
  by_cases h0 : ix = 0
  · have HE : Hid (lenL c.data.toList s.data.toList = 1) := by have := HLN.out; rw [if_pos h0] at this; exact this
    have o1 : (ix == 0) = true := by simpa using h0
    clear h0 HLN
    go_enter Tryz.func30, Tryz.ntmps30
    go_wp2_with (go_at_call 44; refine HIX.out.mono ?_; rintro e w1 ⟨rfl, hb1⟩)
    go_ret
    exact ⟨by rw [HE.out]; rfl, hb1⟩
  · by_cases h1 : ix = -1
    · have HE : Hid (lenL c.data.toList s.data.toList = s.size) := by have := HLN.out; rw [if_neg h0, if_pos h1] at this; exact this
      subst h1
      clear h0 HLN
      go_enter Tryz.func30, Tryz.ntmps30
      go_wp2_with (go_at_call 44; refine HIX.out.mono ?_; rintro e w1 ⟨rfl, hb1⟩)
      go_ret
      exact ⟨by rw [HE.out]; rfl, hb1⟩
    · have HE : Hid ((lenL c.data.toList s.data.toList : Int) = ix) := by have := HLN.out; rw [if_neg h0, if_neg h1] at this; show _ = _; rw [this]; omega
      have o1 : (ix == 0) = false := by simpa using h0
      have o2 : (ix == -1) = false := by simpa using h1
      clear HLN h0 h1
      go_enter Tryz.func30, Tryz.ntmps30
      go_wp2_with (go_at_call 44; refine HIX.out.mono ?_; rintro e w1 ⟨rfl, hb1⟩)
      go_ret
      exact ⟨by rw [HE.out]; rfl, hb1⟩
/-- A text's signs, with their places. -/
def signF (al : List UInt8) : Nat → List UInt8 → Nat → List (List UInt8 × Nat)
  | 0, _, _ => []
  | _ + 1, [], _ => []
  | f + 1, b :: l, p => (if (b :: l).take (lenL al (b :: l)) = [32] then [] else [((b :: l).take (lenL al (b :: l)), p)]) ++ signF al f ((b :: l).drop (lenL al (b :: l))) (p + lenL al (b :: l))
def strV (l : List UInt8) : Value := .string ⟨l.toArray⟩
def sgc (x : List UInt8 × Nat) : List Value := [strV x.1, .int .i64 x.2]
theorem sgc_len (x : List UInt8 × Nat) : (sgc x).length = 2 := rfl
theorem infoSign : (Tryz.prog.info? 60).map (fun i => (i.zero, i.size, i.bytes)) = some (some (.agg #[.string ⟨#[]⟩, .int .i64 0]), 2, 24) := by kernel_rfl
theorem signF_nil (al : List UInt8) (f p : Nat) : signF al f [] p = [] := by cases f <;> rfl
theorem signF_fuel (al : List UInt8) : ∀ (f g : Nat) (l : List UInt8) (p : Nat), l.length ≤ f → l.length ≤ g → signF al f l p = signF al g l p := by
  intro f
  induction f with
  | zero => intro g l p h _; obtain rfl := List.length_eq_zero_iff.1 (by omega : l.length = 0); rw [signF_nil, signF_nil]
  | succ f ih =>
    intro g l p h h2
    cases l with
    | nil => rw [signF_nil, signF_nil]
    | cons b l =>
      cases g with
      | zero => simp at h2
      | succ g =>
        have hk := lenL_bd (al := al) (l := b :: l) (by simp)
        simp only [List.length_cons] at h h2 hk
        simp only [signF]
        rw [ih g _ _ (by simp only [List.length_drop, List.length_cons]; omega) (by simp only [List.length_drop, List.length_cons]; omega)]
def signsL (al l : List UInt8) (p : Nat) : List (List UInt8 × Nat) := signF al l.length l p
theorem signsL_cons {al l : List UInt8} {p : Nat} (h : l ≠ []) : signsL al l p = (if l.take (lenL al l) = [32] then [] else [(l.take (lenL al l), p)]) ++ signsL al (l.drop (lenL al l)) (p + lenL al l) := by
  cases l with
  | nil => exact absurd rfl h
  | cons b l =>
    have hk := lenL_bd (al := al) (l := b :: l) (by simp)
    unfold signsL
    simp only [List.length_cons, signF]
    rw [signF_fuel al l.length _ _ _ (by simp only [List.length_drop, List.length_cons]; omega) (Nat.le_refl _)]
theorem ext_list (s : ByteArray) (a k : Nat) : (s.extract a (a + k)).data.toList = (s.data.toList.drop a).take k := by
  simp [ByteArray.data_extract, Array.toList_extract, List.extract_eq_take_drop]
theorem ext_val (s : ByteArray) (a k : Nat) : s.extract a (a + k) = ⟨((s.data.toList.drop a).take k).toArray⟩ := by
  rw [← ext_list]
theorem app_list (c : ByteArray) : (({ data := #[32] } : ByteArray) ++ c).data.toList = 32 :: c.data.toList := by
  simp
theorem app_size (c : ByteArray) : (({ data := #[32] } : ByteArray) ++ c).size = 1 + c.size := by
  have h := congrArg List.length (app_list c)
  rw [Array.length_toList, List.length_cons, Array.length_toList] at h
  have h2 : (({ data := #[32] } : ByteArray) ++ c).size = (({ data := #[32] } : ByteArray) ++ c).data.size := rfl
  have h3 : c.size = c.data.size := rfl
  omega
theorem toList_data (b : ByteArray) : b.toList = b.data.toList := ByteArray.toList_eq b
theorem bytes_eq {l : List UInt8} {s : ByteArray} (h : s.data.toList = l) : s = ⟨l.toArray⟩ := by
  cases s with | mk d => simp at h; rw [← h]
/-- A reader in block b. -/
def RdB (w : World) (b : Nat) (rv : Value) (n : Nat) : Prop := w.heap[b]? = some (.cells #[rv, .string ⟨#[]⟩, .int .i64 n] 62 (0, 0))
theorem RdB.cells {w : World} {b : Nat} {rv : Value} {n : Nat} (h : RdB w b rv n) : w.cell? ⟨b, 0, none⟩ = some rv ∧ w.cell? ⟨b, 1, none⟩ = some (.string ⟨#[]⟩) ∧ w.cell? ⟨b, 2, none⟩ = some (.int .i64 n) ∧ w.frozen? ⟨b, 0, none⟩ = false ∧ w.frozen? ⟨b, 1, none⟩ = false ∧ w.frozen? ⟨b, 2, none⟩ = false := by
  have hb : w.heap[b]? = _ := h
  refine ⟨?_, ?_, ?_, ?_, ?_, ?_⟩
  all_goals simp [World.cell?, World.frozen?, hb]
theorem RdB.mid {w W w2 : World} {row : Option Nat} {b : Nat} {rv : Value} {n : Nat} (h : RdB w b rv n) (hW : Below w.heap.size w W) (hg : W.grownBy w2 row) (hr : row ≠ some b) : RdB w2 b rv n :=
  (hg.block b (Nat.lt_of_lt_of_le (lt_of_block h) hW.size) (fun e => hr e.symm)).trans ((hW.block b (lt_of_block h)).trans h)
theorem RdB.set {w : World} {b : Nat} {rv : Value} {n : Nat} (h : RdB w b rv n) (v : Value) : RdB (w.setCell ⟨b, 0, none⟩ v) b v n := by
  unfold RdB
  rw [heap_setCell_here h v]
  simp
theorem heap_off_ {w : World} {b i r : Nat} {u : Value} (hr : r ≠ b) : (w.setCell ⟨b, i, none⟩ u).heap[r]? = w.heap[r]? :=
  Below.heap_setCell _ _ _ _ hr
theorem sizeReader : (Tryz.prog.info? 62).map (·.size) = some 3 := by kernel_rfl
set_option maxRecDepth 20000 in
set_option maxHeartbeats 4000000 in
theorem read_any (s c : ByteArray) (w : World) (hs : s.size ≤ 2000) (hc : c.size ≤ 1000) (h1 : 1 ≤ c.size) (hb : ascii c.data.toList) :
    Calls Tryz.prog 18 #[.string s, .string c] w fun e w' => ∃ rv, e = .returned (.agg #[rv, .string ⟨#[]⟩, .int .i64 s.size]) ∧ Seg w' 60 2 rv (signsL (32 :: c.data.toList) s.data.toList 0).length (flt sgc (signsL (32 :: c.data.toList) s.data.toList 0)) ∧ (∀ b, rv.ownBlock = some b → w.heap.size ≤ b) ∧ Below w.heap.size w w' := by
  obtain ⟨i0, hi, hz0, hz1, hz2⟩ := info_parts infoSign
  have hsz : s.data.toList.length = s.size := Array.length_toList
  have HSZ : Hid (s.data.toList.length = s.size) := hsz
  have HB : Hid (ascii (32 :: c.data.toList)) := by
    intro j b hj
    cases j with
    | zero => simp at hj; subst hj; decide
    | succ j => exact hb j b (by simpa using hj)
  clear hb hsz
  go_enter Tryz.func18, Tryz.ntmps18
  go_wp2
  have HB0 : Hid (Below w.heap.size w ((w.alloc (.cells #[.slice none 0 0, .string ⟨#[]⟩, .int .i64 0] 62)).alloc (.cells #[.slice none 0 0, .string ⟨#[]⟩, .int .i64 s.size] 62))) := below_alloc_ (below_alloc_ (Below.refl _ _) _) _
  have HR0 : Hid (RdB ((w.alloc (.cells #[.slice none 0 0, .string ⟨#[]⟩, .int .i64 0] 62)).alloc (.cells #[.slice none 0 0, .string ⟨#[]⟩, .int .i64 s.size] 62)) (w.heap.size + 1) (.slice none 0 0) s.size) := new_block_ (by simp)
  have HZ0 : Hid (((w.alloc (.cells #[.slice none 0 0, .string ⟨#[]⟩, .int .i64 0] 62)).alloc (.cells #[.slice none 0 0, .string ⟨#[]⟩, .int .i64 s.size] 62)).heap[w.heap.size]? = some (.cells #[.slice none 0 0, .string ⟨#[]⟩, .int .i64 0] 62 (0, 0))) := by show _ = _; rw [Below.heap_alloc _ _ _ (by simp)]; exact new_block _ _
  have HS0 : Hid (((w.alloc (.cells #[.slice none 0 0, .string ⟨#[]⟩, .int .i64 0] 62)).alloc (.cells #[.slice none 0 0, .string ⟨#[]⟩, .int .i64 s.size] 62)).heap.size = w.heap.size + 2) := by show _ = _; simp
  generalize (w.alloc (.cells #[.slice none 0 0, .string ⟨#[]⟩, .int .i64 0] 62)).alloc (.cells #[.slice none 0 0, .string ⟨#[]⟩, .int .i64 s.size] 62) = w0 at *
  go_loopw [6] (fun pv wr => ∃ (p : Nat) (rv : Value) (L : List (List UInt8 × Nat)), p ≤ s.size ∧ pv = .int .i64 p ∧ L.length ≤ p ∧ L ++ signsL (32 :: c.data.toList) (s.data.toList.drop p) p = signsL (32 :: c.data.toList) s.data.toList 0 ∧ RdB wr (w.heap.size + 1) rv s.size ∧ wr.heap[w.heap.size]? = some (.cells #[.slice none 0 0, .string ⟨#[]⟩, .int .i64 0] 62 (0, 0)) ∧ Seg wr 60 2 rv L.length (flt sgc L) ∧ (∀ b, rv.ownBlock = some b → w.heap.size + 2 ≤ b) ∧ Below w.heap.size w wr ∧ w.heap.size + 2 ≤ wr.heap.size) (fun pv _ => s.size - (intOf pv).toNat)
  case atStart => exact ⟨0, _, [], Nat.zero_le _, rfl, Nat.le_refl _, rfl, HR0.out, HZ0.out, Seg.nil _ _ _, fun b hb => by simp [Value.ownBlock] at hb, HB0.out, by rw [HS0.out]; exact Nat.le_refl _⟩
  case round =>
    obtain ⟨p, rv, L, hp, rfl, hll, hL, hrd, hzb, hseg, hrn, hbe, hsz2⟩ := hrel
    have HL : Hid (L ++ signsL (32 :: c.data.toList) (s.data.toList.drop p) p = signsL (32 :: c.data.toList) s.data.toList 0) := hL
    have HRD : Hid (RdB wr (w.heap.size + 1) rv s.size) := hrd
    have HZB : Hid (wr.heap[w.heap.size]? = some (.cells #[.slice none 0 0, .string ⟨#[]⟩, .int .i64 0] 62 (0, 0))) := hzb
    have HSEG : Hid (Seg wr 60 2 rv L.length (flt sgc L)) := hseg
    have HRN : Hid (∀ b, rv.ownBlock = some b → w.heap.size + 2 ≤ b) := hrn
    have HBE : Hid (Below w.heap.size w wr) := hbe
    clear hL hrd hzb hseg hrn hbe
    by_cases hlt : p < s.size
    · have hne : s.data.toList.drop p ≠ [] := fun e => by have := congrArg List.length e; rw [List.length_drop, HSZ.out] at this; simp at this; omega
      have hk := lenL_bd (al := 32 :: c.data.toList) hne
      have HSC := signsL_cons (al := 32 :: c.data.toList) (p := p) hne
      rw [List.length_drop, HSZ.out] at hk
      have HLN := length_any (s.extract p s.size) ({ data := #[32] } ++ c) wr (by rw [ByteArray.size_extract]; omega) (by rw [app_size]; omega) (by rw [app_size]; omega) (by rw [app_list]; exact HB.out)
      rw [app_list, Lib.extract_to_end] at HLN
      obtain ⟨k, hkk⟩ : ∃ k, lenL (32 :: c.data.toList) (s.data.toList.drop p) = k := ⟨_, rfl⟩
      rw [hkk] at hk HSC HLN
      have HKB : Hid (1 ≤ k ∧ k ≤ s.size - p) := hk
      have hj1 : (p : Int) ≤ (p : Int) + (k : Int) := by omega
      have hj2 : (p : Int) + (k : Int) ≤ (s.size : Int) := by omega
      have hj3 : ((p : Int) + (k : Int)).toNat = p + k := by omega
      clear hkk hne
      obtain ⟨rvx, rvn, rvc, hrv⟩ : ∃ x n c, rv = .slice x n c := by rcases HSEG.out.form with ⟨h, _⟩ | ⟨b, o, c, h, _⟩ <;> exact ⟨_, _, _, h⟩
      have HLN' : Hid (Calls Tryz.prog 30 #[.string (s.extract p s.size), .string ({ data := #[32] } ++ c)] wr fun e w' => e = .returned (.int .i64 k) ∧ Below wr.heap.size wr w') := HLN
      clear HLN hrv
      have HTL : Hid ((s.extract p (p + k)).toList = (s.data.toList.drop p).take k) := by show _ = _; rw [toList_data, ext_list]
      have hrl : ∀ b, rv.ownBlock = some b → b < wr.heap.size := fun b hb => HSEG.out.lt hb
      by_cases hbl : (s.data.toList.drop p).take k = [32]
      · have o1 : ((s.extract p (p + k)).toList == [32]) = true := by rw [HTL.out, hbl]; rfl
        have HNX : Hid (signsL (32 :: c.data.toList) (s.data.toList.drop p) p = signsL (32 :: c.data.toList) (s.data.toList.drop (p + k)) (p + k)) := by
          show _ = _
          rw [HSC, if_pos hbl, List.nil_append, List.drop_drop]
        clear hbl HSC
        go_wp2_with (go_at_call 30; refine HLN'.out.mono ?_; rintro e w1 ⟨rfl, hb1⟩)
        go_roundw
        case rel =>
          have hbA : Below wr.heap.size wr (w1.alloc (.cells #[.string (s.extract p (p + k)), .int .i64 p] 60)) := hb1.alloc hb1.size _
          refine ⟨p + k, rv, L, by omega, by go_num, by omega, by rw [← HNX.out]; exact HL.out, (hbA.block _ (by omega)).trans HRD.out, (hbA.block _ (by omega)).trans HZB.out, HSEG.out.below hbA, HRN.out, HBE.out.trans (hbA.mono HBE.out.size), by have := hbA.size; omega⟩
        case measure => simp [intOf]; omega
      · have o1 : ((s.extract p (p + k)).toList == [32]) = false := by rw [HTL.out]; simpa using hbl
        have HNX : Hid (signsL (32 :: c.data.toList) (s.data.toList.drop p) p = ((s.data.toList.drop p).take k, p) :: signsL (32 :: c.data.toList) (s.data.toList.drop (p + k)) (p + k)) := by
          show _ = _
          rw [HSC, if_neg hbl, List.drop_drop]
          rfl
        have hne4 : rv.ownBlock ≠ some (w.heap.size + 1) := fun e => by have := HRN.out _ e; omega
        have HSV : Hid (strV ((s.data.toList.drop p).take k) = .string (s.extract p (p + k))) := by show _ = _; unfold strV; rw [← ext_val]
        clear hbl HSC
        go_wp2_with (first | (go_at_call 30; refine HLN'.out.mono ?_; rintro e w1 ⟨rfl, hb1⟩; have hrd1 : w1.heap[w.heap.size + 1]? = some (.cells #[rv, .string ⟨#[]⟩, .int .i64 s.size] 62 (0, 0)) := (hb1.block _ (by omega)).trans HRD.out; have r0 : w1.cell? ⟨w.heap.size + 1, 0, none⟩ = some rv := (by simp [World.cell?, hrd1]); have f0 : w1.frozen? ⟨w.heap.size + 1, 0, none⟩ = false := (by simp [World.frozen?, hrd1]); have hl1 := lt_of_block hrd1; have HR1 : Hid (RdB w1 (w.heap.size + 1) rv s.size) := hrd1) | (at_builtin; refine wpList_append_seg _ rfl (.tmp 35) (.tmp 37) 58 rfl 60 i0 _ 2 24 Tryz.underlying58 hi hz0 hz1 hz2 rfl (by decide) _ _ _ rfl ((HSEG.out.below hb1).below (by repeat' (first | with_reducible exact Below.refl _ _ | with_reducible refine Below.drew ?_ | with_reducible refine below_alloc_ ?_ _))) _ 1 1 _ rfl rfl (news_of (new_block_ (by simp))) (by simp [Value.oneCell']) (by decide) (by unfold maxLen; omega) (by omega) _ rfl ?_; intro g goff gcap w2 hs2 hg2 ha2 hl2; have hm2 := HR1.out.mid (by repeat' (first | with_reducible exact Below.refl _ _ | with_reducible refine Below.drew ?_ | with_reducible refine below_alloc_ ?_ _)) hg2 hne4; obtain ⟨t0, _, _, e0, _, _⟩ := hm2.cells))
        have hgb : w.heap.size + 2 ≤ g := by
          rcases ha2 with ha2 | ha2
          · exact HRN.out _ ha2
          · simp at ha2; omega
        have hw2 : w1.heap.size + 2 ≤ w2.heap.size := by have := hg2.size; simp at this; omega
        have hb2 : Below w.heap.size w w2 := (below_alloc_ (below_alloc_ (HBE.out.trans (hb1.mono HBE.out.size)) _) _).grown hg2 (by simp; have := hb1.size; have := HBE.out.size; omega) (fun j hj => by have := HRN.out j hj; omega)
        have hz2 : w2.heap[w.heap.size]? = some (.cells #[.slice none 0 0, .string ⟨#[]⟩, .int .i64 0] 62 (0, 0)) := by
          rw [hg2.block w.heap.size (by simp; have := hb1.size; omega) (fun e => by have := HRN.out _ e.symm; omega)]
          rw [Below.heap_alloc _ _ _ (by simp; have := hb1.size; omega), Below.heap_alloc _ _ _ (by have := hb1.size; omega)]
          exact (hb1.block _ (by omega)).trans HZB.out
        go_roundw
        case rel =>
          refine ⟨p + k, _, L ++ [((s.data.toList.drop p).take k, p)], by omega, by go_num, by simp; omega, ?_, hm2.set _, ?_, ?_, ?_, ?_, ?_⟩
          · rw [List.append_assoc, List.singleton_append, ← HNX.out]; exact HL.out
          · rw [heap_off_ (by simp)]; exact hz2
          · have h := hs2.setCell (p := ⟨w.heap.size + 1, 0, none⟩) (by simp [Value.ownBlock]; omega) (.slice (some ⟨g, goff, none⟩) (L.length + 1) gcap)
            rw [List.length_append, flt_append]
            have h2 : flt sgc [((s.data.toList.drop p).take k, p)] = [.string (s.extract p (p + k)), .int .i64 p] := by simp [flt, sgc, HSV.out]
            rw [h2]
            exact h
          · intro j hj
            simp only [Value.ownBlock, Option.some.injEq] at hj
            subst hj
            exact hgb
          · exact hb2.setCell (by simp) _
          · simp; have := hb1.size; omega
        case measure => simp [intOf]; omega
    · obtain rfl : p = s.size := by omega
      obtain ⟨rvx, rvn, rvc, rfl⟩ : ∃ x n c, rv = .slice x n c := by rcases HSEG.out.form with ⟨h, _⟩ | ⟨b, o, c, h, _⟩ <;> exact ⟨_, _, _, h⟩
      have hrd := HRD.out
      unfold RdB at hrd
      have r0 : wr.cell? ⟨w.heap.size + 1, 0, none⟩ = some (.slice rvx rvn rvc) := by simp [World.cell?, hrd]
      have r1 : wr.cell? ⟨w.heap.size + 1, 1, none⟩ = some (.string ⟨#[]⟩) := by simp [World.cell?, hrd]
      have r2 : wr.cell? ⟨w.heap.size + 1, 2, none⟩ = some (.int .i64 s.size) := by simp [World.cell?, hrd]
      have z0 : wr.cell? ⟨w.heap.size, 0, none⟩ = some (.slice none 0 0) := by simp [World.cell?, HZB.out]
      have z1 : wr.cell? ⟨w.heap.size, 1, none⟩ = some (.string ⟨#[]⟩) := by simp [World.cell?, HZB.out]
      have z2 : wr.cell? ⟨w.heap.size, 2, none⟩ = some (.int .i64 0) := by simp [World.cell?, HZB.out]
      have y0 : wr.frozen? ⟨w.heap.size, 0, none⟩ = false := by simp [World.frozen?, HZB.out]
      have y1 : wr.frozen? ⟨w.heap.size, 1, none⟩ = false := by simp [World.frozen?, HZB.out]
      have y2 : wr.frozen? ⟨w.heap.size, 2, none⟩ = false := by simp [World.frozen?, HZB.out]
      have HRL : Hid (∀ b, (Value.slice rvx rvn rvc).ownBlock = some b → w.heap.size + 2 ≤ b) := HRN.out
      clear hrd
      go_wp2
      (try simp only [Exit.inBlock, Exit.then])
      have hz3 : (((wr.setCell ⟨w.heap.size, 0, none⟩ (.slice rvx rvn rvc)).setCell ⟨w.heap.size, 1, none⟩ (.string ⟨#[]⟩)).setCell ⟨w.heap.size, 2, none⟩ (.int .i64 s.size)).heap[w.heap.size]? = some (.cells #[.slice rvx rvn rvc, .string ⟨#[]⟩, .int .i64 s.size] 62 (0, 0)) := by
        rw [heap_setCell_here (heap_setCell_here (heap_setCell_here HZB.out _) _) _]
        simp
      refine bodyPost_ret (v := .agg #[.slice rvx rvn rvc, .string ⟨#[]⟩, .int .i64 s.size]) ?_ rfl ⟨.slice rvx rvn rvc, rfl, ?_, ?_, ?_⟩
      · exact results_cell_row rfl _ _ w.heap.size 62 _ (0, 0) _ rfl hz3 Tryz.underlying62 rfl sizeReader
      · have hl := HL.out
        rw [← HSZ.out, List.drop_length, show signsL (32 :: c.data.toList) [] s.data.toList.length = [] from rfl, List.append_nil] at hl
        rw [← hl]
        have hx : ∀ i, (Value.slice rvx rvn rvc).ownBlock ≠ some (⟨w.heap.size, i, none⟩ : Addr).block := fun i e => by have := HRN.out _ e; simp at this; omega
        exact ((HSEG.out.setCell (hx 0) _).setCell (hx 1) _).setCell (hx 2) _
      · intro b hb
        have := HRN.out b hb
        omega
      · exact ((HBE.out.setCell (by simp) _).setCell (by simp) _).setCell (by simp) _
end Go.Proofs.YtfakjedolecdcaaGreatDoor
