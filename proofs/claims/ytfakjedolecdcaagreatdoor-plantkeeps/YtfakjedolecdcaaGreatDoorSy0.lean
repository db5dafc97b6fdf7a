/-
  strings.IndexAny at any text, where the signs that are looked for are ASCII: the shelf has it for ASCII texts, and for texts of more than 8 bytes. Conditions: two signs to look for at least, a hundred at most.
-/
import Derived.Test.YtfakjedolecdcaaGreatDoorShelf
import Derived.Laws.RangeAny
import Derived.Laws.Runes
import Derived.Lib.DecodeN
import Derived.Lib.OthersKept
import Derived.Lib.IndexBytes
import Derived.Lib.IndexLaws
import Derived.BigQuiet
import Derived.Scope
import Derived.Test.YtfakjedolecdcaaGreatDoorSg
namespace Go.Proofs.YtfakjedolecdcaaGreatDoor
open Go.RowKit Go.Extern.Stop Go.Stop Go.Extern

def ascii (l : List UInt8) : Prop := ∀ (j : Nat) (b : UInt8), l[j]? = some b → b.toNat < 128
theorem below_iter (w : World) (s : ByteArray) (i : Nat) : Below w.heap.size w (w.iter s i) := below_alloc_ (Below.refl _ _) _
theorem below_iterAt (w : World) (n : Nat) (s : ByteArray) (i : Nat) : Below n w (w.iterAt n s i) := by
  refine ⟨rfl, rfl, rfl, by simp [World.iterAt], fun b hb => ?_⟩
  simp only [World.iterAt]
  rw [Array.getElem?_setIfInBounds_ne (by omega)]
/-- A byte that no text of ASCII bytes has. -/
theorem indexByte_high {l : List UInt8} {c : UInt8} (h : ascii l) (hc : 128 ≤ c.toNat) : Lib.indexByte l c = -1 := by
  rcases Int.lt_or_le (Lib.indexByte l c) 0 with h0 | h0
  · have := Lib.indexByte_ge l c; omega
  · obtain ⟨o, ho⟩ : ∃ o : Nat, Lib.indexByte l c = o := ⟨_, (Int.toNat_of_nonneg h0).symm⟩
    have := h o c (Lib.indexByte_some ho).1
    omega
theorem ascii_extract {c : ByteArray} (h : ascii c.data.toList) (a b : Nat) : ascii (c.extract a b).data.toList := by
  intro j x hx
  have e : (c.extract a b).data.toList = (c.data.toList.drop a).take (b - a) := by
    simp [ByteArray.data_extract, Array.toList_extract, List.extract]
  rw [e] at hx
  have h1 : ((c.data.toList.drop a).take (b - a))[j]? = some x := hx
  rw [List.getElem?_take] at h1
  split at h1
  · rw [List.getElem?_drop] at h1; exact h _ _ h1
  · cases h1
theorem decode_valid (s : ByteArray) (i : Nat) : Utf8.valid ((Utf8.decode s i).1 : Nat) = true := by
  rw [Lib.decode_at]
  have h0 := (s.get! i).toNat_lt; have h1 := (s.get! (i + 1)).toNat_lt; have h2 := (s.get! (i + 2)).toNat_lt; have h3 := (s.get! (i + 3)).toNat_lt
  unfold Lib.decodeN Utf8.valid
  repeat' split
  all_goals simp
  all_goals omega
/-- What a step over a text passes by is no ASCII byte, but for one that is told. -/
theorem decode_step (s : ByteArray) (i : Nat) (hi : i < s.size) (ha : 128 ≤ (s[i]'hi).toNat) : 128 ≤ (Utf8.decode s i).1 ∧ 1 ≤ (Utf8.decode s i).2 ∧ i + (Utf8.decode s i).2 ≤ s.size ∧ ∀ j b, i ≤ j → j < i + (Utf8.decode s i).2 → s.data.toList[j]? = some b → 128 ≤ b.toNat := by
  have hg : ∀ j, j < s.size → s.data.toList[j]? = some (s.get! j) := by
    intro j hj
    rw [Lib.data_getElem? s j hj]
    congr 1
    simp [ByteArray.get!, getElem!_pos, hj]
    rfl
  have hd := decode_high s i hi ha
  refine ⟨hd.1, hd.2, ?_⟩
  have e0 : (s.get! i).toNat = (s[i]'hi).toNat := by
    have := Lib.data_getElem? s i hi
    rw [hg i hi] at this
    rw [Option.some.inj this]
  have key : (Utf8.decode s i).2 ≤ s.size - i ∧ ∀ k, 1 ≤ k → k < (Utf8.decode s i).2 → 128 ≤ (s.get! (i + k)).toNat := by
    rw [Lib.decode_at]
    unfold Lib.decodeN
    rw [if_neg (by omega)]
    repeat' split
    all_goals refine ⟨by simp only []; omega, fun k h1 h2 => ?_⟩
    all_goals simp only [] at h2
    · obtain rfl : k = 1 := by omega
      omega
    · omega
    · rcases (by omega : k = 1 ∨ k = 2) with rfl | rfl <;> omega
    · omega
    · rcases (by omega : k = 1 ∨ k = 2 ∨ k = 3) with rfl | rfl | rfl <;> omega
    · omega
    · omega
  refine ⟨by omega, ?_⟩
  intro j b hj1 hj2 hb
  have hjs : j < s.size := by omega
  rw [hg j hjs] at hb
  obtain rfl := Option.some.inj hb
  rcases Nat.lt_or_ge i j with h | h
  · have := key.2 (j - i) (by omega) (by omega)
    rwa [show i + (j - i) = j from by omega] at this
  · obtain rfl : j = i := by omega
    rw [e0]; exact ha
set_option maxRecDepth 100000 in
set_option maxHeartbeats 4000000 in
theorem indexRune_high (c : ByteArray) (r : Int) (w : World) (h1 : 128 ≤ r) (hv : Utf8.valid r = true) (hc : ascii c.data.toList) :
    Calls Tryz.prog 58 #[.string c, .int .i32 r] w fun e w' => e = .returned (.int .i64 (-1)) ∧ Below w.heap.size w w' := by
  have HA : Hid (ascii c.data.toList) := hc
  have hr2 : r ≤ 1114111 := by unfold Utf8.valid at hv; simp at hv; omega
  have o1 : decide (r < 128) = false := by simp; omega
  have o0 : decide (0 ≤ r) = true := by simp; omega
  clear hc
  by_cases he : r = 65533
  · have o2 : (r == 65533) = true := by simpa using he
    clear he hv
    go_enter Tryz.func58, Tryz.ntmps58
    go_wp2_with fail
    go_loopg [5, 6] c.size (fun g _ _ wx => ∃ i : Nat, i + g = c.size ∧ wx = w.iter c i)
    case atStart => exact ⟨0, by omega, rfl⟩
    case round =>
      obtain ⟨i, hig, rfl⟩ := hrel
      cases gk with
      | zero =>
        obtain rfl : i = c.size := by omega
        have hnx := run_next_end (P := Tryz.prog) w c c.size
        go_wp2
        go_ret
        exact ⟨rfl, below_iter _ _ _⟩
      | succ g =>
        have hi : i < c.size := by omega
        have hxl : c.data.toList[i]? = some (c[i]'hi) := Lib.data_getElem? c i hi
        have hx := HA.out i _ hxl
        have hnx := fun ty => run_next_ascii (P := Tryz.prog) w c i ty hi hx
        obtain ⟨x, hxe⟩ : ∃ x : UInt8, c[i]'hi = x := ⟨_, rfl⟩
        rw [hxe] at hnx hx
        have o3 : (((x.toNat : Nat) : Int) == 65533) = false := by simp; omega
        clear hxl hxe
        go_wp2
        go_roundg g
        case measure => omega
        case rel => exact ⟨i + 1, by omega, rfl⟩
  · have o2 : (r == 65533) = false := by simpa using he
    have hvr : Lib.validRune r = true := by unfold Lib.validRune; unfold Utf8.valid at hv; simp at hv ⊢; omega
    obtain ⟨e1, e2, e3⟩ := encode_facts r hv h1
    have HVR : Hid (∀ w1 : World, Calls Tryz.prog 75 #[.int .i32 r] w1 fun e w' => e = .returned (.bool true) ∧ w' = w1) := fun w1 => by
      have := Tryz.utf8_ValidRune r w1
      rwa [hvr] at this
    obtain ⟨rs, hrs⟩ : ∃ rs : ByteArray, Utf8.encode r = rs := ⟨_, rfl⟩
    rw [hrs] at e1 e2 e3
    have hlt : rs.size - 1 < rs.size := by omega
    have e4 := e3 hlt
    obtain ⟨lb, hlb⟩ : ∃ lb : UInt8, rs[rs.size - 1]'hlt = lb := ⟨_, rfl⟩
    rw [hlb] at e4
    have hcv : ∀ w, (convert 21 9 (.int .i32 r)).run Tryz.prog w = .ok (.string rs) w := fun w => by
      rw [run_convert_int_string _ _ _ _ _ (by rw [Tryz.underlying21]; rfl) Tryz.underlying9, hrs]
    obtain ⟨m, hm⟩ : ∃ m, rs.size = m + 1 := ⟨rs.size - 1, by omega⟩
    have hm2 : ((rs.size : Int) - 1) = (m : Int) := by omega
    clear he hv hvr e3
    go_enter Tryz.func58, Tryz.ntmps58
    go_wp2_with (go_at_call 75; refine (HVR.out _).mono ?_; rintro e w1 ⟨rfl, hw⟩; obtain rfl : w = w1 := hw.symm)
    refine wp_scope_straight ?_
    go_wp2_with fail
    go_loopg [9, 10] 0 (fun _ v9 _ wx => v9 = .int .i64 m ∧ wx = w)
    case atStart => exact ⟨rfl, rfl⟩
    case round =>
      obtain ⟨rfl, rfl⟩ := hrel
      by_cases hlt2 : m < c.size
      · have d1 : decide ((m : Int) < (c.size : Int)) = true := by simp; omega
        have hm3 : m < rs.size := by omega
        obtain ⟨x, hx⟩ : ∃ x : UInt8, c[m]'hlt2 = x := ⟨_, rfl⟩
        have hx1 : x.toNat < 128 := by rw [← hx]; exact HA.out m _ (Lib.data_getElem? c m hlt2)
        have hl2 : rs[m]'hm3 = lb := by rw [← hlb]; congr 1; omega
        have o3 : (((x.toNat : Nat) : Int) != ((lb.toNat : Nat) : Int)) = true := by simp; omega
        go_wp2
        refine wp_scope_straight ?_
        go_wp2
        go_quiet (fail)
        go_wp2
        have HIB : Hid (∀ (a b : Nat) (w1 : World), Calls Tryz.prog 74 #[.string (c.extract a b), .int .u8 (lb.toNat : Int)] w1 fun e w' => e = .returned (.int .i64 (-1)) ∧ w' = w1) := fun a b w1 => by
          have h1 := Tryz.strings_IndexByte (c.extract a b) (lb.toNat : Int) w1
          rw [show ((lb.toNat : Int)).toNat.toUInt8 = lb from by simp, indexByte_high (ascii_extract HA.out a b) e4] at h1
          exact h1
        have ew : IntKind.i64.wrap ((m : Int) + 1) = (m : Int) + 1 := by rw [IntKind.wrap_i64]; omega
        have hix : ∀ w, (Instr.index 9 (.string rs) (.int .i64 (m : Int))).run Tryz.prog w = .ok (.int .u8 (lb.toNat : Int)) w := fun w => by
          rw [run_index_string _ _ _ _ _ Tryz.underlying9, dif_pos ⟨by omega, by omega⟩]
          simp only [Int.toNat_natCast, hl2]
        have hsl : ∀ w, (Instr.slice 9 (.string c) (some (.int .i64 ((m : Int) + 1))) none none).run Tryz.prog w = .ok (.string (c.extract ((m : Int) + 1).toNat c.size)) w := fun w => by
          rw [run_slice_string_from_if _ _ _ _ _ Tryz.underlying9, if_pos (by omega)]
        go_quiet ((go_at_call 74; refine (HIB.out (m + 1) c.size _).mono ?_; rintro e w2 ⟨rfl, rfl⟩; exact ⟨rfl, _, rfl⟩))
        go_wp2
        rw [Exit.noGoto_ret]
        simp only [Exit.inBlock, Exit.then]
        rw [Exit.noGoto_ret]
        go_ret
        exact ⟨rfl, (Below.refl _ _).trans ⟨rfl, rfl, rfl, Nat.le_refl _, fun _ _ => rfl⟩⟩
      · have d1 : decide ((m : Int) < (c.size : Int)) = false := by simp; omega
        go_wp2
        rw [Exit.noGoto_ret]
        go_ret
        exact ⟨rfl, Below.refl _ _⟩
set_option maxRecDepth 100000 in
set_option maxHeartbeats 4000000 in
/-- A text of no more than eight bytes. -/
theorem indexAny_short (s c : ByteArray) (w : World) (h2 : 2 ≤ c.size) (hc : ascii c.data.toList) (h8 : s.size ≤ 8) :
    Calls Tryz.prog 44 #[.string s, .string c] w fun e w' => e = .returned (.int .i64 (Lib.indexAny s.data.toList c.data.toList)) ∧ Below w.heap.size w w' := by
  have HA : Hid (ascii c.data.toList) := hc
  have hemp : c.toList.isEmpty = false := by
    rw [Lib.toList_data]
    cases h : c.data.toList with
    | nil => have := Lib.size_eq c; rw [h, List.length_nil] at this; omega
    | cons _ _ => rfl
  have hn1 : ((c.size : Int) == 1) = false := beq_eq_false_iff_ne.2 (by omega)
  have HSU : Hid (∀ w1 : World, Calls Tryz.prog 59 #[.int .i64 s.size] w1 fun e w' => e = .returned (.bool false) ∧ w' = w1) := fun w1 => by
    have := Tryz.strings_shouldUseASCIISet s.size w1
    rwa [show decide ((8 : Int) < (s.size : Int)) = false from decide_eq_false (by omega)] at this
  have HRH : Hid (∀ (r : Int) (w1 : World), 128 ≤ r → Utf8.valid r = true → Calls Tryz.prog 58 #[.string c, .int .i32 r] w1 fun e w' => e = .returned (.int .i64 (-1)) ∧ Below w1.heap.size w1 w') := fun r w1 h1 hv => indexRune_high c r w1 h1 hv hc
  have HRA : Hid (∀ (x : UInt8) (w1 : World), x.toNat < 128 → Calls Tryz.prog 58 #[.string c, .int .i32 (x.toNat : Int)] w1 fun e w' => e = .returned (.int .i64 (Lib.indexByte c.data.toList x)) ∧ w' = w1) := fun x w1 h1 => by
    have := Tryz.strings_IndexRune_ascii c (x.toNat : Int) w1 (by omega) (by omega)
    rwa [show ((x.toNat : Int)).toNat.toUInt8 = x from by simp] at this
  clear hc
  go_enter Tryz.func44, Tryz.ntmps44
  go_wp2_with (go_at_call 59; refine (HSU.out _).mono ?_; rintro e w1 ⟨rfl, hw⟩; obtain rfl : w = w1 := hw.symm)
  go_loopg [9, 10] s.size (fun g _ _ wx => ∃ i : Nat, i ≤ s.size ∧ s.size - i ≤ g ∧ wx.heap[w.heap.size]? = some (.stringIter s i) ∧ Below w.heap.size w wx ∧ Lib.NoAny s.data.toList c.data.toList i)
  case atStart => exact ⟨0, by omega, by omega, World.iter_heap _ _ _, below_iter _ _ _, Lib.NoAny.zero _ _⟩
  case round =>
    obtain ⟨i, hig, hg, hit, hbw, hno⟩ := hrel
    have HN : Hid (Lib.NoAny s.data.toList c.data.toList i) := hno
    have HB : Hid (Below w.heap.size w wr) := hbw
    have HI : Hid (wr.heap[w.heap.size]? = some (.stringIter s i)) := hit
    clear hno hbw
    by_cases hi : i < s.size
    · obtain ⟨x, hx⟩ : ∃ x : UInt8, s[i]'hi = x := ⟨_, rfl⟩
      have hxl : s.data.toList[i]? = some x := by rw [← hx]; exact Lib.data_getElem? s i hi
      by_cases ha : x.toNat < 128
      · have hnx := fun ty => Lib.run_next_ascii_at (P := Tryz.prog) wr w.heap.size s i ty hit hi (by rw [hx]; exact ha)
        rw [hx] at hnx
        have HX : Hid (s.data.toList[i]? = some x) := hxl
        have hcon := Lib.contains_iff_indexByte c.data.toList x
        have HIT : Hid ((wr.iterAt w.heap.size s (i + 1)).heap[w.heap.size]? = some (.stringIter s (i + 1))) := Lib.iterAt_heap _ _ _ _ _ hit
        have HBT : Hid (Below w.heap.size w (wr.iterAt w.heap.size s (i + 1))) := HB.out.trans (below_iterAt _ _ _ _)
        clear hxl hx
        cases hin : c.data.toList.contains x
        · rw [hin] at hcon
          have o1 : decide ((0 : Int) ≤ Lib.indexByte c.data.toList x) = false := hcon.symm
          clear hcon hit
          go_wp2_with (go_at_call 58; refine (HRA.out x _ ha).mono ?_; rintro e w2 ⟨rfl, hw⟩; obtain rfl := hw)
          go_roundg (gk - 1)
          case measure => omega
          case rel => exact ⟨i + 1, by omega, by omega, HIT.out, HBT.out, HN.out.succ HX.out hin⟩
        · rw [hin] at hcon
          have o1 : decide ((0 : Int) ≤ Lib.indexByte c.data.toList x) = true := hcon.symm
          clear hcon hit
          go_wp2_with (go_at_call 58; refine (HRA.out x _ ha).mono ?_; rintro e w2 ⟨rfl, hw⟩; obtain rfl := hw)
          go_ret
          exact ⟨by rw [Lib.indexAny_hit HN.out HX.out hin]; rfl, HBT.out⟩
      · have hnx := fun ty => Lib.run_next_any_at (P := Tryz.prog) wr w.heap.size s i ty hit hi
        obtain ⟨d1, d2, d3, d4⟩ := decode_step s i hi (by rw [hx]; omega)
        have HDV := decode_valid s i
        generalize Utf8.decode s i = dc at *
        obtain ⟨dr, dw⟩ := dc
        simp only [] at d1 d2 d3 d4 hnx HDV
        have HIT : Hid ((wr.iterAt w.heap.size s (i + dw)).heap[w.heap.size]? = some (.stringIter s (i + dw))) := Lib.iterAt_heap _ _ _ _ _ hit
        have HBT : Hid (Below w.heap.size w (wr.iterAt w.heap.size s (i + dw))) := HB.out.trans (below_iterAt _ _ _ _)
        have hsz := HBT.out.size
        clear hxl hx hit
        have HR2 : Hid (∀ w1 : World, Calls Tryz.prog 58 #[.string c, .int .i32 (dr : Int)] w1 fun e w' => e = .returned (.int .i64 (-1)) ∧ Below w1.heap.size w1 w') := fun w1 => HRH.out _ w1 (by omega) HDV
        have hln : w.heap.size < (wr.iterAt w.heap.size s (i + dw)).heap.size := lt_of_block HIT.out
        go_wp2_with (go_at_call 58; refine (HR2.out _).mono ?_; rintro e w2 ⟨rfl, hb2⟩)
        go_roundg (gk - 1)
        case measure => omega
        case rel =>
          refine ⟨i + dw, by omega, by omega, (hb2.block _ hln).trans HIT.out, HBT.out.trans (hb2.mono hsz), ?_⟩
          intro j b hj hb
          by_cases hji : j < i
          · exact HN.out j b hji hb
          · have h128 := d4 j b (by omega) hj hb
            cases hcc : c.data.toList.contains b
            · rfl
            · obtain ⟨k, hk⟩ := List.mem_iff_getElem?.1 (List.contains_iff_mem.1 hcc)
              have := HA.out k b hk
              omega
    · obtain rfl : i = s.size := by omega
      have hnx := fun ty => Lib.run_next_end_at (P := Tryz.prog) wr w.heap.size s s.size ty hit (by omega)
      go_wp2
      go_ret
      exact ⟨by rw [Lib.indexAny_none (by rw [← Lib.size_eq]; exact HN.out)]; rfl, HB.out⟩
theorem info116 : (Tryz.prog.info? 144).map (fun i => (i.zero, i.size)) = some (some (.agg (Array.replicate 256 (.bool false))), 256) := by kernel_rfl
/-- strings.IndexAny, at any text. -/
theorem indexAny_any (s c : ByteArray) (w : World) (hs : s.size < 4294967281) (hcs : c.size < 4294967281) (h2 : 2 ≤ c.size) (hc : ascii c.data.toList) :
    Calls Tryz.prog 44 #[.string s, .string c] w fun e w' => e = .returned (.int .i64 (Lib.indexAny s.data.toList c.data.toList)) ∧ Below w.heap.size w w' := by
  by_cases h8 : s.size ≤ 8
  · exact indexAny_short s c w h2 hc h8
  · refine (Tryz.strings_IndexAny_long (zero_of_info info116).1 s c w h2 (by omega) hs hcs hc).mono ?_
    rintro e w' ⟨rfl, rfl⟩
    exact ⟨rfl, below_alloc_ (below_alloc_ (Below.refl _ _) _) _⟩
end Go.Proofs.YtfakjedolecdcaaGreatDoor
