/-
  The reference's Inside of all, some. Conditions: the filter lies in memory, and is not too great. Written by wip/mkrt6.py.
-/
import Derived.Test.YtibecinojkkjpaaGreatDoorRt6
namespace Go.Proofs.YtibecinojkkjpaaGreatDoor
open Go.RowKit Go.Extern.Stop Go.Stop Go.Extern Go.Maps

set_option maxRecDepth 100000 in
set_option maxHeartbeats 4000000 in
theorem ri_lst_false4 {d b cap : Nat} {S : Nat → Prop} {l : List Ft} {y : Option Addr} {tf : Ft → Ft} (w : World) (hb : w.heap[b]? = some (.cells #[.string ⟨#[97, 110, 100]⟩, .int .i64 0, .int .i64 0, .int .i64 0, .slice y l.length cap] 63 (0, 0))) (hx : l.length ≤ 100000) (hS : ∀ k, S k → k < w.heap.size)
    (hel : ∀ i, i < l.length → ∃ (t : Ft) (g off k : Nat), l[i]? = some t ∧ y = some ⟨g, off, none⟩ ∧ (∀ w2, Below w.heap.size w w2 → w2.cell? ⟨g, off + i, none⟩ = some (.pointer (some ⟨k, 0, none⟩))) ∧ ∀ w2, Below w.heap.size w w2 → Calls Tryz.prog 10 #[.pointer (some ⟨k, 0, none⟩), .bool false] w2 fun e w' => RiP S w2 (d + 1) (tf t) e w') :
    Calls Tryz.prog 10 #[.pointer (some ⟨b, 0, none⟩), .bool false] w fun e w' => RiP S w (d + 2) ⟨4, 0, 0, 0, l.map tf⟩ e w' := by
  have HEL : Hid (∀ i, i < l.length → ∃ (t : Ft) (g off k : Nat), l[i]? = some t ∧ y = some ⟨g, off, none⟩ ∧ (∀ w2, Below w.heap.size w w2 → w2.cell? ⟨g, off + i, none⟩ = some (.pointer (some ⟨k, 0, none⟩))) ∧ ∀ w2, Below w.heap.size w w2 → Calls Tryz.prog 10 #[.pointer (some ⟨k, 0, none⟩), .bool false] w2 fun e w' => RiP S w2 (d + 1) (tf t) e w') := hel
  have HS : Hid (∀ k, S k → k < w.heap.size) := hS
  obtain ⟨i0, hi0, hz0, hz1, hz2⟩ := info_parts infoRFilter
  have HBW : Hid (w.heap[b]? = some (.cells #[.string ⟨#[97, 110, 100]⟩, .int .i64 0, .int .i64 0, .int .i64 0, .slice y l.length cap] 63 (0, 0))) := hb
  obtain ⟨c0, c4, -, -⟩ := cells5i hb
  have hbl := lt_of_block hb
  have hxn : (l.length : Int) ≤ 9223372036854775807 := by omega
  have HMK : Hid (∀ kv ks wr, GkI w S w.heap.size (d + 1) ⟨#[97, 110, 100]⟩ kv (l.map tf) ks wr → RfAt wr (fun j => S j ∨ w.heap.size ≤ j) (d + 2) ⟨4, 0, 0, 0, l.map tf⟩ w.heap.size) := fun kv ks wr h => GkI.made (k := 4) h (by decide)
  have hbA : Below w.heap.size w (w.alloc (.cells #[.string ⟨#[97, 110, 100]⟩, .int .i64 0, .int .i64 0, .int .i64 0, .slice none 0 0] 63)) := below_alloc_ (Below.refl _ _) _
  have k1 : (w.alloc (.cells #[.string ⟨#[97, 110, 100]⟩, .int .i64 0, .int .i64 0, .int .i64 0, .slice none 0 0] 63)).heap[w.heap.size]? = some (.cells #[.string ⟨#[97, 110, 100]⟩, .int .i64 0, .int .i64 0, .int .i64 0, .slice none 0 0] 63 (0, 0)) := new_block _ _
  clear hel hS hb
  have HST : Hid (GkI w S w.heap.size (d + 1) ⟨#[97, 110, 100]⟩ (.slice none 0 0) [] [] (w.alloc (.cells #[.string ⟨#[97, 110, 100]⟩, .int .i64 0, .int .i64 0, .int .i64 0, .slice none 0 0] 63))) := ⟨Nat.le_refl _, k1, Seg.nil _ _ _, rfl, fun j hj => by simp [Value.ownBlock] at hj, fun i y k hy => by simp at hy, hbA⟩
  have HKB : Hid ((w.alloc (.cells #[.string ⟨#[97, 110, 100]⟩, .int .i64 0, .int .i64 0, .int .i64 0, .slice none 0 0] 63)).heap[b]? = some (.cells #[.string ⟨#[97, 110, 100]⟩, .int .i64 0, .int .i64 0, .int .i64 0, .slice y l.length cap] 63 (0, 0))) := (hbA.block b hbl).trans HBW.out
  clear k1 hbA
  go_enter Tryz.func10, Tryz.ntmps10
  go_wp2_with fail
  go_loopg [48, 7] l.length (fun g v48 _ wx => ∃ (i : Nat) (kv : Value) (ks : List Nat), i + g = l.length ∧ v48 = .int .i64 i ∧ Hid (GkI w S w.heap.size (d + 1) ⟨#[97, 110, 100]⟩ kv ((l.take i).map tf) ks wx))
  case atStart => exact ⟨0, .slice none 0 0, [], by omega, rfl, HST.out⟩
  case round =>
    obtain ⟨i, kv, ks, hig, rfl, HGR0⟩ := hrel
    by_cases hi : i < l.length
    · obtain ⟨t, g, off, k, ht, rfl, hcell, hc⟩ := HEL.out i hi
      have HBR : Hid (Below w.heap.size w wr) := HGR0.out.bel
      have HTK : Hid ((l.take (i + 1)).map tf = (l.take i).map tf ++ [tf t]) := by show _ = _; rw [List.take_add_one, ht]; simp
      have HPL : Hid (((l.take i).map tf).length = i) := by show _ = _; simp; omega
      generalize (l.take i).map tf = parts at *
      obtain ⟨kx, kc, rfl⟩ : ∃ x c, kv = .slice x i c := by
        have hf := HGR0.out.seg.form
        rw [HPL.out] at hf
        rcases hf with ⟨h, h0, _⟩ | ⟨_, _, _, h, _⟩
        · exact ⟨_, _, by rw [h, h0]⟩
        · exact ⟨_, _, h⟩
      have HGR : Hid (GkI w S w.heap.size (d + 1) ⟨#[97, 110, 100]⟩ (.slice kx i kc) parts ks wr) := HGR0.out
      have q0 := hcell wr HBR.out
      have hdr : Below w.heap.size w wr.drew := HBR.out.drew
      have HCA : Hid (Calls Tryz.prog 10 #[.pointer (some ⟨k, 0, none⟩), .bool false] wr.drew fun e w' => ∃ x, e = .returned (.pointer (some ⟨x, 0, none⟩)) ∧ RfAt w' (fun j => S j ∨ wr.heap.size ≤ j) (d + 1) (tf t) x ∧ Below wr.heap.size wr w' ∧ GkI w S w.heap.size (d + 1) ⟨#[97, 110, 100]⟩ (.slice kx i kc) parts ks w') := by
        refine (hc wr.drew hdr).mono ?_
        rintro e w' ⟨x, rfl, h1, h2⟩
        have h3 : Below wr.heap.size wr w' := (Below.refl _ _).drew.trans h2
        exact ⟨x, rfl, h1, h3, HGR.out.belowed h3⟩
      obtain ⟨k0, k4, kf0, kf4⟩ := cells5i HGR.out.blk
      have hfl := HGR.out.lt
      have hi1 : (i : Int) < (l.length : Int) := by omega
      clear hcell hc HGR0 hdr
      go_wp2
      go_region_law (first | (refine step_append_seg _ (by rfl) (.tmp 56) (.tmp 60) 61 (by rfl) 22 i0 _ 1 8 Tryz.underlying61 hi0 hz0 hz1 hz2 rfl (by decide) (.slice kx i kc) i (ks.map ptrV) (by rfl) (HSN.out.alloc _) ⟨w4.heap.size, 0, none⟩ 1 1 [.pointer (some ⟨x, 0, none⟩)] (by rfl) rfl (news_of (new_block_ (by simp))) (by simp [Value.oneCell']) (by decide) (by unfold maxLen; omega) (by omega) _ rfl ?_; intro g1 off1 cap1 w5 hs5 hg5 ha5 hl5; obtain ⟨_, d5, z5⟩ := HG4.out.mid (below_alloc_ (Below.refl _ _) _) hg5) | (go_simp; go_wp2_with (go_at_call 10; refine HCA.out.mono ?_; rintro e w4 ⟨x, rfl, hr4, hb4, hg4⟩; have HR4 : Hid (RfAt w4 (fun j => S j ∨ wr.heap.size ≤ j) (d + 1) (tf t) x) := hr4; have HB4 : Hid (Below wr.heap.size wr w4) := hb4; have HG4 : Hid (GkI w S w.heap.size (d + 1) ⟨#[97, 110, 100]⟩ (.slice kx i kc) parts ks w4) := hg4; have HSN : Hid (Seg w4 22 1 (.slice kx i kc) i (ks.map ptrV)) := (by have h := hg4.seg; rw [HPL.out] at h; exact h); obtain ⟨x0, x4, xf0, xf4⟩ := cells5i hg4.blk; have hfl4 := hg4.lt; clear hr4 hb4 hg4)))
      all_goals
        have hst := HGR.out.step HS.out HB4.out (below_alloc_ (Below.refl _ _) _) HR4.out (by rw [HPL.out]; exact hs5) hg5 ha5 (by simp)
        rw [HPL.out] at hst
        have HST2 : Hid (GkI w S w.heap.size (d + 1) ⟨#[97, 110, 100]⟩ (.slice (some ⟨g1, off1, none⟩) (i + 1) cap1) (parts ++ [tf t]) (ks ++ [x]) (w5.setCell ⟨w.heap.size, 4, none⟩ (.slice (some ⟨g1, off1, none⟩) (i + 1) cap1))) := hst
        clear hst
        go_wp2
        go_roundg (gk - 1)
        case measure => omega
        case rel => exact ⟨i + 1, _, _, by omega, by go_num, by rw [HTK.out]; exact HST2.out⟩
    · obtain rfl : i = l.length := by omega
      have HGE : Hid (GkI w S w.heap.size (d + 1) ⟨#[97, 110, 100]⟩ kv (l.map tf) ks wr) := by have h := HGR0.out; rw [List.take_length] at h; exact h
      clear HGR0
      go_wp2
      go_ret
      exact ⟨w.heap.size, rfl, HMK.out _ _ _ HGE.out, HGE.out.bel⟩
set_option maxRecDepth 100000 in
set_option maxHeartbeats 4000000 in
theorem ri_lst_false5 {d b cap : Nat} {S : Nat → Prop} {l : List Ft} {y : Option Addr} {tf : Ft → Ft} (w : World) (hb : w.heap[b]? = some (.cells #[.string ⟨#[111, 114]⟩, .int .i64 0, .int .i64 0, .int .i64 0, .slice y l.length cap] 63 (0, 0))) (hx : l.length ≤ 100000) (hS : ∀ k, S k → k < w.heap.size)
    (hel : ∀ i, i < l.length → ∃ (t : Ft) (g off k : Nat), l[i]? = some t ∧ y = some ⟨g, off, none⟩ ∧ (∀ w2, Below w.heap.size w w2 → w2.cell? ⟨g, off + i, none⟩ = some (.pointer (some ⟨k, 0, none⟩))) ∧ ∀ w2, Below w.heap.size w w2 → Calls Tryz.prog 10 #[.pointer (some ⟨k, 0, none⟩), .bool false] w2 fun e w' => RiP S w2 (d + 1) (tf t) e w') :
    Calls Tryz.prog 10 #[.pointer (some ⟨b, 0, none⟩), .bool false] w fun e w' => RiP S w (d + 2) ⟨5, 0, 0, 0, l.map tf⟩ e w' := by
  have HEL : Hid (∀ i, i < l.length → ∃ (t : Ft) (g off k : Nat), l[i]? = some t ∧ y = some ⟨g, off, none⟩ ∧ (∀ w2, Below w.heap.size w w2 → w2.cell? ⟨g, off + i, none⟩ = some (.pointer (some ⟨k, 0, none⟩))) ∧ ∀ w2, Below w.heap.size w w2 → Calls Tryz.prog 10 #[.pointer (some ⟨k, 0, none⟩), .bool false] w2 fun e w' => RiP S w2 (d + 1) (tf t) e w') := hel
  have HS : Hid (∀ k, S k → k < w.heap.size) := hS
  obtain ⟨i0, hi0, hz0, hz1, hz2⟩ := info_parts infoRFilter
  have HBW : Hid (w.heap[b]? = some (.cells #[.string ⟨#[111, 114]⟩, .int .i64 0, .int .i64 0, .int .i64 0, .slice y l.length cap] 63 (0, 0))) := hb
  obtain ⟨c0, c4, -, -⟩ := cells5i hb
  have hbl := lt_of_block hb
  have hxn : (l.length : Int) ≤ 9223372036854775807 := by omega
  have HMK : Hid (∀ kv ks wr, GkI w S w.heap.size (d + 1) ⟨#[111, 114]⟩ kv (l.map tf) ks wr → RfAt wr (fun j => S j ∨ w.heap.size ≤ j) (d + 2) ⟨5, 0, 0, 0, l.map tf⟩ w.heap.size) := fun kv ks wr h => GkI.made (k := 5) h (by decide)
  have hbA : Below w.heap.size w (w.alloc (.cells #[.string ⟨#[111, 114]⟩, .int .i64 0, .int .i64 0, .int .i64 0, .slice none 0 0] 63)) := below_alloc_ (Below.refl _ _) _
  have k1 : (w.alloc (.cells #[.string ⟨#[111, 114]⟩, .int .i64 0, .int .i64 0, .int .i64 0, .slice none 0 0] 63)).heap[w.heap.size]? = some (.cells #[.string ⟨#[111, 114]⟩, .int .i64 0, .int .i64 0, .int .i64 0, .slice none 0 0] 63 (0, 0)) := new_block _ _
  clear hel hS hb
  have HST : Hid (GkI w S w.heap.size (d + 1) ⟨#[111, 114]⟩ (.slice none 0 0) [] [] (w.alloc (.cells #[.string ⟨#[111, 114]⟩, .int .i64 0, .int .i64 0, .int .i64 0, .slice none 0 0] 63))) := ⟨Nat.le_refl _, k1, Seg.nil _ _ _, rfl, fun j hj => by simp [Value.ownBlock] at hj, fun i y k hy => by simp at hy, hbA⟩
  have HKB : Hid ((w.alloc (.cells #[.string ⟨#[111, 114]⟩, .int .i64 0, .int .i64 0, .int .i64 0, .slice none 0 0] 63)).heap[b]? = some (.cells #[.string ⟨#[111, 114]⟩, .int .i64 0, .int .i64 0, .int .i64 0, .slice y l.length cap] 63 (0, 0))) := (hbA.block b hbl).trans HBW.out
  clear k1 hbA
  go_enter Tryz.func10, Tryz.ntmps10
  go_wp2_with fail
  go_loopg [48, 7] l.length (fun g v48 _ wx => ∃ (i : Nat) (kv : Value) (ks : List Nat), i + g = l.length ∧ v48 = .int .i64 i ∧ Hid (GkI w S w.heap.size (d + 1) ⟨#[111, 114]⟩ kv ((l.take i).map tf) ks wx))
  case atStart => exact ⟨0, .slice none 0 0, [], by omega, rfl, HST.out⟩
  case round =>
    obtain ⟨i, kv, ks, hig, rfl, HGR0⟩ := hrel
    by_cases hi : i < l.length
    · obtain ⟨t, g, off, k, ht, rfl, hcell, hc⟩ := HEL.out i hi
      have HBR : Hid (Below w.heap.size w wr) := HGR0.out.bel
      have HTK : Hid ((l.take (i + 1)).map tf = (l.take i).map tf ++ [tf t]) := by show _ = _; rw [List.take_add_one, ht]; simp
      have HPL : Hid (((l.take i).map tf).length = i) := by show _ = _; simp; omega
      generalize (l.take i).map tf = parts at *
      obtain ⟨kx, kc, rfl⟩ : ∃ x c, kv = .slice x i c := by
        have hf := HGR0.out.seg.form
        rw [HPL.out] at hf
        rcases hf with ⟨h, h0, _⟩ | ⟨_, _, _, h, _⟩
        · exact ⟨_, _, by rw [h, h0]⟩
        · exact ⟨_, _, h⟩
      have HGR : Hid (GkI w S w.heap.size (d + 1) ⟨#[111, 114]⟩ (.slice kx i kc) parts ks wr) := HGR0.out
      have q0 := hcell wr HBR.out
      have hdr : Below w.heap.size w wr.drew := HBR.out.drew
      have HCA : Hid (Calls Tryz.prog 10 #[.pointer (some ⟨k, 0, none⟩), .bool false] wr.drew fun e w' => ∃ x, e = .returned (.pointer (some ⟨x, 0, none⟩)) ∧ RfAt w' (fun j => S j ∨ wr.heap.size ≤ j) (d + 1) (tf t) x ∧ Below wr.heap.size wr w' ∧ GkI w S w.heap.size (d + 1) ⟨#[111, 114]⟩ (.slice kx i kc) parts ks w') := by
        refine (hc wr.drew hdr).mono ?_
        rintro e w' ⟨x, rfl, h1, h2⟩
        have h3 : Below wr.heap.size wr w' := (Below.refl _ _).drew.trans h2
        exact ⟨x, rfl, h1, h3, HGR.out.belowed h3⟩
      obtain ⟨k0, k4, kf0, kf4⟩ := cells5i HGR.out.blk
      have hfl := HGR.out.lt
      have hi1 : (i : Int) < (l.length : Int) := by omega
      clear hcell hc HGR0 hdr
      go_wp2
      go_region_law (first | (refine step_append_seg _ (by rfl) (.tmp 56) (.tmp 60) 61 (by rfl) 22 i0 _ 1 8 Tryz.underlying61 hi0 hz0 hz1 hz2 rfl (by decide) (.slice kx i kc) i (ks.map ptrV) (by rfl) (HSN.out.alloc _) ⟨w4.heap.size, 0, none⟩ 1 1 [.pointer (some ⟨x, 0, none⟩)] (by rfl) rfl (news_of (new_block_ (by simp))) (by simp [Value.oneCell']) (by decide) (by unfold maxLen; omega) (by omega) _ rfl ?_; intro g1 off1 cap1 w5 hs5 hg5 ha5 hl5; obtain ⟨_, d5, z5⟩ := HG4.out.mid (below_alloc_ (Below.refl _ _) _) hg5) | (go_simp; go_wp2_with (go_at_call 10; refine HCA.out.mono ?_; rintro e w4 ⟨x, rfl, hr4, hb4, hg4⟩; have HR4 : Hid (RfAt w4 (fun j => S j ∨ wr.heap.size ≤ j) (d + 1) (tf t) x) := hr4; have HB4 : Hid (Below wr.heap.size wr w4) := hb4; have HG4 : Hid (GkI w S w.heap.size (d + 1) ⟨#[111, 114]⟩ (.slice kx i kc) parts ks w4) := hg4; have HSN : Hid (Seg w4 22 1 (.slice kx i kc) i (ks.map ptrV)) := (by have h := hg4.seg; rw [HPL.out] at h; exact h); obtain ⟨x0, x4, xf0, xf4⟩ := cells5i hg4.blk; have hfl4 := hg4.lt; clear hr4 hb4 hg4)))
      all_goals
        have hst := HGR.out.step HS.out HB4.out (below_alloc_ (Below.refl _ _) _) HR4.out (by rw [HPL.out]; exact hs5) hg5 ha5 (by simp)
        rw [HPL.out] at hst
        have HST2 : Hid (GkI w S w.heap.size (d + 1) ⟨#[111, 114]⟩ (.slice (some ⟨g1, off1, none⟩) (i + 1) cap1) (parts ++ [tf t]) (ks ++ [x]) (w5.setCell ⟨w.heap.size, 4, none⟩ (.slice (some ⟨g1, off1, none⟩) (i + 1) cap1))) := hst
        clear hst
        go_wp2
        go_roundg (gk - 1)
        case measure => omega
        case rel => exact ⟨i + 1, _, _, by omega, by go_num, by rw [HTK.out]; exact HST2.out⟩
    · obtain rfl : i = l.length := by omega
      have HGE : Hid (GkI w S w.heap.size (d + 1) ⟨#[111, 114]⟩ kv (l.map tf) ks wr) := by have h := HGR0.out; rw [List.take_length] at h; exact h
      clear HGR0
      go_wp2
      go_ret
      exact ⟨w.heap.size, rfl, HMK.out _ _ _ HGE.out, HGE.out.bel⟩
end Go.Proofs.YtibecinojkkjpaaGreatDoor
