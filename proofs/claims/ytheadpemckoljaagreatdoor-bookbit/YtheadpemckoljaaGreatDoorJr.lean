/-
  millracekeep.pick and millracekeep.booked. Conditions: what strconv and bytealg lay is laid.
-/
import Derived.Test.YtheadpemckoljaaGreatDoorJq
import Derived.Test.YtheadpemckoljaaGreatDoorBm
import Derived.Test.YtheadpemckoljaaGreatDoorJc
namespace Go.Proofs.YtheadpemckoljaaGreatDoor
open Go.RowKit Go.Extern.Stop Go.Stop Go.Extern Go.Maps Go.WideMaps

def pck (a : Int) (n : Nat) : Nat := ((a % 18446744073709551616) % (n : Int)).toNat
theorem pck_lt (a : Int) {n : Nat} (h : 0 < n) : pck a n < n := by
  unfold pck
  have h1 := Int.emod_nonneg (a % 18446744073709551616) (by omega : (n : Int) ≠ 0)
  have h2 := Int.emod_lt_of_pos (a % 18446744073709551616) (by omega : (0 : Int) < n)
  omega
theorem pick_any (a : Int) (n : Nat) (h0 : 0 < n) (h1 : n ≤ 1000000) (w : World) : Calls Tryz.prog 24 #[.int .i64 a, .int .i64 (n : Nat)] w fun e w' => e = .returned (.int .i64 (pck a n : Nat)) ∧ w' = w := by
  have g1 : ((n : Int) == 0) = false := by simp; omega
  have g2 : IntKind.u64.wrap (n : Int) = (n : Int) := by rw [IntKind.wrap_u64]; omega
  have hz : wrap64 ((IntKind.u64.wrap a).tmod (n : Int)) = (pck a n : Int) := by
    rw [IntKind.wrap_u64, Int.tmod_eq_emod_of_nonneg (by omega)]
    have h2 := Int.emod_nonneg (a % 18446744073709551616) (by omega : (n : Int) ≠ 0)
    have h3 := Int.emod_lt_of_pos (a % 18446744073709551616) (by omega : (0 : Int) < n)
    unfold pck
    generalize a % 18446744073709551616 % (n : Int) = r at *
    unfold wrap64
    omega
  have HZ : Hid (wrap64 ((IntKind.u64.wrap a).tmod (n : Int)) = (pck a n : Int)) := hz
  clear hz
  go_enter Tryz.func24, Tryz.ntmps24
  go_wp2
  go_ret
  exact ⟨by show Ending.returned (.int .i64 (wrap64 ((IntKind.u64.wrap a).tmod (n : Int)))) = _; rw [HZ.out], rfl⟩
/-- Bytes of one's own, as bytes in memory. -/
theorem dt_own {w : World} {base n : Nat} {e : TypeId} {v : Value} {l : List UInt8} (h : w.ownsRow base e 1 v n (Lib.byteCells l)) : ∃ x c, v = .slice x l.length c ∧ n = l.length ∧ DtAt w x c l := by
  rcases owns_some h with ⟨rfl, hn, rfl⟩ | ⟨g, c, rfl, hn, hc, hm, hx⟩
  · exact ⟨none, 0, rfl, hn, ⟨fun j x hx => by simp at hx, fun _ => rfl, Nat.le_refl _, Nat.zero_le _⟩⟩
  · subst hn
    exact ⟨some ⟨g, 0, none⟩, c, rfl, rfl, ⟨fun j x hj => ⟨g, 0, rfl, hx j x hj⟩, (fun e => by cases e), hc, hm⟩⟩
theorem bt_nil (w : World) : BtAt w (.slice none 0 0) [] := Or.inl ⟨rfl, Or.inl rfl⟩
theorem jour_pos {e : Ent} {l : List Ent} : 0 < (jour (e :: l)).length := by
  show 0 < (lineL 0 e ++ jourF (0 + 1) l).length
  have := List.length_pos_iff.2 (lineL_ne 0 e)
  rw [List.length_append]
  omega
set_option maxRecDepth 100000 in
set_option maxHeartbeats 4000000 in
theorem booked_any (w : World) (hG : GlobB w) : Calls Tryz.prog 25 #[] w fun e w' => e = .returned (.bool true) ∧ Below w.heap.size w w' := by
  have hx : EntOk ([120], 3) := ⟨by decide, by decide, by decide⟩
  have HB0 : Hid (Below w.heap.size w (w.alloc (.cells #[.map none, .slice none 0 0, .int .i64 0, .int .i64 0] 28))) := below_alloc_ (Below.refl _ _) _
  have HAD : Hid (Calls Tryz.prog 8 #[.pointer (some ⟨w.heap.size, 0, none⟩), .string ⟨[120].toArray⟩, .int .i64 3] (w.alloc (.cells #[.map none, .slice none 0 0, .int .i64 0, .int .i64 0] 28)) fun e W' => e = .returned .nilIface ∧ AddP (w.alloc (.cells #[.map none, .slice none 0 0, .int .i64 0, .int .i64 0] 28)) W' w.heap.size none (.slice none 0 0) 0 [([120], 3)]) :=
    add_yes w.heap.size none (.slice none 0 0) 0 [] [120] 3 _ (BkAt.new w) (hG.tab.below HB0.out) hx (by decide)
  have HG : Hid (GlobB w) := hG
  have hsz : (w.alloc (.cells #[.map none, .slice none 0 0, .int .i64 0, .int .i64 0] 28)).heap.size = w.heap.size + 1 := by simp
  have HSZ : Hid _ := hsz
  clear hG hsz
  go_enter Tryz.func25, Tryz.ntmps25
  go_wp2_with fail
  refine HAD.out.mono ?_
  rintro e w1 ⟨rfl, cm, jv, k1, k2, k3⟩
  have HB1 : Hid (Below w.heap.size w w1) := HB0.out.trans (k2.below HB0.out.size (bks_new w.heap.size))
  have HS1 : Hid (∀ k, BkS w.heap.size cm jv k → w.heap.size ≤ k) := fun k hk => (k3 k hk).elim (bks_new w.heap.size k) (fun h => by rw [HSZ.out] at h; omega)
  have HK1 : Hid (BkAt w1 w.heap.size cm jv 0 [([120], 3)]) := k1
  have HS0 : Hid (sumE [([120], 3)] [120] = 3) := (by decide : sumE [([120], 3)] [120] = 3)
  clear k1 k2 k3 HAD
  have HGE := get_any w.heap.size cm jv 0 [([120], 3)] [120] w1 HK1.out (by decide)
  rw [HS0.out] at HGE
  go_wp2_with fail
  refine HGE.mono ?_
  rintro e w2 ⟨rfl, hb2⟩
  have HB2 : Hid (Below w.heap.size w w2) := HB1.out.trans (hb2.mono HB1.out.size)
  have HK2 : Hid (BkAt w2 w.heap.size cm jv 0 [([120], 3)]) := HK1.out.below hb2
  clear hb2 HGE
  have HSY := sync_any w.heap.size cm jv 0 [([120], 3)] w2 HK2.out
  go_wp2_with fail
  refine HSY.mono ?_
  rintro e w3 ⟨rfl, k3, o3⟩
  have HB3 : Hid (Below w.heap.size w w3) := HB2.out.trans (o3.below HB2.out.size (fun k hk => HS1.out k hk))
  have HCR := crash_yes w.heap.size cm jv (jour [(([120] : List UInt8), (3 : Int))]).length 0 [([120], 3)] (.slice none 0 0) [] w3 k3 (bt_nil _) (Nat.le_refl _) (by decide)
  clear k3 o3 HSY
  go_wp2_with fail
  refine HCR.mono ?_
  rintro e w4 ⟨v, rfl, hr4, hb4⟩
  have HB4 : Hid (Below w.heap.size w w4) := HB3.out.trans (hb4.mono HB3.out.size)
  rw [Nat.add_zero, List.take_length, List.append_nil] at hr4
  obtain ⟨x, c, rfl, -, hd4⟩ := dt_own hr4
  have hjp : 0 < (jour [(([120] : List UInt8), (3 : Int))]).length := jour_pos
  have hjl : (jour [(([120] : List UInt8), (3 : Int))]).length ≤ 80 := by
    have := jourF_len [(([120] : List UInt8), (3 : Int))] 0 (by intro e he; rw [List.mem_singleton.1 he]; exact hx) (by decide)
    exact Nat.le_trans this (by decide)
  have HOP := open_any x c (jour [(([120] : List UInt8), (3 : Int))]) w4 (HG.out.below HB4.out) hd4 (by omega)
  have hol : openL (jour [(([120] : List UInt8), (3 : Int))]) = [([120], 3)] := openL_jour (by intro e he; rw [List.mem_singleton.1 he]; exact hx) (by decide)
  rw [hol] at HOP
  clear hr4 hb4 hd4 hol HCR hx
  generalize jour [(([120] : List UInt8), (3 : Int))] = J at *
  go_wp2_with fail
  refine HOP.mono ?_
  rintro e w5 ⟨cm5, jv5, rfl, k5, -, -, hb5⟩
  have HB5 : Hid (Below w.heap.size w w5) := HB4.out.trans (hb5.mono HB4.out.size)
  have HGE := get_any w4.heap.size cm5 jv5 _ [([120], 3)] [120] w5 k5 (by decide)
  rw [HS0.out] at HGE
  have q1 : ((J.length : Int) == J.length) = true := by simp
  have q2 : (0 : Int) < J.length := by omega
  clear k5 hb5 HOP
  go_wp2_with fail
  refine HGE.mono ?_
  rintro e w6 ⟨rfl, hb6⟩
  go_wp2
  go_ret
  exact ⟨rfl, HB5.out.trans (hb6.mono HB5.out.size)⟩
end Go.Proofs.YtheadpemckoljaaGreatDoor
