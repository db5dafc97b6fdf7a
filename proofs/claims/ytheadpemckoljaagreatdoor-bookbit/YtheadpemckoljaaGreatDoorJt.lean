/-
  millracekeep.BookBit: true. Conditions: the arguments lie in memory; what strconv and bytealg lay is laid.
-/
import Derived.Test.YtheadpemckoljaaGreatDoorJs
namespace Go.Proofs.YtheadpemckoljaaGreatDoor
open Go.RowKit Go.Extern.Stop Go.Stop Go.Extern Go.Maps Go.WideMaps

theorem count_succ {l : List UInt8} {i : Nat} {x : UInt8} (h : l[i]? = some x) : (l.take (i + 1)).count 10 = (l.take i).count 10 + if x = 10 then 1 else 0 := by
  rw [List.take_add_one, h, List.count_append]
  by_cases hx : x = 10
  · subst hx; simp
  · simp [hx]
theorem dt_set {w : World} {g cap n p : Nat} {cur : Array Value} {l : List UInt8} (tb : UInt8) (hh : w.heap[g]? = some (.cells cur 5 (0, 0))) (hn : n = l.length) (hx : n ≤ cap) (hm : cap ≤ maxLen) (hs : cur.size = cap) (ht : cur.toList.take n = Lib.byteCells l) (hp : p < n) :
    DtAt (w.setCell ⟨g, p, none⟩ (.int .u8 (tb.toNat : Int))) (some ⟨g, 0, none⟩) cap (l.set p tb) := by
  subst hn
  refine ⟨fun j x hj => ⟨g, 0, rfl, ?_⟩, (fun e => by cases e), by rw [List.length_set]; exact hx, hm⟩
  have hjl : j < l.length := by
    have := (List.getElem?_eq_some_iff.1 hj).1
    simpa using this
  rw [Nat.zero_add]
  simp only [World.cell?, heap_setCell_here hh]
  by_cases e : j = p
  · subst e
    rw [List.getElem?_set_self hjl] at hj
    obtain rfl := Option.some.inj hj
    have hj2 : j < cur.size := by omega
    rw [Array.getElem?_setIfInBounds, if_pos rfl, if_pos hj2]
    rfl
  · rw [List.getElem?_set_ne (fun h => e h.symm)] at hj
    have h1 : (Lib.byteCells l)[j]? = some (.int .u8 (x.toNat : Int)) := by unfold Lib.byteCells; rw [List.getElem?_map, hj]; rfl
    rw [← ht, List.getElem?_take_of_lt hjl, Array.getElem?_toList] at h1
    rw [Array.getElem?_setIfInBounds_ne (fun h => e h.symm)]
    exact h1
theorem byteCells_one (l : List UInt8) : ∀ u ∈ Lib.byteCells l, u.oneCell' = true := by
  intro u hu
  unfold Lib.byteCells at hu
  obtain ⟨x, _, rfl⟩ := List.mem_map.1 hu
  rfl
set_option maxRecDepth 100000 in
set_option maxHeartbeats 8000000 in
theorem bookBit_any (nx mx : Option Addr) (nc mc : Nat) (ss : List (List UInt8)) (ns : List Int) (at_ : Int) (tb : UInt8) (w : World) (hG : GlobB w)
    (h1 : SlV w nx (ss.map encStr)) (h2 : SlV w mx (ns.map (Value.int .i64))) (hsz : ∀ s ∈ ss, s.length ≤ maxLen) :
    Calls Tryz.prog 6 #[.slice nx ss.length nc, .slice mx ns.length mc, .int .i64 at_, .int .u8 (tb.toNat : Int)] w fun e w' => e = .returned (.bool true) ∧ Below w.heap.size w w' := by
  have HG : Hid (GlobB w) := hG
  by_cases g1 : 40 < ss.length
  · have k1 : (40 : Int) < ss.length := by omega
    clear hG h1 h2 hsz
    go_enter Tryz.func6, Tryz.ntmps6
    go_wp2
    go_ret
    exact ⟨rfl, Below.refl _ _⟩
  have k1 : ¬ (40 : Int) < ss.length := by omega
  have HWR := written_any nx mx none nc mc 0 ss ns [] w hG.tab h1 h2 (fun j v hj => by simp at hj) (by omega) hsz
  rw [List.length_nil] at HWR
  clear hG h1 h2 hsz
  go_enter Tryz.func6, Tryz.ntmps6
  go_wp2_with fail
  refine HWR.mono ?_
  rintro e w1 ⟨es, q, lx, lc, kx, kc, rfl, cm, jv, hq, h60, hi1⟩
  have HSY := inv_sync w1 hi1
  have HOK : Hid (∀ e ∈ es, EntOk e) := hi1.bk.ok
  have HJL : Hid ((jour es).length ≤ 4800) := by
    have h1 := jourF_len es 0 hi1.bk.ok (by omega)
    show (jourF 0 es).length ≤ 4800
    omega
  clear hi1 HWR hq
  go_wp2_with fail
  refine HSY.mono ?_
  rintro e w2 ⟨rfl, hi2⟩
  have HCY := crash_yes w.heap.size cm jv (jour es).length 0 es (.slice none 0 0) [] w2 hi2.bk (bt_nil _) (Nat.le_refl _) (by decide)
  rw [Nat.add_zero, List.take_length, List.append_nil] at HCY
  have HI2 : Hid (Inv w.heap.size w w2 w.heap.size cm jv (jour es).length es (.slice lx es.length lc) (.slice kx es.length kc) es.length es.length (encS es) (encN es)) := hi2
  obtain ⟨J, HJ⟩ : ∃ J, Hid (jour es = J) := ⟨_, rfl⟩
  rw [HJ.out] at HCY HI2 HJL
  clear hi2 HSY
  go_wp2_with fail
  refine HCY.mono ?_
  rintro e w3 ⟨v3, rfl, hr3, hb3⟩
  have HI3 : Hid (Inv w.heap.size w w3 w.heap.size cm jv J.length es (.slice lx es.length lc) (.slice kx es.length kc) es.length es.length (encS es) (encN es)) := HI2.out.below hb3
  have HBO := booked_any w3 (HG.out.below HI3.out.bel)
  obtain ⟨x3, c3, rfl, -, hd3⟩ := dt_own hr3
  have HR3 : Hid (DtAt w3 x3 c3 J) := hd3
  clear hr3 hb3 HCY hd3
  go_wp2_with fail
  refine HBO.mono ?_
  rintro e w4 ⟨rfl, hb4⟩
  have HI4 : Hid (Inv w.heap.size w w4 w.heap.size cm jv J.length es (.slice lx es.length lc) (.slice kx es.length kc) es.length es.length (encS es) (encN es)) := HI3.out.below hb4
  have HR4 : Hid (DtAt w4 x3 c3 J) := HR3.out.below hb4
  clear hb4 HBO
  cases hes : es with
  | nil =>
    have hJ0 : J = [] := by rw [← HJ.out, hes]; rfl
    have z1 : ((J.length : Int) == 0) = true := by rw [hJ0]; rfl
    have z2 : ((([] : List Ent).length : Int) == 0) = true := rfl
    have HIB : Hid (Below w.heap.size w w4) := HI4.out.bel
    clear hJ0 HI4 HI3 HI2 HOK HJ HR4 HR3
    subst hes
    go_wp2
    go_ret
    exact ⟨rfl, HIB.out⟩
  | cons e0 es0 =>
  rw [← hes]
  have hJ1 : 0 < J.length := by rw [← HJ.out, hes]; exact jour_pos
  clear hes
  have z1 : ((J.length : Int) == 0) = false := beq_eq_false_iff_ne.2 (by omega)
  obtain ⟨g3, rfl, HC⟩ : ∃ g, x3 = some g ∧ Hid (∀ W, Below w4.heap.size w4 W → ∀ (j : Nat) x, J[j]? = some x → ∃ b o, g = ⟨b, o, none⟩ ∧ W.cell? ⟨b, o + j, none⟩ = some (.int .u8 (x.toNat : Int))) := by
    cases x3 with
    | none => have := HR4.out.nil rfl; have := HR4.out.cap; omega
    | some g => exact ⟨g, rfl, fun W hb j x hj => by
        obtain ⟨b, o, e, h⟩ := (HR4.out.below hb).lie j x hj
        exact ⟨b, o, Option.some.inj e, h⟩⟩
  obtain ⟨b3, o3, rfl, -⟩ := HC.out w4 (Below.refl _ _) 0 J[0] (List.getElem?_eq_getElem hJ1)
  have HCC : Hid (∀ W, Below w4.heap.size w4 W → ∀ (j : Nat) x, J[j]? = some x → W.cell? ⟨b3, o3 + j, none⟩ = some (.int .u8 (x.toNat : Int))) := fun W hb j x hj => by
    obtain ⟨b, o, e, h⟩ := HC.out W hb j x hj
    cases e
    exact h
  have hp := pck_lt at_ hJ1
  have hJL := HJL.out
  have HPI := pick_any at_ J.length hJ1 (by omega) w4
  obtain ⟨p, HP⟩ : ∃ p, Hid (pck at_ J.length = p) := ⟨_, rfl⟩
  rw [HP.out] at HPI hp
  clear HC
  go_wp2_with fail
  refine HPI.mono ?_
  rintro e w5 ⟨rfl, hw5⟩
  have HB5 : Hid (Below w4.heap.size w4 w5) := by rw [hw5]; exact Below.refl _ _
  clear hw5 HPI
  go_wp2
  go_loopg [15, 16] p (fun g v15 v16 wx => ∃ i : Nat, i + g = p ∧ v15 = .int .i64 ((J.take i).count 10 : Nat) ∧ v16 = .int .i64 i ∧ Hid (Below w4.heap.size w4 wx))
  case atStart => exact ⟨0, by omega, rfl, rfl, HB5.out⟩
  case round =>
    obtain ⟨i, hig, rfl, rfl, HB⟩ := hrel
    by_cases hi : i < p
    · have hi1 : (i : Int) < p := by omega
      have hi2 : (i : Int) < J.length := by omega
      obtain ⟨x, hx⟩ : ∃ x, J[i]? = some x := ⟨_, List.getElem?_eq_getElem (by omega)⟩
      have c0 := HCC.out wr HB.out i x hx
      have hcs := count_succ hx
      have hcl : (J.take i).count 10 ≤ 4800 := Nat.le_trans List.count_le_length (by rw [List.length_take]; omega)
      clear hx
      by_cases hx10 : x = 10
      · rw [if_pos hx10] at hcs
        have HCS : Hid ((J.take (i + 1)).count 10 = (J.take i).count 10 + 1) := hcs
        have d1 : (((x.toNat : Nat) : Int) == 10) = true := by rw [hx10]; rfl
        clear hcs hx10
        generalize (J.take i).count 10 = ct at *
        have hw1 : IntKind.i64.wrap ((ct : Int) + 1) = ((ct + 1 : Nat) : Int) := by rw [IntKind.wrap_i64]; omega
        go_wp2
        go_roundg (gk - 1)
        case measure => omega
        case rel => exact ⟨i + 1, by omega, by rw [HCS.out]; rfl, by go_num, HB.out⟩
      · rw [if_neg hx10] at hcs
        have HCS : Hid ((J.take (i + 1)).count 10 = (J.take i).count 10 + 0) := hcs
        have d1 : (((x.toNat : Nat) : Int) == 10) = false := by
          have : ¬ x.toNat = 10 := fun e => hx10 (UInt8.toNat_inj.1 (by rw [e]; rfl))
          simp
          omega
        clear hcs hx10
        generalize (J.take i).count 10 = ct at *
        go_wp2
        go_roundg (gk - 1)
        case measure => omega
        case rel => exact ⟨i + 1, by omega, by rw [HCS.out]; rfl, by go_num, HB.out⟩
    · obtain rfl : i = p := by omega
      have hi1 : ¬ (i : Int) < i := by omega
      have hi2 : (i : Int) < J.length := by omega
      obtain ⟨x, hx⟩ : ∃ x, J[i]? = some x := ⟨_, List.getElem?_eq_getElem hp⟩
      have HX : Hid (J[i]? = some x) := hx
      have c0 := HCC.out wr HB.out i x hx
      clear hx hi
      by_cases hxt : x = tb
      · have d1 : (((x.toNat : Nat) : Int) == (tb.toNat : Int)) = true := by rw [hxt]; simp
        have HIB : Hid (Below w.heap.size w wr) := (HI4.out.below HB.out).bel
        clear hxt
        go_wp2
        go_ret
        exact ⟨rfl, HIB.out⟩
      have d1 : (((x.toNat : Nat) : Int) == (tb.toNat : Int)) = false := by
        have : ¬ x.toNat = tb.toNat := fun e => hxt (UInt8.toNat_inj.1 e)
        simp
        omega
      have HXT : Hid (x ≠ tb) := hxt
      obtain ⟨r, hr, hol, hjr, hct⟩ := openL_flip HOK.out (by omega) (p := i) (x := x) (tb := tb) (by rw [HJ.out]; exact HX.out) HXT.out
      rw [HJ.out] at hol hct
      have HOL : Hid (openL (J.set i tb) = es.take r) := hol
      obtain ⟨K, HK⟩ : ∃ K, Hid ((jour (es.take r)).length = K) := ⟨_, rfl⟩
      rw [HK.out] at hjr
      have hki : (K : Int) ≤ i := by omega
      rw [hct]
      clear hol hct hjr
      obtain ⟨i0, hi0, hz0, hz1, hz2⟩ := info3 infoByte
      have HCA : Hid (∀ (j : Nat) u, (Lib.byteCells J)[j]? = some u → (wr.alloc (.cells #[] 5)).cell? ((⟨b3, o3, none⟩ : Addr).add j) = some u) := by
        intro j u hj
        obtain ⟨y, hy, rfl⟩ := byteCells_get hj
        have := HCC.out wr HB.out j y hy
        rw [Go.WideShapes.add_plain, World.cell?_alloc_lt _ _ _ (World.block_lt_of_cell? _ _ this)]
        exact this
      have hbl : (Lib.byteCells J).length = J.length * 1 := by unfold Lib.byteCells; simp
      have q1 : 0 + J.length ≤ maxLen := by unfold maxLen; omega
      have q2 : (0 + J.length) * 1 ≤ 140737488355328 := by omega
      have HBL : Hid _ := hbl
      clear hxt hbl
      go_wp2_with (at_builtin; refine wpList_append_own _ rfl _ _ 25 rfl wr.heap.size 5 i0 (.int .u8 0) 1 1 Tryz.underlying25 hi0 hz0 hz1 hz2 rfl (by decide) _ 0 [] rfl (World.ownsRow_made wr #[] 0 (Nat.le_refl _) (Nat.zero_le _) rfl) ⟨b3, o3, none⟩ J.length c3 (Lib.byteCells J) rfl HBL.out HCA.out (byteCells_one J) q1 q2 (by simp) ?_; intro v' w6 hown6 hgrow6 _; rw [Nat.zero_add, List.nil_append] at hown6; obtain ⟨g6, cap6, cur6, rfl, hgB, hh6, hn6, hx6, hs6, ht6⟩ := own_some1 hown6 hJ1; have hsz6 : i < cur6.size := (by omega); obtain ⟨u0, y0⟩ : ∃ u, w6.cell? ⟨g6, i, none⟩ = some u := ⟨cur6[i], (by simp [World.cell?, hh6, hsz6])⟩; have z0 : w6.frozen? ⟨g6, i, none⟩ = false := (by simp [World.frozen?, hh6]))
      have HH6 : Hid (w6.heap[g6]? = some (.cells cur6 5 (0, 0))) := hh6
      have HB7 : Hid (Below wr.heap.size wr (w6.setCell ⟨g6, i, none⟩ (.int .u8 (tb.toNat : Int)))) :=
        (Below.grown (below_alloc_ (Below.refl wr.heap.size wr) (.cells #[] 5)) hgrow6 (by simp) (fun j hj => by cases hj; exact Nat.le_refl _)).setCell (p := ⟨g6, i, none⟩) hgB _
      have HD7 : Hid (DtAt (w6.setCell ⟨g6, i, none⟩ (.int .u8 (tb.toNat : Int))) (some ⟨g6, 0, none⟩) cap6 (J.set i tb)) := dt_set tb hh6 rfl hn6 hx6 hs6 ht6 hp
      have hca6 : J.length ≤ cap6 := hn6
      clear hown6 hgrow6 hgB hh6 hx6 hs6 ht6 hsz6 c0 d1 hn6
      have HI7 : Hid (Inv w.heap.size w (w6.setCell ⟨g6, i, none⟩ (.int .u8 (tb.toNat : Int))) w.heap.size cm jv J.length es (.slice lx es.length lc) (.slice kx es.length kc) es.length es.length (encS es) (encN es)) := (HI4.out.below HB.out).below HB7.out
      have HOP : Hid (Calls Tryz.prog 21 #[.slice (some ⟨g6, 0, none⟩) J.length cap6] (w6.setCell ⟨g6, i, none⟩ (.int .u8 (tb.toNat : Int))) fun e w' => ∃ cm' jv', e = .returned (.tuple #[.pointer (some ⟨w6.heap.size, 0, none⟩), .int .i64 (K : Nat)]) ∧ BkAt w' w6.heap.size cm' jv' K (es.take r) ∧ Below w6.heap.size (w6.setCell ⟨g6, i, none⟩ (.int .u8 (tb.toNat : Int))) w') := by
        have hop := open_any (some ⟨g6, 0, none⟩) cap6 (J.set i tb) _ (HG.out.below HI7.out.bel) HD7.out (by rw [List.length_set]; omega)
        rw [HOL.out, HK.out, List.length_set] at hop
        have hs : (w6.setCell ⟨g6, i, none⟩ (.int .u8 (tb.toNat : Int))).heap.size = w6.heap.size := by simp [World.setCell]
        rw [hs] at hop
        exact hop.mono fun e w' ⟨a, b, c, d, _, _, f⟩ => ⟨a, b, c, d, f⟩
      have hs7 : (w6.setCell ⟨g6, i, none⟩ (.int .u8 (tb.toNat : Int))).heap.size = w6.heap.size := by simp [World.setCell]
      have HS7 : Hid _ := hs7
      clear hs7
      go_wp2_with fail
      refine HOP.out.mono ?_
      rintro e w8 ⟨cm8, jv8, rfl, k8, hb8⟩
      have HI8 : Hid (Inv w.heap.size w w8 w.heap.size cm jv J.length es (.slice lx es.length lc) (.slice kx es.length kc) es.length es.length (encS es) (encN es)) := HI7.out.below (by rw [HS7.out]; exact hb8)
      have HHA := has_any w6.heap.size cm8 jv8 K es r w.heap.size lx kx lc kc w8 k8 hr HI8.out.ls HI8.out.ns h60
      clear k8 hb8 y0 z0
      go_wp2_with fail
      refine HHA.mono ?_
      rintro e w9 ⟨rfl, hb9⟩
      go_wp2
      go_ret
      exact ⟨rfl, (HI8.out.below hb9).bel⟩
end Go.Proofs.YtheadpemckoljaaGreatDoor
