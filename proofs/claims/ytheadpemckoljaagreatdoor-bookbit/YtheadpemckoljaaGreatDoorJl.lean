/-
  millracelaw.BookOpens: true. Conditions: the bytes lie in memory; what strconv and bytealg lay is laid.
-/
import Derived.Test.YtheadpemckoljaaGreatDoorJk
import Derived.Test.YtheadpemckoljaaGreatDoorJ8
namespace Go.Proofs.YtheadpemckoljaaGreatDoor
open Go.RowKit Go.Extern.Stop Go.Stop Go.Extern Go.Maps Go.WideMaps

theorem names_len {l : List Ent} {ss : List (List UInt8)} (h : NamesOf l ss) : ss.length ≤ l.length := by
  have := distinct_few (ss.map fun s => (s, (0 : Int))) l (by
    show List.Pairwise _ _
    rw [List.pairwise_map]
    exact h.1.imp fun {x y} hxy (e : x = y) => List.lt_irrefl y (by rw [e] at hxy; exact hxy)) (fun p hp => by
    obtain ⟨s, hs, rfl⟩ := List.mem_map.1 hp
    exact (h.2 s).1 hs)
  simpa using this
theorem conv_own {w : World} {base n : Nat} {e : TypeId} {v : Value} {l : List UInt8} (h : w.ownsRow base e 1 v n (Lib.byteCells l)) : (convert 25 9 v).run Tryz.prog w = .ok (.string ⟨l.toArray⟩) w := by
  rcases owns_some h with ⟨rfl, _, rfl⟩ | ⟨g, c, rfl, hn, hc, hm, hx⟩
  · exact conv_str0 w []
  · subst hn
    have hd : DtAt w (some ⟨g, 0, none⟩) c l := ⟨fun j x hj => ⟨g, 0, rfl, hx j x hj⟩, (fun e => by cases e), hc, hm⟩
    have := conv_str hd (Nat.le_refl _)
    rwa [List.take_length] at this
theorem ownS_below {w w' : World} {B : Nat} {e : TypeId} {v : Value} {n k : Nat} {xs : List Value} (h : w.ownsRow B e k v n xs) (hb : Below w.heap.size w w') : w'.ownsRow B e k v n xs := ownS_kept h fun j hj => hb.block j (ownS_lt h hj).2
set_option maxRecDepth 100000 in
set_option maxHeartbeats 8000000 in
theorem bookOpens_any (p : Option Addr) (c : Nat) (d : List UInt8) (w : World) (hG : GlobB w) (hd : DtAt w p c d) :
    Calls Tryz.prog 4 #[.slice p d.length c] w fun e w' => e = .returned (.bool true) ∧ Below w.heap.size w w' := by
  by_cases hdl : d.length ≤ 3000
  · have HG : Hid (∀ w', Below w.heap.size w w' → GlobB w') := fun w' hb => hG.below hb
    have HD : Hid (∀ w', Below w.heap.size w w' → DtAt w' p c d) := fun w' hb => hd.below hb
    have HOP := open_any p c d w hG hd (by omega)
    have hlen : ¬ (3000 : Int) < d.length := by omega
    obtain ⟨l, hl⟩ : ∃ l, openL d = l := ⟨_, rfl⟩
    rw [hl] at HOP
    have HL : Hid (openL d = l) := hl
    clear hl hG hd
    go_enter Tryz.func4, Tryz.ntmps4
    go_wp2_with fail
    refine HOP.mono ?_
    rintro e W1 ⟨cm, jv, rfl, hbk, hbs, hO, hb1⟩
    have HB1 : Hid (Below w.heap.size w W1) := hb1
    have HBK1 : Hid (BkAt W1 w.heap.size cm jv (jour l).length l) := hbk
    have hcv : (convert 25 9 (.slice p d.length c)).run Tryz.prog W1 = .ok (.string ⟨d.toArray⟩) W1 := by
      have := conv_str (HD.out W1 hb1) (Nat.le_refl _)
      rwa [List.take_length] at this
    have HRO := ropen_any d W1 (HG.out W1 hb1) (by omega)
    rw [HL.out] at HRO
    have hjl := hO.len
    have hfw := hO.few
    obtain ⟨J, hJ⟩ : ∃ J, jour l = J := ⟨_, rfl⟩
    rw [hJ] at HRO hjl
    have HJ : Hid (jour l = J) := hJ
    clear hbk hbs hO hb1 hJ
    rw [HJ.out]
    go_wp2_with fail
    refine HRO.mono ?_
    rintro e W2 ⟨lv, rfl, hrb, hrs, hb2⟩
    have HB2 : Hid (Below w.heap.size w W2) := HB1.out.trans (hb2.mono HB1.out.size)
    have HBK : Hid (∀ W, Below W2.heap.size W2 W → BkAt W w.heap.size cm jv (jour l).length l) := fun W hb => (HBK1.out.below hb2).below hb
    have HRB : Hid (∀ W, Below W2.heap.size W2 W → RbAt W W1.heap.size lv l) := fun W hb => hrb.below hb
    obtain ⟨lx, lc, rfl⟩ := owns_slice hrb.row
    have c0 := (one_cellj hrb.blk).1
    clear hcv hrb hrs hb2
    have HGG : Hid (∀ W, Below W2.heap.size W2 W → GlobB W) := fun W hb => HG.out W (HB2.out.trans (hb.mono HB2.out.size))
    have HC0 : Hid (∀ W, Below W2.heap.size W2 W → W.cell? ⟨W1.heap.size, 0, none⟩ = some (.slice lx l.length lc)) := fun W hb => (one_cellj (HRB.out W hb).blk).1
    have HLN : Hid (∀ W, Below W2.heap.size W2 W → Calls Tryz.prog 16 #[.pointer (some ⟨w.heap.size, 0, none⟩)] W fun e w' => e = .returned (.int .i64 (l.length : Nat)) ∧ Below W2.heap.size W2 w') := fun W hb => (lines_any _ _ _ _ l W (HBK.out W hb)).mono fun e w' ⟨a, b⟩ => ⟨a, hb.trans (b.mono hb.size)⟩
    have HNM : Hid (∀ W, Below W2.heap.size W2 W → Calls Tryz.prog 18 #[.pointer (some ⟨w.heap.size, 0, none⟩)] W fun e w' => ∃ v ss, e = .returned v ∧ NamesOf l ss ∧ w'.ownsRow W.heap.size 9 1 v ss.length (ss.map encStr) ∧ Below W2.heap.size W2 w') := fun W hb => (names_any _ _ _ _ l W (HBK.out W hb)).mono fun e w' ⟨v, ss, a, b, c, d⟩ => ⟨v, ss, a, b, c, hb.trans (d.mono hb.size)⟩
    have HRN : Hid (∀ W, Below W2.heap.size W2 W → Calls Tryz.prog 19 #[.pointer (some ⟨W1.heap.size, 0, none⟩)] W fun e w' => ∃ v ss, e = .returned v ∧ NamesOf l ss ∧ w'.ownsRow W.heap.size 9 1 v ss.length (ss.map encStr) ∧ Below W.heap.size W w' ∧ Below W2.heap.size W2 w') := fun W hb => (rnames_any _ _ l W (HRB.out W hb)).mono fun e w' ⟨v, ss, a, b, c, d⟩ => ⟨v, ss, a, b, c, d, hb.trans (d.mono hb.size)⟩
    go_upto_region 5 with (fail)
    go_cut [49] (fun v wx => v = .bool false ∧ Below W2.heap.size W2 wx)
    case first =>
      have hq1 : ((J.length : Int) != J.length) = false := by simp
      have hq2 : ((l.length : Int) != l.length) = false := by simp
      go_region_held3 (fun W => W.cell? ⟨W1.heap.size, 0, none⟩ = some (.slice lx l.length lc)) (first | (with_reducible exact HC0.out _ HS7.out) | (with_reducible exact HC0.out _ HS6.out) | (with_reducible exact HC0.out _ HS5.out) | (with_reducible exact HC0.out _ HS4.out) | (with_reducible exact HC0.out _ (Below.refl _ _).drew))
        (first
          | (go_at_call 16; refine (HLN.out _ (Below.refl _ _).drew).mono ?_; rintro e W4 ⟨rfl, hb4⟩; have HS4 : Hid (Below W2.heap.size W2 W4) := hb4; clear hb4)
          | (go_at_call 18; refine (HNM.out _ HS4.out).mono ?_; rintro e W5 ⟨v5, s5, rfl, hn5, hr5, hb5⟩; have HS5 : Hid (Below W2.heap.size W2 W5) := hb5; have HN5 : Hid (NamesOf l s5) := hn5; have HR5 : Hid (W5.ownsRow W4.heap.size 9 1 v5 s5.length (s5.map encStr)) := hr5; clear hb5 hn5 hr5)
          | (go_at_call 19; refine (HRN.out _ HS5.out).mono ?_; rintro e W6 ⟨v6, s6, rfl, hn6, hr6, hb6, hb6'⟩; have HS6 : Hid (Below W2.heap.size W2 W6) := hb6'; obtain rfl := names_one HN5.out hn6; have HR6 : Hid (W6.ownsRow W5.heap.size 9 1 v6 s5.length (s5.map encStr)) := hr6; have HR56 : Hid (W6.ownsRow W4.heap.size 9 1 v5 s5.length (s5.map encStr)) := ownS_below HR5.out hb6; clear hb6 hb6' hn6 hr6)
          | (go_at_call 17; refine (sameS_any s5 _ _ _ _ _ HR56.out HR6.out (by have := names_len HN5.out; omega)).mono ?_; rintro e W7 ⟨rfl, hb7⟩; have HS7 : Hid (Below W2.heap.size W2 W7) := HS6.out.trans (hb7.mono HS6.out.size); clear hb7))
      all_goals
        go_wp2
        go_meet
        case rel => exact ⟨rfl, HS7.out⟩
    case rest =>
    obtain ⟨rfl, hbc⟩ := hcut
    have HRNc := HRN.out wc hbc
    have HBC : Hid (Below W2.heap.size W2 wc) := hbc
    clear hbc c0
    go_wp2_with fail
    refine HRNc.mono ?_
    rintro e W3 ⟨v3, ss, rfl, hn3, hr3, -, hb3⟩
    have HB3 : Hid (Below W2.heap.size W2 W3) := hb3
    have HSS : Hid (NamesOf l ss) := hn3
    have hsl := names_len hn3
    obtain ⟨nx, nc, rfl⟩ := owns_slice hr3
    have HCS : Hid (∀ W, Below W3.heap.size W3 W → ∀ i s, ss[i]? = some s → ∃ g, nx = some ⟨g, 0, none⟩ ∧ W.cell? ⟨g, i, none⟩ = some (.string ⟨s.toArray⟩)) := fun W hb i s hs => by
      rcases owns_cells (ownS_below hr3 hb) with ⟨_, h0⟩ | ⟨g, c, hv, hc⟩
      · have := (List.getElem?_eq_some_iff.1 hs).1; omega
      · simp only [Value.slice.injEq, true_and] at hv
        exact ⟨g, hv.1, hc i _ (by rw [List.getElem?_map, hs]; rfl)⟩
    have HSM : Hid (∀ (i : Nat) (s : List UInt8), ss[i]? = some s → s.length ≤ maxLen) := fun i s hs => by
      obtain ⟨e, he, rfl⟩ := (HSS.out.2 s).1 (List.mem_of_getElem? hs)
      have := nameOk_len ((HBK.out W2 (Below.refl _ _)).ok e he).1
      unfold maxLen
      omega
    clear hn3 hr3 hb3 HRNc
    go_wp2
    go_loopg [8] ss.length (fun g v8 wx => ∃ i : Nat, i + g = ss.length ∧ v8 = .int .i64 i ∧ Hid (Below W3.heap.size W3 wx))
    case atStart => exact ⟨0, by omega, rfl, Below.refl _ _⟩
    case round =>
      obtain ⟨i, hig, rfl, HBR⟩ := hrel
      by_cases hi : i < ss.length
      · obtain ⟨s, hs⟩ : ∃ s, ss[i]? = some s := ⟨_, List.getElem?_eq_getElem hi⟩
        obtain ⟨g, rfl, -⟩ := HCS.out W3 (Below.refl _ _) i s hs
        have HCI : Hid (∀ W, Below W3.heap.size W3 W → W.cell? ⟨g, i, none⟩ = some (.string ⟨s.toArray⟩)) := fun W hb => by
          obtain ⟨g', e1, h⟩ := HCS.out W hb i s hs
          cases e1
          exact h
        have HGE : Hid (∀ W, Below W3.heap.size W3 W → Calls Tryz.prog 14 #[.pointer (some ⟨w.heap.size, 0, none⟩), .string ⟨s.toArray⟩] W fun e w' => e = .returned (.int .i64 (sumE l s)) ∧ Below W3.heap.size W3 w') := fun W hb => (get_any _ _ _ _ l s W (HBK.out W (HB3.out.trans (hb.mono HB3.out.size))) (HSM.out i s hs)).mono fun e w' ⟨a, b⟩ => ⟨a, hb.trans (b.mono hb.size)⟩
        have HGR : Hid (∀ W, Below W3.heap.size W3 W → Calls Tryz.prog 15 #[.pointer (some ⟨W1.heap.size, 0, none⟩), .string ⟨s.toArray⟩] W fun e w' => e = .returned (.int .i64 (sumE l s)) ∧ Below W3.heap.size W3 w') := fun W hb => (rget_any _ _ l s W (HRB.out W (HB3.out.trans (hb.mono HB3.out.size)))).mono fun e w' ⟨a, b⟩ => ⟨a, hb.trans (b.mono hb.size)⟩
        generalize sumE l s = m at HGE HGR
        have hq : (m != m) = false := by simp
        have hi1 : (i : Int) < ss.length := by omega
        clear hs
        go_wp2
        go_cut [70] (fun v wx => v = .bool false ∧ Hid (Below W3.heap.size W3 wx))
        case first =>
          go_region_held3 (fun W => W.cell? ⟨g, i, none⟩ = some (.string ⟨s.toArray⟩)) (first | (with_reducible exact HCI.out _ HS5.out) | (with_reducible exact HCI.out _ HS4.out) | (with_reducible exact HCI.out _ HBR.out.drew))
            (first
              | (go_at_call 14; refine (HGE.out _ HBR.out.drew).mono ?_; rintro e W4 ⟨rfl, hb4⟩; have HS4 : Hid (Below W3.heap.size W3 W4) := hb4; clear hb4)
              | (go_at_call 15; refine (HGR.out _ HS4.out).mono ?_; rintro e W5 ⟨rfl, hb5⟩; have HS5 : Hid (Below W3.heap.size W3 W5) := hb5; clear hb5))
          all_goals
            go_wp2
            go_meet
            case rel => exact ⟨rfl, HS5.out⟩
        case rest =>
        obtain ⟨rfl, HBX⟩ := hcut
        go_wp2
        go_roundg (gk - 1)
        case measure => omega
        case rel => exact ⟨i + 1, by omega, by go_num, HBX⟩
      · have hi1 : ¬ (i : Int) < ss.length := by omega
        have HBW : Hid (Below W2.heap.size W2 wr) := HB3.out.trans (HBR.out.mono HB3.out.size)
        have HCR := crash_yes w.heap.size cm jv (jour l).length 0 l (.slice none 0 0) [] wr (HBK.out wr HBW.out) (Or.inl ⟨rfl, Or.inl rfl⟩) (by omega) (by simp)
        rw [List.append_nil, Nat.add_zero, List.take_length, List.length_nil, Nat.add_zero, HJ.out] at HCR
        go_wp2_with fail
        refine HCR.mono ?_
        rintro e W8 ⟨v8, rfl, hr8, hb8⟩
        have HB8 : Hid (Below W2.heap.size W2 W8) := HBW.out.trans (hb8.mono HBW.out.size)
        have HCV : Hid (∀ W, Below W8.heap.size W8 W → (convert 25 9 v8).run Tryz.prog W = .ok (.string ⟨J.toArray⟩) W) := fun W hb => conv_own (ownS_below hr8 hb)
        have HRJ : Hid (∀ W, Below W8.heap.size W8 W → Calls Tryz.prog 13 #[.pointer (some ⟨W1.heap.size, 0, none⟩)] W fun e w' => e = .returned (.string ⟨J.toArray⟩) ∧ Below W8.heap.size W8 w') := fun W hb => by
          have := rjournal_any W1.heap.size _ l W (HRB.out W (HB8.out.trans (hb.mono HB8.out.size))) (HGG.out W (HB8.out.trans (hb.mono HB8.out.size))).tab
          rw [HJ.out] at this
          exact this.mono fun e w' ⟨a, b⟩ => ⟨a, hb.trans (b.mono hb.size)⟩
        have hq : (J == J) = true := by simp
        clear hr8 hb8 HCR
        go_wp2
        go_region_held3 (fun W => (convert 25 9 v8).run Tryz.prog W = .ok (.string ⟨J.toArray⟩) W) (first | (with_reducible exact HCV.out _ HS9.out) | (with_reducible exact HCV.out _ (Below.refl _ _).drew))
          (first
            | (go_at_call 13; refine (HRJ.out _ (Below.refl _ _).drew).mono ?_; rintro e W9 ⟨rfl, hb9⟩; have HS9 : Hid (Below W8.heap.size W8 W9) := hb9; clear hb9))
        all_goals
          go_wp2
          go_ret
          exact ⟨rfl, HB2.out.trans ((HB8.out.trans (HS9.out.mono HB8.out.size)).mono HB2.out.size)⟩
  · have hlen : (3000 : Int) < d.length := by omega
    clear hG hd
    go_enter Tryz.func4, Tryz.ntmps4
    go_wp2
    go_ret
    exact ⟨rfl, Below.refl _ _⟩
end Go.Proofs.YtheadpemckoljaaGreatDoor
