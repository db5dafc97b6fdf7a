/-
  millracelaw.BookPlays: true. Conditions: the arguments lie in memory; what strconv lays is laid; errors.errorType holds its handle.
-/
import Derived.Test.YtheadpemckoljaaGreatDoorJn
import Derived.Test.YtheadpemckoljaaGreatDoorJl
import Derived.Test.YtheadpemckoljaaGreatDoorEr
namespace Go.Proofs.YtheadpemckoljaaGreatDoor
open Go.RowKit Go.Extern.Stop Go.Stop Go.Extern Go.Maps Go.WideMaps

/-- Values of one cell that lie at a slice's address. -/
def SlV (w : World) (x : Option Addr) (vs : List Value) : Prop := ∀ (j : Nat) v, vs[j]? = some v → ∃ b o, x = some ⟨b, o, none⟩ ∧ w.cell? ⟨b, o + j, none⟩ = some v
theorem SlV.below {w w' : World} {x : Option Addr} {vs : List Value} (h : SlV w x vs) (hb : Below w.heap.size w w') : SlV w' x vs := fun j v hj => by
  obtain ⟨b, o, h1, h2⟩ := h j v hj
  exact ⟨b, o, h1, (hb.cell (p := ⟨b, o + j, none⟩) (World.block_lt_of_cell? w _ h2)).trans h2⟩
theorem ba_toList (l : List UInt8) : (⟨l.toArray⟩ : ByteArray).toList = l := by simp
theorem bt_of_dt {w : World} {p : Option Addr} {c : Nat} {d : List UInt8} (h : DtAt w p c d) : BtAt w (.slice p d.length c) d := by
  cases d with
  | nil =>
    left
    refine ⟨rfl, ?_⟩
    cases p with
    | none => have := h.nil rfl; subst this; exact Or.inl rfl
    | some a => exact Or.inr ⟨a, c, rfl⟩
  | cons x d =>
    obtain ⟨b, o, rfl, -⟩ := h.lie 0 x rfl
    refine Or.inr ⟨b, o, c, rfl, fun j y hy => ?_⟩
    obtain ⟨b', o', e, h2⟩ := h.lie j y hy
    cases e
    exact h2
theorem add_both (B b r sure : Nat) (l : List Ent) (s : List UInt8) (n : Int) (w : World) (hL : Laid w) (hT : Tab w) (hs : s.length ≤ maxLen) (hB : B = w.heap.size) : ∃ (V : Value) (E : Int) (l' : List Ent), l'.length ≤ l.length + 1 ∧
    (∀ W, Below B w W → Two B W b r sure l l → Calls Tryz.prog 8 #[.pointer (some ⟨b, 0, none⟩), .string ⟨s.toArray⟩, .int .i64 n] W fun e w' => e = .returned V ∧ Two B w' b r sure l' l ∧ Below B w w') ∧
    (∀ W, Below B w W → Two B W b r sure l' l → Calls Tryz.prog 9 #[.pointer (some ⟨r, 0, none⟩), .string ⟨s.toArray⟩, .int .i64 n] W fun e w' => e = .returned (.int .i64 E) ∧ Two B w' b r sure l' l' ∧ Below B w w') ∧
    (∀ W, Below B w W → Calls Tryz.prog 7 #[V, .int .i64 E] W fun e w' => e = .returned (.bool true) ∧ Below W.heap.size W w') := by
  subst hB
  by_cases hae : addE l.length (s, n) = 0
  · obtain ⟨he, hl⟩ := addE_zero hae
    refine ⟨.nilIface, 0, l ++ [(s, n)], by simp, fun W hb h2 => ?_, fun W hb h2 => ?_, fun W hb => bare_nil W (hL.below hb)⟩
    · exact (two_add _ _ _ _ l s n W h2 (hT.below hb) he hl).mono fun e w' ⟨a, b, c⟩ => ⟨a, b, hb.trans c⟩
    · exact (two_radd _ _ _ _ _ l s n W h2 he hl).mono fun e w' ⟨a, b, c⟩ => ⟨a, b, hb.trans c⟩
  · refine ⟨.iface 37 (.int .i64 (addE l.length (s, n))), addE l.length (s, n), l, by omega, fun W hb h2 => ?_, fun W hb h2 => ?_, fun W hb => bare_no _ W (hL.below hb) hae⟩
    · exact (two_add_no _ _ _ _ l l s n W h2 hs hae).mono fun e w' ⟨a, c⟩ => ⟨a, h2.below c, hb.trans (c.mono hb.size)⟩
    · exact (two_radd_no _ _ _ _ l l s n W h2 hs hae).mono fun e w' ⟨a, c⟩ => ⟨a, by rw [c]; exact h2, by rw [c]; exact hb⟩
set_option maxRecDepth 100000 in
set_option maxHeartbeats 8000000 in
theorem bookPlays_any (nx mx bx tx : Option Addr) (nc mc bc tc : Nat) (ss : List (List UInt8)) (ns : List Int) (bs : List Bool) (keep : Int) (torn : List UInt8) (w : World) (hL : Laid w) (hT : Tab w)
    (h1 : SlV w nx (ss.map encStr)) (h2 : SlV w mx (ns.map (Value.int .i64))) (h3 : SlV w bx (bs.map Value.bool)) (h4 : DtAt w tx tc torn) :
    Calls Tryz.prog 3 #[.slice nx ss.length nc, .slice mx ns.length mc, .slice bx bs.length bc, .int .i64 keep, .slice tx torn.length tc] w fun e w' => e = .returned (.bool true) ∧ Below w.heap.size w w' := by
  have HL : Hid (∀ W, Below w.heap.size w W → Laid W) := fun W hb => hL.below hb
  have HT : Hid (∀ W, Below w.heap.size w W → Tab W) := fun W hb => hT.below hb
  have H1 : Hid (∀ W, Below w.heap.size w W → SlV W nx (ss.map encStr)) := fun W hb => h1.below hb
  have H2 : Hid (∀ W, Below w.heap.size w W → SlV W mx (ns.map (Value.int .i64))) := fun W hb => h2.below hb
  have H3 : Hid (∀ W, Below w.heap.size w W → SlV W bx (bs.map Value.bool)) := fun W hb => h3.below hb
  have H4 : Hid (∀ W, Below w.heap.size w W → DtAt W tx tc torn) := fun W hb => h4.below hb
  have HL0 : Hid (Laid w) := hL
  have HT0 : Hid (Tab w) := hT
  have HNW := two_new w.heap.size w (Nat.le_refl _)
  have HBW : Below w.heap.size w ((w.alloc (.cells #[.map none, .slice none 0 0, .int .i64 0, .int .i64 0] 28)).alloc (.cells #[.slice none 0 0] 32)) := below_alloc_ (below_alloc_ (Below.refl _ _) _) _
  clear h1 h2 h3 h4 hL hT
  by_cases g1 : 60 < ss.length
  · have k1 : (60 : Int) < ss.length := by omega
    clear HNW HBW
    go_enter Tryz.func3, Tryz.ntmps3
    go_wp2
    go_ret
    exact ⟨rfl, Below.refl _ _⟩
  have k1 : ¬ (60 : Int) < ss.length := by omega
  by_cases g2 : ns.length < ss.length
  · have k2 : (ns.length : Int) < ss.length := by omega
    clear HNW HBW
    go_enter Tryz.func3, Tryz.ntmps3
    go_wp2
    go_ret
    exact ⟨rfl, Below.refl _ _⟩
  have k2 : ¬ (ns.length : Int) < ss.length := by omega
  by_cases g3 : 200 < torn.length
  · have k3 : (200 : Int) < torn.length := by omega
    clear HNW HBW
    go_enter Tryz.func3, Tryz.ntmps3
    go_wp2
    go_ret
    exact ⟨rfl, Below.refl _ _⟩
  have k3 : ¬ (200 : Int) < torn.length := by omega
  have HNW0 : Hid _ := HNW
  have HBW0 : Hid _ := HBW
  clear HNW HBW
  go_enter Tryz.func3, Tryz.ntmps3
  go_wp2
  go_loopg [13, 14] ss.length (fun g v13 v14 wx => ∃ (i sure : Nat) (l : List Ent), i + g = ss.length ∧ v13 = .int .i64 sure ∧ v14 = .int .i64 i ∧ l.length ≤ i ∧ Hid (Two w.heap.size wx w.heap.size (w.heap.size + 1) sure l l) ∧ Hid (Below w.heap.size w wx))
  case atStart => exact ⟨0, 0, [], by omega, rfl, rfl, Nat.le_refl _, HNW0.out, HBW0.out⟩
  case round =>
    obtain ⟨i, sure, l, hig, rfl, rfl, hli, HTW, HBR⟩ := hrel
    by_cases hi : i < ss.length
    · obtain ⟨s, hs⟩ : ∃ s, ss[i]? = some s := ⟨_, List.getElem?_eq_getElem hi⟩
      obtain ⟨n, hn⟩ : ∃ n, ns[i]? = some n := ⟨_, List.getElem?_eq_getElem (by omega)⟩
      have HC1 : Hid (∀ W, Below w.heap.size w W → ∃ b o, nx = some ⟨b, o, none⟩ ∧ W.cell? ⟨b, o + i, none⟩ = some (.string ⟨s.toArray⟩)) := fun W hb => H1.out W hb i _ (by rw [List.getElem?_map, hs]; rfl)
      have HC2 : Hid (∀ W, Below w.heap.size w W → ∃ b o, mx = some ⟨b, o, none⟩ ∧ W.cell? ⟨b, o + i, none⟩ = some (.int .i64 n)) := fun W hb => H2.out W hb i _ (by rw [List.getElem?_map, hn]; rfl)
      obtain ⟨nb, no, rfl, c1⟩ := HC1.out wr HBR.out
      obtain ⟨mb, mo, rfl, c2⟩ := HC2.out wr HBR.out
      have HN1 : Hid (∀ W, Below w.heap.size w W → W.cell? ⟨nb, no + i, none⟩ = some (.string ⟨s.toArray⟩)) := fun W hb => by
        obtain ⟨b, o, e, h⟩ := HC1.out W hb
        cases e
        exact h
      have HN2 : Hid (∀ W, Below w.heap.size w W → W.cell? ⟨mb, mo + i, none⟩ = some (.int .i64 n)) := fun W hb => by
        obtain ⟨b, o, e, h⟩ := HC2.out W hb
        cases e
        exact h
      have hi1 : (i : Int) < ss.length := by omega
      have hi2 : (i : Int) < ns.length := by omega
      clear hs hn c2
      by_cases hsl : 40 < s.length
      · have hz : (40 : Int) < s.length := by omega
        go_wp2
        go_ret
        exact ⟨rfl, HBR.out⟩
      have hz : ¬ (40 : Int) < s.length := by omega
      have hsm : s.length ≤ maxLen := by unfold maxLen; omega
      obtain ⟨V, E, l', hl', hA, hR, hBa⟩ := add_both w.heap.size w.heap.size (w.heap.size + 1) sure l s n w HL0.out HT0.out hsm rfl
      have HA : Hid _ := hA
      have HR : Hid _ := hR
      have HBa : Hid _ := hBa
      have HNA : Hid (∀ W, Calls Tryz.prog 10 #[.string ⟨s.toArray⟩] W fun e w' => e = .returned (.bool (nameOk s)) ∧ Below W.heap.size W w') := fun W => by
        have := name_any ⟨s.toArray⟩ W (by show s.toArray.size ≤ maxLen; rw [List.size_toArray]; exact hsm)
        have ed : (⟨s.toArray⟩ : ByteArray).data.toList = s := List.toList_toArray
        rw [ed] at this
        exact this
      have HNC : Hid (∀ W, Calls Tryz.prog 11 #[.string ⟨s.toArray⟩] W fun e w' => e = .returned (.bool (nameOk s)) ∧ w' = W) := fun W => by
        have := rname_any ⟨s.toArray⟩ W (by show s.toArray.size ≤ maxLen; rw [List.size_toArray]; exact hsm)
        have ed : (⟨s.toArray⟩ : ByteArray).data.toList = s := List.toList_toArray
        rw [ed] at this
        exact this
      generalize nameOk s = kb at HNA HNC
      have hq : (kb != kb) = false := by simp
      clear hA hR hBa
      go_upto_region 11 with (fail)
      clear c1
      go_cut [80] (fun v wx => v = .bool false ∧ Hid (Two w.heap.size wx w.heap.size (w.heap.size + 1) sure l' l') ∧ Hid (Below w.heap.size w wx))
      case first =>
        go_region_held3 (fun W => W.cell? ⟨nb, no + i, none⟩ = some (.string ⟨s.toArray⟩) ∧ W.cell? ⟨mb, mo + i, none⟩ = some (.int .i64 n)) (first | (with_reducible exact ⟨HN1.out _ HS7.out, HN2.out _ HS7.out⟩) | (with_reducible exact ⟨HN1.out _ HS6.out, HN2.out _ HS6.out⟩) | (with_reducible exact ⟨HN1.out _ HS5.out, HN2.out _ HS5.out⟩) | (with_reducible exact ⟨HN1.out _ HS4.out, HN2.out _ HS4.out⟩) | (with_reducible exact ⟨HN1.out _ HBR.out.drew, HN2.out _ HBR.out.drew⟩))
          (first
            | (go_at_call 8; refine (HA.out _ HBR.out.drew (HTW.out.below (Below.refl _ _).drew)).mono ?_; rintro e W4 ⟨rfl, ht4, hb4⟩; have HT4 : Hid (Two w.heap.size W4 w.heap.size (w.heap.size + 1) sure l' l) := ht4; have HS4 : Hid (Below w.heap.size w W4) := hb4; clear ht4 hb4)
            | (go_at_call 9; refine (HR.out _ HS4.out HT4.out).mono ?_; rintro e W5 ⟨rfl, ht5, hb5⟩; have HT5 : Hid (Two w.heap.size W5 w.heap.size (w.heap.size + 1) sure l' l') := ht5; have HS5 : Hid (Below w.heap.size w W5) := hb5; clear ht5 hb5)
            | (go_at_call 7; refine (HBa.out _ HS5.out).mono ?_; rintro e W6 ⟨rfl, hb6⟩; have HT6 : Hid (Two w.heap.size W6 w.heap.size (w.heap.size + 1) sure l' l') := HT5.out.below hb6; have HS6 : Hid (Below w.heap.size w W6) := HS5.out.trans (hb6.mono HS5.out.size); clear hb6)
            | (go_at_call 10; refine (HNA.out _).mono ?_; rintro e W7 ⟨rfl, hb7⟩; have HT7 : Hid (Two w.heap.size W7 w.heap.size (w.heap.size + 1) sure l' l') := HT6.out.below hb7; have HS7 : Hid (Below w.heap.size w W7) := HS6.out.trans (hb7.mono HS6.out.size); clear hb7)
            | (go_at_call 11; refine (HNC.out _).mono ?_; rintro e W8 ⟨rfl, rfl⟩))
        all_goals
          go_wp2
          go_meet
          case rel => exact ⟨rfl, HT7.out, HS7.out⟩
      case rest =>
      obtain ⟨rfl, HT2, HBC⟩ := hcut
      by_cases hib : i < bs.length
      · obtain ⟨bv, hbv⟩ : ∃ b, bs[i]? = some b := ⟨_, List.getElem?_eq_getElem hib⟩
        obtain ⟨bb, bo, rfl, c3⟩ := H3.out wc HBC.out i _ (by rw [List.getElem?_map, hbv]; rfl)
        have hib1 : (i : Int) < bs.length := by omega
        clear hbv
        cases bv with
        | false =>
          obtain ⟨rx, rc, hrc⟩ := HT2.out.rcell
          have hrl := World.block_lt_of_cell? wc _ hrc
          have HRC : Hid (∀ W, Below wc.heap.size wc W → W.cell? ⟨w.heap.size + 1, 0, none⟩ = some (.slice rx l'.length rc)) := fun W hb => (hb.cell (p := ⟨w.heap.size + 1, 0, none⟩) hrl).trans hrc
          have HBX : Hid (∀ W, Below wc.heap.size wc W → Below w.heap.size w W) := fun W hb => HBC.out.trans (hb.mono HBC.out.size)
          have HGE : Hid (∀ W, Below wc.heap.size wc W → Calls Tryz.prog 14 #[.pointer (some ⟨w.heap.size, 0, none⟩), .string ⟨s.toArray⟩] W fun e w' => e = .returned (.int .i64 (sumE l' s)) ∧ Below wc.heap.size wc w') := fun W hb => (two_get _ _ _ _ _ _ s W (HT2.out.below hb) hsm).mono fun e w' ⟨a, b⟩ => ⟨a, hb.trans (b.mono hb.size)⟩
          have HGR : Hid (∀ W, Below wc.heap.size wc W → Calls Tryz.prog 15 #[.pointer (some ⟨w.heap.size + 1, 0, none⟩), .string ⟨s.toArray⟩] W fun e w' => e = .returned (.int .i64 (sumE l' s)) ∧ Below wc.heap.size wc w') := fun W hb => (two_rget _ _ _ _ _ _ s W (HT2.out.below hb)).mono fun e w' ⟨a, b⟩ => ⟨a, hb.trans (b.mono hb.size)⟩
          have HLN : Hid (∀ W, Below wc.heap.size wc W → Calls Tryz.prog 16 #[.pointer (some ⟨w.heap.size, 0, none⟩)] W fun e w' => e = .returned (.int .i64 (l'.length : Nat)) ∧ Below wc.heap.size wc w') := fun W hb => (two_lines _ _ _ _ _ _ W (HT2.out.below hb)).mono fun e w' ⟨a, b⟩ => ⟨a, hb.trans (b.mono hb.size)⟩
          have HNM : Hid (∀ W, Below wc.heap.size wc W → Calls Tryz.prog 18 #[.pointer (some ⟨w.heap.size, 0, none⟩)] W fun e w' => ∃ v ss, e = .returned v ∧ NamesOf l' ss ∧ w'.ownsRow W.heap.size 9 1 v ss.length (ss.map encStr) ∧ Below wc.heap.size wc w') := fun W hb => (two_names _ _ _ _ _ _ W (HT2.out.below hb)).mono fun e w' ⟨v, ss, a, b, c, d⟩ => ⟨v, ss, a, b, c, hb.trans (d.mono hb.size)⟩
          have HRM : Hid (∀ W, Below wc.heap.size wc W → Calls Tryz.prog 19 #[.pointer (some ⟨w.heap.size + 1, 0, none⟩)] W fun e w' => ∃ v ss, e = .returned v ∧ NamesOf l' ss ∧ w'.ownsRow W.heap.size 9 1 v ss.length (ss.map encStr) ∧ Below W.heap.size W w' ∧ Below wc.heap.size wc w') := fun W hb => (two_rnames _ _ _ _ _ _ W (HT2.out.below hb)).mono fun e w' ⟨v, ss, a, b, c, d⟩ => ⟨v, ss, a, b, c, d, hb.trans (d.mono hb.size)⟩
          have HFA : Hid (l'.length ≤ 500) := HT2.out.facts.2.1
          generalize sumE l' s = sm at HGE HGR
          have hq1 : (sm != sm) = false := by simp
          have hq2 : ((l'.length : Int) != l'.length) = false := by simp
          clear hrc hrl
          go_upto_region 16 with (fail)
          go_cut [122] (fun v wx => v = .bool false ∧ Hid (Below wc.heap.size wc wx))
          case first =>
            go_region_held3 (fun W => W.cell? ⟨nb, no + i, none⟩ = some (.string ⟨s.toArray⟩) ∧ W.cell? ⟨w.heap.size + 1, 0, none⟩ = some (.slice rx l'.length rc)) (first | (with_reducible exact ⟨HN1.out _ (HBX.out _ HSf.out), HRC.out _ HSf.out⟩) | (with_reducible exact ⟨HN1.out _ (HBX.out _ HSe.out), HRC.out _ HSe.out⟩) | (with_reducible exact ⟨HN1.out _ (HBX.out _ HSd.out), HRC.out _ HSd.out⟩) | (with_reducible exact ⟨HN1.out _ (HBX.out _ HSc.out), HRC.out _ HSc.out⟩) | (with_reducible exact ⟨HN1.out _ (HBX.out _ HSb.out), HRC.out _ HSb.out⟩) | (with_reducible exact ⟨HN1.out _ (HBX.out _ HSa.out), HRC.out _ HSa.out⟩) | (with_reducible exact ⟨HN1.out _ (HBX.out _ (Below.refl _ _).drew), HRC.out _ (Below.refl _ _).drew⟩))
              (first
                | (go_at_call 14; refine (HGE.out _ (Below.refl _ _).drew).mono ?_; rintro e Wa ⟨rfl, hba⟩; have HSa : Hid (Below wc.heap.size wc Wa) := hba; clear hba)
                | (go_at_call 15; refine (HGR.out _ HSa.out).mono ?_; rintro e Wb ⟨rfl, hbb⟩; have HSb : Hid (Below wc.heap.size wc Wb) := hbb; clear hbb)
                | (go_at_call 16; refine (HLN.out _ HSb.out).mono ?_; rintro e Wc ⟨rfl, hbc⟩; have HSc : Hid (Below wc.heap.size wc Wc) := hbc; clear hbc)
                | (go_at_call 18; refine (HNM.out _ HSc.out).mono ?_; rintro e Wd ⟨v5, s5, rfl, hn5, hr5, hb5⟩; have HSd : Hid (Below wc.heap.size wc Wd) := hb5; have HN5 : Hid (NamesOf l' s5) := hn5; have HR5 : Hid (Wd.ownsRow Wc.heap.size 9 1 v5 s5.length (s5.map encStr)) := hr5; clear hb5 hn5 hr5)
                | (go_at_call 19; refine (HRM.out _ HSd.out).mono ?_; rintro e We ⟨v6, s6, rfl, hn6, hr6, hb6, hb6'⟩; have HSe : Hid (Below wc.heap.size wc We) := hb6'; obtain rfl := names_one HN5.out hn6; have HR6 : Hid (We.ownsRow Wd.heap.size 9 1 v6 s5.length (s5.map encStr)) := hr6; have HR56 : Hid (We.ownsRow Wc.heap.size 9 1 v5 s5.length (s5.map encStr)) := ownS_below HR5.out hb6; clear hb6 hb6' hn6 hr6)
                | (go_at_call 17; refine (sameS_any s5 _ _ _ _ _ HR56.out HR6.out (by have := names_len HN5.out; have := HFA.out; omega)).mono ?_; rintro e Wf ⟨rfl, hb7⟩; have HSf : Hid (Below wc.heap.size wc Wf) := HSe.out.trans (hb7.mono HSe.out.size); clear hb7))
            all_goals
              go_wp2
              go_meet
              case rel => exact ⟨rfl, HSf.out⟩
          case rest =>
          obtain ⟨rfl, HBZ⟩ := hcut
          go_wp2
          go_roundg (gk - 1)
          case measure => omega
          case rel => exact ⟨i + 1, sure, l', by omega, rfl, by go_num, by omega, HT2.out.below HBZ.out, HBX.out _ HBZ.out⟩
        | true =>
          go_wp2_with fail
          refine (two_sync _ _ _ _ _ _ wc HT2.out).mono ?_
          rintro e W9 ⟨rfl, ht9, hb9⟩
          have HB9 : Hid (Below w.heap.size w W9) := HBC.out.trans hb9
          have HT9 : Hid (Two w.heap.size W9 w.heap.size (w.heap.size + 1) (jour l').length l' l') := ht9
          clear ht9 hb9 c3
          have HJ9 := two_rjournal _ _ _ _ _ _ W9 HT9.out (HT.out W9 HB9.out)
          go_wp2_with fail
          refine HJ9.mono ?_
          rintro e W10 ⟨rfl, hb10⟩
          have HB10 : Hid (Below w.heap.size w W10) := HB9.out.trans (hb10.mono HB9.out.size)
          have HT10 : Hid (Two w.heap.size W10 w.heap.size (w.heap.size + 1) (jour l').length l' l') := HT9.out.below hb10
          clear hb10 HJ9
          obtain ⟨rx, rc, hrc⟩ := HT10.out.rcell
          have hrl := World.block_lt_of_cell? W10 _ hrc
          have HRC : Hid (∀ W, Below W10.heap.size W10 W → W.cell? ⟨w.heap.size + 1, 0, none⟩ = some (.slice rx l'.length rc)) := fun W hb => (hb.cell (p := ⟨w.heap.size + 1, 0, none⟩) hrl).trans hrc
          have HBX : Hid (∀ W, Below W10.heap.size W10 W → Below w.heap.size w W) := fun W hb => HB10.out.trans (hb.mono HB10.out.size)
          have HGE : Hid (∀ W, Below W10.heap.size W10 W → Calls Tryz.prog 14 #[.pointer (some ⟨w.heap.size, 0, none⟩), .string ⟨s.toArray⟩] W fun e w' => e = .returned (.int .i64 (sumE l' s)) ∧ Below W10.heap.size W10 w') := fun W hb => (two_get _ _ _ _ _ _ s W (HT10.out.below hb) hsm).mono fun e w' ⟨a, b⟩ => ⟨a, hb.trans (b.mono hb.size)⟩
          have HGR : Hid (∀ W, Below W10.heap.size W10 W → Calls Tryz.prog 15 #[.pointer (some ⟨w.heap.size + 1, 0, none⟩), .string ⟨s.toArray⟩] W fun e w' => e = .returned (.int .i64 (sumE l' s)) ∧ Below W10.heap.size W10 w') := fun W hb => (two_rget _ _ _ _ _ _ s W (HT10.out.below hb)).mono fun e w' ⟨a, b⟩ => ⟨a, hb.trans (b.mono hb.size)⟩
          have HLN : Hid (∀ W, Below W10.heap.size W10 W → Calls Tryz.prog 16 #[.pointer (some ⟨w.heap.size, 0, none⟩)] W fun e w' => e = .returned (.int .i64 (l'.length : Nat)) ∧ Below W10.heap.size W10 w') := fun W hb => (two_lines _ _ _ _ _ _ W (HT10.out.below hb)).mono fun e w' ⟨a, b⟩ => ⟨a, hb.trans (b.mono hb.size)⟩
          have HNM : Hid (∀ W, Below W10.heap.size W10 W → Calls Tryz.prog 18 #[.pointer (some ⟨w.heap.size, 0, none⟩)] W fun e w' => ∃ v ss, e = .returned v ∧ NamesOf l' ss ∧ w'.ownsRow W.heap.size 9 1 v ss.length (ss.map encStr) ∧ Below W10.heap.size W10 w') := fun W hb => (two_names _ _ _ _ _ _ W (HT10.out.below hb)).mono fun e w' ⟨v, ss, a, b, c, d⟩ => ⟨v, ss, a, b, c, hb.trans (d.mono hb.size)⟩
          have HRM : Hid (∀ W, Below W10.heap.size W10 W → Calls Tryz.prog 19 #[.pointer (some ⟨w.heap.size + 1, 0, none⟩)] W fun e w' => ∃ v ss, e = .returned v ∧ NamesOf l' ss ∧ w'.ownsRow W.heap.size 9 1 v ss.length (ss.map encStr) ∧ Below W.heap.size W w' ∧ Below W10.heap.size W10 w') := fun W hb => (two_rnames _ _ _ _ _ _ W (HT10.out.below hb)).mono fun e w' ⟨v, ss, a, b, c, d⟩ => ⟨v, ss, a, b, c, d, hb.trans (d.mono hb.size)⟩
          have HFA : Hid (l'.length ≤ 500) := HT10.out.facts.2.1
          generalize sumE l' s = sm at HGE HGR
          have hq1 : (sm != sm) = false := by simp
          have hq2 : ((l'.length : Int) != l'.length) = false := by simp
          clear hrc hrl
          go_upto_region 16 with (fail)
          go_cut [122] (fun v wx => v = .bool false ∧ Hid (Below W10.heap.size W10 wx))
          case first =>
            go_region_held3 (fun W => W.cell? ⟨nb, no + i, none⟩ = some (.string ⟨s.toArray⟩) ∧ W.cell? ⟨w.heap.size + 1, 0, none⟩ = some (.slice rx l'.length rc)) (first | (with_reducible exact ⟨HN1.out _ (HBX.out _ HSf.out), HRC.out _ HSf.out⟩) | (with_reducible exact ⟨HN1.out _ (HBX.out _ HSe.out), HRC.out _ HSe.out⟩) | (with_reducible exact ⟨HN1.out _ (HBX.out _ HSd.out), HRC.out _ HSd.out⟩) | (with_reducible exact ⟨HN1.out _ (HBX.out _ HSc.out), HRC.out _ HSc.out⟩) | (with_reducible exact ⟨HN1.out _ (HBX.out _ HSb.out), HRC.out _ HSb.out⟩) | (with_reducible exact ⟨HN1.out _ (HBX.out _ HSa.out), HRC.out _ HSa.out⟩) | (with_reducible exact ⟨HN1.out _ (HBX.out _ (Below.refl _ _).drew), HRC.out _ (Below.refl _ _).drew⟩))
              (first
                | (go_at_call 14; refine (HGE.out _ (Below.refl _ _).drew).mono ?_; rintro e Wa ⟨rfl, hba⟩; have HSa : Hid (Below W10.heap.size W10 Wa) := hba; clear hba)
                | (go_at_call 15; refine (HGR.out _ HSa.out).mono ?_; rintro e Wb ⟨rfl, hbb⟩; have HSb : Hid (Below W10.heap.size W10 Wb) := hbb; clear hbb)
                | (go_at_call 16; refine (HLN.out _ HSb.out).mono ?_; rintro e Wc ⟨rfl, hbc⟩; have HSc : Hid (Below W10.heap.size W10 Wc) := hbc; clear hbc)
                | (go_at_call 18; refine (HNM.out _ HSc.out).mono ?_; rintro e Wd ⟨v5, s5, rfl, hn5, hr5, hb5⟩; have HSd : Hid (Below W10.heap.size W10 Wd) := hb5; have HN5 : Hid (NamesOf l' s5) := hn5; have HR5 : Hid (Wd.ownsRow Wc.heap.size 9 1 v5 s5.length (s5.map encStr)) := hr5; clear hb5 hn5 hr5)
                | (go_at_call 19; refine (HRM.out _ HSd.out).mono ?_; rintro e We ⟨v6, s6, rfl, hn6, hr6, hb6, hb6'⟩; have HSe : Hid (Below W10.heap.size W10 We) := hb6'; obtain rfl := names_one HN5.out hn6; have HR6 : Hid (We.ownsRow Wd.heap.size 9 1 v6 s5.length (s5.map encStr)) := hr6; have HR56 : Hid (We.ownsRow Wc.heap.size 9 1 v5 s5.length (s5.map encStr)) := ownS_below HR5.out hb6; clear hb6 hb6' hn6 hr6)
                | (go_at_call 17; refine (sameS_any s5 _ _ _ _ _ HR56.out HR6.out (by have := names_len HN5.out; have := HFA.out; omega)).mono ?_; rintro e Wf ⟨rfl, hb7⟩; have HSf : Hid (Below W10.heap.size W10 Wf) := HSe.out.trans (hb7.mono HSe.out.size); clear hb7))
            all_goals
              go_wp2
              go_meet
              case rel => exact ⟨rfl, HSf.out⟩
          case rest =>
          obtain ⟨rfl, HBZ⟩ := hcut
          go_wp2
          go_roundg (gk - 1)
          case measure => omega
          case rel => exact ⟨i + 1, (jour l').length, l', by omega, rfl, by go_num, by omega, HT10.out.below HBZ.out, HBX.out _ HBZ.out⟩
      · have hib1 : ¬ (i : Int) < bs.length := by omega
        obtain ⟨rx, rc, hrc⟩ := HT2.out.rcell
        have hrl := World.block_lt_of_cell? wc _ hrc
        have HRC : Hid (∀ W, Below wc.heap.size wc W → W.cell? ⟨w.heap.size + 1, 0, none⟩ = some (.slice rx l'.length rc)) := fun W hb => (hb.cell (p := ⟨w.heap.size + 1, 0, none⟩) hrl).trans hrc
        have HBX : Hid (∀ W, Below wc.heap.size wc W → Below w.heap.size w W) := fun W hb => HBC.out.trans (hb.mono HBC.out.size)
        have HGE : Hid (∀ W, Below wc.heap.size wc W → Calls Tryz.prog 14 #[.pointer (some ⟨w.heap.size, 0, none⟩), .string ⟨s.toArray⟩] W fun e w' => e = .returned (.int .i64 (sumE l' s)) ∧ Below wc.heap.size wc w') := fun W hb => (two_get _ _ _ _ _ _ s W (HT2.out.below hb) hsm).mono fun e w' ⟨a, b⟩ => ⟨a, hb.trans (b.mono hb.size)⟩
        have HGR : Hid (∀ W, Below wc.heap.size wc W → Calls Tryz.prog 15 #[.pointer (some ⟨w.heap.size + 1, 0, none⟩), .string ⟨s.toArray⟩] W fun e w' => e = .returned (.int .i64 (sumE l' s)) ∧ Below wc.heap.size wc w') := fun W hb => (two_rget _ _ _ _ _ _ s W (HT2.out.below hb)).mono fun e w' ⟨a, b⟩ => ⟨a, hb.trans (b.mono hb.size)⟩
        have HLN : Hid (∀ W, Below wc.heap.size wc W → Calls Tryz.prog 16 #[.pointer (some ⟨w.heap.size, 0, none⟩)] W fun e w' => e = .returned (.int .i64 (l'.length : Nat)) ∧ Below wc.heap.size wc w') := fun W hb => (two_lines _ _ _ _ _ _ W (HT2.out.below hb)).mono fun e w' ⟨a, b⟩ => ⟨a, hb.trans (b.mono hb.size)⟩
        have HNM : Hid (∀ W, Below wc.heap.size wc W → Calls Tryz.prog 18 #[.pointer (some ⟨w.heap.size, 0, none⟩)] W fun e w' => ∃ v ss, e = .returned v ∧ NamesOf l' ss ∧ w'.ownsRow W.heap.size 9 1 v ss.length (ss.map encStr) ∧ Below wc.heap.size wc w') := fun W hb => (two_names _ _ _ _ _ _ W (HT2.out.below hb)).mono fun e w' ⟨v, ss, a, b, c, d⟩ => ⟨v, ss, a, b, c, hb.trans (d.mono hb.size)⟩
        have HRM : Hid (∀ W, Below wc.heap.size wc W → Calls Tryz.prog 19 #[.pointer (some ⟨w.heap.size + 1, 0, none⟩)] W fun e w' => ∃ v ss, e = .returned v ∧ NamesOf l' ss ∧ w'.ownsRow W.heap.size 9 1 v ss.length (ss.map encStr) ∧ Below W.heap.size W w' ∧ Below wc.heap.size wc w') := fun W hb => (two_rnames _ _ _ _ _ _ W (HT2.out.below hb)).mono fun e w' ⟨v, ss, a, b, c, d⟩ => ⟨v, ss, a, b, c, d, hb.trans (d.mono hb.size)⟩
        have HFA : Hid (l'.length ≤ 500) := HT2.out.facts.2.1
        generalize sumE l' s = sm at HGE HGR
        have hq1 : (sm != sm) = false := by simp
        have hq2 : ((l'.length : Int) != l'.length) = false := by simp
        clear hrc hrl
        go_upto_region 16 with (fail)
        go_cut [122] (fun v wx => v = .bool false ∧ Hid (Below wc.heap.size wc wx))
        case first =>
          go_region_held3 (fun W => W.cell? ⟨nb, no + i, none⟩ = some (.string ⟨s.toArray⟩) ∧ W.cell? ⟨w.heap.size + 1, 0, none⟩ = some (.slice rx l'.length rc)) (first | (with_reducible exact ⟨HN1.out _ (HBX.out _ HSf.out), HRC.out _ HSf.out⟩) | (with_reducible exact ⟨HN1.out _ (HBX.out _ HSe.out), HRC.out _ HSe.out⟩) | (with_reducible exact ⟨HN1.out _ (HBX.out _ HSd.out), HRC.out _ HSd.out⟩) | (with_reducible exact ⟨HN1.out _ (HBX.out _ HSc.out), HRC.out _ HSc.out⟩) | (with_reducible exact ⟨HN1.out _ (HBX.out _ HSb.out), HRC.out _ HSb.out⟩) | (with_reducible exact ⟨HN1.out _ (HBX.out _ HSa.out), HRC.out _ HSa.out⟩) | (with_reducible exact ⟨HN1.out _ (HBX.out _ (Below.refl _ _).drew), HRC.out _ (Below.refl _ _).drew⟩))
            (first
              | (go_at_call 14; refine (HGE.out _ (Below.refl _ _).drew).mono ?_; rintro e Wa ⟨rfl, hba⟩; have HSa : Hid (Below wc.heap.size wc Wa) := hba; clear hba)
              | (go_at_call 15; refine (HGR.out _ HSa.out).mono ?_; rintro e Wb ⟨rfl, hbb⟩; have HSb : Hid (Below wc.heap.size wc Wb) := hbb; clear hbb)
              | (go_at_call 16; refine (HLN.out _ HSb.out).mono ?_; rintro e Wc ⟨rfl, hbc⟩; have HSc : Hid (Below wc.heap.size wc Wc) := hbc; clear hbc)
              | (go_at_call 18; refine (HNM.out _ HSc.out).mono ?_; rintro e Wd ⟨v5, s5, rfl, hn5, hr5, hb5⟩; have HSd : Hid (Below wc.heap.size wc Wd) := hb5; have HN5 : Hid (NamesOf l' s5) := hn5; have HR5 : Hid (Wd.ownsRow Wc.heap.size 9 1 v5 s5.length (s5.map encStr)) := hr5; clear hb5 hn5 hr5)
              | (go_at_call 19; refine (HRM.out _ HSd.out).mono ?_; rintro e We ⟨v6, s6, rfl, hn6, hr6, hb6, hb6'⟩; have HSe : Hid (Below wc.heap.size wc We) := hb6'; obtain rfl := names_one HN5.out hn6; have HR6 : Hid (We.ownsRow Wd.heap.size 9 1 v6 s5.length (s5.map encStr)) := hr6; have HR56 : Hid (We.ownsRow Wc.heap.size 9 1 v5 s5.length (s5.map encStr)) := ownS_below HR5.out hb6; clear hb6 hb6' hn6 hr6)
              | (go_at_call 17; refine (sameS_any s5 _ _ _ _ _ HR56.out HR6.out (by have := names_len HN5.out; have := HFA.out; omega)).mono ?_; rintro e Wf ⟨rfl, hb7⟩; have HSf : Hid (Below wc.heap.size wc Wf) := HSe.out.trans (hb7.mono HSe.out.size); clear hb7))
          all_goals
            go_wp2
            go_meet
            case rel => exact ⟨rfl, HSf.out⟩
        case rest =>
        obtain ⟨rfl, HBZ⟩ := hcut
        go_wp2
        go_roundg (gk - 1)
        case measure => omega
        case rel => exact ⟨i + 1, sure, l', by omega, rfl, by go_num, by omega, HT2.out.below HBZ.out, HBX.out _ HBZ.out⟩
    · have hi1 : ¬ (i : Int) < ss.length := by omega
      have HJ := two_rjournal _ _ _ _ _ _ wr HTW.out (HT.out wr HBR.out)
      obtain ⟨hok, hfw, hsr⟩ := HTW.out.facts
      have hjl := jour_len hok hfw
      obtain ⟨J, hJ⟩ : ∃ J, jour l = J := ⟨_, rfl⟩
      rw [hJ] at HJ hsr hjl
      have HJE : Hid (jour l = J) := hJ
      clear hJ hok
      have hw1 : IntKind.i64.wrap ((J.length : Int) - (sure : Int)) = (J.length : Int) - sure := by rw [IntKind.wrap_i64]; omega
      go_wp2_with fail
      refine HJ.mono ?_
      rintro e W1 ⟨rfl, hb1⟩
      have HB1 : Hid (Below w.heap.size w W1) := HBR.out.trans (hb1.mono HBR.out.size)
      obtain ⟨cm, jv, lv, hbk, -⟩ := HTW.out.below hb1
      clear HJ hb1
      by_cases hk : keep < 0 ∨ (J.length : Int) - sure < keep
      · have HCR := crash_no w.heap.size cm jv sure keep l (.slice tx torn.length tc) W1 hbk (by rw [HJE.out]; exact hk)
        have hd : (0 : Int) ≤ keep → (J.length : Int) - sure < keep := fun h => by omega
        clear hbk
        go_wp2_with fail
        refine HCR.mono ?_
        rintro e W2 ⟨rfl, hb2⟩
        have HB2 : Hid (Below w.heap.size w W2) := HB1.out.trans (hb2.mono HB1.out.size)
        have HBA := bare_no 2 W2 (HL.out W2 HB2.out) (by decide)
        clear hb2 HCR
        by_cases hk0 : keep < 0
        · clear hk hd
          go_wp2_with fail
          refine HBA.mono ?_
          rintro e W3 ⟨rfl, hb3⟩
          go_wp2
          go_ret
          exact ⟨rfl, HB2.out.trans (hb3.mono HB2.out.size)⟩
        · have hk1 : (J.length : Int) - sure < keep := hd (by omega)
          clear hk hd
          go_wp2_with fail
          refine HBA.mono ?_
          rintro e W3 ⟨rfl, hb3⟩
          go_wp2
          go_ret
          exact ⟨rfl, HB2.out.trans (hb3.mono HB2.out.size)⟩
      · obtain ⟨kn, rfl⟩ : ∃ kn : Nat, keep = kn := ⟨keep.toNat, by omega⟩
        have hk0 : ¬ (kn : Int) < 0 := by omega
        have hk1 : ¬ (J.length : Int) - sure < kn := by omega
        have hk2 : sure + kn ≤ J.length := by omega
        have HCR := crash_yes w.heap.size cm jv sure kn l (.slice tx torn.length tc) torn W1 hbk (bt_of_dt (H4.out W1 HB1.out)) (by rw [HJE.out]; exact hk2) (by omega)
        rw [HJE.out] at HCR
        clear hbk hk
        go_wp2_with fail
        refine HCR.mono ?_
        rintro e W2 ⟨v8, rfl, hr8, hb2⟩
        have HB2 : Hid (Below w.heap.size w W2) := HB1.out.trans (hb2.mono HB1.out.size)
        have HCV : Hid (∀ W, Below W2.heap.size W2 W → (convert 25 9 v8).run Tryz.prog W = .ok (.string ⟨(J.take (sure + kn) ++ torn).toArray⟩) W) := fun W hb => conv_own (ownS_below hr8 hb)
        have HCT : Hid (∀ W, Below W2.heap.size W2 W → (convert 25 9 (.slice tx torn.length tc)).run Tryz.prog W = .ok (.string ⟨torn.toArray⟩) W) := fun W hb => by
          have := conv_str (H4.out W (HB2.out.trans (hb.mono HB2.out.size))) (Nat.le_refl _)
          rwa [List.take_length] at this
        have he0 : (⟨J.toArray⟩ : ByteArray).extract 0 (sure + kn) = ⟨(J.take (sure + kn)).toArray⟩ := by rw [ext_piece]; simp
        have hn1 : ((sure : Int) + (kn : Int)).toNat = sure + kn := by omega
        have hn2 : (sure : Int) + (kn : Int) ≤ J.length := by omega
        have hn6 : (0 : Int) ≤ (sure : Int) + (kn : Int) := by omega
        have hwr : IntKind.i64.wrap ((sure : Int) + (kn : Int)) = (sure : Int) + (kn : Int) := by rw [IntKind.wrap_i64]; omega
        have hq : ((J.take (sure + kn) ++ torn) == (J.take (sure + kn) ++ torn)) = true := by simp
        have hs1 : ¬ (9223372036854775807 < (J.take (sure + kn)).length + torn.length) := by rw [List.length_take]; omega
        clear hr8 hb2 HCR
        generalize J.take (sure + kn) = JT at *
        go_wp2
        go_region_held3 (fun W => (convert 25 9 v8).run Tryz.prog W = .ok (.string ⟨(JT ++ torn).toArray⟩) W ∧ (convert 25 9 (.slice tx torn.length tc)).run Tryz.prog W = .ok (.string ⟨torn.toArray⟩) W) (exact ⟨HCV.out _ (Below.refl _ _).drew, HCT.out _ (Below.refl _ _).drew⟩) (fail)
        all_goals
          go_wp2
          go_ret
          refine ⟨?_, HB2.out.drew⟩
          have e1 : ((⟨JT.toArray⟩ : ByteArray) ++ ⟨torn.toArray⟩).toList = JT ++ torn := by rw [app_ba]; exact ba_toList _
          show Ending.returned (Value.bool (JT ++ torn == ((⟨JT.toArray⟩ : ByteArray) ++ ⟨torn.toArray⟩).toList)) = _
          rw [e1, hq]
end Go.Proofs.YtheadpemckoljaaGreatDoor
