/-
  (*book.Book).Add of what may be added. Conditions: the book lies in memory and has room; internal/strconv's table of powers of ten is laid.
-/
import Derived.Test.YtheadpemckoljaaGreatDoorJ4
namespace Go.Proofs.YtheadpemckoljaaGreatDoor
open Go.RowKit Go.Extern.Stop Go.Stop Go.Extern Go.Maps Go.WideMaps

theorem clone_any (s : ByteArray) (w : World) (hs : s.size ≤ 1000000) : Calls Tryz.prog 29 #[.string s] w fun e w' => e = .returned (.string s) ∧ Below w.heap.size w w' := by
  go_enter Tryz.func29, Tryz.ntmps29
  go_wp2_with fail
  refine (Tryz.stringslite_Clone s w (by omega)).mono ?_
  rintro e w1 ⟨rfl, hb⟩
  go_wp2
  go_ret
  exact ⟨rfl, hb⟩
theorem infoByte : (Tryz.prog.info? 5).map (fun i => (i.zero, i.size, i.bytes)) = some (some (.int .u8 0), 1, 1) := by kernel_rfl
theorem info3 {P : Program} {t : TypeId} {z : Value} {s b : Nat} (h : (P.info? t).map (fun i => (i.zero, i.size, i.bytes)) = some (some z, s, b)) : ∃ i, P.info? t = some i ∧ i.zero = some z ∧ i.size = s ∧ i.bytes = b := by
  obtain ⟨i, hi, he⟩ := Option.map_eq_some_iff.1 h
  simp only [Prod.mk.injEq] at he
  exact ⟨i, hi, he.1, he.2.1, he.2.2⟩
theorem owns_slice {w : World} {base n k : Nat} {e : TypeId} {v : Value} {xs : List Value} (h : w.ownsRow base e k v n xs) : ∃ x c, v = .slice x n c := by
  rcases h.2 with ⟨rfl, rfl⟩ | ⟨g, cap, cur, rfl, _⟩
  · exact ⟨_, _, rfl⟩
  · exact ⟨_, _, rfl⟩
theorem Tab.grown {w w' : World} {m : Nat} {L : List (List UInt8 × Int)} (h : Tab w) (hm : MpS w m L) (hg : w.grownBy w' (some m)) : Tab w' := by
  unfold Tab Lib.TabIs World.var? at h ⊢
  have hgl : Tryz.prog.globalNamed "internal/strconv.uint64pow10" = some 4 := by kernel_rfl
  rw [hgl] at h ⊢
  simp only [Option.bind_some] at h ⊢
  obtain ⟨es, clock, hb, _⟩ := hm.len
  have hne : some m ≠ some 4 := by
    intro e
    obtain rfl := Option.some.inj e
    rw [hb] at h
    simp at h
  have hlt : 4 < w.heap.size := by
    rcases Nat.lt_or_ge 4 w.heap.size with h2 | h2
    · exact h2
    · rw [Array.getElem?_eq_none h2] at h; simp at h
  rw [hg.block _ hlt (fun e => hne e.symm)]
  exact h
theorem Tab.set {w : World} {b : Nat} {x0 x1 x2 x3 : Value} {T : TypeId} (h : Tab w) (hb : w.heap[b]? = some (.cells #[x0, x1, x2, x3] T (0, 0))) (o : Nat) (u : Value) : Tab (w.setCell ⟨b, o, none⟩ u) := by
  have h0 := h
  unfold Tab Lib.TabIs World.var? at h ⊢
  have hgl : Tryz.prog.globalNamed "internal/strconv.uint64pow10" = some 4 := by kernel_rfl
  rw [hgl] at h ⊢
  simp only [Option.bind_some] at h ⊢
  have hne : 4 ≠ b := by
    rintro rfl
    rw [hb] at h
    simp only [Option.some.injEq] at h
    have := congrArg Array.size h
    rw [List.size_toArray, List.size_toArray, List.length_map, Lib.pow10Tab_length] at this
    simp at this
  rw [heap_setCell_other _ ⟨b, o, none⟩ _ _ hne]
  exact h
/-- A book whose map is there, as Add goes on. -/
structure BkM (w wx : World) (b m : Nat) (cm : Option Nat) (jv : Value) (sure : Nat) (l : List Ent) (L : List (List UInt8 × Int)) : Prop where
  blk : wx.heap[b]? = some (.cells #[.map (some m), jv, .int .i64 sure, .int .i64 (l.length : Nat)] 28 (0, 0))
  jr : wx.ownsRow 0 5 1 jv (jour l).length (Lib.byteCells (jour l))
  mp : MpS wx m L
  ot : Ot (BkS b cm jv) w wx
  mm : cm = some m ∨ w.heap.size ≤ m
  tb : Tab wx
theorem BkM.below {w wx wy : World} {b m : Nat} {cm : Option Nat} {jv : Value} {sure : Nat} {l : List Ent} {L : List (List UInt8 × Int)} (h : BkM w wx b m cm jv sure l L) (hb : Below wx.heap.size wx wy) : BkM w wy b m cm jv sure l L :=
  ⟨(hb.block _ (lt_of_block h.blk)).trans h.blk, ownsRow_kept h.jr fun k hk => by obtain ⟨cur, hc⟩ := ownsRow_blk h.jr hk; exact hb.block _ (lt_of_block hc), h.mp.below hb, h.ot.then_below (hb.mono h.ot.size), h.mm, h.tb.below hb⟩
theorem BkM.upd {w wx wy : World} {b m : Nat} {cm : Option Nat} {jv : Value} {sure : Nat} {l : List Ent} {L L' : List (List UInt8 × Int)} (h : BkM w wx b m cm jv sure l L) (hm : MpS wy m L') (hg : wx.grownBy wy (some m)) : BkM w wy b m cm jv sure l L' := by
  have n1 : m ≠ b := BkAt.map_ne h.mp h.blk
  have n2 := jr_map h.jr h.mp
  refine ⟨(hg.block _ (lt_of_block h.blk) (fun e => n1 (Option.some.inj e).symm)).trans h.blk, ownsRow_kept h.jr fun k hk => ?_, hm, h.ot.grown hg (fun k hk => ?_), h.mm, h.tb.grown h.mp hg⟩
  · obtain ⟨cur, hc⟩ := ownsRow_blk h.jr hk
    exact hg.block _ (lt_of_block hc) (fun e => n2 (hk.trans e))
  · obtain rfl := Option.some.inj hk
    rcases h.mm with e | e
    · exact Or.inl (Or.inr (Or.inl e))
    · exact Or.inr e
/-- What Add leaves where it adds. -/
def AddP (w w' : World) (b : Nat) (cm : Option Nat) (jv : Value) (sure : Nat) (l : List Ent) : Prop := ∃ cm' jv', BkAt w' b cm' jv' sure l ∧ Ot (BkS b cm jv) w w' ∧ ∀ k, BkS b cm' jv' k → BkS b cm jv k ∨ w.heap.size ≤ k
theorem BkM.done {w w4 w5 : World} {b m : Nat} {cm : Option Nat} {jv v' : Value} {sure : Nat} {l : List Ent} {e : Ent} {L : List (List UInt8 × Int)} {N : Nat} {XS : List Value} (h : BkM w w4 b m cm jv sure l L) (hs : SumsOf (l ++ [e]) L) (hown : w5.ownsRow 0 5 1 v' N XS) (hN : N = (jour (l ++ [e])).length) (hX : XS = Lib.byteCells (jour (l ++ [e]))) (hg : w4.grownBy w5 jv.ownBlock) (hf : ∀ g, v'.ownBlock = some g → jv.ownBlock = some g ∨ w4.heap.size ≤ g) (hok : ∀ x ∈ l ++ [e], EntOk x) (hl : l.length < 500) (hsr : sure ≤ (jour l).length) :
    AddP w ((w5.setCell ⟨b, 1, none⟩ v').setCell ⟨b, 3, none⟩ (.int .i64 ((l.length : Int) + 1))) b cm jv sure (l ++ [e]) := by
  subst hN hX
  have hb5 := (hg.block b (lt_of_block h.blk) (fun e => jr_ne h.jr h.blk (by decide) e.symm)).trans h.blk
  have hm5 : MpS w5 m L := h.mp.block (hg.block m h.mp.lt (fun e => jr_map h.jr h.mp e.symm))
  have hmb : m ≠ b := BkAt.map_ne hm5 hb5
  have k1 := heap_setCell_here (o := 1) hb5 v'
  have k2 := heap_setCell_here (o := 3) k1 (.int .i64 ((l.length : Int) + 1))
  have ko : ∀ k, k ≠ b → ((w5.setCell ⟨b, 1, none⟩ v').setCell ⟨b, 3, none⟩ (.int .i64 ((l.length : Int) + 1))).heap[k]? = w5.heap[k]? := fun k hk => (heap_setCell_other _ ⟨b, 3, none⟩ k _ hk).trans (heap_setCell_other _ ⟨b, 1, none⟩ k _ hk)
  refine ⟨some m, v', ⟨?_, ownsRow_kept hown fun k hk => ko k fun e => jr_ne hown hb5 (by decide) (e ▸ hk), hok, by simp; omega, by rw [jour_snoc, List.length_append]; omega, Or.inr ⟨m, L, rfl, hm5.block (ko m hmb), hs⟩⟩, ((h.ot.grown hg fun k hk => Or.inl (Or.inr (Or.inr hk))).setCell (Or.inl (Or.inl rfl)) _).setCell (Or.inl (Or.inl rfl)) _, ?_⟩
  · have e1 : (((l ++ [e]).length : Nat) : Int) = (l.length : Int) + 1 := by simp
    rw [e1]
    exact k2
  · rintro k (rfl | hk | hk)
    · exact Or.inl (Or.inl rfl)
    · obtain rfl := Option.some.inj hk
      rcases h.mm with e | e
      · exact Or.inl (Or.inr (Or.inl e))
      · exact Or.inr e
    · rcases hf k hk with e | e
      · exact Or.inl (Or.inr (Or.inr e))
      · exact Or.inr (Nat.le_trans h.ot.size e)
set_option maxRecDepth 100000 in
set_option maxHeartbeats 4000000 in
theorem add_yes (b : Nat) (cm : Option Nat) (jv : Value) (sure : Nat) (l : List Ent) (nm : List UInt8) (n : Int) (w : World) (h : BkAt w b cm jv sure l) (hT : Tab w) (he : EntOk (nm, n)) (hl : l.length < 500) :
    Calls Tryz.prog 8 #[.pointer (some ⟨b, 0, none⟩), .string ⟨nm.toArray⟩, .int .i64 n] w fun e w' => e = .returned .nilIface ∧ AddP w w' b cm jv sure (l ++ [(nm, n)]) := by
  obtain ⟨hn0, hn1, hn2⟩ := he
  have hnl := nameOk_len hn0
  simp only at hn1 hn2 hnl
  have HNM : Hid (∀ w', Calls Tryz.prog 10 #[.string ⟨nm.toArray⟩] w' fun e w2 => e = .returned (.bool true) ∧ Below w'.heap.size w' w2) := fun w' => by
    have := name_any ⟨nm.toArray⟩ w' (by show nm.toArray.size ≤ maxLen; rw [List.size_toArray]; unfold maxLen; omega)
    have ed : (⟨nm.toArray⟩ : ByteArray).data.toList = nm := List.toList_toArray
    rw [ed, hn0] at this
    exact this
  obtain ⟨jx, jc, rfl⟩ := owns_slice h.jr
  have HB : Hid (∀ w', Below w.heap.size w w' → BkAt w' b cm (.slice jx (jour l).length jc) sure l) := fun w' hb => h.below hb
  have HT : Hid (∀ w', Below w.heap.size w w' → Tab w') := fun w' hb => hT.below hb
  have HOK : Hid (∀ e ∈ l, EntOk e) := h.ok
  have HEN : Hid (EntOk (nm, n)) := ⟨hn0, hn1, hn2⟩
  have HSR : Hid (sure ≤ (jour l).length) := h.sr
  have hjl := jour_len h.ok h.few
  have hlen0 := bodyL_len (k := l.length) (e := (nm, n)) hn0 (by omega) (by simp only; omega) (by simp only; omega)
  have HLT := lt_of_block h.blk
  have HCL : Hid (∀ w', Calls Tryz.prog 29 #[.string ⟨nm.toArray⟩] w' fun e w2 => e = .returned (.string ⟨nm.toArray⟩) ∧ Below w'.heap.size w' w2) := fun w' => clone_any _ w' (by show nm.toArray.size ≤ 1000000; rw [List.size_toArray]; omega)
  have hmm := @run_makeMap Tryz.prog
  have hmn : ∀ W : World, (binOp .eql 26 (.map cm) (.map none)).run Tryz.prog W = .ok (.bool cm.isNone) W := fun W => by cases cm <;> kernel_rfl
  have hll : ¬ 500 ≤ (l.length : Int) := by omega
  clear h hT hn0
  go_enter Tryz.func8, Tryz.ntmps8
  go_wp2_with fail
  refine (HNM.out w).mono ?_
  rintro e w1 ⟨rfl, hb1⟩
  have HB1 : Hid (Below w.heap.size w w1) := hb1
  have hbk := HB.out w1 hb1
  obtain ⟨⟨c0, c1, c2, c3⟩, f0, f1, f2, f3⟩ := bk_cells hbk.blk
  have hbl := lt_of_block hbk.blk
  have HBK : Hid (BkAt w1 b cm (.slice jx (jour l).length jc) sure l) := hbk
  have HT1 : Hid (Tab w1) := HT.out w1 hb1
  clear hb1 hbk
  go_upto_if 35 with (fail)
  go_cut [] (fun wx => ∃ m L, BkM w wx b m cm (.slice jx (jour l).length jc) sure l L ∧ SumsOf l L)
  case first =>
    rcases HBK.out.mp with ⟨rfl, h0⟩ | ⟨m, L, rfl, hmp, hsm⟩
    · have HL0 : Hid (l = []) := h0
      clear h0
      go_wp2
      go_meet
      case rel =>
        have hk := HBK.out.blk
        have hks := heap_setCell_here (o := 0) hk (.map (some w1.heap.size))
        refine ⟨w1.heap.size, [], ⟨(Below.heap_alloc _ _ b (by simpa using hbl)).trans hks, ownsRow_kept HBK.out.jr fun k hj => ?_, by simpa using MpS.made (w1.setCell ⟨b, 0, none⟩ (.map (some w1.heap.size))), ((Ot.of_below HB1.out).setCell (Or.inl (Or.inl rfl)) _).alloc _, Or.inr HB1.out.size, (HT1.out.set hk _ _).below (below_alloc_ (Below.refl _ _) _)⟩, by rw [HL0.out]; exact SumsOf.nil⟩
        obtain ⟨cur, hc⟩ := ownsRow_blk HBK.out.jr hj
        have hne : k ≠ b := fun e => jr_ne HBK.out.jr hk (by decide) (e ▸ hj)
        exact (Below.heap_alloc _ _ _ (by simpa using lt_of_block hc)).trans (heap_setCell_other _ ⟨b, 0, none⟩ k _ hne)
    · have HR : Hid (BkM w w1 b m (some m) (.slice jx (jour l).length jc) sure l L ∧ SumsOf l L) := ⟨⟨HBK.out.blk, HBK.out.jr, hmp, Ot.of_below HB1.out, Or.inl rfl, HT1.out⟩, hsm⟩
      clear hmp hsm
      go_wp2
      go_meet
      case rel => exact ⟨m, L, HR.out⟩
  case rest =>
    obtain ⟨m, L, hM, hS⟩ := hcut
    have HM : Hid (BkM w wc b m cm (.slice jx (jour l).length jc) sure l L) := hM
    have HS : Hid (SumsOf l L) := hS
    clear hM hS c0 c1 c2 c3 f0 f1 f2 f3
    obtain ⟨⟨c0, c1, c2, c3⟩, f0, f1, f2, f3⟩ := bk_cells HM.out.blk
    have hv := sumE_bd HOK.out nm
    rw [← HS.out.1 nm] at hv
    obtain ⟨v, HV⟩ : ∃ v, Hid (vl L nm = v) := ⟨_, rfl⟩
    rw [HV.out] at hv
    obtain ⟨hv0, hv1⟩ := hv
    have hvw : IntKind.i64.wrap (v + n) = v + n := by rw [IntKind.wrap_i64]; omega
    have HUP : Hid (∀ w2, Below wc.heap.size wc w2 → ((Instr.lookup 26 (.map (some m)) (.string ⟨nm.toArray⟩) false).run Tryz.prog w2 = .ok (.int .i64 v) w2) ∧ ∃ w3, (Instr.mapUpdate 26 (.map (some m)) (.string ⟨nm.toArray⟩) (.int .i64 (v + n))).run Tryz.prog w2 = .ok () w3 ∧ BkM w w3 b m cm (.slice jx (jour l).length jc) sure l (putL nm (v + n) L)) := by
      intro w2 hb2
      have h2 := HM.out.below hb2
      have hk := h2.mp.look (k := nm) (by unfold maxLen; omega)
      rw [HV.out] at hk
      obtain ⟨w3, hu, hm3, hg3⟩ := h2.mp.upd (k := nm) (x := v + n) (by unfold maxLen; omega) ⟨by omega, by omega⟩ (by have := HS.out.few HM.out.mp.ap; omega)
      exact ⟨hk, w3, hu, h2.upd hm3 hg3⟩
    go_upto_region 11 with (fail)
    go_cut [] (fun wx => BkM w wx b m cm (.slice jx (jour l).length jc) sure l (putL nm (v + n) L))
    case first =>
      go_region_with (go_at_call 29; refine (HCL.out _).mono ?_; rintro e w2 ⟨rfl, hb2⟩; have hbk2 := (HM.out.below (Below.trans (Below.drew (Below.refl _ _)) hb2)).blk; obtain ⟨⟨d0, d1, d2, d3⟩, -⟩ := bk_cells hbk2; obtain ⟨hlk, w3, hup, hM3⟩ := HUP.out w2 (Below.trans (Below.drew (Below.refl _ _)) hb2); have HM3 : Hid _ := hM3; clear hM3 hbk2)
      all_goals
        go_wp2
        go_meet
        case rel => exact HM3.out
    case rest =>
      have HMD : Hid (BkM w wc b m cm (.slice jx (jour l).length jc) sure l (putL nm (v + n) L)) := hcut
      have HSD : Hid (SumsOf (l ++ [(nm, n)]) (putL nm (v + n) L)) := by
        have := HS.out.snoc (nm, n)
        simp only [HV.out] at this
        exact this
      clear hcut c0 c1 c2 c3 f0 f1 f2 f3 HUP HM hvw hv0 hv1
      obtain ⟨⟨c0, c1, c2, c3⟩, f0, f1, f2, f3⟩ := bk_cells HMD.out.blk
      have HLI : Hid (Calls Tryz.prog 30 #[.int .i64 (l.length : Nat), .string ⟨nm.toArray⟩, .int .i64 n] wc.drew fun e w' => e = .returned (.string ⟨(lineL l.length (nm, n)).toArray⟩) ∧ BkM w w' b m cm (.slice jx (jour l).length jc) sure l (putL nm (v + n) L)) := by
        refine (line_any l.length nm n wc.drew (HMD.out.tb.below (Below.drew (Below.refl _ _))) (by omega) (by omega) (by omega) (by omega)).mono ?_
        rintro e w' ⟨rfl, hb⟩
        exact ⟨rfl, HMD.out.below (Below.trans (Below.drew (Below.refl _ _)) hb)⟩
      have HJS : Hid (jour l ++ lineL l.length (nm, n) = jour (l ++ [(nm, n)])) := (jour_snoc l (nm, n)).symm
      have hLn : (lineL l.length (nm, n)).length ≤ 80 := hlen0
      obtain ⟨LN, HLN⟩ : ∃ LN, Hid (lineL l.length (nm, n) = LN) := ⟨_, rfl⟩
      rw [HLN.out] at HLI HJS hLn
      obtain ⟨i0, hi, hz0, hz1, hz2⟩ := info3 infoByte
      have hls : (⟨LN.toArray⟩ : ByteArray).size = LN.length := by show LN.toArray.size = _; rw [List.size_toArray]
      clear hlen0
      go_upto_region 12 with (fail)
      go_region_law (first | (refine step_append_str _ (by rfl) (.tmp 53) (.tmp 60) 25 9 (by rfl) 0 5 i0 Tryz.underlying25 Tryz.underlying9 hi hz0 hz1 hz2 (.slice jx (jour l).length jc) (jour l).length (Lib.byteCells (jour l)) (by rfl) HM4.out.jr ⟨LN.toArray⟩ (by rfl) (by rw [hls]; unfold maxLen; omega) (by rw [hls]; omega) (Nat.zero_le _) ?_; intro v' w5 hown5 hg5 hiff5; obtain ⟨vx, vc, rfl⟩ := owns_slice hown5; have hb5 := (hg5.block b (lt_of_block HM4.out.blk) (fun e => jr_ne HM4.out.jr HM4.out.blk (by decide) e.symm)).trans HM4.out.blk; obtain ⟨⟨e0, e1, e2, e3⟩, g0, g1, g2, g3⟩ := bk_cells hb5) | (go_simp; go_wp2_with (go_at_call 30; refine HLI.out.mono ?_; rintro e w4 ⟨rfl, hM4⟩; have HM4 : Hid (BkM w w4 b m cm (.slice jx (jour l).length jc) sure l (putL nm (v + n) L)) := hM4; obtain ⟨⟨d0, d1, d2, d3⟩, -⟩ := bk_cells hM4.blk; clear hM4)))
      all_goals
        go_wp2
        go_ret
        refine ⟨rfl, HM4.out.done (e := (nm, n)) HSD.out hown5 (by rw [← HJS.out, List.length_append, hls]) (by rw [← HJS.out]; simp [Lib.byteCells, Lib.strCells]) hg5 hiff5 ?_ hl HSR.out⟩
        intro x hx
        rcases List.mem_append.1 hx with hx | hx
        · exact HOK.out x hx
        · obtain rfl := List.mem_singleton.1 hx
          exact HEN.out
end Go.Proofs.YtheadpemckoljaaGreatDoor
