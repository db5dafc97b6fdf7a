/-
  The reference's book in memory: Add, Get, Journal. Conditions: the book lies in memory; what strconv lays is laid.
-/
import Derived.Test.YtheadpemckoljaaGreatDoorJe
namespace Go.Proofs.YtheadpemckoljaaGreatDoor
open Go.RowKit Go.Extern.Stop Go.Stop Go.Extern Go.Maps Go.WideMaps

def entC (e : Ent) : List Value := [.string ⟨e.1.toArray⟩, .int .i64 e.2]
theorem entC_len (e : Ent) : (entC e).length = 2 := rfl
theorem entC_one (e : Ent) : ∀ u ∈ entC e, u.oneCell' = true := by intro u hu; simp [entC] at hu; rcases hu with rfl | rfl <;> rfl
theorem infoEntry : (Tryz.prog.info? 69).map (fun i => (i.zero, i.size, i.bytes)) = some (some (.agg #[.string ⟨#[]⟩, .int .i64 0]), 2, 24) := by kernel_rfl
/-- A reference's book at block p; lv: its entries' slice. -/
structure RbAt (w : World) (p : Nat) (lv : Value) (l : List Ent) : Prop where
  blk : w.heap[p]? = some (.cells #[lv] 32 (0, 0))
  row : w.ownsRow 0 69 2 lv l.length (flt entC l)
  ok : ∀ e ∈ l, EntOk e
  few : l.length ≤ 500
def RbS (p : Nat) (lv : Value) : Nat → Prop := fun k => k = p ∨ lv.ownBlock = some k
theorem RbAt.kept {w w' : World} {p : Nat} {lv : Value} {l : List Ent} (h : RbAt w p lv l) (hk : ∀ k, RbS p lv k → w'.heap[k]? = w.heap[k]?) : RbAt w' p lv l :=
  ⟨(hk p (Or.inl rfl)).trans h.blk, ownsRow_kept h.row fun k hj => hk k (Or.inr hj), h.ok, h.few⟩
theorem RbAt.lt {w : World} {p : Nat} {lv : Value} {l : List Ent} (h : RbAt w p lv l) {k : Nat} (hk : RbS p lv k) : k < w.heap.size := by
  rcases hk with rfl | hk
  · exact lt_of_block h.blk
  · obtain ⟨cur, hc⟩ := ownsRow_blk h.row hk
    exact lt_of_block hc
theorem RbAt.below {w w' : World} {p : Nat} {lv : Value} {l : List Ent} (h : RbAt w p lv l) (hb : Below w.heap.size w w') : RbAt w' p lv l := h.kept fun k hk => hb.block k (h.lt hk)
theorem RbAt.oth {w w' : World} {S : Nat → Prop} {p : Nat} {lv : Value} {l : List Ent} (h : RbAt w p lv l) (ho : Ot S w w') (hS : ∀ k, RbS p lv k → ¬ S k) : RbAt w' p lv l := h.kept fun k hk => ho.block k (h.lt hk) (hS k hk)
theorem one_cellj {w : World} {b : Nat} {t : TypeId} {v : Value} (h : w.heap[b]? = some (.cells #[v] t (0, 0))) : w.cell? ⟨b, 0, none⟩ = some v ∧ w.frozen? ⟨b, 0, none⟩ = false := by
  refine ⟨?_, ?_⟩
  all_goals simp [World.cell?, World.frozen?, h]
/-- Its entries' cells. -/
theorem RbAt.cells {w : World} {p : Nat} {lv : Value} {l : List Ent} (h : RbAt w p lv l) : (lv = .slice none 0 0 ∧ l = []) ∨ ∃ g c, lv = .slice (some ⟨g, 0, none⟩) l.length c ∧ ∀ i e, l[i]? = some e → w.cell? ⟨g, i * 2, none⟩ = some (.string ⟨e.1.toArray⟩) ∧ w.cell? ⟨g, i * 2 + 1, none⟩ = some (.int .i64 e.2) := by
  rcases owns_cells h.row with ⟨h1, h2⟩ | ⟨g, c, h1, h2⟩
  · exact Or.inl ⟨h1, List.length_eq_zero_iff.1 h2⟩
  · refine Or.inr ⟨g, c, h1, fun i e hi => ⟨?_, ?_⟩⟩
    · have := flt_at entC 2 entC_len hi (j := 0) (by decide)
      exact h2 _ _ (by rw [Nat.add_zero] at this; rw [this]; rfl)
    · have := flt_at entC 2 entC_len hi (j := 1) (by decide)
      exact h2 _ _ (by rw [this]; rfl)
/-- append: where what comes of it lies. -/
theorem append_own_fresh {P : Program} (w : World) (base : Nat) (t ty e : TypeId) (i : TypeInfo) (z : Value) (size bytes : Nat) (ht : P.underlying t = some (.slice e)) (hi : P.info? e = some i) (hz : i.zero = some z)
    (hsize : i.size = size) (hby : i.bytes = bytes) (hzs : z.cells.size = size) (hsz : 0 < size)
    (v : Value) (n : Nat) (xs : List Value) (hown : w.ownsRow base e size v n xs) (a : Addr) (m c : Nat) (news : List Value) (hl : news.length = m * size) (hnews : ∀ j u, news[j]? = some u → w.cell? (a.add j) = some u) (h1 : ∀ u ∈ news, u.oneCell' = true)
    (hm : 0 < m) (h63 : n + m ≤ maxLen) (hbytes : (n + m) * bytes ≤ 140737488355328) (hbase : base ≤ w.heap.size) :
    ∃ v' w', (Builtin.append_ #[t, t] ty #[v, .slice (some a) m c]).run P w = .ok v' w' ∧ w'.ownsRow base e size v' (n + m) (xs ++ news) ∧ w.grownBy w' v.ownBlock ∧ ∀ g, v'.ownBlock = some g → v.ownBlock = some g ∨ w.heap.size ≤ g := by
  obtain ⟨v', w', hr, h2, h3, _⟩ := run_append_own (P := P) w base t ty e i z size bytes ht hi hz hsize hby hzs hsz v n xs hown a m c news hl hnews h1 h63 hbytes hbase
  refine ⟨v', w', hr, h2, h3, ?_⟩
  obtain ⟨g, off, cap, w2, hr2, h4, h5, h6, h7⟩ := run_append_seg (P := P) w t ty e i z size bytes ht hi hz hsize hby hzs hsz v n xs (Seg.of_owns hown) a m c news hl hnews h1 hm h63 hbytes w.heap.size rfl
  rw [hr] at hr2
  simp only [Result.ok.injEq] at hr2
  obtain ⟨rfl, -⟩ := hr2
  intro g' hg
  simp only [Value.ownBlock, Option.some.injEq] at hg
  subst hg
  exact h6
/-- What Add leaves where it adds. -/
def RadP (w w' : World) (p : Nat) (lv : Value) (l : List Ent) : Prop := ∃ lv', RbAt w' p lv' l ∧ Ot (RbS p lv) w w' ∧ ∀ k, RbS p lv' k → RbS p lv k ∨ w.heap.size ≤ k
set_option maxRecDepth 100000 in
set_option maxHeartbeats 4000000 in
theorem radd_yes (p : Nat) (lv : Value) (l : List Ent) (nm : List UInt8) (n : Int) (w : World) (h : RbAt w p lv l) (he : EntOk (nm, n)) (hl : l.length < 500) :
    Calls Tryz.prog 9 #[.pointer (some ⟨p, 0, none⟩), .string ⟨nm.toArray⟩, .int .i64 n] w fun e w' => e = .returned (.int .i64 0) ∧ RadP w w' p lv (l ++ [(nm, n)]) := by
  have HEN : Hid (EntOk (nm, n)) := he
  obtain ⟨hn0, hn1, hn2⟩ := he
  simp only at hn1 hn2
  have hnl := nameOk_len hn0
  simp only at hnl
  have HNM : Hid (Calls Tryz.prog 11 #[.string ⟨nm.toArray⟩] w fun e w2 => e = .returned (.bool true) ∧ w2 = w) := by
    have := rname_any ⟨nm.toArray⟩ w (by show nm.toArray.size ≤ maxLen; rw [List.size_toArray]; unfold maxLen; omega)
    have ed : (⟨nm.toArray⟩ : ByteArray).data.toList = nm := List.toList_toArray
    rw [ed, hn0] at this
    exact this
  have HWI : Hid (Calls Tryz.prog 31 #[.int .i64 n, .int .i64 1, .int .i64 1000000] w fun e w2 => e = .returned (.bool true) ∧ w2 = w) := by
    have := rwithin_any n 1 1000000 w
    have e : wthJ n 1 1000000 = true := by simp [wthJ]; omega
    rw [e] at this
    exact this
  have HR : Hid (RbAt w p lv l) := h
  obtain ⟨lx, lc, rfl⟩ := owns_slice h.row
  obtain ⟨c0, f0⟩ := one_cellj h.blk
  have hp := lt_of_block h.blk
  have hll : ¬ 500 ≤ (l.length : Int) := by omega
  obtain ⟨i0, hi, hz0, hz1, hz2⟩ := info3 infoEntry
  have hk := new_block w (.cells #[.string ⟨nm.toArray⟩, .int .i64 n] 69)
  obtain ⟨v', w3, hr, hown, hg, hf⟩ := append_own_fresh (P := Tryz.prog) (w.alloc (.cells #[.string ⟨nm.toArray⟩, .int .i64 n] 69)) 0 30 30 69 i0 _ 2 24 Tryz.underlying30 hi hz0 hz1 hz2 rfl (by decide) (.slice lx l.length lc) l.length (flt entC l) (ownsRow_kept h.row fun k hk2 => by obtain ⟨cur, hc⟩ := ownsRow_blk h.row hk2; exact Below.heap_alloc _ _ _ (lt_of_block hc)) ⟨w.heap.size, 0, none⟩ 1 1 (entC (nm, n)) rfl (news_of hk) (entC_one _) (by decide) (by unfold maxLen; omega) (by omega) (Nat.zero_le _)
  obtain ⟨vx, vc, rfl⟩ := owns_slice hown
  have hpb : w3.heap[p]? = some (.cells #[.slice lx l.length lc] 32 (0, 0)) := (hg.block p (by simp; omega) (fun e => jr_ne h.row h.blk (by decide) e.symm)).trans ((Below.heap_alloc _ _ _ hp).trans h.blk)
  have HRR : Hid ((Builtin.append_ #[30, 30] 30 #[.slice lx l.length lc, .slice (some ⟨w.heap.size, 0, none⟩) 1 1]).run Tryz.prog (w.alloc (.cells #[.string ⟨nm.toArray⟩, .int .i64 n] 69)) = .ok (.slice vx (l.length + 1) vc) w3) := hr
  have HOW : Hid (w3.ownsRow 0 69 2 (.slice vx (l.length + 1) vc) (l.length + 1) (flt entC l ++ entC (nm, n))) := hown
  have HGR : Hid ((w.alloc (.cells #[.string ⟨nm.toArray⟩, .int .i64 n] 69)).grownBy w3 (Value.ownBlock (.slice lx l.length lc))) := hg
  have HFR : Hid (∀ g, (Value.ownBlock (.slice vx (l.length + 1) vc)) = some g → (Value.ownBlock (.slice lx l.length lc)) = some g ∨ (w.alloc (.cells #[.string ⟨nm.toArray⟩, .int .i64 n] 69)).heap.size ≤ g) := hf
  have HPB : Hid (w3.heap[p]? = some (.cells #[.slice lx l.length lc] 32 (0, 0))) := hpb
  obtain ⟨d0, g0⟩ := one_cellj hpb
  clear h hn0 hr hown hg hf hk hpb
  go_enter Tryz.func9, Tryz.ntmps9
  go_wp2_with fail
  refine HNM.out.mono ?_
  rintro e w1 ⟨rfl, rfl⟩
  go_wp2_with fail
  refine HWI.out.mono ?_
  rintro e w2 ⟨rfl, rfl⟩
  go_wp2_with (at_builtin; refine Lib.wpList_append_run _ rfl _ _ _ _ rfl _ _ rfl rfl _ _ HRR.out ?_)
  go_ret
  have k1 := heap_setCell_here (o := 0) HPB.out (.slice vx (l.length + 1) vc)
  have e1 : (l ++ [(nm, n)]).length = l.length + 1 := by simp
  have e2 : flt entC (l ++ [(nm, n)]) = flt entC l ++ entC (nm, n) := by rw [flt_append, flt_one]
  refine ⟨rfl, .slice vx (l.length + 1) vc, ⟨k1, ?_, ?_, by simp; omega⟩, ?_, ?_⟩
  · rw [e1, e2]
    exact ownsRow_kept HOW.out fun k hk => heap_setCell_other _ ⟨p, 0, none⟩ k _ (fun (e : k = p) => jr_ne HOW.out HPB.out (by decide) (by rw [← e]; exact hk))
  · intro x hx
    rcases List.mem_append.1 hx with hx | hx
    · exact HR.out.ok x hx
    · obtain rfl := List.mem_singleton.1 hx
      exact HEN.out
  · have o1 : Ot (RbS p (.slice lx l.length lc)) w2 w3 := ((Ot.refl _ _).alloc _).grown HGR.out fun k hk => Or.inl (Or.inr hk)
    exact o1.setCell (p := ⟨p, 0, none⟩) (Or.inl (Or.inl rfl)) _
  · rintro k (rfl | hk)
    · exact Or.inl (Or.inl rfl)
    · rcases HFR.out k hk with e | e
      · exact Or.inl (Or.inr e)
      · right
        simp at e
        omega
set_option maxRecDepth 100000 in
set_option maxHeartbeats 4000000 in
theorem radd_no (p : Nat) (lv : Value) (l : List Ent) (nm : List UInt8) (n : Int) (w : World) (h : RbAt w p lv l) (hs : nm.length ≤ maxLen) (he : addE l.length (nm, n) ≠ 0) :
    Calls Tryz.prog 9 #[.pointer (some ⟨p, 0, none⟩), .string ⟨nm.toArray⟩, .int .i64 n] w fun e w' => e = .returned (.int .i64 (addE l.length (nm, n))) ∧ w' = w := by
  have HNM : Hid (Calls Tryz.prog 11 #[.string ⟨nm.toArray⟩] w fun e w2 => e = .returned (.bool (nameOk nm)) ∧ w2 = w) := by
    have := rname_any ⟨nm.toArray⟩ w (by show nm.toArray.size ≤ maxLen; rw [List.size_toArray]; exact hs)
    have ed : (⟨nm.toArray⟩ : ByteArray).data.toList = nm := List.toList_toArray
    rw [ed] at this
    exact this
  have HWI : Hid (Calls Tryz.prog 31 #[.int .i64 n, .int .i64 1, .int .i64 1000000] w fun e w2 => e = .returned (.bool (wthJ n 1 1000000)) ∧ w2 = w) := rwithin_any n 1 1000000 w
  obtain ⟨lx, lc, rfl⟩ := owns_slice h.row
  obtain ⟨c0, -⟩ := one_cellj h.blk
  have hfew := h.few
  clear h
  cases hn : nameOk nm with
  | false =>
    rw [hn] at HNM
    have HX : Hid (addE l.length (nm, n) = 5) := by show _ = _; unfold addE; rw [if_pos hn]
    clear hn he
    go_enter Tryz.func9, Tryz.ntmps9
    go_wp2_with fail
    refine HNM.out.mono ?_
    rintro e w1 ⟨rfl, rfl⟩
    go_wp2
    go_ret
    exact ⟨by rw [HX.out]; rfl, rfl⟩
  | true =>
    rw [hn] at HNM
    by_cases hr : 1 ≤ n ∧ n ≤ 1000000
    · have hl : 500 ≤ l.length := by
        rcases Nat.lt_or_ge l.length 500 with h5 | h5
        · exact absurd (addE_ok ⟨hn, hr⟩ h5) he
        · exact h5
      have HX : Hid (addE l.length (nm, n) = 4) := by show _ = _; unfold addE; rw [if_neg (by simp [hn]), if_neg (fun hh => hh hr), if_pos hl]
      have hl1 : (500 : Int) ≤ l.length := by omega
      have hw : wthJ n 1 1000000 = true := by simp [wthJ]; omega
      rw [hw] at HWI
      clear hn he hr hw
      go_enter Tryz.func9, Tryz.ntmps9
      go_wp2_with fail
      refine HNM.out.mono ?_
      rintro e w1 ⟨rfl, rfl⟩
      go_wp2_with fail
      refine HWI.out.mono ?_
      rintro e w2 ⟨rfl, rfl⟩
      go_wp2
      go_ret
      exact ⟨by rw [HX.out]; rfl, rfl⟩
    · have HX : Hid (addE l.length (nm, n) = 2) := by show _ = _; unfold addE; rw [if_neg (by simp [hn]), if_pos hr]
      have hw : wthJ n 1 1000000 = false := by simp [wthJ]; omega
      rw [hw] at HWI
      clear hn he hr hw
      go_enter Tryz.func9, Tryz.ntmps9
      go_wp2_with fail
      refine HNM.out.mono ?_
      rintro e w1 ⟨rfl, rfl⟩
      go_wp2_with fail
      refine HWI.out.mono ?_
      rintro e w2 ⟨rfl, rfl⟩
      go_wp2
      go_ret
      exact ⟨by rw [HX.out]; rfl, rfl⟩
theorem sumE_take {l : List Ent} {i : Nat} {e : Ent} (h : l[i]? = some e) (s : List UInt8) : sumE (l.take (i + 1)) s = sumE (l.take i) s + if e.1 = s then e.2 else 0 := by
  rw [List.take_add_one, h]
  exact sumE_snoc _ _ _
set_option maxRecDepth 100000 in
set_option maxHeartbeats 4000000 in
theorem rget_any (p : Nat) (lv : Value) (l : List Ent) (s : List UInt8) (w : World) (h : RbAt w p lv l) :
    Calls Tryz.prog 15 #[.pointer (some ⟨p, 0, none⟩), .string ⟨s.toArray⟩] w fun e w' => e = .returned (.int .i64 (sumE l s)) ∧ Below w.heap.size w w' := by
  have HB : Hid (∀ w', Below w.heap.size w w' → RbAt w' p lv l) := fun w' hb => h.below hb
  have HOK : Hid (∀ e ∈ l, EntOk e) := h.ok
  have hfew := h.few
  obtain ⟨lx, lc, rfl⟩ := owns_slice h.row
  obtain ⟨c0, -⟩ := one_cellj h.blk
  clear h
  go_enter Tryz.func15, Tryz.ntmps15
  go_wp2
  go_loopg [13, 5] l.length (fun g v13 v5 wx => ∃ i : Nat, i + g = l.length ∧ v13 = .int .i64 i ∧ v5 = .int .i64 (sumE (l.take i) s) ∧ Hid (Below w.heap.size w wx))
  case atStart => exact ⟨0, by omega, rfl, rfl, Below.refl _ _⟩
  case round =>
    obtain ⟨i, hig, rfl, rfl, HBB⟩ := hrel
    by_cases hi : i < l.length
    · obtain ⟨e, he⟩ : ∃ e, l[i]? = some e := ⟨_, List.getElem?_eq_getElem hi⟩
      have HE : Hid (l[i]? = some e) := he
      rcases (HB.out wr HBB.out).cells with ⟨_, h0⟩ | ⟨g, c, hlv, hc⟩
      · rw [h0] at he; simp at he
      simp only [Value.slice.injEq, true_and] at hlv
      obtain ⟨rfl, rfl⟩ := hlv
      obtain ⟨q0, q1⟩ := hc i e he
      have hi1 : (i : Int) < l.length := by omega
      have hbd := sumE_bd (l := l.take i) (fun x hx => HOK.out x (List.mem_of_mem_take hx)) s
      have htl : (l.take i).length ≤ 500 := by rw [List.length_take]; omega
      have hen := (HOK.out e (List.mem_of_getElem? he)).2
      obtain ⟨hb0, hb1⟩ := hbd
      obtain ⟨hen0, hen1⟩ := hen
      have HSU := sumE_take HE.out s
      have HSUM : Hid (sumE (l.take (i + 1)) s = sumE (l.take i) s + if e.1 = s then e.2 else 0) := HSU
      clear HSU hc he
      by_cases hes : e.1 = s
      · have hq : (e.1 == s) = true := by simpa using hes
        have HV : Hid (sumE (l.take (i + 1)) s = sumE (l.take i) s + e.2) := by show _ = _; rw [HSUM.out, if_pos hes]
        clear hes HSUM
        generalize sumE (l.take i) s = sm at *
        have hwv : IntKind.i64.wrap (sm + e.2) = sm + e.2 := by rw [IntKind.wrap_i64]; omega
        go_wp2
        go_roundg (gk - 1)
        case measure => omega
        case rel => exact ⟨i + 1, by omega, by go_num, by rw [HV.out], below_alloc_ HBB.out _⟩
      · have hq : (e.1 == s) = false := by simpa using hes
        have HV : Hid (sumE (l.take (i + 1)) s = sumE (l.take i) s) := by show _ = _; rw [HSUM.out, if_neg hes]; simp
        clear hes HSUM
        generalize sumE (l.take i) s = sm at *
        go_wp2
        go_roundg (gk - 1)
        case measure => omega
        case rel => exact ⟨i + 1, by omega, by go_num, by rw [HV.out], below_alloc_ HBB.out _⟩
    · obtain rfl : i = l.length := by omega
      have e : l.take l.length = l := List.take_of_length_le (Nat.le_refl _)
      rw [e]
      clear e
      go_wp2
      go_ret
      exact ⟨rfl, HBB.out⟩
theorem jour_take {l : List Ent} {i : Nat} {e : Ent} (h : l[i]? = some e) : jour (l.take (i + 1)) = jour (l.take i) ++ lineL i e := by
  have hi := (List.getElem?_eq_some_iff.1 h).1
  have e1 : (l.take i).length = i := by rw [List.length_take]; omega
  rw [List.take_add_one, h]
  have := jour_snoc (l.take i) e
  rw [e1] at this
  exact this
set_option maxRecDepth 100000 in
set_option maxHeartbeats 4000000 in
theorem rjournal_any (p : Nat) (lv : Value) (l : List Ent) (w : World) (h : RbAt w p lv l) (hT : Tab w) :
    Calls Tryz.prog 13 #[.pointer (some ⟨p, 0, none⟩)] w fun e w' => e = .returned (.string ⟨(jour l).toArray⟩) ∧ Below w.heap.size w w' := by
  have HB : Hid (∀ w', Below w.heap.size w w' → RbAt w' p lv l) := fun w' hb => h.below hb
  have HT : Hid (∀ w', Below w.heap.size w w' → Tab w') := fun w' hb => hT.below hb
  have HOK : Hid (∀ e ∈ l, EntOk e) := h.ok
  have hfew := h.few
  obtain ⟨lx, lc, rfl⟩ := owns_slice h.row
  obtain ⟨c0, -⟩ := one_cellj h.blk
  clear h hT
  go_enter Tryz.func13, Tryz.ntmps13
  go_wp2
  go_loopg [11, 3] l.length (fun g v11 v3 wx => ∃ i : Nat, i + g = l.length ∧ v11 = .int .i64 i ∧ v3 = .string ⟨(jour (l.take i)).toArray⟩ ∧ Hid (Below w.heap.size w wx))
  case atStart => exact ⟨0, by omega, rfl, rfl, Below.refl _ _⟩
  case round =>
    obtain ⟨i, hig, rfl, rfl, HBB⟩ := hrel
    by_cases hi : i < l.length
    · obtain ⟨e, he⟩ : ∃ e, l[i]? = some e := ⟨_, List.getElem?_eq_getElem hi⟩
      have HE : Hid (l[i]? = some e) := he
      rcases (HB.out wr HBB.out).cells with ⟨_, h0⟩ | ⟨g, c, hlv, hc⟩
      · rw [h0] at he; simp at he
      simp only [Value.slice.injEq, true_and] at hlv
      obtain ⟨rfl, rfl⟩ := hlv
      obtain ⟨q0, q1⟩ := hc i e he
      have hi1 : (i : Int) < l.length := by omega
      have hen := HOK.out e (List.mem_of_getElem? he)
      have hnl := nameOk_len hen.1
      have hen0 := hen.2.1
      have hen1 := hen.2.2
      have hjl := jour_len (l := l.take i) (fun x hx => HOK.out x (List.mem_of_mem_take hx)) (by rw [List.length_take]; omega)
      have hll := bodyL_len (k := i) (e := e) hen.1 (by omega) (by omega) (by omega)
      have HJ : Hid (jour (l.take (i + 1)) = jour (l.take i) ++ lineL i e) := jour_take HE.out
      have HLI : Hid (∀ w', Below w.heap.size w w' → Calls Tryz.prog 32 #[.int .i64 i, .agg #[.string ⟨e.1.toArray⟩, .int .i64 e.2]] w' fun e1 w2 => e1 = .returned (.string ⟨(lineL i e).toArray⟩) ∧ Below w.heap.size w w2) := fun w' hb => (rline_any i e.1 e.2 w' (HT.out w' hb) (by omega) (by omega) (by omega) (by omega)).mono fun e1 w2 ⟨a, b⟩ => ⟨a, hb.trans (b.mono hb.size)⟩
      clear hc he hen
      generalize jour (l.take i) = J at *
      generalize lineL i e = LL at *
      have s1 : ¬ (9223372036854775807 < J.length + LL.length) := by omega
      go_wp2_with fail
      refine (HLI.out _ (below_alloc_ HBB.out _)).mono ?_
      rintro e1 w2 ⟨rfl, hb2⟩
      go_wp2
      go_roundg (gk - 1)
      case measure => omega
      case rel => exact ⟨i + 1, by omega, by go_num, by rw [HJ.out, ← app_ba], hb2⟩
    · obtain rfl : i = l.length := by omega
      have e : l.take l.length = l := List.take_of_length_le (Nat.le_refl _)
      rw [e]
      clear e
      go_wp2
      go_ret
      exact ⟨rfl, HBB.out⟩
end Go.Proofs.YtheadpemckoljaaGreatDoor
