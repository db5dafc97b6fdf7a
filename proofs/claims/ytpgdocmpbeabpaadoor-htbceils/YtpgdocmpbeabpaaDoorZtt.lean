/-
  HtbCeils, where the tree is made. Conditions: the classes and the steps lie in memory; errors.errorType is laid.
-/
import Derived.Test.YtpgdocmpbeabpaaDoorU36
import Derived.Test.YtpgdocmpbeabpaaDoorU40
import Derived.Test.YtpgdocmpbeabpaaDoorU41
import Derived.Test.YtpgdocmpbeabpaaDoorBkCf
import Derived.Deep.OwnRows
import Derived.Deep.DeepCutAuto
import Derived.BigRegion
namespace Go.Proofs.YtpgdocmpbeabpaaDoor
open Go.RowKit Go.Extern.Stop Go.Stop Go.Extern

theorem ptrTrF (b : Nat) (w : World) : (binOp .eql 24 (.pointer (some ⟨b, 0, none⟩)) (.pointer none)).run Tryd.prog w = .ok (.bool false) w := by kernel_rfl
theorem infoItL : (Tryd.prog.info? 35).map (fun i => (i.zero, i.size, i.bytes)) = some (some (.slice none 0 0), 1, 24) := by kernel_rfl
theorem infoItC : (Tryd.prog.info? 37).map (fun i => (i.zero, i.size, i.bytes)) = some (some (.agg #[.int .i64 0, .int .i64 0, .int .i64 0, .int .i64 0, .int .i64 0]), 5, 40) := by kernel_rfl
theorem okL_gon {xs : List It} {T : Int} (h : ∀ x ∈ xs, x.f = 0 ∧ x.b = 0 ∧ x.m = 0 ∧ 0 ≤ x.a ∧ x.a ≤ T ∧ 1 ≤ x.l ∧ x.l ≤ 10000) (hT : ∀ x ∈ xs, x.a ≤ 1000000000) (hp : xs.Pairwise (fun a b => a.a ≤ b.a)) (hl : ¬ 100 < xs.length) : okL xs := by
  have hok : ∀ (i : Nat) (x : It), xs[i]? = some x → x.ok = true := fun i x hx => by
    have h1 := h x (List.mem_of_getElem? hx)
    have h2 := hT x (List.mem_of_getElem? hx)
    obtain ⟨f, b, m, _⟩ := h1
    simp only [It.ok, Bool.and_eq_true, wth_iff]
    omega
  unfold okL
  rw [listE_fine hl (fun j hj => ?_)]
  obtain ⟨x, hx⟩ : ∃ x, xs[j]? = some x := ⟨_, List.getElem?_eq_getElem hj⟩
  cases j with
  | zero => exact fault_first hx (hok _ _ hx)
  | succ j =>
    obtain ⟨y, hy⟩ : ∃ y, xs[j]? = some y := ⟨_, List.getElem?_eq_getElem (by omega)⟩
    refine fault_none hx hy (hok _ _ hx) ?_
    rw [List.getElem?_eq_some_iff] at hx hy
    obtain ⟨h1, e1⟩ := hx
    obtain ⟨h2, e2⟩ := hy
    have := List.pairwise_iff_getElem.1 hp j (j + 1) h2 h1 (by omega)
    rw [e1, e2] at this
    omega
theorem putD_len (ts : List Stp) (i : Nat) : (putD ts i).length ≤ i := by
  induction i with
  | zero => simp [putD]
  | succ i ih =>
    simp only [putD]
    split
    · omega
    · split
      · simp; omega
      · omega
theorem go_putN {wr w8 : World} {g N : Nat} {vs : Nat → Value} {A : Nat → List It} {P P' : List It} {base : Nat} {o : Obj} {y : It} {b off cap : Nat} (h : GoAt wr g N vs (fun c => if c < N then A c else P) base) (hbs : base ≤ wr.heap.size)
    (hs : Seg w8 37 5 (.slice (some ⟨b, off, none⟩) (P.length + 1) cap) (P.length + 1) (flt It.cl P ++ y.cl)) (hg : (wr.alloc o).grownBy w8 (vs N).ownBlock) (ha : (vs N).ownBlock = some b ∨ (wr.alloc o).heap.size ≤ b) (hP : P' = P ++ [y]) :
    GoAt w8 g N (updF vs N (.slice (some ⟨b, off, none⟩) (P.length + 1) cap)) (fun c => if c < N then A c else P') base := by
  have h1 : GoAt (wr.alloc o) g N vs (fun c => if c < N then A c else P) base := h.below (below_alloc_ (Below.refl _ _) _)
  have e : (if N < N then A N else P) = P := if_neg (Nat.lt_irrefl _)
  have h2 := h1.grow (c := N) (Nat.le_refl _) (y := y) (b := b) (off := off) (cap := cap) (w2 := w8) (by simp only [e]; exact hs) hg ha (by simp; omega) (Or.inr ⟨rfl, rfl⟩)
  simp only [e] at h2
  refine ⟨h2.blk, h2.lo, fun c hc => ?_, h2.lr, h2.ne⟩
  have h3 := h2.row c hc
  have eG : updF (fun c => if c < N then A c else P) N (P ++ [y]) c = if c < N then A c else P' := by
    by_cases ec : c = N
    · subst ec
      rw [updF_same, if_neg (Nat.lt_irrefl _), hP]
    · rw [updF_ne ec]
      show (if c < N then A c else P) = _
      rw [if_pos (by omega), if_pos (by omega)]
  rw [eG] at h3
  exact h3
theorem go_lowN {w : World} {g N : Nat} {vs : Nat → Value} {G : Nat → List It} {base : Nat} (h : GoAt w g N vs G base) : ∀ k, (vs N).ownBlock = some k → base ≤ k := fun k hk => h.lr N (Nat.le_refl _) k hk
theorem make_itL (n : Nat) (h : n ≤ 1000) (w : World) : (Instr.makeSlice 34 (.int .i64 (n : Int)) (.int .i64 (n : Int))).run Tryd.prog w = .ok (.slice (some ⟨w.heap.size, 0, none⟩) n n) (w.alloc (.cells (madeCells #[.slice none 0 0] n) 35)) :=
  run_make_row' (P := Tryd.prog) 34 35 (.slice none 0 0) 24 Tryd.underlying34 infoItL rfl .i64 .i64 n (by omega) (by omega) w
theorem go_start (w : World) (n : Nat) : GoAt (w.alloc (.cells (madeCells #[.slice none 0 0] n) 35)) w.heap.size n (fun _ => .slice none 0 0) (fun _ => []) w.heap.size := by
  refine ⟨⟨_, new_block _ _, ?_, fun i hi => ?_⟩, Nat.le_refl _, fun c _ => Seg.nil _ _ _, fun c _ k hk => (by cases hk), fun c d _ _ _ k hk => (by cases hk)⟩
  · have := congrArg List.length (toList_madeCells_one (.slice none 0 0) n)
    simpa using this
  · rw [← Array.getElem?_toList, toList_madeCells_one, List.getElem?_replicate, if_pos hi]
set_option maxRecDepth 20000 in
set_option maxHeartbeats 8000000 in
theorem ceils_yes (l : List HCl) (px : Option Addr) (cap : Nat) (room : Int) (x : Option Addr) (xcap : Nat) (xs : List Stp) (w : World) (hA : ArgAt HCl.cs w px l) (hl : Lies w x (flt Stp.cs xs)) (hL : Laid w) (hm : xs.length ≤ 120) (hok : OkH l)
    (hC : Calls Tryd.prog 5 #[.slice px l.length cap, .int .i64 room] w fun e w' => Below w.heap.size w w' ∧ ∃ K, e = .returned (.tuple #[.pointer (some ⟨K.tb, 0, none⟩), .nilIface]) ∧ Hid (NewH K l room w.heap.size w')) :
    Calls Tryd.prog 3 #[.slice px l.length cap, .int .i64 room, .slice x xs.length xcap] w fun e w' => e = .returned (.bool true) ∧ Below w.heap.size w w' := by
  have g1 : ¬ ((120 : Int) < (xs.length : Int)) := by omega
  have g2 : ¬ ((20 : Int) < (l.length : Int)) := by have := hok.2.1; omega
  have hp1 := ptrTrF
  have HM : Hid (xs.length ≤ 120) := hm
  have HOK : Hid (OkH l) := hok
  have HL : Hid (∀ W, Below w.heap.size w W → Laid W) := fun W hW => hL.below hW
  have HA : Hid (∀ W, Below w.heap.size w W → ArgAt HCl.cs W px l) := fun W hW => hA.below hW
  have HX : Hid (∀ W, Below w.heap.size w W → Lies W x (flt Stp.cs xs)) := fun W hW => hl.below hW
  have HCC : Hid (Calls Tryd.prog 5 #[.slice px l.length cap, .int .i64 room] w fun e w' => Below w.heap.size w w' ∧ ∃ K, e = .returned (.tuple #[.pointer (some ⟨K.tb, 0, none⟩), .nilIface]) ∧ Hid (NewH K l room w.heap.size w')) := hC
  clear hC hL hA hl hok
  go_enter Tryd.func3, Tryd.ntmps3
  go_wp2_with (go_at_call 5; fail)
  refine HCC.out.mono ?_
  rintro e w1 ⟨hb1, K, rfl, HK⟩
  have HB1 : Hid (Below w.heap.size w w1) := hb1
  clear hb1
  go_wp2_with (go_at_call 6; fail)
  refine (borrows_any w1 (HL.out w1 HB1.out)).mono ?_
  rintro e w2 ⟨rfl, hb2⟩
  have HB2 : Hid (Below w.heap.size w w2) := HB1.out.trans (hb2.mono HB1.out.size)
  have HAT : Hid (∃ vs ow, HtAt K w2 ⟨nd0 K, 0, 0⟩ vs ow ∧ ∀ k, HtF K vs k → w.heap.size ≤ k) := by
    obtain ⟨vs, ow, h1, h2⟩ := HK.out.at'
    exact ⟨vs, ow, h1.below hb2, h2⟩
  clear hb2
  go_wp2_with (go_at_call 7; fail)
  obtain ⟨vs, ow, hAt, hF⟩ := HAT.out
  refine (play_any (HtM K) (htM_fine HK.out.ok) (HtF K vs) (⟨nd0 K, 0, 0⟩ : HtS) x xcap xs w2 (HX.out w2 HB2.out) (by omega) ⟨vs, ow, hAt, fun _ => Iff.rfl⟩ HK.out.inv).mono ?_
  rintro e w3 ⟨u, us, F, rfl, hsn, hot⟩
  have hb3 : Below w.heap.size w w3 := HB2.out.trans (hot.below HB2.out.size hF)
  have HB3 : Hid (Below w.heap.size w w3) := hb3
  have hrun := orders_run (htM_fine HK.out.ok) (htM_orders HK.out.ok) xs (by omega) (⟨nd0 K, 0, 0⟩ : HtS) (by
    show catN _ _ = []
    have : ∀ k, catN (fun i => (nd0 K i).L) k = [] := fun k => by
      induction k with
      | zero => rfl
      | succ k ih => simp only [catN, ih]; rfl
    exact this _) HK.out.inv
  obtain ⟨G, G2, hG0, hG⟩ := play_keeps (htM_keeps HK.out.ok) (s0 := (⟨nd0 K, 0, 0⟩ : HtS)) (by
    show catN _ _ = []
    have : ∀ k, catN (fun i => (nd0 K i).L) k = [] := fun k => by
      induction k with
      | zero => rfl
      | succ k ih => simp only [catN, ih]; rfl
    exact this _) (timesL 0 xs)
  have hceil := ceil_run HK.out.ok xs (by omega) (⟨nd0 K, 0, 0⟩ : HtS) HK.out.inv (GI.start K)
  have hsl : (playFrom (HtM K) (⟨nd0 K, 0, 0⟩ : HtS) 0 (timesL 0 xs)).length = xs.length := by
    have := playFrom_length (HtM K) (⟨nd0 K, 0, 0⟩ : HtS) 0 (timesL 0 xs)
    rw [timesL_length] at this
    exact this
  have hstep : ∀ i t sn, (timesL 0 xs)[i]? = some t → (playFrom (HtM K) (⟨nd0 K, 0, 0⟩ : HtS) 0 (timesL 0 xs))[i]? = some sn → GStep K (putD (timesL 0 xs) (i + 1)) sn := fun i t sn ht hs => by
    have hi := (List.getElem?_eq_some_iff.1 ht).1
    rw [timesL_length] at hi
    exact (hceil i (by omega)).2 t sn ht hs
  have hci := (hceil xs.length (Nat.le_refl _)).1.ci
  have hnow : ∀ c, c < K.N → ∀ y ∈ gonD K (timesL 0 xs) (playFrom (HtM K) (⟨nd0 K, 0, 0⟩ : HtS) 0 (timesL 0 xs)) xs.length c, y.a ≤ 1000000000 := fun c hc y hy => by
    have h1 := hci.it c hc y hy
    have h2 := inv_run (htM_fine HK.out.ok) xs (by omega) (⟨nd0 K, 0, 0⟩ : HtS) HK.out.inv xs.length (Nat.le_refl _)
    have h3 := (HtJ.i h2).tm
    have h4 := nowAt_le 0 xs xs.length
    omega
  have hk := kept_any xs _ us G G2 x xcap u _ F w3 (HX.out w3 hb3) (by omega) hsn hsl hG0 hG
  have hbN : HtK.Of K l l.length := HK.out.of
  generalize playFrom (HtM K) (⟨nd0 K, 0, 0⟩ : HtS) 0 (timesL 0 xs) = ss at *
  have HSL : Hid (ss.length = xs.length) := hsl
  have HSTEP : Hid (∀ i t sn, (timesL 0 xs)[i]? = some t → ss[i]? = some sn → GStep K (putD (timesL 0 xs) (i + 1)) sn) := hstep
  obtain ⟨sE, hsE⟩ : ∃ sE, (stFrom (HtM K) (⟨nd0 K, 0, 0⟩ : HtS) 0 (timesL 0 xs) xs.length).1 = sE := ⟨_, rfl⟩
  rw [hsE] at hci
  have HCI : Hid (CI K sE (gonD K (timesL 0 xs) ss xs.length)) := hci
  have HNOW : Hid (∀ c, c < K.N → ∀ y ∈ gonD K (timesL 0 xs) ss xs.length c, y.a ≤ 1000000000) := hnow
  have HRUN : Hid (∀ i t sn, (timesL 0 xs)[i]? = some t → ss[i]? = some sn → OStep (flowD (timesL 0 xs) (i + 1)) (lastO (timesL 0 xs) ss i) sn) := hrun
  have HSN : Hid (Sns w3 w2.heap.size F u ss us) := hsn
  have HOF : Hid (HtK.Of K l l.length) := hbN
  obtain ⟨sx, scap, hu, _⟩ := hsn.lies
  rw [hsl] at hu
  subst hu
  clear hsE hci hnow hrun hsn hstep hsl hceil hG hG0 hot hAt hF hb3 hbN
  go_wp2_with (go_at_call 8; fail)
  refine hk.mono ?_
  rintro e w4 ⟨rfl, hb4⟩
  have HB4 : Hid (Below w.heap.size w w4) := HB3.out.trans (hb4.mono HB3.out.size)
  have HS4 : Hid (Sns w4 w2.heap.size F (.slice sx xs.length scap) ss us) := HSN.out.ot (F' := F) (Ot.of_below (S := fun _ => False) hb4) (fun _ _ _ _ h => h) (fun _ _ h => h)
  clear hb4 hk HSN
  have HO := ordered_any xs ss us x xcap (.slice sx xs.length scap) _ F w4 (HX.out w4 HB4.out) (by omega) HS4.out HSL.out HRUN.out
  go_wp2_with (go_at_call 9; fail)
  refine HO.mono ?_
  rintro e w5 ⟨rfl, hb5⟩
  have HB5 : Hid (Below w.heap.size w w5) := HB4.out.trans (hb5.mono HB4.out.size)
  have HS5 : Hid (Sns w5 w2.heap.size F (.slice sx xs.length scap) ss us) := HS4.out.ot (F' := F) (Ot.of_below (S := fun _ => False) hb5) (fun _ _ _ _ h => h) (fun _ _ h => h)
  clear hb5 HO HS4 HRUN
  have HTM := times_any x xcap xs w5 (HX.out w5 HB5.out) (by omega)
  go_wp2_with (go_at_call 10; fail)
  refine HTM.mono ?_
  rintro e w6 ⟨tv, rfl, hts, htn, hb6⟩
  obtain ⟨tx, tcap, rfl, hlt⟩ := hts.lies
  rw [timesL_length]
  have HB6 : Hid (Below w.heap.size w w6) := HB5.out.trans (hb6.mono HB5.out.size)
  have HT6 : Hid (Lies w6 tx (flt Stp.cs (timesL 0 xs))) := hlt
  have HS6 : Hid (Sns w6 w2.heap.size F (.slice sx xs.length scap) ss us) := HS5.out.ot (F' := F) (Ot.of_below (S := fun _ => False) hb6) (fun _ _ _ _ h => h) (fun _ _ h => h)
  clear hb6 hts htn hlt HTM HS5
  have hok16 := HOK.out.2.1
  have hmk := make_itL l.length (by omega)
  have HGO : Hid (GoAt (w6.alloc (.cells (madeCells #[.slice none 0 0] l.length) 35)) w6.heap.size l.length (fun _ => .slice none 0 0) (fun _ => []) w6.heap.size) := go_start w6 l.length
  have HB7 : Hid (Below w.heap.size w (w6.alloc (.cells (madeCells #[.slice none 0 0] l.length) 35))) := HB6.out.alloc HB6.out.size _
  go_wp2
  clear hmk
  have HW7 : Hid (Below w6.heap.size w6 (w6.alloc (.cells (madeCells #[.slice none 0 0] l.length) 35))) := below_alloc_ (Below.refl _ _) _
  generalize w6.alloc (.cells (madeCells #[.slice none 0 0] l.length) 35) = w7 at *
  go_loopw [12, 13] (fun pv iv wr => ∃ (i : Nat) (vs : Nat → Value), i ≤ xs.length ∧ iv = .int .i64 i ∧ pv = vs l.length ∧ Hid (GoAt wr w6.heap.size l.length vs (fun c => if c < l.length then gonD K (timesL 0 xs) ss i c else putD (timesL 0 xs) i) w6.heap.size) ∧ Hid (Below w6.heap.size w6 wr)) (fun _ iv _ => xs.length - (intOf iv).toNat)
  case atStart => exact ⟨0, _, Nat.zero_le _, rfl, rfl, by
    have e : (fun c => if c < l.length then gonD K (timesL 0 xs) ss 0 c else putD (timesL 0 xs) 0) = fun _ => [] := by
      funext c
      split <;> rfl
    rw [e]
    exact HGO, HW7⟩
  case round =>
    clear HGO HW7 HB7
    obtain ⟨i, vs, hi, rfl, rfl, HG, HW⟩ := hrel
    by_cases hlt : i < xs.length
    · obtain ⟨t, ht⟩ : ∃ t, (timesL 0 xs)[i]? = some t := ⟨_, List.getElem?_eq_getElem (by rw [timesL_length]; exact hlt)⟩
      obtain ⟨sn, hsn⟩ : ∃ sn, ss[i]? = some sn := ⟨_, List.getElem?_eq_getElem (by rw [HSL.out]; exact hlt)⟩
      obtain ⟨un, hun⟩ : ∃ un, us[i]? = some un := ⟨_, List.getElem?_eq_getElem (by rw [HS6.out.len, HSL.out]; exact hlt)⟩
      obtain ⟨sx', scap', hv, hlies⟩ := HS6.out.lies
      simp only [Value.slice.injEq] at hv
      obtain ⟨rfl, hmid, rfl⟩ := hv
      clear hmid
      obtain ⟨sb, soff, rfl, hsb6, a0', _, _, _, _, _⟩ := hlies.seen (k := i) (p := (sn, un)) (zip_at hsn hun)
      obtain ⟨tb, toff, rfl, htb6, t0', t1', t2', t3', t4', t5', t6'⟩ := HT6.out.seven ht
      have a0 := (HW.out.cell (p := ⟨sb, soff + i * 6, none⟩) hsb6).trans a0'
      have t0 := (HW.out.cell (p := ⟨tb, toff + i * 7, none⟩) htb6).trans t0'
      have t1 := (HW.out.cell (p := ⟨tb, toff + i * 7 + 1, none⟩) htb6).trans t1'
      have t2 := (HW.out.cell (p := ⟨tb, toff + i * 7 + 2, none⟩) htb6).trans t2'
      have t3 := (HW.out.cell (p := ⟨tb, toff + i * 7 + 3, none⟩) htb6).trans t3'
      have t4 := (HW.out.cell (p := ⟨tb, toff + i * 7 + 4, none⟩) htb6).trans t4'
      have t5 := (HW.out.cell (p := ⟨tb, toff + i * 7 + 5, none⟩) htb6).trans t5'
      have t6 := (HW.out.cell (p := ⟨tb, toff + i * 7 + 6, none⟩) htb6).trans t6'
      have hsb : sb < wr.heap.size := by have := HW.out.size; omega
      have htb : tb < wr.heap.size := by have := HW.out.size; omega
      have HB6K : Hid (sb < w6.heap.size ∧ tb < w6.heap.size) := ⟨hsb6, htb6⟩
      have HA0 : Hid (wr.cell? ⟨sb, soff + i * 6, none⟩ = some (.int .i64 sn.taken)) := a0
      have HT1 : Hid (w6.cell? ⟨tb, toff + i * 7 + 1, none⟩ = some (.int .i64 t.lt)) := t1'
      have HM120 : Hid (xs.length ≤ 120) := HM
      clear a0' t0' t1' t2' t3' t4' t5' t6' hsb6 htb6
      have hki : (i : Int) < (xs.length : Int) := by omega
      have HTI : Hid ((timesL 0 xs)[i]? = some t) := ht
      have HSI : Hid (ss[i]? = some sn) := hsn
      have HLT : Hid (i < xs.length) := hlt
      have HBK : Hid (sb < wr.heap.size ∧ tb < wr.heap.size) := ⟨hsb, htb⟩
      obtain ⟨j0, hj0, hy0, hy1, hy2⟩ := info_parts infoItC
      have HPL : Hid ((putD (timesL 0 xs) i).length ≤ i) := putD_len _ _
      have hrowN : Seg wr 37 5 (vs l.length) (putD (timesL 0 xs) i).length (flt It.cl (putD (timesL 0 xs) i)) := by
        have h := HG.out.row l.length (Nat.le_refl _)
        simp only [if_neg (Nat.lt_irrefl _)] at h
        exact h
      have HRN : Hid (Seg wr 37 5 (vs l.length) (putD (timesL 0 xs) i).length (flt It.cl (putD (timesL 0 xs) i))) := hrowN
      clear hlies ht hsn hun hlt hrowN
      by_cases hk0 : sn.taken < 0
      · have hk1 : ¬ (0 ≤ sn.taken) := by omega
        have HGD : Hid (gonD K (timesL 0 xs) ss (i + 1) = gonD K (timesL 0 xs) ss i) := by show _ = _; rw [gonD_succ HTI.out HSI.out, if_neg hk1]
        by_cases hw : t.what = 0
        · have HPD : Hid (putD (timesL 0 xs) (i + 1) = putD (timesL 0 xs) i ++ [⟨t.a, t.l, t.f, t.b, t.m⟩]) := by show _ = _; rw [putD_succ HTI.out, if_pos hw]
          go_wp2_with (at_builtin; go_loud (refine wpList_append_seg _ rfl (.tmp 77) (.tmp 83) 35 rfl 37 j0 _ 5 40 Tryd.underlying35 hj0 hy0 hy1 hy2 rfl (by decide) (vs l.length) _ _ rfl (HRN.out.alloc _) ⟨wr.heap.size, 0, none⟩ 1 1 (It.cl ⟨t.a, t.l, t.f, t.b, t.m⟩) rfl rfl (news_of (new_block_ rfl)) (It.cl_one _) (by decide) (by have := HPL.out; unfold maxLen; omega) (by have := HPL.out; omega) _ rfl ?_; intro g8 off8 cap8 w8 hs8 hg8 ha8 hl8; have HGZ : Hid (GoAt w8 w6.heap.size l.length (updF vs l.length (.slice (some ⟨g8, off8, none⟩) ((putD (timesL 0 xs) i).length + 1) cap8)) (fun c => if c < l.length then gonD K (timesL 0 xs) ss i c else putD (timesL 0 xs) (i + 1)) w6.heap.size) := go_putN HG.out HW.out.size hs8 hg8 ha8 HPD.out; have HWZ : Hid (Below w6.heap.size w6 w8) := (HW.out.alloc HW.out.size _).grown hg8 (by have := HW.out.size; simp; omega) (go_lowN HG.out); have b0 : w8.cell? ⟨sb, soff + i * 6, none⟩ = some (.int .i64 sn.taken) := (World.cell?_of_block (w := wr.alloc _) (hg8.block sb (by have := HBK.out.1; simp; omega) (fun e => by have := go_lowN HG.out sb e.symm; have := HB6K.out.1; omega))).trans ((World.cell?_alloc_lt _ _ ⟨sb, soff + i * 6, none⟩ HBK.out.1).trans HA0.out); have b1 : sb < w8.heap.size := (by have h := hg8.size; have := HBK.out.1; simp at h; omega); clear hs8 hg8 ha8 hl8))
          have hvN : updF vs l.length (.slice (some ⟨g8, off8, none⟩) ((putD (timesL 0 xs) i).length + 1) cap8) l.length = .slice (some ⟨g8, off8, none⟩) ((putD (timesL 0 xs) i).length + 1) cap8 := updF_same _ _ _
          go_roundw
          case rel => exact ⟨i + 1, updF vs l.length (.slice (some ⟨g8, off8, none⟩) ((putD (timesL 0 xs) i).length + 1) cap8), by have := HLT.out; omega, by go_num, hvN.symm, by rw [HGD.out]; exact HGZ, HWZ⟩
          case measure => have := HLT.out; simp [intOf]; omega
        · have HPD : Hid (putD (timesL 0 xs) (i + 1) = putD (timesL 0 xs) i) := by show _ = _; rw [putD_succ HTI.out, if_neg hw]
          go_wp2
          go_roundw
          case rel => exact ⟨i + 1, vs, by have := HLT.out; omega, by go_num, rfl, by rw [HGD.out, HPD.out]; exact HG, HW⟩
          case measure => have := HLT.out; simp [intOf]; omega
      · obtain ⟨k, hk⟩ : ∃ k : Nat, sn.taken = k := ⟨sn.taken.toNat, by omega⟩
        obtain ⟨y, hy, hf0, hfN, hl1, hl2⟩ := HSTEP.out i t sn HTI.out HSI.out (by omega)
        rw [hk] at a0 hy
        rw [Int.toNat_natCast] at hy
        have HA1 : Hid (wr.cell? ⟨sb, soff + i * 6, none⟩ = some (.int .i64 (k : Int))) := hk ▸ HA0.out
        obtain ⟨f, hf⟩ : ∃ f : Nat, y.f.toNat = f := ⟨_, rfl⟩
        have hyf : y.f = (f : Int) := by omega
        have HFN : Hid (f < l.length) := by show _ < _; have := HOF.out.n; omega
        have hfl : ¬ ((l.length : Int) ≤ (f : Int)) := by have := HFN.out; omega
        have hk1 : (0 : Int) ≤ (k : Int) := by omega
        have HGD : Hid (gonD K (timesL 0 xs) ss (i + 1) = gonK K (gonD K (timesL 0 xs) ss i) t.lt y) := by
          show _ = _
          rw [gonD_succ HTI.out HSI.out, if_pos (by omega), hk, Int.toNat_natCast, List.getD_eq_getElem?_getD, hy]
          rfl
        obtain ⟨P, hP⟩ : ∃ P, putD (timesL 0 xs) (i + 1) = P := ⟨_, rfl⟩
        rw [hP] at hy
        have HP : Hid (putD (timesL 0 xs) (i + 1) = P) := hP
        have HYK : Hid (P[k]? = some y) := hy
        clear hy hP hf0 hfN hl1 hl2
        by_cases hw : t.what = 0
        · have HPD : Hid (P = putD (timesL 0 xs) i ++ [⟨t.a, t.l, t.f, t.b, t.m⟩]) := by show _ = _; rw [← HP.out, putD_succ HTI.out, if_pos hw]
          have HPN : Hid ((putD (timesL 0 xs) i).length + 1 = P.length) := by show _ = _; rw [HPD.out]; simp
          go_wp2_with (at_builtin; go_loud (refine wpList_append_seg _ rfl (.tmp 77) (.tmp 83) 35 rfl 37 j0 _ 5 40 Tryd.underlying35 hj0 hy0 hy1 hy2 rfl (by decide) (vs l.length) _ _ rfl (HRN.out.alloc _) ⟨wr.heap.size, 0, none⟩ 1 1 (It.cl ⟨t.a, t.l, t.f, t.b, t.m⟩) rfl rfl (news_of (new_block_ rfl)) (It.cl_one _) (by decide) (by have := HPL.out; unfold maxLen; omega) (by have := HPL.out; omega) _ rfl ?_; intro g8 off8 cap8 w8 hs8 hg8 ha8 hl8; have HGZ : Hid (GoAt w8 w6.heap.size l.length (updF vs l.length (.slice (some ⟨g8, off8, none⟩) ((putD (timesL 0 xs) i).length + 1) cap8)) (fun c => if c < l.length then gonD K (timesL 0 xs) ss i c else P) w6.heap.size) := go_putN HG.out HW.out.size hs8 hg8 ha8 HPD.out; have HWZ : Hid (Below w6.heap.size w6 w8) := (HW.out.alloc HW.out.size _).grown hg8 (by have := HW.out.size; simp; omega) (go_lowN HG.out); have b0 : w8.cell? ⟨sb, soff + i * 6, none⟩ = some (.int .i64 (k : Int)) := (World.cell?_of_block (w := wr.alloc _) (hg8.block sb (by have := HBK.out.1; simp; omega) (fun e => by have := go_lowN HG.out sb e.symm; have := HB6K.out.1; omega))).trans ((World.cell?_alloc_lt _ _ ⟨sb, soff + i * 6, none⟩ HBK.out.1).trans HA1.out); have b1 : sb < w8.heap.size := (by have h := hg8.size; have := HBK.out.1; simp at h; omega); rw [HPN.out]; rw [HPN.out] at HGZ; have hvN : updF vs l.length (.slice (some ⟨g8, off8, none⟩) P.length cap8) l.length = .slice (some ⟨g8, off8, none⟩) P.length cap8 := updF_same _ _ _; obtain ⟨_, q1, q2, _, q3⟩ := go_cells HGZ.out (if_neg (Nat.lt_irrefl _)) hvN HYK.out; rw [hyf] at q3; clear hs8 hg8 ha8 hl8))
          clear HG HW
          have HVN : Hid ((updF vs l.length (.slice (some ⟨g8, off8, none⟩) P.length cap8)) l.length = .slice (some ⟨g8, off8, none⟩) P.length cap8) := hvN
          clear hvN
          go_loopw [16] (fun cv wx => ∃ (o : Option Nat) (z : Int) (D : List Nat) (vs' : Nat → Value), cv = .int .i64 z ∧ ((o = none ∧ z < 0) ∨ ∃ m : Nat, o = some m ∧ m < l.length ∧ z = (m : Int)) ∧ hL K (some y.f.toNat) = D ++ hL K o ∧ vs' l.length = .slice (some ⟨g8, off8, none⟩) P.length cap8 ∧ Hid (GoAt wx w6.heap.size l.length vs' (gW l.length (gonD K (timesL 0 xs) ss i) P ⟨t.lt, y.l, 0, 0, 0⟩ D) w6.heap.size) ∧ Hid (Below w6.heap.size w6 wx)) (fun cv _ => (intOf cv + 1).toNat)
          case atStart => exact ⟨some f, f, [], (updF vs l.length (.slice (some ⟨g8, off8, none⟩) P.length cap8)), rfl, Or.inr ⟨f, rfl, HFN.out, rfl⟩, by rw [hf]; rfl, HVN.out, by rw [gW_none]; exact HGZ, HWZ⟩
          case round =>
            clear HGZ HWZ HVN
            obtain ⟨o, z, D, vs', rfl, ho, hD, hvN, HG, HW⟩ := hrel
            rcases ho with ⟨rfl, hz⟩ | ⟨m, rfl, hm, rfl⟩
            · have hz1 : ¬ (0 ≤ z) := by omega
              have HVN : Hid (vs' l.length = .slice (some ⟨g8, off8, none⟩) P.length cap8) := hvN
              have HG2 : Hid (GoAt wr w6.heap.size l.length vs' (fun c => if c < l.length then gonD K (timesL 0 xs) ss (i + 1) c else putD (timesL 0 xs) (i + 1)) w6.heap.size) := by
                have h := HG.out
                rw [gW_all hD, ← HGD.out, ← HP.out] at h
                exact h
              clear HG hD hvN
              go_wp2
              go_roundw
              case rel => exact ⟨i + 1, vs', by have := HLT.out; omega, by go_num, HVN.out.symm, HG2, HW⟩
              case measure => have := HLT.out; simp [intOf]; omega
            · have HM : Hid (m < l.length) := hm
              have HMK : Hid (m < K.N) := by show _ < _; rw [HOF.out.n]; exact hm
              have hz1 : (0 : Int) ≤ (m : Int) := by omega
              have hml : (m : Int) < (l.length : Int) := by omega
              have hil : (i : Int) < (xs.length : Int) := by have := HLT.out; omega
              have HVN : Hid (vs' l.length = .slice (some ⟨g8, off8, none⟩) P.length cap8) := hvN
              have HDE : Hid (hL K (some y.f.toNat) = (D ++ [m]) ++ hL K (hUp K m)) := by show _ = _; rw [hD, hL_some HK.out.ok HMK.out]; simp
              have HDM : Hid (m ∉ D) := by
                have h := hL_nodup HK.out.ok y.f.toNat (by have := HFN.out; have := HOF.out.n; rw [hf]; omega)
                rw [hD, hL_some HK.out.ok HMK.out] at h
                exact nodup_mid h
              have hr := HG.out.row m (by omega)
              rw [gW_at hm HDM.out] at hr
              obtain ⟨gx, gcap, hvm, _⟩ := hr.lies
              have hgc := (HG.out.blk.cell (i := m) hm).1
              rw [hvm] at hgc hr
              have HVM : Hid (vs' m = .slice gx (gonD K (timesL 0 xs) ss i m).length gcap) := hvm
              have HRM : Hid (Seg wr 37 5 (.slice gx (gonD K (timesL 0 xs) ss i m).length gcap) (gonD K (timesL 0 xs) ss i m).length (flt It.cl (gonD K (timesL 0 xs) ss i m))) := hr
              have hgb := HG.out.blk.lt
              obtain ⟨_, hkn, hpb, c1, _⟩ := go_cells HG.out (gW_last _ _ _ _ _) hvN HYK.out
              have c2 := (HW.out.cell (p := ⟨tb, toff + i * 7 + 1, none⟩) HB6K.out.2).trans HT1.out
              have htbw : tb < wr.heap.size := by have := HW.out.size; have := HB6K.out.2; omega
              have HGL : Hid ((gonD K (timesL 0 xs) ss i m).length ≤ 120) := by show _ ≤ _; have := gonD_len K (timesL 0 xs) ss i m; have := HLT.out; have := HM120.out; omega
              have HWS : Hid (w6.heap.size ≤ wr.heap.size) := HW.out.size
              clear hD hvN hvm hr
              go_wp2_with fail
              go_region_law (refine step_append_seg _ (by rfl) (.tmp 114) (.tmp 126) 35 (by rfl) 37 j0 _ 5 40 Tryd.underlying35 hj0 hy0 hy1 hy2 rfl (by decide) _ _ _ (by rfl) (HRM.out.below (by repeat' (first | with_reducible exact Below.refl _ _ | with_reducible refine Below.drew ?_ | with_reducible refine below_alloc_ ?_ _))) ⟨wr.heap.size, 0, none⟩ 1 1 (It.cl ⟨t.lt, y.l, 0, 0, 0⟩) (by rfl) rfl (news_of (new_block_ (by simp))) (It.cl_one _) (by decide) (by have := HGL.out; unfold maxLen; omega) (by have := HGL.out; omega) _ rfl ?_; intro g9 off9 cap9 w9 hs9 hg9 ha9 hl9; have HGN := go_next HG.out (by repeat' (first | with_reducible exact Below.refl _ _ | with_reducible refine Below.drew ?_ | with_reducible refine below_alloc_ ?_ _)) HM.out HDM.out HVM.out hs9 hg9 ha9 HWS.out; have HWN := go_lows (u := .slice (some ⟨g9, off9, none⟩) ((gonD K (timesL 0 xs) ss i m).length + 1) cap9) HG.out HW.out (by repeat' (first | with_reducible exact Below.refl _ _ | with_reducible refine Below.drew ?_ | with_reducible refine below_alloc_ ?_ _)) (Nat.le_of_lt HM.out) HVM.out hg9; obtain ⟨e0, e1⟩ := (go_mid HG.out (by repeat' (first | with_reducible exact Below.refl _ _ | with_reducible refine Below.drew ?_ | with_reducible refine below_alloc_ ?_ _)) (Nat.le_of_lt HM.out) HVM.out hg9).cell HM.out; have e2 : w6.heap.size < w9.heap.size := (go_mid HG.out (by repeat' (first | with_reducible exact Below.refl _ _ | with_reducible refine Below.drew ?_ | with_reducible refine below_alloc_ ?_ _)) (Nat.le_of_lt HM.out) HVM.out hg9).lt; have HGN : Hid _ := HGN; have HWN : Hid _ := HWN; clear hs9 hg9 ha9 hl9)
              all_goals
                have HWF : Hid (Below w.heap.size w (w9.setCell ⟨w6.heap.size, m, none⟩ (.slice (some ⟨g9, off9, none⟩) ((gonD K (timesL 0 xs) ss i m).length + 1) cap9))) := HB6.out.trans (HWN.out.mono HB6.out.size)
                obtain ⟨kb, koff, rfl, hkb, p0, _⟩ := (HA.out _ HWF.out).cls (HOF.out.cls m HM.out)
                clear e0 e1 e2 c1 c2 hgc
                go_wp2
                go_roundw
                case rel => exact ⟨hUp K m, (K.cls m).par, D ++ [m], updF vs' m (.slice (some ⟨g9, off9, none⟩) ((gonD K (timesL 0 xs) ss i m).length + 1) cap9), rfl, hUp_or HK.out.ok HMK.out HOF.out.n, HDE.out, (updF_ne (by have := HM.out; omega)).trans HVN.out, by first | (with_reducible exact HGN) | (with_reducible exact HGN.out.below (Below.refl _ _).drew), by first | (with_reducible exact HWN) | (with_reducible exact HWN.out.drew)⟩
                case measure => have := (HK.out.ok.par m HMK.out).2; simp only [intOf]; omega
        · have HPD : Hid (P = putD (timesL 0 xs) i) := by show _ = _; rw [← HP.out, putD_succ HTI.out, if_neg hw]
          have HGZ : Hid (GoAt wr w6.heap.size l.length vs (fun c => if c < l.length then gonD K (timesL 0 xs) ss i c else P) w6.heap.size) := by rw [HPD.out]; exact HG
          have HWZ : Hid (Below w6.heap.size w6 wr) := HW
          obtain ⟨pb, po, pc, hvN⟩ := go_some HGZ.out (if_neg (Nat.lt_irrefl _)) HYK.out
          obtain ⟨_, q1, q2, _, q3⟩ := go_cells HGZ.out (if_neg (Nat.lt_irrefl _)) hvN HYK.out
          rw [hyf] at q3
          rw [hvN]
          clear HG HW
          go_wp2
          have HVN : Hid (vs l.length = .slice (some ⟨pb, po, none⟩) P.length pc) := hvN
          clear hvN
          go_loopw [16] (fun cv wx => ∃ (o : Option Nat) (z : Int) (D : List Nat) (vs' : Nat → Value), cv = .int .i64 z ∧ ((o = none ∧ z < 0) ∨ ∃ m : Nat, o = some m ∧ m < l.length ∧ z = (m : Int)) ∧ hL K (some y.f.toNat) = D ++ hL K o ∧ vs' l.length = .slice (some ⟨pb, po, none⟩) P.length pc ∧ Hid (GoAt wx w6.heap.size l.length vs' (gW l.length (gonD K (timesL 0 xs) ss i) P ⟨t.lt, y.l, 0, 0, 0⟩ D) w6.heap.size) ∧ Hid (Below w6.heap.size w6 wx)) (fun cv _ => (intOf cv + 1).toNat)
          case atStart => exact ⟨some f, f, [], vs, rfl, Or.inr ⟨f, rfl, HFN.out, rfl⟩, by rw [hf]; rfl, HVN.out, by rw [gW_none]; exact HGZ, HWZ⟩
          case round =>
            clear HGZ HWZ HVN
            obtain ⟨o, z, D, vs', rfl, ho, hD, hvN, HG, HW⟩ := hrel
            rcases ho with ⟨rfl, hz⟩ | ⟨m, rfl, hm, rfl⟩
            · have hz1 : ¬ (0 ≤ z) := by omega
              have HVN : Hid (vs' l.length = .slice (some ⟨pb, po, none⟩) P.length pc) := hvN
              have HG2 : Hid (GoAt wr w6.heap.size l.length vs' (fun c => if c < l.length then gonD K (timesL 0 xs) ss (i + 1) c else putD (timesL 0 xs) (i + 1)) w6.heap.size) := by
                have h := HG.out
                rw [gW_all hD, ← HGD.out, ← HP.out] at h
                exact h
              clear HG hD hvN
              go_wp2
              go_roundw
              case rel => exact ⟨i + 1, vs', by have := HLT.out; omega, by go_num, HVN.out.symm, HG2, HW⟩
              case measure => have := HLT.out; simp [intOf]; omega
            · have HM : Hid (m < l.length) := hm
              have HMK : Hid (m < K.N) := by show _ < _; rw [HOF.out.n]; exact hm
              have hz1 : (0 : Int) ≤ (m : Int) := by omega
              have hml : (m : Int) < (l.length : Int) := by omega
              have hil : (i : Int) < (xs.length : Int) := by have := HLT.out; omega
              have HVN : Hid (vs' l.length = .slice (some ⟨pb, po, none⟩) P.length pc) := hvN
              have HDE : Hid (hL K (some y.f.toNat) = (D ++ [m]) ++ hL K (hUp K m)) := by show _ = _; rw [hD, hL_some HK.out.ok HMK.out]; simp
              have HDM : Hid (m ∉ D) := by
                have h := hL_nodup HK.out.ok y.f.toNat (by have := HFN.out; have := HOF.out.n; rw [hf]; omega)
                rw [hD, hL_some HK.out.ok HMK.out] at h
                exact nodup_mid h
              have hr := HG.out.row m (by omega)
              rw [gW_at hm HDM.out] at hr
              obtain ⟨gx, gcap, hvm, _⟩ := hr.lies
              have hgc := (HG.out.blk.cell (i := m) hm).1
              rw [hvm] at hgc hr
              have HVM : Hid (vs' m = .slice gx (gonD K (timesL 0 xs) ss i m).length gcap) := hvm
              have HRM : Hid (Seg wr 37 5 (.slice gx (gonD K (timesL 0 xs) ss i m).length gcap) (gonD K (timesL 0 xs) ss i m).length (flt It.cl (gonD K (timesL 0 xs) ss i m))) := hr
              have hgb := HG.out.blk.lt
              obtain ⟨_, hkn, hpb, c1, _⟩ := go_cells HG.out (gW_last _ _ _ _ _) hvN HYK.out
              have c2 := (HW.out.cell (p := ⟨tb, toff + i * 7 + 1, none⟩) HB6K.out.2).trans HT1.out
              have htbw : tb < wr.heap.size := by have := HW.out.size; have := HB6K.out.2; omega
              have HGL : Hid ((gonD K (timesL 0 xs) ss i m).length ≤ 120) := by show _ ≤ _; have := gonD_len K (timesL 0 xs) ss i m; have := HLT.out; have := HM120.out; omega
              have HWS : Hid (w6.heap.size ≤ wr.heap.size) := HW.out.size
              clear hD hvN hvm hr
              go_wp2_with fail
              go_region_law (refine step_append_seg _ (by rfl) (.tmp 114) (.tmp 126) 35 (by rfl) 37 j0 _ 5 40 Tryd.underlying35 hj0 hy0 hy1 hy2 rfl (by decide) _ _ _ (by rfl) (HRM.out.below (by repeat' (first | with_reducible exact Below.refl _ _ | with_reducible refine Below.drew ?_ | with_reducible refine below_alloc_ ?_ _))) ⟨wr.heap.size, 0, none⟩ 1 1 (It.cl ⟨t.lt, y.l, 0, 0, 0⟩) (by rfl) rfl (news_of (new_block_ (by simp))) (It.cl_one _) (by decide) (by have := HGL.out; unfold maxLen; omega) (by have := HGL.out; omega) _ rfl ?_; intro g9 off9 cap9 w9 hs9 hg9 ha9 hl9; have HGN := go_next HG.out (by repeat' (first | with_reducible exact Below.refl _ _ | with_reducible refine Below.drew ?_ | with_reducible refine below_alloc_ ?_ _)) HM.out HDM.out HVM.out hs9 hg9 ha9 HWS.out; have HWN := go_lows (u := .slice (some ⟨g9, off9, none⟩) ((gonD K (timesL 0 xs) ss i m).length + 1) cap9) HG.out HW.out (by repeat' (first | with_reducible exact Below.refl _ _ | with_reducible refine Below.drew ?_ | with_reducible refine below_alloc_ ?_ _)) (Nat.le_of_lt HM.out) HVM.out hg9; obtain ⟨e0, e1⟩ := (go_mid HG.out (by repeat' (first | with_reducible exact Below.refl _ _ | with_reducible refine Below.drew ?_ | with_reducible refine below_alloc_ ?_ _)) (Nat.le_of_lt HM.out) HVM.out hg9).cell HM.out; have e2 : w6.heap.size < w9.heap.size := (go_mid HG.out (by repeat' (first | with_reducible exact Below.refl _ _ | with_reducible refine Below.drew ?_ | with_reducible refine below_alloc_ ?_ _)) (Nat.le_of_lt HM.out) HVM.out hg9).lt; have HGN : Hid _ := HGN; have HWN : Hid _ := HWN; clear hs9 hg9 ha9 hl9)
              all_goals
                have HWF : Hid (Below w.heap.size w (w9.setCell ⟨w6.heap.size, m, none⟩ (.slice (some ⟨g9, off9, none⟩) ((gonD K (timesL 0 xs) ss i m).length + 1) cap9))) := HB6.out.trans (HWN.out.mono HB6.out.size)
                obtain ⟨kb, koff, rfl, hkb, p0, _⟩ := (HA.out _ HWF.out).cls (HOF.out.cls m HM.out)
                clear e0 e1 e2 c1 c2 hgc
                go_wp2
                go_roundw
                case rel => exact ⟨hUp K m, (K.cls m).par, D ++ [m], updF vs' m (.slice (some ⟨g9, off9, none⟩) ((gonD K (timesL 0 xs) ss i m).length + 1) cap9), rfl, hUp_or HK.out.ok HMK.out HOF.out.n, HDE.out, (updF_ne (by have := HM.out; omega)).trans HVN.out, by first | (with_reducible exact HGN) | (with_reducible exact HGN.out.below (Below.refl _ _).drew), by first | (with_reducible exact HWN) | (with_reducible exact HWN.out.drew)⟩
                case measure => have := (HK.out.ok.par m HMK.out).2; simp only [intOf]; omega
    · have hie : i = xs.length := by omega
      rw [hie] at HG ⊢
      clear hie hlt hi
      go_wp2
      go_loopw [17] (fun cv wx => ∃ c : Nat, c ≤ l.length ∧ cv = .int .i64 c ∧ Hid (GoAt wx w6.heap.size l.length vs (fun c => if c < l.length then gonD K (timesL 0 xs) ss xs.length c else putD (timesL 0 xs) xs.length) w6.heap.size) ∧ Hid (Below w6.heap.size w6 wx)) (fun cv _ => l.length - (intOf cv).toNat)
      case atStart => exact ⟨0, Nat.zero_le _, rfl, HG, HW⟩
      case round =>
        clear HG HW
        obtain ⟨c, hc, rfl, HG, HW⟩ := hrel
        by_cases hcl : c < l.length
        · have hkc : (c : Int) < (l.length : Int) := by omega
          have HCL : Hid (c < l.length) := hcl
          have HKN : Hid (c < K.N) := by show _ < _; rw [HOF.out.n]; exact hcl
          have HBX : Hid (Below w.heap.size w wr) := HB6.out.trans (HW.out.mono HB6.out.size)
          have hrow := HG.out.row c (by omega)
          simp only [if_pos hcl] at hrow
          obtain ⟨gl, hgl⟩ : ∃ gl, gonD K (timesL 0 xs) ss xs.length c = gl := ⟨_, rfl⟩
          rw [hgl] at hrow
          obtain ⟨gx, gcap, hvs, _⟩ := hrow.lies
          have hgc := (HG.out.blk.cell (i := c) hcl).1
          have hgb := HG.out.blk.lt
          rw [hvs] at hgc hrow
          obtain ⟨HIT, _⟩ := seg_itemsC hrow
          obtain ⟨kb, koff, rfl, hkb, k0, k1, k2, k3, k4, k5, k6, k7⟩ := (HA.out wr HBX.out).cls (HOF.out.cls c hcl)
          by_cases h100 : 100 < gl.length
          · have hk1 : (100 : Int) < (gl.length : Int) := by omega
            clear hrow hvs HIT
            go_wp2
            go_roundw
            case rel => exact ⟨c + 1, by omega, by go_num, HG, HW⟩
            case measure => simp [intOf]; omega
          · have hk1 : ¬ ((100 : Int) < (gl.length : Int)) := by omega
            have hcit := HCI.out.it c HKN.out
            have hcup := HCI.out.up c HKN.out
            have hcno := HNOW.out c HKN.out
            have hcok := HCI.out.ok c HKN.out
            rw [hgl] at hcit hcup hcno hcok
            have hokl : okL gl := okL_gon hcit hcno hcup h100
            have HCF : Hid (Calls Tryd.prog 11 #[.agg #[.int .i64 (K.cls c).cn, .int .i64 (K.cls c).ct, .int .i64 (K.cls c).cR], .slice gx gl.length gcap] wr.drew fun e w' => ∃ g, e = .returned (.tuple #[.slice (some ⟨g, 0, none⟩) gl.length gl.length, .nilIface]) ∧ wr.drew.heap.size ≤ g ∧ RowB w' g gl.length (bok (K.cls c).cn (K.cls c).ct (K.cls c).cR gl) ∧ Below wr.drew.heap.size wr.drew w') := conform_yes _ _ _ gx gcap gl wr.drew (HK.out.ok.okc c HKN.out) hokl ((HL.out wr HBX.out).below (Below.refl _ _).drew) (HIT.below (Below.refl _ _).drew)
            clear hrow hvs HIT hcit hcup hcno hokl
            have HF0 : (wr.drew.cell? ⟨kb, koff + c * 8 + 4, none⟩ = some (.int .i64 (K.cls c).cn) ∧ wr.drew.cell? ⟨kb, koff + c * 8 + 5, none⟩ = some (.int .i64 (K.cls c).ct) ∧ wr.drew.cell? ⟨kb, koff + c * 8 + 6, none⟩ = some (.int .i64 (K.cls c).cR)) ∧ wr.drew.cell? ⟨w6.heap.size, c, none⟩ = some (.slice gx gl.length gcap) := ⟨⟨k4, k5, k6⟩, hgc⟩
            have HKB : Hid (kb < wr.heap.size ∧ w6.heap.size < wr.heap.size) := ⟨hkb, hgb⟩
            have HBK : Hid (∀ j, j < gl.length → bok (K.cls c).cn (K.cls c).ct (K.cls c).cR gl j = true) := hcok
            clear k0 k1 k2 k3 k4 k5 k6 k7 hcok hgl
            go_wp2_with fail
            go_region_held3 (fun W => (W.cell? ⟨kb, koff + c * 8 + 4, none⟩ = some (.int .i64 (K.cls c).cn) ∧ W.cell? ⟨kb, koff + c * 8 + 5, none⟩ = some (.int .i64 (K.cls c).ct) ∧ W.cell? ⟨kb, koff + c * 8 + 6, none⟩ = some (.int .i64 (K.cls c).cR)) ∧ W.cell? ⟨w6.heap.size, c, none⟩ = some (.slice gx gl.length gcap))
              (first | (with_reducible exact HF5) | (with_reducible exact HF0))
              (first | (go_at_call 11; refine HCF.out.mono ?_; rintro e w8 ⟨cg, rfl, hcg, hrb, hb8⟩; have HF5 : (w8.cell? ⟨kb, koff + c * 8 + 4, none⟩ = some (.int .i64 (K.cls c).cn) ∧ w8.cell? ⟨kb, koff + c * 8 + 5, none⟩ = some (.int .i64 (K.cls c).ct) ∧ w8.cell? ⟨kb, koff + c * 8 + 6, none⟩ = some (.int .i64 (K.cls c).cR)) ∧ w8.cell? ⟨w6.heap.size, c, none⟩ = some (.slice gx gl.length gcap) := ⟨⟨(hb8.cell HKB.out.1).trans HF0.1.1, (hb8.cell HKB.out.1).trans HF0.1.2.1, (hb8.cell HKB.out.1).trans HF0.1.2.2⟩, (hb8.cell HKB.out.2).trans HF0.2⟩))
            have HRB : Hid (RowB w8 cg gl.length (bok (K.cls c).cn (K.cls c).ct (K.cls c).cR gl)) := hrb
            have HG8 : Hid (GoAt w8 w6.heap.size l.length vs (fun c => if c < l.length then gonD K (timesL 0 xs) ss xs.length c else putD (timesL 0 xs) xs.length) w6.heap.size) := (HG.out.below (Below.refl _ _).drew).below hb8
            have HW8 : Hid (Below w6.heap.size w6 w8) := HW.out.trans (((Below.refl _ _).drew.trans hb8).mono HW.out.size)
            have hg8 := HF5.2
            have hgl8 := HG8.out.blk.lt
            clear HF0 HF5 hrb hcg hb8 HCF HG HW
            go_wp2
            clear hg8 hgl8 hk1 hkc
            go_loopw [20] (fun jv wy => ∃ j : Nat, j ≤ gl.length ∧ jv = .int .i64 j ∧ wy = w8) (fun jv _ => gl.length - (intOf jv).toNat)
            case atStart => exact ⟨0, Nat.zero_le _, rfl, rfl⟩
            case round =>
              obtain ⟨j, hj, rfl, rfl⟩ := hrel
              by_cases hjl : j < gl.length
              · have hcell := HRB.out j hjl
                rw [HBK.out j hjl] at hcell
                have hcl8 := lt_of_cell hcell
                have hkj : (j : Int) < (gl.length : Int) := by omega
                go_wp2
                go_roundw
                case rel => exact ⟨j + 1, by omega, by go_num, by first | trivial | rfl⟩
                case measure => simp [intOf]; omega
              · have hje : j = gl.length := by omega
                rw [hje]
                have hkc : (c : Int) < (l.length : Int) := by have := HCL.out; omega
                go_wp2
                go_roundw
                case rel => exact ⟨c + 1, by have := HCL.out; omega, by go_num, HG8, HW8⟩
                case measure => have := HCL.out; simp [intOf]; omega
        · have hce : c = l.length := by omega
          rw [hce]
          go_wp2
          go_ret
          exact ⟨rfl, HB6.out.trans (HW.out.mono HB6.out.size)⟩
end Go.Proofs.YtpgdocmpbeabpaaDoor
