/-
  millraceref.ScedMake, walked. Conditions: the flows lie in memory and may be; the plan is as long as what comes, and shorter than each promise; at most 60 cells.
-/
import Derived.Test.YtnaooocmggnojaaDoorSm1
import Derived.Test.YtnaooocmggnojaaDoorRsv
import Derived.Test.YtnaooocmggnojaaDoorSm3
import Derived.Test.YtnaooocmggnojaaDoorSm4
import Derived.Test.YtnaooocmggnojaaDoorOrd
import Derived.LaidEqlPtr
namespace Go.Proofs.YtnaooocmggnojaaDoor
open Go.RowKit Go.Extern.Stop Go.Stop Go.Extern

theorem infoCelP : (Tryd.prog.info? 64).map (fun i => (i.zero, i.size, i.bytes)) = some (some (.pointer none), 1, 8) := by kernel_rfl
/-- Few cells. -/
theorem cels_few {m M : Nat} {K fi ki : Nat → Nat} (h : CelOk m M K fi ki) (hm : m ≤ 8) (hK : ∀ i, i < m → K i ≤ 100) : M ≤ 800 := by
  have h1 := (cnq_inv h M (Nat.le_refl _)).2.1
  have hsum : ∀ M', M' ≤ M → (M' : Int) = tot (fun i => (cnq fi M' i : Int)) m := by
    intro M'
    induction M' with
    | zero =>
      intro _
      have : ∀ n, tot (fun i => ((cnq fi 0 i : Nat) : Int)) n = 0 := by
        intro n
        induction n with
        | zero => rfl
        | succ n ih => simp only [tot, cnq] at *; omega
      rw [this]; rfl
    | succ M' ih =>
      intro hM
      have h2 := ih (by omega)
      have h3 := tot_one (f := fun i => (cnq fi M' i : Int)) (g := fun i => (cnq fi (M' + 1) i : Int)) (i := fi M') m (h.lt M' (by omega)).1 (fun j hj => by simp only [cnq]; rw [if_neg (fun e => hj e.symm)]) (by simp [cnq])
      rw [h3, ← h2]
      push_cast
      rfl
  have h4 := hsum M (Nat.le_refl _)
  have h5 := tot_bd (c := fun i => (cnq fi M i : Int)) (n := m) (B := 100) (fun i hi => by
    have := cnq_all h hi
    have := hK i hi
    omega) m (Nat.le_refl _)
  omega

/-- What the ticks hold. -/
structure TkR (w wr : World) (m M : Nat) (B fi ki : Nat → Nat) (A : Nat → Int) (C P : Nat → Nat → Int) (t : Nat) (sv v : Value) : Prop where
  cel : CelsR wr M B fi ki A (fun q => P (fi q) (ki q)) (fun q => thr P C m t (fi q) (ki q)) v
  snt : Seg wr 3 1 sv t (vals (pik P C m) t)
  os : ∀ b, sv.ownBlock = some b → w.heap.size ≤ b
  bel : Below w.heap.size w wr
/-- One tick more: whose cell goes is appended. -/
theorem TkR.push {w wx w9 : World} {m M : Nat} {B fi ki : Nat → Nat} {A : Nat → Int} {C P : Nat → Nat → Int} {t g off cap : Nat} {sv v : Value} {o : Obj} (hc : CelsR wx M B fi ki A (fun q => P (fi q) (ki q)) (fun q => thr P C m (t + 1) (fi q) (ki q)) v) (hs : Seg wx 3 1 sv t (vals (pik P C m) t)) (ho : ∀ b, sv.ownBlock = some b → w.heap.size ≤ b) (hb : Below w.heap.size w wx)
    (hs9 : Seg w9 3 1 (.slice (some ⟨g, off, none⟩) (t + 1) cap) (t + 1) (vals (pik P C m) t ++ [.int .i64 (pik P C m t)])) (hg : (wx.alloc o).grownBy w9 sv.ownBlock) (ha : sv.ownBlock = some g ∨ wx.heap.size ≤ g) : TkR w w9 m M B fi ki A C P (t + 1) (.slice (some ⟨g, off, none⟩) (t + 1) cap) v := by
  have hO : Ot (fun b => sv.ownBlock = some b) wx w9 := Ot.grown ((Ot.refl _ _).alloc o) hg (fun b e => Or.inl e)
  refine ⟨hc.ot hO (fun b hb' e => hc.seg.ne2 hs (by decide) hb' e) (fun q hq e => hs.ne (hc.cel q hq) (by decide) e), ?_, ?_, hb.trans (hO.below hb.size (fun k hk => ho k hk))⟩
  · rw [vals_succ]; exact hs9
  · intro b e
    simp only [Value.ownBlock, Option.some.injEq] at e
    subst e
    rcases ha with h | h
    · exact ho _ h
    · have := hb.size; omega
theorem CelOk.inj {m M : Nat} {K fi ki : Nat → Nat} (h : CelOk m M K fi ki) {q r : Nat} (hq : q < M) (hr : r < M) (e1 : fi q = fi r) (e2 : ki q = ki r) : q = r := by
  rcases Nat.lt_trichotomy q r with h1 | h1 | h1
  · have := h.ord q r h1 hr; omega
  · exact h1
  · have := h.ord r q h1 hq; omega
/-- The pointer to the best cell. -/
def bestP (B : Nat → Nat) (s : Int) : Value := if s < 0 then .pointer none else .pointer (some ⟨B s.toNat, 0, none⟩)
/-- Is the cell the first one of its flow that waits, as far as r cells tell? -/
def ftB (A H : Nat → Int) (fi : Nat → Nat) (t q : Nat) : Nat → Bool
  | 0 => decide (A q ≤ t) && decide (H q < 0)
  | r + 1 => ftB A H fi t q r && (decide (fi r ≠ fi q) || decide (0 ≤ H r))
theorem ftB_iff (A H : Nat → Int) (fi : Nat → Nat) (t q : Nat) : ∀ r, ftB A H fi t q r = true ↔ ((A q ≤ t ∧ H q < 0) ∧ ∀ s, s < r → fi s = fi q → 0 ≤ H s) := by
  intro r
  induction r with
  | zero => simp [ftB]
  | succ r ih =>
    simp only [ftB, Bool.and_eq_true, ih, Bool.or_eq_true, decide_eq_true_eq]
    constructor
    · rintro ⟨⟨h1, h2⟩, h3⟩
      refine ⟨h1, fun s hs e => ?_⟩
      by_cases es : s = r
      · subst es
        rcases h3 with h3 | h3
        · exact absurd e h3
        · exact h3
      · exact h2 s (by omega) e
    · rintro ⟨h1, h2⟩
      refine ⟨⟨h1, fun s hs e => h2 s (by omega) e⟩, ?_⟩
      by_cases e : fi r = fi q
      · exact Or.inr (h2 r (by omega) e)
      · exact Or.inl e
theorem ftB_fst {m M : Nat} {K fi ki : Nat → Nat} {A : Nat → Int} {P C : Nat → Nat → Int} {t q : Nat} (h : CelOk m M K fi ki) (hA : ∀ q, q < M → ∀ t : Nat, A q ≤ t ↔ (ki q : Int) < tot (C (fi q)) (t + 1)) (hq : q < M) :
    ftB A (fun q => thr P C m t (fi q) (ki q)) fi t q q = fstB P C m t fi ki q := by
  have h1 := ftB_iff A (fun q => thr P C m t (fi q) (ki q)) fi t q q
  have h2 := fst_iff (P := P) (c := C) (t := t) h hq
  rw [← hA q hq t] at h2
  have h3 := h1.trans h2
  cases e1 : ftB A (fun q => thr P C m t (fi q) (ki q)) fi t q q <;> cases e2 : fstB P C m t fi ki q <;> simp_all

set_option maxRecDepth 20000 in
set_option maxHeartbeats 8000000 in
theorem rmake_any (b off cap m Tk : Nat) (F : Nat → Flw) (w : World) (hF : FlsAt w b off m F) (hok : FsOk m F) (h1 : (F 0).n ≤ Tk) (h2 : Tk < rch F m) :
    Calls Tryd.prog 11 #[.slice (some ⟨b, off, none⟩) m cap, .int .i64 Tk] w fun e w' => ∃ sv prv thv, e = .returned (.tuple #[sv, prv, thv]) ∧ PlanR w' m Tk (cF F) (kF F Tk) (pF F Tk) sv prv thv ∧ Below w.heap.size w w' := by
  have hm8 := hok.hi
  have hm1 := hok.lo
  have HF : Hid (FlsAt w b off m F) := hF
  have HOK : Hid (∀ k, k < m → FOk (F k) (F k).n ∧ (F k).n ≤ Tk ∧ Tk < (F k).m) := fun k hk => by
    have h3 := hok.ok k hk
    have h4 := rch_le (F := F) m k hk
    have h5 := h3.ln
    rw [← h5] at h3
    exact ⟨h3, by omega, by omega⟩
  have HCM : Hid (CmOk m Tk (cF F) (kF F Tk)) := cmOk hok
  have hT : Tk ≤ 201 := by have := rch_le (F := F) m 0 (by omega); have := (hok.ok 0 (by omega)).cv.len; omega
  obtain ⟨i0, hi, hz0, hz1, hz2⟩ := info_parts infoInt
  obtain ⟨j0, ji, jz0, jz1, jz2⟩ := info_parts infoCelP
  obtain ⟨jc, hci, hcz⟩ : ∃ j, Tryd.prog.info? 66 = some j ∧ j.size ≠ 0 := by
    obtain ⟨j, h3, h4⟩ := Option.map_eq_some_iff.1 (show (Tryd.prog.info? 66).map (·.size) = some 4 by kernel_rfl)
    exact ⟨j, h3, by omega⟩
  clear hF hok h1 h2
  go_enter Tryd.func11, Tryd.ntmps11
  go_wp2
  go_loopw [7, 32] (fun v i wr => ∃ k : Nat, k ≤ m ∧ i = .int .i64 k ∧ BuI w wr F Tk k (kF F Tk) v) (fun _ i _ => m - (intOf i).toNat)
  case atStart => exact ⟨0, Nat.zero_le _, rfl, BuI.nil _ _ _ _⟩
  case round =>
    obtain ⟨i, hi', rfl, hB⟩ := hrel
    have HB : Hid (BuI w wr F Tk i (kF F Tk) u7) := hB
    clear hB
    by_cases hlt : i < m
    · obtain ⟨c0, c1, hw0⟩ := HF.out.below HB.out.bel i hlt
      have hbl := World.block_lt_of_cell? wr _ c0
      obtain ⟨o1, o2, o3⟩ := HOK.out i hlt
      have hpd : PadOk (padF (F i).n (F i).c) := padOk o1.come
      have HPD : Hid (PadOk (cF F i)) := hpd
      have HCV : Hid (okC (F i).m (F i).p) := o1.cv
      have HPR : Hid (∀ k, pF F Tk i k = fixI (fun t => decide ((k : Int) + 1 ≤ conv (tot (cF F i)) (F i).p t)) (Tk + 1)) := fun _ => rfl
      have HCF : Hid (cF F i = padF (F i).n (F i).c) := rfl
      have HKF : Hid (kF F Tk i ≤ 100 ∧ (kF F Tk i : Int) = tot (cF F i) (Tk + 1)) := ⟨(HCM.out.k i hlt).2, (HCM.out.k i hlt).1⟩
      have HRX : Hid (∀ W, Below w.heap.size w W → Row W (F i).x (F i).n (F i).c) := fun W hW => (HF.out.below hW i hlt).2.2.rc
      clear o1 hpd
      generalize hfe : F i = f at *
      clear hfe
      obtain ⟨x, cx, n, c, y, cy, mm, p⟩ := f
      obtain ⟨rc, rp, _, _⟩ := hw0
      simp only at c0 c1 rc rp o2 o3 HCV HPR HCF HRX
      obtain ⟨WA, hWA⟩ : ∃ WA, WA = wr.alloc (.cells #[.slice x n cx, .slice y mm cy] 38) := ⟨_, rfl⟩
      have hbA : Below wr.heap.size wr WA := by subst hWA; exact below_alloc_ (Below.refl _ _) _
      have hsA : WA.heap.size = wr.heap.size + 1 := by subst hWA; simp
      have hkA : WA.heap[wr.heap.size]? = some (.cells #[.slice x n cx, .slice y mm cy] 38 (0, 0)) := by subst hWA; exact new_block _ _
      obtain ⟨W4, hcp, hown, hot, hsz⟩ := copy_come (WA.alloc (.cells (madeCells #[Value.int .i64 0] (Tk + 1)) 3)) WA.heap.size (Tk + 1) x cx n c (new_block _ _) (rc.below (below_after hbA (below_alloc_ (Below.refl _ _) _))) (by omega)
      have h4 : Below wr.heap.size wr W4 := by
        refine below_after hbA ?_
        exact Below.trans (b := WA.alloc (.cells (madeCells #[Value.int .i64 0] (Tk + 1)) 3)) (below_alloc_ (Below.refl _ _) _) (Ot.below hot (by simp) (fun b e => by omega))
      have hk4 : W4.heap[wr.heap.size]? = some (.cells #[.slice x n cx, .slice y mm cy] 38 (0, 0)) := (hot.block _ (by simp; omega) (by omega)).trans ((Below.heap_alloc _ _ _ (by omega)).trans hkA)
      have d0 : W4.cell? ⟨wr.heap.size, 0, none⟩ = some (.slice x n cx) := by simp [World.cell?, hk4]
      have d1 : W4.cell? ⟨wr.heap.size, 1, none⟩ = some (.slice y mm cy) := by simp [World.cell?, hk4]
      have hl4 : wr.heap.size < W4.heap.size := lt_of_block hk4
      have H4 : Hid (Below wr.heap.size wr W4) := h4
      have HR4 : Hid (Row W4 (some ⟨wr.heap.size + 1, 0, none⟩) (Tk + 1) (padF n c)) := by
        obtain ⟨cur, g1, g2⟩ := hown
        rw [hsA] at g1
        exact Or.inr ⟨_, 0, rfl, fun i hi => by simp only [World.cell?, g1, Nat.zero_add]; exact g2 i hi⟩
      have HRP : Hid (Row W4 y mm p) := rp.below h4
      have HAM : Hid (∀ i, i < Tk + 1 → okAmt (padF n c i)) := fun j _ => by
        have h5 := HPD.out.lo j
        have h6 := HPD.out.hi j
        rw [HCF.out] at h5 h6
        exact ⟨h5, by omega⟩
      rw [hsA] at hcp
      subst hWA
      have hmk := run_make_row' (P := Tryd.prog) 36 3 (.int .i64 0) 8 Tryd.underlying36 infoInt rfl .i64 .i64 (Tk + 1) (by omega) (by omega)
      simp only [Int.natCast_add, Int.natCast_one] at hmk
      clear h4 hown hot hsz rc rp hbA hsA hkA hk4
      go_wp2_with fail
      refine (rserve_all (some ⟨wr.heap.size + 1, 0, none⟩) y (Tk + 1) cy (Tk + 1) mm (padF n c) p _ HR4.out HRP.out HCV.out (by omega) HAM.out).mono ?_
      rintro e w5 ⟨z, cz, rfl, hrow, hzb, hb5⟩
      rw [← HCF.out] at hrow
      obtain ⟨zb, zo, rfl⟩ := hrow.some (by omega)
      have hzb' : W4.heap.size ≤ zb := hzb zb rfl
      have HZ0 : Hid (BuZ w w5 F Tk i 0 u7 zb zo (conv (tot (cF F i)) p)) := by
        refine ⟨(HB.out.below (below_after H4.out hb5)).next, fun e => ?_, hrow⟩
        obtain ⟨M, B, fi, ki, A, g1, _⟩ := HB.out.ex
        have := g1.seg.lt e
        have := H4.out.size
        omega
      have e0 := (hb5.cell (p := ⟨wr.heap.size, 0, none⟩) hl4).trans d0
      have hl5 : wr.heap.size < w5.heap.size := Nat.lt_of_lt_of_le hl4 hb5.size
      obtain ⟨S, HS⟩ : ∃ S, Hid (conv (tot (cF F i)) p = S) := ⟨_, rfl⟩
      rw [HS.out] at HZ0 HPR
      obtain ⟨C, HC⟩ : ∃ C, Hid (cF F i = C) := ⟨_, rfl⟩
      clear hrow hzb hb5 hzb' d0 d1 hcp hmk c0 c1 HR4 HRP HAM H4 HCV hl4
      go_wp2
      go_loopw [7, 13, 54] (fun v kv iv wx => ∃ t : Nat, t ≤ n ∧ iv = .int .i64 t ∧ kv = .int .i64 (tot (cF F i) t) ∧ BuZ w wx F Tk i (tot (cF F i) t).toNat v zb zo S) (fun _ _ i _ => n - (intOf i).toNat)
      case atStart => exact ⟨0, Nat.zero_le _, rfl, rfl, HZ0.out⟩
      case round =>
        obtain ⟨t, ht, rfl, rfl, hZ⟩ := hrel
        have HZ : Hid (BuZ w wr F Tk i (tot (cF F i) t).toNat u7 zb zo S) := hZ
        clear hZ
        by_cases htn : t < n
        · obtain ⟨xb, xo, rfl⟩ := (HRX.out _ HZ.out.bu.bel).some (by omega)
          have v0 := (HRX.out _ HZ.out.bu.bel).at htn
          have hcc : cF F i t = c t := by rw [HCF.out]; simp [padF, htn]
          have k0 := HPD.out.lo t
          have k1 := HPD.out.hi t
          have k2 := HPD.out.sum t
          rw [hcc] at k0 k1
          have HT1 : Hid (tot (cF F i) (t + 1) = tot (cF F i) t + c t) := by show _ = _; simp only [tot]; rw [hcc]
          obtain ⟨K0, hK0⟩ : ∃ K0 : Nat, tot (cF F i) t = K0 := ⟨(tot (cF F i) t).toNat, by omega⟩
          have HK0 : Hid (tot (cF F i) t = K0) := hK0
          have HZ1 : Hid (BuZ w wr F Tk i K0 u7 zb zo S) := by have := HZ.out; rw [HK0.out, Int.toNat_natCast] at this; exact this
          rw [hK0]
          rw [hK0] at k2
          clear hcc hK0
          generalize c t = ct at *
          go_wp2
          go_loopw [7, 13, 60] (fun v kv iv wx => ∃ r : Nat, (r : Int) ≤ ct ∧ iv = .int .i64 r ∧ kv = .int .i64 ((K0 + r : Nat) : Int) ∧ BuZ w wx F Tk i (K0 + r) v zb zo S) (fun _ _ i _ => ct.toNat - (intOf i).toNat)
          case atStart => exact ⟨0, by simpa using k0, rfl, rfl, HZ1.out⟩
          case round =>
            obtain ⟨r, hr, rfl, rfl, hZ⟩ := hrel
            have HZ2 : Hid (BuZ w wr F Tk i (K0 + r) u7 zb zo S) := hZ
            clear hZ
            by_cases hrc : (r : Int) < ct
            · obtain ⟨M, B, fi, ki, A, g1, g2, g3, g4, g5⟩ := HZ2.out.bu.ex
              obtain ⟨vx, vc, rfl⟩ := g1.seg.slc
              have G1 : Hid (CelsR wr M B fi ki A (fun q => pF F Tk (fi q) (ki q)) (fun _ => -1) (.slice vx M vc)) := g1
              have G2 : Hid (CelOk (i + 1) M (updN (kF F Tk) i (K0 + r)) fi ki) := g2
              have G3 : Hid ((∀ q, q < M → ∀ t : Nat, A q ≤ t ↔ (ki q : Int) < tot (cF F (fi q)) (t + 1)) ∧ ∀ q, q < M → w.heap.size ≤ B q) := ⟨g3, g4⟩
              have hMM : M ≤ 800 := by
                refine cels_few g2 (by omega) (fun j hj => ?_)
                by_cases e : j = i
                · subst e; rw [updN_same]; have := (HPD.out.sum (t + 1)).2; have := HT1.out; have := HK0.out; omega
                · rw [updN_ne e]; exact (HCM.out.k j (by omega)).2
              clear g1 g2 g3 g4 g5
              obtain ⟨Kr, hKr⟩ : ∃ Kr, K0 + r = Kr := ⟨_, rfl⟩
              have HKR : Hid (K0 + r = Kr) := hKr
              have hkb : Kr ≤ 100 := by have := (HPD.out.sum (t + 1)).2; have := HT1.out; have := HK0.out; omega
              have HAT : Hid (∀ s : Nat, t ≤ s ↔ (Kr : Int) < tot (cF F i) (s + 1)) := came_iff (fun t => HPD.out.lo t) (by rw [HK0.out]; omega) (by rw [HT1.out, HK0.out]; omega)
              rw [hKr] at HZ2 G2
              rw [hKr]
              clear hKr
              have HCE : Hid (CelAt (wr.alloc (.cells #[.int .i64 i, .int .i64 t, .int .i64 (-1), .int .i64 (-1)] 66)) wr.heap.size i t (-1) (-1)) := new_block _ _
              have HRZ : Hid (Row (wr.alloc (.cells #[.int .i64 i, .int .i64 t, .int .i64 (-1), .int .i64 (-1)] 66)) (some ⟨zb, zo, none⟩) (Tk + 1) S) := HZ2.out.row.below (below_alloc_ (Below.refl _ _) _)
              have HZL : Hid (zb < wr.heap.size) := World.block_lt_of_cell? wr _ (HZ2.out.row.at (i := 0) (by omega))
              go_wp2
              obtain ⟨W6, hW6⟩ : ∃ W6, W6 = wr.alloc (.cells #[.int .i64 i, .int .i64 t, .int .i64 (-1), .int .i64 (-1)] 66) := ⟨_, rfl⟩
              have HW6 : Hid (Below wr.heap.size wr W6) := by subst hW6; exact below_alloc_ (Below.refl _ _) _
              rw [← hW6] at HCE HRZ
              rw [← hW6]
              clear hW6
              obtain ⟨cbk, HCB⟩ : ∃ cbk, Hid (wr.heap.size = cbk) := ⟨_, rfl⟩
              rw [HCB.out] at HCE HZL
              rw [HCB.out]
              have hzc : ¬ zb = cbk := by have := HZL.out; omega
              go_loopw [17] (fun uv wx => ∃ s : Nat, s ≤ Tk + 1 ∧ uv = .int .i64 ((s : Int) - 1) ∧ CelAt wx cbk i t (dnI (fun t => decide ((Kr : Int) + 1 ≤ S t)) (Tk + 1) (Tk + 1 - s)) (-1) ∧ Ot (fun b => b = cbk) W6 wx) (fun uv _ => (intOf uv + 1).toNat)
              case atStart => exact ⟨Tk + 1, Nat.le_refl _, by simp, by rw [Nat.sub_self]; exact HCE.out, Ot.refl _ _⟩
              case round =>
                obtain ⟨s, hs, rfl, hce, hot⟩ := hrel
                have HCX : Hid (CelAt wr cbk i t (dnI (fun t => decide ((Kr : Int) + 1 ≤ S t)) (Tk + 1) (Tk + 1 - s)) (-1)) := hce
                have HOX : Hid (Ot (fun b => b = cbk) W6 wr) := hot
                clear hce hot
                cases s with
                | succ u =>
                  have e1 : ((u + 1 : Nat) : Int) - 1 = u := by omega
                  rw [e1]
                  clear e1
                  have q0 := (row_ot' HRZ.out HOX.out hzc).at (i := u) (by omega)
                  have HDN : Hid (dnI (fun t => decide ((Kr : Int) + 1 ≤ S t)) (Tk + 1) (Tk + 1 - u) = if (fun t => decide ((Kr : Int) + 1 ≤ S t)) u = true then (u : Int) else dnI (fun t => decide ((Kr : Int) + 1 ≤ S t)) (Tk + 1) (Tk + 1 - (u + 1))) := by
                    show _ = _
                    rw [show Tk + 1 - u = (Tk + 1 - (u + 1)) + 1 by omega]
                    simp only [dnI]
                    rw [show Tk + 1 - (Tk + 1 - (u + 1) + 1) = u by omega]
                  obtain ⟨⟨_, _, q2, _⟩, ⟨f2, _⟩, hcl⟩ := HCX.out.cells
                  by_cases hp : (Kr : Int) + 1 ≤ S u
                  · have HD1 : Hid (dnI (fun t => decide ((Kr : Int) + 1 ≤ S t)) (Tk + 1) (Tk + 1 - u) = u) := by show _ = _; rw [HDN.out, if_pos (by simpa using hp)]
                    generalize S u = su at q0 hp
                    go_wp2
                    go_roundw
                    case rel => exact ⟨u, by omega, rfl, by rw [HD1.out]; exact HCX.out.setD _, Ot.setCell (S := fun b => b = cbk) (p := ⟨cbk, 2, none⟩) HOX.out (Or.inl rfl) _⟩
                    case measure => simp [intOf]
                  · have HD1 : Hid (dnI (fun t => decide ((Kr : Int) + 1 ≤ S t)) (Tk + 1) (Tk + 1 - u) = dnI (fun t => decide ((Kr : Int) + 1 ≤ S t)) (Tk + 1) (Tk + 1 - (u + 1))) := by show _ = _; rw [HDN.out, if_neg (by simpa using hp)]
                    generalize S u = su at q0 hp
                    go_wp2
                    go_roundw
                    case rel => exact ⟨u, by omega, rfl, by rw [HD1.out]; exact HCX.out, HOX.out⟩
                    case measure => simp [intOf]
                | zero =>
                  have HCY : Hid (CelAt wr cbk i t (pF F Tk i Kr) (-1)) := by
                    have := HCX.out
                    rw [Nat.sub_zero, dnI_all, ← HPR.out Kr] at this
                    exact this
                  have HBW : Hid (Below cbk W6 wr) := HOX.out.below (by have := HW6.out.size; have := HCB.out; omega) (fun b e => by omega)
                  have HSG : Hid (Seg wr 64 1 (.slice vx M vc) M (cptrs B M)) := by
                    refine (G1.out.seg.below HW6.out).oth HOX.out (fun b e e' => ?_)
                    have := G1.out.seg.lt e
                    have := HCB.out
                    omega
                  go_wp2_with (at_builtin; refine wpList_append_seg _ rfl (.tmp 83) (.tmp 85) 61 rfl 64 j0 _ 1 8 Tryd.underlying61 ji jz0 jz1 jz2 rfl (by decide) (.slice vx M vc) M (cptrs B M) rfl (HSG.out.alloc _) ⟨wr.heap.size, 0, none⟩ 1 1 [.pointer (some ⟨cbk, 0, none⟩)] rfl rfl (news_of (new_block_ (by simp))) (by simp [Value.oneCell']) (by decide) (by unfold maxLen; omega) (by omega) _ rfl ?_; intro g1 off1 cap1 w9 hs9 hg9 ha9 hl9)
                  go_roundw
                  case rel =>
                    have hbw : Below _ _ wr := HW6.out.trans ((by rw [HCB.out]; exact HBW.out))
                    have hzs := HZL.out
                    refine ⟨r + 1, by omega, by go_num, ?_, ⟨?_, ?_, ?_⟩⟩
                    · rw [show K0 + (r + 1) = Kr + 1 by have := HKR.out; omega]; push_cast; rfl
                    · rw [show K0 + (r + 1) = Kr + 1 by have := HKR.out; omega]
                      exact BuI.snoc HZ2.out.bu.ov HZ2.out.bu.bel G1.out G2.out G3.out.1 G3.out.2 hbw HCY.out (by have := HCB.out; omega) HAT.out (by omega) hs9 hg9 (by rcases ha9 with e | e; exact Or.inl e; right; simp at e; omega)
                    · intro e
                      simp only [Value.ownBlock, Option.some.injEq] at e
                      subst e
                      rcases ha9 with e | e
                      · exact HZ2.out.nz e
                      · simp at e; have := HBW.out.size; have := HW6.out.size; have := HCB.out; omega
                    · have hr1 := row_ot' HRZ.out HOX.out hzc
                      refine row_ot' hr1 (Ot.grown ((Ot.refl _ _).alloc _) hg9 (fun b e => Or.inl e) : Ot (fun b => Value.ownBlock (.slice vx M vc) = some b) wr w9) HZ2.out.nz
                  case measure => simp [intOf]; omega
            · have hrt : (r : Int) = ct := by omega
              go_wp2
              go_roundw
              case rel =>
                refine ⟨t + 1, by omega, by go_num, ?_, ?_⟩
                · rw [HT1.out, HK0.out]; push_cast; rw [hrt]
                · have := HZ2.out
                  rw [show (tot (cF F i) (t + 1)).toNat = K0 + r by rw [HT1.out, HK0.out]; omega]
                  exact this
              case measure => simp [intOf]; omega
        · obtain rfl : t = n := by omega
          have HND : Hid (BuI w wr F Tk (i + 1) (kF F Tk) u7) := by
            have h5 := HZ.out.bu
            have h6 : (tot (cF F i) t).toNat = kF F Tk i := by
              show (tot (cF F i) t).toNat = (tot (cF F i) (Tk + 1)).toNat
              rw [HCF.out, pad_tot, pad_tot, show min t t = min (Tk + 1) t by omega]
            rw [h6] at h5
            exact h5.done
          go_wp2
          go_roundw
          case rel => exact ⟨i + 1, by omega, by go_num, HND.out⟩
          case measure => simp [intOf]; omega
    · obtain rfl : i = m := by omega
      obtain ⟨M, B, fi, ki, A, g1, g2, g3, g4, g5⟩ := HB.out.ex
      obtain ⟨vx, vc, rfl⟩ := g1.seg.slc
      have HOV : Hid (∀ b, Value.ownBlock (.slice vx M vc) = some b → w.heap.size ≤ b) := HB.out.ov
      have HCO : Hid (CelOk i M (kF F Tk) fi ki) := g2
      have HAQ : Hid (∀ q, q < M → ∀ t : Nat, A q ≤ t ↔ (ki q : Int) < tot (cF F (fi q)) (t + 1)) := g3
      have HBQ : Hid (∀ q, q < M → w.heap.size ≤ B q) := g4
      have HPT : Hid (∀ i k, pF F Tk i k ≤ Tk) := fun i k => (prm_ge (cF F i) (F i).p Tk k).2
      have HKT : Hid (∀ t, t ≤ Tk → ∀ j, j < i → tot (cF F j) (t + 1) ≤ kF F Tk j) := fun t ht j hj => by have := (HCM.out.hh ht j hj).2.2; simp only [tot]; omega
      have hM0 : TkR w wr i M B fi ki A (cF F) (pF F Tk) 0 (.slice none 0 0) (.slice vx M vc) := ⟨g1.congr (fun _ _ => rfl) (fun _ _ => rfl), Seg.nil _ _ _, fun b e => by simp [Value.ownBlock] at e, HB.out.bel⟩
      have HM0 : Hid (TkR w wr i M B fi ki A (cF F) (pF F Tk) 0 (.slice none 0 0) (.slice vx M vc)) := hM0
      clear g1 g2 g3 g4 hM0 HB HF HOK
      go_wp2
      go_loopw [18, 91] (fun sv iv wx => ∃ t : Nat, t ≤ Tk ∧ iv = .int .i64 t ∧ TkR w wx i M B fi ki A (cF F) (pF F Tk) t sv (.slice vx M vc)) (fun _ i _ => Tk - (intOf i).toNat)
      case atStart => exact ⟨0, Nat.zero_le _, rfl, HM0.out⟩
      case round =>
        obtain ⟨t, ht, rfl, hTk⟩ := hrel
        have HTK : Hid (TkR w wr i M B fi ki A (cF F) (pF F Tk) t u18 (.slice vx M vc)) := hTk
        clear hTk
        by_cases hlt2 : t < Tk
        · have HCQ : Hid (∀ q, q < M → CelAt wr (B q) (fi q) (A q) (pF F Tk (fi q) (ki q)) (thr (pF F Tk) (cF F) i t (fi q) (ki q))) := fun q hq => HTK.out.cel.cel q hq
          have HPQ : Hid (∀ q, q < M → ∃ vb vo, vx = some ⟨vb, vo, none⟩ ∧ wr.cell? ⟨vb, vo + q, none⟩ = some (.pointer (some ⟨B q, 0, none⟩)) ∧ vb < wr.heap.size) := fun q hq => by
            obtain ⟨b', off', cap', e, h5, h6⟩ := HTK.out.cel.ptr hq
            simp only [Value.slice.injEq, true_and] at e
            exact ⟨b', off', e.1, h5, h6⟩
          obtain ⟨wt, HWE⟩ : ∃ wt, Hid (wt = wr) := ⟨_, rfl⟩
          rw [← HWE.out] at HCQ HPQ
          rw [← HWE.out]
          go_wp2
          go_loopw [20, 96] (fun bv iv wx => ∃ q n : Nat, q ≤ M ∧ iv = .int .i64 q ∧ bv = bestP B (scq (pF F Tk) (cF F) i Tk t fi ki q) ∧ wx = wt.drewN n) (fun _ i _ => M - (intOf i).toNat)
          case atStart => exact ⟨0, 0, Nat.zero_le _, rfl, rfl, rfl⟩
          case round =>
            obtain ⟨q, n, hq, rfl, rfl, rfl⟩ := hrel
            by_cases hqM : q < M
            · obtain ⟨vb, vo, rfl, p0, hvl⟩ := HPQ.out q hqM
              obtain ⟨⟨c0, c1, c2, c3⟩, _, hcl⟩ := (HCQ.out q hqM).cells
              obtain ⟨bv, HBV⟩ : ∃ bv, Hid (bestP B (scq (pF F Tk) (cF F) i Tk t fi ki q) = bv) := ⟨_, rfl⟩
              rw [HBV.out]
              obtain ⟨Hh, HHh⟩ : ∃ Hh : Nat → Int, Hid ((fun q => thr (pF F Tk) (cF F) i t (fi q) (ki q)) = Hh) := ⟨_, rfl⟩
              have HHq : Hid (∀ q, thr (pF F Tk) (cF F) i t (fi q) (ki q) = Hh q) := fun q => by rw [← HHh.out]
              have HFF : Hid (ftB A Hh fi t q q = fstB (pF F Tk) (cF F) i t fi ki q) := by
                show _ = _
                rw [← HHh.out]
                exact ftB_fst HCO.out HAQ.out hqM
              rw [HHq.out] at c3
              have HCR : Hid (∀ r, r < M → CelAt wt (B r) (fi r) (A r) (pF F Tk (fi r) (ki r)) (Hh r)) := fun r hr => by have := HCQ.out r hr; rw [HHq.out] at this; exact this
              have HIN : Hid (∀ r, r < q → B r < B q) := fun r hr => HTK.out.cel.inc r q hr hqM
              have HPR2 : Hid (∀ r, r < M → wt.cell? ⟨vb, vo + r, none⟩ = some (.pointer (some ⟨B r, 0, none⟩))) := fun r hr => by
                obtain ⟨vb', vo', e, h5, _⟩ := HPQ.out r hr
                simp only [Option.some.injEq, Addr.mk.injEq, and_true] at e
                obtain ⟨rfl, rfl⟩ := e
                exact h5
              go_upto_region 33 with (fail)
              go_cut [23] (fun fv wx => fv = .bool (ftB A Hh fi t q 0) ∧ wx = wt.drewN n)
              case first =>
                by_cases hat : A q ≤ t
                · have HF0 : Hid (ftB A Hh fi t q 0 = decide (Hh q < 0)) := by show _ = _; simp [ftB, hat]
                  go_wp2
                  go_meet
                  case rel => exact ⟨by rw [HF0.out], rfl⟩
                · have HF0 : Hid (ftB A Hh fi t q 0 = false) := by show _ = _; simp [ftB, hat]
                  go_wp2
                  go_meet
                  case rel => exact ⟨by rw [HF0.out], rfl⟩
              case rest =>
              obtain ⟨rfl, rfl⟩ := hcut
              clear c0 c1 c2 c3 hcl p0
              go_wp2
              go_loopw [23, 115] (fun fv iv wx => ∃ r n' : Nat, r ≤ q ∧ iv = .int .i64 r ∧ fv = .bool (ftB A Hh fi t q r) ∧ wx = wt.drewN n') (fun _ i _ => M - (intOf i).toNat)
              case atStart => exact ⟨0, _, Nat.zero_le _, rfl, rfl, rfl⟩
              case round =>
                obtain ⟨r, n', hr, rfl, rfl, rfl⟩ := hrel
                by_cases hrq : r < q
                · have p1 := HPR2.out r (by omega)
                  have hBB : ¬ B r = B q := by have := HIN.out r hrq; omega
                  obtain ⟨⟨c0, c1, c2, c3⟩, _, hcl⟩ := (HCR.out r (by omega)).cells
                  obtain ⟨⟨e0, _, _, _⟩, _, hcl2⟩ := (HCR.out q hqM).cells
                  have heq := run_eql_ptr_other (P := Tryd.prog) (wt.drewN n') (a := ⟨B r, 0, none⟩) (b := ⟨B q, 0, none⟩) Tryd.underlying64 hci hcz (by intro e; simp only [Addr.mk.injEq, and_true] at e; exact hBB e) (HCR.out r (by omega)) (HCR.out q hqM)
                  have HFS : Hid (ftB A Hh fi t q (r + 1) = (ftB A Hh fi t q r && (decide (fi r ≠ fi q) || decide (0 ≤ Hh r)))) := rfl
                  cases hft : ftB A Hh fi t q r with
                  | false =>
                    have HF1 : Hid (ftB A Hh fi t q (r + 1) = false) := by show _ = _; rw [HFS.out, hft]; rfl
                    clear hft
                    go_wp2
                    go_quiet (fail)
                    go_wp2
                    go_roundw
                    case rel => exact ⟨r + 1, _, by omega, by go_num, by rw [HF1.out], by first | rfl | exact World.drewN_drewN _ _ _⟩
                    case measure => simp [intOf]; omega
                  | true =>
                    by_cases hff : fi r = fi q
                    · have HF1 : Hid (ftB A Hh fi t q (r + 1) = decide (0 ≤ Hh r)) := by show _ = _; rw [HFS.out, hft, decide_eq_false (not_not_intro hff)]; simp
                      rw [hff] at c0
                      clear hft hff
                      by_cases hh0 : 0 ≤ Hh r
                      · rw [decide_eq_true hh0] at HF1
                        go_wp2
                        go_quiet (fail)
                        go_wp2
                        go_roundw
                        case rel => exact ⟨r + 1, _, by omega, by go_num, by rw [HF1.out], by first | rfl | exact World.drewN_drewN _ _ _⟩
                        case measure => simp [intOf]; omega
                      · rw [decide_eq_false hh0] at HF1
                        go_wp2
                        go_quiet (fail)
                        go_wp2
                        go_roundw
                        case rel => exact ⟨r + 1, _, by omega, by go_num, by (rw [HF1.out]; first | done | rw [decide_eq_false (show ¬ 0 ≤ Hh r by omega)]), by first | rfl | exact World.drewN_drewN _ _ _⟩
                        case measure => simp [intOf]; omega
                    · have HF1 : Hid (ftB A Hh fi t q (r + 1) = true) := by show _ = _; rw [HFS.out, hft, decide_eq_true hff]; simp
                      have hff' : ¬ (fi r : Int) = (fi q : Int) := by omega
                      have hff2 : ((fi r : Int) != (fi q : Int)) = true := by simp; omega
                      clear hft
                      go_wp2
                      go_quiet (fail)
                      go_wp2
                      go_roundw
                      case rel => exact ⟨r + 1, _, by omega, by go_num, by rw [HF1.out], by first | rfl | exact World.drewN_drewN _ _ _⟩
                      case measure => simp [intOf]; omega
                · obtain rfl : q = r := by omega
                  have p1 := HPR2.out q hqM
                  have heq := run_eql_ptr_same (P := Tryd.prog) (wt.drewN n') (⟨B q, 0, none⟩ : Addr) Tryd.underlying64 hci
                  rw [HFF.out]
                  obtain ⟨⟨c0, c1, c2, c3⟩, _, hcl⟩ := (HCR.out q hqM).cells
                  have HSC : Hid (scq (pF F Tk) (cF F) i Tk t fi ki (q + 1) = if (fstB (pF F Tk) (cF F) i t fi ki q && (decide (scq (pF F Tk) (cF F) i Tk t fi ki q < 0) || decide (keyF (pF F Tk) Tk (fi q) (ki q) < keyF (pF F Tk) Tk (fi (scq (pF F Tk) (cF F) i Tk t fi ki q).toNat) (ki (scq (pF F Tk) (cF F) i Tk t fi ki q).toNat)))) = true then (q : Int) else scq (pF F Tk) (cF F) i Tk t fi ki q) := rfl
                  have HBQP : Hid (bestP B (q : Int) = .pointer (some ⟨B q, 0, none⟩)) := by show _ = _; unfold bestP; rw [if_neg (by omega), Int.toNat_natCast]
                  cases hfs : fstB (pF F Tk) (cF F) i t fi ki q with
                  | false =>
                    have HS1 : Hid (bestP B (scq (pF F Tk) (cF F) i Tk t fi ki (q + 1)) = bv) := by show _ = _; rw [HSC.out, hfs]; simp; exact HBV.out
                    clear hfs
                    go_wp2
                    go_roundw
                    case rel => exact ⟨q + 1, _, by omega, by go_num, by rw [HS1.out], by first | rfl | exact World.drewN_drewN _ _ _⟩
                    case measure => simp [intOf]; omega
                  | true =>
                    rcases scq_char (P := pF F Tk) (c := cF F) (m := i) (T := Tk) (t := t) (fi := fi) (ki := ki) q with ⟨hs0, _⟩ | ⟨s0, hsq, hs0, _, _⟩
                    · have HS1 : Hid (bestP B (scq (pF F Tk) (cF F) i Tk t fi ki (q + 1)) = .pointer (some ⟨B q, 0, none⟩)) := by show _ = _; rw [HSC.out, hfs, hs0]; simp; exact HBQP.out
                      have hbv : bv = .pointer none := by rw [← HBV.out, hs0]; rfl
                      rw [hbv]
                      clear hfs hs0 hbv
                      go_wp2
                      go_roundw
                      case rel => exact ⟨q + 1, _, by omega, by go_num, by rw [HS1.out], by first | rfl | exact World.drewN_drewN _ _ _⟩
                      case measure => simp [intOf]; omega
                    · have hbv : bv = .pointer (some ⟨B s0, 0, none⟩) := by rw [← HBV.out, hs0]; unfold bestP; rw [if_neg (by omega), Int.toNat_natCast]
                      rw [hs0, Int.toNat_natCast, hfs, decide_eq_false (show ¬ ((s0 : Nat) : Int) < 0 by omega), Bool.true_and, Bool.false_or] at HSC
                      have HK1 : Hid (∀ W, Below wt.heap.size wt W → Calls Tryd.prog 23 #[.pointer (some ⟨B q, 0, none⟩), .int .i64 Tk] W fun e w' => e = .returned (.int .i64 (keyF (pF F Tk) Tk (fi q) (ki q))) ∧ w' = W) := fun W hW => key_any Tk W ((HCR.out q hqM).kept (hW.block _ (lt_of_block (HCR.out q hqM)))) (by omega) (pF F Tk) (fi q) (ki q) rfl
                      have HK2 : Hid (∀ W, Below wt.heap.size wt W → Calls Tryd.prog 23 #[.pointer (some ⟨B s0, 0, none⟩), .int .i64 Tk] W fun e w' => e = .returned (.int .i64 (keyF (pF F Tk) Tk (fi s0) (ki s0))) ∧ w' = W) := fun W hW => key_any Tk W ((HCR.out s0 (by omega)).kept (hW.block _ (lt_of_block (HCR.out s0 (by omega))))) (by omega) (pF F Tk) (fi s0) (ki s0) rfl
                      rw [hbv]
                      obtain ⟨ka, HKA⟩ : ∃ ka, Hid (keyF (pF F Tk) Tk (fi q) (ki q) = ka) := ⟨_, rfl⟩
                      obtain ⟨kb, HKB⟩ : ∃ kb, Hid (keyF (pF F Tk) Tk (fi s0) (ki s0) = kb) := ⟨_, rfl⟩
                      rw [HKA.out, HKB.out] at HSC
                      rw [HKA.out] at HK1
                      rw [HKB.out] at HK2
                      have HBV2 : Hid (bestP B (s0 : Int) = .pointer (some ⟨B s0, 0, none⟩)) := by show _ = _; unfold bestP; rw [if_neg (by omega), Int.toNat_natCast]
                      clear hfs hs0 hbv
                      by_cases hka : ka < kb
                      · have HS1 : Hid (bestP B (scq (pF F Tk) (cF F) i Tk t fi ki (q + 1)) = .pointer (some ⟨B q, 0, none⟩)) := by show _ = _; rw [HSC.out, if_pos (by simpa using hka)]; exact HBQP.out
                        go_wp2_with fail
                        refine (HK1.out _ (below_drewN' (Below.refl _ _) _)).mono ?_
                        rintro e w3 ⟨rfl, rfl⟩
                        go_wp2_with fail
                        refine (HK2.out _ (below_drewN' (Below.refl _ _) _)).mono ?_
                        rintro e w3 ⟨rfl, rfl⟩
                        go_wp2
                        go_roundw
                        case rel => exact ⟨q + 1, _, by omega, by go_num, by rw [HS1.out], by first | rfl | exact World.drewN_drewN _ _ _⟩
                        case measure => simp [intOf]; omega
                      · have HS1 : Hid (bestP B (scq (pF F Tk) (cF F) i Tk t fi ki (q + 1)) = .pointer (some ⟨B s0, 0, none⟩)) := by show _ = _; rw [HSC.out, if_neg (by simpa using hka)]; exact HBV2.out
                        go_wp2_with fail
                        refine (HK1.out _ (below_drewN' (Below.refl _ _) _)).mono ?_
                        rintro e w3 ⟨rfl, rfl⟩
                        go_wp2_with fail
                        refine (HK2.out _ (below_drewN' (Below.refl _ _) _)).mono ?_
                        rintro e w3 ⟨rfl, rfl⟩
                        go_wp2
                        go_roundw
                        case rel => exact ⟨q + 1, _, by omega, by go_num, by rw [HS1.out], by first | rfl | exact World.drewN_drewN _ _ _⟩
                        case measure => simp [intOf]; omega
            · obtain rfl : q = M := by omega
              have HS0 : Hid (TkR w (wt.drewN n) i q B fi ki A (cF F) (pF F Tk) t u18 (.slice vx q vc)) := by
                have hd : Below wt.heap.size wt (wt.drewN n) := below_drewN' (Below.refl _ _) n
                have h1 := HTK.out
                rw [← HWE.out] at h1
                exact ⟨h1.cel.below hd, h1.snt.below hd, h1.os, h1.bel.trans (hd.mono h1.bel.size)⟩
              clear HTK HCQ HPQ HWE
              obtain ⟨sx, sc, rfl⟩ := HS0.out.snt.slc
              rcases scq_pik (P := pF F Tk) (c := cF F) (T := Tk) (t := t) HCO.out HPT.out (HKT.out t ht) with ⟨e1, e2⟩ | ⟨q0, hq0, e1, e2, e3⟩
              · have hbn : bestP B (scq (pF F Tk) (cF F) i Tk t fi ki q) = .pointer none := by rw [e1]; rfl
                rw [hbn]
                have HP0 : Hid (pik (pF F Tk) (cF F) i t = -1) := e2
                clear e1 e2 hbn
                go_wp2_with (at_builtin; refine wpList_append_seg _ rfl (.tmp 160) (.tmp 161) 36 rfl 3 i0 _ 1 8 Tryd.underlying36 hi hz0 hz1 hz2 rfl (by decide) (.slice sx t sc) t (vals (pik (pF F Tk) (cF F) i) t) rfl (HS0.out.snt.alloc _) ⟨wt.heap.size, 0, none⟩ 1 1 [.int .i64 (-1)] rfl rfl (news_of (new_block_ (by simp))) (by simp [Value.oneCell']) (by decide) (by unfold maxLen; omega) (by omega) _ rfl ?_; intro g1 off1 cap1 w9 hs9 hg9 ha9 hl9)
                go_roundw
                case rel =>
                  refine ⟨t + 1, by omega, by go_num, ?_⟩
                  rw [← HP0.out] at hs9
                  exact TkR.push (HS0.out.cel.congr (fun _ _ => rfl) (fun r _ => by rw [thr_succ, HP0.out, if_neg (by omega)])) HS0.out.snt HS0.out.os HS0.out.bel hs9 hg9 (by rcases ha9 with e | e; exact Or.inl e; right; simp at e ⊢; omega)
                case measure => simp [intOf]; omega
              · have hbn : bestP B (scq (pF F Tk) (cF F) i Tk t fi ki q) = .pointer (some ⟨B q0, 0, none⟩) := by rw [e1]; unfold bestP; rw [if_neg (by omega), Int.toNat_natCast]
                rw [hbn]
                have HP0 : Hid (pik (pF F Tk) (cF F) i t = fi q0) := e2
                obtain ⟨⟨c0, c1, c2, c3⟩, ⟨z2, z3⟩, hcl⟩ := (HS0.out.cel.cel q0 hq0).cells
                have HST : Hid (CelsR ((wt.drewN n).setCell ⟨B q0, 3, none⟩ (.int .i64 ((t : Int) + 1))) q B fi ki A (fun q => pF F Tk (fi q) (ki q)) (fun q => thr (pF F Tk) (cF F) i (t + 1) (fi q) (ki q)) (.slice vx q vc) ∧ Ot (fun b => b = B q0) (wt.drewN n) ((wt.drewN n).setCell ⟨B q0, 3, none⟩ (.int .i64 ((t : Int) + 1)))) := by
                  refine HS0.out.cel.setH hq0 ((t : Int) + 1) (fun r hr => ?_)
                  rw [thr_succ, e2]
                  by_cases er : r = q0
                  · subst er; rw [if_pos ⟨rfl, e3⟩, if_pos rfl]
                  · rw [if_neg er, if_neg]
                    rintro ⟨f1, f2⟩
                    have f3 : fi q0 = fi r := by omega
                    exact er (HCO.out.inj hr hq0 f3.symm (by rw [f2, e3, f3]))
                have HSG : Hid (Seg ((wt.drewN n).setCell ⟨B q0, 3, none⟩ (.int .i64 ((t : Int) + 1))) 3 1 (.slice sx t sc) t (vals (pik (pF F Tk) (cF F) i) t)) := HS0.out.snt.oth HST.out.2 (fun b hb e => HS0.out.snt.ne (HS0.out.cel.cel q0 hq0) (by decide) (e ▸ hb))
                have HBL : Hid (Below w.heap.size w ((wt.drewN n).setCell ⟨B q0, 3, none⟩ (.int .i64 ((t : Int) + 1)))) := HS0.out.bel.trans (HST.out.2.below HS0.out.bel.size (fun k hk => by rw [hk]; exact HBQ.out q0 hq0))
                clear e1 e2 e3 hbn
                go_wp2_with (at_builtin; refine wpList_append_seg _ rfl (.tmp 168) (.tmp 173) 36 rfl 3 i0 _ 1 8 Tryd.underlying36 hi hz0 hz1 hz2 rfl (by decide) (.slice sx t sc) t (vals (pik (pF F Tk) (cF F) i) t) rfl (HSG.out.alloc _) ⟨wt.heap.size, 0, none⟩ 1 1 [.int .i64 ((fi q0 : Nat))] rfl rfl (news_of (new_block_ (by simp))) (by simp [Value.oneCell']) (by decide) (by unfold maxLen; omega) (by omega) _ rfl ?_; intro g1 off1 cap1 w9 hs9 hg9 ha9 hl9)
                go_roundw
                case rel =>
                  refine ⟨t + 1, by omega, by go_num, ?_⟩
                  rw [← HP0.out] at hs9
                  exact TkR.push HST.out.1 HSG.out HS0.out.os HBL.out hs9 hg9 (by rcases ha9 with e | e; exact Or.inl e; right; simp at e ⊢; omega)
                case measure => simp [intOf]; omega
        · obtain rfl : t = Tk := by omega
          have hmk := run_make_row' (P := Tryd.prog) 39 36 (.slice none 0 0) 24 Tryd.underlying39 infoIntS rfl .i64 .i64 i (by omega) (by omega)
          go_upto_region 48 with (fail)
          go_cut [26, 27] (fun a b wx => ∃ b1 b2, a = .slice (some ⟨b1, 0, none⟩) i i ∧ b = .slice (some ⟨b2, 0, none⟩) i i ∧ PT wx wr.heap.size i b1 b2 (fun _ => .slice none 0 0) (fun _ => .slice none 0 0) (fun _ => 0) (pF F t) (thr (pF F t) (cF F) i t) ∧ Below wr.heap.size wr wx)
          case first =>
            go_region
            all_goals
              go_wp2
              go_meet
              case rel =>
                refine ⟨_, _, rfl, rfl, PT.made ?_ ?_ ?_ ?_ ?_, ?_⟩
                · rw [← made_arr]; first | (refine new_block_ ?_; simp; done) | (refine (Below.heap_alloc _ _ _ ?_).trans (new_block_ ?_) <;> simp <;> done)
                · rw [← made_arr]; first | (refine new_block_ ?_; simp; done) | (refine (Below.heap_alloc _ _ _ ?_).trans (new_block_ ?_) <;> simp <;> done)
                · first | omega | simp
                · first | omega | simp
                · first | omega | simp
                · exact below_alloc_ (below_alloc_ (Below.refl _ _).drew _) _
          case rest =>
          obtain ⟨b1, b2, rfl, rfl, hPT, hbw⟩ := hcut
          have HBW : Hid (Below wr.heap.size wr _) := hbw
          have HP0 : Hid (PT _ wr.heap.size i b1 b2 _ _ _ _ _) := hPT
          obtain ⟨w0, HW0⟩ : ∃ w0, Hid (w0 = wr) := ⟨_, rfl⟩
          rw [← HW0.out] at HBW HP0 HTK
          clear hPT hbw hmk HW0
          go_wp2
          go_loopw [184] (fun iv wx => ∃ q : Nat, q ≤ M ∧ iv = .int .i64 q ∧ Below w0.heap.size w0 wx ∧ ∃ PV TV, PT wx w0.heap.size i b1 b2 PV TV (cnq fi q) (pF F t) (thr (pF F t) (cF F) i t)) (fun i _ => M - (intOf i).toNat)
          case atStart => exact ⟨0, Nat.zero_le _, rfl, HBW.out, _, _, HP0.out⟩
          case round =>
            obtain ⟨q, hq, rfl, hbq, PV, TV, hPQ⟩ := hrel
            have HPQ : Hid (PT wr w0.heap.size i b1 b2 PV TV (cnq fi q) (pF F t) (thr (pF F t) (cF F) i t)) := hPQ
            have HBQW : Hid (Below w0.heap.size w0 wr) := hbq
            clear hPQ hbq
            by_cases hqM : q < M
            · have HCW : Hid (CelsR wr M B fi ki A (fun q => pF F t (fi q) (ki q)) (fun q => thr (pF F t) (cF F) i t (fi q) (ki q)) (.slice vx M vc)) := HTK.out.cel.below HBQW.out
              obtain ⟨vb, vo, vcp, hv, p1, hvb⟩ := HCW.out.ptr hqM
              simp only [Value.slice.injEq] at hv
              obtain ⟨rfl, _, rfl⟩ := hv
              obtain ⟨⟨c0, c1, c2, c3⟩, _, hcl⟩ := (HCW.out.cel q hqM).cells
              go_upto_region 52 with (fail)
              have HKQ : Hid (ki q = cnq fi q (fi q)) := (cnq_inv HCO.out q (by omega)).2.2 hqM
              refine reg52 (cA := A q) u8 u9 u10 u11 u12 u13 u14 u15 u16 u17 u18 u19 u20 u22 u23 u25 u33 u34 u35 u36 u37 u38 u39 u40 u41 u42 u43 u44 u45 u46 u47 u48 u49 u50 u51 u52 u53 u54 u55 u56 u57 u58 u59 u60 u61 u62 u63 u64 u65 u66 u67 u68 u69 u70 u71 u72 u73 u74 u75 u76 u77 u78 u79 u80 u81 u82 u83 u84 u85 u86 u87 u88 u89 u92 u93 u94 u95 u96 u97 u98 u99 u100 u101 u102 u103 u104 u105 u106 u107 u108 u109 u110 u111 u112 u113 u114 u115 u116 u117 u118 u119 u120 u121 u122 u123 u124 u125 u126 u127 u128 u129 u130 u131 u132 u133 u134 u135 u136 u137 u138 u139 u140 u141 u142 u143 u144 u145 u146 u147 u148 u149 u150 u151 u152 u153 u154 u155 u156 u157 u158 u159 u160 u161 u162 u163 u164 u165 u166 u167 u168 u169 u170 u171 u172 u173 u174 u175 u176 u177 u178 u179 u180 u181 u188 u189 u190 u191 u192 u193 u194 u195 u196 u197 u198 u199 u200 u201 u202 u203 u204 u205 u206 u207 u208 u209 u210 u211 u212 u213 u214 u215 u216 u217 u218 u219 u220 u221 u222 u223 u224 u225 u226 u227 u228 u229 HPQ.out (HCO.out.lt q hqM).1 HKQ.out.symm (by have := cnq_le fi q (fi q); have := HKQ.out; omega) rfl rfl (HCW.out.cel q hqM) HBQW.out.size (fun _ _ _ _ _ h => h) ?_
              intro t192 t193 t197 t202 t203 t204 t208 t209 t210 t215 t216 t217 t221 t222 t223 t224 t225 W PV2 TV2 hp2 ho2
              have HP2 : Hid (PT W w0.heap.size i b1 b2 PV2 TV2 (cnq fi (q + 1)) (pF F t) (thr (pF F t) (cF F) i t)) := by
                rw [HKQ.out, cnq_upd] at hp2
                exact hp2
              have HB2 : Hid (Below w0.heap.size w0 W) := HBQW.out.trans (ho2.below HBQW.out.size (fun _ h => h))
              clear hp2 ho2
              go_wp2
              go_roundw
              case rel => exact ⟨q + 1, by omega, by go_num, HB2.out, PV2, TV2, HP2.out⟩
              case measure => simp [intOf]; omega
            · obtain rfl : q = M := by omega
              obtain ⟨sx, sc, rfl⟩ := HTK.out.snt.slc
              go_wp2
              refine bodyPost_ret (v := .tuple #[.slice sx t sc, .slice (some ⟨b1, 0, none⟩) i i, .slice (some ⟨b2, 0, none⟩) i i]) ?_ rfl ⟨_, _, _, rfl, HPQ.out.plan (fun j hj => cnq_all HCO.out hj) (HTK.out.snt.below HBQW.out) (by omega), HTK.out.bel.trans (HBQW.out.mono HTK.out.bel.size)⟩
              simp [results, Tryd.results11, go_sem]
end Go.Proofs.YtnaooocmggnojaaDoor
