/-
  HtbCeils: what the law counts, step by step. Mathematics of the model alone.
  Slices of packets in a slice, and one more beside it (number N), all apart from each other. Nothing of the program is claimed here by itself.
-/
import Derived.Test.YtpgdocmpbeabpaaDoorZtp
import Derived.Test.YtpgdocmpbeabpaaDoorFa
import Derived.Test.YtpgdocmpbeabpaaDoorU23
import Derived.Test.YtpgdocmpbeabpaaDoorListA
namespace Go.Proofs.YtpgdocmpbeabpaaDoor
open Go.RowKit Go.Extern.Stop Go.Stop Go.Extern

/-- What was put in ahead of a step. -/
def putD (ts : List Stp) : Nat → List It
  | 0 => []
  | i + 1 => match ts[i]? with
    | none => putD ts i
    | some t => if t.what = 0 then putD ts i ++ [⟨t.a, t.l, t.f, t.b, t.m⟩] else putD ts i
theorem putD_succ {ts : List Stp} {i : Nat} {t : Stp} (h : ts[i]? = some t) : putD ts (i + 1) = if t.what = 0 then putD ts i ++ [⟨t.a, t.l, t.f, t.b, t.m⟩] else putD ts i := by simp only [putD, h]
def it0 : It := ⟨0, 0, 0, 0, 0⟩
/-- What went from each class, when one more goes. -/
def gonK (K : HtK) (G : Nat → List It) (now : Int) (y : It) (c : Nat) : List It := if c ∈ hL K (some y.f.toNat) then G c ++ [⟨now, y.l, 0, 0, 0⟩] else G c
/-- What went from each class ahead of a step. -/
def gonD (K : HtK) (ts : List Stp) (ss : List Sn) : Nat → Nat → List It
  | 0 => fun _ => []
  | i + 1 => match ts[i]?, ss[i]? with
    | some t, some sn => if 0 ≤ sn.taken then gonK K (gonD K ts ss i) t.lt ((putD ts (i + 1)).getD sn.taken.toNat it0) else gonD K ts ss i
    | _, _ => gonD K ts ss i
theorem gonD_succ {K : HtK} {ts : List Stp} {ss : List Sn} {i : Nat} {t : Stp} {sn : Sn} (h : ts[i]? = some t) (h2 : ss[i]? = some sn) : gonD K ts ss (i + 1) = if 0 ≤ sn.taken then gonK K (gonD K ts ss i) t.lt ((putD ts (i + 1)).getD sn.taken.toNat it0) else gonD K ts ss i := by simp only [gonD, h, h2]
/-- What the law asks of one step. -/
def GStep (K : HtK) (P : List It) (sn : Sn) : Prop := 0 ≤ sn.taken → ∃ y, P[sn.taken.toNat]? = some y ∧ 0 ≤ y.f ∧ y.f < K.N ∧ 1 ≤ y.l ∧ y.l ≤ 10000
/-- What is so ahead of a step. -/
structure GI (K : HtK) (s : HtS) (n : Nat) (P : List It) (G : Nat → List It) : Prop where
  ci : CI K s G
  len : P.length = n
  has : ∀ c, c < K.N → ∀ x ∈ (s.nd c).L, 1 ≤ x.l ∧ ∃ y, P[x.n.toNat]? = some y ∧ y.l = x.l ∧ y.f = x.f
theorem gstep {K : HtK} (hK : HtKOk K) {s : HtS} {n : Nat} {P : List It} {G : Nat → List It} {t : Int} (h : GI K s n P G) (hI : HtJ K t n s) {st : Stp} (ht : t ≤ st.lt) (ha : st.what = 0 → It.ok ⟨st.a, st.l, st.f, st.b, st.m⟩ = true) :
    GStep K (if st.what = 0 then P ++ [⟨st.a, st.l, st.f, st.b, st.m⟩] else P) (stepQ (HtM K) s n st).2 ∧ GI K (stepQ (HtM K) s n st).1.1 (stepQ (HtM K) s n st).1.2 (if st.what = 0 then P ++ [⟨st.a, st.l, st.f, st.b, st.m⟩] else P) (if 0 ≤ (stepQ (HtM K) s n st).2.taken then gonK K G st.lt ((if st.what = 0 then P ++ [⟨st.a, st.l, st.f, st.b, st.m⟩] else P).getD (stepQ (HtM K) s n st).2.taken.toNat it0) else G) := by
  by_cases hw : st.what = 0
  · have hok := ok_len (x := hdOf st n) (ha hw)
    simp only [stepQ, if_pos hw, GStep]
    refine ⟨fun h => absurd h (by decide), ?_⟩
    rw [if_neg (by decide)]
    refine ⟨h.ci.put (hdOf st n), by simp [h.len], fun c hc x hx => ?_⟩
    have hold : x ∈ (s.nd c).L → 1 ≤ x.l ∧ ∃ y, (P ++ [⟨st.a, st.l, st.f, st.b, st.m⟩])[x.n.toNat]? = some y ∧ y.l = x.l ∧ y.f = x.f := fun hx => by
      obtain ⟨h1, y, h2, h3⟩ := h.has c hc x hx
      refine ⟨h1, y, ?_, h3⟩
      have := hI.fl c hc x hx
      rw [List.getElem?_append_left (by rw [h.len]; omega)]
      exact h2
    by_cases hin : inB K s (hdOf st n) = true
    · have hx' : x ∈ ((putH K s (hdOf st n)).1.nd c).L := hx
      rw [putH_L hin] at hx'
      split at hx'
      · rcases List.mem_append.1 hx' with hx' | hx'
        · exact hold hx'
        · rw [List.mem_singleton.1 hx']
          refine ⟨hok.1, ⟨st.a, st.l, st.f, st.b, st.m⟩, ?_, rfl, rfl⟩
          show (P ++ [_])[((n : Int)).toNat]? = _
          rw [Int.toNat_natCast, List.getElem?_append_right (by rw [h.len]; exact Nat.le_refl _), h.len]
          simp
      · exact hold hx'
    · have e : putH K s (hdOf st n) = (s, [hdOf st n]) := by unfold putH; rw [if_neg hin]
      have hx' : x ∈ ((putH K s (hdOf st n)).1.nd c).L := hx
      rw [e] at hx'
      exact hold hx'
  · simp only [stepQ, if_neg hw]
    by_cases hw1 : st.what = 1
    · simp only [if_pos hw1]
      have hci := h.ci.take hK hI ht (fun c hc x hx => (h.has c hc x hx).1)
      have eM : (HtM K).take s st.lt = takeH K s st.lt := rfl
      simp only [eM]
      cases hb : bestM K (s.at st.lt) st.lt K.N with
      | none =>
        rw [take_none hb] at hci ⊢
        simp only [Bool.false_eq_true, if_false, GStep] at hci ⊢
        refine ⟨fun h => absurd h (by decide), ?_⟩
        rw [if_neg (by decide)]
        exact ⟨hci, h.len, h.has⟩
      | some o =>
        obtain ⟨h1, h2, x, r, h3, h4, h5⟩ := take_some hK hb
        have hL := takeH_L hK hb
        have e3 : (takeH K s st.lt).2.2.1 = x := by rw [h5]
        have e4 : (takeH K s st.lt).2.2.2 = true := by rw [h5]
        rw [e3, e4] at hci
        rw [e3, e4]
        simp only [if_true, GStep] at hci ⊢
        have hx : x ∈ (s.nd o.leaf).L := by rw [h3]; simp
        obtain ⟨q1, y, q2, q3, q4⟩ := h.has o.leaf h1 x hx
        have hfl := hI.fl o.leaf h1 x hx
        have hw := (hI.i.wait o.leaf h1).2 x hx
        have eg : P.getD x.n.toNat it0 = y := by rw [List.getD_eq_getElem?_getD, q2]; rfl
        refine ⟨fun _ => ⟨y, q2, by omega, by omega, by omega, by omega⟩, ?_⟩
        rw [if_pos hfl.2.1, eg]
        have eG : gonK K G st.lt y = gonS K G st.lt x := by
          funext c
          unfold gonK gonS
          rw [q3, q4]
        rw [eG]
        refine ⟨hci, h.len, fun c hc z hz => ?_⟩
        rw [hL] at hz
        split at hz
        · exact h.has c hc z (List.mem_of_mem_tail hz)
        · exact h.has c hc z hz
    · simp only [if_neg hw1, GStep]
      refine ⟨fun h => absurd h (by decide), ?_⟩
      rw [if_neg (by decide)]
      exact ⟨h.ci.later (by have := hI.i.tm; omega), h.len, h.has⟩
theorem GI.start (K : HtK) : GI K ⟨nd0 K, 0, 0⟩ 0 [] (fun _ => []) := ⟨CI.start K, rfl, fun c hc x hx => (by cases hx)⟩
theorem ceil_run {K : HtK} (hK : HtKOk K) (xs : List Stp) (hn : xs.length ≤ 1000) (s0 : (HtM K).σ) (hI0 : (HtM K).inv 0 0 s0) (hG0 : GI K s0 0 [] (fun _ => [])) :
    ∀ i, i ≤ xs.length → GI K (stFrom (HtM K) s0 0 (timesL 0 xs) i).1 (stFrom (HtM K) s0 0 (timesL 0 xs) i).2 (putD (timesL 0 xs) i) (gonD K (timesL 0 xs) (playFrom (HtM K) s0 0 (timesL 0 xs)) i) ∧ ∀ t sn, (timesL 0 xs)[i]? = some t → (playFrom (HtM K) s0 0 (timesL 0 xs))[i]? = some sn → GStep K (putD (timesL 0 xs) (i + 1)) sn := by
  have hinv := inv_run (htM_fine hK) xs hn s0 hI0
  have hstep : ∀ i st, (timesL 0 xs)[i]? = some st → GI K (stFrom (HtM K) s0 0 (timesL 0 xs) i).1 (stFrom (HtM K) s0 0 (timesL 0 xs) i).2 (putD (timesL 0 xs) i) (gonD K (timesL 0 xs) (playFrom (HtM K) s0 0 (timesL 0 xs)) i) → GStep K (putD (timesL 0 xs) (i + 1)) (stepQ (HtM K) (stFrom (HtM K) s0 0 (timesL 0 xs) i).1 (stFrom (HtM K) s0 0 (timesL 0 xs) i).2 st).2 ∧ GI K (stFrom (HtM K) s0 0 (timesL 0 xs) (i + 1)).1 (stFrom (HtM K) s0 0 (timesL 0 xs) (i + 1)).2 (putD (timesL 0 xs) (i + 1)) (gonD K (timesL 0 xs) (playFrom (HtM K) s0 0 (timesL 0 xs)) (i + 1)) := by
    intro i st hst hg
    have hi := (List.getElem?_eq_some_iff.1 hst).1
    rw [timesL_length] at hi
    obtain ⟨t1, t2, t3, t4, t5, t6⟩ := timesL_get hst hn
    have hs := gstep hK hg (hinv i (by omega)) (st := st) t2 t6
    rw [putD_succ hst, gonD_succ hst (playFrom_at hst), stFrom_succ hst, putD_succ hst]
    exact hs
  intro i
  induction i with
  | zero =>
    intro _
    have h0 : GI K (stFrom (HtM K) s0 0 (timesL 0 xs) 0).1 (stFrom (HtM K) s0 0 (timesL 0 xs) 0).2 (putD (timesL 0 xs) 0) (gonD K (timesL 0 xs) (playFrom (HtM K) s0 0 (timesL 0 xs)) 0) := by
      rw [stFrom_zero]
      exact hG0
    refine ⟨h0, fun t sn ht hsn => ?_⟩
    rw [playFrom_at ht] at hsn
    cases hsn
    exact (hstep 0 t ht h0).1
  | succ i ih =>
    intro hi
    obtain ⟨st, hst⟩ : ∃ st, (timesL 0 xs)[i]? = some st := ⟨_, List.getElem?_eq_getElem (by rw [timesL_length]; omega)⟩
    have h1 := (hstep i st hst (ih (by omega)).1).2
    refine ⟨h1, fun t sn ht hsn => ?_⟩
    rw [playFrom_at ht] at hsn
    cases hsn
    exact (hstep (i + 1) t ht h1).1
end Go.Proofs.YtpgdocmpbeabpaaDoor
namespace Go.Proofs.YtpgdocmpbeabpaaDoor
open Go.RowKit Go.Extern.Stop Go.Stop Go.Extern

/-- The cells of a packet. -/
def It.cl (x : It) : List Value := [.int .i64 x.a, .int .i64 x.l, .int .i64 x.f, .int .i64 x.b, .int .i64 x.m]
theorem It.cl_len (x : It) : x.cl.length = 5 := rfl
theorem It.cl_one (x : It) : ∀ u ∈ x.cl, u.oneCell' = true := by
  intro u hu
  simp only [It.cl, List.mem_cons, List.not_mem_nil, or_false] at hu
  rcases hu with rfl | rfl | rfl | rfl | rfl <;> rfl
/-- Rows of packets: N of them in block g, and one beside it. -/
structure GoAt (w : World) (g N : Nat) (vs : Nat → Value) (G : Nat → List It) (base : Nat) : Prop where
  blk : Blk w g N 35 vs
  lo : base ≤ g
  row : ∀ c, c ≤ N → Seg w 37 5 (vs c) (G c).length (flt It.cl (G c))
  lr : ∀ c, c ≤ N → ∀ k, (vs c).ownBlock = some k → base ≤ k
  ne : ∀ c d, c ≤ N → d ≤ N → c ≠ d → ∀ k, (vs c).ownBlock = some k → (vs d).ownBlock ≠ some k
theorem GoAt.gNe {w : World} {g N : Nat} {vs : Nat → Value} {G : Nat → List It} {base : Nat} (h : GoAt w g N vs G base) {c : Nat} (hc : c ≤ N) {k : Nat} (hk : (vs c).ownBlock = some k) : k ≠ g := by
  rintro rfl
  obtain ⟨cur, h1⟩ := (h.row c hc).ty hk
  obtain ⟨cur', h2, _⟩ := h.blk
  rw [h1] at h2
  simp only [Option.some.injEq, Obj.cells.injEq] at h2
  exact absurd h2.2.1 (by decide)
theorem GoAt.below {w w' : World} {g N : Nat} {vs : Nat → Value} {G : Nat → List It} {base : Nat} (h : GoAt w g N vs G base) (hb : Below w.heap.size w w') : GoAt w' g N vs G base :=
  ⟨h.blk.kept (hb.block _ h.blk.lt), h.lo, fun c hc => (h.row c hc).below hb, h.lr, h.ne⟩
/-- A row lies in memory. -/
theorem seg_itemsC {w : World} {x : Option Addr} {n cap : Nat} {l : List It} (h : Seg w 37 5 (.slice x n cap) l.length (flt It.cl l)) : ItemsAt w x l ∧ n = l.length := by
  rcases h.form with ⟨h1, h2, _⟩ | ⟨b, off, cap', h1, _, _, _, h5⟩
  · cases h1
    exact ⟨Or.inl (List.eq_nil_of_length_eq_zero h2), h2.symm⟩
  · simp only [Value.slice.injEq] at h1
    obtain ⟨rfl, rfl, rfl⟩ := h1
    refine ⟨Or.inr ⟨b, off, rfl, fun i y hy => ?_⟩, rfl⟩
    have k : ∀ j, j < 5 → ∀ u, y.cl[j]? = some u → w.cell? ⟨b, off + i * 5 + j, none⟩ = some u := by
      intro j hj u hu
      rw [Nat.add_assoc]
      exact h5 _ _ ((flt_at It.cl 5 It.cl_len hy hj).trans hu)
    exact ⟨k 0 (by omega) _ rfl, k 1 (by omega) _ rfl, k 2 (by omega) _ rfl, k 3 (by omega) _ rfl, k 4 (by omega) _ rfl⟩
theorem flt_clC (l : List It) (y : It) : flt It.cl (l ++ [y]) = flt It.cl l ++ y.cl := by simp [flt]
/-- One more in a row. -/
theorem GoAt.grow {w w' : World} {g N : Nat} {vs : Nat → Value} {G : Nat → List It} {base : Nat} (h : GoAt w g N vs G base) {c : Nat} (hc : c ≤ N) {y : It} {b off cap : Nat} {w2 : World}
    (hs : Seg w' 37 5 (.slice (some ⟨b, off, none⟩) ((G c).length + 1) cap) ((G c).length + 1) (flt It.cl (G c) ++ y.cl)) (hg : w.grownBy w' (vs c).ownBlock) (ha : (vs c).ownBlock = some b ∨ w.heap.size ≤ b) (hbs : base ≤ w.heap.size)
    (h2 : (c < N ∧ w2 = w'.setCell ⟨g, c, none⟩ (.slice (some ⟨b, off, none⟩) ((G c).length + 1) cap)) ∨ (c = N ∧ w2 = w')) :
    GoAt w2 g N (updF vs c (.slice (some ⟨b, off, none⟩) ((G c).length + 1) cap)) (updF G c (G c ++ [y])) base := by
  have hgl := h.blk.lt
  have hbg : b ≠ g := by
    rcases ha with h' | h'
    · exact h.gNe hc h'
    · omega
  have hgk : w'.heap[g]? = w.heap[g]? := hg.block _ hgl (fun e => h.gNe hc e.symm rfl)
  have hsame : ∀ k, k ≠ g → w2.heap[k]? = w'.heap[k]? := fun k hk => by
    rcases h2 with ⟨_, rfl⟩ | ⟨_, rfl⟩
    · exact Below.heap_setCell _ _ _ _ hk
    · rfl
  have hnb : ∀ d, d ≤ N → d ≠ c → (vs d).ownBlock ≠ some b := fun d hd hdc e => by
    rcases ha with h' | h'
    · exact h.ne d c hd hc hdc b e h'
    · have := (h.row d hd).lt e
      omega
  refine ⟨?_, h.lo, fun d hd => ?_, fun d hd k hk => ?_, fun d f hd hf hdf k hk => ?_⟩
  · rcases h2 with ⟨_, rfl⟩ | ⟨e, rfl⟩
    · exact (h.blk.kept hgk).set c _
    · refine (h.blk.kept hgk).cong fun i hi => updF_ne (by omega)
  · by_cases e : d = c
    · subst e
      rw [updF_same, updF_same, flt_clC, List.length_append, List.length_singleton]
      refine hs.kept fun k hk => hsame k ?_
      cases hk
      exact hbg
    · rw [updF_ne e, updF_ne e]
      refine (h.row d hd).kept fun k hk => ?_
      rw [hsame k (h.gNe hd hk)]
      exact hg.block _ ((h.row d hd).lt hk) (fun e' => h.ne d c hd hc e k hk e'.symm)
  · by_cases e : d = c
    · subst e
      rw [updF_same] at hk
      cases hk
      rcases ha with h' | h'
      · exact h.lr d hd b h'
      · exact Nat.le_trans hbs h'
    · rw [updF_ne e] at hk
      exact h.lr d hd k hk
  · by_cases e : d = c
    · subst e
      rw [updF_same] at hk
      cases hk
      rw [updF_ne (fun e => hdf e.symm)]
      exact hnb f hf (fun e => hdf e.symm)
    · rw [updF_ne e] at hk
      by_cases e2 : f = c
      · subst e2
        rw [updF_same]
        intro e3
        cases e3
        exact hnb d hd e hk
      · rw [updF_ne e2]
        exact h.ne d f hd hf hdf k hk
end Go.Proofs.YtpgdocmpbeabpaaDoor
