/-
  millracekeep.pick; steps and their times. Conditions: small numbers.
  A queue in which each flow keeps its order: what was taken goes up, flow by flow, step by step. Mathematics of a model alone.
  A tree neither loses nor makes a packet, and each leaf keeps its order. Mathematics of the model alone.
-/
import Derived.Test.YtpgdocmpbeabpaaDoorU23
import Derived.Test.YtpgdocmpbeabpaaDoorKm
import Derived.Test.YtpgdocmpbeabpaaDoorPz
import Derived.Test.YtpgdocmpbeabpaaDoorU24
namespace Go.Proofs.YtpgdocmpbeabpaaDoor
open Go.RowKit Go.Extern.Stop Go.Stop Go.Extern

theorem timesL_get {xs : List Stp} {i : Nat} {st : Stp} (h : (timesL 0 xs)[i]? = some st) (hn : xs.length ≤ 1000) : st.a = st.lt ∧ nowAt 0 xs i ≤ st.lt ∧ 0 ≤ nowAt 0 xs i ∧ st.lt ≤ 1000000 ∧ st.lt = nowAt 0 xs (i + 1) ∧ (st.what = 0 → It.ok ⟨st.a, st.l, st.f, st.b, st.m⟩ = true) := by
  have hi := (List.getElem?_eq_some_iff.1 h).1
  rw [timesL_length] at hi
  obtain ⟨y, hy⟩ : ∃ y, xs[i]? = some y := ⟨_, List.getElem?_eq_getElem hi⟩
  rw [timesL_at hy] at h
  obtain rfl := Option.some.inj h
  have h1 := nowAt_succ (t := 0) hy
  have h2 := later_le y
  have h3 := nowAt_le 0 xs i
  have h4 := nowAt_le 0 xs (i + 1)
  exact ⟨rfl, by show nowAt 0 xs i ≤ nowAt 0 xs (i + 1); omega, by omega, by show nowAt 0 xs (i + 1) ≤ _; omega, rfl, fun h0 => timed_ok (t := nowAt 0 xs (i + 1)) (s := y) h0⟩
def pickN (a n : Int) : Int := (a % 18446744073709551616) % n
theorem pickN_bd (a n : Int) (h : 1 ≤ n) : 0 ≤ pickN a n ∧ pickN a n < n := ⟨Int.emod_nonneg _ (by omega), Int.emod_lt_of_pos _ (by omega)⟩
theorem pick_any (a m : Int) (w : World) (h0 : 1 ≤ m) (h1 : m ≤ 1000000) : Calls Tryd.prog 12 #[.int .i64 a, .int .i64 m] w fun e w' => e = .returned (.int .i64 (pickN a m)) ∧ w' = w := by
  have hz : ¬ m = 0 := by omega
  have hu : IntKind.u64.wrap m = m := by rw [IntKind.wrap_u64]; omega
  have he : wrap64 ((IntKind.u64.wrap a).tmod m) = pickN a m := by
    unfold pickN
    rw [IntKind.wrap_u64, Int.tmod_eq_emod_of_nonneg (by omega)]
    have h1 := Int.emod_nonneg (a % 18446744073709551616) hz
    have h2 := Int.emod_lt_of_pos (a % 18446744073709551616) (by omega : (0 : Int) < m)
    generalize a % 18446744073709551616 % m = r at *
    unfold wrap64; omega
  have HE : Hid (wrap64 ((IntKind.u64.wrap a).tmod m) = pickN a m) := he
  clear he
  go_enter Tryd.func12, Tryd.ntmps12
  go_wp2
  go_ret
  refine ⟨?_, rfl⟩
  rw [← HE.out]; rfl
end Go.Proofs.YtpgdocmpbeabpaaDoor
namespace Go.Proofs.YtpgdocmpbeabpaaDoor
open Go.RowKit Go.Extern.Stop Go.Stop Go.Extern

def flowS (F : List Int) (st : Stp) : List Int := if st.what = 0 then F ++ [st.f] else F
def flowD (ts : List Stp) : Nat → List Int
  | 0 => []
  | i + 1 => match ts[i]? with
    | none => flowD ts i
    | some t => flowS (flowD ts i) t
def lastT (F : List Int) (l : Nat → Int) (sn : Sn) : Nat → Int := if 0 ≤ sn.taken then updF l (F.getD sn.taken.toNat 0).toNat (sn.taken + 1) else l
def lastO (ts : List Stp) (ss : List Sn) : Nat → Nat → Int
  | 0 => fun _ => 0
  | i + 1 => match ts[i]?, ss[i]? with
    | some _, some sn => lastT (flowD ts (i + 1)) (lastO ts ss i) sn
    | _, _ => lastO ts ss i
theorem flowD_succ {ts : List Stp} {i : Nat} {t : Stp} (h : ts[i]? = some t) : flowD ts (i + 1) = flowS (flowD ts i) t := by simp only [flowD, h]
theorem lastO_succ {ts : List Stp} {ss : List Sn} {i : Nat} {t : Stp} {sn : Sn} (h : ts[i]? = some t) (h2 : ss[i]? = some sn) : lastO ts ss (i + 1) = lastT (flowD ts (i + 1)) (lastO ts ss i) sn := by simp only [lastO, h, h2]
theorem flowD_len (ts : List Stp) (i : Nat) : (flowD ts i).length ≤ i := by
  induction i with
  | zero => simp [flowD]
  | succ i ih =>
    simp only [flowD]
    split
    · omega
    · unfold flowS
      split
      · simp; omega
      · omega
/-- What ordered looks at in one step. -/
def OStep (F : List Int) (l : Nat → Int) (sn : Sn) : Prop := 0 ≤ sn.taken → ∃ f : Nat, f < 16 ∧ F[sn.taken.toNat]? = some (f : Int) ∧ l f < sn.taken + 1
/-- Each flow keeps its order. -/
structure QM.Orders (M : QM) (cont : M.σ → List Hd) : Prop where
  put : ∀ (s : M.σ) (now : Int) (x y : Hd), y ∈ cont (M.put s now x).1 → y = x ∨ y ∈ cont s
  take : ∀ {s : M.σ} {t : Int} {n : Nat} (now : Int), M.inv t n s → ((M.take s now).2.2.2 = true → (M.take s now).2.2.1 ∈ cont s) ∧ ∀ y ∈ cont (M.take s now).1, y ∈ cont s ∧ ((M.take s now).2.2.2 = true → y.f = (M.take s now).2.2.1.f → (M.take s now).2.2.1.n < y.n)
  when : ∀ (s : M.σ) (now : Int), ∀ y ∈ cont (M.when s now).1, y ∈ cont s
structure OInv (F : List Int) (l : Nat → Int) (n : Nat) (c : List Hd) : Prop where
  len : F.length = n
  all : ∀ f, l f ≤ n
  has : ∀ y ∈ c, 0 ≤ y.f ∧ y.f < 16 ∧ 0 ≤ y.n ∧ y.n < n ∧ F[y.n.toNat]? = some y.f ∧ l y.f.toNat ≤ y.n
theorem ostep {M : QM} {cont : M.σ → List Hd} (hO : M.Orders cont) {s : M.σ} {t : Int} {n : Nat} {F : List Int} {l : Nat → Int} {st : Stp} (h : OInv F l n (cont s)) (hI : M.inv t n s) (hok : st.what = 0 → It.ok ⟨st.a, st.l, st.f, st.b, st.m⟩ = true) :
    OStep (flowS F st) l (stepQ M s n st).2 ∧ OInv (flowS F st) (lastT (flowS F st) l (stepQ M s n st).2) (stepQ M s n st).1.2 (cont (stepQ M s n st).1.1) := by
  by_cases hw : st.what = 0
  · have hf := ok_flow (x := hdOf st n) (hok hw)
    have hf' : 0 ≤ st.f ∧ st.f < 16 := by simp only [hdOf] at hf; omega
    simp only [stepQ, if_pos hw, flowS, OStep, lastT]
    refine ⟨fun h => absurd h (by decide), ?_⟩
    rw [if_neg (by decide)]
    refine ⟨by simp [h.len], fun f => by have := h.all f; omega, fun y hy => ?_⟩
    rcases hO.put s st.lt (hdOf st n) y hy with rfl | hy
    · refine ⟨hf'.1, hf'.2, Int.natCast_nonneg n, by show (n : Int) < _; omega, ?_, h.all _⟩
      show (F ++ [st.f])[((n : Int)).toNat]? = some st.f
      rw [Int.toNat_natCast, List.getElem?_append_right (by rw [h.len]; omega), h.len]
      simp
    · obtain ⟨a1, a2, a3, a4, a5, a6⟩ := h.has y hy
      refine ⟨a1, a2, a3, by omega, ?_, a6⟩
      rw [List.getElem?_append_left (by rw [h.len]; omega)]
      exact a5
  · simp only [stepQ, if_neg hw, flowS]
    by_cases hw1 : st.what = 1
    · simp only [if_pos hw1]
      obtain ⟨k1, k2⟩ := hO.take (s := s) st.lt hI
      generalize M.take s st.lt = Tk at *
      obtain ⟨s2, L2, x, ok⟩ := Tk
      cases ok with
      | false =>
        simp only [Bool.false_eq_true, if_false, OStep, lastT]
        refine ⟨fun h => absurd h (by decide), ?_⟩
        rw [if_neg (by decide)]
        exact ⟨h.len, h.all, fun y hy => h.has y (k2 y hy).1⟩
      | true =>
        obtain ⟨a1, a2, a3, a4, a5, a6⟩ := h.has x (k1 rfl)
        simp only [if_true, OStep, lastT, if_pos a3]
        obtain ⟨f, hf⟩ : ∃ f : Nat, x.f = f := ⟨x.f.toNat, by omega⟩
        have hft : x.f.toNat = f := by omega
        rw [hft] at a6
        rw [hf] at a5
        have hg : (F.getD x.n.toNat 0).toNat = f := by rw [List.getD_eq_getElem?_getD, a5]; simp
        rw [hg]
        refine ⟨fun _ => ⟨f, by omega, a5, by omega⟩, h.len, fun g => ?_, fun y hy => ?_⟩
        · by_cases e : g = f
          · subst e; rw [updF_same]; show x.n + 1 ≤ _; omega
          · rw [updF_ne e]; exact h.all g
        · obtain ⟨b1, b2⟩ := k2 y hy
          obtain ⟨c1, c2, c3, c4, c5, c6⟩ := h.has y b1
          refine ⟨c1, c2, c3, c4, c5, ?_⟩
          by_cases e : y.f.toNat = f
          · rw [e, updF_same]
            have := b2 rfl (by show y.f = x.f; omega)
            show x.n + 1 ≤ y.n
            have h3 : x.n < y.n := this
            omega
          · rw [updF_ne e]; exact c6
    · simp only [if_neg hw1, OStep, lastT]
      refine ⟨fun h => absurd h (by decide), ?_⟩
      rw [if_neg (by decide)]
      exact ⟨h.len, h.all, fun y hy => h.has y (hO.when s st.lt y hy)⟩
theorem orders_run {M : QM} {cont : M.σ → List Hd} (hM : M.Fine) (hO : M.Orders cont) (xs : List Stp) (hn : xs.length ≤ 1000) (s0 : M.σ) (h0 : cont s0 = []) (hI0 : M.inv 0 0 s0) :
    ∀ i t sn, (timesL 0 xs)[i]? = some t → (playFrom M s0 0 (timesL 0 xs))[i]? = some sn → OStep (flowD (timesL 0 xs) (i + 1)) (lastO (timesL 0 xs) (playFrom M s0 0 (timesL 0 xs)) i) sn := by
  have hall : ∀ i, i ≤ (timesL 0 xs).length → OInv (flowD (timesL 0 xs) i) (lastO (timesL 0 xs) (playFrom M s0 0 (timesL 0 xs)) i) (stFrom M s0 0 (timesL 0 xs) i).2 (cont (stFrom M s0 0 (timesL 0 xs) i).1) ∧ M.inv (nowAt 0 xs i) (stFrom M s0 0 (timesL 0 xs) i).2 (stFrom M s0 0 (timesL 0 xs) i).1 := by
    intro i
    induction i with
    | zero =>
      intro _
      have e := stFrom_zero M s0 0 (timesL 0 xs)
      rw [e]
      have e0 : nowAt 0 xs 0 = 0 := by cases xs <;> rfl
      rw [e0]
      refine ⟨⟨rfl, fun f => Int.le_refl _, fun y hy => ?_⟩, hI0⟩
      show _
      rw [h0] at hy
      simp at hy
    | succ i ih =>
      intro hi
      obtain ⟨st, hst⟩ : ∃ st, (timesL 0 xs)[i]? = some st := ⟨_, List.getElem?_eq_getElem (by omega)⟩
      have e := stFrom_succ (M := M) (s := s0) (n := 0) hst
      obtain ⟨h1, h2⟩ := ih (by omega)
      obtain ⟨t1, t2, t3, t4, t5, t6⟩ := timesL_get hst hn
      have hlen := stFrom_le M s0 0 (timesL 0 xs) i
      rw [timesL_length] at hi
      have hstep := ostep hO (st := st) h1 h2 t6
      have hinv := stepQ_inv hM (st := st) h2 t3 t2 t4 t6 t1 (by omega)
      rw [e, lastO_succ hst (playFrom_at hst), flowD_succ hst, ← t5]
      exact ⟨hstep.2, hinv.1⟩
  intro i st sn hst hsn
  have hi := (List.getElem?_eq_some_iff.1 hst).1
  rw [playFrom_at hst] at hsn
  obtain rfl := Option.some.inj hsn
  obtain ⟨h1, h2⟩ := hall i (by omega)
  obtain ⟨t1, t2, t3, t4, t5, t6⟩ := timesL_get hst hn
  rw [flowD_succ hst]
  exact (ostep hO (st := st) h1 h2 t6).1
/-- The inv at the end of a play. -/
theorem inv_run {M : QM} (hM : M.Fine) (xs : List Stp) (hn : xs.length ≤ 1000) (s0 : M.σ) (hI0 : M.inv 0 0 s0) :
    ∀ i, i ≤ xs.length → M.inv (nowAt 0 xs i) (stFrom M s0 0 (timesL 0 xs) i).2 (stFrom M s0 0 (timesL 0 xs) i).1 := by
  intro i
  induction i with
  | zero =>
    intro _
    have e := stFrom_zero M s0 0 (timesL 0 xs)
    rw [e]
    have e0 : nowAt 0 xs 0 = 0 := by cases xs <;> rfl
    rw [e0]
    exact hI0
  | succ i ih =>
    intro hi
    obtain ⟨st, hst⟩ : ∃ st, (timesL 0 xs)[i]? = some st := ⟨_, List.getElem?_eq_getElem (by rw [timesL_length]; omega)⟩
    have e := stFrom_succ (M := M) (s := s0) (n := 0) hst
    obtain ⟨t1, t2, t3, t4, t5, t6⟩ := timesL_get hst hn
    have hlen := stFrom_le M s0 0 (timesL 0 xs) i
    have hinv := stepQ_inv hM (st := st) (ih (by omega)) t3 t2 t4 t6 t1 (by omega)
    rw [e, ← t5]
    exact hinv.1
end Go.Proofs.YtpgdocmpbeabpaaDoor
namespace Go.Proofs.YtpgdocmpbeabpaaDoor
open Go.RowKit Go.Extern.Stop Go.Stop Go.Extern

/-- Lists one behind the other. -/
def catN (f : Nat → List Hd) : Nat → List Hd
  | 0 => []
  | k + 1 => catN f k ++ f k
theorem catN_same {f g : Nat → List Hd} : ∀ {k : Nat}, (∀ j, j < k → f j = g j) → catN f k = catN g k := by
  intro k
  induction k with
  | zero => intro _; rfl
  | succ k ih => intro h; simp only [catN]; rw [ih (fun j hj => h j (by omega)), h k (by omega)]
theorem catN_perm {f g : Nat → List Hd} {i : Nat} {a : List Hd} (hne : ∀ j, j ≠ i → f j = g j) (hi : (f i).Perm (a ++ g i)) : ∀ {k : Nat}, i < k → (catN f k).Perm (a ++ catN g k) := by
  intro k
  induction k with
  | zero => intro h; omega
  | succ k ih =>
    intro h
    simp only [catN]
    by_cases e : i = k
    · subst e
      rw [catN_same (g := g) (fun j hj => hne j (by omega))]
      refine (List.Perm.append_left _ hi).trans ?_
      rw [← List.append_assoc, ← List.append_assoc]
      exact List.Perm.append_right _ List.perm_append_comm
    · rw [hne k (by omega), ← List.append_assoc]
      exact (ih (by omega)).append_right _
theorem catN_mem {f : Nat → List Hd} {x : Hd} : ∀ {k : Nat}, x ∈ catN f k ↔ ∃ i, i < k ∧ x ∈ f i := by
  intro k
  induction k with
  | zero => simp [catN]
  | succ k ih =>
    simp only [catN, List.mem_append, ih]
    constructor
    · rintro (⟨i, h1, h2⟩ | h)
      · exact ⟨i, by omega, h2⟩
      · exact ⟨k, by omega, h⟩
    · rintro ⟨i, h1, h2⟩
      by_cases e : i = k
      · subst e; exact Or.inr h2
      · exact Or.inl ⟨i, by omega, h2⟩
theorem catN_len (f : Nat → List Hd) : ∀ k : Nat, sumN (fun i => ((f i).length : Int)) k = (catN f k).length := by
  intro k
  induction k with
  | zero => rfl
  | succ k ih => simp only [sumN, catN, List.length_append, ih]; omega
theorem catN_sum (f : Nat → List Hd) : ∀ k : Nat, sumN (fun i => sumL (f i)) k = sumL (catN f k) := by
  intro k
  induction k with
  | zero => rfl
  | succ k ih => simp only [sumN, catN, sumL_append, ih]
/-- Who waits in a tree. -/
def contH (K : HtK) (s : HtS) : List Hd := catN (fun i => (s.nd i).L) K.N
theorem putH_L {K : HtK} {s : HtS} {x : Hd} (h : inB K s x = true) (j : Nat) : ((putH K s x).1.nd j).L = if j = x.f.toNat then (s.nd j).L ++ [x] else (s.nd j).L := by
  unfold putH
  rw [if_pos h]
  unfold addN updN
  simp only
  split
  · subst j; rfl
  · rfl
theorem takeH_L {K : HtK} (hK : HtKOk K) {s : HtS} {now : Int} {o : Ofr} (h : bestM K (s.at now) now K.N = some o) (j : Nat) : ((takeH K s now).1.nd j).L = if j = o.leaf then (s.nd j).L.tail else (s.nd j).L := by
  obtain ⟨_, _, x, r, _, _, h5⟩ := take_some hK h
  rw [h5, send_L, sent_L]
  rfl
theorem htM_keeps {K : HtK} (hK : HtKOk K) : (HtM K).Keeps (contH K) where
  put := by
    intro (s : HtS) now x
    show (contH K s ++ [x]).Perm ((putH K s x).2 ++ contH K (putH K s x).1)
    by_cases h : inB K s x = true
    · have hl : leafB K x.f = true := by unfold inB at h; simp only [Bool.and_eq_true] at h; exact h.1.1
      obtain ⟨f0, f1⟩ := leafB_in hl
      have e2 : (putH K s x).2 = [] := by unfold putH; rw [if_pos h]
      rw [e2]
      have hp := catN_perm (f := fun j => ((putH K s x).1.nd j).L) (g := fun j => (s.nd j).L) (i := x.f.toNat) (a := [x]) (fun j hj => by show ((putH K s x).1.nd j).L = _; rw [putH_L h, if_neg hj]) (by show ((putH K s x).1.nd x.f.toNat).L.Perm _; rw [putH_L h, if_pos rfl]; exact List.perm_append_comm) (k := K.N) (by omega)
      exact List.perm_append_comm.trans hp.symm
    · have e : putH K s x = (s, [x]) := by unfold putH; rw [if_neg h]
      rw [e]
      exact List.perm_append_comm
  take := by
    intro (s : HtS) now
    show (contH K s).Perm ((takeH K s now).2.1 ++ (if (takeH K s now).2.2.2 then [(takeH K s now).2.2.1] else []) ++ contH K (takeH K s now).1)
    cases hb : bestM K (s.at now) now K.N with
    | none => rw [take_none hb]; exact List.Perm.refl _
    | some o =>
      obtain ⟨h1, h2, x, r, h3, h4, h5⟩ := take_some hK hb
      have hp := catN_perm (f := fun j => (s.nd j).L) (g := fun j => ((takeH K s now).1.nd j).L) (i := o.leaf) (a := [x]) (fun j hj => by show _ = ((takeH K s now).1.nd j).L; rw [takeH_L hK hb, if_neg hj]) (by show (s.nd o.leaf).L.Perm ([x] ++ ((takeH K s now).1.nd o.leaf).L); rw [takeH_L hK hb, if_pos rfl, h3]; exact List.Perm.refl _) (k := K.N) h1
      rw [h5] at hp ⊢
      exact hp
  when := fun s now => List.Perm.refl _
  len := fun s => catN_len _ _
  bytes := fun s => catN_sum _ _
theorem htM_orders {K : HtK} (hK : HtKOk K) : (HtM K).Orders (contH K) where
  put := by
    intro (s : HtS) now x y hy
    have hy' : y ∈ (putH K s x).2 ++ contH K (putH K s x).1 := List.mem_append.2 (Or.inr hy)
    have := ((htM_keeps hK).put s now x).mem_iff.2 hy'
    rcases List.mem_append.1 this with h | h
    · exact Or.inr h
    · exact Or.inl (List.mem_singleton.1 h)
  take := by
    intro (s : HtS) t n now hI
    show ((takeH K s now).2.2.2 = true → (takeH K s now).2.2.1 ∈ contH K s) ∧ ∀ y ∈ contH K (takeH K s now).1, y ∈ contH K s ∧ ((takeH K s now).2.2.2 = true → y.f = (takeH K s now).2.2.1.f → (takeH K s now).2.2.1.n < y.n)
    cases hb : bestM K (s.at now) now K.N with
    | none => rw [take_none hb]; exact ⟨fun h => (by cases h), fun y hy => ⟨hy, fun h => (by cases h)⟩⟩
    | some o =>
      obtain ⟨h1, h2, x, r, h3, h4, h5⟩ := take_some hK hb
      have hL := takeH_L hK hb
      have e3 : (takeH K s now).2.2.1 = x := by rw [h5]
      rw [e3]
      have hxc : x ∈ contH K s := catN_mem.2 ⟨o.leaf, h1, by show x ∈ (s.nd o.leaf).L; rw [h3]; simp⟩
      refine ⟨fun _ => hxc, fun y hy => ?_⟩
      obtain ⟨j, hj, hy⟩ := catN_mem.1 hy
      have hy : y ∈ ((takeH K s now).1.nd j).L := hy
      rw [hL] at hy
      have hf := (HtJ.fl hI o.leaf h1 x (by rw [h3]; simp)).1
      split at hy
      · rename_i e
        rw [e] at hy hj
        have hup := HtJ.up hI o.leaf hj
        rw [h3] at hup hy
        refine ⟨catN_mem.2 ⟨o.leaf, hj, by show y ∈ (s.nd o.leaf).L; rw [h3]; exact List.mem_cons_of_mem _ hy⟩, fun _ _ => ?_⟩
        exact (List.pairwise_cons.1 hup).1 y hy
      · rename_i e
        refine ⟨catN_mem.2 ⟨j, hj, hy⟩, fun _ h => ?_⟩
        have hfy := (HtJ.fl hI j hj y hy).1
        exfalso
        omega
  when := fun s now y hy => hy
end Go.Proofs.YtpgdocmpbeabpaaDoor
