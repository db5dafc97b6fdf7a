/-
  HtbOwn: a leaf that keeps to its own Rate is served when it asks. Mathematics of the model alone.
-/
import Derived.Test.YtpgdocmpbeabpaaDoorZtp
import Derived.Test.YtpgdocmpbeabpaaDoorU35
import Derived.Test.YtpgdocmpbeabpaaDoorBk3
namespace Go.Proofs.YtpgdocmpbeabpaaDoor
open Go.RowKit Go.Extern.Stop Go.Stop Go.Extern

def rootC (n t : Int) : HCl := ⟨-1, n, t, 0, 1000000, 1, 1000000, 0⟩
def leafC (n t R : Int) : HCl := ⟨0, n, t, R, 1000000, 1, 1000000, 0⟩
def ownL (n t R : Int) (m : Nat) : List HCl := rootC n t :: List.replicate m (leafC n t R)
theorem ownL_len (n t R : Int) (m : Nat) : (ownL n t R m).length = m + 1 := by simp [ownL]
theorem ownL_succ (n t R : Int) (m : Nat) : ownL n t R (m + 1) = ownL n t R m ++ [leafC n t R] := by simp [ownL, List.replicate_succ']
theorem ownL_leaf {n t R : Int} {m i : Nat} {c : HCl} (h : (ownL n t R m)[i + 1]? = some c) : c = leafC n t R := by
  have h1 : (List.replicate m (leafC n t R))[i]? = some c := h
  rw [List.getElem?_replicate] at h1
  split at h1
  · exact (Option.some.inj h1).symm
  · cases h1
theorem ownL_ok {n t R : Int} {m : Nat} (h : okB n t R) (hm : m ≤ 6) : OkH (ownL n t R m) := by
  have h0 : okB n t 0 := ⟨h.1, h.2.1, by omega, by omega⟩
  have h1 : okB 1000000 1 1000000 := ⟨⟨by omega, by omega⟩, ⟨by omega, by omega⟩, by omega, by omega⟩
  refine ⟨by rw [ownL_len]; omega, by rw [ownL_len]; omega, fun i c hc => ?_⟩
  cases i with
  | zero =>
    have e : c = rootC n t := (Option.some.inj hc).symm
    subst e
    unfold flawH rootC
    rw [if_neg (by simp only; omega), if_neg (by simp only; omega), if_pos h0, if_pos h1]
  | succ i =>
    rw [ownL_leaf hc]
    unfold flawH leafC
    rw [if_neg (by simp only; omega), if_neg (by simp only; omega), if_pos h, if_pos h1]
/-- The tree of the law. -/
structure OwK (K : HtK) (n t R : Int) (m : Nat) : Prop where
  ok : HtKOk K
  N : K.N = m + 1
  c0 : K.cls 0 = rootC n t
  cl : ∀ f, f < m → K.cls (f + 1) = leafC n t R
  inn : ∀ f, f < m → K.inner (f + 1) = false
  room : K.room = 50
  okb : okB n t R
theorem OwK.of {K : HtK} {n t R : Int} {m : Nat} (h : K.Of (ownL n t R m) (ownL n t R m).length) (hk : HtKOk K) (hr : K.room = 50) (hb : okB n t R) : OwK K n t R m := by
  have hl := ownL_len n t R m
  have hc : ∀ f, f < m → K.cls (f + 1) = leafC n t R := fun f hf => ownL_leaf (h.cls (f + 1) (by omega))
  have h0 : K.cls 0 = rootC n t := (Option.some.inj (h.cls 0 (by omega))).symm
  refine ⟨hk, h.n.trans hl, h0, hc, fun f hf => ?_, hr, hb⟩
  cases hi : K.inner (f + 1) with
  | false => rfl
  | true =>
    obtain ⟨j, hj, hp⟩ := (h.inner (f + 1)).1 hi
    cases j with
    | zero => rw [h0] at hp; unfold rootC at hp; simp only at hp; omega
    | succ j => rw [hc j (by omega)] at hp; unfold leafC at hp; simp only at hp; omega
theorem OwK.way {K : HtK} {n t R : Int} {m f : Nat} (h : OwK K n t R m) (hf : f < m) : hL K (some (f + 1)) = [f + 1, 0] := by
  have e1 : hUp K (f + 1) = some 0 := by unfold hUp; rw [h.cl f hf]; rfl
  have e0 : hUp K 0 = none := by unfold hUp; rw [h.c0]; rfl
  have hN := h.N
  rw [hL_some h.ok (by omega), e1, hL_some h.ok (by omega), e0]
  rfl
theorem pas_ge {n t R lev lat now : Int} (hn : 0 ≤ n) (hl : lev ≤ R * t) : lev ≤ pas n t R lev lat now := by
  unfold pas
  split
  · omega
  · split
    · have := Int.mul_nonneg (show (0 : Int) ≤ now - lat by omega) hn
      omega
    · exact hl
theorem lat1_le {lat now : Int} (h : lat ≤ now) : lat1 lat now = now := by unfold lat1; split <;> omega
theorem bestM_one {K : HtK} {s : HtS} {now : Int} {N g : Nat} {o : Ofr} (ho : offM K s now g = some o) (hno : ∀ j, j < N → j ≠ g → offM K s now j = none) : ∀ i, i ≤ N → bestM K s now i = if g < i then some o else none := by
  intro i
  induction i with
  | zero => intro _; rfl
  | succ i ih =>
    intro hi
    have hb := ih (by omega)
    unfold bestM
    by_cases e : i = g
    · subst e
      rw [ho, hb, if_neg (Nat.lt_irrefl _), if_pos (Nat.lt_succ_self _)]
    · rw [hno i (by omega) e]
      show bestM K s now i = _
      rw [hb]
      by_cases h2 : g < i
      · rw [if_pos h2, if_pos (by omega)]
      · rw [if_neg h2, if_neg (by omega)]
theorem ceils_R {K : HtK} {now x : Int} : ∀ (l : List Nat) (s : HtS) (j : Nat), ((l.foldl (ceilT K now x) s).nd j).rl = (s.nd j).rl ∧ ((l.foldl (ceilT K now x) s).nd j).ra = (s.nd j).ra := by
  intro l
  induction l with
  | nil => intro s j; exact ⟨rfl, rfl⟩
  | cons m r ih =>
    intro s j
    obtain ⟨e1, e2⟩ := ih (ceilT K now x s m) j
    have e : (m :: r).foldl (ceilT K now x) s = r.foldl (ceilT K now x) (ceilT K now x s m) := rfl
    rw [e, e1, e2]
    unfold ceilT updN
    simp only
    split
    · subst j; exact ⟨rfl, rfl⟩
    · exact ⟨rfl, rfl⟩
theorem rates_at {K : HtK} {now x : Int} : ∀ (l : List Nat) (s : HtS) (j : Nat), l.Nodup → ((l.foldl (rateT K now x) s).nd j).rl = (if j ∈ l then drw (K.cls j).rt (pas (K.cls j).rn (K.cls j).rt (K.cls j).rR (s.nd j).rl (s.nd j).ra now) (min x (hasR K s now j)) else (s.nd j).rl) ∧ ((l.foldl (rateT K now x) s).nd j).ra = (if j ∈ l then lat1 (s.nd j).ra now else (s.nd j).ra) := by
  intro l
  induction l with
  | nil => intro s j _; simp
  | cons m r ih =>
    intro s j hn
    obtain ⟨h1, h2⟩ := List.nodup_cons.1 hn
    obtain ⟨e1, e2⟩ := ih (rateT K now x s m) j h2
    have e : (m :: r).foldl (rateT K now x) s = r.foldl (rateT K now x) (rateT K now x s m) := rfl
    rw [e, e1, e2]
    by_cases hj : j = m
    · subst hj
      rw [if_neg h1, if_neg h1, if_pos (by simp), if_pos (by simp)]
      have e3 : (rateT K now x s j).nd j = { s.nd j with rl := drw (K.cls j).rt (pas (K.cls j).rn (K.cls j).rt (K.cls j).rR (s.nd j).rl (s.nd j).ra now) (min x (hasR K s now j)), ra := lat1 (s.nd j).ra now } := updN_same _ _ _
      rw [e3]
      exact ⟨rfl, rfl⟩
    · have e3 : (rateT K now x s m).nd j = s.nd j := updN_ne hj
      have e5 : hasR K (rateT K now x s m) now j = hasR K s now j := by unfold hasR; rw [e3]
      rw [e3, e5]
      have e4 : j ∈ m :: r ↔ j ∈ r := by simp [hj]
      simp only [e4, and_self]
theorem popN_nd (s : HtS) (i j : Nat) : ((popN s i).nd j).rl = (s.nd j).rl ∧ ((popN s i).nd j).ra = (s.nd j).ra ∧ ((popN s i).nd j).cl = (s.nd j).cl ∧ ((popN s i).nd j).ca = (s.nd j).ca := by
  unfold popN updN
  simp only
  split
  · subst j; exact ⟨rfl, rfl, rfl, rfl⟩
  · exact ⟨rfl, rfl, rfl, rfl⟩
theorem addN_nd (s : HtS) (i j : Nat) (x : Hd) : ((addN s i x).nd j).rl = (s.nd j).rl ∧ ((addN s i x).nd j).ra = (s.nd j).ra ∧ ((addN s i x).nd j).cl = (s.nd j).cl ∧ ((addN s i x).nd j).ca = (s.nd j).ca := by
  unfold addN updN
  simp only
  split
  · subst j; exact ⟨rfl, rfl, rfl, rfl⟩
  · exact ⟨rfl, rfl, rfl, rfl⟩
theorem addN_L (s : HtS) (i j : Nat) (x : Hd) : ((addN s i x).nd j).L = if j = i then (s.nd i).L ++ [x] else (s.nd j).L := by
  unfold addN updN
  simp only
  split <;> rfl
theorem HtI.empty {K : HtK} {t : Int} {n : Nat} {s : HtS} (h : HtI K t n s) (he : ∀ c, c < K.N → (s.nd c).L = []) : HtI K t 0 s := ⟨h.tm, h.t0, h.rate, h.ceil, fun i hi => by rw [he i hi]; simp, h.inner⟩
/-- What is so between two packets: nobody waits; each leaf's Rate is where Conform is behind its packets so far; each Ceil holds enough. -/
structure OI (K : HtK) (n t R : Int) (m : Nat) (T : Int) (k : Nat) (W : Nat → List It) (cnt : Nat → Nat) (s : HtS) : Prop where
  hi : HtI K T 0 s
  emp : ∀ c, c < K.N → (s.nd c).L = []
  rate : ∀ f, f < m → ∀ now, T ≤ now → pas n t R (s.nd (f + 1)).rl (s.nd (f + 1)).ra now = pas n t R (bst n t R (W f) (cnt f)).1 (bst n t R (W f) (cnt f)).2 now
  ceil : ∀ c, c < K.N → 1000000 - 10000 * (k : Int) ≤ (s.nd c).cl
theorem OI.start {K : HtK} {n t R : Int} {m : Nat} (hK : OwK K n t R m) (W : Nat → List It) (hI : HtI K 0 0 ⟨nd0 K, 0, 0⟩) : OI K n t R m 0 0 W (fun _ => 0) ⟨nd0 K, 0, 0⟩ := by
  refine ⟨hI, fun _ _ => rfl, fun f hf now _ => ?_, fun c hc => ?_⟩
  · have e : (nd0 K (f + 1)).rl = R * t ∧ (nd0 K (f + 1)).ra = 0 := by unfold nd0; rw [hK.cl f hf]; exact ⟨rfl, rfl⟩
    show pas n t R (nd0 K (f + 1)).rl (nd0 K (f + 1)).ra now = _
    rw [e.1, e.2]
    rfl
  · have e : (nd0 K c).cl = 1000000 := by
      have hN := hK.N
      unfold nd0
      cases c with
      | zero => rw [hK.c0]; rfl
      | succ c => rw [hK.cl c (by omega)]; rfl
    show _ ≤ (nd0 K c).cl
    omega
theorem OI.skip {K : HtK} {n t R : Int} {m : Nat} (hK : OwK K n t R m) {T : Int} {k : Nat} {W : Nat → List It} {cnt : Nat → Nat} {s : HtS} (h : OI K n t R m T k W cnt s) {f : Nat} {x : It} (hx : (W f)[cnt f]? = some x) (hno : bok n t R (W f) (cnt f) = false) (ht : T ≤ x.a) :
    OI K n t R m x.a (k + 1) W (updF cnt f (cnt f + 1)) s := by
  refine ⟨h.hi.later ht, h.emp, fun f' hf' now hn => ?_, fun c hc => by have := h.ceil c hc; omega⟩
  rw [h.rate f' hf' now (by omega)]
  by_cases e : f' = f
  · subst e
    rw [updF_same, bst_succ hx]
    rw [bok_at hx] at hno
    rw [if_neg (of_decide_eq_false hno)]
    exact (pas_again hK.okb.1.1 hn).symm
  · rw [updF_ne e]
theorem OI.step {K : HtK} {n t R : Int} {m : Nat} (hK : OwK K n t R m) {T : Int} {k : Nat} {W : Nat → List It} {cnt : Nat → Nat} {s : HtS} (h : OI K n t R m T k W cnt s) {f : Nat} {x : It} (hf : f < m) (hW : Fine (W f)) (hx : (W f)[cnt f]? = some x) (hyes : bok n t R (W f) (cnt f) = true) (ht : T ≤ x.a) (hk : k < 40)
    (hd : Hd) (hl : hd.l = x.l) (hff : hd.f = ((f + 1 : Nat) : Int)) :
    putH K s hd = (addN s (f + 1) hd, []) ∧ HtI K T 1 (addN s (f + 1) hd) ∧ ∃ s2, takeH K (addN s (f + 1) hd) x.a = (s2, [], hd, true) ∧ OI K n t R m x.a (k + 1) W (updF cnt f (cnt f + 1)) s2 := by
  have hN := hK.N
  have hfn : hd.f.toNat = f + 1 := by rw [hff]; rfl
  have hxx := (hW _ _ hx).1
  have hway := hK.way hf
  have hcl := hK.cl f hf
  have hokb := hK.okb
  rw [bok_at hx] at hyes
  have hle := of_decide_eq_true hyes
  have hra := h.rate f hf x.a ht
  rw [← hra] at hle
  have hbr := h.hi.rate (f + 1) (by omega)
  rw [hcl] at hbr
  have hbr' : BkOk n t R (s.nd (f + 1)).rl (s.nd (f + 1)).ra s.tm := hbr
  have hpr := pas_room (n := n) (t := t) (R := R) (lev := (s.nd (f + 1)).rl) (lat := (s.nd (f + 1)).ra) (now := x.a) hokb.1.1 hbr'.l0 hbr'.l1
  have hlR : x.l ≤ R := by
    have h1 : x.l * t ≤ R * t := by omega
    exact Int.le_of_mul_le_mul_right h1 (by have := hokb.2.1.1; omega)
  have hin : inB K s hd = true := by
    unfold inB leafB fitB
    rw [hfn, hK.inn f hf, h.emp (f + 1) (by omega), hway, hff, hl, hK.room]
    simp only [List.all_cons, List.all_nil, List.any_cons, List.any_nil, hcl, hK.c0, leafC, rootC, Bool.and_eq_true, Bool.or_eq_true, decide_eq_true_eq, Bool.not_false, List.length_nil]
    refine ⟨⟨⟨⟨by omega, by omega⟩, trivial⟩, by omega⟩, ⟨by omega, by omega, trivial⟩, Or.inl hlR⟩
  have hput : putH K s hd = (addN s (f + 1) hd, []) := by unfold putH; rw [if_pos hin, hfn]
  have hI1 : HtI K T 1 (addN s (f + 1) hd) := by
    have := h.hi.add (x := hd) (by omega) hin
    rw [hfn] at this
    exact this
  refine ⟨hput, hI1, ?_⟩
  obtain ⟨S, hS⟩ : ∃ S, addN s (f + 1) hd = S := ⟨_, rfl⟩
  have hSL : ∀ j, j < K.N → (S.nd j).L = if j = f + 1 then [hd] else [] := fun j hj => by
    rw [← hS, addN_L, h.emp (f + 1) (by omega), h.emp j hj]; rfl
  have hSn : ∀ j, (S.nd j).rl = (s.nd j).rl ∧ (S.nd j).ra = (s.nd j).ra ∧ (S.nd j).cl = (s.nd j).cl ∧ (S.nd j).ca = (s.nd j).ca := fun j => by rw [← hS]; exact addN_nd _ _ _ _
  rw [hS] at hI1 ⊢
  have hST := hI1.tm
  have hIA : HtI K x.a 1 (S.at x.a) := hI1.at (by omega)
  have hpc : ∀ c, c < K.N → 1000000 - 10000 * (k : Int) ≤ pas (K.cls c).cn (K.cls c).ct (K.cls c).cR (s.nd c).cl (s.nd c).ca x.a := fun c hc => by
    have hb := h.hi.ceil c hc
    have h1 := pas_ge (n := (K.cls c).cn) (t := (K.cls c).ct) (R := (K.cls c).cR) (lev := (s.nd c).cl) (lat := (s.nd c).ca) (now := x.a) (by have := hb.ok.1.1; omega) hb.l1
    have h2 := h.ceil c hc
    omega
  have hct : ∀ c, c < K.N → (K.cls c).ct = 1 := fun c hc => by
    cases c with
    | zero => rw [hK.c0]; rfl
    | succ c => rw [hK.cl c (by omega)]; rfl
  have hcap : ∀ c, c < K.N → ¬ hasC K (S.at x.a) x.a c < x.l := fun c hc => by
    have hb : BkOk (K.cls c).cn (K.cls c).ct (K.cls c).cR (S.nd c).cl (S.nd c).ca x.a := hIA.ceil c hc
    have h1 := hpc c hc
    rw [← (hSn c).2.2.1, ← (hSn c).2.2.2] at h1
    have h2 : x.l ≤ hasC K (S.at x.a) x.a c := (hasB_le hb).2 (by rw [hct c hc] at h1 ⊢; omega)
    omega
  have hhasR : x.l ≤ hasR K (S.at x.a) x.a (f + 1) := by
    have hb : BkOk (K.cls (f + 1)).rn (K.cls (f + 1)).rt (K.cls (f + 1)).rR (S.nd (f + 1)).rl (S.nd (f + 1)).ra x.a := hIA.rate (f + 1) (by omega)
    refine (hasB_le hb).2 ?_
    show x.l * (K.cls (f + 1)).rt ≤ pas (K.cls (f + 1)).rn (K.cls (f + 1)).rt (K.cls (f + 1)).rR (S.nd (f + 1)).rl (S.nd (f + 1)).ra x.a
    rw [hcl, (hSn (f + 1)).1, (hSn (f + 1)).2.1]
    exact hle
  have hoff : offM K (S.at x.a) x.a (f + 1) = some ⟨f + 1, f + 1, 0⟩ := by
    have hL : ((S.at x.a).nd (f + 1)).L = [hd] := by rw [show (S.at x.a).nd = S.nd from rfl, hSL (f + 1) (by omega), if_pos rfl]
    unfold offM
    rw [hL]
    simp only
    have hcb : capB K (S.at x.a) x.a hd.l (some (f + 1)) = false := by
      unfold capB
      rw [hway, hl]
      simp only [List.any_cons, List.any_nil, decide_eq_false (hcap (f + 1) (by omega)), decide_eq_false (hcap 0 (by omega))]
      rfl
    rw [hcb, hway, hl]
    simp only [lendL, decide_eq_true hhasR]
    rfl
  have hbest : bestM K (S.at x.a) x.a K.N = some ⟨f + 1, f + 1, 0⟩ := by
    have hb := bestM_one (N := K.N) hoff (fun j hj hne => by
      have hL : ((S.at x.a).nd j).L = [] := by rw [show (S.at x.a).nd = S.nd from rfl, hSL j hj, if_neg hne]
      unfold offM
      rw [hL]) K.N (Nat.le_refl _)
    rw [if_pos (by omega)] at hb
    exact hb
  obtain ⟨_, _, y, r, hy, _, hT⟩ := take_some hK.ok hbest
  rw [hSL (f + 1) (by omega), if_pos rfl] at hy
  obtain ⟨rfl, rfl⟩ : hd = y ∧ [] = r := by simpa using hy
  refine ⟨_, hT, ?_⟩
  obtain ⟨U, hU⟩ : ∃ U, sentN { S.at x.a with gone := IntKind.i64.wrap (S.gone + 1) } (f + 1) (IntKind.i64.wrap (S.gone + 1)) = U := ⟨_, rfl⟩
  show OI K n t R m x.a (k + 1) W (updF cnt f (cnt f + 1)) (sendM K x.a (sentN { S.at x.a with gone := IntKind.i64.wrap (S.gone + 1) } (f + 1) (IntKind.i64.wrap (S.gone + 1))) ⟨f + 1, f + 1, 0⟩)
  have hUn : ∀ j, (U.nd j).rl = (s.nd j).rl ∧ (U.nd j).ra = (s.nd j).ra ∧ (U.nd j).cl = (s.nd j).cl ∧ (U.nd j).ca = (s.nd j).ca ∧ (U.nd j).L = (S.nd j).L := fun j => by
    have h1 := sentN_nd { S.at x.a with gone := IntKind.i64.wrap (S.gone + 1) } (f + 1) (IntKind.i64.wrap (S.gone + 1)) j
    rw [hU] at h1
    have h2 := hSn j
    exact ⟨h1.1.trans h2.1, h1.2.1.trans h2.2.1, h1.2.2.1.trans h2.2.2.1, h1.2.2.2.1.trans h2.2.2.2, h1.2.2.2.2⟩
  have hIU : HtI K x.a 1 U := by rw [← hU]; exact hIA.other rfl (fun j => sentN_nd _ _ _ j)
  have hUt : U.tm = x.a := by rw [← hU]; rfl
  rw [hU]
  have hhd : (hdOr (U.nd (f + 1)).L).l = x.l := by rw [(hUn (f + 1)).2.2.2.2, hSL (f + 1) (by omega), if_pos rfl]; exact hl
  have hnd : (hL K (some (f + 1))).Nodup := hL_nodup hK.ok (f + 1) (by omega)
  have hLs : ∀ c, c < K.N → ((sendM K x.a U ⟨f + 1, f + 1, 0⟩).nd c).L = [] := fun c hc => by
    rw [send_L, (hUn c).2.2.2.2, hSL c hc]
    show (if c = f + 1 then _ else _) = _
    by_cases e : c = f + 1
    · rw [if_pos e, if_pos e]; rfl
    · rw [if_neg e, if_neg e]
  have eS : sendM K x.a U ⟨f + 1, f + 1, 0⟩ = (hL K (some (f + 1))).foldl (rateT K x.a x.l) ((hL K (some (f + 1))).foldl (ceilT K x.a x.l) (popN U (f + 1))) := by
    show (hL K (some (f + 1))).foldl (rateT K x.a (hdOr (U.nd (f + 1)).L).l) ((hL K (some (f + 1))).foldl (ceilT K x.a (hdOr (U.nd (f + 1)).L).l) (popN U (f + 1))) = _
    rw [hhd]
  obtain ⟨c1, c2⟩ := HtI.ceils (K := K) (now := x.a) (x := x.l) (by omega) (hL K (some (f + 1))) _ (hIU.pop (f + 1)) hUt
  have hIS : HtI K x.a 1 (sendM K x.a U ⟨f + 1, f + 1, 0⟩) := by
    rw [eS]
    exact (HtI.rates (by omega) (hL K (some (f + 1))) _ (fun q hq => by have := hL_lt hK.ok (f + 1) (by omega) q hq; omega) c1 c2).1
  have hmem : ∀ c, c ∈ hL K (some (f + 1)) ↔ (c = f + 1 ∨ c = 0) := fun c => by rw [hway]; simp
  refine ⟨hIS.empty hLs, hLs, fun f' hf' now hn => ?_, fun c hc => ?_⟩
  · obtain ⟨r1, r2⟩ := rates_at (K := K) (now := x.a) (x := x.l) (hL K (some (f + 1))) ((hL K (some (f + 1))).foldl (ceilT K x.a x.l) (popN U (f + 1))) (f' + 1) hnd
    obtain ⟨q1, q2⟩ := ceils_R (K := K) (now := x.a) (x := x.l) (hL K (some (f + 1))) (popN U (f + 1)) (f' + 1)
    have hp := popN_nd U (f + 1) (f' + 1)
    rw [q1, q2, hp.1, hp.2.1, (hUn (f' + 1)).1, (hUn (f' + 1)).2.1] at r1
    rw [q2, hp.2.1, (hUn (f' + 1)).2.1] at r2
    rw [eS, r1, r2]
    by_cases e : f' = f
    · subst e
      rw [if_pos ((hmem _).2 (Or.inl rfl)), if_pos ((hmem _).2 (Or.inl rfl)), updF_same, bst_succ hx]
      have hmin : min x.l (hasR K ((hL K (some (f' + 1))).foldl (ceilT K x.a x.l) (popN U (f' + 1))) x.a (f' + 1)) = x.l := by
        have e2 : hasR K ((hL K (some (f' + 1))).foldl (ceilT K x.a x.l) (popN U (f' + 1))) x.a (f' + 1) = hasR K (S.at x.a) x.a (f' + 1) := by
          unfold hasR
          rw [q1, q2, hp.1, hp.2.1, (hUn (f' + 1)).1, (hUn (f' + 1)).2.1, ← (hSn (f' + 1)).1, ← (hSn (f' + 1)).2.1]
          rfl
        rw [e2]
        omega
      have hle' := hle
      rw [hra] at hle'
      have hbl := bst_lat (n := n) (t := t) (R := R) hW (cnt f') (Nat.le_of_lt (List.getElem?_eq_some_iff.1 hx).1)
      have hbl2 := hbl.2 x hx
      have ht1 := hbr'.t1
      have htm := h.hi.tm
      rw [hmin, hcl, if_pos hle']
      show pas n t R (drw t (pas n t R (s.nd (f' + 1)).rl (s.nd (f' + 1)).ra x.a) x.l) (lat1 (s.nd (f' + 1)).ra x.a) now = pas n t R _ (lat1 (bst n t R (W f') (cnt f')).2 x.a) now
      unfold drw
      rw [if_pos hle, hra, lat1_le (by omega), lat1_le hbl2]
    · rw [if_neg (fun hm => by rcases (hmem _).1 hm with h1 | h1 <;> omega), if_neg (fun hm => by rcases (hmem _).1 hm with h1 | h1 <;> omega), updF_ne e]
      exact h.rate f' hf' now (by omega)
  · obtain ⟨a1, a2⟩ := rates_C (K := K) (now := x.a) (x := x.l) (hL K (some (f + 1))) ((hL K (some (f + 1))).foldl (ceilT K x.a x.l) (popN U (f + 1))) c
    obtain ⟨b1, b2⟩ := ceils_at (K := K) (now := x.a) (x := x.l) (hL K (some (f + 1))) (popN U (f + 1)) c hnd
    have hp := popN_nd U (f + 1) c
    rw [hp.2.2.1, hp.2.2.2, (hUn c).2.2.1, (hUn c).2.2.2.1] at b1
    rw [eS, a1, b1]
    have h1 := h.ceil c hc
    have h2 := hpc c hc
    split
    · unfold drw
      rw [hct c hc] at h2 ⊢
      split <;> omega
    · omega
end Go.Proofs.YtpgdocmpbeabpaaDoor
