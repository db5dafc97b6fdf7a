/-
  link.Run's rounds, in plain numbers: what is so ahead of each. Mathematics alone: nothing of the program is claimed here. Conditions: packets and a rate that may be.
  What goes over a wire from whatever queue that loses and makes no packet, as mathematics: each packet that came went, was thrown away, or waits; one at a time, none ahead of its coming. Nothing of the program is claimed here.
  LinkKeeps: the marks of the packets that went or were thrown away; the law's closure that marks one. Conditions: what it reads lies in memory.
-/
import Derived.Test.YtfakjedolecdcaaGreatDoorLk6
import Derived.Test.YtfakjedolecdcaaGreatDoorU8
import Derived.Test.YtfakjedolecdcaaGreatDoorU2
import Derived.Test.YtfakjedolecdcaaGreatDoorSg
import Derived.Deep.OwnRows
import Derived.BigQuiet
namespace Go.Proofs.YtfakjedolecdcaaGreatDoor

theorem ComeI.step' {M : QM} (hM : M.Fine) {C : LkC} (hlen : C.items.length ≤ 100) (hokk : ∀ x ∈ C.items, x.ok = true) {now : Int} (h2 : now ≤ 10000000) {S S' : LkS M.σ} (h : ComeI M C now S S') {x : It} (hx : C.items[S'.put]? = some x) (hle : x.a ≤ now) (hge : now ≤ x.a) : ComeI M C now S (putL M now x S') := by
  obtain ⟨tI, a, b, hi⟩ := h.inv
  have hl := (List.getElem?_eq_some_iff.1 hx).1
  obtain ⟨i1, i2⟩ := hM.iP now (hdIt x S'.put) hi a b (by omega) (hokk x (List.mem_of_getElem? hx)) (by show x.a = now; omega) rfl (by omega)
  refine ⟨⟨now, by omega, Int.le_refl _, i1⟩, ?_, ?_, ?_, ?_, h.keep⟩
  · show S'.put + 1 ≤ _; omega
  · show S.put ≤ S'.put + 1; have := h.ge; omega
  · show (S'.lost ++ _).length ≤ _
    rw [List.length_append, List.length_map]
    have := h.lost
    have := h.ge
    have e : (putL M now x S').put = S'.put + 1 := rfl
    rw [e]
    omega
  · rw [← comeS_one hx hle]; exact h.same
/-- What each that is put in keeps is so behind all. -/
theorem comeS_ind {M : QM} (hM : M.Fine) {C : LkC} (hlen : C.items.length ≤ 100) (hokk : ∀ x ∈ C.items, x.ok = true) {now : Int} (h2 : now ≤ 10000000) {S0 : LkS M.σ} {P : LkS M.σ → Prop} (hge : ∀ j x, S0.put ≤ j → C.items[j]? = some x → now ≤ x.a) (hstep : ∀ S x, P S → ComeI M C now S0 S → C.items[S.put]? = some x → x.a = now → P (putL M now x S)) :
    ∀ (d : Nat) (S : LkS M.σ), C.items.length - S.put ≤ d → ComeI M C now S0 S → P S → P (comeS M C.items now S) ∧ ComeI M C now S0 (comeS M C.items now S) ∧ (∀ x, C.items[(comeS M C.items now S).put]? = some x → now < x.a) := by
  intro d
  induction d with
  | zero =>
    intro S hd hI hP
    have hp : C.items.length ≤ S.put := by omega
    rw [comeS_none hp]
    exact ⟨hP, hI, fun x hx => by rw [List.getElem?_eq_none hp] at hx; cases hx⟩
  | succ d ih =>
    intro S hd hI hP
    by_cases hp : C.items.length ≤ S.put
    · rw [comeS_none hp]
      exact ⟨hP, hI, fun x hx => by rw [List.getElem?_eq_none hp] at hx; cases hx⟩
    · obtain ⟨x, hx⟩ : ∃ x, C.items[S.put]? = some x := ⟨_, List.getElem?_eq_getElem (by omega)⟩
      have hg := hge _ _ hI.ge hx
      by_cases hle : x.a ≤ now
      · rw [comeS_one hx hle]
        exact ih (putL M now x S) (by show _ - (S.put + 1) ≤ d; omega) (hI.step' hM hlen hokk h2 hx hle hg) (hstep S x hP hI hx (by omega))
      · rw [comeS_late hx hle]
        exact ⟨hP, hI, fun y hy => by rw [hx] at hy; obtain rfl := Option.some.inj hy; omega⟩
/-- A round keeps what is so ahead of each, and whatever each of its steps keeps. -/
theorem roundS_ind {M : QM} (hM : M.Fine) {items : List It} (hlen : items.length ≤ 100) (hokk : ∀ x ∈ items, x.ok = true) (hord : (items.map It.a).Pairwise (· ≤ ·)) {n t now : Int} (h2 : now ≤ 10000000) {S : LkS M.σ} (hI : LkI M items S now true) {P : LkS M.σ → Prop} (hP : P S)
    (hput : ∀ S' x tI, P S' → 0 ≤ tI → tI ≤ now → M.inv tI S'.put S'.s → items[S'.put]? = some x → x.a = now → P (putL M now x S'))
    (hmost : ∀ S', P S' → P (mostS M S'))
    (hsend : ∀ S' tI, P S' → 0 ≤ tI → tI ≤ now → M.inv tI S'.put S'.s → S'.put ≤ items.length → P (sentS (sendS M n t now S')))
    (hgoes : ∀ S' tI, P S' → 0 ≤ tI → tI ≤ now → M.inv tI S'.put S'.s → P (goesS M now S').1) :
    P (roundS M items n t now S).1 ∧ LkI M items (roundS M items n t now S).1 (roundS M items n t now S).2.1 (roundS M items n t now S).2.2 := by
  have hn0 := hI.n0 rfl
  obtain ⟨tI, a, b, c⟩ := hI.inv
  have hI0 : ComeI M (LkC.mk default (fun _ => False) 0 0 n t none 0 items) now S S := ⟨⟨tI, a, b rfl, c⟩, hI.put, Nat.le_refl _, by omega, rfl, rfl, rfl, rfl⟩
  obtain ⟨p1, ci, nx⟩ := comeS_ind (C := LkC.mk default (fun _ => False) 0 0 n t none 0 items) hM hlen hokk h2 (P := P) (hI.coming rfl) (fun S' x hp hc hx he => by obtain ⟨tI, a, b, c⟩ := hc.inv; exact hput S' x tI hp a b c hx he) _ S (Nat.le_refl _) hI0 hP
  simp only at p1 ci nx
  have hp1 : (comeS M items now S).put ≤ items.length := ci.put
  have hge1 := ci.ge
  have hlo1 : (comeS M items now S).lost.length ≤ 1000000 * ((comeS M items now S).put + now.toNat) := by have := ci.lost; have := hI.lost rfl; omega
  have hse1 : (comeS M items now S).sent.length ≤ now.toNat := by rw [ci.keep.2.1]; exact hI.sent rfl
  have hinv1 := ci.inv
  unfold roundS
  generalize comeS M items now S = S1 at *
  have p2 := hmost S1 p1
  have hinv2 : ∃ tI, 0 ≤ tI ∧ tI ≤ now ∧ M.inv tI (mostS M S1).put (mostS M S1).s := hinv1
  obtain ⟨sk1, sk2, sk3, sk4, sk5⟩ := sendS_keeps hM (n := n) (t := t) hinv2 h2 (by show S1.put ≤ 1000; omega)
  have p3 : P (sentS (sendS M n t now (mostS M S1))) := by obtain ⟨tI, a, b, c⟩ := hinv2; exact hsend _ tI p2 a b c hp1
  have hsl : (sentS (sendS M n t now (mostS M S1))).sent.length ≤ (sendS M n t now (mostS M S1)).1.sent.length + 1 := by
    show ((sendS M n t now (mostS M S1)).1.sent ++ _).length ≤ _
    rw [List.length_append]
    cases (sendS M n t now (mostS M S1)).2 <;> simp
  have e1 : (sentS (sendS M n t now (mostS M S1))).put = S1.put := sk1
  have e2 : (sentS (sendS M n t now (mostS M S1))).lost.length ≤ S1.lost.length + 1000000 := sk4
  have e3 : (sendS M n t now (mostS M S1)).1.sent = S1.sent := sk2
  have e4 : ∃ tI, 0 ≤ tI ∧ tI ≤ now ∧ M.inv tI (sentS (sendS M n t now (mostS M S1))).put (sentS (sendS M n t now (mostS M S1))).s := sk5
  rw [e3] at hsl
  generalize sentS (sendS M n t now (mostS M S1)) = S4 at *
  obtain ⟨k1, k2, k3, ⟨tJ, k4, k5, k6⟩, k7⟩ := nextS_keeps hM e4 h2 (by omega) (items := items) (by rw [e1]; exact nx) hord
  refine ⟨?_, by rw [k1, e1]; exact hp1, ⟨tJ, k4, fun h => by have := (k7 h).1; omega, k6⟩, fun h => by have := (k7 h).1; omega, fun h j x hj hx => (k7 h).2 j x (by rw [k1] at hj; exact hj) hx, fun h => ?_, fun h => ?_⟩
  · obtain ⟨tI, a, b, c⟩ := e4
    have := hgoes S4 tI p3 a b c
    unfold nextS
    split
    · exact this
    · exact this
  · have := (k7 h).1
    rw [k3, k1, e1]
    omega
  · have := (k7 h).1
    rw [k2]
    omega
/-- So for all rounds. -/
theorem itL_ind {M : QM} (hM : M.Fine) {items : List It} (hl : okL items) {n t u : Int} (hu : u ≤ 10000000) {s0 : M.σ} (h0 : M.inv 0 0 s0) {P : LkS M.σ → Prop} (hP0 : P ⟨s0, 0, 0, [], [], 0⟩)
    (hput : ∀ now S' x tI, now ≤ 10000000 → P S' → 0 ≤ tI → tI ≤ now → M.inv tI S'.put S'.s → items[S'.put]? = some x → x.a = now → P (putL M now x S'))
    (hmost : ∀ S', P S' → P (mostS M S'))
    (hsend : ∀ now S' tI, now ≤ 10000000 → P S' → 0 ≤ tI → tI ≤ now → M.inv tI S'.put S'.s → S'.put ≤ items.length → P (sentS (sendS M n t now S')))
    (hgoes : ∀ now S' tI, now ≤ 10000000 → P S' → 0 ≤ tI → tI ≤ now → M.inv tI S'.put S'.s → P (goesS M now S').1) :
    ∀ k, (∀ j, j < k → goesOn u (itL M items n t s0 j)) → P (itL M items n t s0 k).1 ∧ LkI M items (itL M items n t s0 k).1 (itL M items n t s0 k).2.1 (itL M items n t s0 k).2.2 := by
  intro k
  induction k with
  | zero =>
    intro _
    refine ⟨hP0, Nat.zero_le _, ⟨0, Int.le_refl _, fun _ => Int.le_refl _, h0⟩, fun _ => Int.le_refl _, fun _ j x _ hx => ?_, fun _ => Nat.zero_le _, fun _ => Nat.zero_le _⟩
    have h1 := hl.all.1 x (List.mem_of_getElem? hx)
    simp only [It.ok, Bool.and_eq_true, wth_iff] at h1
    exact h1.1.1.1.1.1
  | succ k ih =>
    intro hon
    obtain ⟨p, hi⟩ := ih (fun j hj => hon j (by omega))
    obtain ⟨hm, hn⟩ := hon k (by omega)
    rw [hm] at hi
    have h2 : (itL M items n t s0 k).2.1 ≤ 10000000 := by omega
    exact roundS_ind hM hl.fine.2 hl.all.1 hl.all.2 h2 hi p (fun S' x tI => hput _ S' x tI h2) hmost (fun S' tI => hsend _ S' tI h2) (fun S' tI => hgoes _ S' tI h2)
end Go.Proofs.YtfakjedolecdcaaGreatDoor
namespace Go.Proofs.YtfakjedolecdcaaGreatDoor
variable {E : Prop}

def it0 : It := ⟨0, 0, 0, 0, 0⟩

/-- The packets that came, by number and bytes. -/
def prs (items : List It) (k : Nat) : List (Int × Int) := (List.range k).map fun (i : Nat) => ((i : Int), (items.getD i it0).l)
theorem prs_succ (items : List It) (k : Nat) : prs items (k + 1) = prs items k ++ [((k : Int), (items.getD k it0).l)] := by
  unfold prs
  rw [List.range_succ, List.map_append]
  rfl
theorem prs_mem {items : List It} {k : Nat} {x : Int × Int} (h : x ∈ prs items k) : ∃ i, i < k ∧ x.1 = (i : Int) ∧ x.2 = (items.getD i it0).l := by
  unfold prs at h
  obtain ⟨i, hi, rfl⟩ := List.mem_map.1 h
  exact ⟨i, List.mem_range.1 hi, rfl, rfl⟩
theorem prs_fst (items : List It) (k : Nat) : (prs items k).map Prod.fst = (List.range k).map fun i => ((i : Nat) : Int) := by
  unfold prs
  rw [List.map_map]
  rfl
/-- When the wire is free ahead of the i-th that went. -/
def frS (l : List Snt) : Nat → Int
  | 0 => 0
  | i + 1 => (l.getD i snt0).t
theorem frS_append (l r : List Snt) : ∀ {i : Nat}, i ≤ l.length → frS (l ++ r) i = frS l i := by
  intro i hi
  cases i with
  | zero => rfl
  | succ i =>
    show ((l ++ r).getD i snt0).t = (l.getD i snt0).t
    rw [List.getD_eq_getElem?_getD, List.getElem?_append_left (by omega), ← List.getD_eq_getElem?_getD]
/-- One that went. -/
structure KwS (items : List It) (n t u : Int) (l : List Snt) (i : Nat) (s : Snt) : Prop where
  num : 0 ≤ s.n ∧ s.n < items.length
  free : frS l i ≤ s.f
  come : (items.getD s.n.toNat it0).a ≤ s.f
  upto : s.f ≤ u
  thru : s.t = s.f + tkL n t (items.getD s.n.toNat it0).l
structure KwJ (M : QM) (cont : M.σ → List (Int × Int)) (items : List It) (n t u : Int) (S : LkS M.σ) : Prop where
  put : S.put ≤ items.length
  all : ∃ A B : List (Int × Int), A.map Prod.fst = S.sent.map Snt.n ∧ B.map Prod.fst = S.lost ∧ (A ++ (B ++ cont S.s)).Perm (prs items S.put)
  come : ∀ j, j < S.put → (items.getD j it0).a ≤ u
  went : ∀ i s, S.sent[i]? = some s → KwS items n t u S.sent i s
  free : frS S.sent S.sent.length ≤ S.free
section
variable {M : QM} {cont : M.σ → List (Int × Int)} {items : List It} {n t u now tI : Int} {S : LkS M.σ}
theorem kw_put (hK : M.Late E cont) (hlen : items.length ≤ 100) (hok : ∀ x ∈ items, x.ok = true) (hnu : now ≤ u) (hu : u ≤ 10000000) (h : KwJ M cont items n t u S) (h0 : 0 ≤ tI) (h1 : tI ≤ now) (hinv : M.inv tI S.put S.s) {x : It} (hx : items[S.put]? = some x) (hxa : x.a = now) : KwJ M cont items n t u (putL M now x S) := by
  have hpl := (List.getElem?_eq_some_iff.1 hx).1
  have hg : items.getD S.put it0 = x := by rw [List.getD_eq_getElem?_getD, hx]; rfl
  have hp := hK.put now (hdIt x S.put) hinv h0 h1 (by omega) (hok x (List.mem_of_getElem? hx)) hxa rfl (by omega)
  obtain ⟨A, B, hA, hB, hAB⟩ := h.all
  refine ⟨by show S.put + 1 ≤ _; omega, ⟨A, B ++ (M.put S.s now (hdIt x S.put)).2.map nl, hA, ?_, ?_⟩, ?_, h.went, h.free⟩
  · show _ = S.lost ++ (M.put S.s now (hdIt x S.put)).2.map Hd.n
    rw [List.map_append, hB, List.map_map]
    rfl
  · show (A ++ (B ++ (M.put S.s now (hdIt x S.put)).2.map nl ++ cont (M.put S.s now (hdIt x S.put)).1)).Perm (prs items (S.put + 1))
    rw [prs_succ, hg]
    have e : nl (hdIt x S.put) = ((S.put : Int), x.l) := rfl
    rw [e] at hp
    rw [List.append_assoc]
    refine ((hp.symm.append_left B).append_left A).trans ?_
    rw [← List.append_assoc B, ← List.append_assoc A]
    exact hAB.append_right _
  · intro j hj
    have hj' : j < S.put + 1 := hj
    by_cases e : j = S.put
    · subst e; rw [hg, hxa]; exact hnu
    · exact h.come j (by omega)
theorem kw_most (h : KwJ M cont items n t u S) : KwJ M cont items n t u (mostS M S) := ⟨h.put, h.all, h.come, h.went, h.free⟩
theorem kw_send (hK : M.Late E cont) (hlen : items.length ≤ 100) (hnu : now ≤ u) (hu : u ≤ 10000000) (h : KwJ M cont items n t u S) (hcm : ∀ j, j < S.put → (items.getD j it0).a ≤ now) (h0 : 0 ≤ tI) (h1 : tI ≤ now) (hinv : M.inv tI S.put S.s) : KwJ M cont items n t u (sentS (sendS M n t now S)) := by
  obtain ⟨A, B, hA, hB, hAB⟩ := h.all
  have hp := hK.take now hinv h0 h1 (by omega) (by have := h.put; omega)
  by_cases hf : now < S.free
  · have e : sentS (sendS M n t now S) = S := by
      unfold sentS sendS
      rw [if_pos hf]
      simp
    rw [e]
    exact h
  · cases hok : (M.take S.s now).2.2.2 with
    | false =>
      have e : sentS (sendS M n t now S) = { S with s := (M.take S.s now).1, lost := S.lost ++ (M.take S.s now).2.1.map Hd.n } := by
        unfold sentS sendS
        rw [if_neg hf, if_neg (by rw [hok]; simp)]
        simp
      rw [e]
      rw [hok] at hp
      simp only [Bool.false_eq_true, if_false, List.nil_append] at hp
      refine ⟨h.put, ⟨A, B ++ (M.take S.s now).2.1.map nl, hA, ?_, ?_⟩, h.come, h.went, h.free⟩
      · show _ = S.lost ++ (M.take S.s now).2.1.map Hd.n
        rw [List.map_append, hB, List.map_map]
        rfl
      · show (A ++ (B ++ (M.take S.s now).2.1.map nl ++ cont (M.take S.s now).1)).Perm (prs items S.put)
        rw [List.append_assoc]
        exact ((hp.symm.append_left B).append_left A).trans hAB
    | true =>
      obtain ⟨x, hx⟩ : ∃ x, (M.take S.s now).2.2.1 = x := ⟨_, rfl⟩
      have e : sentS (sendS M n t now S) = { S with s := (M.take S.s now).1, lost := S.lost ++ (M.take S.s now).2.1.map Hd.n, free := now + tkL n t x.l, sent := S.sent ++ [⟨x.n, now, now + tkL n t x.l, x.m⟩] } := by
        unfold sentS sendS
        rw [if_neg hf, if_pos hok]
        simp [hx]
      rw [e]
      rw [hok, hx] at hp
      simp only [if_true] at hp
      have hmem : nl x ∈ prs items S.put := hAB.mem_iff.1 (List.mem_append_right _ (List.mem_append_right _ (hp.mem_iff.2 (by simp))))
      obtain ⟨j, hj, j1, j2⟩ := prs_mem hmem
      have hj1 : x.n = (j : Int) := j1
      have hj2 : x.l = (items.getD j it0).l := j2
      have hjt : x.n.toNat = j := by omega
      have hpl := h.put
      refine ⟨h.put, ⟨A ++ [nl x], B ++ (M.take S.s now).2.1.map nl, ?_, ?_, ?_⟩, h.come, ?_, ?_⟩
      · show _ = (S.sent ++ [_]).map Snt.n
        rw [List.map_append, List.map_append, hA]
        rfl
      · show _ = S.lost ++ (M.take S.s now).2.1.map Hd.n
        rw [List.map_append, hB, List.map_map]
        rfl
      · show (A ++ [nl x] ++ (B ++ (M.take S.s now).2.1.map nl ++ cont (M.take S.s now).1)).Perm (prs items S.put)
        refine List.Perm.trans ?_ hAB
        rw [List.append_assoc]
        refine List.Perm.append_left A ?_
        refine List.Perm.trans ?_ (hp.symm.append_left B)
        rw [List.append_assoc]
        refine (List.perm_append_comm_assoc _ _ _).trans ?_
        refine List.Perm.append_left B ?_
        exact List.perm_append_comm_assoc _ _ _
      · intro i s hs
        have hs' : (S.sent ++ [⟨x.n, now, now + tkL n t x.l, x.m⟩])[i]? = some s := hs
        show KwS items n t u (S.sent ++ [⟨x.n, now, now + tkL n t x.l, x.m⟩]) i s
        by_cases hi : i < S.sent.length
        · rw [List.getElem?_append_left hi] at hs'
          have := h.went i s hs'
          exact ⟨this.num, by rw [frS_append _ _ (by omega)]; exact this.free, this.come, this.upto, this.thru⟩
        · rw [List.getElem?_append_right (by omega)] at hs'
          have hi2 : i - S.sent.length = 0 := by
            have := (List.getElem?_eq_some_iff.1 hs').1
            simp at this
            omega
          rw [hi2] at hs'
          simp only [List.getElem?_cons_zero, Option.some.injEq] at hs'
          subst hs'
          have hie : i = S.sent.length := by omega
          have hfr := h.free
          refine ⟨⟨by show 0 ≤ x.n; omega, by show x.n < _; omega⟩, ?_, ?_, hnu, ?_⟩
          · rw [frS_append _ _ (by omega), hie]
            show _ ≤ now
            omega
          · show (items.getD x.n.toNat it0).a ≤ now
            rw [hjt]
            exact hcm j hj
          · show now + tkL n t x.l = now + tkL n t (items.getD x.n.toNat it0).l
            rw [hjt, hj2]
      · show frS (S.sent ++ [⟨x.n, now, now + tkL n t x.l, x.m⟩]) (S.sent ++ [_]).length ≤ now + tkL n t x.l
        rw [List.length_append]
        show ((S.sent ++ [_]).getD S.sent.length snt0).t ≤ _
        rw [List.getD_eq_getElem?_getD, List.getElem?_append_right (Nat.le_refl _)]
        simp
theorem kw_goes (hK : M.Late E cont) (hlen : items.length ≤ 100) (hnu : now ≤ u) (hu : u ≤ 10000000) (h : KwJ M cont items n t u S) (h0 : 0 ≤ tI) (h1 : tI ≤ now) (hinv : M.inv tI S.put S.s) : KwJ M cont items n t u (goesS M now S).1 := by
  unfold goesS
  split
  · exact h
  · split
    · exact h
    · have hp := hK.when (now + 1) hinv h0 (by omega) (by omega) (by have := h.put; omega)
      obtain ⟨A, B, hA, hB, hAB⟩ := h.all
      exact ⟨h.put, ⟨A, B, hA, hB, ((hp.symm.append_left B).append_left A).trans hAB⟩, h.come, h.went, h.free⟩
end
/-- The next time is behind. -/
theorem roundS_gt {M : QM} (hM : M.Fine) {items : List It} (hlen : items.length ≤ 100) (hokk : ∀ x ∈ items, x.ok = true) (hord : (items.map It.a).Pairwise (· ≤ ·)) {n t now : Int} (h2 : now ≤ 10000000) {S : LkS M.σ} (hI : LkI M items S now true) (h : (roundS M items n t now S).2.2 = true) : now < (roundS M items n t now S).2.1 := by
  have hn0 := hI.n0 rfl
  obtain ⟨tI, a, b, c⟩ := hI.inv
  have hI0 : ComeI M (LkC.mk default (fun _ => False) 0 0 n t none 0 items) now S S := ⟨⟨tI, a, b rfl, c⟩, hI.put, Nat.le_refl _, by omega, rfl, rfl, rfl, rfl⟩
  obtain ⟨_, ci, nx⟩ := comeS_ind (C := LkC.mk default (fun _ => False) 0 0 n t none 0 items) hM hlen hokk h2 (P := fun _ => True) (hI.coming rfl) (fun _ _ _ _ _ _ => trivial) _ S (Nat.le_refl _) hI0 trivial
  simp only at ci nx
  have hp1 : (comeS M items now S).put ≤ items.length := ci.put
  have hinv1 := ci.inv
  unfold roundS at h ⊢
  generalize comeS M items now S = S1 at *
  have hinv2 : ∃ tI, 0 ≤ tI ∧ tI ≤ now ∧ M.inv tI (mostS M S1).put (mostS M S1).s := hinv1
  obtain ⟨sk1, sk2, sk3, sk4, sk5⟩ := sendS_keeps hM (n := n) (t := t) hinv2 h2 (by show S1.put ≤ 1000; omega)
  have e1 : (sentS (sendS M n t now (mostS M S1))).put = S1.put := sk1
  have e4 : ∃ tI, 0 ≤ tI ∧ tI ≤ now ∧ M.inv tI (sentS (sendS M n t now (mostS M S1))).put (sentS (sendS M n t now (mostS M S1))).s := sk5
  generalize sentS (sendS M n t now (mostS M S1)) = S4 at *
  obtain ⟨k1, k2, k3, _, k7⟩ := nextS_keeps hM e4 h2 (by omega) (items := items) (by rw [e1]; exact nx) hord
  exact (k7 h).1
theorem kw_round {M : QM} (hM : M.Fine) {cont : M.σ → List (Int × Int)} (hK : M.Late E cont) {items : List It} {n t now u : Int} (hl : okL items) (hnu : now ≤ u) (hu : u ≤ 10000000) {S : LkS M.σ} (hI : LkI M items S now true) (hJ : KwJ M cont items n t u S) (hN : ∀ j, j < S.put → (items.getD j it0).a ≤ now) :
    (KwJ M cont items n t u (roundS M items n t now S).1 ∧ ∀ j, j < (roundS M items n t now S).1.put → (items.getD j it0).a ≤ now) ∧ LkI M items (roundS M items n t now S).1 (roundS M items n t now S).2.1 (roundS M items n t now S).2.2 := by
  have hlen := hl.fine.2
  refine roundS_ind hM hlen hl.all.1 hl.all.2 (by omega) hI (P := fun S => KwJ M cont items n t u S ∧ ∀ j, j < S.put → (items.getD j it0).a ≤ now) ⟨hJ, hN⟩ ?_ ?_ ?_ ?_
  · intro S' x tI ⟨p1, p2⟩ h0 h1 hi hx hxa
    refine ⟨kw_put hK hlen hl.all.1 hnu hu p1 h0 h1 hi hx hxa, fun j hj => ?_⟩
    have hj' : j < S'.put + 1 := hj
    by_cases e : j = S'.put
    · subst e
      rw [List.getD_eq_getElem?_getD, hx]
      show x.a ≤ now
      omega
    · exact p2 j (by omega)
  · intro S' ⟨p1, p2⟩
    exact ⟨kw_most p1, p2⟩
  · intro S' tI ⟨p1, p2⟩ h0 h1 hi hp
    refine ⟨kw_send hK hlen hnu hu p1 p2 h0 h1 hi, fun j hj => p2 j ?_⟩
    have e : (sentS (sendS M n t now S')).put = S'.put := by
      show (sendS M n t now S').1.put = S'.put
      unfold sendS
      split
      · rfl
      · split <;> rfl
    rw [e] at hj
    exact hj
  · intro S' tI ⟨p1, p2⟩ h0 h1 hi
    refine ⟨kw_goes hK hlen hnu hu p1 h0 h1 hi, fun j hj => p2 j ?_⟩
    have e : (goesS M now S').1.put = S'.put := by
      unfold goesS
      split
      · rfl
      · split <;> rfl
    rw [e] at hj
    exact hj
theorem kw_run {M : QM} (hM : M.Fine) {cont : M.σ → List (Int × Int)} (hK : M.Late E cont) {items : List It} {n t u : Int} {s0 : M.σ} (hi0 : M.inv 0 0 s0) (hc0 : cont s0 = []) (hl : okL items) (hu : u ≤ 10000000) :
    ∀ k, (∀ j, j < k → goesOn u (itL M items n t s0 j)) → LkI M items (itL M items n t s0 k).1 (itL M items n t s0 k).2.1 (itL M items n t s0 k).2.2 ∧ KwJ M cont items n t u (itL M items n t s0 k).1 ∧ ((itL M items n t s0 k).2.2 = true → ∀ j, j < (itL M items n t s0 k).1.put → (items.getD j it0).a ≤ (itL M items n t s0 k).2.1) := by
  have h0 : ∀ x ∈ items, 0 ≤ x.a := fun x hx => by
    have h1 := hl.all.1 x hx
    simp only [It.ok, Bool.and_eq_true, wth_iff] at h1
    exact h1.1.1.1.1.1
  intro k
  induction k with
  | zero =>
    intro _
    refine ⟨⟨Nat.zero_le _, ⟨0, Int.le_refl _, fun _ => Int.le_refl _, hi0⟩, fun _ => Int.le_refl _, fun _ j x _ hx => h0 x (List.mem_of_getElem? hx), fun _ => Nat.zero_le _, fun _ => Nat.zero_le _⟩, ⟨Nat.zero_le _, ⟨[], [], rfl, rfl, ?_⟩, fun j hj => absurd hj (Nat.not_lt_zero j), fun i s hs => ?_, Int.le_refl _⟩, fun _ j hj => absurd hj (Nat.not_lt_zero j)⟩
    · show ([] ++ ([] ++ cont s0)).Perm (prs items 0)
      rw [hc0]
      exact List.Perm.refl _
    · have hs' : ([] : List Snt)[i]? = some s := hs
      simp at hs'
  | succ k ih =>
    intro hon
    obtain ⟨hI, hJ, hN⟩ := ih (fun j hj => hon j (by omega))
    obtain ⟨hm, hle⟩ := hon k (by omega)
    rw [hm] at hI
    obtain ⟨⟨r1, r2⟩, r3⟩ := kw_round hM hK hl hle hu hI hJ (hN hm)
    refine ⟨r3, r1, fun hm' j hj => ?_⟩
    have h5 := r2 j hj
    have h6 := roundS_gt hM hl.fine.2 hl.all.1 hl.all.2 (by omega) hI hm'
    have h7 : (itL M items n t s0 (k + 1)).2.1 = (roundS M items n t (itL M items n t s0 k).2.1 (itL M items n t s0 k).1).2.1 := rfl
    omega
/-- What the run gives at its end. -/
theorem kw_end {M : QM} (hM : M.Fine) {cont : M.σ → List (Int × Int)} (hK : M.Late E cont) {items : List It} {n t u : Int} {s0 : M.σ} (hi0 : M.inv 0 0 s0) (hc0 : cont s0 = []) (hl : okL items) (hu : u ≤ 10000000) {k : Nat} (hon : ∀ j, j < k → goesOn u (itL M items n t s0 j)) (hoff : ¬ goesOn u (itL M items n t s0 k)) :
    KwJ M cont items n t u (itL M items n t s0 k).1 ∧ (∀ j, j < items.length → ((items.getD j it0).a ≤ u ↔ j < (itL M items n t s0 k).1.put)) ∧ M.len (itL M items n t s0 k).1.s ≤ (cont (itL M items n t s0 k).1.s).length ∧ (E → M.len (itL M items n t s0 k).1.s = (cont (itL M items n t s0 k).1.s).length) := by
  obtain ⟨hI, hJ, _⟩ := kw_run hM hK hi0 hc0 hl hu k hon
  obtain ⟨tI, _, _, hinv⟩ := hI.inv
  refine ⟨hJ, fun j hj => ⟨fun ha => ?_, fun h => hJ.come j h⟩, hK.len hinv, fun e => hK.full e hinv⟩
  refine Decidable.byContradiction fun hp => ?_
  have hx : items[j]? = some (items.getD j it0) := by rw [List.getD_eq_getElem?_getD, List.getElem?_eq_getElem hj]; rfl
  cases hm : (itL M items n t s0 k).2.2 with
  | true =>
    have h1 := hI.coming hm j _ (by omega) hx
    exact hoff ⟨hm, by omega⟩
  | false =>
    cases k with
    | zero => simp [itL] at hm
    | succ k =>
      have hm' : (nextS M items (itL M items n t s0 k).2.1 (sentS (sendS M n t (itL M items n t s0 k).2.1 (mostS M (comeS M items (itL M items n t s0 k).2.1 (itL M items n t s0 k).1))))).2.2 = false := hm
      have hpu : (itL M items n t s0 (k + 1)).1.put = (nextS M items (itL M items n t s0 k).2.1 (sentS (sendS M n t (itL M items n t s0 k).2.1 (mostS M (comeS M items (itL M items n t s0 k).2.1 (itL M items n t s0 k).1))))).1.put := rfl
      rw [hpu] at hp
      generalize sentS (sendS M n t (itL M items n t s0 k).2.1 (mostS M (comeS M items (itL M items n t s0 k).2.1 (itL M items n t s0 k).1))) = S4 at *
      have e : ∀ now, (goesS M now S4).1.put = S4.put := by
        intro now
        unfold goesS
        split
        · rfl
        · split <;> rfl
      unfold nextS at hm' hp
      cases hy : items[S4.put]? with
      | some y => rw [hy] at hm'; simp at hm'
      | none =>
        rw [hy] at hp
        simp only [e] at hp
        rw [List.getElem?_eq_none_iff] at hy
        omega
end Go.Proofs.YtfakjedolecdcaaGreatDoor
namespace Go.Proofs.YtfakjedolecdcaaGreatDoor
open Go.RowKit Go.Extern.Stop Go.Stop Go.Extern

theorem infoBoolK : (Tryz.prog.info? 4).map (fun i => (i.zero, i.size, i.bytes)) = some (some (.bool false), 1, 1) := by kernel_rfl
/-- The marks of those in a list. -/
def OwnK (w : World) (s n : Nat) (T : List Int) : Prop := w.rowIs s 4 n (fun i => .bool (T.contains ((i : Nat) : Int)))
theorem OwnK.lt {w : World} {s n : Nat} {T : List Int} (h : OwnK w s n T) : s < w.heap.size := World.rowIs.lt h
theorem OwnK.below {w w' : World} {s n : Nat} {T : List Int} (h : OwnK w s n T) (hb : Below w.heap.size w w') : OwnK w' s n T := World.rowIs.of_block h (hb.block s h.lt)
theorem OwnK.drewN {w : World} {s n : Nat} {T : List Int} (h : OwnK w s n T) (q : Nat) : OwnK (w.drewN q) s n T := h
theorem OwnK.made (w : World) (n : Nat) : OwnK (w.alloc (.cells (madeCells #[.bool false] n) 4)) w.heap.size n [] := World.rowIs_made w (.bool false) n 4
theorem OwnK.set {w : World} {s n : Nat} {T : List Int} (h : OwnK w s n T) (k : Nat) : OwnK (w.setCell ⟨s, k, none⟩ (.bool true)) s n (T ++ [(k : Int)]) := by
  refine (World.rowIs.set h k (.bool true)).congr fun j hj => ?_
  by_cases e : j = k
  · subst e; simp
  · have e2 : ¬ ((j : Nat) : Int) = (k : Int) := by omega
    rw [if_neg e]
    simp [e2]
theorem make_bools (n : Nat) (h : n ≤ 1000) (w : World) : (Instr.makeSlice 44 (.int .i64 (n : Int)) (.int .i64 (n : Int))).run Tryz.prog w = .ok (.slice (some ⟨w.heap.size, 0, none⟩) n n) (w.alloc (.cells (madeCells #[.bool false] n) 4)) :=
  run_make_row' (P := Tryz.prog) 44 4 (.bool false) 1 Tryz.underlying44 infoBoolK rfl .i64 .i64 n (by omega) (by omega) w
/-- What was sent lies in memory. -/
theorem sentK_at {w : World} {x : Option Addr} {m c : Nat} {l : List Snt} (h : Seg w 49 4 (.slice x m c) m (flt Snt.cs l)) {i : Nat} {s : Snt} (hs : l[i]? = some s) (hm : i < m) : ∃ b off, x = some ⟨b, off, none⟩ ∧ b < w.heap.size ∧ w.cell? ⟨b, off + i * 4, none⟩ = some (.int .i64 s.n) ∧ w.cell? ⟨b, off + i * 4 + 1, none⟩ = some (.int .i64 s.f) ∧ w.cell? ⟨b, off + i * 4 + 2, none⟩ = some (.int .i64 s.t) ∧ w.cell? ⟨b, off + i * 4 + 3, none⟩ = some (.int .i64 s.m) := by
  obtain ⟨b, off, cap, he, _, _, hb, hc⟩ := h.some (by omega)
  simp only [Value.slice.injEq, true_and] at he
  have hat : ∀ j, j < 4 → (flt Snt.cs l)[i * 4 + j]? = (Snt.cs s)[j]? := fun j hj => flt_at Snt.cs 4 Snt.len hs hj
  exact ⟨b, off, he.1, hb, hc (i * 4) _ ((hat 0 (by omega)).trans rfl), by rw [Nat.add_assoc]; exact hc (i * 4 + 1) _ ((hat 1 (by omega)).trans rfl), by rw [Nat.add_assoc]; exact hc (i * 4 + 2) _ ((hat 2 (by omega)).trans rfl), by rw [Nat.add_assoc]; exact hc (i * 4 + 3) _ ((hat 3 (by omega)).trans rfl)⟩
/-- Numbers in memory. -/
theorem insK_at {w : World} {x : Option Addr} {m c : Nat} {l : List Int} (h : Seg w 3 1 (.slice x m c) m (l.map (Value.int .i64))) {i : Nat} {k : Int} (hs : l[i]? = some k) (hm : i < m) : ∃ b off, x = some ⟨b, off, none⟩ ∧ b < w.heap.size ∧ w.cell? ⟨b, off + i, none⟩ = some (.int .i64 k) := by
  obtain ⟨b, off, cap, he, _, _, hb, hc⟩ := h.some (by omega)
  simp only [Value.slice.injEq, true_and] at he
  exact ⟨b, off, he.1, hb, hc i _ (by rw [List.getElem?_map, hs]; rfl)⟩
set_option maxRecDepth 20000 in
set_option maxHeartbeats 2000000 in
/-- One is marked. -/
theorem once_any {bl bs bu g N : Nat} {x : Option Addr} {cap : Nat} {u : Int} {T : List Int} {items : List It} (k : Nat) (w : World) (hl : w.cell? ⟨bl, 0, none⟩ = some (.slice x N cap)) (hs : w.cell? ⟨bs, 0, none⟩ = some (.slice (some ⟨g, 0, none⟩) N N)) (hu : w.cell? ⟨bu, 0, none⟩ = some (.int .i64 u)) (hg : OwnK w g N T) (hit : ItemsAt w x items) (hN : items.length = N) (hk : k < N) (hT : (k : Int) ∉ T) (ha : (items.getD k it0).a ≤ u) :
    Calls Tryz.prog 13 #[.int .i64 (k : Int), .pointer (some ⟨bl, 0, none⟩), .pointer (some ⟨bs, 0, none⟩), .pointer (some ⟨bu, 0, none⟩)] w fun e w' => e = .returned (.bool true) ∧ Hid (Ot (fun j => j = g) w w') ∧ Hid (OwnK w' g N (T ++ [(k : Int)])) := by
  have HG : Hid (OwnK w g N T) := hg
  have hx : items[k]? = some (items.getD k it0) := by rw [List.getD_eq_getElem?_getD, List.getElem?_eq_getElem (by omega)]; rfl
  obtain ⟨b, off, rfl, hb, ci⟩ : ∃ b off, x = some ⟨b, off, none⟩ ∧ b < w.heap.size ∧ w.cell? ⟨b, off + k * 5, none⟩ = some (.int .i64 (items.getD k it0).a) := by
    rcases hit with h | ⟨b, off, h1, h2⟩
    · rw [h] at hN; simp at hN; omega
    · have h3 := (h2 k _ hx).1
      exact ⟨b, off, h1, lt_of_cell h3, h3⟩
  have cs : w.cell? ⟨g, k, none⟩ = some (.bool false) := by
    have h := World.rowIs.cell hg (i := k) hk
    have e : T.contains ((k : Nat) : Int) = false := by simpa using hT
    rw [e] at h
    exact h
  have fs : w.frozen? ⟨g, k, none⟩ = false := World.rowIs.frozen hg k
  have hgl := hg.lt
  obtain ⟨aa, haa⟩ : ∃ aa, (items.getD k it0).a = aa := ⟨_, rfl⟩
  rw [haa] at ci ha
  have d1 : decide ((k : Int) < 0) = false := by simp
  have d2 : decide ((N : Int) ≤ (k : Int)) = false := by simp; omega
  have d3 : decide (u < aa) = false := by simp; omega
  have hki : (k : Int) < (N : Int) := by omega
  clear hg hit hN hx haa hT
  go_enter Tryz.func13, Tryz.ntmps13
  go_wp2
  go_quiet (fail)
  go_wp2
  go_ret
  refine ⟨rfl, ?_, ?_⟩
  · show Ot _ _ _
    repeat' (first | with_reducible exact Ot.refl _ _ | with_reducible refine Ot.drew ?_ | with_reducible refine Ot.drewN ?_ _ | with_reducible refine Ot.setCell ?_ (by simp) _ | with_reducible refine Ot.alloc ?_ _)
  · exact OwnK.set (w := w.drewN _) HG.out k
end Go.Proofs.YtfakjedolecdcaaGreatDoor
