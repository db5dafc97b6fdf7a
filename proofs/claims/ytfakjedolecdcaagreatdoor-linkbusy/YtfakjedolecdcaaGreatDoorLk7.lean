/-
  link.Run's rounds, in plain numbers: what is so ahead of each; what a shaper over a Fifo lets go over a wire conforms to its bucket. Mathematics alone: nothing of the program is claimed here. Conditions: packets and a rate that may be.
-/
import Derived.Test.YtfakjedolecdcaaGreatDoorLk6
import Derived.Test.YtfakjedolecdcaaGreatDoorGp
namespace Go.Proofs.YtfakjedolecdcaaGreatDoor

theorem ComeI.step' {M : QM} (hM : M.Fine) {C : LkC} (hlen : C.items.length ≤ 100) (hokk : ∀ x ∈ C.items, x.ok = true) {now : Int} (h2 : now ≤ 10000000) {S S' : LkS M.σ} (h : ComeI M C now S S') {x : It} (hx : C.items[S'.put]? = some x) (hle : x.a ≤ now) (hge : now ≤ x.a) : ComeI M C now S (putL M now x S') := by
  obtain ⟨tI, a, b, hi⟩ := h.inv
  have hl := (List.getElem?_eq_some_iff.1 hx).1
  obtain ⟨i1, i2⟩ := hM.iP now (hdIt x S'.put) hi a b (by omega) (hokk x (List.mem_of_getElem? hx)) (by show x.a = now; omega) rfl (by omega)
  refine ⟨⟨now, by omega, Int.le_refl _, i1⟩, ?_, ?_, ?_, ?_, h.keep⟩
  · show S'.put + 1 ≤ _; omega
  · show S.put ≤ S'.put + 1; have := h.ge; omega
  · show (S'.lost ++ _).length ≤ _
    rw [List.length_append, List.length_map]
    have := h.lost
    have := h.ge
    have e : (putL M now x S').put = S'.put + 1 := rfl
    rw [e]
    omega
  · rw [← comeS_one hx hle]; exact h.same
/-- What each that is put in keeps is so behind all. -/
theorem comeS_ind {M : QM} (hM : M.Fine) {C : LkC} (hlen : C.items.length ≤ 100) (hokk : ∀ x ∈ C.items, x.ok = true) {now : Int} (h2 : now ≤ 10000000) {S0 : LkS M.σ} {P : LkS M.σ → Prop} (hge : ∀ j x, S0.put ≤ j → C.items[j]? = some x → now ≤ x.a) (hstep : ∀ S x, P S → ComeI M C now S0 S → C.items[S.put]? = some x → x.a = now → P (putL M now x S)) :
    ∀ (d : Nat) (S : LkS M.σ), C.items.length - S.put ≤ d → ComeI M C now S0 S → P S → P (comeS M C.items now S) ∧ ComeI M C now S0 (comeS M C.items now S) ∧ (∀ x, C.items[(comeS M C.items now S).put]? = some x → now < x.a) := by
  intro d
  induction d with
  | zero =>
    intro S hd hI hP
    have hp : C.items.length ≤ S.put := by omega
    rw [comeS_none hp]
    exact ⟨hP, hI, fun x hx => by rw [List.getElem?_eq_none hp] at hx; cases hx⟩
  | succ d ih =>
    intro S hd hI hP
    by_cases hp : C.items.length ≤ S.put
    · rw [comeS_none hp]
      exact ⟨hP, hI, fun x hx => by rw [List.getElem?_eq_none hp] at hx; cases hx⟩
    · obtain ⟨x, hx⟩ : ∃ x, C.items[S.put]? = some x := ⟨_, List.getElem?_eq_getElem (by omega)⟩
      have hg := hge _ _ hI.ge hx
      by_cases hle : x.a ≤ now
      · rw [comeS_one hx hle]
        exact ih (putL M now x S) (by show _ - (S.put + 1) ≤ d; omega) (hI.step' hM hlen hokk h2 hx hle hg) (hstep S x hP hI hx (by omega))
      · rw [comeS_late hx hle]
        exact ⟨hP, hI, fun y hy => by rw [hx] at hy; obtain rfl := Option.some.inj hy; omega⟩
/-- A round keeps what is so ahead of each, and whatever each of its steps keeps. -/
theorem roundS_ind {M : QM} (hM : M.Fine) {items : List It} (hlen : items.length ≤ 100) (hokk : ∀ x ∈ items, x.ok = true) (hord : (items.map It.a).Pairwise (· ≤ ·)) {n t now : Int} (h2 : now ≤ 10000000) {S : LkS M.σ} (hI : LkI M items S now true) {P : LkS M.σ → Prop} (hP : P S)
    (hput : ∀ S' x tI, P S' → 0 ≤ tI → tI ≤ now → M.inv tI S'.put S'.s → items[S'.put]? = some x → x.a = now → P (putL M now x S'))
    (hmost : ∀ S', P S' → P (mostS M S'))
    (hsend : ∀ S' tI, P S' → 0 ≤ tI → tI ≤ now → M.inv tI S'.put S'.s → S'.put ≤ items.length → P (sentS (sendS M n t now S')))
    (hgoes : ∀ S' tI, P S' → 0 ≤ tI → tI ≤ now → M.inv tI S'.put S'.s → P (goesS M now S').1) :
    P (roundS M items n t now S).1 ∧ LkI M items (roundS M items n t now S).1 (roundS M items n t now S).2.1 (roundS M items n t now S).2.2 := by
  have hn0 := hI.n0 rfl
  obtain ⟨tI, a, b, c⟩ := hI.inv
  have hI0 : ComeI M (LkC.mk default (fun _ => False) 0 0 n t none 0 items) now S S := ⟨⟨tI, a, b rfl, c⟩, hI.put, Nat.le_refl _, by omega, rfl, rfl, rfl, rfl⟩
  obtain ⟨p1, ci, nx⟩ := comeS_ind (C := LkC.mk default (fun _ => False) 0 0 n t none 0 items) hM hlen hokk h2 (P := P) (hI.coming rfl) (fun S' x hp hc hx he => by obtain ⟨tI, a, b, c⟩ := hc.inv; exact hput S' x tI hp a b c hx he) _ S (Nat.le_refl _) hI0 hP
  simp only at p1 ci nx
  have hp1 : (comeS M items now S).put ≤ items.length := ci.put
  have hge1 := ci.ge
  have hlo1 : (comeS M items now S).lost.length ≤ 1000000 * ((comeS M items now S).put + now.toNat) := by have := ci.lost; have := hI.lost rfl; omega
  have hse1 : (comeS M items now S).sent.length ≤ now.toNat := by rw [ci.keep.2.1]; exact hI.sent rfl
  have hinv1 := ci.inv
  unfold roundS
  generalize comeS M items now S = S1 at *
  have p2 := hmost S1 p1
  have hinv2 : ∃ tI, 0 ≤ tI ∧ tI ≤ now ∧ M.inv tI (mostS M S1).put (mostS M S1).s := hinv1
  obtain ⟨sk1, sk2, sk3, sk4, sk5⟩ := sendS_keeps hM (n := n) (t := t) hinv2 h2 (by show S1.put ≤ 1000; omega)
  have p3 : P (sentS (sendS M n t now (mostS M S1))) := by obtain ⟨tI, a, b, c⟩ := hinv2; exact hsend _ tI p2 a b c hp1
  have hsl : (sentS (sendS M n t now (mostS M S1))).sent.length ≤ (sendS M n t now (mostS M S1)).1.sent.length + 1 := by
    show ((sendS M n t now (mostS M S1)).1.sent ++ _).length ≤ _
    rw [List.length_append]
    cases (sendS M n t now (mostS M S1)).2 <;> simp
  have e1 : (sentS (sendS M n t now (mostS M S1))).put = S1.put := sk1
  have e2 : (sentS (sendS M n t now (mostS M S1))).lost.length ≤ S1.lost.length + 1000000 := sk4
  have e3 : (sendS M n t now (mostS M S1)).1.sent = S1.sent := sk2
  have e4 : ∃ tI, 0 ≤ tI ∧ tI ≤ now ∧ M.inv tI (sentS (sendS M n t now (mostS M S1))).put (sentS (sendS M n t now (mostS M S1))).s := sk5
  rw [e3] at hsl
  generalize sentS (sendS M n t now (mostS M S1)) = S4 at *
  obtain ⟨k1, k2, k3, ⟨tJ, k4, k5, k6⟩, k7⟩ := nextS_keeps hM e4 h2 (by omega) (items := items) (by rw [e1]; exact nx) hord
  refine ⟨?_, by rw [k1, e1]; exact hp1, ⟨tJ, k4, fun h => by have := (k7 h).1; omega, k6⟩, fun h => by have := (k7 h).1; omega, fun h j x hj hx => (k7 h).2 j x (by rw [k1] at hj; exact hj) hx, fun h => ?_, fun h => ?_⟩
  · obtain ⟨tI, a, b, c⟩ := e4
    have := hgoes S4 tI p3 a b c
    unfold nextS
    split
    · exact this
    · exact this
  · have := (k7 h).1
    rw [k3, k1, e1]
    omega
  · have := (k7 h).1
    rw [k2]
    omega
/-- So for all rounds. -/
theorem itL_ind {M : QM} (hM : M.Fine) {items : List It} (hl : okL items) {n t u : Int} (hu : u ≤ 10000000) {s0 : M.σ} (h0 : M.inv 0 0 s0) {P : LkS M.σ → Prop} (hP0 : P ⟨s0, 0, 0, [], [], 0⟩)
    (hput : ∀ now S' x tI, now ≤ 10000000 → P S' → 0 ≤ tI → tI ≤ now → M.inv tI S'.put S'.s → items[S'.put]? = some x → x.a = now → P (putL M now x S'))
    (hmost : ∀ S', P S' → P (mostS M S'))
    (hsend : ∀ now S' tI, now ≤ 10000000 → P S' → 0 ≤ tI → tI ≤ now → M.inv tI S'.put S'.s → S'.put ≤ items.length → P (sentS (sendS M n t now S')))
    (hgoes : ∀ now S' tI, now ≤ 10000000 → P S' → 0 ≤ tI → tI ≤ now → M.inv tI S'.put S'.s → P (goesS M now S').1) :
    ∀ k, (∀ j, j < k → goesOn u (itL M items n t s0 j)) → P (itL M items n t s0 k).1 ∧ LkI M items (itL M items n t s0 k).1 (itL M items n t s0 k).2.1 (itL M items n t s0 k).2.2 := by
  intro k
  induction k with
  | zero =>
    intro _
    refine ⟨hP0, Nat.zero_le _, ⟨0, Int.le_refl _, fun _ => Int.le_refl _, h0⟩, fun _ => Int.le_refl _, fun _ j x _ hx => ?_, fun _ => Nat.zero_le _, fun _ => Nat.zero_le _⟩
    have h1 := hl.all.1 x (List.mem_of_getElem? hx)
    simp only [It.ok, Bool.and_eq_true, wth_iff] at h1
    exact h1.1.1.1.1.1
  | succ k ih =>
    intro hon
    obtain ⟨p, hi⟩ := ih (fun j hj => hon j (by omega))
    obtain ⟨hm, hn⟩ := hon k (by omega)
    rw [hm] at hi
    have h2 : (itL M items n t s0 k).2.1 ≤ 10000000 := by omega
    exact roundS_ind hM hl.fine.2 hl.all.1 hl.all.2 h2 hi p (fun S' x tI => hput _ S' x tI h2) hmost (fun S' tI => hsend _ S' tI h2) (fun S' tI => hgoes _ S' tI h2)
/-- What went, as packets. -/
def sIt (items : List It) (s : Snt) : It := ⟨s.f, (items.map It.l).getD s.n.toNat 0, 0, 0, 0⟩
structure LsJ (n t R : Int) (items : List It) (S : LkS (ShS (List Hd))) : Prop where
  ex : ∃ L : LwS, ShJ n t R L S.s S.put ∧ L.lens = (items.take S.put).map It.l ∧ L.gone = S.sent.map (sIt items) ∧ ∀ s ∈ S.sent, s.n ≤ L.last
  inc : (S.sent.map Snt.n).Pairwise (· < ·)
  num : ∀ s ∈ S.sent, 0 ≤ s.n ∧ s.n < items.length
theorem lens_take {items : List It} {k j : Nat} (h : j < k) : ((items.take k).map It.l).getD j 0 = (items.map It.l).getD j 0 := by
  simp only [List.getD_eq_getElem?_getD, List.getElem?_map, List.getElem?_take, if_pos h]
theorem lsJ_run {f B : Nat} {P Rm n t R rn rt u : Int} (hP : 0 ≤ P) (hRm : 0 ≤ Rm) (hRm1 : Rm ≤ 1000000) (hb : okB n t R) {items : List It} (hl : okL items) (hu : u ≤ 10000000) :
    ∀ k, (∀ j, j < k → goesOn u (itL (ShaperM (FifoM f P Rm false) B n t R) items rn rt (⟨[], R * t, 0, none⟩ : ShS (List Hd)) j)) → LsJ n t R items (itL (ShaperM (FifoM f P Rm false) B n t R) items rn rt (⟨[], R * t, 0, none⟩ : ShS (List Hd)) k).1 := by
  have hcalm := fifo_calm f P Rm false hP hRm hRm1
  have hfine := shaperM_fine hcalm B hb
  have hr0 := hb.room
  have hI0 : (ShaperM (FifoM f P Rm false) B n t R).inv 0 0 (⟨[], R * t, 0, none⟩ : ShS (List Hd)) := ⟨⟨Nat.le_refl _, by simp⟩, hr0.1, Int.le_refl _, Int.le_refl _, Int.le_refl _, fun x hx => by simp at hx⟩
  intro k hon
  refine (itL_ind hfine hl hu hI0 (P := fun S => LsJ n t R items S) ⟨⟨⟨[], [], -1⟩, ?_, rfl, rfl, by simp⟩, by simp, by simp⟩ ?_ ?_ ?_ ?_ k hon).1
  · refine ⟨rfl, by show (-1 : Int) < 0; decide, by simp, by simp, by simp, by simp, by simp [bst], ?_, by simp⟩
    simp [bst, pas]
  · intro now S' x tI h2 hp h0 h1 hinv hx hxa
    obtain ⟨⟨L, hJ, hle, hgo, hla⟩, hinc, hnum⟩ := hp
    have hok := hl.all.1 x (List.mem_of_getElem? hx)
    have hs := (sh_step (f := f) (B := B) (P := P) (Rm := Rm) (st := ⟨0, now, x.a, x.l, x.f, x.b, x.m⟩) hb hJ hinv.t1 h0 h1 (by show now ≤ 20000000; omega) (fun _ => hok)).1
    have hneg : ¬ (0 : Int) ≤ -1 := by decide
    refine ⟨⟨_, hs, ?_, ?_, ?_⟩, hinc, hnum⟩
    · show (lwS L _ _).lens = _
      have e : ∀ (st : Stp) (sn : Sn), (lwS L st sn).lens = lens1 L st := fun st sn => by unfold lwS; split <;> rfl
      rw [e]
      show L.lens ++ [x.l] = ((items.take (S'.put + 1)).map It.l)
      rw [hle, List.take_add_one, hx]
      simp
    · show (lwS L _ _).gone = _
      unfold lwS
      rw [if_neg (by simp [stepQ])]
      exact hgo
    · unfold lwS
      rw [if_neg (by simp [stepQ])]
      exact hla
  · intro S' hp
    exact ⟨hp.ex, hp.inc, hp.num⟩
  · intro now S' tI h2 hp h0 h1 hinv hpl
    obtain ⟨⟨L, hJ, hle, hgo, hla⟩, hinc, hnum⟩ := hp
    obtain ⟨hs, hs2⟩ := sh_step (f := f) (B := B) (P := P) (Rm := Rm) (st := ⟨1, now, 0, 0, 0, 0, 0⟩) hb hJ hinv.t1 h0 h1 (by show now ≤ 20000000; omega) (fun h => absurd (show (1 : Int) = 0 from h) (by decide))
    have hnn := take_nonneg (f := f) (P := P) (Rm := Rm) hJ now
    have hlen : ∀ (sn : Sn), lens1 L ⟨1, now, 0, 0, 0, 0, 0⟩ = L.lens := fun _ => rfl
    unfold sendS
    split
    · refine ⟨⟨L, hJ, hle, ?_, ?_⟩, ?_, ?_⟩
      · simp [sentS, hgo]
      · simpa [sentS] using hla
      · simpa [sentS] using hinc
      · simpa [sentS] using hnum
    · split
      · rename_i hok
        have hok' : (takeS (M := FifoM f P Rm false) n t R S'.s now).2.2.2 = true := hok
        have e3 : (stepQ (ShaperM (FifoM f P Rm false) B n t R) S'.s S'.put ⟨1, now, 0, 0, 0, 0, 0⟩).2.taken = (takeS (M := FifoM f P Rm false) n t R S'.s now).2.2.1.n := by
          show (if (takeS (M := FifoM f P Rm false) n t R S'.s now).2.2.2 = true then (takeS (M := FifoM f P Rm false) n t R S'.s now).2.2.1.n else -1) = _
          rw [if_pos hok']
        rw [e3] at hs2
        obtain ⟨g1, g2⟩ := hs2 hnn
        have g2' : (takeS (M := FifoM f P Rm false) n t R S'.s now).2.2.1.n < (S'.put : Int) := by
          have e4 : (lens1 L ⟨1, now, 0, 0, 0, 0, 0⟩).length = S'.put := hJ.len
          rw [e4] at g2
          exact g2
        refine ⟨⟨_, hs, ?_, ?_, ?_⟩, ?_, ?_⟩
        · have e : ∀ (st : Stp) (sn : Sn), (lwS L st sn).lens = lens1 L st := fun st sn => by unfold lwS; split <;> rfl
          rw [e]
          exact hle
        · unfold lwS
          rw [if_pos (by rw [e3]; exact hnn), e3]
          show L.gone ++ [_] = (S'.sent ++ [_]).map (sIt items)
          rw [List.map_append, hgo]
          congr 1
          show [(⟨now, (lens1 L ⟨1, now, 0, 0, 0, 0, 0⟩).getD _ 0, 0, 0, 0⟩ : It)] = [sIt items ⟨(takeS (M := FifoM f P Rm false) n t R S'.s now).2.2.1.n, now, _, _⟩]
          unfold sIt
          rw [hlen ⟨0, 0, 0, 0, 0, []⟩, hle, lens_take (by omega)]
        · unfold lwS
          rw [if_pos (by rw [e3]; exact hnn), e3]
          intro s hs'
          show s.n ≤ (takeS (M := FifoM f P Rm false) n t R S'.s now).2.2.1.n
          rcases List.mem_append.1 hs' with h | h
          · have := hla s h; omega
          · simp only [Option.toList_some, List.mem_singleton] at h
            subst h
            exact Int.le_refl _
        · show ((S'.sent ++ [_]).map Snt.n).Pairwise (· < ·)
          rw [List.map_append, List.pairwise_append]
          refine ⟨hinc, by simp, ?_⟩
          intro a ha b hb'
          obtain ⟨s, hs', rfl⟩ := List.mem_map.1 ha
          simp only [List.map_cons, List.map_nil, List.mem_singleton] at hb'
          subst hb'
          have h9 := hla s hs'
          show s.n < (takeS (M := FifoM f P Rm false) n t R S'.s now).2.2.1.n
          omega
        · intro s hs'
          rcases List.mem_append.1 hs' with h | h
          · exact hnum s h
          · simp only [Option.toList_some, List.mem_singleton] at h
            subst h
            exact ⟨hnn, by show (takeS (M := FifoM f P Rm false) n t R S'.s now).2.2.1.n < _; omega⟩
      · rename_i hok
        have hok' : ¬ (takeS (M := FifoM f P Rm false) n t R S'.s now).2.2.2 = true := hok
        have e3 : (stepQ (ShaperM (FifoM f P Rm false) B n t R) S'.s S'.put ⟨1, now, 0, 0, 0, 0, 0⟩).2.taken = -1 := by
          show (if (takeS (M := FifoM f P Rm false) n t R S'.s now).2.2.2 = true then (takeS (M := FifoM f P Rm false) n t R S'.s now).2.2.1.n else -1) = _
          rw [if_neg hok']
        refine ⟨⟨_, hs, ?_, ?_, ?_⟩, ?_, ?_⟩
        · have e : ∀ (st : Stp) (sn : Sn), (lwS L st sn).lens = lens1 L st := fun st sn => by unfold lwS; split <;> rfl
          rw [e]
          exact hle
        · unfold lwS
          rw [if_neg (by rw [e3]; decide)]
          show L.gone = (S'.sent ++ []).map (sIt items)
          rw [List.append_nil]
          exact hgo
        · unfold lwS
          rw [if_neg (by rw [e3]; decide)]
          simpa [sentS] using hla
        · simpa [sentS] using hinc
        · simpa [sentS] using hnum
  · intro now S' tI h2 hp h0 h1 hinv
    obtain ⟨⟨L, hJ, hle, hgo, hla⟩, hinc, hnum⟩ := hp
    have hs := (sh_step (f := f) (B := B) (P := P) (Rm := Rm) (st := ⟨2, now + 1, 0, 0, 0, 0, 0⟩) hb hJ hinv.t1 h0 (by show tI ≤ now + 1; omega) (by show now + 1 ≤ 20000000; omega) (fun h => absurd (show (2 : Int) = 0 from h) (by decide))).1
    unfold goesS
    split
    · exact ⟨⟨L, hJ, hle, hgo, hla⟩, hinc, hnum⟩
    · split
      · exact ⟨⟨L, hJ, hle, hgo, hla⟩, hinc, hnum⟩
      · refine ⟨⟨_, hs, ?_, ?_, ?_⟩, hinc, hnum⟩
        · have e : ∀ (st : Stp) (sn : Sn), (lwS L st sn).lens = lens1 L st := fun st sn => by unfold lwS; split <;> rfl
          rw [e]
          exact hle
        · unfold lwS
          rw [if_neg (by show ¬ (0 : Int) ≤ -1; decide)]
          exact hgo
        · unfold lwS
          rw [if_neg (by show ¬ (0 : Int) ≤ -1; decide)]
          exact hla
theorem inc_len {N : Int} : ∀ {l : List Int} {a : Int}, l.Pairwise (· < ·) → (∀ x ∈ l, a ≤ x ∧ x < N) → (l.length : Int) ≤ max 0 (N - a) := by
  intro l
  induction l with
  | nil => intro a _ _; simp only [List.length_nil]; omega
  | cons x r ih =>
    intro a hp hb
    rw [List.pairwise_cons] at hp
    have h1 := hb x (by simp)
    have h2 := ih (a := x + 1) hp.2 (fun y hy => ⟨hp.1 y hy, (hb y (by simp [hy])).2⟩)
    simp only [List.length_cons]
    omega
/-- What went is a list that may be, and all of it conforms. -/
theorem LsJ.conf {n t R : Int} {items : List It} {S : LkS (ShS (List Hd))} (h : LsJ n t R items S) (hl : items.length ≤ 100) : S.sent.length ≤ 100 ∧ (∀ x ∈ S.sent.map (sIt items), x.ok = true) ∧ Fine (S.sent.map (sIt items)) ∧ ∀ j, j < S.sent.length → bok n t R (S.sent.map (sIt items)) j = true := by
  obtain ⟨⟨L, hJ, _, hgo, _⟩, hinc, hnum⟩ := h
  have h1 := inc_len (N := items.length) (a := 0) hinc (fun x hx => by obtain ⟨s, hs, rfl⟩ := List.mem_map.1 hx; exact hnum s hs)
  rw [List.length_map] at h1
  refine ⟨by omega, ?_, ?_, ?_⟩
  · rw [← hgo]; exact fun x hx => (hJ.gok x hx).1
  · rw [← hgo]; exact fine_of (fun x hx => (hJ.gok x hx).1) hJ.gord
  · rw [← hgo]; exact fun j hj => hJ.ok j (by rw [hgo, List.length_map]; exact hj)
end Go.Proofs.YtfakjedolecdcaaGreatDoor
