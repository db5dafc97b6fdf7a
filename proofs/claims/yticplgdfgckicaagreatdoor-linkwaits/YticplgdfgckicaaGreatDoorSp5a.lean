/-
  What a shaper over a Fifo lets go, in plain numbers: it keeps its order, goes at the time that When tells, and conforms to its bucket. Mathematics alone: nothing of the program is claimed here. Conditions: a bucket that may be.
-/
import Derived.Test.YticplgdfgckicaaGreatDoorGg
import Derived.Test.YticplgdfgckicaaGreatDoorBkMath
namespace Go.Proofs.YticplgdfgckicaaGreatDoor

/-- What the law counts: the bytes of what was put in, what went, which was the last. -/
structure LwS where
  lens : List Int
  gone : List It
  last : Int
def lens1 (S : LwS) (st : Stp) : List Int := if st.what = 0 then S.lens ++ [st.l] else S.lens
def lwS (S : LwS) (st : Stp) (sn : Sn) : LwS :=
  if 0 ≤ sn.taken then ⟨lens1 S st, S.gone ++ [⟨st.lt, (lens1 S st).getD sn.taken.toNat 0, 0, 0, 0⟩], sn.taken⟩ else ⟨lens1 S st, S.gone, S.last⟩
def lwRun (ts : List Stp) (ss : List Sn) : Nat → LwS
  | 0 => ⟨[], [], -1⟩
  | k + 1 => match ts[k]?, ss[k]? with
    | some st, some sn => lwS (lwRun ts ss k) st sn
    | _, _ => lwRun ts ss k
theorem lwRun_succ {ts : List Stp} {ss : List Sn} {k : Nat} {st : Stp} {sn : Sn} (h1 : ts[k]? = some st) (h2 : ss[k]? = some sn) : lwRun ts ss (k + 1) = lwS (lwRun ts ss k) st sn := by simp only [lwRun, h1, h2]
theorem lwRun_le (ts : List Stp) (ss : List Sn) : ∀ k, (lwRun ts ss k).lens.length ≤ k ∧ (lwRun ts ss k).gone.length ≤ k := by
  intro k
  induction k with
  | zero => exact ⟨Nat.le_refl _, Nat.le_refl _⟩
  | succ k ih =>
    simp only [lwRun]
    split
    · rename_i st sn _ _
      have h1 : (lens1 (lwRun ts ss k) st).length ≤ k + 1 := by
        unfold lens1
        split
        · simp; omega
        · omega
      unfold lwS
      split
      · exact ⟨h1, by simp; omega⟩
      · exact ⟨h1, by show (lwRun ts ss k).gone.length ≤ _; omega⟩
    · omega
/-- What is so ahead of each step. -/
structure ShJ (n t R : Int) (S : LwS) (s : ShS (List Hd)) (nn : Nat) : Prop where
  len : S.lens.length = nn
  last : S.last < nn
  sorted : ((s.hold.toList ++ s.q).map Hd.n).Pairwise (· < ·)
  each : ∀ x ∈ s.hold.toList ++ s.q, S.last < x.n ∧ 0 ≤ x.n ∧ x.n < nn ∧ S.lens[x.n.toNat]? = some x.l ∧ x.ok = true
  gok : ∀ x ∈ S.gone, x.ok = true ∧ x.a ≤ s.lat
  gord : (S.gone.map It.a).Pairwise (· ≤ ·)
  bl : (bst n t R S.gone S.gone.length).2 ≤ s.lat
  lv : s.lev = pas n t R (bst n t R S.gone S.gone.length).1 (bst n t R S.gone S.gone.length).2 s.lat
  ok : ∀ j, j < S.gone.length → bok n t R S.gone j = true
theorem fine_of {l : List It} (hok : ∀ x ∈ l, x.ok = true) (hord : (l.map It.a).Pairwise (· ≤ ·)) : Fine l := by
  intro k x hx
  have h1 := hok x (List.mem_of_getElem? hx)
  simp only [It.ok, Bool.and_eq_true, wth_iff] at h1
  refine ⟨by omega, fun y hy => ?_⟩
  rw [List.pairwise_iff_getElem] at hord
  obtain ⟨hk, rfl⟩ := List.getElem?_eq_some_iff.1 hx
  obtain ⟨hk1, rfl⟩ := List.getElem?_eq_some_iff.1 hy
  have := hord k (k + 1) (by simpa using hk) (by simpa using hk1) (by omega)
  simpa using this
theorem lat1_eq {lat now : Int} (h : lat ≤ now) : lat1 lat now = now := by unfold lat1; split <;> omega
/-- A time later. -/
theorem ShJ.pass {n t R : Int} {S : LwS} {s : ShS (List Hd)} {nn : Nat} (h : ShJ n t R S s nn) (hn : 1 ≤ n) (ht : 1 ≤ t) (hR : 0 ≤ R) {now : Int} (hl : s.lat ≤ now) : pas n t R s.lev s.lat now = pas n t R (bst n t R S.gone S.gone.length).1 (bst n t R S.gone S.gone.length).2 now := by
  have hF := fine_of (fun x hx => (h.gok x hx).1) h.gord
  have hb := bst_lev (n := n) (t := t) (R := R) hF hn ht hR _ (Nat.le_refl _)
  rw [h.lv]
  have e := lat1_eq h.bl
  have := pas_pas (n := n) (t := t) (R := R) (lev := (bst n t R S.gone S.gone.length).1) (lat := (bst n t R S.gone S.gone.length).2) (a := s.lat) (b := now) hn (by rw [e]; exact hl) hb.2
  rw [e] at this
  exact this
theorem ShJ.told {n t R : Int} {S : LwS} {s : ShS (List Hd)} {nn : Nat} (h : ShJ n t R S s nn) (hn : 1 ≤ n) (ht : 1 ≤ t) (hR : 0 ≤ R) {now : Int} (hl : s.lat ≤ now) : ShJ n t R S { s with lev := pas n t R s.lev s.lat now, lat := lat1 s.lat now } nn := by
  have e := lat1_eq hl
  rw [e]
  exact ⟨h.len, h.last, h.sorted, h.each, fun x hx => ⟨(h.gok x hx).1, Int.le_trans (h.gok x hx).2 hl⟩, h.gord, Int.le_trans h.bl hl, h.pass hn ht hR hl, h.ok⟩
/-- Over a Fifo. -/
def lookF (f : Nat) (P Rm : Int) (s : ShS (List Hd)) (now : Int) : ShS (List Hd) := lookS (M := FifoM f P Rm false) s now
theorem lookF_same (f : Nat) (P Rm : Int) (s : ShS (List Hd)) (now : Int) : (lookF f P Rm s now).lev = s.lev ∧ (lookF f P Rm s now).lat = s.lat := lookS_same (M := FifoM f P Rm false) s now
theorem look_list (f : Nat) (P Rm : Int) (s : ShS (List Hd)) (now : Int) : (lookF f P Rm s now).hold.toList ++ (lookF f P Rm s now).q = s.hold.toList ++ s.q := by
  obtain ⟨q, lev, lat, hold⟩ := s
  cases hold with
  | some x => rfl
  | none =>
    cases q with
    | nil => rfl
    | cons x L => rfl
theorem look_J {n t R : Int} {S : LwS} {s : ShS (List Hd)} {nn : Nat} (f : Nat) (P Rm : Int) (h : ShJ n t R S s nn) (now : Int) : ShJ n t R S (lookF f P Rm s now) nn := by
  obtain ⟨e1, e2⟩ := lookF_same f P Rm s now
  have e3 := look_list f P Rm s now
  exact ⟨h.len, h.last, by rw [e3]; exact h.sorted, by rw [e3]; exact h.each, by rw [e2]; exact h.gok, h.gord, by rw [e2]; exact h.bl, by rw [e1, e2]; exact h.lv, h.ok⟩
theorem look_none {f : Nat} {P Rm : Int} {s : ShS (List Hd)} {now : Int} (h : (lookF f P Rm s now).hold = none) : (lookF f P Rm s now).q = [] := by
  obtain ⟨q, lev, lat, hold⟩ := s
  cases hold with
  | some x => simp [lookF, lookS] at h
  | none =>
    cases q with
    | nil => rfl
    | cons x L => simp [lookF, lookS, FifoM] at h
theorem look_again {f : Nat} {P Rm : Int} {s : ShS (List Hd)} {x : Hd} (h : s.hold = some x) (now : Int) : lookF f P Rm s now = s := by
  unfold lookF lookS
  rw [h]
theorem bst_snoc {n t R : Int} (l : List It) (y : It) : bst n t R (l ++ [y]) l.length = bst n t R l l.length := bst_congr _ (fun j hj => by rw [List.getElem?_append_left hj])
theorem bok_snoc {n t R : Int} (l : List It) (y : It) {j : Nat} (hj : j < l.length) : bok n t R (l ++ [y]) j = bok n t R l j := by
  have e : bst n t R (l ++ [y]) j = bst n t R l j := bst_congr j (fun i hi => by rw [List.getElem?_append_left (by omega)])
  unfold bok
  rw [List.getElem?_append_left hj, e]
/-- One goes. -/
theorem ShJ.goes {n t R : Int} {S : LwS} {s : ShS (List Hd)} {nn : Nat} (h : ShJ n t R S s nn) (hn : 1 ≤ n) (ht : 1 ≤ t) (hR : 0 ≤ R) {now : Int} (hl : s.lat ≤ now) (h0 : 0 ≤ now) (h1 : now ≤ 20000000) {x : Hd} (hx : s.hold = some x) (hd : drwB t (pas n t R s.lev s.lat now) x.l = true) :
    (S.last < x.n ∧ 0 ≤ x.n ∧ x.n < nn ∧ S.lens[x.n.toNat]? = some x.l) ∧ ShJ n t R ⟨S.lens, S.gone ++ [⟨now, x.l, 0, 0, 0⟩], x.n⟩ { s with lev := drw t (pas n t R s.lev s.lat now) x.l, lat := lat1 s.lat now, hold := none } nn := by
  have hxe := h.each x (by rw [hx]; simp)
  refine ⟨⟨hxe.1, hxe.2.1, hxe.2.2.1, hxe.2.2.2.1⟩, ?_⟩
  have hs := h.sorted
  rw [hx] at hs
  simp only [Option.toList_some, List.singleton_append, List.map_cons, List.pairwise_cons] at hs
  have hxl := ok_len hxe.2.2.2.2
  have e := lat1_eq hl
  have hp := h.pass hn ht hR hl
  have hd2 : x.l * t ≤ pas n t R s.lev s.lat now := by simpa [drwB] using hd
  have hy : (S.gone ++ [(⟨now, x.l, 0, 0, 0⟩ : It)])[S.gone.length]? = some ⟨now, x.l, 0, 0, 0⟩ := by simp
  have hbs : bst n t R (S.gone ++ [(⟨now, x.l, 0, 0, 0⟩ : It)]) (S.gone.length + 1) = (pas n t R s.lev s.lat now - x.l * t, now) := by
    rw [bst_succ hy, bst_snoc, ← hp, if_pos hd2]
    congr 1
    have := h.bl
    show (if now ≤ (bst n t R S.gone S.gone.length).2 then (bst n t R S.gone S.gone.length).2 else now) = now
    split <;> omega
  have hlen : (S.gone ++ [(⟨now, x.l, 0, 0, 0⟩ : It)]).length = S.gone.length + 1 := by simp
  rw [e]
  refine ⟨h.len, hxe.2.2.1, ?_, ?_, ?_, ?_, ?_, ?_, ?_⟩
  · simpa using hs.2
  · intro y hy
    have hy' : y ∈ s.q := by simpa using hy
    have h2 := h.each y (by simp [hy'])
    exact ⟨hs.1 y.n (List.mem_map.2 ⟨y, hy', rfl⟩), h2.2⟩
  · intro y hy
    rcases List.mem_append.1 hy with hy | hy
    · exact ⟨(h.gok y hy).1, Int.le_trans (h.gok y hy).2 hl⟩
    · simp at hy
      subst hy
      refine ⟨?_, Int.le_refl _⟩
      simp only [It.ok, Bool.and_eq_true, wth_iff]
      omega
  · rw [List.map_append, List.pairwise_append]
    refine ⟨h.gord, by simp, ?_⟩
    intro a ha b hb
    simp only [List.map_cons, List.map_nil, List.mem_singleton] at hb
    obtain ⟨y, hy, rfl⟩ := List.mem_map.1 ha
    have := (h.gok y hy).2
    omega
  · rw [hlen, hbs]; exact Int.le_refl _
  · rw [hlen, hbs]
    show drw t (pas n t R s.lev s.lat now) x.l = pas n t R (pas n t R s.lev s.lat now - x.l * t) now now
    unfold drw
    rw [if_pos hd2]
    show _ = pas n t R _ now now
    unfold pas
    rw [if_pos (Int.le_refl _)]
  · intro j hj
    rw [hlen] at hj
    by_cases hj' : j < S.gone.length
    · rw [bok_snoc _ _ hj']; exact h.ok j hj'
    · obtain rfl : j = S.gone.length := by omega
      rw [bok_at hy, bst_snoc, ← hp]
      simpa using hd2
/-- A step. -/
theorem sh_step {f B : Nat} {P Rm n t R : Int} (hb : okB n t R) {S : LwS} {s : ShS (List Hd)} {nn : Nat} {tt : Int} {st : Stp} (h : ShJ n t R S s nn) (hlat : s.lat ≤ tt) (h0 : 0 ≤ tt) (h1 : tt ≤ st.lt) (h2 : st.lt ≤ 20000000) (hok : st.what = 0 → (hdOf st nn).ok = true) :
    ShJ n t R (lwS S st (stepQ (ShaperM (FifoM f P Rm false) B n t R) s nn st).2) (stepQ (ShaperM (FifoM f P Rm false) B n t R) s nn st).1.1 (stepQ (ShaperM (FifoM f P Rm false) B n t R) s nn st).1.2 ∧ (0 ≤ (stepQ (ShaperM (FifoM f P Rm false) B n t R) s nn st).2.taken → S.last < (stepQ (ShaperM (FifoM f P Rm false) B n t R) s nn st).2.taken ∧ (stepQ (ShaperM (FifoM f P Rm false) B n t R) s nn st).2.taken < (lens1 S st).length) := by
  obtain ⟨⟨hn, _⟩, ⟨ht, _⟩, hR, _⟩ := hb
  by_cases hw : st.what = 0
  · have hstep : stepQ (ShaperM (FifoM f P Rm false) B n t R) s nn st = ((((putS (M := FifoM f P Rm false) R s st.lt (hdOf st nn)).1 : ShS (List Hd)), nn + 1), ⟨-1, 0, -1, lenS (M := FifoM f P Rm false) (putS (M := FifoM f P Rm false) R s st.lt (hdOf st nn)).1, bytesS (M := FifoM f P Rm false) (putS (M := FifoM f P Rm false) R s st.lt (hdOf st nn)).1, (putS (M := FifoM f P Rm false) R s st.lt (hdOf st nn)).2.map Hd.n⟩) := by simp only [stepQ, if_pos hw]; rfl
    rw [hstep]
    have hneg : ¬ (0 : Int) ≤ -1 := by decide
    refine ⟨?_, fun h => absurd h hneg⟩
    have e1 : lens1 S st = S.lens ++ [st.l] := by unfold lens1; rw [if_pos hw]
    unfold lwS
    rw [if_neg hneg, e1]
    have hold : ∀ x ∈ s.hold.toList ++ s.q, S.last < x.n ∧ 0 ≤ x.n ∧ x.n < (nn + 1 : Nat) ∧ (S.lens ++ [st.l])[x.n.toNat]? = some x.l ∧ x.ok = true := by
      intro x hx
      obtain ⟨a1, a2, a3, a4, a5⟩ := h.each x hx
      exact ⟨a1, a2, by omega, by rw [List.getElem?_append_left (List.getElem?_eq_some_iff.1 a4).1]; exact a4, a5⟩
    have hlen : (S.lens ++ [st.l]).length = nn + 1 := by rw [List.length_append, h.len]; rfl
    have hlast := h.last
    show ShJ n t R _ (putS (M := FifoM f P Rm false) R s st.lt (hdOf st nn)).1 (nn + 1)
    unfold putS
    split
    · exact ⟨hlen, by show S.last < ((nn + 1 : Nat) : Int); omega, h.sorted, hold, h.gok, h.gord, h.bl, h.lv, h.ok⟩
    · show ShJ n t R _ { s with q := (putF P Rm false s.q (hdOf st nn)).2 } (nn + 1)
      have hq : (putF P Rm false s.q (hdOf st nn)).2 = s.q ∨ (putF P Rm false s.q (hdOf st nn)).2 = s.q ++ [hdOf st nn] := by
        unfold putF
        simp only [Bool.false_eq_true, if_false]
        split
        · exact Or.inl rfl
        · exact Or.inr rfl
      rcases hq with e | e
      · rw [e]
        exact ⟨hlen, by show S.last < ((nn + 1 : Nat) : Int); omega, h.sorted, hold, h.gok, h.gord, h.bl, h.lv, h.ok⟩
      · rw [e]
        refine ⟨hlen, by show S.last < ((nn + 1 : Nat) : Int); omega, ?_, ?_, h.gok, h.gord, h.bl, h.lv, h.ok⟩
        · rw [← List.append_assoc, List.map_append, List.pairwise_append]
          refine ⟨h.sorted, by simp, ?_⟩
          intro a ha b hb
          simp only [List.map_cons, List.map_nil, List.mem_singleton] at hb
          obtain ⟨y, hy, rfl⟩ := List.mem_map.1 ha
          have := (h.each y hy).2.2.1
          subst hb
          exact this
        · intro x hx
          rw [← List.append_assoc] at hx
          rcases List.mem_append.1 hx with hx | hx
          · exact hold x hx
          · simp only [List.mem_singleton] at hx
            subst hx
            refine ⟨?_, by show (0 : Int) ≤ (nn : Int); omega, by show (nn : Int) < _; omega, ?_, hok hw⟩
            · show S.last < (nn : Int)
              exact hlast
            · show (S.lens ++ [st.l])[((nn : Int)).toNat]? = some st.l
              rw [Int.toNat_natCast, ← h.len]
              simp
  · have e1 : lens1 S st = S.lens := by unfold lens1; rw [if_neg hw]
    have hlk := look_J f P Rm h st.lt
    obtain ⟨e2, e3⟩ := lookF_same f P Rm s st.lt
    have hlat' : (lookF f P Rm s st.lt).lat ≤ st.lt := by rw [e3]; omega
    have hneg : ¬ (0 : Int) ≤ -1 := by decide
    by_cases hw1 : st.what = 1
    · have hstep : stepQ (ShaperM (FifoM f P Rm false) B n t R) s nn st = ((((takeS (M := FifoM f P Rm false) n t R s st.lt).1 : ShS (List Hd)), nn), ⟨if (takeS (M := FifoM f P Rm false) n t R s st.lt).2.2.2 then (takeS (M := FifoM f P Rm false) n t R s st.lt).2.2.1.n else -1, if (takeS (M := FifoM f P Rm false) n t R s st.lt).2.2.2 then (takeS (M := FifoM f P Rm false) n t R s st.lt).2.2.1.m else 0, -1, lenS (M := FifoM f P Rm false) (takeS (M := FifoM f P Rm false) n t R s st.lt).1, bytesS (M := FifoM f P Rm false) (takeS (M := FifoM f P Rm false) n t R s st.lt).1, (takeS (M := FifoM f P Rm false) n t R s st.lt).2.1.map Hd.n⟩) := by simp only [stepQ, if_neg hw, if_pos hw1]; rfl
      rw [hstep]
      have hT : takeS (M := FifoM f P Rm false) n t R s st.lt = match (lookF f P Rm s st.lt).hold with
        | none => (lookF f P Rm s st.lt, [], hd0, false)
        | some x => if drwB t (pas n t R (lookF f P Rm s st.lt).lev (lookF f P Rm s st.lt).lat st.lt) x.l = true then ({ lookF f P Rm s st.lt with lev := drw t (pas n t R (lookF f P Rm s st.lt).lev (lookF f P Rm s st.lt).lat st.lt) x.l, lat := lat1 (lookF f P Rm s st.lt).lat st.lt, hold := none }, [], x, true) else ({ lookF f P Rm s st.lt with lev := drw t (pas n t R (lookF f P Rm s st.lt).lev (lookF f P Rm s st.lt).lat st.lt) x.l, lat := lat1 (lookF f P Rm s st.lt).lat st.lt }, [], hd0, false) := by
        rw [e2, e3]; rfl
      rw [hT]
      generalize lookF f P Rm s st.lt = s1 at *
      cases hh : s1.hold with
      | none =>
        simp only [Bool.false_eq_true, if_false]
        refine ⟨?_, fun h => absurd h hneg⟩
        unfold lwS
        rw [if_neg hneg, e1]
        exact hlk
      | some x =>
        simp only
        cases hd : drwB t (pas n t R s1.lev s1.lat st.lt) x.l with
        | true =>
          obtain ⟨⟨g1, g2, g3, g4⟩, g5⟩ := hlk.goes hn ht hR hlat' (by omega) h2 hh hd
          simp only [if_true]
          unfold lwS
          simp only [if_pos g2, e1]
          rw [List.getD_eq_getElem?_getD, g4]
          exact ⟨g5, fun _ => ⟨g1, by rw [h.len]; exact g3⟩⟩
        | false =>
          simp only [Bool.false_eq_true, if_false]
          refine ⟨?_, fun h => absurd h hneg⟩
          unfold lwS
          rw [if_neg hneg, e1]
          have e4 : drw t (pas n t R s1.lev s1.lat st.lt) x.l = pas n t R s1.lev s1.lat st.lt := by
            unfold drw
            rw [if_neg (by simpa [drwB] using hd)]
          rw [e4]
          exact hlk.told hn ht hR hlat'
    · have hstep : stepQ (ShaperM (FifoM f P Rm false) B n t R) s nn st = ((((whenS (M := FifoM f P Rm false) n t R s st.lt).1 : ShS (List Hd)), nn), ⟨-1, 0, if (whenS (M := FifoM f P Rm false) n t R s st.lt).2.2 then (whenS (M := FifoM f P Rm false) n t R s st.lt).2.1 else -1, lenS (M := FifoM f P Rm false) (whenS (M := FifoM f P Rm false) n t R s st.lt).1, bytesS (M := FifoM f P Rm false) (whenS (M := FifoM f P Rm false) n t R s st.lt).1, []⟩) := by simp only [stepQ, if_neg hw, if_neg hw1]; rfl
      rw [hstep]
      refine ⟨?_, fun h => absurd h hneg⟩
      unfold lwS
      rw [if_neg hneg, e1]
      show ShJ n t R _ (whenS (M := FifoM f P Rm false) n t R s st.lt).1 nn
      have hT : whenS (M := FifoM f P Rm false) n t R s st.lt = match (lookF f P Rm s st.lt).hold with
        | none => (lookF f P Rm s st.lt, st.lt, !(lookF f P Rm s st.lt).q.isEmpty)
        | some x => if x.l ≤ R then ({ lookF f P Rm s st.lt with lev := pas n t R (lookF f P Rm s st.lt).lev (lookF f P Rm s st.lt).lat st.lt, lat := lat1 (lookF f P Rm s st.lt).lat st.lt }, whn n t (pas n t R (lookF f P Rm s st.lt).lev (lookF f P Rm s st.lt).lat st.lt) (lat1 (lookF f P Rm s st.lt).lat st.lt) x.l, true) else ({ lookF f P Rm s st.lt with lev := pas n t R (lookF f P Rm s st.lt).lev (lookF f P Rm s st.lt).lat st.lt, lat := lat1 (lookF f P Rm s st.lt).lat st.lt }, 0, false) := by
        rw [e2, e3]; rfl
      rw [hT]
      generalize lookF f P Rm s st.lt = s1 at *
      cases hh : s1.hold with
      | none => exact hlk
      | some x =>
        simp only
        have := hlk.told hn ht hR hlat'
        split
        · exact this
        · exact this
/-- Where When tells a time, Take gives from that time on. -/
theorem when_take {f : Nat} {P Rm n t R : Int} (hb : okB n t R) {s : ShS (List Hd)} {t1 t2 : Int} (hlat : s.lat ≤ t1) (hl0 : 0 ≤ s.lev) (hl1 : s.lev ≤ R * t) (h12 : t1 ≤ t2) (hok : (whenS (M := FifoM f P Rm false) n t R s t1).2.2 = true) :
    (takeS (M := FifoM f P Rm false) n t R (whenS (M := FifoM f P Rm false) n t R s t1).1 t2).2.2.2 = decide ((whenS (M := FifoM f P Rm false) n t R s t1).2.1 ≤ t2) := by
  obtain ⟨⟨hn, _⟩, ⟨ht, _⟩, hR, _⟩ := hb
  obtain ⟨e2, e3⟩ := lookF_same f P Rm s t1
  have hT : whenS (M := FifoM f P Rm false) n t R s t1 = match (lookF f P Rm s t1).hold with
    | none => (lookF f P Rm s t1, t1, !(lookF f P Rm s t1).q.isEmpty)
    | some x => if x.l ≤ R then ({ lookF f P Rm s t1 with lev := pas n t R s.lev s.lat t1, lat := lat1 s.lat t1 }, whn n t (pas n t R s.lev s.lat t1) (lat1 s.lat t1) x.l, true) else ({ lookF f P Rm s t1 with lev := pas n t R s.lev s.lat t1, lat := lat1 s.lat t1 }, 0, false) := rfl
  rw [hT] at hok ⊢
  cases hh : (lookF f P Rm s t1).hold with
  | none =>
    rw [hh] at hok
    have := look_none hh
    simp [this] at hok
  | some x =>
    rw [hh] at hok
    simp only at hok ⊢
    by_cases hr : x.l ≤ R
    · simp only [if_pos hr]
      have el := lat1_eq hlat
      have hp := pas_room (n := n) (t := t) (R := R) (lat := s.lat) (now := t1) hn hl0 hl1
      rw [el, hh]
      generalize pas n t R s.lev s.lat t1 = lv at *
      have e5 : takeS (M := FifoM f P Rm false) n t R ({ q := (lookF f P Rm s t1).q, lev := lv, lat := t1, hold := some x } : ShS (List Hd)) t2 = if drwB t (pas n t R lv t1 t2) x.l = true then (({ q := (lookF f P Rm s t1).q, lev := drw t (pas n t R lv t1 t2) x.l, lat := lat1 t1 t2, hold := none } : ShS (List Hd)), [], x, true) else (({ q := (lookF f P Rm s t1).q, lev := drw t (pas n t R lv t1 t2) x.l, lat := lat1 t1 t2, hold := some x } : ShS (List Hd)), [], hd0, false) := rfl
      refine (congrArg (fun r : ShS (List Hd) × List Hd × Hd × Bool => r.2.2.2) e5).trans ?_
      have hw := whn_bounds (n := n) (t := t) (lev := lv) (lat := t1) (l := x.l) hn
      obtain ⟨w1, w2, w3⟩ := hw
      have hpe := pas_eq (n := n) (t := t) (R := R) (lev := lv) (lat := t1) (now := t2) h12 hp.2
      have hxt : x.l * t ≤ R * t := Int.mul_le_mul_of_nonneg_right hr (by omega)
      have key : (x.l * t ≤ pas n t R lv t1 t2) ↔ whn n t lv t1 x.l ≤ t2 := by
        rw [hpe]
        generalize whn n t lv t1 x.l = z at *
        rw [Int.sub_mul] at w2
        constructor
        · intro h
          by_cases hc : z ≤ t2
          · exact hc
          · exfalso
            have h5 := w3 (by omega)
            rw [Int.sub_mul] at h5
            have h6 : t2 * n ≤ (z - 1) * n := Int.mul_le_mul_of_nonneg_right (by omega) (by omega)
            omega
        · intro h
          have h6 : z * n ≤ t2 * n := Int.mul_le_mul_of_nonneg_right h (by omega)
          omega
      cases hd : drwB t (pas n t R lv t1 t2) x.l with
      | true =>
        have := key.1 (by simpa [drwB] using hd)
        simp [this]
      | false =>
        have h7 : ¬ whn n t lv t1 x.l ≤ t2 := fun h => by
          have := key.2 h
          simp [drwB] at hd
          omega
        simp [h7]
    · simp [hr] at hok
theorem take_nonneg {f : Nat} {P Rm n t R : Int} {S : LwS} {s : ShS (List Hd)} {nn : Nat} (h : ShJ n t R S s nn) (now : Int) : 0 ≤ (takeS (M := FifoM f P Rm false) n t R s now).2.2.1.n := by
  have hlk := look_J f P Rm h now
  have hT : takeS (M := FifoM f P Rm false) n t R s now = match (lookF f P Rm s now).hold with
    | none => (lookF f P Rm s now, [], hd0, false)
    | some x => if drwB t (pas n t R s.lev s.lat now) x.l = true then ({ lookF f P Rm s now with lev := drw t (pas n t R s.lev s.lat now) x.l, lat := lat1 s.lat now, hold := none }, [], x, true) else ({ lookF f P Rm s now with lev := drw t (pas n t R s.lev s.lat now) x.l, lat := lat1 s.lat now }, [], hd0, false) := rfl
  rw [hT]
  cases hh : (lookF f P Rm s now).hold with
  | none => exact Int.le_refl _
  | some x =>
    have := hlk.each x (by rw [hh]; simp)
    simp only
    split
    · exact this.2.1
    · exact Int.le_refl _
end Go.Proofs.YticplgdfgckicaaGreatDoor
