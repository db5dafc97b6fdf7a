/-
  shaper.Shaper over whatever queue, as mathematics: what is held in it, what each call leaves of that, and what stays so. Nothing of the program is claimed here.
  shaper.Shaper over whatever queue: what Put and Take return, and what they leave. Conditions: the queue's methods do what a model of it tells (a premise); a bucket that may be; a level within its room.
-/
import Derived.Test.YtfakjedolecdcaaGreatDoorU19
namespace Go.Proofs.YtfakjedolecdcaaGreatDoor
open Go.RowKit Go.Extern.Stop Go.Stop Go.Extern

/-- What the queue within is. -/
structure QM.Inn (M : QM) (cont : M.σ → List (Int × Int)) (k : Nat) : Prop where
  fine : M.Fine
  late : M.Late False cont
  tame : M.Tame k
  few : k ≤ 20
theorem nodup_few : ∀ (n : Nat) (l : List Int), l.Nodup → (∀ x ∈ l, 0 ≤ x ∧ x < n) → l.length ≤ n := by
  intro n
  induction n with
  | zero =>
    intro l _ h
    cases l with
    | nil => exact Nat.le_refl _
    | cons x r => have := h x (by simp); omega
  | succ n ih =>
    intro l hd h
    by_cases hm : (n : Int) ∈ l
    · have h1 := ih (l.erase (n : Int)) (hd.erase _) (fun x hx => by
        have h2 := (List.Nodup.mem_erase_iff hd).1 hx
        have h3 := h x h2.2
        have h4 := h2.1
        omega)
      rw [List.length_erase_of_mem hm] at h1
      omega
    · have h1 := ih l hd (fun x hx => by
        have h3 := h x hx
        have h4 : x ≠ (n : Int) := fun e => hm (e ▸ hx)
        omega)
      omega
/-- What is held in it: what is lost and not told, what it holds, what its queue holds. -/
def conG {M : QM} (cont : M.σ → List (Int × Int)) (s : SgS M.σ) : List (Int × Int) := s.lost.map nl ++ (s.hold.toList.map nl ++ cont s.q)
/-- What is so of its state. -/
structure SgI (M : QM) (cont : M.σ → List (Int × Int)) (t R : Int) (tt : Int) (nn : Nat) (s : SgS M.σ) : Prop where
  q : M.inv tt nn s.q
  l0 : 0 ≤ s.lev
  l1 : s.lev ≤ R * t
  t0 : 0 ≤ s.lat
  t1 : s.lat ≤ tt
  nd : ((conG cont s).map Prod.fst).Nodup
  rng : ∀ x ∈ conG cont s, 0 ≤ x.1 ∧ x.1 < nn ∧ 1 ≤ x.2 ∧ x.2 ≤ 10000
theorem SgI.few {M : QM} {cont : M.σ → List (Int × Int)} {t R tt : Int} {nn : Nat} {s : SgS M.σ} (h : SgI M cont t R tt nn s) : (conG cont s).length ≤ nn := by
  have := nodup_few nn ((conG cont s).map Prod.fst) h.nd (fun x hx => by
    obtain ⟨y, hy, rfl⟩ := List.mem_map.1 hx
    have := h.rng y hy
    omega)
  simpa using this
theorem SgI.few_lost {M : QM} {cont : M.σ → List (Int × Int)} {t R tt : Int} {nn : Nat} {s : SgS M.σ} (h : SgI M cont t R tt nn s) : s.lost.length ≤ nn := by
  have := h.few
  simp only [conG, List.length_append, List.length_map] at this
  omega
theorem SgI.held {M : QM} {cont : M.σ → List (Int × Int)} {t R tt : Int} {nn : Nat} {s : SgS M.σ} (h : SgI M cont t R tt nn s) {x : Hd} (hx : s.hold = some x) : 1 ≤ x.l ∧ x.l ≤ 10000 := by
  have := h.rng (nl x) (by simp [conG, hx])
  exact ⟨this.2.2.1, this.2.2.2⟩
theorem sg_sub {A C C' : List (Int × Int)} {nn nn' : Nat} (hn : nn ≤ nn') (hp : C.Perm (A ++ C')) (nd : (C.map Prod.fst).Nodup) (rng : ∀ x ∈ C, 0 ≤ x.1 ∧ x.1 < (nn : Int) ∧ 1 ≤ x.2 ∧ x.2 ≤ 10000) : (C'.map Prod.fst).Nodup ∧ ∀ x ∈ C', 0 ≤ x.1 ∧ x.1 < (nn' : Int) ∧ 1 ≤ x.2 ∧ x.2 ≤ 10000 := by
  have h := (hp.map Prod.fst).nodup_iff.1 nd
  rw [List.map_append, List.nodup_append] at h
  exact ⟨h.2.1, fun x hx => by have := rng x (hp.mem_iff.2 (by simp [hx])); omega⟩
theorem lookG_same {M : QM} (s : SgS M.σ) (now : Int) : (lookG s now).lev = s.lev ∧ (lookG s now).lat = s.lat := by
  unfold lookG
  split <;> exact ⟨rfl, rfl⟩
theorem lookG_con {M : QM} {cont : M.σ → List (Int × Int)} {k : Nat} (hM : M.Inn cont k) {tt : Int} {nn : Nat} {s : SgS M.σ} (now : Int) (h : M.inv tt nn s.q) (h0 : 0 ≤ tt) (h1 : tt ≤ now) (h2 : now ≤ 20000000) (hn : nn ≤ 1000) : (conG cont s).Perm (conG cont (lookG s now)) := by
  have hk := hM.late.take now h h0 h1 h2 hn
  unfold lookG
  split
  · exact List.Perm.refl _
  · rename_i hh
    unfold conG
    rw [hh]
    simp only [Option.toList_none, List.map_nil, List.nil_append, List.map_append, List.append_assoc]
    refine List.Perm.append_left _ (hk.trans (List.Perm.append_left _ (List.Perm.append_right _ ?_)))
    split <;> exact List.Perm.refl _
theorem lookG_inv {M : QM} {cont : M.σ → List (Int × Int)} {k : Nat} (hM : M.Inn cont k) {t R tt : Int} {nn : Nat} {s : SgS M.σ} (now : Int) (h : SgI M cont t R tt nn s) (h0 : 0 ≤ tt) (h1 : tt ≤ now) (h2 : now ≤ 20000000) (hn : nn ≤ 1000) : SgI M cont t R now nn (lookG s now) := by
  obtain ⟨e1, e2⟩ := lookG_same s now
  have hc := sg_sub (A := []) (Nat.le_refl nn) (lookG_con hM now h.q h0 h1 h2 hn) h.nd h.rng
  refine ⟨?_, by rw [e1]; exact h.l0, by rw [e1]; exact h.l1, by rw [e2]; exact h.t0, by rw [e2]; exact Int.le_trans h.t1 h1, hc.1, hc.2⟩
  cases hh : s.hold with
  | none =>
    have e : (lookG s now).q = (M.take s.q now).1 := by unfold lookG; rw [hh]
    rw [e]
    exact (hM.fine.iT now h.q h0 h1 h2 hn).1
  | some x =>
    have e : lookG s now = s := by unfold lookG; rw [hh]
    rw [e]
    exact hM.tame.mono h.q h1 (Nat.le_refl _)
def putG {M : QM} (R : Int) (s : SgS M.σ) (now : Int) (x : Hd) : SgS M.σ × List Hd := if R < x.l then (s, [x]) else ({ s with q := (M.put s.q now x).1 }, (M.put s.q now x).2)
def takeG {M : QM} (n t R : Int) (s : SgS M.σ) (now : Int) : SgS M.σ × List Hd × Hd × Bool := match (lookG s now).hold with
  | none => ({ lookG s now with lost := [] }, (lookG s now).lost, hd0, false)
  | some x => if drwB t (pas n t R s.lev s.lat now) x.l = true then ({ lookG s now with lev := drw t (pas n t R s.lev s.lat now) x.l, lat := lat1 s.lat now, hold := none, lost := [] }, (lookG s now).lost, x, true) else ({ lookG s now with lev := drw t (pas n t R s.lev s.lat now) x.l, lat := lat1 s.lat now, lost := [] }, (lookG s now).lost, hd0, false)
def whenG {M : QM} (n t R : Int) (s : SgS M.σ) (now : Int) : SgS M.σ × Int × Bool := match (lookG s now).hold with
  | none => ({ lookG s now with q := (M.when (lookG s now).q now).1 }, (M.when (lookG s now).q now).2.1, (M.when (lookG s now).q now).2.2)
  | some x => if x.l ≤ R then ({ lookG s now with lev := pas n t R s.lev s.lat now, lat := lat1 s.lat now }, whn n t (pas n t R s.lev s.lat now) (lat1 s.lat now) x.l, true) else ({ lookG s now with lev := pas n t R s.lev s.lat now, lat := lat1 s.lat now }, 0, false)
def lenG {M : QM} (s : SgS M.σ) : Int := match s.hold with
  | none => M.len s.q
  | some _ => M.len s.q + 1
def bytesG {M : QM} (s : SgS M.σ) : Int := match s.hold with
  | none => M.bytes s.q
  | some x => M.bytes s.q + x.l
theorem putG_con {M : QM} {cont : M.σ → List (Int × Int)} {k : Nat} (hM : M.Inn cont k) {tt : Int} {nn : Nat} {s : SgS M.σ} (R now : Int) (x : Hd) (h : M.inv tt nn s.q) (h0 : 0 ≤ tt) (h1 : tt ≤ now) (h2 : now ≤ 20000000) (hok : x.ok = true) (hxa : x.a = now) (hxn : x.n = nn) (hn : nn ≤ 1000) : (conG cont s ++ [nl x]).Perm ((putG R s now x).2.map nl ++ conG cont (putG R s now x).1) := by
  unfold putG
  split
  · exact List.perm_append_comm
  · have hp := hM.late.put now x h h0 h1 h2 hok hxa hxn hn
    unfold conG
    simp only [List.append_assoc]
    have a1 : (s.lost.map nl ++ (s.hold.toList.map nl ++ (cont s.q ++ [nl x]))).Perm (s.lost.map nl ++ (s.hold.toList.map nl ++ ((M.put s.q now x).2.map nl ++ cont (M.put s.q now x).1))) := List.Perm.append_left _ (List.Perm.append_left _ hp)
    exact a1.trans ((List.Perm.append_left _ (List.perm_append_comm_assoc _ _ _)).trans (List.perm_append_comm_assoc _ _ _))
theorem takeG_con {M : QM} {cont : M.σ → List (Int × Int)} {k : Nat} (hM : M.Inn cont k) {tt : Int} {nn : Nat} {s : SgS M.σ} (n t R now : Int) (h : M.inv tt nn s.q) (h0 : 0 ≤ tt) (h1 : tt ≤ now) (h2 : now ≤ 20000000) (hn : nn ≤ 1000) : (conG cont s).Perm ((takeG n t R s now).2.1.map nl ++ ((if (takeG n t R s now).2.2.2 then [nl (takeG n t R s now).2.2.1] else []) ++ conG cont (takeG n t R s now).1)) := by
  refine (lookG_con hM now h h0 h1 h2 hn).trans ?_
  unfold takeG
  split
  · rename_i hh
    simp only [conG, hh]
    simp
  · rename_i x hx
    split
    · simp only [conG, hx]
      simp
    · simp only [conG, hx]
      simp
theorem whenG_con {M : QM} {cont : M.σ → List (Int × Int)} {k : Nat} (hM : M.Inn cont k) {t R tt : Int} {nn : Nat} {s : SgS M.σ} (n now : Int) (h : SgI M cont t R tt nn s) (h0 : 0 ≤ tt) (h1 : tt ≤ now) (h2 : now ≤ 20000000) (hn : nn ≤ 1000) : (conG cont s).Perm (conG cont (whenG n t R s now).1) := by
  refine (lookG_con hM now h.q h0 h1 h2 hn).trans ?_
  have hi := lookG_inv hM now h h0 h1 h2 hn
  unfold whenG
  split
  · unfold conG
    exact List.Perm.append_left _ (List.Perm.append_left _ (hM.late.when now hi.q (by omega) (Int.le_refl _) h2 hn))
  · split <;> exact List.Perm.refl _
theorem putG_inv {M : QM} {cont : M.σ → List (Int × Int)} {k : Nat} (hM : M.Inn cont k) {t R tt : Int} {nn : Nat} {s : SgS M.σ} (now : Int) (x : Hd) (h : SgI M cont t R tt nn s) (h0 : 0 ≤ tt) (h1 : tt ≤ now) (h2 : now ≤ 20000000) (hok : x.ok = true) (hxa : x.a = now) (hxn : x.n = nn) (hn : nn ≤ 1000) : SgI M cont t R now (nn + 1) (putG R s now x).1 ∧ (putG R s now x).2.length ≤ 1000000 := by
  have hq := hM.fine.iP now x h.q h0 h1 h2 hok hxa hxn hn
  have hc := putG_con hM R now x h.q h0 h1 h2 hok hxa hxn hn
  have hl := ok_len hok
  have hnd : ((conG cont s ++ [nl x]).map Prod.fst).Nodup := by
    rw [List.map_append, List.nodup_append]
    refine ⟨h.nd, by simp, ?_⟩
    intro a ha b hb
    simp only [List.map_cons, List.map_nil, List.mem_singleton] at hb
    obtain ⟨y, hy, rfl⟩ := List.mem_map.1 ha
    have := (h.rng y hy).2.1
    subst hb
    show y.1 ≠ x.n
    omega
  have hrg : ∀ y ∈ conG cont s ++ [nl x], 0 ≤ y.1 ∧ y.1 < ((nn + 1 : Nat) : Int) ∧ 1 ≤ y.2 ∧ y.2 ≤ 10000 := by
    intro y hy
    rcases List.mem_append.1 hy with hy | hy
    · have := h.rng y hy; omega
    · simp only [List.mem_singleton] at hy
      subst hy
      show 0 ≤ x.n ∧ x.n < _ ∧ 1 ≤ x.l ∧ x.l ≤ 10000
      omega
  have hs := sg_sub (Nat.le_refl (nn + 1)) hc hnd hrg
  revert hs
  unfold putG
  split
  · intro hs
    exact ⟨⟨hM.tame.mono h.q h1 (Nat.le_succ _), h.l0, h.l1, h.t0, Int.le_trans h.t1 h1, hs.1, hs.2⟩, by simp⟩
  · intro hs
    exact ⟨⟨hq.1, h.l0, h.l1, h.t0, Int.le_trans h.t1 h1, hs.1, hs.2⟩, hq.2⟩
theorem takeG_inv {M : QM} {cont : M.σ → List (Int × Int)} {k : Nat} (hM : M.Inn cont k) {n t R tt : Int} (hb : okB n t R) {nn : Nat} {s : SgS M.σ} (now : Int) (h : SgI M cont t R tt nn s) (h0 : 0 ≤ tt) (h1 : tt ≤ now) (h2 : now ≤ 20000000) (hn : nn ≤ 1000) : SgI M cont t R now nn (takeG n t R s now).1 ∧ (takeG n t R s now).2.1.length ≤ 1000000 := by
  have hi := lookG_inv hM now h h0 h1 h2 hn
  have hc := takeG_con hM n t R now h.q h0 h1 h2 hn
  rw [← List.append_assoc] at hc
  have hs := sg_sub (Nat.le_refl nn) hc h.nd h.rng
  have hfl := hi.few_lost
  have hp := pas_room (n := n) (t := t) (R := R) (lat := s.lat) (now := now) hb.1.1 h.l0 h.l1
  have hla : 0 ≤ lat1 s.lat now ∧ lat1 s.lat now ≤ now := by have := h.t0; have := h.t1; unfold lat1; split <;> omega
  revert hs
  unfold takeG
  split
  · intro hs
    exact ⟨⟨hi.q, hi.l0, hi.l1, hi.t0, hi.t1, hs.1, hs.2⟩, by show (lookG s now).lost.length ≤ _; omega⟩
  · rename_i x hx
    have hxl := hi.held hx
    have hd := drw_room (t := t) (R := R) (x := x.l) hp.1 hp.2 (Int.mul_nonneg (by omega) (by have := hb.2.1; omega))
    split
    · intro hs
      exact ⟨⟨hi.q, hd.1, hd.2, hla.1, hla.2, hs.1, hs.2⟩, by show (lookG s now).lost.length ≤ _; omega⟩
    · intro hs
      exact ⟨⟨hi.q, hd.1, hd.2, hla.1, hla.2, hs.1, hs.2⟩, by show (lookG s now).lost.length ≤ _; omega⟩
theorem whenG_inv {M : QM} {cont : M.σ → List (Int × Int)} {k : Nat} (hM : M.Inn cont k) {n t R tt : Int} (hb : okB n t R) {nn : Nat} {s : SgS M.σ} (now : Int) (h : SgI M cont t R tt nn s) (h0 : 0 ≤ tt) (h1 : tt ≤ now) (h2 : now ≤ 20000000) (hn : nn ≤ 1000) : SgI M cont t R now nn (whenG n t R s now).1 := by
  have hi := lookG_inv hM now h h0 h1 h2 hn
  have hs := sg_sub (A := []) (Nat.le_refl nn) (whenG_con hM n now h h0 h1 h2 hn) h.nd h.rng
  have hp := pas_room (n := n) (t := t) (R := R) (lat := s.lat) (now := now) hb.1.1 h.l0 h.l1
  have hla : 0 ≤ lat1 s.lat now ∧ lat1 s.lat now ≤ now := by have := h.t0; have := h.t1; unfold lat1; split <;> omega
  revert hs
  unfold whenG
  split
  · intro hs
    exact ⟨hM.fine.iW now hi.q (by omega) (Int.le_refl _) h2 hn, hi.l0, hi.l1, hi.t0, hi.t1, hs.1, hs.2⟩
  · split
    · intro hs
      exact ⟨hi.q, hp.1, hp.2, hla.1, hla.2, hs.1, hs.2⟩
    · intro hs
      exact ⟨hi.q, hp.1, hp.2, hla.1, hla.2, hs.1, hs.2⟩
theorem lenG_le {M : QM} {cont : M.σ → List (Int × Int)} {k : Nat} (hM : M.Inn cont k) {t R tt : Int} {nn : Nat} {s : SgS M.σ} (h : SgI M cont t R tt nn s) : lenG s ≤ (conG cont s).length := by
  have := hM.late.len h.q
  unfold lenG conG
  split
  · rename_i hh; simp [hh]; omega
  · rename_i hh; simp [hh]; omega
theorem sumP_lost {M : QM} {cont : M.σ → List (Int × Int)} {t R tt : Int} {nn : Nat} {s : SgS M.σ} (h : SgI M cont t R tt nn s) : 0 ≤ sumP (s.lost.map nl) := by
  have hr : ∀ x ∈ s.lost.map nl, 1 ≤ x.2 := fun x hx => (h.rng x (by simp only [conG, List.mem_append]; exact Or.inl hx)).2.2.1
  generalize s.lost.map nl = l at hr
  induction l with
  | nil => exact Int.le_refl _
  | cons x r ih =>
    have h1 := hr x (by simp)
    have h2 := ih (fun y hy => hr y (by simp [hy]))
    simp only [sumP]
    omega
theorem bytesG_le {M : QM} {cont : M.σ → List (Int × Int)} {k : Nat} (hM : M.Inn cont k) {t R tt : Int} {nn : Nat} {s : SgS M.σ} (h : SgI M cont t R tt nn s) : bytesG s ≤ sumP (conG cont s) := by
  have h1 := hM.late.bytes h.q
  have h2 := sumP_lost h
  unfold bytesG conG
  simp only [sumP_append]
  split
  · rename_i hh; simp [hh, sumP]; omega
  · rename_i x hh
    simp only [hh, Option.toList_some, List.map_cons, List.map_nil, sumP]
    show M.bytes s.q + x.l ≤ _ + (x.l + 0 + _)
    omega
end Go.Proofs.YtfakjedolecdcaaGreatDoor
namespace Go.Proofs.YtfakjedolecdcaaGreatDoor
open Go.RowKit Go.Extern.Stop Go.Stop Go.Extern

/-- The queue within was asked. -/
theorem SgAt.queue {M : QM} {B : Nat} {n t R : Int} {w w' : World} {F F' : Nat → Prop} {s : SgS M.σ} {nx : Hd} {lv : Value} (h : SgAt M B n t R w F s nx lv) {q' : M.σ} (ho : Ot F w w') (ha : M.At w' F' q') (hf : ∀ k, F' k → F k ∨ w.heap.size ≤ k) : LookG M B n t R (sgF B F lv) w { s with q := q' } w' := by
  have hB := h.blk.lt
  refine ⟨⟨F', nx, lv, ⟨h.blk.same (ho.block B hB h.out), ha, fun hb => ?_, h.eq, Seg.oth h.lost ho (fun k e => (h.own k e).1), fun k e => ⟨fun hk => ?_, (h.own k e).2⟩⟩, fun k hk => ?_⟩, ho.mono (fun _ _ h' => Or.inr (Or.inl h'))⟩
  · rcases hf B hb with h' | h'
    · exact h.out h'
    · omega
  · rcases hf k hk with h' | h'
    · exact (h.own k e).1 h'
    · have := Seg.lt h.lost e; omega
  · rcases hk with rfl | hk | hk
    · exact Or.inl (Or.inl rfl)
    · rcases hf k hk with h' | h'
      · exact Or.inl (Or.inr (Or.inl h'))
      · exact Or.inr h'
    · exact Or.inl (Or.inr (Or.inr hk))
set_option maxHeartbeats 2000000 in
theorem gput_any {M : QM} {B : Nat} {n t R : Int} {F : Nat → Prop} {s : SgS M.σ} {nx : Hd} {lv : Value} {tt : Int} {nn : Nat} (now : Int) (x : Hd) (hM : M.Fine) (w : World) (h : SgAt M B n t R w F s nx lv) (hI : M.inv tt nn s.q) (h0 : 0 ≤ tt) (h1 : tt ≤ now) (h2 : now ≤ 20000000) (hok : x.ok = true) (hxa : x.a = now) (hxn : x.n = nn) (hn : nn ≤ 1000) :
    Calls Tryz.prog 187 #[.pointer (some ⟨B, 0, none⟩), .int .i64 now, x.val] w fun e w' => ∃ u, e = .returned u ∧ Hs w' u (putG R s now x).2 ∧ LookG M B n t R (sgF B F lv) w (putG R s now x).1 w' ∧ ∀ k, u.ownBlock = some k → sgF B F lv k ∨ w.heap.size ≤ k := by
  have hV := Hd.val_eq
  have H : Hid (SgAt M B n t R w F s nx lv) := h
  have HM : Hid M.Fine := hM
  have hB := h.blk.lt
  obtain ⟨c0, c3, _⟩ := sg_cells h.blk
  by_cases hr : R < x.l
  · have HR : Hid (putG R s now x = (s, [x])) := by show _ = _; unfold putG; rw [if_pos hr]
    clear h hM hI hxa hxn
    go_enter Tryz.func187, Tryz.ntmps187
    go_wp2
    go_quiet (fail)
    go_wp2
    go_ret
    have hB2 : Below w.heap.size w (((w.alloc (.cells #[.int .i64 x.a, .int .i64 x.l, .int .i64 x.f, .int .i64 x.b, .int .i64 x.m, .int .i64 x.n] 76)).drewN nq).alloc (.cells #[.int .i64 x.a, .int .i64 x.l, .int .i64 x.f, .int .i64 x.b, .int .i64 x.m, .int .i64 x.n] 76)) := below_alloc_ (below_drewN_ (below_alloc_ (Below.refl _ _) _) _) _
    rw [HR.out]
    refine ⟨_, rfl, Hs.one (new_block_ (by simp)), ⟨⟨F, nx, lv, H.out.below HM.out hB2, fun k hk => Or.inl hk⟩, Ot.of_below hB2⟩, fun k hk => ?_⟩
    right
    simp only [Array.getD_eq_getD_getElem?, List.getElem?_toArray, List.getElem?_cons_succ, List.getElem?_cons_zero, Option.getD_some, Value.ownBlock, Option.some.injEq] at hk
    omega
  · have HP : Hid (∀ W : World, Below w.heap.size w W → Calls Tryz.prog M.fP #[M.rP, .int .i64 now, x.val] W fun e w' => ∃ u, e = .returned u ∧ Hs w' u (putG R s now x).2 ∧ LookG M B n t R (sgF B F lv) w (putG R s now x).1 w' ∧ ∀ k, u.ownBlock = some k → sgF B F lv k ∨ w.heap.size ≤ k) := by
      intro W hb
      have hp := h.below hM hb
      have hsz := hb.size
      have e1 : putG R s now x = ({ s with q := (M.put s.q now x).1 }, (M.put s.q now x).2) := by unfold putG; rw [if_neg hr]
      rw [e1]
      refine (hM.cP now x hp.inner hI h0 h1 h2 hok hxa hxn hn).mono ?_
      rintro e w' ⟨u, F', rfl, hu, ha, hf, hk, ho⟩
      refine ⟨u, rfl, hu, LookG.after (hp.queue ho ha hf) hb, fun k hk' => ?_⟩
      rcases hk k hk' with h' | h'
      · exact Or.inl (Or.inr (Or.inl h'))
      · right; omega
    have hmP := hM.mP
    have heP := hM.eP
    obtain ⟨xa, xl, xf, xb, xm, xn⟩ := x
    simp only at hr
    simp only [Hd.val_eq] at HP ⊢
    clear h hM hI hxa hxn hok hV
    have d1 : decide (R < xl) = false := by simpa using hr
    go_enter Tryz.func187, Tryz.ntmps187
    go_wp2
    go_quiet (fail)
    go_wp2
    go_region_with (first | (go_at_call 190; refine (gwithin_any _ (H.out.below HM.out ?_)).mono ?_; (repeat' (first | with_reducible exact Below.refl _ _ | with_reducible refine Below.drew ?_ | with_reducible refine below_drewN_ ?_ _ | with_reducible refine below_alloc_ ?_ _)); rintro e w0 ⟨rfl, rfl⟩) | (refine (HP.out _ ?_).mono ?_; (repeat' (first | with_reducible exact Below.refl _ _ | with_reducible refine Below.drew ?_ | with_reducible refine below_drewN_ ?_ _ | with_reducible refine below_alloc_ ?_ _)); rintro e w1 ⟨u, rfl, hu, hl, hk⟩))
    all_goals
      go_wp2
      go_ret
      exact ⟨_, rfl, hu, hl, hk⟩
/-- The end of Take: what is given lies where the result is read. -/
theorem gtake_end {M : QM} {B : Nat} {n t R : Int} {G F1 : Nat → Prop} {w w4 w5 : World} {s4 : SgS M.σ} {nx : Hd} {lv1 lv4 : Value} {L : List Hd} (hM : M.Fine) (hA : SgAt M B n t R w4 F1 s4 nx lv4) (hF : ∀ k, sgF B F1 lv4 k → G k ∨ w.heap.size < k) (hL : Hs w4 lv1 L) (hn : ∀ k, lv1.ownBlock = some k → G k ∨ w.heap.size < k) (hG : ∀ k, G k → k < w.heap.size) (hO : Ot G w w4) (hR : Ot (· = w.heap.size) w4 w5) : Hs w5 lv1 L ∧ LookG M B n t R G w s4 w5 ∧ ∀ k, lv1.ownBlock = some k → G k ∨ w.heap.size ≤ k := by
  refine ⟨Seg.oth hL hR (fun k hk e => ?_), ⟨⟨F1, nx, lv4, hA.ot hM hR (fun k hk e => ?_), fun k hk => ?_⟩, hO.trans' hR (fun k e hk => by omega)⟩, fun k hk => ?_⟩
  · rcases hn k hk with h | h
    · have := hG k h; omega
    · omega
  · rcases hF k hk with h | h
    · have := hG k h; omega
    · omega
  · rcases hF k hk with h | h
    · exact Or.inl h
    · right; omega
  · rcases hn k hk with h | h
    · exact Or.inl h
    · right; omega
set_option maxHeartbeats 4000000 in
theorem gtake_any {M : QM} {cont : M.σ → List (Int × Int)} {kk : Nat} {B : Nat} {n t R : Int} {F : Nat → Prop} {s : SgS M.σ} {nx : Hd} {lv : Value} {tt : Int} {nn : Nat} (now : Int) (hM : M.Inn cont kk) (hb : okB n t R) (w : World) (h : SgAt M B n t R w F s nx lv) (hI : SgI M cont t R tt nn s) (h0 : 0 ≤ tt) (h1 : tt ≤ now) (h2 : now ≤ 20000000) (hn : nn ≤ 1000) :
    Calls Tryz.prog 188 #[.pointer (some ⟨B, 0, none⟩), .int .i64 now] w fun e w' => ∃ u, e = .returned (.tuple #[(takeG n t R s now).2.2.1.val, u, .bool (takeG n t R s now).2.2.2]) ∧ Hs w' u (takeG n t R s now).2.1 ∧ LookG M B n t R (sgF B F lv) w (takeG n t R s now).1 w' ∧ ∀ k, u.ownBlock = some k → sgF B F lv k ∨ w.heap.size ≤ k := by
  have hV := Hd.val_eq
  have HM : Hid M.Fine := hM.fine
  have hBl := h.blk.lt
  obtain ⟨G, hG⟩ : ∃ G, sgF B F lv = G := ⟨_, rfl⟩
  have HGB : Hid (G B) := by rw [← hG]; exact Or.inl rfl
  have HLO : Hid (∀ k, G k → k < w.heap.size) := by rw [← hG]; exact h.low hM.fine
  have HI2 : Hid (SgI M cont t R now nn (lookG s now)) := lookG_inv hM now hI h0 h1 h2 hn
  have hal := h.below hM.fine (below_alloc_ (Below.refl w.heap.size w) (.cells #[.int .i64 0, .int .i64 0, .int .i64 0, .int .i64 0, .int .i64 0, .int .i64 0] 76))
  have HLK := glook_any now hM.fine _ hal hI.q (by have := hI.few_lost; omega) h0 h1 h2 hn
  have HE : Hid ((lookG s now).lev = s.lev ∧ (lookG s now).lat = s.lat) := lookG_same s now
  have HTS : Hid (takeG n t R s now = match (lookG s now).hold with
    | none => ({ lookG s now with lost := [] }, (lookG s now).lost, hd0, false)
    | some x => if drwB t (pas n t R s.lev s.lat now) x.l = true then ({ lookG s now with lev := drw t (pas n t R s.lev s.lat now) x.l, lat := lat1 s.lat now, hold := none, lost := [] }, (lookG s now).lost, x, true) else ({ lookG s now with lev := drw t (pas n t R s.lev s.lat now) x.l, lat := lat1 s.lat now, lost := [] }, (lookG s now).lost, hd0, false)) := rfl
  obtain ⟨s1, hs1⟩ : ∃ s1, lookG s now = s1 := ⟨_, rfl⟩
  obtain ⟨r, hr⟩ : ∃ r, takeG n t R s now = r := ⟨_, rfl⟩
  rw [hs1] at HI2 HLK HE HTS
  rw [hr] at HTS ⊢
  rw [hG] at HLK ⊢
  clear hs1 hr h hM hI hal hG
  go_enter Tryz.func188, Tryz.ntmps188
  go_wp2_with fail
  refine HLK.mono ?_
  rintro e w1 ⟨rfl, hl1⟩
  clear HLK
  have HOT1 : Hid (Ot G w w1) := (Ot.of_below (below_alloc_ (Below.refl w.heap.size w) _)).trans hl1.ot
  obtain ⟨hsz1, hres1⟩ := after_ot hl1.ot (fun e => by have := HLO.out _ e; omega)
  obtain ⟨F1, nx1, lv1, hA1, hF1⟩ := hl1.ex
  have HF1 : Hid (∀ k, sgF B F1 lv1 k → G k ∨ w.heap.size < k) := by
    intro k hk
    rcases hF1 k hk with h | h
    · exact Or.inl h
    · right; simp at h; omega
  obtain ⟨c0, c3, ⟨d6, d7, d8, d9, d10, d11⟩, c12, c13, ⟨f6, f7, f8, f9, f10, f11⟩, f12, f13⟩ := sg_cells hA1.blk
  have hB1 := hA1.blk.lt
  have HA1 : Hid (SgAt M B n t R w1 F1 s1 nx1 lv1) := hA1
  have HR1 : Hid (w1.heap[w.heap.size]? = some (.cells #[.int .i64 0, .int .i64 0, .int .i64 0, .int .i64 0, .int .i64 0, .int .i64 0] 76 (0, 0))) := hres1
  clear hA1 hF1 hl1 hres1
  go_wp2
  have hA2 : SgAt M B n t R (w1.setCell ⟨B, 13, none⟩ (.slice none 0 0)) F1 { s1 with lost := [] } nx1 (.slice none 0 0) := ⟨sg_lost HA1.out.blk _, HM.out.kept HA1.out.inner (fun k hk => Below.heap_setCell _ _ _ _ (fun e => HA1.out.out (by simp only at e; exact e ▸ hk))), HA1.out.out, HA1.out.eq, Hs.nil _, fun k e => by simp [Value.ownBlock] at e⟩
  have HL2 : Hid (Hs (w1.setCell ⟨B, 13, none⟩ (.slice none 0 0)) lv1 s1.lost) := Seg.setCell HA1.out.lost (fun e => (HA1.out.own _ e).2 rfl) _
  have HVB : Hid (∀ k, lv1.ownBlock = some k → k ≠ B) := fun k e => (HA1.out.own k e).2
  have HF2 : Hid (∀ k, sgF B F1 (.slice none 0 0) k → G k ∨ w.heap.size < k) := fun k hk => HF1.out k (by rcases hk with h | h | h; exact Or.inl h; exact Or.inr (Or.inl h); simp [Value.ownBlock] at h)
  have HVN : Hid (∀ k, lv1.ownBlock = some k → G k ∨ w.heap.size < k) := fun k e => HF1.out k (Or.inr (Or.inr e))
  have HR2 : Hid ((w1.setCell ⟨B, 13, none⟩ (.slice none 0 0)).heap[w.heap.size]? = some (.cells #[.int .i64 0, .int .i64 0, .int .i64 0, .int .i64 0, .int .i64 0, .int .i64 0] 76 (0, 0))) := by
    show _ = _
    rw [Below.heap_setCell _ _ _ _ (fun e => by simp at e; omega)]
    exact HR1.out
  have HOT2 : Hid (Ot G w (w1.setCell ⟨B, 13, none⟩ (.slice none 0 0))) := HOT1.out.setCell (Or.inl HGB.out) _
  have hsz2 : w.heap.size < (w1.setCell ⟨B, 13, none⟩ (.slice none 0 0)).heap.size := by simpa [World.setCell] using hsz1
  clear HA1 HR1 HOT1 hsz1 hB1 c0 c3 d6 d7 d8 d9 d10 d11 c12 c13 f6 f7 f8 f9 f10 f11 f12 f13
  generalize w1.setCell ⟨B, 13, none⟩ (.slice none 0 0) = w2 at *
  have HA2 : Hid (SgAt M B n t R w2 F1 { s1 with lost := [] } nx1 (.slice none 0 0)) := hA2
  obtain ⟨c0, c3, ⟨d6, d7, d8, d9, d10, d11⟩, c12, c13, ⟨f6, f7, f8, f9, f10, f11⟩, f12, f13⟩ := sg_cells hA2.blk
  have hB2 := hA2.blk.lt
  clear hA2
  simp only at c12
  cases hh : s1.hold with
  | none =>
    rw [hh] at c12 HTS
    simp only [Option.isSome] at c12
    obtain ⟨⟨z0, z1, z2, z3, z4, z5⟩, y0, y1, y2, y3, y4, y5⟩ := six HR2.out
    have HTS2 : Hid (r = ({ s1 with lost := [] }, s1.lost, hd0, false)) := by
      show _ = _
      rw [show r = _ from HTS.out, hh]
    clear HTS
    go_quiet (fail)
    go_wp2
    (try simp only [Exit.inBlock, Exit.then, Exit.noGoto_ret])
    have HRD : Hid (Ot (· = w.heap.size) w2 ((((((((w2.drewN nq).setCell ⟨w.heap.size, 0, none⟩ (.int .i64 0)).setCell ⟨w.heap.size, 1, none⟩ (.int .i64 0)).setCell ⟨w.heap.size, 2, none⟩ (.int .i64 0)).setCell ⟨w.heap.size, 3, none⟩ (.int .i64 0)).setCell ⟨w.heap.size, 4, none⟩ (.int .i64 0)).setCell ⟨w.heap.size, 5, none⟩ (.int .i64 0)))) := by
      show Ot _ _ _
      repeat' (first | with_reducible exact Ot.refl _ _ | with_reducible refine Ot.setCell ?_ (by simp) _ | with_reducible refine Ot.drewN ?_ _)
    have hld := load_held (x := hd0) (six_set (w := w2.drewN nq) HR2.out (.int .i64 0) (.int .i64 0) (.int .i64 0) (.int .i64 0) (.int .i64 0) (.int .i64 0))
    refine bodyPost_ret (v := .tuple #[hd0.val, lv1, .bool false]) ?_ rfl ⟨lv1, by rw [HTS2.out], ?_⟩
    · rw [results_cell_tmp2 rfl]
      simp [asAddr, Result.andThen, hld]
    · rw [HTS2.out]
      exact gtake_end HM.out HA2.out HF2.out HL2.out HVN.out HLO.out HOT2.out HRD.out
  | some x =>
    obtain rfl := HA2.out.eq x hh
    rw [hh] at c12 HTS
    simp only [Option.isSome] at c12
    have hxl := HI2.out.held hh
    have HTK : Hid (∀ W : World, W.heap[B]? = w2.heap[B]? → Calls Tryz.prog 192 #[.pointer (some ⟨B, 1, none⟩), .int .i64 now, .int .i64 nx1.l] W fun e w' => e = .returned (.bool (drwB t (pas n t R s.lev s.lat now) nx1.l)) ∧ StG w' B 1 [.iface M.ty M.rv] (sgPost nx1 true (.slice none 0 0)) 171 n t R (drw t (pas n t R s.lev s.lat now) nx1.l) (lat1 s.lat now) ∧ Oth (· = B) W w') := by
      intro W hW
      have hst := HA2.out.blk.same hW
      have hi := HI2.out
      simp only at hst
      rw [HE.out.1, HE.out.2, hh] at hst
      exact take_yes now nx1.l W hst hb (by rw [← HE.out.1]; exact hi.l0) (by rw [← HE.out.1]; exact hi.l1) (by rw [← HE.out.2]; exact hi.t0) (by omega) (by omega) (by omega)
    have HHH : Hid (s1.hold = some nx1) := hh
    have HKP : Hid (∀ W : World, W.heap[B]? = w2.heap[B]? → W.cell? ⟨B, 12, none⟩ = some (.bool true) ∧ W.cell? ⟨B, 7, none⟩ = some (.int .i64 nx1.l)) := fun W hW => ⟨(World.cell?_of_block (w := w2) hW).trans c12, (World.cell?_of_block (w := w2) hW).trans d7⟩
    clear hb hh
    cases hd : drwB t (pas n t R s.lev s.lat now) nx1.l with
    | false =>
      have HTS2 : Hid (r = ({ q := s1.q, lev := drw t (pas n t R s.lev s.lat now) nx1.l, lat := lat1 s.lat now, hold := some nx1, lost := [] }, s1.lost, hd0, false)) := by
        show _ = _
        rw [show r = _ from HTS.out]
        simp only [hd, Bool.false_eq_true, if_false]
      rw [hd] at HTK
      clear HTS hd
      go_region_held3 (fun W => W.cell? ⟨B, 12, none⟩ = some (.bool true) ∧ W.cell? ⟨B, 7, none⟩ = some (.int .i64 nx1.l)) (first | exact ⟨k12, e7⟩ | (refine HKP.out _ ?_; rfl)) ((go_at_call 192; refine (HTK.out _ ?_).mono ?_; rfl; rintro e w3 ⟨rfl, hst3, ho3⟩; have HR3 : Hid (w3.heap[w.heap.size]? = some (.cells #[.int .i64 0, .int .i64 0, .int .i64 0, .int .i64 0, .int .i64 0, .int .i64 0] 76 (0, 0))) := (ho3.block w.heap.size (by exact hsz2) (by omega)).trans HR2.out; have HOT3 : Hid (Ot G w w3) := HOT2.out.trans' (c := w3) (T := (· = B)) (by exact ⟨ho3.os, ho3.tape, ho3.output, ho3.size, ho3.block⟩) (fun k e _ => by subst e; exact HGB.out); have HL3 : Hid (Hs w3 lv1 s1.lost) := Seg.kept HL2.out (fun k e => ho3.block k (by exact Seg.lt HL2.out e) (HVB.out k e)); have hA3 : SgAt M B n t R w3 F1 { q := s1.q, lev := drw t (pas n t R s.lev s.lat now) nx1.l, lat := lat1 s.lat now, hold := some nx1, lost := [] } nx1 (.slice none 0 0) := ⟨hst3, HM.out.kept HA2.out.inner (fun k hk => (ho3.block k (by exact HM.out.low HA2.out.inner k hk) (fun e => HA2.out.out (by rw [← e]; exact hk)))), HA2.out.out, fun y hy => by simpa using hy, Hs.nil _, fun k e => by simp [Value.ownBlock] at e⟩; have HA3 : Hid (SgAt M B n t R w3 F1 { q := s1.q, lev := drw t (pas n t R s.lev s.lat now) nx1.l, lat := lat1 s.lat now, hold := some nx1, lost := [] } nx1 (.slice none 0 0)) := hA3; have hsz3 : w.heap.size < w3.heap.size := Nat.lt_of_lt_of_le (by exact hsz2) ho3.size; have hB3 := hA3.blk.lt; obtain ⟨⟨z0, z1, z2, z3, z4, z5⟩, y0, y1, y2, y3, y4, y5⟩ := six HR3.out; obtain ⟨k0, k3, ⟨e6, e7, e8, e9, e10, e11⟩, k12, k13, ⟨g6, g7, g8, g9, g10, g11⟩, g12, g13⟩ := sg_cells hA3.blk; clear hA3 hst3 ho3))
      all_goals
        go_wp2
        (try simp only [Exit.inBlock, Exit.then, Exit.noGoto_ret])
        have HRD : Hid (Ot (· = w.heap.size) w3 ((((((w3.setCell ⟨w.heap.size, 0, none⟩ (.int .i64 0)).setCell ⟨w.heap.size, 1, none⟩ (.int .i64 0)).setCell ⟨w.heap.size, 2, none⟩ (.int .i64 0)).setCell ⟨w.heap.size, 3, none⟩ (.int .i64 0)).setCell ⟨w.heap.size, 4, none⟩ (.int .i64 0)).setCell ⟨w.heap.size, 5, none⟩ (.int .i64 0))) := by
          show Ot _ _ _
          repeat' (first | with_reducible exact Ot.refl _ _ | with_reducible refine Ot.setCell ?_ (by simp) _ | with_reducible refine Ot.drewN ?_ _)
        have hld := load_held (x := hd0) (six_set HR3.out (.int .i64 0) (.int .i64 0) (.int .i64 0) (.int .i64 0) (.int .i64 0) (.int .i64 0))
        refine bodyPost_ret (v := .tuple #[hd0.val, lv1, .bool false]) ?_ rfl ⟨lv1, by rw [HTS2.out], ?_⟩
        · rw [results_cell_tmp2 rfl]
          simp [asAddr, Result.andThen, hld]
        · rw [HTS2.out]
          exact gtake_end HM.out HA3.out HF2.out HL3.out HVN.out HLO.out HOT3.out HRD.out
    | true =>
      have HTS2 : Hid (r = ({ s1 with lev := drw t (pas n t R s.lev s.lat now) nx1.l, lat := lat1 s.lat now, hold := none, lost := [] }, s1.lost, nx1, true)) := by
        show _ = _
        rw [show r = _ from HTS.out]
        simp only [hd, if_true]
      rw [hd] at HTK
      clear HTS hd
      go_region_held3 (fun W => W.cell? ⟨B, 12, none⟩ = some (.bool true) ∧ W.cell? ⟨B, 7, none⟩ = some (.int .i64 nx1.l)) (first | exact ⟨k12, e7⟩ | (refine HKP.out _ ?_; rfl)) ((go_at_call 192; refine (HTK.out _ ?_).mono ?_; rfl; rintro e w3 ⟨rfl, hst3, ho3⟩; have HR3 : Hid (w3.heap[w.heap.size]? = some (.cells #[.int .i64 0, .int .i64 0, .int .i64 0, .int .i64 0, .int .i64 0, .int .i64 0] 76 (0, 0))) := (ho3.block w.heap.size (by exact hsz2) (by omega)).trans HR2.out; have HOT3 : Hid (Ot G w w3) := HOT2.out.trans' (c := w3) (T := (· = B)) (by exact ⟨ho3.os, ho3.tape, ho3.output, ho3.size, ho3.block⟩) (fun k e _ => by subst e; exact HGB.out); have HL3 : Hid (Hs w3 lv1 s1.lost) := Seg.kept HL2.out (fun k e => ho3.block k (by exact Seg.lt HL2.out e) (HVB.out k e)); have hA3 : SgAt M B n t R w3 F1 { q := s1.q, lev := drw t (pas n t R s.lev s.lat now) nx1.l, lat := lat1 s.lat now, hold := some nx1, lost := [] } nx1 (.slice none 0 0) := ⟨hst3, HM.out.kept HA2.out.inner (fun k hk => (ho3.block k (by exact HM.out.low HA2.out.inner k hk) (fun e => HA2.out.out (by rw [← e]; exact hk)))), HA2.out.out, fun y hy => by simpa using hy, Hs.nil _, fun k e => by simp [Value.ownBlock] at e⟩; have HA3 : Hid (SgAt M B n t R w3 F1 { q := s1.q, lev := drw t (pas n t R s.lev s.lat now) nx1.l, lat := lat1 s.lat now, hold := some nx1, lost := [] } nx1 (.slice none 0 0)) := hA3; have hsz3 : w.heap.size < w3.heap.size := Nat.lt_of_lt_of_le (by exact hsz2) ho3.size; have hB3 := hA3.blk.lt; obtain ⟨⟨z0, z1, z2, z3, z4, z5⟩, y0, y1, y2, y3, y4, y5⟩ := six HR3.out; obtain ⟨k0, k3, ⟨e6, e7, e8, e9, e10, e11⟩, k12, k13, ⟨g6, g7, g8, g9, g10, g11⟩, g12, g13⟩ := sg_cells hA3.blk; clear hA3 hst3 ho3))
      all_goals
        go_wp2
        (try simp only [Exit.inBlock, Exit.then, Exit.noGoto_ret])
        have HRD : Hid (Ot (· = w.heap.size) (w3.setCell ⟨B, 12, none⟩ (.bool false)) (((((((w3.setCell ⟨B, 12, none⟩ (.bool false)).setCell ⟨w.heap.size, 0, none⟩ (.int .i64 nx1.a)).setCell ⟨w.heap.size, 1, none⟩ (.int .i64 nx1.l)).setCell ⟨w.heap.size, 2, none⟩ (.int .i64 nx1.f)).setCell ⟨w.heap.size, 3, none⟩ (.int .i64 nx1.b)).setCell ⟨w.heap.size, 4, none⟩ (.int .i64 nx1.m)).setCell ⟨w.heap.size, 5, none⟩ (.int .i64 nx1.n))) := by
          show Ot _ _ _
          repeat' (first | with_reducible exact Ot.refl _ _ | with_reducible refine Ot.setCell ?_ (by simp) _ | with_reducible refine Ot.drewN ?_ _)
        have HR4 : Hid ((w3.setCell ⟨B, 12, none⟩ (.bool false)).heap[w.heap.size]? = some (.cells #[.int .i64 0, .int .i64 0, .int .i64 0, .int .i64 0, .int .i64 0, .int .i64 0] 76 (0, 0))) := by
          show _ = _
          rw [Below.heap_setCell _ _ _ _ (fun e => by simp at e; omega)]
          exact HR3.out
        have hA4 : SgAt M B n t R (w3.setCell ⟨B, 12, none⟩ (.bool false)) F1 { s1 with lev := drw t (pas n t R s.lev s.lat now) nx1.l, lat := lat1 s.lat now, hold := none, lost := [] } nx1 (.slice none 0 0) := ⟨sg_holds HA3.out.blk false, HM.out.kept HA3.out.inner (fun k hk => Below.heap_setCell _ _ _ _ (fun e => HA3.out.out (by simp only at e; exact e ▸ hk))), HA3.out.out, fun x hx => by simp at hx, Hs.nil _, fun k e => by simp [Value.ownBlock] at e⟩
        have hOT4 := HOT3.out.setCell (p := ⟨B, 12, none⟩) (Or.inl HGB.out) (.bool false)
        have hL4 : Hs (w3.setCell ⟨B, 12, none⟩ (.bool false)) lv1 s1.lost := Seg.setCell HL3.out (fun e => HVB.out _ e rfl) _
        have hld := load_held (x := nx1) (six_set HR4.out (.int .i64 nx1.a) (.int .i64 nx1.l) (.int .i64 nx1.f) (.int .i64 nx1.b) (.int .i64 nx1.m) (.int .i64 nx1.n))
        refine bodyPost_ret (v := .tuple #[nx1.val, lv1, .bool true]) ?_ rfl ⟨lv1, by rw [HTS2.out], ?_⟩
        · rw [results_cell_tmp2 rfl]
          simp [asAddr, Result.andThen, hld]
        · rw [HTS2.out]
          exact gtake_end HM.out hA4 HF2.out hL4 HVN.out HLO.out hOT4 HRD.out
end Go.Proofs.YtfakjedolecdcaaGreatDoor
