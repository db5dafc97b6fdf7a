/-
  package plant: queues of any kind in parentheses, in memory; the errors of a parenthesis that lacks. Conditions: what each of them is, is known.
  package plant: queues of any kind in parentheses are read, or an error. Conditions: the reader of one queue leaves an error, or some queue (a premise); signs are not too long, and none is the word of rounds.
  A Red loses and makes no packet; it changes marks alone. Mathematics, and early.New's ways put together. Conditions: the tape lies in memory.
-/
import Derived.Test.YtfakjedolecdcaaGreatDoorU37
import Derived.Test.YtfakjedolecdcaaGreatDoorU38
import Derived.Test.YtfakjedolecdcaaGreatDoorU17
import Derived.Test.YtfakjedolecdcaaGreatDoorRnd
import Derived.Test.YtfakjedolecdcaaGreatDoorU2
import Derived.Test.YtfakjedolecdcaaGreatDoorU23
namespace Go.Proofs.YtfakjedolecdcaaGreatDoor
open Go.RowKit Go.Extern.Stop Go.Stop Go.Extern
variable {E : Prop}

/-- A queue of some kind, and what is known of it. -/
structure AQ where
  M : QM
  cont : M.σ → List (Int × Int)
  k : Nat
  s0 : M.σ
  F : Nat → Prop
structure AQ.Ok (q : AQ) (E : Prop) : Prop where
  fine : q.M.Fine
  late : q.M.Late E q.cont
  tame : q.M.Tame q.k
  inv : q.M.inv 0 0 q.s0
  emp : q.cont q.s0 = []
  one : 1 ≤ q.k
def noAQ : AQ := ⟨FifoM 0 0 0 false, fun (L : List Hd) => L.map nl, 0, ([] : List Hd), fun _ => False⟩
def aqC (q : AQ) : Value := .iface q.M.ty q.M.rv
def aqQ (qs : List AQ) (i : Nat) : QM := (qs.getD i noAQ).M
def aqK (qs : List AQ) : Nat := sumK (fun i => (qs.getD i noAQ).k) qs.length
theorem getD_aq {qs : List AQ} {i : Nat} (h : i < qs.length) : qs[i]? = some (qs.getD i noAQ) := by
  rw [List.getD_eq_getElem?_getD, List.getElem?_eq_getElem h]; rfl
theorem getD_mem {qs : List AQ} {i : Nat} (h : i < qs.length) : qs.getD i noAQ ∈ qs := List.mem_of_getElem? (getD_aq h)
theorem sumK_congr {f g : Nat → Nat} : ∀ {N : Nat}, (∀ i, i < N → f i = g i) → sumK f N = sumK g N := by
  intro N
  induction N with
  | zero => intro _; rfl
  | succ N ih =>
    intro h
    show sumK f N + f N = sumK g N + g N
    rw [ih (fun i hi => h i (by omega)), h N (by omega)]
theorem aqK_snoc (qs : List AQ) (q : AQ) : aqK (qs ++ [q]) = aqK qs + q.k := by
  unfold aqK
  rw [List.length_append]
  show sumK (fun i => ((qs ++ [q]).getD i noAQ).k) qs.length + ((qs ++ [q]).getD qs.length noAQ).k = _
  congr 1
  · refine sumK_congr fun i hi => ?_
    show ((qs ++ [q]).getD i noAQ).k = (qs.getD i noAQ).k
    rw [List.getD_eq_getElem?_getD, List.getElem?_append_left hi, ← List.getD_eq_getElem?_getD]
  · rw [List.getD_eq_getElem?_getD, List.getElem?_append_right (Nat.le_refl _)]
    simp
theorem aqK_ge {qs : List AQ} (h : ∀ q ∈ qs, 1 ≤ q.k) : qs.length ≤ aqK qs := by
  unfold aqK
  have : ∀ N, N ≤ qs.length → N ≤ sumK (fun i => (qs.getD i noAQ).k) N := by
    intro N
    induction N with
    | zero => intro _; exact Nat.zero_le _
    | succ N ih =>
      intro hN
      have h1 := ih (by omega)
      have h2 := h _ (getD_mem (qs := qs) (i := N) (by omega))
      show N + 1 ≤ sumK _ N + (qs.getD N noAQ).k
      omega
  exact this _ (Nat.le_refl _)
theorem QM.Tame.le {M : QM} {k k' : Nat} (h : M.Tame k) (hk : k ≤ k') : M.Tame k' where
  mono := h.mono
  len := fun hi hn => by have := h.len hi hn; omega
  few := fun now hi hn => by have := h.few now hi hn; omega
/-- So many are read. -/
structure GqR (E : Prop) (w : World) (b : Nat) (qs : List AQ) (vv : Value) (wr : World) : Prop where
  row : Seg wr 26 1 vv qs.length (qs.map aqC)
  ok : ∀ q ∈ qs, q.Ok E
  here : ∀ q ∈ qs, q.M.At wr q.F q.s0
  new : ∀ q ∈ qs, ∀ k, q.F k → w.heap.size ≤ k ∧ vv.ownBlock ≠ some k
  dis : ∀ (i i' : Nat) (q q' : AQ) (k : Nat), qs[i]? = some q → qs[i']? = some q' → q.F k → q'.F k → i = i'
  own : ∀ g, vv.ownBlock = some g → w.heap.size ≤ g
  ot : Ot (fun k => k = b) w wr
section
variable {w wr w1 w3 : World} {b : Nat} {qs : List AQ} {vv : Value}
theorem GqR.ots (h : GqR E w b qs vv wr) (hb : b < w.heap.size) (ho : Ot (fun k => k = b) wr w1) : GqR E w b qs vv w1 :=
  ⟨h.row.oth ho (fun g hg e => by have := h.own g hg; omega), h.ok, fun q hq => (h.ok q hq).fine.kept (h.here q hq) (fun k hk => ho.block k ((h.ok q hq).fine.low (h.here q hq) k hk) (fun e => by have := (h.new q hq k hk).1; omega)), h.new, h.dis, h.own, h.ot.trans ho⟩
theorem GqR.step (h : GqR E w b qs vv wr) (hb : b < w.heap.size) {g goff gcap : Nat} {q : AQ} {o : Obj} (hq : q.Ok E) (hat : q.M.At w1 q.F q.s0) (hF : ∀ k, q.F k → wr.heap.size ≤ k) (ho : Ot (fun k => k = b) wr w1)
    (hsg : Seg w3 26 1 (.slice (some ⟨g, goff, none⟩) (qs.length + 1) gcap) (qs.length + 1) (qs.map aqC ++ [aqC q])) (hg : (w1.alloc o).grownBy w3 vv.ownBlock) (ha : vv.ownBlock = some g ∨ (w1.alloc o).heap.size ≤ g) :
    GqR E w b (qs ++ [q]) (.slice (some ⟨g, goff, none⟩) (qs.length + 1) gcap) w3 := by
  have h1 := h.ots hb ho
  have hsz : w1.heap.size + 1 ≤ w3.heap.size := by have := hg.size; simpa using this
  have hws := h.ot.size
  have hws1 := ho.size
  have hvl : ∀ k, vv.ownBlock = some k → k < wr.heap.size := fun k e => h.row.lt e
  have kept : ∀ k, k < w1.heap.size → vv.ownBlock ≠ some k → w3.heap[k]? = w1.heap[k]? := fun k hk hv => (hg.block k (by simp; omega) (fun e => hv e.symm)).trans (Below.heap_alloc _ _ _ hk)
  have hgo : ∀ p ∈ qs, ∀ k, p.F k → g ≠ k := fun p hp k hk e => by
    rcases ha with ha | ha
    · exact (h.new p hp k hk).2 (e ▸ ha)
    · have := (h.ok p hp).fine.low (h1.here p hp) k hk; simp at ha; omega
  have hgq : ∀ k, q.F k → g ≠ k := fun k hk e => by
    have h2 := hF k hk
    have h3 := hq.fine.low hat k hk
    rcases ha with ha | ha
    · have := hvl g ha; omega
    · simp at ha; omega
  refine ⟨?_, ?_, ?_, ?_, ?_, ?_, (h1.ot.alloc _).grown hg (fun k hk => Or.inr (h.own k hk))⟩
  · rw [List.length_append, List.map_append]; exact hsg
  · intro p hp
    rcases List.mem_append.1 hp with hp | hp
    · exact h.ok p hp
    · rw [List.mem_singleton.1 hp]; exact hq
  · intro p hp
    rcases List.mem_append.1 hp with hp | hp
    · exact (h.ok p hp).fine.kept (h1.here p hp) (fun k hk => kept k ((h.ok p hp).fine.low (h1.here p hp) k hk) (h1.new p hp k hk).2)
    · rw [List.mem_singleton.1 hp]
      exact hq.fine.kept hat (fun k hk => kept k (hq.fine.low hat k hk) (fun e => by have := hvl k e; have := hF k hk; omega))
  · intro p hp k hk
    simp only [Value.ownBlock, ne_eq, Option.some.injEq]
    rcases List.mem_append.1 hp with hp | hp
    · exact ⟨(h.new p hp k hk).1, hgo p hp k hk⟩
    · rw [List.mem_singleton.1 hp] at hk
      exact ⟨by have := hF k hk; omega, hgq k hk⟩
  · have hnew : ∀ (i : Nat) (p : AQ), qs[i]? = some p → ∀ k, p.F k → ¬ q.F k := fun i p hp k hk hk' => by
      have h2 := (h.ok p (List.mem_of_getElem? hp)).fine.low (h.here p (List.mem_of_getElem? hp)) k hk
      have h3 := hF k hk'
      omega
    intro i i' p p' k hp hp' hk hk'
    by_cases hi : i < qs.length
    · rw [List.getElem?_append_left hi] at hp
      by_cases hi' : i' < qs.length
      · rw [List.getElem?_append_left hi'] at hp'
        exact h.dis i i' p p' k hp hp' hk hk'
      · rw [List.getElem?_append_right (by omega)] at hp'
        have e : p' = q := by
          have := List.mem_of_getElem? hp'
          exact List.mem_singleton.1 this
        subst e
        exact absurd hk' (hnew i p hp k hk)
    · rw [List.getElem?_append_right (by omega)] at hp
      have e : p = q := by
        have := List.mem_of_getElem? hp
        exact List.mem_singleton.1 this
      subst e
      by_cases hi' : i' < qs.length
      · rw [List.getElem?_append_left hi'] at hp'
        exact absurd hk (hnew i' p' hp' k hk')
      · rw [List.getElem?_append_right (by omega)] at hp'
        have h4 := (List.getElem?_eq_some_iff.1 hp).1
        have h5 := (List.getElem?_eq_some_iff.1 hp').1
        simp at h4 h5
        omega
  · intro k hk
    simp only [Value.ownBlock, Option.some.injEq] at hk
    subst hk
    rcases ha with ha | ha
    · exact h.own _ ha
    · simp at ha; omega
end
theorem GqR.bat {w w1 w2 : World} {b : Nat} {qs : List AQ} {N B g goff gcap : Nat} {vv : Value} (h : GqR E w b qs vv w1) (hN : qs.length = N) (hb : Below w1.heap.size w1 w2) (hblk : w2.heap[B]? = some (.cells #[.slice (some ⟨g, goff, none⟩) N gcap] 176 (0, 0))) (hrow : QRowAt w2 g goff N (fun i => ((aqQ qs i).ty, (aqQ qs i).rv))) (hg : w1.heap.size ≤ g) (hgB : g < B) :
    BAt (aqQ qs) N B g goff gcap w2 (fun i => (qs.getD i noAQ).F) (fun i => (qs.getD i noAQ).s0) := by
  refine ⟨hblk, hrow, by have := lt_of_block hblk; omega, fun i hi => ?_, fun i j k hi hj e1 e2 => h.dis i j _ _ k (getD_aq (by omega)) (getD_aq (by omega)) e1 e2, fun i hi => ?_⟩
  · have hm := getD_mem (qs := qs) (i := i) (by omega)
    exact (h.ok _ hm).fine.kept (h.here _ hm) (fun k hk => hb.block k ((h.ok _ hm).fine.low (h.here _ hm) k hk))
  · have hm := getD_mem (qs := qs) (i := i) (by omega)
    have hl := (h.ok _ hm).fine.low (h.here _ hm)
    exact ⟨fun hk => by have := hl _ hk; omega, fun hk => by have := hl _ hk; omega⟩
/-- Its cells as NewBands wants them. -/
theorem GqR.rowAt {w w1 : World} {b : Nat} {qs : List AQ} {g goff n gcap : Nat} (h : GqR E w b qs (.slice (some ⟨g, goff, none⟩) n gcap) w1) : QRowAt w1 g goff qs.length (fun i => ((aqQ qs i).ty, (aqQ qs i).rv)) := by
  rcases h.row.form with ⟨h1, _, _⟩ | ⟨b', off', cap', h1, _, _, _, h5⟩
  · simp at h1
  · simp only [Value.slice.injEq, Option.some.injEq, Addr.mk.injEq] at h1
    obtain ⟨⟨rfl, rfl, _⟩, _, _⟩ := h1
    intro i hi
    refine h5 i _ ?_
    rw [List.getElem?_map, getD_aq hi]
    rfl
theorem opens_gen {b n : Nat} {rest : List Value} {v : Value} {L : List (List UInt8 × Nat)} (w : World) (h : RdAt w b 65 n rest v L) :
    Calls Tryz.prog 66 #[.pointer (some ⟨b, 0, none⟩)] w fun e w' => ∃ ev, e = .returned ev ∧ RdL w w' b n rest v L L.tail ∧ (ev = .nilIface ∨ ∃ B, ev = errV B) := by
  obtain ⟨o, hx⟩ : ∃ o, L.headD (endS n) = o := ⟨_, rfl⟩
  have HNX : Hid (Calls Tryz.prog 20 #[.pointer (some ⟨b, 0, none⟩)] w fun e w' => e = .returned (.agg #[.string ⟨o.1.toArray⟩, .int .i64 o.2]) ∧ RdL w w' b n rest v L L.tail) := by
    refine (sgnext_any w h).mono ?_
    rw [hx]
    rintro e w' ⟨rfl, v2, h1, h2, h3⟩
    exact ⟨rfl, v2, h1, h2, fun y hy => List.mem_of_mem_tail hy, h3⟩
  clear h hx
  cases ho : (o.1 == [40]) with
  | true =>
    go_enter Tryz.func66, Tryz.ntmps66
    go_wp2_with (go_at_call 20; refine HNX.out.mono ?_; rintro e w1 ⟨rfl, hr1⟩)
    go_ret
    obtain ⟨v2, h1, h2, h3, h4⟩ := hr1
    exact ⟨_, rfl, ⟨v2, h1.below (below_alloc_ (Below.refl _ _) _), h2, h3, h4.alloc _⟩, Or.inl rfl⟩
  | false =>
    go_enter Tryz.func66, Tryz.ntmps66
    go_wp2_with (first | (go_at_call 20; refine HNX.out.mono ?_; rintro e w1 ⟨rfl, hr1⟩) | (go_at_call 22; refine (wrongS_any _ _ _ _).mono ?_; rintro e w2 ⟨B, rfl, hb2⟩))
    go_ret
    obtain ⟨v2, h1, h2, h3, h4⟩ := hr1
    exact ⟨_, rfl, ⟨v2, (h1.below (below_alloc_ (Below.refl _ _) _)).below hb2, h2, h3, (h4.alloc _).trans (Ot.of_below hb2)⟩, Or.inr ⟨B, rfl⟩⟩
end Go.Proofs.YtfakjedolecdcaaGreatDoor
namespace Go.Proofs.YtfakjedolecdcaaGreatDoor
open Go.RowKit Go.Extern.Stop Go.Stop Go.Extern
variable {E : Prop}

/-- What is so of the world, whatever is done with the reader. -/
def EnvB (b : Nat) (px : Option Addr) (m : Nat) (fn : Nat → Int) (w : World) : Prop := ∀ w', Ot (fun k => k = b) w w' → Glob w' ∧ Laid w' ∧ IRow w' px m fn
theorem EnvB.ot {b : Nat} {px : Option Addr} {m : Nat} {fn : Nat → Int} {w w1 : World} (h : EnvB b px m fn w) (ho : Ot (fun k => k = b) w w1) : EnvB b px m fn w1 := fun w' h' => h w' (ho.trans h')
def shapeB : List UInt8 := [115, 104, 97, 112, 101]
def LsOk (E : Prop) (L : List (List UInt8 × Nat)) : Prop := ∀ x ∈ L, x.1.length ≤ 2000 ∧ x.1 ≠ roundsB ∧ (E → x.1 ≠ shapeB)
theorem LsOk.sub {L L' : List (List UInt8 × Nat)} (h : LsOk E L) (hs : ∀ y ∈ L', y ∈ L) : LsOk E L' := fun x hx => h x (hs x hx)
/-- What the reader of a queue leaves, where k have begun ahead of it: an error, or some queue of m, that have begun, too. -/
def QkB (E : Prop) (w w' : World) (b n : Nat) (tv : Value) (k : Nat) (v : Value) (L : List (List UInt8 × Nat)) (e : Ending) : Prop := ∃ (m : Nat) (L' : List (List UInt8 × Nat)) (v' : Value), Qk E m w w' e ∧ 1 ≤ m ∧ (k + m ≤ 20 ∨ ∃ B, e = .returned (.tuple #[.nilIface, errV B])) ∧ RdAt w' b 65 n [tv, .int .i64 ((k + m : Nat) : Int)] v' L' ∧ v'.ownBlock = v.ownBlock ∧ (∀ y ∈ L', y ∈ L) ∧ Ot (fun k => k = b) w w'
def QueueC (E : Prop) (b n : Nat) (px : Option Addr) (m pcap : Nat) (fn : Nat → Int) (ar : Int) : Prop := ∀ (k : Nat) (v : Value) (L : List (List UInt8 × Nat)) (w : World), RdAt w b 65 n [.slice px m pcap, .int .i64 (k : Int)] v L → EnvB b px m fn w → LsOk E L → k ≤ 20 → Calls Tryz.prog 19 #[.pointer (some ⟨b, 0, none⟩), .int .i64 ar] w fun e w' => QkB E w w' b n (.slice px m pcap) k v L e
/-- What the reader of queues in parentheses leaves. -/
def QsB (E : Prop) (w w' : World) (b n : Nat) (tv : Value) (k : Nat) (v : Value) (L : List (List UInt8 × Nat)) (vv ev : Value) : Prop := ∃ (k1 : Nat) (L' : List (List UInt8 × Nat)) (v' : Value), RdAt w' b 65 n [tv, .int .i64 (k1 : Int)] v' L' ∧ v'.ownBlock = v.ownBlock ∧ (∀ y ∈ L', y ∈ L) ∧ Ot (fun k => k = b) w w' ∧ k + 1 ≤ k1 ∧ ((∃ B, vv = .slice none 0 0 ∧ ev = errV B) ∨ (ev = .nilIface ∧ ∃ qs, GqR E w b qs vv w' ∧ k1 = k + 1 + aqK qs ∧ k1 ≤ 20 ∧ 1 ≤ qs.length))
/-- Queues of which so many are read, and a reader. -/
structure GqL (E : Prop) (w : World) (b n : Nat) (tv : Value) (k : Nat) (v : Value) (L : List (List UInt8 × Nat)) (qs : List AQ) (vv v' : Value) (L' : List (List UInt8 × Nat)) (wr : World) : Prop where
  all : GqR E w b qs vv wr
  rd : RdAt wr b 65 n [tv, .int .i64 ((k + 1 + aqK qs : Nat) : Int)] v' L'
  ow : v'.ownBlock = v.ownBlock
  sub : ∀ y ∈ L', y ∈ L
  few : k + 1 + aqK qs ≤ 20
set_option maxRecDepth 20000 in
set_option maxHeartbeats 4000000 in
theorem queues_gen {b n : Nat} {px : Option Addr} {m pcap : Nat} {fn : Nat → Int} {ar : Int} {k : Nat} {v : Value} {L : List (List UInt8 × Nat)} (w : World) (hQ : QueueC E b n px m pcap fn ar) (h : RdAt w b 65 n [.slice px m pcap, .int .i64 ((k + 1 : Nat) : Int)] v L) (hE : EnvB b px m fn w) (hL : LsOk E L) (hk : k + 1 ≤ 20) :
    Calls Tryz.prog 53 #[.pointer (some ⟨b, 0, none⟩), .int .i64 ar] w fun e w' => ∃ vv ev, e = .returned (.tuple #[vv, ev]) ∧ QsB E w w' b n (.slice px m pcap) k v L vv ev := by
  have HOP : Hid (Calls Tryz.prog 66 #[.pointer (some ⟨b, 0, none⟩)] w fun e w' => ∃ ev, e = .returned ev ∧ RdL w w' b n [.slice px m pcap, .int .i64 ((k + 1 : Nat) : Int)] v L L.tail ∧ (ev = .nilIface ∨ ∃ B, ev = errV B)) := opens_gen w h
  have hb := h.lt
  have HVL : Hid (∀ j, v.ownBlock = some j → j < w.heap.size) := fun j hj => by have h := h.row.lt hj; exact h
  have HQ : Hid (QueueC E b n px m pcap fn ar) := hQ
  have HE : Hid (EnvB b px m fn w) := hE
  have HLS : Hid (LsOk E L) := hL
  have HKK : Hid (k + 1 ≤ 20) := hk
  obtain ⟨i0, hi, hz0, hz1, hz2⟩ := info_parts infoQueueP
  obtain ⟨tv, htv⟩ : ∃ tv, Value.slice px m pcap = tv := ⟨_, rfl⟩
  rw [htv] at HOP ⊢
  have HTV : Hid (Value.slice px m pcap = tv) := htv
  clear h hE hL hQ hk htv
  go_enter Tryz.func53, Tryz.ntmps53
  go_wp2_with fail
  refine HOP.out.mono ?_
  rintro e w1 ⟨ev, rfl, hr1, hev⟩
  rcases hev with rfl | ⟨B, rfl⟩
  rotate_left
  · unfold errV
    go_wp2
    (try simp only [Exit.inBlock, Exit.then])
    go_ret2
    obtain ⟨v1, h1, h2, h3, h4⟩ := hr1
    exact ⟨_, _, rfl, k + 1, L.tail, v1, h1, h2, h3, h4, Nat.le_refl _, Or.inl ⟨B, rfl, rfl⟩⟩
  have HR1 : Hid (RdL w w1 b n [tv, .int .i64 ((k + 1 : Nat) : Int)] v L L.tail) := hr1
  clear hr1
  go_wp2
  go_loopw [7] (fun vv wr => ∃ (qs : List AQ) (v' : Value) (L' : List (List UInt8 × Nat)), GqL E w b n tv k v L qs vv v' L' wr) (fun vv _ => 21 - lenV vv)
  case atStart =>
    obtain ⟨v1, h1, h2, h3, h4⟩ := HR1.out
    exact ⟨[], v1, L.tail, ⟨⟨Seg.nil _ _ _, fun q hq => by simp at hq, fun q hq => by simp at hq, fun q hq => by simp at hq, fun i i' q q' k hq => by simp at hq, fun g hg => by simp [Value.ownBlock] at hg, h4⟩, h1, h2, h3, HKK.out⟩⟩
  case round =>
    obtain ⟨qs, v', L', hgl⟩ := hrel
    have HGL : Hid (GqL E w b n tv k v L qs u7 v' L' wr) := hgl
    have hws := hgl.all.ot.size
    obtain ⟨j, hj⟩ : ∃ j, qs.length = j := ⟨_, rfl⟩
    have HJ : Hid (qs.length = j) := hj
    have hj20 : j ≤ 20 := by
      have h1 := aqK_ge (qs := qs) (fun q hq => (hgl.all.ok q hq).one)
      have h2 := hgl.few
      omega
    have HLV : Hid (lenV u7 = j) := by
      show _ = _
      rcases hgl.all.row.form with ⟨h, h0, _⟩ | ⟨_, _, _, h, _⟩ <;> rw [h] <;> simp [lenV] <;> omega
    have HCQ : Hid (Calls Tryz.prog 19 #[.pointer (some ⟨b, 0, none⟩), .int .i64 ar] wr fun e w' => QkB E wr w' b n tv (k + 1 + aqK qs) v' L' e) := by
      have h1 := hgl.rd
      rw [← HTV.out] at h1 ⊢
      exact HQ.out _ v' L' wr h1 (HE.out.ot hgl.all.ot) (HLS.out.sub hgl.sub) hgl.few
    have HSG : Hid (Seg wr 26 1 u7 j (qs.map aqC)) := by
      have := hgl.all.row
      rw [hj] at this
      exact this
    clear hgl hj
    go_wp2_with fail
    refine HCQ.out.mono ?_
    rintro e w2 ⟨m1, L2, v2, hqk, hm1, hk2, hr2, hv2, hin2, ho2⟩
    have HO2 : Hid (Ot (fun k => k = b) wr w2) := ho2
    have HR2 : Hid (RdAt w2 b 65 n [tv, .int .i64 ((k + 1 + aqK qs + m1 : Nat) : Int)] v2 L2) := hr2
    have HV2 : Hid (v2.ownBlock = v.ownBlock) := hv2.trans HGL.out.ow
    have HI2 : Hid (∀ y ∈ L2, y ∈ L) := fun y hy => HGL.out.sub y (hin2 y hy)
    have HM1 : Hid (1 ≤ m1) := hm1
    have HK2 : Hid (k + 1 + aqK qs + m1 ≤ 20 ∨ ∃ B, e = .returned (.tuple #[.nilIface, errV B])) := hk2
    clear ho2 hr2 hv2 hin2 hm1 hk2
    rcases hqk with ⟨B, rfl⟩ | ⟨M, cont, s0, F, rfl, hM, hK, hT, hinv, hc, hat, hF⟩
    · unfold errV
      clear HK2
      go_wp2
      (try simp only [Exit.inBlock, Exit.then])
      go_ret2
      exact ⟨_, _, rfl, _, L2, v2, HR2.out, HV2.out, HI2.out, HGL.out.all.ot.trans HO2.out, by have := HM1.out; omega, Or.inl ⟨B, rfl, rfl⟩⟩
    · have HK3 : Hid (k + 1 + aqK qs + m1 ≤ 20) := by
        rcases HK2.out with h | ⟨B, h⟩
        · exact h
        · simp [errV] at h
      have HOK : Hid (AQ.Ok ⟨M, cont, m1, s0, F⟩ E) := ⟨hM, hK, hT, hinv, hc, HM1.out⟩
      have HAT : Hid (M.At w2 F s0) := hat
      have HF : Hid (∀ k, F k → wr.heap.size ≤ k) := hF
      have HS2 : Hid (Seg w2 26 1 u7 j (qs.map aqC)) := HSG.out.oth HO2.out (fun g hg e => by have := HGL.out.all.own g hg; omega)
      obtain ⟨x, hx⟩ : ∃ x, L2.headD (endS n) = x := ⟨_, rfl⟩
      have HNX : Hid (∀ w3 v3, v3 = v2 → RdAt w3 b 65 n [tv, .int .i64 ((k + 1 + aqK qs + m1 : Nat) : Int)] v3 L2 → Calls Tryz.prog 20 #[.pointer (some ⟨b, 0, none⟩)] w3 fun e w' => e = .returned (.agg #[.string ⟨x.1.toArray⟩, .int .i64 x.2]) ∧ ∃ v4, RdAt w' b 65 n [tv, .int .i64 ((k + 1 + aqK qs + m1 : Nat) : Int)] v4 L2.tail ∧ v4.ownBlock = v.ownBlock ∧ Ot (fun k => k = b) w3 w') := by
        rintro w3 v3 rfl hr
        refine (sgnext_any w3 hr).mono ?_
        rw [hx]
        rintro e w' ⟨rfl, v4, h1, h2, h3⟩
        exact ⟨rfl, v4, h1, h2.trans HV2.out, h3⟩
      have HIT : Hid (∀ y ∈ L2.tail, y ∈ L) := fun y hy => HI2.out y (List.mem_of_mem_tail hy)
      have HKQ : Hid (k + 1 + aqK (qs ++ [⟨M, cont, m1, s0, F⟩]) = k + 1 + aqK qs + m1) := by
        show _ = _
        rw [aqK_snoc]; show _ + (_ + m1) = _; omega
      clear hM hK hT hinv hc hat hF hx HK2 HCQ HSG
      cases o1 : (x.1 == [41]) with
      | true =>
        go_wp2_with (first | (at_builtin; refine wpList_append_seg _ rfl (.tmp 25) (.tmp 27) 134 rfl 26 i0 _ 1 16 Tryz.underlying134 hi hz0 hz1 hz2 rfl (by decide) _ _ _ rfl (HS2.out.below (by repeat' (first | with_reducible exact Below.refl _ _ | with_reducible refine Below.drew ?_ | with_reducible refine below_alloc_ ?_ _))) _ 1 1 _ rfl rfl (news_of (new_block_ (by simp))) (by simp [Value.oneCell']) (by decide) (by unfold maxLen; omega) (by omega) _ rfl ?_; intro g goff gcap w3 hs3 hg3 ha3 hl3; have HB3 : Hid (GqR E w b (qs ++ [⟨M, cont, m1, s0, F⟩]) (.slice (some ⟨g, goff, none⟩) (j + 1) gcap) w3) := (by have hh := HGL.out.all.step hb (q := ⟨M, cont, m1, s0, F⟩) HOK.out HAT.out HF.out HO2.out (by rw [HJ.out]; exact hs3) hg3 ha3; rw [HJ.out] at hh; exact hh); have HR3 : Hid (RdAt w3 b 65 n [tv, .int .i64 ((k + 1 + aqK qs + m1 : Nat) : Int)] v2 L2) := (HR2.out.below (below_alloc_ (Below.refl _ _) _)).kept (hg3.block b (by simp; have := HR2.out.lt; omega) (fun e => by have := HGL.out.all.own b e.symm; omega)) (fun i hi => hg3.block i (by simp; have := HR2.out.row.lt hi; omega) (fun e => by have h1 := HGL.out.all.own i e.symm; rw [HV2.out] at hi; have h2 := HVL.out i hi; omega)); clear hs3 hg3 ha3) | (go_at_call 20; refine (HNX.out w3 v2 rfl HR3.out).mono ?_; rintro e w4 ⟨rfl, v4, hr4, hv4, ho4⟩; have HB4 : Hid (GqR E w b (qs ++ [⟨M, cont, m1, s0, F⟩]) (.slice (some ⟨g, goff, none⟩) (j + 1) gcap) w4) := HB3.out.ots hb ho4; have HR4 : Hid (RdAt w4 b 65 n [tv, .int .i64 ((k + 1 + aqK qs + m1 : Nat) : Int)] v4 L2.tail) := hr4; have HV4 : Hid (v4.ownBlock = v.ownBlock) := hv4; clear hr4 hv4 ho4))
        (try simp only [Exit.inBlock, Exit.then])
        go_ret2
        have hr := HR4.out.below (below_alloc_ (Below.refl _ _) (.cells #[.string ⟨x.1.toArray⟩, .int .i64 x.2] 60))
        have hbq := HB4.out.ots hb ((Ot.refl _ _).alloc (.cells #[.string ⟨x.1.toArray⟩, .int .i64 x.2] 60))
        exact ⟨_, _, rfl, _, L2.tail, v4, hr, HV4.out, HIT.out, hbq.ot, by omega, Or.inr ⟨rfl, qs ++ [⟨M, cont, m1, s0, F⟩], hbq, HKQ.out.symm, HK3.out, by simp⟩⟩
      | false =>
        cases o2 : (x.1 == [44]) with
        | true =>
          go_wp2_with (first | (at_builtin; refine wpList_append_seg _ rfl (.tmp 25) (.tmp 27) 134 rfl 26 i0 _ 1 16 Tryz.underlying134 hi hz0 hz1 hz2 rfl (by decide) _ _ _ rfl (HS2.out.below (by repeat' (first | with_reducible exact Below.refl _ _ | with_reducible refine Below.drew ?_ | with_reducible refine below_alloc_ ?_ _))) _ 1 1 _ rfl rfl (news_of (new_block_ (by simp))) (by simp [Value.oneCell']) (by decide) (by unfold maxLen; omega) (by omega) _ rfl ?_; intro g goff gcap w3 hs3 hg3 ha3 hl3; have HB3 : Hid (GqR E w b (qs ++ [⟨M, cont, m1, s0, F⟩]) (.slice (some ⟨g, goff, none⟩) (j + 1) gcap) w3) := (by have hh := HGL.out.all.step hb (q := ⟨M, cont, m1, s0, F⟩) HOK.out HAT.out HF.out HO2.out (by rw [HJ.out]; exact hs3) hg3 ha3; rw [HJ.out] at hh; exact hh); have HR3 : Hid (RdAt w3 b 65 n [tv, .int .i64 ((k + 1 + aqK qs + m1 : Nat) : Int)] v2 L2) := (HR2.out.below (below_alloc_ (Below.refl _ _) _)).kept (hg3.block b (by simp; have := HR2.out.lt; omega) (fun e => by have := HGL.out.all.own b e.symm; omega)) (fun i hi => hg3.block i (by simp; have := HR2.out.row.lt hi; omega) (fun e => by have h1 := HGL.out.all.own i e.symm; rw [HV2.out] at hi; have h2 := HVL.out i hi; omega)); clear hs3 hg3 ha3) | (go_at_call 20; refine (HNX.out w3 v2 rfl HR3.out).mono ?_; rintro e w4 ⟨rfl, v4, hr4, hv4, ho4⟩; have HB4 : Hid (GqR E w b (qs ++ [⟨M, cont, m1, s0, F⟩]) (.slice (some ⟨g, goff, none⟩) (j + 1) gcap) w4) := HB3.out.ots hb ho4; have HR4 : Hid (RdAt w4 b 65 n [tv, .int .i64 ((k + 1 + aqK qs + m1 : Nat) : Int)] v4 L2.tail) := hr4; have HV4 : Hid (v4.ownBlock = v.ownBlock) := hv4; clear hr4 hv4 ho4))
          go_roundw
          case rel =>
            refine ⟨qs ++ [⟨M, cont, m1, s0, F⟩], v4, L2.tail, ⟨HB4.out.ots hb ((Ot.refl _ _).alloc _), ?_, HV4.out, HIT.out, by rw [HKQ.out]; exact HK3.out⟩⟩
            rw [HKQ.out]
            exact HR4.out.below (below_alloc_ (Below.refl _ _) (.cells #[.string ⟨x.1.toArray⟩, .int .i64 x.2] 60))
          case measure =>
            show 21 - (j + 1) < 21 - lenV u7
            rw [HLV.out]; omega
        | false =>
          go_wp2_with (first | (at_builtin; refine wpList_append_seg _ rfl (.tmp 25) (.tmp 27) 134 rfl 26 i0 _ 1 16 Tryz.underlying134 hi hz0 hz1 hz2 rfl (by decide) _ _ _ rfl (HS2.out.below (by repeat' (first | with_reducible exact Below.refl _ _ | with_reducible refine Below.drew ?_ | with_reducible refine below_alloc_ ?_ _))) _ 1 1 _ rfl rfl (news_of (new_block_ (by simp))) (by simp [Value.oneCell']) (by decide) (by unfold maxLen; omega) (by omega) _ rfl ?_; intro g goff gcap w3 hs3 hg3 ha3 hl3; have HB3 : Hid (GqR E w b (qs ++ [⟨M, cont, m1, s0, F⟩]) (.slice (some ⟨g, goff, none⟩) (j + 1) gcap) w3) := (by have hh := HGL.out.all.step hb (q := ⟨M, cont, m1, s0, F⟩) HOK.out HAT.out HF.out HO2.out (by rw [HJ.out]; exact hs3) hg3 ha3; rw [HJ.out] at hh; exact hh); have HR3 : Hid (RdAt w3 b 65 n [tv, .int .i64 ((k + 1 + aqK qs + m1 : Nat) : Int)] v2 L2) := (HR2.out.below (below_alloc_ (Below.refl _ _) _)).kept (hg3.block b (by simp; have := HR2.out.lt; omega) (fun e => by have := HGL.out.all.own b e.symm; omega)) (fun i hi => hg3.block i (by simp; have := HR2.out.row.lt hi; omega) (fun e => by have h1 := HGL.out.all.own i e.symm; rw [HV2.out] at hi; have h2 := HVL.out i hi; omega)); clear hs3 hg3 ha3) | (go_at_call 20; refine (HNX.out w3 v2 rfl HR3.out).mono ?_; rintro e w4 ⟨rfl, v4, hr4, hv4, ho4⟩; have HB4 : Hid (GqR E w b (qs ++ [⟨M, cont, m1, s0, F⟩]) (.slice (some ⟨g, goff, none⟩) (j + 1) gcap) w4) := HB3.out.ots hb ho4; have HR4 : Hid (RdAt w4 b 65 n [tv, .int .i64 ((k + 1 + aqK qs + m1 : Nat) : Int)] v4 L2.tail) := hr4; have HV4 : Hid (v4.ownBlock = v.ownBlock) := hv4; clear hr4 hv4 ho4) | (go_at_call 22; refine (wrongS_any _ _ _ _).mono ?_; rintro e w5 ⟨B, rfl, hb5⟩))
          (try simp only [Exit.inBlock, Exit.then])
          go_ret2
          have hr := (HR4.out.below (below_alloc_ (Below.refl _ _) (.cells #[.string ⟨x.1.toArray⟩, .int .i64 x.2] 60))).below hb5
          exact ⟨_, _, rfl, _, L2.tail, v4, hr, HV4.out, HIT.out, ((HB4.out.ot.alloc (.cells #[.string ⟨x.1.toArray⟩, .int .i64 x.2] 60))).trans (Ot.of_below hb5), by omega, Or.inl ⟨B, rfl, rfl⟩⟩
end Go.Proofs.YtfakjedolecdcaaGreatDoor
namespace Go.Proofs.YtfakjedolecdcaaGreatDoor
open Go.RowKit Go.Extern.Stop Go.Stop Go.Extern
variable {E : Prop}

theorem putF_perm (P R : Int) (hd : Bool) (L : List Hd) (x : Hd) : (L ++ [x]).Perm ((putF P R hd L x).1 ++ (putF P R hd L x).2) := by
  unfold putF
  split
  · rw [cutL_parts]
  · split
    · exact List.perm_append_comm
    · exact List.Perm.refl _
theorem red_late (b : Nat) (P R : Int) (q : RSet) : (RedM b P R q).Late E (fun s => List.map nl (RdS.L s)) where
  put := by
    intro (s : RdS) t n now x hI _ _ _ _ _ _ _
    show (s.L.map nl ++ [nl x]).Perm ((putR P R q s x).2.map nl ++ (putR P R q s x).1.L.map nl)
    obtain ⟨e1, _, _, _⟩ := hitR_L q (sumR q s) hI.2.2.1.1
    have e1' : (hitR q (sumR q s)).2.L = s.L := e1
    unfold putR
    split
    · split
      · have := (putF_perm P R false s.L (marked x)).map nl
        rw [List.map_append, List.map_append] at this
        exact this
      · show (s.L.map nl ++ [nl x]).Perm ([nl x] ++ (hitR q (sumR q s)).2.L.map nl)
        rw [e1']
        exact List.perm_append_comm
    · have := (putF_perm P R false s.L x).map nl
      rw [List.map_append, List.map_append] at this
      exact this
  take := by
    intro (s : RdS) t n now hI _ _ _ _
    show (s.L.map nl).Perm (([] : List Hd).map nl ++ ((if !s.L.isEmpty then [nl (hdOr s.L)] else []) ++ s.L.tail.map nl))
    cases h : s.L with
    | nil => exact List.Perm.refl _
    | cons y L => exact List.Perm.refl _
  when := fun now _ _ _ _ _ => List.Perm.refl _
  len := by
    intro (s : RdS) t n _
    show (s.L.length : Int) ≤ ((s.L.map nl).length : Int)
    rw [List.length_map]; exact Int.le_refl _
  bytes := by
    intro (s : RdS) t n _
    show sumL s.L ≤ sumP (s.L.map nl)
    rw [sumP_nl]; exact Int.le_refl _
  full := by
    intro _ (s : RdS) t n _
    show (s.L.length : Int) = ((s.L.map nl).length : Int)
    rw [List.length_map]
theorem red_tame (b : Nat) (P R : Int) (q : RSet) : (RedM b P R q).Tame 1 where
  mono := fun {t t' n n' s} h _ hn => ⟨Nat.le_trans h.1 hn, h.2.1, ⟨h.2.2.1.1, by have := h.2.2.1.2; omega⟩, h.2.2.2.1, by have := h.2.2.2.2; omega⟩
  len := by
    intro t n (s : RdS) h hn
    obtain ⟨h3, h4⟩ := sumL_small h.2.1
    have h1 : s.L.length ≤ n := h.1
    show (0 ≤ (s.L.length : Int) ∧ (s.L.length : Int) ≤ _) ∧ 0 ≤ sumL s.L ∧ sumL s.L ≤ _
    omega
  few := fun now _ _ => Nat.zero_le _
theorem red_qk {w0 w' : World} {b : Nat} {P R : Int} {q : RSet} {tv : Value} {tp : List Int} (h : RedP w' b P R q (.slice none 0 0) tv ⟨[], tp, 0, 0⟩) (hb : w0.heap.size ≤ b) (ht : ∀ k, tv.ownBlock = some k → w0.heap.size ≤ k) (hq : q.Ok) (hP : 0 ≤ P) (hR : 0 ≤ R) (hR1 : R ≤ 1000000) : Qk E 1 w0 w' (.returned (.tuple #[.iface 116 (.pointer (some ⟨b, 0, none⟩)), .nilIface])) :=
  Or.inr ⟨RedM b P R q, (fun s => List.map nl (RdS.L s)), (⟨[], tp, 0, 0⟩ : RdS), (fun k => k = b ∨ (Value.slice none 0 0).ownBlock = some k ∨ tv.ownBlock = some k), rfl, redM_fine b P R q hq hP hR hR1, red_late b P R q, red_tame b P R q, ⟨Nat.le_refl _, by simp, ⟨Int.le_refl _, Int.le_refl _⟩, Int.le_refl _, by show (0 : Int) ≤ 10000000 * ((0 : Nat) : Int); decide⟩, rfl, ⟨.slice none 0 0, tv, h, fun k => Iff.rfl⟩, fun k hk => by
    rcases hk with rfl | hk | hk
    · exact hb
    · simp [Value.ownBlock] at hk
    · exact ht k hk⟩
theorem newRed_gen (q : RSet) (P R : Int) {px : Option Addr} {m pcap : Nat} {f : Nat → Int} (w : World) (h : IRow w px m f) (hn : px = none → m = 0 ∧ pcap = 0) (hm : m ≤ 1000) :
    Calls Tryz.prog 47 #[q.val, .int .i64 P, .int .i64 R, .slice px m pcap] w fun e w' => ∃ qv ev, e = .returned (.tuple #[.pointer qv, ev]) ∧ Hid (Below w.heap.size w w') ∧ ((ev = .nilIface ∧ ∃ b, qv = some ⟨b, 0, none⟩ ∧ Hid (Qk E 1 w w' (.returned (.tuple #[.iface 116 (.pointer (some ⟨b, 0, none⟩)), .nilIface])))) ∨ ∃ c, ev = .iface 57 (.int .i64 c)) := by
  by_cases hr : 0 ≤ P ∧ P ≤ 1000000 ∧ 0 ≤ R ∧ R ≤ 1000000
  · by_cases hq : q.Ok
    · refine (newRed_yes q P R w h hn hm hq hr.1 hr.2.1 hr.2.2.1 hr.2.2.2).mono ?_
      rintro e w' ⟨b, tv, rfl, hp, hb, ht, hbl⟩
      exact ⟨_, _, rfl, hbl, Or.inl ⟨rfl, b, rfl, red_qk hp hb ht hq hr.1 hr.2.2.1 hr.2.2.2⟩⟩
    · refine (newRed_setup q P R w hq hr.1 hr.2.1 hr.2.2.1 hr.2.2.2).mono ?_
      rintro e w' ⟨rfl, hb⟩
      exact ⟨_, _, rfl, hb, Or.inr ⟨_, rfl⟩⟩
  · refine (newRed_room q P R w hr).mono ?_
    rintro e w' ⟨rfl, hb⟩
    exact ⟨_, _, rfl, hb, Or.inr ⟨_, rfl⟩⟩
end Go.Proofs.YtfakjedolecdcaaGreatDoor
