/-
  package link with whatever queue: the next time that is looked at. Conditions: the queue's methods do what a model of it tells (a premise).
  A bucket on its way, in memory: worth, pour, pass, draw, Check, tell and Take of package bucket: what each returns, what it leaves in the state, and that nothing else that was there before is otherwise. Conditions: a bucket that may be, a level within its room, times up to MaxTime.
  bucket.Check, tell and Take, New: what each returns, what it leaves in the state, and that nothing else that was there before is otherwise. Conditions: those of the texts ahead; Check and New: none.
  bucket.open: of a bucket that may not be what Check says; of packets that may not be what List says; else a full bucket; nothing that was there before is otherwise. Conditions: errors.errorType holds its handle; the packets lie in memory.
-/
import Derived.Test.YtfakjedolecdcaaGreatDoorU9
import Derived.Test.YtfakjedolecdcaaGreatDoorBkMath
import Derived.Deep.RegionHeld3
import Derived.Deep.RegionWith
import Derived.Test.YtfakjedolecdcaaGreatDoorU2
import Derived.Shelf.Abstract
namespace Go.Proofs.YtfakjedolecdcaaGreatDoor
open Go.RowKit Go.Extern.Stop Go.Stop Go.Extern

/-- When the next one may go, if nothing comes. -/
def goesS (M : QM) (now : Int) (S : LkS M.σ) : LkS M.σ × Int × Bool :=
  if M.len S.s ≤ 0 then (S, 0, false)
  else if now < S.free then (S, S.free, true)
  else ({ S with s := (M.when S.s (now + 1)).1 }, max (M.when S.s (now + 1)).2.1 (now + 1), (M.when S.s (now + 1)).2.2)
/-- The next time. -/
def nextS (M : QM) (items : List It) (now : Int) (S : LkS M.σ) : LkS M.σ × Int × Bool :=
  match items[S.put]? with
  | some x => ((goesS M now S).1, if (goesS M now S).2.2 = true then min x.a (goesS M now S).2.1 else x.a, true)
  | none => goesS M now S
set_option maxHeartbeats 2000000 in
theorem goes_any {M : QM} (hM : M.Fine) {C : LkC} (hC : C.Good) {S : LkS M.σ} {now : Int} (w : World) (h : LkW M C S w) (h2 : now ≤ 10000000) (hI : ∃ tI, 0 ≤ tI ∧ tI ≤ now ∧ M.inv tI S.put S.s) (hput : S.put ≤ C.items.length) :
    Calls Tryz.prog 56 #[.pointer (some ⟨C.bw, 0, none⟩), .int .i64 now] w fun e w' => e = .returned (.tuple #[.int .i64 (goesS M now S).2.1, .bool (goesS M now S).2.2]) ∧ LkW M C (goesS M now S).1 w' := by
  have HM : Hid M.Fine := hM
  have HW0 : Hid (LkW M C S w) := h
  obtain ⟨F, sv, lv, hat⟩ := h
  have HA : Hid (LkAt M C S w F sv lv) := hat
  have hlen := hC.len
  obtain ⟨tI, t0, t1, hinv⟩ := hI
  have HLN : Hid (Calls Tryz.prog M.fL #[M.rL] w fun e w' => e = .returned (.int .i64 (M.len S.s)) ∧ Below w.heap.size w w') := HM.out.cL hat.que hinv (by omega)
  have HWN : Hid (∀ W, Below w.heap.size w W → Calls Tryz.prog M.fW #[M.rW, .int .i64 (now + 1)] W fun e w' => e = .returned (.tuple #[.int .i64 (M.when S.s (now + 1)).2.1, .bool (M.when S.s (now + 1)).2.2]) ∧ LkW M C { S with s := (M.when S.s (now + 1)).1 } w') := by
    intro W hW
    have hAW := HA.out.below HM.out hW
    refine (HM.out.cW (now + 1) hAW.que hinv t0 (by omega) (by omega) (by omega)).mono ?_
    rintro e w4 ⟨F4, rfl, ha4, hf4, ho4⟩
    exact ⟨rfl, F4, sv, lv, hAW.queue (S' := { S with s := (M.when S.s (now + 1)).1 }) ho4 ha4 hf4 rfl rfl rfl rfl rfl⟩
  have hmL := hM.mL
  have heL := hM.eL
  have hmW := hM.mW
  have heW := hM.eW
  have hn0 : 0 ≤ now := by omega
  obtain ⟨c0, _⟩ := hat.cells
  clear hinv hM hC hat
  by_cases h0 : M.len S.s ≤ 0
  · have e0 : goesS M now S = (S, 0, false) := by unfold goesS; rw [if_pos h0]
    rw [e0]
    have HL0 : Hid (M.len S.s ≤ 0) := h0
    go_enter Tryz.func56, Tryz.ntmps56
    go_wp2_with fail
    refine HLN.out.mono ?_
    rintro e w1 ⟨rfl, hb1⟩
    have hd : decide (M.len S.s ≤ 0) = true := decide_eq_true HL0.out
    go_wp2
    go_ret2
    exact ⟨rfl, HW0.out.below HM.out hb1⟩
  · by_cases hb : now < S.free
    · have e0 : goesS M now S = (S, S.free, true) := by unfold goesS; rw [if_neg h0, if_pos hb]
      rw [e0]
      have HL0 : Hid (¬ M.len S.s ≤ 0) := h0
      have HBF : Hid (now < S.free) := hb
      clear h0
      go_enter Tryz.func56, Tryz.ntmps56
      go_wp2_with fail
      refine HLN.out.mono ?_
      rintro e w1 ⟨rfl, hb1⟩
      have hd : decide (M.len S.s ≤ 0) = false := by simp only [decide_eq_false_iff_not]; have := HL0.out; omega
      obtain ⟨_, _, _, _, _, c5, _⟩ := (HA.out.below HM.out hb1).cells
      generalize M.len S.s = ln at *
      go_wp2_with (go_at_call 57; refine (busy_any (free := S.free) now _ c5).mono ?_; rintro e w' ⟨rfl, rfl⟩)
      go_ret2
      exact ⟨rfl, HW0.out.below HM.out hb1⟩
    · have e0 : goesS M now S = ({ S with s := (M.when S.s (now + 1)).1 }, max (M.when S.s (now + 1)).2.1 (now + 1), (M.when S.s (now + 1)).2.2) := by unfold goesS; rw [if_neg h0, if_neg hb]
      rw [e0]
      have HL0 : Hid (¬ M.len S.s ≤ 0) := h0
      clear h0
      generalize M.when S.s (now + 1) = Wn at *
      obtain ⟨s2, at2, ok2⟩ := Wn
      simp only at HWN ⊢
      go_enter Tryz.func56, Tryz.ntmps56
      go_wp2_with fail
      refine HLN.out.mono ?_
      rintro e w1 ⟨rfl, hb1⟩
      have hd : decide (M.len S.s ≤ 0) = false := by simp only [decide_eq_false_iff_not]; have := HL0.out; omega
      obtain ⟨c10, _, _, _, _, c5, _⟩ := (HA.out.below HM.out hb1).cells
      have HB1 : Hid (Below w.heap.size w w1) := hb1
      generalize M.len S.s = ln at *
      go_wp2_with (go_at_call 57; refine (busy_any (free := S.free) now _ c5).mono ?_; rintro e w' ⟨rfl, rfl⟩)
      refine (HWN.out _ HB1.out).mono ?_
      rintro e w2 ⟨rfl, hw2⟩
      have HW2 : Hid (LkW M C { S with s := s2 } w2) := hw2
      clear hw2
      by_cases hm : at2 < now + 1
      · have HE : Hid (max at2 (now + 1) = now + 1) := by show _ = _; omega
        go_wp2
        go_ret2
        exact ⟨by rw [HE.out]; rfl, HW2.out⟩
      · have HE : Hid (max at2 (now + 1) = at2) := by show _ = _; omega
        go_wp2
        go_ret2
        exact ⟨by rw [HE.out]; rfl, HW2.out⟩
set_option maxHeartbeats 2000000 in
theorem next_step {M : QM} (hM : M.Fine) {C : LkC} (hC : C.Good) {S : LkS M.σ} {now : Int} (w : World) (h : LkW M C S w) (h2 : now ≤ 10000000) (hI : ∃ tI, 0 ≤ tI ∧ tI ≤ now ∧ M.inv tI S.put S.s) (hput : S.put ≤ C.items.length) :
    Calls Tryz.prog 41 #[.pointer (some ⟨C.bw, 0, none⟩), .int .i64 now] w fun e w' => e = .returned (.tuple #[.int .i64 (nextS M C.items now S).2.1, .bool (nextS M C.items now S).2.2]) ∧ LkW M C (nextS M C.items now S).1 w' := by
  have HM : Hid M.Fine := hM
  have HC : Hid C.Good := hC
  obtain ⟨F, sv, lv, hat⟩ := h
  have HA : Hid (LkAt M C S w F sv lv) := hat
  have HG : Hid (∀ W, Below w.heap.size w W → Calls Tryz.prog 56 #[.pointer (some ⟨C.bw, 0, none⟩), .int .i64 now] W fun e w' => e = .returned (.tuple #[.int .i64 (goesS M now S).2.1, .bool (goesS M now S).2.2]) ∧ LkW M C (goesS M now S).1 w') := fun W hW => goes_any HM.out HC.out W ⟨F, sv, lv, HA.out.below HM.out hW⟩ h2 hI hput
  have HPU : Hid ((goesS M now S).1.put = S.put) := by
    show _ = _
    unfold goesS
    split
    · rfl
    · split <;> rfl
  obtain ⟨c0, c1, c2, c3, c4, c5, c6, f4, f5, hbw, hbg⟩ := hat.cells
  have hlen := hC.len
  cases hx : C.items[S.put]? with
  | some x =>
    have hlt : S.put < C.items.length := (List.getElem?_eq_some_iff.1 hx).1
    have e0 : nextS M C.items now S = ((goesS M now S).1, if (goesS M now S).2.2 = true then min x.a (goesS M now S).2.1 else x.a, true) := by unfold nextS; rw [hx]
    rw [e0]
    have HX : Hid (C.items[S.put]? = some x) := hx
    have HLT : Hid (S.put < C.items.length) := hlt
    clear hx e0 hM hC hat hI
    generalize goesS M now S = G at *
    obtain ⟨S2, g2, ok2⟩ := G
    simp only at HG HPU ⊢
    obtain ⟨q, hq⟩ : ∃ q, C.items.length = q := ⟨_, rfl⟩
    have HQ : Hid (C.items.length = q) := hq
    rw [hq] at c3 hlt hlen
    clear hq
    go_enter Tryz.func41, Tryz.ntmps41
    go_wp2
    go_quiet (fail)
    go_wp2_with fail
    refine (HG.out _ ?_).mono ?_
    · exact ⟨rfl, rfl, rfl, Nat.le_refl _, fun _ _ => rfl⟩
    rintro e w2 ⟨rfl, hw2⟩
    have HW2 : Hid (LkW M C S2 w2) := hw2
    obtain ⟨F2, sv2, lv2, hA2⟩ := hw2
    clear c0 c1 c2 c3 c4 c5 c6 f4 f5 hbw hbg
    obtain ⟨c0, c1, c2, c3, c4, c5, c6, f4, f5, hbw, hbg⟩ := hA2.cells
    obtain ⟨xb, xo, hxe, hxl, hxf, x0, x1, x2, x3, x4⟩ := hA2.item HC.out HX.out
    rw [HQ.out, hxe] at c3
    rw [HPU.out] at c4
    clear hA2 hxe
    cases ok2 with
    | true =>
      by_cases hm : g2 < x.a
      · have HE : Hid (min x.a g2 = g2) := by show _ = _; omega
        go_wp2
        go_region
        all_goals
          go_wp2
          go_ret2
          exact ⟨by rw [HE.out]; rfl, HW2.out.below HM.out ⟨rfl, rfl, rfl, Nat.le_refl _, fun _ _ => rfl⟩⟩
      · have HE : Hid (min x.a g2 = x.a) := by show _ = _; omega
        go_wp2
        go_region
        all_goals
          go_wp2
          go_ret2
          exact ⟨by rw [HE.out]; rfl, HW2.out.below HM.out ⟨rfl, rfl, rfl, Nat.le_refl _, fun _ _ => rfl⟩⟩
    | false =>
      go_wp2
      go_quiet (fail)
      go_wp2
      go_ret2
      exact ⟨rfl, HW2.out.below HM.out ⟨rfl, rfl, rfl, Nat.le_refl _, fun _ _ => rfl⟩⟩
  | none =>
    have hlt : ¬ S.put < C.items.length := by have := List.getElem?_eq_none_iff.1 hx; omega
    have e0 : nextS M C.items now S = goesS M now S := by unfold nextS; rw [hx]
    rw [e0]
    clear hx e0 hM hC hat hI
    generalize goesS M now S = G at *
    obtain ⟨S2, g2, ok2⟩ := G
    simp only at HG HPU ⊢
    obtain ⟨q, hq⟩ : ∃ q, C.items.length = q := ⟨_, rfl⟩
    rw [hq] at c3 hlt hlen
    clear hq
    go_enter Tryz.func41, Tryz.ntmps41
    go_wp2
    go_quiet (fail)
    go_wp2_with fail
    refine (HG.out _ ?_).mono ?_
    · exact ⟨rfl, rfl, rfl, Nat.le_refl _, fun _ _ => rfl⟩
    rintro e w2 ⟨rfl, hw2⟩
    have HW2 : Hid (LkW M C S2 w2) := hw2
    clear hw2
    go_wp2
    go_ret2
    exact ⟨rfl, HW2.out⟩
end Go.Proofs.YtfakjedolecdcaaGreatDoor
namespace Go.Proofs.YtfakjedolecdcaaGreatDoor
open Go.RowKit Go.Extern.Stop Go.Stop Go.Extern

/-- Of what was there all is as it was, but blocks of S. -/
structure Oth (S : Nat → Prop) (w w' : World) : Prop where
  os : w'.os = w.os
  tape : w'.tape = w.tape
  output : w'.output = w.output
  size : w.heap.size ≤ w'.heap.size
  block : ∀ k, k < w.heap.size → ¬ S k → w'.heap[k]? = w.heap[k]?
theorem Oth.refl (S : Nat → Prop) (w : World) : Oth S w w := ⟨rfl, rfl, rfl, Nat.le_refl _, fun _ _ _ => rfl⟩
theorem Oth.trans {S : Nat → Prop} {a b c : World} (h : Oth S a b) (k : Oth S b c) : Oth S a c :=
  ⟨k.os.trans h.os, k.tape.trans h.tape, k.output.trans h.output, Nat.le_trans h.size k.size, fun i hi hs => (k.block i (Nat.lt_of_lt_of_le hi h.size) hs).trans (h.block i hi hs)⟩
theorem Oth.alloc {S : Nat → Prop} {a w : World} (h : Oth S a w) (o : Obj) : Oth S a (w.alloc o) :=
  h.trans ⟨rfl, rfl, rfl, by simp, fun k hk _ => Below.heap_alloc _ _ _ hk⟩
theorem Oth.setCell {S : Nat → Prop} {a w : World} (h : Oth S a w) {p : Addr} (hp : S p.block) (u : Value) : Oth S a (w.setCell p u) :=
  h.trans ⟨rfl, rfl, rfl, by simp [World.setCell], fun k _ hs => Below.heap_setCell _ _ _ _ (fun e => hs (e ▸ hp))⟩
theorem Oth.drewN {S : Nat → Prop} {a w : World} (h : Oth S a w) (n : Nat) : Oth S a (w.drewN n) := h.trans ⟨rfl, rfl, rfl, Nat.le_refl _, fun _ _ _ => rfl⟩
theorem Oth.drew {S : Nat → Prop} {a w : World} (h : Oth S a w) : Oth S a w.drew := h.trans ⟨rfl, rfl, rfl, Nat.le_refl _, fun _ _ _ => rfl⟩
theorem Oth.of_below {S : Nat → Prop} {w w' : World} (h : Below w.heap.size w w') : Oth S w w' := ⟨h.os, h.tape, h.output, h.size, fun k hk _ => h.block k hk⟩
theorem Oth.below {S : Nat → Prop} {w w' : World} (h : Oth S w w') {B : Nat} (hB : B ≤ w.heap.size) (hS : ∀ k, S k → B ≤ k) : Below B w w' := ⟨h.os, h.tape, h.output, h.size, fun k hk => h.block k (by omega) (fun hs => by have := hS k hs; omega)⟩
theorem Oth.then_below {S : Nat → Prop} {w a b : World} (h : Oth S w a) (k : Below w.heap.size a b) : Oth S w b := ⟨k.os.trans h.os, k.tape.trans h.tape, k.output.trans h.output, Nat.le_trans h.size k.size, fun i hi hs => (k.block i hi).trans (h.block i hi hs)⟩
theorem Oth.mono {S T : Nat → Prop} {w w' : World} (h : Oth S w w') (hST : ∀ k, S k → T k) : Oth T w w' := ⟨h.os, h.tape, h.output, h.size, fun k hk hs => h.block k hk (fun x => hs (hST k x))⟩
theorem Oth.cell {S : Nat → Prop} {w w' : World} (h : Oth S w w') {p : Addr} (hp : p.block < w.heap.size) (hs : ¬ S p.block) : w'.cell? p = w.cell? p := World.cell?_of_block (w := w) (h.block p.block hp hs)

/-- A bucket on its way lies in block s from cell o on (pre ahead of it, post behind it): bytes n in t ticks, room R, level, latest time. -/
def StG (w : World) (s o : Nat) (pre post : List Value) (ty : TypeId) (n t R lev lat : Int) : Prop := pre.length = o ∧ w.heap[s]? = some (.cells (pre ++ .int .i64 n :: .int .i64 t :: .int .i64 R :: .int .i64 lev :: .int .i64 lat :: post).toArray ty (0, 0))
/-- One that has a block of its own. -/
abbrev StAt (w : World) (s : Nat) (n t R lev lat : Int) : Prop := StG w s 0 [] [] 169 n t R lev lat
theorem stg_at (pre post : List Value) (a b c d e : Value) : (pre ++ a :: b :: c :: d :: e :: post)[pre.length]? = some a ∧ (pre ++ a :: b :: c :: d :: e :: post)[pre.length + 1]? = some b ∧ (pre ++ a :: b :: c :: d :: e :: post)[pre.length + 2]? = some c ∧ (pre ++ a :: b :: c :: d :: e :: post)[pre.length + 3]? = some d ∧ (pre ++ a :: b :: c :: d :: e :: post)[pre.length + 4]? = some e := by
  refine ⟨?_, ?_, ?_, ?_, ?_⟩
  all_goals
    rw [List.getElem?_append_right (by omega)]
    simp
theorem StG.cells {w : World} {s o : Nat} {pre post : List Value} {ty : TypeId} {n t R lev lat : Int} (h : StG w s o pre post ty n t R lev lat) : w.cell? ⟨s, o, none⟩ = some (.int .i64 n) ∧ w.cell? ⟨s, o + 1, none⟩ = some (.int .i64 t) ∧ w.cell? ⟨s, o + 2, none⟩ = some (.int .i64 R) ∧ w.cell? ⟨s, o + 3, none⟩ = some (.int .i64 lev) ∧ w.cell? ⟨s, o + 4, none⟩ = some (.int .i64 lat) ∧ w.frozen? ⟨s, o + 3, none⟩ = false ∧ w.frozen? ⟨s, o + 4, none⟩ = false := by
  obtain ⟨rfl, h⟩ := h
  obtain ⟨h0, h1, h2, h3, h4⟩ := stg_at pre post (.int .i64 n) (.int .i64 t) (.int .i64 R) (.int .i64 lev) (.int .i64 lat)
  refine ⟨?_, ?_, ?_, ?_, ?_, ?_, ?_⟩
  · simp [World.cell?, h]
  · simp [World.cell?, h]
  · simp [World.cell?, h]
  · simp [World.cell?, h]
  · simp [World.cell?, h]
  · simp [World.frozen?, h]
  · simp [World.frozen?, h]
theorem StAt.cells {w : World} {s : Nat} {n t R lev lat : Int} (h : StAt w s n t R lev lat) : w.cell? ⟨s, 0, none⟩ = some (.int .i64 n) ∧ w.cell? ⟨s, 1, none⟩ = some (.int .i64 t) ∧ w.cell? ⟨s, 2, none⟩ = some (.int .i64 R) ∧ w.cell? ⟨s, 3, none⟩ = some (.int .i64 lev) ∧ w.cell? ⟨s, 4, none⟩ = some (.int .i64 lat) ∧ w.frozen? ⟨s, 3, none⟩ = false ∧ w.frozen? ⟨s, 4, none⟩ = false := StG.cells h
theorem StG.lt {w : World} {s o : Nat} {pre post : List Value} {ty : TypeId} {n t R lev lat : Int} (h : StG w s o pre post ty n t R lev lat) : s < w.heap.size := lt_of_block h.2
theorem StG.same {w w' : World} {s o : Nat} {pre post : List Value} {ty : TypeId} {n t R lev lat : Int} (h : StG w s o pre post ty n t R lev lat) (he : w'.heap[s]? = w.heap[s]?) : StG w' s o pre post ty n t R lev lat := ⟨h.1, he.trans h.2⟩
theorem StG.kept {w w' : World} {s o : Nat} {pre post : List Value} {ty : TypeId} {n t R lev lat : Int} {S : Nat → Prop} (h : StG w s o pre post ty n t R lev lat) (ho : Oth S w w') (hs : ¬ S s) : StG w' s o pre post ty n t R lev lat := h.same (ho.block s h.lt hs)
theorem StG.alloc {w : World} {s o : Nat} {pre post : List Value} {ty : TypeId} {n t R lev lat : Int} (h : StG w s o pre post ty n t R lev lat) (ob : Obj) : StG (w.alloc ob) s o pre post ty n t R lev lat := h.same (Below.heap_alloc w ob s h.lt)
theorem StG.drewN {w : World} {s o : Nat} {pre post : List Value} {ty : TypeId} {n t R lev lat : Int} (h : StG w s o pre post ty n t R lev lat) (k : Nat) : StG (w.drewN k) s o pre post ty n t R lev lat := h
theorem set_at {α : Type} (pre post : List α) (a b : α) (k : Nat) (c : List α) (hk : c.length = k) : (pre ++ (c ++ a :: post)).set (pre.length + k) b = pre ++ (c ++ b :: post) := by
  subst hk
  rw [List.set_append_right _ _ (by omega), Nat.add_sub_cancel_left, List.set_append_right _ _ (Nat.le_refl _), Nat.sub_self]
  rfl
theorem StG.setLev {w : World} {s o : Nat} {pre post : List Value} {ty : TypeId} {n t R lev lat : Int} (h : StG w s o pre post ty n t R lev lat) (v : Int) : StG (w.setCell ⟨s, o + 3, none⟩ (.int .i64 v)) s o pre post ty n t R v lat := by
  refine ⟨h.1, ?_⟩
  obtain ⟨rfl, h⟩ := h
  have hlt := lt_of_block h
  have h' := Option.some.inj ((Array.getElem?_eq_getElem hlt).symm.trans h)
  show (w.heap.modify s _)[s]? = _
  rw [Array.getElem?_eq_getElem (by simpa using hlt), Array.getElem_modify_self, h']
  show some (Obj.cells _ _ _) = _
  rw [List.setIfInBounds_toArray]
  exact congrArg (fun l : List Value => some (Obj.cells l.toArray ty (0, 0))) (set_at pre (.int .i64 lat :: post) (.int .i64 lev) (.int .i64 v) 3 [.int .i64 n, .int .i64 t, .int .i64 R] rfl)
theorem StG.setLat {w : World} {s o : Nat} {pre post : List Value} {ty : TypeId} {n t R lev lat : Int} (h : StG w s o pre post ty n t R lev lat) (v : Int) : StG (w.setCell ⟨s, o + 4, none⟩ (.int .i64 v)) s o pre post ty n t R lev v := by
  refine ⟨h.1, ?_⟩
  obtain ⟨rfl, h⟩ := h
  have hlt := lt_of_block h
  have h' := Option.some.inj ((Array.getElem?_eq_getElem hlt).symm.trans h)
  show (w.heap.modify s _)[s]? = _
  rw [Array.getElem?_eq_getElem (by simpa using hlt), Array.getElem_modify_self, h']
  show some (Obj.cells _ _ _) = _
  rw [List.setIfInBounds_toArray]
  exact congrArg (fun l : List Value => some (Obj.cells l.toArray ty (0, 0))) (set_at pre post (.int .i64 lat) (.int .i64 v) 4 [.int .i64 n, .int .i64 t, .int .i64 R, .int .i64 lev] rfl)

/-- A bucket that may be. -/
def okB (n t R : Int) : Prop := (1 ≤ n ∧ n ≤ 1000000) ∧ (1 ≤ t ∧ t ≤ 1000000) ∧ 0 ≤ R ∧ R ≤ 1000000
theorem okB.room {n t R : Int} (h : okB n t R) : 0 ≤ R * t ∧ R * t ≤ 1000000000000 := by
  obtain ⟨_, h1, h2⟩ := h
  have := prod_bounds (n := t) (R := R) (a := 1000000) (b := 1000000) (by omega) h1.2 h2.1 h2.2
  omega

theorem worth_any {n t R lev lat : Int} (x : Int) {s o : Nat} {pre post : List Value} {ty : TypeId} (w : World) (h : StG w s o pre post ty n t R lev lat) (h0 : 0 ≤ x * t) (h1 : x * t ≤ 1000000000000) :
    Calls Tryz.prog 83 #[.pointer (some ⟨s, o, none⟩), .int .i64 x] w fun e w' => e = .returned (.int .i64 (x * t)) ∧ w' = w := by
  obtain ⟨c0, c1, c2, c3, c4, f3, f4⟩ := h.cells
  go_enter Tryz.func83, Tryz.ntmps83
  go_wp2
  go_ret
  exact ⟨rfl, rfl⟩

/-- What is told of so much more: what finds no room. -/
def ovp (t R lev more : Int) : Int := if lev + more ≤ R * t then 0 else lev + more - R * t
/-- What is left behind a draw of x bytes. -/
def drw (t lev x : Int) : Int := if x * t ≤ lev then lev - x * t else lev
def drwB (t lev x : Int) : Bool := decide (x * t ≤ lev)

theorem pour_any {n t R lev lat : Int} (more : Int) {s o : Nat} {pre post : List Value} {ty : TypeId} (w : World) (h : StG w s o pre post ty n t R lev lat) (hr0 : 0 ≤ R * t) (hr1 : R * t ≤ 1000000000000) (hl0 : 0 ≤ lev) (hl1 : lev ≤ R * t) (hm0 : 0 ≤ more) (hm1 : more ≤ 2000000000000000) :
    Calls Tryz.prog 197 #[.pointer (some ⟨s, o, none⟩), .int .i64 more] w fun e w' => e = .returned (.int .i64 (ovp t R lev more)) ∧ StG w' s o pre post ty n t R (pou t R lev more) lat ∧ Oth (· = s) w w' := by
  obtain ⟨c0, c1, c2, c3, c4, f3, f4⟩ := h.cells
  have H : Hid (StG w s o pre post ty n t R lev lat) := h
  clear h
  by_cases hc : lev + more ≤ R * t
  · have HC : Hid (lev + more ≤ R * t) := hc
    go_enter Tryz.func197, Tryz.ntmps197
    go_wp2
    go_quiet ((go_at_call 83; exact Calls.quiet_of_same (worth_any _ _ H.out hr0 hr1)))
    go_wp2
    go_ret
    refine ⟨by rw [ovp, if_pos HC.out]; rfl, ?_, ((Oth.refl (· = s) w).drewN _).setCell (p := ⟨s, o + 3, none⟩) rfl _⟩
    rw [pou, if_pos HC.out]
    exact (H.out.drewN _).setLev _
  · have HC : Hid (R * t < lev + more) := Int.not_le.1 hc
    go_enter Tryz.func197, Tryz.ntmps197
    go_wp2
    go_quiet ((go_at_call 83; exact Calls.quiet_of_same (worth_any _ _ H.out hr0 hr1)))
    go_wp2
    go_ret
    refine ⟨by rw [ovp, if_neg (Int.not_le.2 HC.out)]; rfl, ?_, ((Oth.refl (· = s) w).drewN _).setCell (p := ⟨s, o + 3, none⟩) rfl _⟩
    have e : pou t R lev more = lev + (more - (lev + more - R * t)) := by rw [pou, if_neg (Int.not_le.2 HC.out)]; omega
    rw [e]
    exact (H.out.drewN _).setLev _

theorem pass_any {n t R lev lat : Int} (now : Int) {s o : Nat} {pre post : List Value} {ty : TypeId} (w : World) (h : StG w s o pre post ty n t R lev lat) (hb : okB n t R) (hl0 : 0 ≤ lev) (hl1 : lev ≤ R * t) (ht0 : 0 ≤ lat) (ht1 : now ≤ 1000000000) :
    Calls Tryz.prog 196 #[.pointer (some ⟨s, o, none⟩), .int .i64 now] w fun e w' => e = .returned (.int .i64 (ovr n t R lev lat now)) ∧ StG w' s o pre post ty n t R (pas n t R lev lat now) (lat1 lat now) ∧ Oth (· = s) w w' := by
  obtain ⟨hr0, hr1⟩ := hb.room
  obtain ⟨c0, c1, c2, c3, c4, f3, f4⟩ := h.cells
  have H : Hid (StG w s o pre post ty n t R lev lat) := h
  clear h
  by_cases hc : now ≤ lat
  · have HC : Hid (now ≤ lat) := hc
    clear hb
    go_enter Tryz.func196, Tryz.ntmps196
    go_wp2
    go_ret
    refine ⟨by rw [ovr, if_pos HC.out]; rfl, ?_, Oth.refl _ _⟩
    rw [pas, lat1, if_pos HC.out, if_pos HC.out]
    exact H.out
  · have HC : Hid (lat < now) := Int.not_le.1 hc
    obtain ⟨hn, _, _⟩ := hb
    have hg := prod_bounds (n := n) (R := now - lat) (a := 1000000) (b := 1000000000) (by omega) hn.2 (by omega) (by omega)
    obtain ⟨hg0, hg1⟩ := hg
    have hg1' : (now - lat) * n ≤ 2000000000000000 := by omega
    have H2 : Hid (StG (w.setCell ⟨s, o + 4, none⟩ (.int .i64 now)) s o pre post ty n t R lev now) := H.out.setLat now
    obtain ⟨d0, d1, d2, d3, d4, g3, g4⟩ := H2.out.cells
    have HP := pour_any ((now - lat) * n) _ H2.out hr0 hr1 hl0 hl1 hg0 hg1'
    go_enter Tryz.func196, Tryz.ntmps196
    go_wp2_with (go_at_call 197; refine HP.mono ?_; rintro e w1 ⟨rfl, hs1, ho1⟩)
    go_ret
    refine ⟨?_, ?_, ((Oth.refl (· = s) w).setCell (p := ⟨s, o + 4, none⟩) rfl _).trans ho1⟩
    · rw [ovr, if_neg (Int.not_le.2 HC.out)]; rfl
    · rw [pas, lat1, if_neg (Int.not_le.2 HC.out), if_neg (Int.not_le.2 HC.out)]
      exact hs1
theorem cell_drewN {w : World} {a : Addr} {v : Value} (h : w.cell? a = some v) (n : Nat) : (w.drewN n).cell? a = some v := h
theorem draw_any {n t R lev lat : Int} (x : Int) {s o : Nat} {pre post : List Value} {ty : TypeId} (w : World) (h : StG w s o pre post ty n t R lev lat) (hb : okB n t R) (hl0 : 0 ≤ lev) (hl1 : lev ≤ R * t) (hx0 : 0 ≤ x) (hx1 : x ≤ 1000000) :
    Calls Tryz.prog 195 #[.pointer (some ⟨s, o, none⟩), .int .i64 x] w fun e w' => e = .returned (.bool (drwB t lev x)) ∧ StG w' s o pre post ty n t R (drw t lev x) lat ∧ Oth (· = s) w w' := by
  obtain ⟨hr0, hr1⟩ := hb.room
  obtain ⟨hg0, hg1⟩ := prod_bounds (n := t) (R := x) (a := 1000000) (b := 1000000) (by have := hb.2.1; omega) hb.2.1.2 hx0 hx1
  have hg1' : x * t ≤ 1000000000000 := by omega
  have hwr : IntKind.i64.wrap (lev - x * t) = lev - x * t := by rw [IntKind.wrap_i64]; omega
  obtain ⟨c0, c1, c2, c3, c4, f3, f4⟩ := h.cells
  have H : Hid (StG w s o pre post ty n t R lev lat) := h
  clear h hb
  by_cases hc : x * t ≤ lev
  · have HC : Hid (x * t ≤ lev) := hc
    go_enter Tryz.func195, Tryz.ntmps195
    go_wp2
    go_quiet ((go_at_call 83; exact Calls.quiet_of_same (worth_any _ _ H.out hg0 hg1')))
    go_wp2
    go_region_with ((go_at_call 83; refine (worth_any _ _ (H.out.drewN _) hg0 hg1').mono ?_; rintro e w' ⟨rfl, rfl⟩))
    all_goals
      go_wp2
      go_ret
      refine ⟨by simp [drwB]; exact HC.out, ?_, ((Oth.refl (· = s) w).drewN _).setCell (p := ⟨s, o + 3, none⟩) rfl _⟩
      rw [drw, if_pos HC.out]
      exact (H.out.drewN _).setLev _
  · have HC : Hid (lev < x * t) := Int.not_le.1 hc
    go_enter Tryz.func195, Tryz.ntmps195
    go_wp2
    go_quiet ((go_at_call 83; exact Calls.quiet_of_same (worth_any _ _ H.out hg0 hg1')))
    go_wp2
    go_ret
    refine ⟨by simp [drwB]; exact HC.out, ?_, (Oth.refl (· = s) w).drewN _⟩
    rw [drw, if_neg (Int.not_le.2 HC.out)]
    exact H.out.drewN _
end Go.Proofs.YtfakjedolecdcaaGreatDoor
namespace Go.Proofs.YtfakjedolecdcaaGreatDoor
open Go.RowKit Go.Extern.Stop Go.Stop Go.Extern

theorem okB.rate {n t R : Int} (h : okB n t R) : okRate n t = true := by
  obtain ⟨h1, h2, _⟩ := h
  simp [okRate, wth]; omega
theorem bcheck_yes (n t R : Int) (w : World) (h : okB n t R) :
    Calls Tryz.prog 82 #[.agg #[.int .i64 n, .int .i64 t, .int .i64 R]] w fun e w' => e = .returned .nilIface ∧ Below w.heap.size w w' := by
  have HR : Hid (okRate n t = true) := h.rate
  obtain ⟨hn, ht, h0, h1⟩ := h
  go_enter Tryz.func82, Tryz.ntmps82
  go_wp2_with (go_at_call 28; refine (speed_yes _ _ _ HR.out).mono ?_; rintro e w' ⟨rfl, rfl⟩)
  go_ret
  exact ⟨rfl, ((Below.refl _ _).alloc (Nat.le_refl _) _).alloc (by simp) _⟩
theorem bcheck_no (n t R : Int) (w : World) (h : ¬ okB n t R) :
    Calls Tryz.prog 82 #[.agg #[.int .i64 n, .int .i64 t, .int .i64 R]] w fun e w' => e = .returned (.iface 57 (.int .i64 2)) ∧ Below w.heap.size w w' := by
  cases hr : okRate n t with
  | false =>
    have HR : Hid (okRate n t = false) := hr
    clear hr h
    go_enter Tryz.func82, Tryz.ntmps82
    go_wp2_with (go_at_call 28; refine (speed_no _ _ _ HR.out).mono ?_; rintro e w' ⟨rfl, rfl⟩)
    go_ret
    exact ⟨rfl, ((Below.refl _ _).alloc (Nat.le_refl _) _).alloc (by simp) _⟩
  | true =>
    have HR : Hid (okRate n t = true) := hr
    have hh : ¬ (0 ≤ R ∧ R ≤ 1000000) := fun hc => h (by
      simp only [okRate, Bool.and_eq_true, wth_iff] at hr
      exact ⟨hr.1, hr.2, hc⟩)
    clear hr h
    by_cases h0 : R < 0
    · clear hh
      go_enter Tryz.func82, Tryz.ntmps82
      go_wp2_with (go_at_call 28; refine (speed_yes _ _ _ HR.out).mono ?_; rintro e w' ⟨rfl, rfl⟩)
      go_ret
      exact ⟨rfl, ((Below.refl _ _).alloc (Nat.le_refl _) _).alloc (by simp) _⟩
    · have h1 : 1000000 < R := by omega
      clear hh
      go_enter Tryz.func82, Tryz.ntmps82
      go_wp2_with (go_at_call 28; refine (speed_yes _ _ _ HR.out).mono ?_; rintro e w' ⟨rfl, rfl⟩)
      go_ret
      exact ⟨rfl, ((Below.refl _ _).alloc (Nat.le_refl _) _).alloc (by simp) _⟩

theorem tell_yes {n t R lev lat : Int} (now : Int) {s o : Nat} {pre post : List Value} {ty : TypeId} (w : World) (h : StG w s o pre post ty n t R lev lat) (hb : okB n t R) (hl0 : 0 ≤ lev) (hl1 : lev ≤ R * t) (ht0 : 0 ≤ lat) (ht1 : now ≤ 1000000000) :
    Calls Tryz.prog 194 #[.pointer (some ⟨s, o, none⟩), .int .i64 now] w fun e w' => e = .returned (.bool true) ∧ StG w' s o pre post ty n t R (pas n t R lev lat now) (lat1 lat now) ∧ Oth (· = s) w w' := by
  obtain ⟨c0, c1, c2, c3, c4, f3, f4⟩ := h.cells
  have H : Hid (StG w s o pre post ty n t R lev lat) := h
  have HB : Hid (okB n t R) := hb
  have HL0 : Hid (0 ≤ lev) := hl0
  have HL1 : Hid (lev ≤ R * t) := hl1
  clear h hb
  go_enter Tryz.func194, Tryz.ntmps194
  go_wp2_with fail
  refine (bcheck_yes _ _ _ _ HB.out).mono ?_
  rintro e w1 ⟨rfl, hb1⟩
  have H1 : Hid (StG w1 s o pre post ty n t R lev lat) := H.out.kept (S := fun _ => False) (Oth.of_below hb1) id
  go_wp2_with (go_at_call 196; refine (pass_any _ _ H1.out HB.out HL0.out HL1.out ht0 ht1).mono ?_; rintro e w2 ⟨rfl, hs2, ho2⟩)
  go_ret
  exact ⟨rfl, hs2, (Oth.of_below hb1).trans ho2⟩

/-- A bucket's state when it is told the time: level, latest. -/
theorem pas_room {n t R lev lat now : Int} (hn : 1 ≤ n) (hl0 : 0 ≤ lev) (hl1 : lev ≤ R * t) : 0 ≤ pas n t R lev lat now ∧ pas n t R lev lat now ≤ R * t := by
  unfold pas
  split
  · exact ⟨hl0, hl1⟩
  · have : 0 ≤ (now - lat) * n := Int.mul_nonneg (by omega) (by omega)
    split <;> omega
theorem take_yes {n t R lev lat : Int} (now x : Int) {s o : Nat} {pre post : List Value} {ty : TypeId} (w : World) (h : StG w s o pre post ty n t R lev lat) (hb : okB n t R) (hl0 : 0 ≤ lev) (hl1 : lev ≤ R * t) (ht0 : 0 ≤ lat) (ht1 : now ≤ 1000000000) (hx0 : 0 ≤ x) (hx1 : x ≤ 1000000) :
    Calls Tryz.prog 192 #[.pointer (some ⟨s, o, none⟩), .int .i64 now, .int .i64 x] w fun e w' => e = .returned (.bool (drwB t (pas n t R lev lat now) x)) ∧ StG w' s o pre post ty n t R (drw t (pas n t R lev lat now) x) (lat1 lat now) ∧ Oth (· = s) w w' := by
  have HT := tell_yes now w h hb hl0 hl1 ht0 ht1
  have hp := pas_room (n := n) (t := t) (R := R) (lat := lat) (now := now) hb.1.1 hl0 hl1
  have HP : Hid (0 ≤ pas n t R lev lat now ∧ pas n t R lev lat now ≤ R * t) := hp
  have HB : Hid (okB n t R) := hb
  clear h hb hp
  go_enter Tryz.func192, Tryz.ntmps192
  go_wp2_with (first | (go_at_call 194; refine HT.mono ?_; rintro e w1 ⟨rfl, hs1, ho1⟩) | (go_at_call 195; refine (draw_any _ _ hs1 HB.out HP.out.1 HP.out.2 hx0 hx1).mono ?_; rintro e w2 ⟨rfl, hs2, ho2⟩))
  go_ret
  exact ⟨rfl, hs2, ho1.trans ho2⟩

theorem new_no (n t R : Int) (w : World) (h : ¬ okB n t R) :
    Calls Tryz.prog 69 #[.agg #[.int .i64 n, .int .i64 t, .int .i64 R]] w fun e w' => e = .returned (.tuple #[.pointer none, .iface 57 (.int .i64 2)]) ∧ Below w.heap.size w w' := by
  have H : Hid (¬ okB n t R) := h
  clear h
  go_enter Tryz.func69, Tryz.ntmps69
  go_wp2_with (go_at_call 82; refine (bcheck_no _ _ _ _ H.out).mono ?_; rintro e w1 ⟨rfl, hb1⟩)
  go_ret2
  exact ⟨rfl, ((Below.refl _ _).alloc (Nat.le_refl _) _).trans (hb1.mono (by simp))⟩
theorem new_yes (n t R : Int) (w : World) (h : okB n t R) :
    Calls Tryz.prog 69 #[.agg #[.int .i64 n, .int .i64 t, .int .i64 R]] w fun e w' => ∃ s, e = .returned (.tuple #[.pointer (some ⟨s, 0, none⟩), .nilIface]) ∧ w.heap.size ≤ s ∧ StAt w' s n t R (R * t) 0 ∧ Below w.heap.size w w' := by
  have H : Hid (okB n t R) := h
  clear h
  go_enter Tryz.func69, Tryz.ntmps69
  go_wp2_with fail
  refine (bcheck_yes _ _ _ _ H.out).mono ?_
  rintro e w1 ⟨rfl, hb1⟩
  have c0 : w1.cell? ⟨w.heap.size, 0, none⟩ = some (.int .i64 n) := by rw [hb1.cell (by simp)]; simp
  have c1 : w1.cell? ⟨w.heap.size, 1, none⟩ = some (.int .i64 t) := by rw [hb1.cell (by simp)]; simp
  have c2 : w1.cell? ⟨w.heap.size, 2, none⟩ = some (.int .i64 R) := by rw [hb1.cell (by simp)]; simp
  have hlt : w.heap.size < w1.heap.size := lt_of_cell c0
  have hB : Below w.heap.size w w1 := ((Below.refl _ _).alloc (Nat.le_refl _) _).trans (hb1.mono (by simp))
  have HS : Hid (StAt (w1.alloc (.cells #[.int .i64 n, .int .i64 t, .int .i64 R, .int .i64 0, .int .i64 0] 169)) w1.heap.size n t R 0 0) := ⟨rfl, heap_alloc_new _ _⟩
  obtain ⟨d0, d1, d2, d3, d4, f3, f4⟩ := HS.out.cells
  have hr := H.out.room
  obtain ⟨hr0, hr1⟩ := hr
  go_wp2_with (go_at_call 83; refine (worth_any _ _ HS.out hr0 hr1).mono ?_; rintro e w' ⟨rfl, rfl⟩)
  go_ret2
  exact ⟨_, rfl, hB.size, ⟨rfl, heap_alloc_new _ _⟩, hB.alloc hB.size _⟩
end Go.Proofs.YtfakjedolecdcaaGreatDoor
namespace Go.Proofs.YtfakjedolecdcaaGreatDoor
open Go.RowKit Go.Extern.Stop Go.Stop Go.Extern

/-- Packets that may be. -/
def okL (xs : List It) : Prop := (listE xs).1 = 0
theorem okL.fine {xs : List It} (h : okL xs) : Fine xs ∧ xs.length ≤ 100 := by
  unfold okL at h
  have hl : ¬ 100 < xs.length := fun hl => by rw [listE_long hl] at h; simp at h
  have hf : ∀ j, j < xs.length → faultAt xs j = 0 := by
    intro j hj
    cases hb : firstBad xs with
    | none =>
      unfold firstBad at hb
      simp at hb
      exact hb j hj
    | some i =>
      exfalso
      simp only [listE, hl, if_false, hb] at h
      unfold firstBad at hb
      rw [List.find?_range_eq_some] at hb
      have := hb.1
      simp [h] at this
  refine ⟨fun k x hx => ?_, by omega⟩
  have hk : k < xs.length := (List.getElem?_eq_some_iff.1 hx).1
  have h1 := hf k hk
  have hok : x.ok = true := by
    cases ho : x.ok with
    | true => rfl
    | false => rw [fault_range hx ho] at h1; simp at h1
  have hok' := hok
  simp only [It.ok, Bool.and_eq_true, wth_iff] at hok'
  refine ⟨by omega, fun y hy => ?_⟩
  have hk1 : k + 1 < xs.length := (List.getElem?_eq_some_iff.1 hy).1
  have h2 := hf (k + 1) hk1
  have hoy : y.ok = true := by
    cases ho : y.ok with
    | true => rfl
    | false => rw [fault_range hy ho] at h2; simp at h2
  by_cases hc : y.a < x.a
  · rw [fault_order hy hx hoy hc] at h2; simp at h2
  · omega
theorem okL.nil {w : World} {v : Value} {xs : List It} (h : okL xs) (he : ErrIs w v (listE xs).1 (listE xs).2) : v = .nilIface := by
  rw [show (listE xs).1 = 0 from h] at he
  rcases he with ⟨h, _⟩ | ⟨_, h, _⟩ | ⟨_, _, _, _, h, _⟩
  · exact h
  · exact absurd rfl h
  · exact absurd rfl h
/-- An error that is one is no nil. -/
theorem ErrIs.iface {w : World} {v : Value} {E P : Int} (h : ErrIs w v E P) (hE : E ≠ 0) : ∃ t u, v = .iface t u := by
  rcases h with ⟨_, h, _⟩ | ⟨h, _⟩ | ⟨a, h, _⟩
  · exact absurd h hE
  · exact ⟨_, _, h⟩
  · exact ⟨_, _, h⟩

theorem ItemsAt.lt {w : World} {b off : Nat} {xs : List It} (h : ItemsAt w (some ⟨b, off, none⟩) xs) (h0 : xs ≠ []) : b < w.heap.size := by
  rcases h with h | ⟨b', off', e, hI⟩
  · exact absurd h h0
  · cases e
    obtain ⟨y, hy⟩ : ∃ y, xs[0]? = some y := by
      cases xs with
      | nil => exact absurd rfl h0
      | cons y ys => exact ⟨y, rfl⟩
    exact lt_of_cell (hI 0 y hy).1
end Go.Proofs.YtfakjedolecdcaaGreatDoor
