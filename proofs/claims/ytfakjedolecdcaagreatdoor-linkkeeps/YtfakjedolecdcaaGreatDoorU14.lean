/-
  link.Run's errors; millracekeep.linked: it is true. Conditions: errors.errorType holds its handle; the packets lie in memory.
  A queue that bands can hold: what it holds and throws away is bounded by so many queues. Mathematics alone.
  queue.Bands over whatever queues: what its methods return, and what each leaves. Conditions: the queues' methods do what models of them tell (a premise); one band at least, eight at most.
  queue.Bands: what Len, Bytes and When return, over whatever queues. Conditions: the queues' methods do what models of them tell (a premise); one band at least, eight at most.
-/
import Derived.Test.YtfakjedolecdcaaGreatDoorLk6
import Derived.Test.YtfakjedolecdcaaGreatDoorU8
import Derived.Test.YtfakjedolecdcaaGreatDoorU7
namespace Go.Proofs.YtfakjedolecdcaaGreatDoor
open Go.RowKit Go.Extern.Stop Go.Stop Go.Extern

theorem fifo_at0 (b : Nat) (P R : Int) (hd : Bool) {w : World} (h : LAt w b 110 (frest P R hd []) (.slice none 0 0) []) : (FifoM b P R hd).At w (· = b) ([] : List Hd) := ⟨_, h, fun k => by simp [Value.ownBlock]⟩
theorem fifo_inv00 (b : Nat) (P R : Int) (hd : Bool) : (FifoM b P R hd).inv 0 0 ([] : List Hd) := ⟨Nat.le_refl _, by simp⟩
theorem run_no (ty : TypeId) (rv : Value) (n t : Int) (x : Option Addr) (len cap : Nat) (u : Int) (w : World)
    (hck : ∀ W, Below w.heap.size w W → Calls Tryz.prog 39 #[.iface ty rv, .agg #[.int .i64 n, .int .i64 t], .slice x len cap, .int .i64 u] W fun e w' => ∃ ey ev, e = .returned (.iface ey ev) ∧ Below W.heap.size W w') :
    Calls Tryz.prog 26 #[.iface ty rv, .agg #[.int .i64 n, .int .i64 t], .slice x len cap, .int .i64 u] w fun e w' => ∃ ey ev, e = .returned (.tuple #[.agg #[.slice none 0 0, .slice none 0 0, .int .i64 0, .int .i64 0], .iface ey ev]) ∧ Below w.heap.size w w' := by
  have HCK : Hid (∀ W, Below w.heap.size w W → Calls Tryz.prog 39 #[.iface ty rv, .agg #[.int .i64 n, .int .i64 t], .slice x len cap, .int .i64 u] W fun e w' => ∃ ey ev, e = .returned (.iface ey ev) ∧ Below W.heap.size W w') := hck
  clear hck
  go_enter Tryz.func26, Tryz.ntmps26
  go_wp2_with (go_at_call 39; fail)
  have HB1 : Hid (Below w.heap.size w ((w.alloc (.cells #[.int .i64 n, .int .i64 t] 37)).alloc (.cells #[.slice none 0 0, .slice none 0 0, .int .i64 0, .int .i64 0] 41))) := below_alloc_ (below_alloc_ (Below.refl _ _) _) _
  have hg1 : ((w.alloc (.cells #[.int .i64 n, .int .i64 t] 37)).alloc (.cells #[.slice none 0 0, .slice none 0 0, .int .i64 0, .int .i64 0] 41)).heap[w.heap.size + 1]? = some (.cells #[.slice none 0 0, .slice none 0 0, .int .i64 0, .int .i64 0] 41 (0, 0)) := new_block_ (by simp)
  generalize (w.alloc (.cells #[.int .i64 n, .int .i64 t] 37)).alloc (.cells #[.slice none 0 0, .slice none 0 0, .int .i64 0, .int .i64 0] 41) = w1 at *
  refine (HCK.out _ HB1.out).mono ?_
  rintro e w2 ⟨ey, ev, rfl, hb2⟩
  have HB2 : Hid (Below w.heap.size w w2) := HB1.out.trans (hb2.mono HB1.out.size)
  have HG2 : Hid (w2.heap[w.heap.size + 1]? = some (.cells #[.slice none 0 0, .slice none 0 0, .int .i64 0, .int .i64 0] 41 (0, 0))) := (hb2.block _ (lt_of_block hg1)).trans hg1
  obtain ⟨⟨z0, z1, z2, z3⟩, y0, y1, y2, y3⟩ := four HG2.out
  clear hg1 hb2
  go_wp2
  (try simp only [Exit.inBlock, Exit.then])
  refine bodyPost_ret (v := .tuple #[.agg #[.slice none 0 0, .slice none 0 0, .int .i64 0, .int .i64 0], .iface ey ev]) ?_ rfl ⟨ey, ev, rfl, ?_⟩
  · rw [results_cell_tmp rfl]
    have hld := load_log (four_set HG2.out (.slice none 0 0) (.slice none 0 0) (.int .i64 0) (.int .i64 0))
    simp [asAddr, Result.andThen, hld]
  · refine HB2.out.trans ?_
    repeat' (first | with_reducible exact Below.refl _ _ | with_reducible refine Below.setCell ?_ (by simp) _)
/-- The one packet of linked. -/
def it35 : List It := [⟨3, 5, 0, 0, 0⟩]
theorem linked_runs (f : Nat) : (itL (FifoM f 5 100 false) it35 2 1 ([] : List Hd) 0).2 = (0, true) ∧ (itL (FifoM f 5 100 false) it35 2 1 ([] : List Hd) 1).2 = (3, true) ∧ (itL (FifoM f 5 100 false) it35 2 1 ([] : List Hd) 2).2.2 = false ∧ (itL (FifoM f 5 100 false) it35 2 1 ([] : List Hd) 2).1.sent = [⟨0, 3, 6, 0⟩] := ⟨rfl, rfl, rfl, rfl⟩
theorem okL_35 : okL it35 := rfl
theorem linked_k {f k : Nat} (hon : ∀ j, j < k → goesOn 100 (itL (FifoM f 5 100 false) it35 2 1 ([] : List Hd) j)) (hoff : ¬ goesOn 100 (itL (FifoM f 5 100 false) it35 2 1 ([] : List Hd) k)) : k = 2 := by
  obtain ⟨h0, h1, h2, _⟩ := linked_runs f
  match k with
  | 0 => exact absurd ⟨by rw [h0], by rw [h0]; decide⟩ hoff
  | 1 => exact absurd ⟨by rw [h1], by rw [h1]; decide⟩ hoff
  | 2 => rfl
  | k + 3 =>
    have := (hon 2 (by omega)).1
    rw [h2] at this
    cases this
set_option maxHeartbeats 2000000 in
theorem linked_true (w : World) (hL : Laid w) : Calls Tryz.prog 12 #[] w fun e w' => e = .returned (.bool true) ∧ Below w.heap.size w w' := by
  have HLD : Hid (Laid w) := hL
  clear hL
  go_enter Tryz.func12, Tryz.ntmps12
  go_wp2_with (go_at_call 27; fail)
  refine (newFifo_yes 5 100 false w (by decide) (by decide) (by decide) (by decide)).mono ?_
  rintro e w1 ⟨rfl, hl1, hw1⟩
  have HB1 : Hid (Below w.heap.size w w1) := by show Below _ _ _; rw [hw1]; exact below_alloc_ (Below.refl _ _) _
  have HL1 : Hid (LAt w1 w.heap.size 110 (frest 5 100 false []) (.slice none 0 0) []) := hl1
  have hs1 : w.heap.size < w1.heap.size := lt_of_block hl1.blk
  clear hw1 hl1
  go_wp2_with (go_at_call 26; fail)
  have HB2 : Hid (Below w1.heap.size w1 (w1.alloc (.cells #[.int .i64 3, .int .i64 5, .int .i64 0, .int .i64 0, .int .i64 0] 46))) := below_alloc_ (Below.refl _ _) _
  have hit : ItemsAt (w1.alloc (.cells #[.int .i64 3, .int .i64 5, .int .i64 0, .int .i64 0, .int .i64 0] 46)) (some ⟨w1.heap.size, 0, none⟩) it35 := by
    refine Or.inr ⟨w1.heap.size, 0, rfl, fun i x hx => ?_⟩
    have hi : i = 0 := by have := (List.getElem?_eq_some_iff.1 hx).1; simp [it35] at this; exact this
    subst hi
    simp [it35] at hx
    subst hx
    refine ⟨?_, ?_, ?_, ?_, ?_⟩ <;> simp
  generalize w1.alloc (.cells #[.int .i64 3, .int .i64 5, .int .i64 0, .int .i64 0, .int .i64 0] 46) = w2 at *
  have hb02 : Below w.heap.size w w2 := HB1.out.trans (HB2.out.mono HB1.out.size)
  have HRUN := run_yes (fifoM_fine w.heap.size 5 100 false (by decide) (by decide) (by decide)) (· = w.heap.size) ([] : List Hd) 2 1 (some ⟨w1.heap.size, 0, none⟩) 1 it35 100 w2 (fifo_at0 _ _ _ _ (HL1.out.below HB2.out)) (fifo_inv00 _ _ _ _) rfl okL_35 (HLD.out.below hb02) hit (fun a ha _ e => by simp only [Option.some.injEq] at ha; subst ha; have : w1.heap.size = w.heap.size := e; omega) (by unfold maxLen; decide) (by decide) (by decide)
  refine HRUN.mono ?_
  rintro e w3 ⟨k, sv, lv, F, rfl, hR⟩
  obtain rfl := linked_k hR.on hR.off
  have hsent := hR.sent
  rw [(linked_runs w.heap.size).2.2.2] at hsent
  obtain ⟨sb, so, sc, rfl, _, _, hsb, hsc⟩ := hsent.some (by decide)
  have q0 : w3.cell? ⟨sb, so, none⟩ = some (.int .i64 0) := hsc 0 _ rfl
  have q1 : w3.cell? ⟨sb, so + 1, none⟩ = some (.int .i64 3) := hsc 1 _ rfl
  have q2 : w3.cell? ⟨sb, so + 2, none⟩ = some (.int .i64 6) := hsc 2 _ rfl
  obtain ⟨lx, ln, lc, rfl⟩ : ∃ x n c, lv = .slice x n c := by rcases Seg.form hR.lost with ⟨h, _⟩ | ⟨b, o, c, h, _⟩ <;> exact ⟨_, _, _, h⟩
  have HFin : Hid (Below w.heap.size w w3) := hb02.trans (hR.ot.below hb02.size (fun k hk => by have : k = w.heap.size := hk; omega))
  generalize (FifoM w.heap.size 5 100 false).len _ = a1
  generalize (itL (FifoM w.heap.size 5 100 false) it35 2 1 ([] : List Hd) 2).1.most = a2
  clear hsc hsent hR HRUN hit hb02
  go_wp2
  go_ret
  exact ⟨rfl, HFin.out.alloc HFin.out.size _⟩
end Go.Proofs.YtfakjedolecdcaaGreatDoor
namespace Go.Proofs.YtfakjedolecdcaaGreatDoor

/-- Bounds of a queue within which so many queues stand. -/
structure QM.Tame (M : QM) (k : Nat) : Prop where
  mono : ∀ {t t' : Int} {n n' : Nat} {s : M.σ}, M.inv t n s → t ≤ t' → n ≤ n' → M.inv t' n' s
  len : ∀ {t : Int} {n : Nat} {s : M.σ}, M.inv t n s → n ≤ 1001 → (0 ≤ M.len s ∧ M.len s ≤ 100000 * k) ∧ 0 ≤ M.bytes s ∧ M.bytes s ≤ 1000000000 * k
  few : ∀ {t : Int} {n : Nat} {s : M.σ} (now : Int), M.inv t n s → n ≤ 1000 → (M.take s now).2.1.length ≤ 5000 * k
theorem sumL_small : ∀ {L : List Hd}, (∀ x ∈ L, 0 ≤ x.l ∧ x.l ≤ 10000) → 0 ≤ sumL L ∧ sumL L ≤ 10000 * (L.length : Int) := by
  intro L
  induction L with
  | nil => intro _; simp [sumL]
  | cons x L ih =>
    intro h
    have h1 := h x (by simp)
    have h2 := ih (fun y hy => h y (by simp [hy]))
    simp only [sumL, List.length_cons]
    omega
theorem QM.Keeps.tame {M : QM} {cont : M.σ → List Hd} (hK : M.Keeps cont) (hm : ∀ {t t' : Int} {n n' : Nat} {s : M.σ}, M.inv t n s → t ≤ t' → n ≤ n' → M.inv t' n' s) (hc : ∀ {t : Int} {n : Nat} {s : M.σ}, M.inv t n s → (cont s).length ≤ n ∧ ∀ x ∈ cont s, 0 ≤ x.l ∧ x.l ≤ 10000) : M.Tame 1 where
  mono := hm
  len := fun {t n s} h hn => by
    obtain ⟨h1, h2⟩ := hc h
    obtain ⟨h3, h4⟩ := sumL_small h2
    rw [hK.len, hK.bytes]
    omega
  few := fun {t n s} now h hn => by
    obtain ⟨h1, _⟩ := hc h
    have := (hK.take s now).length_eq
    rw [List.length_append, List.length_append] at this
    omega
end Go.Proofs.YtfakjedolecdcaaGreatDoor
namespace Go.Proofs.YtfakjedolecdcaaGreatDoor
open Go.RowKit Go.Extern.Stop Go.Stop Go.Extern

/-- One of many states is another one. -/
def upd {Q : Nat → QM} (s : ∀ i, (Q i).σ) (j : Nat) (x : (Q j).σ) : ∀ i, (Q i).σ := fun i => if h : i = j then h ▸ x else s i
theorem upd_same {Q : Nat → QM} (s : ∀ i, (Q i).σ) (j : Nat) (x : (Q j).σ) : upd s j x j = x := by simp [upd]
theorem upd_ne {Q : Nat → QM} (s : ∀ i, (Q i).σ) {i j : Nat} (x : (Q j).σ) (h : i ≠ j) : upd s j x i = s i := by simp [upd, h]
def updP (Fs : Nat → Nat → Prop) (j : Nat) (F : Nat → Prop) : Nat → Nat → Prop := fun i => if i = j then F else Fs i
/-- Bands in block B; the row of its queues from ⟨ob, oo⟩ on. -/
structure BAt (Q : Nat → QM) (N B ob oo oc : Nat) (w : World) (Fs : Nat → Nat → Prop) (s : ∀ i, (Q i).σ) : Prop where
  blk : w.heap[B]? = some (.cells #[.slice (some ⟨ob, oo, none⟩) N oc] 176 (0, 0))
  row : ∀ i, i < N → w.cell? ⟨ob, oo + i, none⟩ = some (.iface (Q i).ty (Q i).rv)
  obl : ob < w.heap.size
  each : ∀ i, i < N → (Q i).At w (Fs i) (s i)
  dis : ∀ i j k, i < N → j < N → Fs i k → Fs j k → i = j
  nB : ∀ i, i < N → ¬ Fs i B ∧ ¬ Fs i ob
def foot (N B ob : Nat) (Fs : Nat → Nat → Prop) (k : Nat) : Prop := k = B ∨ k = ob ∨ ∃ i, i < N ∧ Fs i k
theorem BAt.kept {Q : Nat → QM} {N B ob oo oc : Nat} {w w' : World} {Fs : Nat → Nat → Prop} {s : ∀ i, (Q i).σ} (hQ : ∀ i, i < N → (Q i).Fine) (h : BAt Q N B ob oo oc w Fs s) (hk : ∀ k, foot N B ob Fs k → w'.heap[k]? = w.heap[k]?) : BAt Q N B ob oo oc w' Fs s := by
  refine ⟨(hk B (Or.inl rfl)).trans h.blk, fun i hi => ?_, ?_, fun i hi => (hQ i hi).kept (h.each i hi) (fun k hf => hk k (Or.inr (Or.inr ⟨i, hi, hf⟩))), h.dis, h.nB⟩
  · rw [World.cell?_of_block (w := w) (a := ⟨ob, oo + i, none⟩) (hk ob (Or.inr (Or.inl rfl)))]
    exact h.row i hi
  · have h1 := hk ob (Or.inr (Or.inl rfl))
    rw [Array.getElem?_eq_getElem h.obl] at h1
    exact lt_of_block h1
theorem BAt.low {Q : Nat → QM} {N B ob oo oc : Nat} {w : World} {Fs : Nat → Nat → Prop} {s : ∀ i, (Q i).σ} (hQ : ∀ i, i < N → (Q i).Fine) (h : BAt Q N B ob oo oc w Fs s) : ∀ k, foot N B ob Fs k → k < w.heap.size := by
  rintro k (rfl | rfl | ⟨i, hi, hf⟩)
  · exact lt_of_block h.blk
  · exact h.obl
  · exact (hQ i hi).low (h.each i hi) k hf
theorem BAt.below {Q : Nat → QM} {N B ob oo oc : Nat} {w w' : World} {Fs : Nat → Nat → Prop} {s : ∀ i, (Q i).σ} (hQ : ∀ i, i < N → (Q i).Fine) (h : BAt Q N B ob oo oc w Fs s) (hb : Below w.heap.size w w') : BAt Q N B ob oo oc w' Fs s := h.kept hQ (fun k hk => hb.block k (h.low hQ k hk))
theorem BAt.ot {S : Nat → Prop} {Q : Nat → QM} {N B ob oo oc : Nat} {w w' : World} {Fs : Nat → Nat → Prop} {s : ∀ i, (Q i).σ} (hQ : ∀ i, i < N → (Q i).Fine) (h : BAt Q N B ob oo oc w Fs s) (ho : Ot S w w') (hS : ∀ k, foot N B ob Fs k → ¬ S k) : BAt Q N B ob oo oc w' Fs s := h.kept hQ (fun k hk => ho.block k (h.low hQ k hk) (hS k hk))
/-- One of the queues was asked. -/
theorem BAt.step {Q : Nat → QM} {N B ob oo oc : Nat} {w w' : World} {Fs : Nat → Nat → Prop} {s : ∀ i, (Q i).σ} (hQ : ∀ i, i < N → (Q i).Fine) (h : BAt Q N B ob oo oc w Fs s) {j : Nat} (hj : j < N) {F' : Nat → Prop} {x : (Q j).σ} (ho : Ot (Fs j) w w') (ha : (Q j).At w' F' x) (hf : ∀ k, F' k → Fs j k ∨ w.heap.size ≤ k) :
    BAt Q N B ob oo oc w' (updP Fs j F') (upd s j x) ∧ (∀ k, foot N B ob (updP Fs j F') k → foot N B ob Fs k ∨ w.heap.size ≤ k) ∧ Ot (foot N B ob Fs) w w' := by
  have hlow := h.low hQ
  have hlB := lt_of_block h.blk
  refine ⟨⟨(ho.block B hlB (h.nB j hj).1).trans h.blk, fun i hi => ?_, Nat.lt_of_lt_of_le h.obl ho.size, fun i hi => ?_, fun i i' k hi hi' => ?_, fun i hi => ?_⟩, ?_, ho.mono (fun k _ hk => Or.inr (Or.inr ⟨j, hj, hk⟩))⟩
  · rw [World.cell?_of_block (w := w) (a := ⟨ob, oo + i, none⟩) (ho.block ob h.obl (h.nB j hj).2)]
    exact h.row i hi
  · by_cases e : i = j
    · subst e
      simpa [updP, upd_same] using ha
    · rw [upd_ne s x e]
      simp only [updP, if_neg e]
      exact (hQ i hi).kept (h.each i hi) (fun k hk => ho.block k ((hQ i hi).low (h.each i hi) k hk) (fun hk' => e (h.dis i j k hi hj hk hk')))
  · intro h1 h2
    simp only [updP] at h1 h2
    by_cases e : i = j
    · by_cases e' : i' = j
      · rw [e, e']
      · rw [if_pos e] at h1
        rw [if_neg e'] at h2
        rcases hf k h1 with h3 | h3
        · rw [e]; exact h.dis j i' k hj hi' h3 h2
        · have := (hQ i' hi').low (h.each i' hi') k h2; omega
    · rw [if_neg e] at h1
      by_cases e' : i' = j
      · rw [if_pos e'] at h2
        rcases hf k h2 with h3 | h3
        · rw [e']; exact h.dis i j k hi hj h1 h3
        · have := (hQ i hi).low (h.each i hi) k h1; omega
      · rw [if_neg e'] at h2
        exact h.dis i i' k hi hi' h1 h2
  · simp only [updP]
    by_cases e : i = j
    · rw [if_pos e]
      refine ⟨fun hk => ?_, fun hk => ?_⟩
      · rcases hf _ hk with h3 | h3
        · exact (h.nB j hj).1 h3
        · omega
      · rcases hf _ hk with h3 | h3
        · exact (h.nB j hj).2 h3
        · have := h.obl; omega
    · rw [if_neg e]
      exact h.nB i hi
  · rintro k (h1 | h1 | ⟨i, hi, h1⟩)
    · exact Or.inl (Or.inl h1)
    · exact Or.inl (Or.inr (Or.inl h1))
    · simp only [updP] at h1
      by_cases e : i = j
      · rw [if_pos e] at h1
        rcases hf k h1 with h2 | h2
        · exact Or.inl (Or.inr (Or.inr ⟨j, hj, h2⟩))
        · exact Or.inr h2
      · rw [if_neg e] at h1
        exact Or.inl (Or.inr (Or.inr ⟨i, hi, h1⟩))
theorem BAt.cell {Q : Nat → QM} {N B ob oo oc : Nat} {w : World} {Fs : Nat → Nat → Prop} {s : ∀ i, (Q i).σ} (h : BAt Q N B ob oo oc w Fs s) : w.cell? ⟨B, 0, none⟩ = some (.slice (some ⟨ob, oo, none⟩) N oc) := by
  have := h.blk
  simp [World.cell?, this]

set_option maxHeartbeats 1000000 in
/-- each: with a function that keeps to an invariant. -/
theorem each_any {Q : Nat → QM} {N B ob oo oc : Nat} (cf : Nat) (caps : Array Value) (I : Nat → World → Prop) (w : World) (hN : N ≤ 8) (hc : w.cell? ⟨B, 0, none⟩ = some (.slice (some ⟨ob, oo, none⟩) N oc))
    (hent : ∀ (args : Array Value) (W : World), (callFunc cf args).run Tryz.prog W = .ok (.enter cf args) W) (h0 : I 0 w) (hrow : ∀ i W, i < N → I i W → W.cell? ⟨ob, oo + i, none⟩ = some (.iface (Q i).ty (Q i).rv))
    (hstep : ∀ i W, i < N → I i W → Calls Tryz.prog cf (#[.iface (Q i).ty (Q i).rv] ++ caps) W fun e W' => e = .returned (.tuple #[]) ∧ I (i + 1) W') :
    Calls Tryz.prog 203 #[.pointer (some ⟨B, 0, none⟩), .func (.func cf) #[] caps] w fun e w' => e = .returned (.tuple #[]) ∧ I N w' := by
  have H0 : Hid (I 0 w) := h0
  have HR : Hid (∀ i W, i < N → I i W → W.cell? ⟨ob, oo + i, none⟩ = some (.iface (Q i).ty (Q i).rv)) := hrow
  have HS : Hid (∀ i W, i < N → I i W → Calls Tryz.prog cf (#[.iface (Q i).ty (Q i).rv] ++ caps) W fun e W' => e = .returned (.tuple #[]) ∧ I (i + 1) W') := hstep
  clear h0 hrow hstep
  go_enter Tryz.func203, Tryz.ntmps203
  go_wp2
  go_loopw [11] (fun i wr => ∃ k : Nat, k ≤ N ∧ i = .int .i64 k ∧ I k wr) (fun i _ => N - (intOf i).toNat)
  case atStart => exact ⟨0, Nat.zero_le _, rfl, H0.out⟩
  case round =>
    obtain ⟨k, hk, rfl, hi⟩ := hrel
    have HI : Hid (I k wr) := hi
    clear hi
    by_cases hlt : k < N
    · have hcell := HR.out k wr hlt HI.out
      go_wp2_with fail
      refine (HS.out k _ hlt HI.out).mono ?_
      rintro e w1 ⟨rfl, hi1⟩
      go_wp2_with fail
      go_roundw
      case rel => exact ⟨k + 1, by omega, by go_num, hi1⟩
      case measure => simp [intOf]; omega
    · obtain rfl : k = N := by omega
      go_wp2
      go_end0
      exact ⟨rfl, HI.out⟩
end Go.Proofs.YtfakjedolecdcaaGreatDoor
namespace Go.Proofs.YtfakjedolecdcaaGreatDoor
open Go.RowKit Go.Extern.Stop Go.Stop Go.Extern

theorem QM.Fine.same {M : QM} (hM : M.Fine) {w w' : World} {F : Nat → Prop} {s : M.σ} (h : M.At w F s) (e : w'.heap = w.heap) : M.At w' F s := hM.kept h (fun k _ => by rw [e])
theorem cell1 {w : World} {b : Nat} {t : TypeId} {v : Value} (h : w.heap[b]? = some (.cells #[v] t (0, 0))) : w.cell? ⟨b, 0, none⟩ = some v ∧ w.frozen? ⟨b, 0, none⟩ = false := by
  refine ⟨?_, ?_⟩
  all_goals simp [World.cell?, World.frozen?, h]
theorem blk1 {w : World} {b : Nat} {t : TypeId} {v : Value} (h : w.heap[b]? = some (.cells #[v] t (0, 0))) (u : Value) : (w.setCell ⟨b, 0, none⟩ u).heap[b]? = some (.cells #[u] t (0, 0)) := by
  rw [heap_setCell_here h u]
  simp
/-- A sum of one band more. -/
theorem lenC_any {M : QM} (hM : M.Fine) {F : Nat → Prop} {s : M.σ} {t z : Int} {n c : Nat} (w : World) (hA : M.At w F s) (hI : M.inv t n s) (hn : n ≤ 1001) (hc : w.heap[c]? = some (.cells #[.int .i64 z] 3 (0, 0))) (hz : 0 ≤ z ∧ z ≤ 1000000000000000) (hl : 0 ≤ M.len s ∧ M.len s ≤ 100000000000000) :
    Calls Tryz.prog 205 #[.iface M.ty M.rv, .pointer (some ⟨c, 0, none⟩)] w fun e w' => e = .returned (.tuple #[]) ∧ w'.heap[c]? = some (.cells #[.int .i64 (z + M.len s)] 3 (0, 0)) ∧ Ot (· = c) w w' := by
  have HM : Hid M.Fine := hM
  have HA : Hid (∀ W : World, W.heap = w.heap → M.At W F s) := fun W e => hM.same hA e
  have HI : Hid (M.inv t n s) := hI
  have HC : Hid (w.heap[c]? = some (.cells #[.int .i64 z] 3 (0, 0))) := hc
  have hm := hM.mL
  have he := hM.eL
  obtain ⟨c0, f0⟩ := cell1 hc
  have hcl := lt_of_block hc
  obtain ⟨l, hl'⟩ : ∃ l, M.len s = l := ⟨_, rfl⟩
  have HL : Hid (M.len s = l) := hl'
  rw [hl'] at hl ⊢
  have hwr : IntKind.i64.wrap (z + l) = z + l := by rw [IntKind.wrap_i64]; omega
  clear hA hI hc hM hl'
  go_enter Tryz.func205, Tryz.ntmps205
  go_wp2
  go_region_with (refine (HM.out.cL (HA.out _ ?_) HI.out hn).mono ?_; rfl; rintro e w1 ⟨he1, hb1⟩; rw [HL.out] at he1; subst he1; have hz1 := (hb1.block c (by exact hcl)).trans HC.out; obtain ⟨c1, f1⟩ := cell1 hz1; have hc1 := lt_of_block hz1)
  all_goals
    go_wp2
    go_end0
    have hB : Below w.heap.size w w1 := (Below.refl w.heap.size w).drew.trans hb1
    exact ⟨rfl, blk1 hz1 _, Ot.setCell (S := (· = c)) (p := ⟨c, 0, none⟩) (Ot.of_below hB) (Or.inl rfl) _⟩
/-- A sum of one band more. -/
theorem bytesC_any {M : QM} (hM : M.Fine) {F : Nat → Prop} {s : M.σ} {t z : Int} {n c : Nat} (w : World) (hA : M.At w F s) (hI : M.inv t n s) (hn : n ≤ 1001) (hc : w.heap[c]? = some (.cells #[.int .i64 z] 3 (0, 0))) (hz : 0 ≤ z ∧ z ≤ 1000000000000000) (hl : 0 ≤ M.bytes s ∧ M.bytes s ≤ 100000000000000) :
    Calls Tryz.prog 204 #[.iface M.ty M.rv, .pointer (some ⟨c, 0, none⟩)] w fun e w' => e = .returned (.tuple #[]) ∧ w'.heap[c]? = some (.cells #[.int .i64 (z + M.bytes s)] 3 (0, 0)) ∧ Ot (· = c) w w' := by
  have HM : Hid M.Fine := hM
  have HA : Hid (∀ W : World, W.heap = w.heap → M.At W F s) := fun W e => hM.same hA e
  have HI : Hid (M.inv t n s) := hI
  have HC : Hid (w.heap[c]? = some (.cells #[.int .i64 z] 3 (0, 0))) := hc
  have hm := hM.mB
  have he := hM.eB
  obtain ⟨c0, f0⟩ := cell1 hc
  have hcl := lt_of_block hc
  obtain ⟨l, hl'⟩ : ∃ l, M.bytes s = l := ⟨_, rfl⟩
  have HL : Hid (M.bytes s = l) := hl'
  rw [hl'] at hl ⊢
  have hwr : IntKind.i64.wrap (z + l) = z + l := by rw [IntKind.wrap_i64]; omega
  clear hA hI hc hM hl'
  go_enter Tryz.func204, Tryz.ntmps204
  go_wp2
  go_region_with (refine (HM.out.cB (HA.out _ ?_) HI.out hn).mono ?_; rfl; rintro e w1 ⟨he1, hb1⟩; rw [HL.out] at he1; subst he1; have hz1 := (hb1.block c (by exact hcl)).trans HC.out; obtain ⟨c1, f1⟩ := cell1 hz1; have hc1 := lt_of_block hz1)
  all_goals
    go_wp2
    go_end0
    have hB : Below w.heap.size w w1 := (Below.refl w.heap.size w).drew.trans hb1
    exact ⟨rfl, blk1 hz1 _, Ot.setCell (S := (· = c)) (p := ⟨c, 0, none⟩) (Ot.of_below hB) (Or.inl rfl) _⟩
/-- What is there when a band was asked when. -/
structure WhenP (M : QM) (F : Nat → Prop) (now ls : Int) (fd : Bool) (c1 c2 c3 : Nat) (w w' : World) (r : M.σ × Int × Bool) (F' : Nat → Prop) : Prop where
  pos : M.At w' F' r.1
  foot : ∀ k, F' k → F k ∨ w.heap.size ≤ k
  b1 : w'.heap[c1]? = some (.cells #[.int .i64 now] 3 (0, 0))
  b2 : w'.heap[c2]? = some (.cells #[.bool (fd || r.2.2)] 4 (0, 0))
  b3 : w'.heap[c3]? = some (.cells #[.int .i64 (if (r.2.2 && (!fd || decide (r.2.1 < ls))) = true then r.2.1 else ls)] 3 (0, 0))
  ot : Ot (fun k => F k ∨ k = c2 ∨ k = c3) w w'
/-- The least so far, one band more. -/
theorem whenC_any {M : QM} (hM : M.Fine) {F : Nat → Prop} {s : M.σ} {t now ls : Int} {fd : Bool} {n c1 c2 c3 : Nat} (w : World) (hA : M.At w F s) (hI : M.inv t n s) (hn : n ≤ 1000) (ht0 : 0 ≤ t) (ht1 : t ≤ now) (ht2 : now ≤ 20000000)
    (h1 : w.heap[c1]? = some (.cells #[.int .i64 now] 3 (0, 0))) (h2 : w.heap[c2]? = some (.cells #[.bool fd] 4 (0, 0))) (h3 : w.heap[c3]? = some (.cells #[.int .i64 ls] 3 (0, 0))) (hF : ¬ F c1 ∧ ¬ F c2 ∧ ¬ F c3) (hne : c1 ≠ c2 ∧ c1 ≠ c3 ∧ c2 ≠ c3) :
    Calls Tryz.prog 206 #[.iface M.ty M.rv, .pointer (some ⟨c1, 0, none⟩), .pointer (some ⟨c2, 0, none⟩), .pointer (some ⟨c3, 0, none⟩)] w fun e w' => e = .returned (.tuple #[]) ∧ ∃ F', WhenP M F now ls fd c1 c2 c3 w w' (M.when s now) F' := by
  have HM : Hid M.Fine := hM
  have HA : Hid (M.At w F s) := hA
  have HI : Hid (M.inv t n s) := hI
  have H1 : Hid (w.heap[c1]? = some (.cells #[.int .i64 now] 3 (0, 0))) := h1
  have H2 : Hid (w.heap[c2]? = some (.cells #[.bool fd] 4 (0, 0))) := h2
  have H3 : Hid (w.heap[c3]? = some (.cells #[.int .i64 ls] 3 (0, 0))) := h3
  have HF : Hid (¬ F c1 ∧ ¬ F c2 ∧ ¬ F c3) := hF
  have hm := hM.mW
  have he := hM.eW
  obtain ⟨d1, f1⟩ := cell1 h1
  obtain ⟨d2, f2⟩ := cell1 h2
  obtain ⟨d3, f3⟩ := cell1 h3
  have hl1 := lt_of_block h1
  have hl2 := lt_of_block h2
  have hl3 := lt_of_block h3
  have HCW := HM.out.cW now HA.out HI.out ht0 ht1 ht2 hn
  obtain ⟨⟨s1, a1, ok1⟩, hTk⟩ : ∃ T, M.when s now = T := ⟨_, rfl⟩
  rw [hTk] at HCW ⊢
  clear hA hI h1 h2 h3 hF hM hTk
  go_enter Tryz.func206, Tryz.ntmps206
  go_wp2_with fail
  refine HCW.mono ?_
  rintro e w1 ⟨F1, rfl, ha1, hf1, ho1⟩
  have g1 := (ho1.block c1 hl1 HF.out.1).trans H1.out
  have g2 := (ho1.block c2 hl2 HF.out.2.1).trans H2.out
  have g3 := (ho1.block c3 hl3 HF.out.2.2).trans H3.out
  have G1 : Hid (w1.heap[c1]? = some (.cells #[.int .i64 now] 3 (0, 0))) := g1
  have G2 : Hid (w1.heap[c2]? = some (.cells #[.bool fd] 4 (0, 0))) := g2
  have G3 : Hid (w1.heap[c3]? = some (.cells #[.int .i64 ls] 3 (0, 0))) := g3
  have HA1 : Hid (M.At w1 F1 s1) := ha1
  have HF1 : Hid (∀ k, F1 k → F k ∨ w.heap.size ≤ k) := hf1
  have HO1 : Hid (Ot F w w1) := ho1
  obtain ⟨b1, e1⟩ := cell1 g1
  obtain ⟨b2, e2⟩ := cell1 g2
  obtain ⟨b3, e3⟩ := cell1 g3
  have hs1 := ho1.size
  have hk2 : c2 < w1.heap.size := by omega
  have hk3 : c3 < w1.heap.size := by omega
  clear g1 g2 g3 ha1 hf1 ho1 d1 d2 d3 f1 f2 f3
  have HE : Hid (Ot (fun k => F k ∨ k = c2 ∨ k = c3) w w1) := HO1.out.mono (fun k _ h => Or.inl h)
  have HW : Hid (M.At ((w1.setCell ⟨c3, 0, none⟩ (.int .i64 a1)).setCell ⟨c2, 0, none⟩ (.bool true)) F1 s1) := by
    refine HM.out.kept HA1.out (fun k hk => ?_)
    have hx : k ≠ c2 ∧ k ≠ c3 := by
      rcases HF1.out k hk with h | h
      · exact ⟨fun e => HF.out.2.1 (e ▸ h), fun e => HF.out.2.2 (e ▸ h)⟩
      · omega
    rw [Below.heap_setCell _ _ _ _ hx.1, Below.heap_setCell _ _ _ _ hx.2]
  have HX : Hid (((w1.setCell ⟨c3, 0, none⟩ (.int .i64 a1)).setCell ⟨c2, 0, none⟩ (.bool true)).heap[c1]? = some (.cells #[.int .i64 now] 3 (0, 0)) ∧ ((w1.setCell ⟨c3, 0, none⟩ (.int .i64 a1)).setCell ⟨c2, 0, none⟩ (.bool true)).heap[c2]? = some (.cells #[.bool true] 4 (0, 0)) ∧ ((w1.setCell ⟨c3, 0, none⟩ (.int .i64 a1)).setCell ⟨c2, 0, none⟩ (.bool true)).heap[c3]? = some (.cells #[.int .i64 a1] 3 (0, 0)) ∧ Ot (fun k => F k ∨ k = c2 ∨ k = c3) w ((w1.setCell ⟨c3, 0, none⟩ (.int .i64 a1)).setCell ⟨c2, 0, none⟩ (.bool true))) := by
    refine ⟨?_, blk1 ((Below.heap_setCell _ _ _ _ (show c2 ≠ c3 from hne.2.2)).trans G2.out) _, ?_, Ot.setCell (p := ⟨c2, 0, none⟩) (Ot.setCell (p := ⟨c3, 0, none⟩) HE.out (Or.inl (Or.inr (Or.inr rfl))) _) (Or.inl (Or.inr (Or.inl rfl))) _⟩
    · rw [Below.heap_setCell _ _ _ _ (show c1 ≠ c2 from hne.1), Below.heap_setCell _ _ _ _ (show c1 ≠ c3 from hne.2.1)]
      exact G1.out
    · rw [Below.heap_setCell _ _ _ _ (show c3 ≠ c2 from fun e => hne.2.2 e.symm)]
      exact blk1 G3.out _
  cases ok1 with
  | false =>
    go_wp2_with fail
    go_end0
    exact ⟨rfl, F1, HA1.out, HF1.out, G1.out, by show w1.heap[c2]? = some (.cells #[.bool (fd || false)] _ _); rw [Bool.or_false]; exact G2.out, G3.out, HE.out⟩
  | true =>
    cases fd with
    | false =>
      go_wp2_with fail
      go_end0
      exact ⟨rfl, F1, HW.out, HF1.out, HX.out.1, HX.out.2.1, HX.out.2.2.1, HX.out.2.2.2⟩
    | true =>
      by_cases hlt : a1 < ls
      · go_wp2_with fail
        go_end0
        refine ⟨rfl, F1, HW.out, HF1.out, HX.out.1, HX.out.2.1, ?_, HX.out.2.2.2⟩
        simpa [hlt] using HX.out.2.2.1
      · have hd : decide (a1 < ls) = false := by simpa using hlt
        go_wp2_with fail
        go_end0
        refine ⟨rfl, F1, HA1.out, HF1.out, G1.out, G2.out, ?_, HE.out⟩
        show w1.heap[c3]? = some (.cells #[.int .i64 (if (true && (!true || decide (a1 < ls))) = true then a1 else ls)] _ _)
        rw [hd]
        exact G3.out
end Go.Proofs.YtfakjedolecdcaaGreatDoor
