/-
  millraceref.Red: its cells, and its mean. Conditions: the queue lies in memory; numbers within bounds.
-/
import Derived.Test.YtejomfmbhifeaaaDoorRl3
import Derived.Test.YtejomfmbhifeaaaDoorRd8
namespace Go.Proofs.YtejomfmbhifeaaaDoor
open Go.RowKit Go.Extern.Stop Go.Stop Go.Extern

def xmore (q : RSet) (tp : Value) (s : RdS) (used : Nat) : List Value := [.int .i64 q.lo, .int .i64 q.hi, .int .i64 q.often, .int .i64 q.sl, .bool q.mrk, tp, .int .i64 s.sum, .int .i64 s.since, .int .i64 used]
/-- The tape's block, if it has any number. -/
def TB (px : Option Addr) (m k : Nat) : Prop := 0 < m ∧ ∃ a, px = some a ∧ a.block = k
/-- The reference's Red in block b; its tape is as it was in w0. -/
structure XP (w0 w : World) (b : Nat) (P R : Int) (q : RSet) (px : Option Addr) (m pcap : Nat) (f : Nat → Int) (v : Value) (s : RdS) (used : Nat) : Prop where
  pos : RAt w b 40 P R false (xmore q (.slice px m pcap) s used) v s.L
  tape : s.tape = (tapeL m f).drop used
  row : IRow w0 px m f
  same : ∀ k, TB px m k → w.heap[k]? = w0.heap[k]?
  nb : ¬ TB px m b
  nv : ∀ k, TB px m k → v.ownBlock ≠ some k
  ub : used ≤ 100000
theorem tb_lt {w : World} {px : Option Addr} {m k : Nat} {f : Nat → Int} (h : IRow w px m f) (hk : TB px m k) : k < w.heap.size := by
  obtain ⟨h0, a, rfl, rfl⟩ := hk
  rcases h with h | ⟨b, off, e, hb, _⟩
  · omega
  · simp at e; subst e; exact hb
theorem XP.lt {w0 w : World} {b : Nat} {P R : Int} {q : RSet} {px : Option Addr} {m pcap : Nat} {f : Nat → Int} {v : Value} {s : RdS} {used : Nat} (h : XP w0 w b P R q px m pcap f v s used) {k : Nat} (hk : TB px m k) : k < w.heap.size := by
  have h1 := h.same k hk
  have h2 := tb_lt h.row hk
  rcases Nat.lt_or_ge k w.heap.size with h3 | h3
  · exact h3
  · rw [Array.getElem?_eq_none h3, Array.getElem?_eq_getElem h2] at h1
    cases h1
theorem XP.irow {w0 w : World} {b : Nat} {P R : Int} {q : RSet} {px : Option Addr} {m pcap : Nat} {f : Nat → Int} {v : Value} {s : RdS} {used : Nat} (h : XP w0 w b P R q px m pcap f v s used) : IRow w px m f := by
  rcases h.row with h0 | ⟨tb, off, rfl, hb, hc⟩
  · exact Or.inl h0
  · rcases Nat.eq_zero_or_pos m with hm | hm
    · exact Or.inl hm
    · have ht : TB (some ⟨tb, off, none⟩) m tb := ⟨hm, _, rfl, rfl⟩
      refine Or.inr ⟨tb, off, rfl, h.lt ht, fun i hi => ?_⟩
      rw [World.cell?_of_block (w := w0) (a := ⟨tb, off + i, none⟩) (h.same tb ht)]
      exact hc i hi
theorem XP.kept {w0 w w' : World} {b : Nat} {P R : Int} {q : RSet} {px : Option Addr} {m pcap : Nat} {f : Nat → Int} {v : Value} {s : RdS} {used : Nat} (h : XP w0 w b P R q px m pcap f v s used) (hb : w'.heap[b]? = w.heap[b]?) (hv : ∀ k, v.ownBlock = some k → w'.heap[k]? = w.heap[k]?) (ht : ∀ k, TB px m k → w'.heap[k]? = w.heap[k]?) : XP w0 w' b P R q px m pcap f v s used :=
  ⟨RAt.kept h.pos hb hv, h.tape, h.row, fun k hk => (ht k hk).trans (h.same k hk), h.nb, h.nv, h.ub⟩
theorem XP.below {w0 w w' : World} {b : Nat} {P R : Int} {q : RSet} {px : Option Addr} {m pcap : Nat} {f : Nat → Int} {v : Value} {s : RdS} {used : Nat} (h : XP w0 w b P R q px m pcap f v s used) (hb : Below w.heap.size w w') : XP w0 w' b P R q px m pcap f v s used :=
  h.kept (hb.block b (RAt.lt h.pos)) (fun k hk => hb.block k (h.pos.row.lt hk)) (fun k hk => hb.block k (h.lt hk))
theorem XP.drewN {w0 w : World} {b : Nat} {P R : Int} {q : RSet} {px : Option Addr} {m pcap : Nat} {f : Nat → Int} {v : Value} {s : RdS} {used : Nat} (h : XP w0 w b P R q px m pcap f v s used) (n : Nat) : XP w0 (w.drewN n) b P R q px m pcap f v s used := h.kept rfl (fun _ _ => rfl) (fun _ _ => rfl)
theorem XP.cells {w0 w : World} {b : Nat} {P R : Int} {q : RSet} {px : Option Addr} {m pcap : Nat} {f : Nat → Int} {v : Value} {s : RdS} {used : Nat} (h : XP w0 w b P R q px m pcap f v s used) : (w.cell? ⟨b, 3, none⟩ = some v ∧ w.cell? ⟨b, 4, none⟩ = some (.int .i64 q.lo) ∧ w.cell? ⟨b, 5, none⟩ = some (.int .i64 q.hi) ∧ w.cell? ⟨b, 6, none⟩ = some (.int .i64 q.often) ∧ w.cell? ⟨b, 7, none⟩ = some (.int .i64 q.sl) ∧ w.cell? ⟨b, 8, none⟩ = some (.bool q.mrk) ∧ w.cell? ⟨b, 9, none⟩ = some (.slice px m pcap) ∧ w.cell? ⟨b, 10, none⟩ = some (.int .i64 s.sum) ∧ w.cell? ⟨b, 11, none⟩ = some (.int .i64 s.since) ∧ w.cell? ⟨b, 12, none⟩ = some (.int .i64 used)) ∧
    w.frozen? ⟨b, 10, none⟩ = false ∧ w.frozen? ⟨b, 11, none⟩ = false ∧ w.frozen? ⟨b, 12, none⟩ = false :=
  ⟨⟨(RAt.cell h.pos rfl).1, (RAt.cell h.pos rfl).1, (RAt.cell h.pos rfl).1, (RAt.cell h.pos rfl).1, (RAt.cell h.pos rfl).1, (RAt.cell h.pos rfl).1, (RAt.cell h.pos rfl).1, (RAt.cell h.pos rfl).1, (RAt.cell h.pos rfl).1, (RAt.cell h.pos rfl).1⟩, (RAt.cell h.pos (i := 10) rfl).2, (RAt.cell h.pos (i := 11) rfl).2, (RAt.cell h.pos (i := 12) rfl).2⟩
theorem XP.set {w0 w : World} {b : Nat} {P R : Int} {q : RSet} {px : Option Addr} {m pcap : Nat} {f : Nat → Int} {v : Value} {s s' : RdS} {used used' : Nat} (h : XP w0 w b P R q px m pcap f v s used) (i : Nat) (u : Value) (hx : xmore q (.slice px m pcap) s' used' = (xmore q (.slice px m pcap) s used).set i u) (hL : s'.L = s.L) (ht : s'.tape = (tapeL m f).drop used') (hu : used' ≤ 100000) : XP w0 (w.setCell ⟨b, i + 4, none⟩ u) b P R q px m pcap f v s' used' := by
  refine ⟨by rw [hL]; exact RAt.rest h.pos i u hx, ht, h.row, fun k hk => (heap_other (fun e => h.nb (by rw [← e]; exact hk)) rfl).trans (h.same k hk), h.nb, h.nv, hu⟩
theorem XP.sum {w0 w : World} {b : Nat} {P R : Int} {q : RSet} {px : Option Addr} {m pcap : Nat} {f : Nat → Int} {v : Value} {s : RdS} {used : Nat} (h : XP w0 w b P R q px m pcap f v s used) (n : Int) : XP w0 (w.setCell ⟨b, 10, none⟩ (.int .i64 n)) b P R q px m pcap f v { s with sum := n } used := h.set 6 _ rfl rfl h.tape h.ub
theorem XP.since {w0 w : World} {b : Nat} {P R : Int} {q : RSet} {px : Option Addr} {m pcap : Nat} {f : Nat → Int} {v : Value} {s : RdS} {used : Nat} (h : XP w0 w b P R q px m pcap f v s used) (n : Int) : XP w0 (w.setCell ⟨b, 11, none⟩ (.int .i64 n)) b P R q px m pcap f v { s with since := n } used := h.set 7 _ rfl rfl h.tape h.ub
theorem XP.use {w0 w : World} {b : Nat} {P R : Int} {q : RSet} {px : Option Addr} {m pcap : Nat} {f : Nat → Int} {v : Value} {s : RdS} {used : Nat} (h : XP w0 w b P R q px m pcap f v s used) (hu : used + 1 ≤ 100000) : XP w0 (w.setCell ⟨b, 12, none⟩ (.int .i64 ((used : Int) + 1))) b P R q px m pcap f v { s with tape := s.tape.tail } (used + 1) :=
  h.set 8 _ rfl rfl (by rw [h.tape, List.tail_drop]) hu
theorem two_pow_le {k : Nat} (h : k ≤ 10) : 2 ^ k ≤ 1024 := Nat.pow_le_pow_right (by decide) h
set_option maxHeartbeats 1000000 in
theorem rmean_any {w0 : World} {b : Nat} {P R : Int} {q : RSet} {px : Option Addr} {m pcap : Nat} {f : Nat → Int} {v : Value} {s : RdS} {used : Nat} (w : World) (h : XP w0 w b P R q px m pcap f v s used) (hq : q.Ok) (h0 : 0 ≤ s.sum) (h1 : s.sum ≤ 1000000000000000) :
    Calls Tryd.prog 13 #[.pointer (some ⟨b, 0, none⟩)] w fun e w' => e = .returned (.int .i64 (meanR q s.sum)) ∧ w' = w := by
  have hb := RAt.lt h.pos
  obtain ⟨⟨c3, c4, c5, c6, c7, c8, c9, c10, c11, c12⟩, f10, f11, f12⟩ := h.cells
  clear h
  have hs0 := hq.sl0
  have hs1 := hq.sl1
  obtain ⟨S, hS⟩ : ∃ S : Nat, q.sl = S := ⟨q.sl.toNat, by omega⟩
  have HM : Hid (meanR q s.sum = s.sum / ((2 ^ S : Nat) : Int)) := by
    show _ = _
    unfold meanR
    rw [hS, Int.toNat_natCast]
    simp
  rw [hS] at c7 hs1
  clear hS
  have hS1 : S ≤ 10 := by omega
  go_enter Tryd.func13, Tryd.ntmps13
  go_wp2
  go_loopw [3, 9] (fun n i wr => ∃ k : Nat, k ≤ S ∧ i = .int .i64 k ∧ n = .int .i64 ((2 ^ k : Nat) : Int) ∧ wr = w) (fun _ i _ => S - (intOf i).toNat)
  case atStart => exact ⟨0, Nat.zero_le _, rfl, rfl, rfl⟩
  case round =>
    obtain ⟨k, hk, rfl, rfl, rfl⟩ := hrel
    have hp := two_pow_le (k := k) (by omega)
    obtain ⟨p, hp'⟩ : ∃ p, 2 ^ k = p := ⟨_, rfl⟩
    have HP : Hid (2 ^ k = p) := hp'
    have hp1 : 1 ≤ p := by rw [← hp']; exact Nat.pos_of_ne_zero (by simp)
    rw [hp'] at hp ⊢
    clear hp'
    by_cases hlt : k < S
    · go_wp2
      go_roundw
      case rel => exact ⟨k + 1, by omega, by go_num, by rw [Nat.pow_succ, HP.out]; first | done | rfl | (congr 1; omega), by first | rfl | trivial⟩
      case measure => simp [intOf]; omega
    · obtain rfl : k = S := by omega
      have hz : ((p : Int) == 0) = false := by simp; omega
      obtain ⟨d, hd⟩ : ∃ d : Int, s.sum / (p : Int) = d := ⟨_, rfl⟩
      have hd0 : 0 ≤ d ∧ d ≤ 1000000000000000 := by
        rw [← hd]
        exact ⟨Int.ediv_nonneg (by omega) (by omega), Int.le_trans (Int.ediv_le_self _ (by omega)) (by omega)⟩
      go_wp2
      go_ret
      exact ⟨by rw [HM.out, HP.out]; rfl, rfl⟩
theorem rred_after {w0 w2 w' : World} {b : Nat} {P R : Int} {q : RSet} {px : Option Addr} {m pcap : Nat} {f : Nat → Int} {v v' u : Value} {s : RdS} {used : Nat} {L' lost : List Hd} (hr : XP w0 w2 b P R q px m pcap f v s used) (hp : RPut w2 b 40 P R false (xmore q (.slice px m pcap) s used) v L' lost w' v' u) : XP w0 w' b P R q px m pcap f v' { s with L := L' } used := by
  refine ⟨hp.list, hr.tape, hr.row, fun k hk => (hp.ot.block k (hr.lt hk) (fun e => ?_)).trans (hr.same k hk), hr.nb, fun k hk e => ?_, hr.ub⟩
  · rcases e with rfl | e
    · exact hr.nb hk
    · exact hr.nv k hk e
  · rcases hp.own k e with h | h
    · exact hr.nv k hk h
    · have := hr.lt hk; omega
end Go.Proofs.YtejomfmbhifeaaaDoor
