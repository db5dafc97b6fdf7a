/-
  fair.Rounds: what begin and send do. Conditions: they lie in memory; numbers within bounds; the flow has its turn.
-/
import Derived.Test.YtejomfmbhifeaaaDoorFd
import Derived.Test.YtejomfmbhifeaaaDoorGm
namespace Go.Proofs.YtejomfmbhifeaaaDoor
open Go.RowKit Go.Extern.Stop Go.Stop Go.Extern

theorem Ot.here {b i : Nat} {a w : World} (h : Ot (· = b) a w) (u : Value) : Ot (· = b) a (w.setCell ⟨b, i, none⟩ u) := Ot.setCell h (Or.inl rfl) u
def beginS (q : Nat → Int) (s : RnS) (f : Nat) : RnS := if s.bg then s else { s with bg := true, cr := updF s.cr f (s.cr f + q f) }
theorem RnP.cells {w : World} {b : Nat} {room : Int} {q : Nat → Int} {C : Nat → Value} {vs : Nat → Value} {tv : Value} {s : RnS} (h : RnP w b room q C vs tv s) : (w.cell? ⟨b, 0, none⟩ = some (.int .i64 room) ∧ w.cell? ⟨b, 65, none⟩ = some tv ∧ w.cell? ⟨b, 66, none⟩ = some (.bool s.bg)) ∧ w.frozen? ⟨b, 65, none⟩ = false ∧ w.frozen? ⟨b, 66, none⟩ = false := by
  have a0 := h.blk.cell (i := 0) (by omega)
  have a1 := h.blk.cell (i := 65) (by omega)
  have a2 := h.blk.cell (i := 66) (by omega)
  rw [h.c0] at a0
  rw [h.ct] at a1
  rw [h.cb] at a2
  exact ⟨⟨a0.1, a1.1, a2.1⟩, a1.2, a2.2⟩
theorem RnP.flow {w : World} {b : Nat} {room : Int} {q : Nat → Int} {C : Nat → Value} {vs : Nat → Value} {tv : Value} {s : RnS} (h : RnP w b room q C vs tv s) {f : Nat} (hf : f < 16) : w.cell? ⟨b, 1 + f, none⟩ = some (.int .i64 (q f)) ∧ w.cell? ⟨b, 17 + f, none⟩ = some (.int .i64 (s.cr f)) ∧ w.frozen? ⟨b, 17 + f, none⟩ = false := by
  have a0 := h.blk.cell (i := 1 + f) (by omega)
  have a1 := h.blk.cell (i := 17 + f) (by omega)
  rw [h.cq f hf] at a0
  rw [h.cc f hf] at a1
  exact ⟨a0.1, a1.1, a1.2⟩
set_option maxHeartbeats 1000000 in
theorem rbegin_any {b : Nat} {room : Int} {q : Nat → Int} {C : Nat → Value} {vs : Nat → Value} {tv : Value} {s : RnS} (f : Nat) (w : World) (h : RnP w b room q C vs tv s) (hf : f < 16) (hc0 : 0 ≤ s.cr f) (hc1 : s.cr f ≤ 2000000) (hq0 : 1 ≤ q f) (hq1 : q f ≤ 1000000) :
    Calls Tryd.prog 107 #[.pointer (some ⟨b, 0, none⟩), .int .i64 f] w fun e w' => e = .returned (.tuple #[]) ∧ ∃ C', RnP w' b room q C' vs tv (beginS q s f) ∧ Ot (· = b) w w' := by
  have H : Hid (RnP w b room q C vs tv s) := h
  obtain ⟨⟨c0, c65, c66⟩, f65, f66⟩ := h.cells
  obtain ⟨d0, d1, d2⟩ := h.flow hf
  have hb := h.blk.lt
  clear h
  have hw : IntKind.i64.wrap (s.cr f + q f) = s.cr f + q f := by rw [IntKind.wrap_i64]; omega
  cases hbg : s.bg with
  | true =>
    have hB : beginS q s f = s := by rw [beginS, hbg]; rfl
    rw [hB]
    rw [hbg] at c66
    clear hB hbg
    go_enter Tryd.func107, Tryd.ntmps107
    go_wp2
    go_end0
    exact ⟨rfl, C, H.out, Ot.refl _ _⟩
  | false =>
    have hB : beginS q s f = { s with bg := true, cr := updF s.cr f (s.cr f + q f) } := by rw [beginS, hbg]; rfl
    rw [hB]
    rw [hbg] at c66
    clear hB hbg
    go_enter Tryd.func107, Tryd.ntmps107
    go_wp2
    all_goals go_region
    all_goals go_wp2
    all_goals
      go_end0
      exact ⟨rfl, _, ((H.out.setB true).setC hf _).drewN 1, (Ot.here (Ot.here (Ot.refl _ _) _) _).drew⟩
/-- What a method leaves of Rounds. -/
structure RnO (w : World) (b : Nat) (room : Int) (q : Nat → Int) (vs : Nat → Value) (tv : Value) (s' : RnS) (w' : World) (C' : Nat → Value) (vs' : Nat → Value) (tv' : Value) : Prop where
  pos : RnP w' b room q C' vs' tv' s'
  own : ∀ k, RnF b vs' tv' k → RnF b vs tv k ∨ w.heap.size ≤ k
  ot : Ot (RnF b vs tv) w w'
theorem RnO.trans {w w1 w2 : World} {b : Nat} {room : Int} {q : Nat → Int} {vs vs1 vs2 : Nat → Value} {tv tv1 tv2 : Value} {s1 s2 : RnS} {C1 C2 : Nat → Value} (h : RnO w b room q vs tv s1 w1 C1 vs1 tv1) (k : RnO w1 b room q vs1 tv1 s2 w2 C2 vs2 tv2) : RnO w b room q vs tv s2 w2 C2 vs2 tv2 := by
  have hs := h.ot.size
  refine ⟨k.pos, fun j hj => ?_, h.ot.trans' k.ot (fun j hj hlt => ?_)⟩
  · rcases k.own j hj with h1 | h1
    · exact h.own j h1
    · exact Or.inr (by omega)
  · rcases h.own j hj with h1 | h1
    · exact h1
    · omega
theorem rno_listed {w w' : World} {b : Nat} {room : Int} {q : Nat → Int} {C : Nat → Value} {vs : Nat → Value} {tv : Value} {s : RnS} (h : RnP w b room q C vs tv s) {f : Nat} (hf : f < 16) {v' : Value} {L' : List Hd} (hl : LO w' b 67 116 (updL C (33 + f * 2) v' L') (33 + f * 2) v' L') (ho : ∀ k, v'.ownBlock = some k → (vs f).ownBlock = some k ∨ w.heap.size ≤ k) (hot : Ot (fun k => k = b ∨ (vs f).ownBlock = some k) w w') : RnO w b room q vs tv { s with fl := updF s.fl f L' } w' (updL C (33 + f * 2) v' L') (updF vs f v') tv := by
  refine ⟨h.listed hf hl ho hot, fun k hk => ?_, hot.mono (fun k _ hk => ?_)⟩
  · rcases hk with rfl | ⟨g, hg, hv⟩ | hv
    · exact Or.inl (Or.inl rfl)
    · by_cases e : g = f
      · subst e
        rw [updF_same] at hv
        rcases ho k hv with h1 | h1
        · exact Or.inl (Or.inr (Or.inl ⟨g, hg, h1⟩))
        · exact Or.inr h1
      · rw [updF_ne e] at hv
        exact Or.inl (Or.inr (Or.inl ⟨g, hg, hv⟩))
    · exact Or.inl (Or.inr (Or.inr hv))
  · rcases hk with h1 | h1
    · exact Or.inl h1
    · exact Or.inr (Or.inl ⟨f, hf, h1⟩)
theorem rno_turned {w w' : World} {b : Nat} {room : Int} {q : Nat → Int} {C : Nat → Value} {vs : Nat → Value} {tv tv' : Value} {s : RnS} {l : List Int} (h : RnP w b room q C vs tv s) (hp : TPost w b 67 116 C 65 tv l w' tv') : RnO w b room q vs tv { s with tn := l } w' (updC C 65 tv') vs tv' := by
  refine ⟨h.turned hp, fun k hk => ?_, hp.ot.mono (fun k _ hk => ?_)⟩
  · rcases hk with h1 | h1 | h1
    · exact Or.inl (Or.inl h1)
    · exact Or.inl (Or.inr (Or.inl h1))
    · rcases hp.own k h1 with h2 | h2
      · exact Or.inl (Or.inr (Or.inr h2))
      · exact Or.inr h2
  · rcases hk with h1 | h1
    · exact Or.inl h1
    · exact Or.inr (Or.inr h1)
theorem rno_same {w w' : World} {b : Nat} {room : Int} {q : Nat → Int} {C' : Nat → Value} {vs : Nat → Value} {tv : Value} {s' : RnS} (h' : RnP w' b room q C' vs tv s') (ho : Ot (RnF b vs tv) w w') : RnO w b room q vs tv s' w' C' vs tv := ⟨h', fun _ hk => Or.inl hk, ho⟩
end Go.Proofs.YtejomfmbhifeaaaDoor
