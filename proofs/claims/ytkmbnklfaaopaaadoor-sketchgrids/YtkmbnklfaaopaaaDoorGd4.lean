/-
  sketch.Grid.Merge: another grid's cells are added; its errors. Conditions: both lie in memory, apart.
-/
import Derived.Test.YtkmbnklfaaopaaaDoorGd3
namespace Go.Proofs.YtkmbnklfaaopaaaDoor
open Go.RowKit Go.Extern.Stop Go.Stop Go.Extern

/-- Both together, in the first k rows, and in j cells of the next one. -/
def mgM (M O : Nat → Nat → Int) (k j r c : Nat) : Int := if r < k ∨ (r = k ∧ c < j) then M r c + O r c else M r c
theorem mgM_full (M O : Nat → Nat → Int) (C k r c : Nat) (hc : c < C) : mgM M O k C r c = mgM M O (k + 1) 0 r c := by
  unfold mgM
  by_cases h : r < k ∨ (r = k ∧ c < C)
  · rw [if_pos h, if_pos (by omega)]
  · rw [if_neg h, if_neg (by omega)]
set_option maxRecDepth 20000 in
set_option maxHeartbeats 4000000 in
theorem merge_any (g o : Nat) (v vo : Value) (gb ob : Nat → Nat) (lo hi lo2 hi2 C R : Nat) (M O : Nat → Nat → Int) (w : World) (h : GrS w g v gb lo hi C R M) (ho : GrS w o vo ob lo2 hi2 C R O) (hap : hi ≤ lo2 ∨ hi2 ≤ lo) (hhi2 : hi2 ≤ w.heap.size) (hR0 : 1 ≤ R) (hR : R ≤ 8) (hC0 : 1 ≤ C) (hC : C ≤ 1000)
    (hM : ∀ r c, r < R → c < C → (0 ≤ M r c ∧ M r c ≤ 1000000) ∧ 0 ≤ O r c ∧ O r c ≤ 1000000) :
    Calls Tryd.prog 17 #[.pointer (some ⟨g, 0, none⟩), .pointer (some ⟨o, 0, none⟩)] w fun e w' => e = .returned .nilIface ∧ GrS w' g v gb lo hi C R (fun r c => M r c + O r c) ∧ ∃ q, Ot (Btw lo hi) w w' ∧ w'.heap.size = w.heap.size + q := by
  have HM : Hid (∀ r c, r < R → c < C → (0 ≤ M r c ∧ M r c ≤ 1000000) ∧ 0 ≤ O r c ∧ O r c ≤ 1000000) := hM
  have HG : Hid (GrS w g v gb lo hi C R M) := h
  have HGO : Hid (GrS w o vo ob lo2 hi2 C R O) := ho
  have HKO : Hid (∀ W, Ot (Btw lo hi) w W → GrS W o vo ob lo2 hi2 C R O) := fun W hW => ho.oth hW hhi2 (fun k h1 h2 => by unfold Btw; omega)
  clear hM
  obtain ⟨b, off, cap, rfl, hcap, hbl, hrows⟩ := h.rows (by omega)
  obtain ⟨b2, off2, cap2, rfl, hcap2, hbl2, hrows2⟩ := ho.rows (by omega)
  obtain ⟨c0, c1⟩ := h.cells
  obtain ⟨d0, d1⟩ := ho.cells
  clear h ho hrows hrows2 hbl hbl2
  have hne : ((R : Int) != (R : Int)) = false := by simp
  have hne2 : ((C : Int) != (C : Int)) = false := by simp
  go_enter Tryd.func17, Tryd.ntmps17
  go_wp2
  go_quiet (fail)
  go_wp2
  go_loopw [44] (fun i wr => ∃ k : Nat, k ≤ R ∧ i = .int .i64 k ∧ GrS wr g (.slice (some ⟨b, off, none⟩) R cap) gb lo hi C R (mgM M O k 0) ∧ Ot (Btw lo hi) w wr ∧ wr.heap.size = w.heap.size) (fun i _ => R - (intOf i).toNat)
  case atStart => exact ⟨0, Nat.zero_le _, rfl, (HG.out.congr fun r c _ _ => by unfold mgM; rw [if_neg (by omega)]).kept (fun _ _ _ => rfl), (Ot.refl _ _).drewN _, rfl⟩
  case round =>
    obtain ⟨k, hk, rfl, hg, hot, hsz⟩ := hrel
    have HG2 : Hid (GrS wr g (.slice (some ⟨b, off, none⟩) R cap) gb lo hi C R (mgM M O k 0)) := hg
    have HO : Hid (Ot (Btw lo hi) w wr) := hot
    have HS : Hid (wr.heap.size = w.heap.size) := hsz
    by_cases hlt : k < R
    · obtain ⟨b', off', cap', e, _, _, hrows⟩ := (HKO.out wr hot).rows (by omega)
      simp only [Value.slice.injEq, Option.some.injEq, Addr.mk.injEq, and_true, true_and] at e
      obtain ⟨⟨rfl, rfl⟩, rfl⟩ := e
      have r0 := hrows k hlt
      clear hg hot hsz hrows
      go_wp2
      go_loopw [51] (fun i wx => ∃ j : Nat, j ≤ C ∧ i = .int .i64 j ∧ GrS wx g (.slice (some ⟨b, off, none⟩) R cap) gb lo hi C R (mgM M O k j) ∧ Ot (Btw lo hi) w wx ∧ wx.heap.size = w.heap.size) (fun i _ => C - (intOf i).toNat)
      case atStart => exact ⟨0, Nat.zero_le _, rfl, HG2.out, HO.out, HS.out⟩
      case round =>
        clear HG2 HO HS r0
        rename_i wq
        obtain ⟨j, hj, rfl, hg, hot, hsz⟩ := hrel
        have HG2 : Hid (GrS wr g (.slice (some ⟨b, off, none⟩) R cap) gb lo hi C R (mgM M O k j)) := hg
        have HO : Hid (Ot (Btw lo hi) w wr) := hot
        have HS : Hid (wr.heap.size = w.heap.size) := hsz
        by_cases hjl : j < C
        · obtain ⟨x0, z0⟩ := hg.at hlt hjl
          obtain ⟨y0, _⟩ := (HKO.out wr hot).at hlt hjl
          obtain ⟨e0, e1⟩ := hg.cells
          obtain ⟨b', off', cap', e, _, _, hrows⟩ := hg.rows (by omega)
          simp only [Value.slice.injEq, Option.some.injEq, Addr.mk.injEq, and_true, true_and] at e
          obtain ⟨⟨rfl, rfl⟩, rfl⟩ := e
          have r0 := hrows k hlt
          have hbd := HM.out k j hlt hjl
          have hold : mgM M O k j k j = M k j := by unfold mgM; rw [if_neg (by omega)]
          rw [hold] at x0
          have HSET : Hid (∀ s d, s < R → d < C → mgM M O k (j + 1) s d = if s = k ∧ d = j then M k j + O k j else mgM M O k j s d) := fun s d _ _ => by
            unfold mgM
            by_cases e1 : s = k ∧ d = j
            · obtain ⟨rfl, rfl⟩ := e1
              rw [if_pos (by omega), if_pos ⟨rfl, rfl⟩]
            · rw [if_neg e1]
              by_cases e2 : s < k ∨ (s = k ∧ d < j)
              · rw [if_pos e2, if_pos (by omega)]
              · rw [if_neg e2, if_neg (by omega)]
          have HLO : Hid (lo ≤ gb k ∧ gb k < hi) := hg.r0 k hlt
          generalize M k j = mv at *
          generalize O k j = ov at *
          have ew : IntKind.i64.wrap (mv + ov) = mv + ov := by rw [IntKind.wrap_i64]; omega
          clear hg hot hsz hrows hold
          go_wp2
          go_roundw
          case rel =>
            refine ⟨j + 1, by omega, by go_num, ?_, HO.out.setCell (p := ⟨gb k, j, none⟩) (Or.inl HLO.out) _, by rw [World.size_setCell]; exact HS.out⟩
            exact HG2.out.set hlt (mv + ov) HSET.out
          case measure => simp [intOf]; omega
        · obtain rfl : j = C := by omega
          clear hg hot hsz
          go_wp2
          go_roundw
          case rel => exact ⟨k + 1, by omega, by go_num, HG2.out.congr fun r c _ hc => mgM_full M O j k r c hc, HO.out, HS.out⟩
          case measure => simp [intOf]; omega
    · obtain rfl : k = R := by omega
      clear hg hot hsz
      go_wp2
      go_ret
      exact ⟨rfl, HG2.out.congr fun r c hr _ => by unfold mgM; rw [if_pos (Or.inl hr)], 0, HO.out, HS.out⟩
end Go.Proofs.YtkmbnklfaaopaaaDoor
