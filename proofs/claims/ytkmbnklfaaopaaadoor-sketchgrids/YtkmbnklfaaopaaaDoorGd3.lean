/-
  sketch.Grid.Add and Guess: one more in the key's cell of each row; the least of them. Conditions: a grid lies in memory.
-/
import Derived.Test.YtkmbnklfaaopaaaDoorGd2
namespace Go.Proofs.YtkmbnklfaaopaaaDoor
open Go.RowKit Go.Extern.Stop Go.Stop Go.Extern

/-- The blocks from lo to hi. -/
def Btw (lo hi k : Nat) : Prop := lo ≤ k ∧ k < hi
/-- One more in the key's cells of the first n rows. -/
def addM (C : Nat) (key : Int) (n : Nat) (M : Nat → Nat → Int) (r c : Nat) : Int := if r < n ∧ c = cellN C r key then M r c + 1 else M r c
set_option maxRecDepth 20000 in
set_option maxHeartbeats 2000000 in
theorem add_any (g : Nat) (v : Value) (gb : Nat → Nat) (lo hi C R : Nat) (M : Nat → Nat → Int) (key : Int) (w : World) (h : GrS w g v gb lo hi C R M) (hR0 : 1 ≤ R) (hR : R ≤ 8) (hC0 : 1 ≤ C) (hC : C ≤ 1000) (hM : ∀ r c, r < R → c < C → 0 ≤ M r c ∧ M r c ≤ 1000000) :
    Calls Tryd.prog 15 #[.pointer (some ⟨g, 0, none⟩), .int .i64 key] w fun e w' => e = .returned (.tuple #[]) ∧ GrS w' g v gb lo hi C R (addM C key R M) ∧ Ot (Btw lo hi) w w' ∧ w'.heap.size = w.heap.size := by
  have HM : Hid (∀ r c, r < R → c < C → 0 ≤ M r c ∧ M r c ≤ 1000000) := hM
  have HG : Hid (GrS w g v gb lo hi C R M) := h
  clear h hM
  obtain ⟨b, off, cap, rfl, hcap, hbl, hrows⟩ := HG.out.rows (by omega)
  obtain ⟨c0, c1⟩ := HG.out.cells
  clear hrows hbl
  go_enter Tryd.func15, Tryd.ntmps15
  go_wp2
  go_loopw [13] (fun i wr => ∃ k : Nat, k ≤ R ∧ i = .int .i64 k ∧ GrS wr g (.slice (some ⟨b, off, none⟩) R cap) gb lo hi C R (addM C key k M) ∧ Ot (Btw lo hi) w wr ∧ wr.heap.size = w.heap.size) (fun i _ => R - (intOf i).toNat)
  case atStart => exact ⟨0, Nat.zero_le _, rfl, HG.out.congr fun r c _ _ => by unfold addM; rw [if_neg (by omega)], Ot.refl _ _, rfl⟩
  case round =>
    obtain ⟨k, hk, rfl, hg, hot, hsz⟩ := hrel
    have HG2 : Hid (GrS wr g (.slice (some ⟨b, off, none⟩) R cap) gb lo hi C R (addM C key k M)) := hg
    have HO : Hid (Ot (Btw lo hi) w wr) := hot
    have HS : Hid (wr.heap.size = w.heap.size) := hsz
    by_cases hlt : k < R
    · obtain ⟨b', off', cap', e, _, _, hrows⟩ := hg.rows (by omega)
      simp only [Value.slice.injEq, Option.some.injEq, Addr.mk.injEq, and_true, true_and] at e
      obtain ⟨⟨rfl, rfl⟩, rfl⟩ := e
      have r0 := hrows k hlt
      obtain ⟨d0, d1⟩ := hg.cells
      have hcl := cellN_lt (C := C) (r := k) (key := key) hC0
      obtain ⟨e0, z0⟩ := hg.at hlt hcl
      have HC : Hid (Calls Tryd.prog 14 #[.pointer (some ⟨g, 0, none⟩), .int .i64 k, .int .i64 key] wr fun e w' => e = .returned (.int .i64 (cellN C k key)) ∧ w' = wr) := cell_yes g _ C R k key wr d0 d1 ⟨_, _, rfl⟩ hlt hR hC0 hC
      have hbd := HM.out k (cellN C k key) hlt hcl
      have hold : addM C key k M k (cellN C k key) = M k (cellN C k key) := by unfold addM; rw [if_neg (by omega)]
      rw [hold] at e0
      have HSET : Hid (∀ s d, s < R → d < C → addM C key (k + 1) M s d = if s = k ∧ d = cellN C k key then M k (cellN C k key) + 1 else addM C key k M s d) := fun s d _ _ => by
        unfold addM
        by_cases e1 : s = k
        · subst e1
          by_cases e2 : d = cellN C s key
          · rw [if_pos ⟨by omega, e2⟩, if_pos ⟨rfl, e2⟩, e2]
          · rw [if_neg (fun h => e2 h.2), if_neg (fun h => e2 h.2), if_neg (fun h => e2 h.2)]
        · by_cases e2 : s < k
          · rw [if_neg (c := s = k ∧ _) (fun h => e1 h.1)]
            by_cases e3 : d = cellN C s key
            · rw [if_pos ⟨by omega, e3⟩, if_pos ⟨e2, e3⟩]
            · rw [if_neg (fun h => e3 h.2), if_neg (fun h => e3 h.2)]
          · rw [if_neg (fun h => by omega), if_neg (fun h => e1 h.1), if_neg (fun h => e2 h.1)]
      have HLO : Hid (lo ≤ gb k ∧ gb k < hi) := hg.r0 k hlt
      generalize hcn : cellN C k key = cn at *
      generalize M k cn = mv at *
      have ew : IntKind.i64.wrap (mv + 1) = mv + 1 := by rw [IntKind.wrap_i64]; omega
      clear hg hot hsz hrows hold
      go_wp2_with fail
      refine HC.out.mono ?_
      rintro e w' ⟨rfl, rfl⟩
      go_wp2
      go_roundw
      case rel =>
        refine ⟨k + 1, by omega, by go_num, ?_, HO.out.setCell (p := ⟨gb k, cn, none⟩) (Or.inl HLO.out) _, by rw [World.size_setCell]; exact HS.out⟩
        exact HG2.out.set hlt (mv + 1) HSET.out
      case measure => simp [intOf]; omega
    · obtain rfl : k = R := by omega
      clear hg hot hsz
      go_wp2
      go_end0
      exact ⟨rfl, HG2.out, HO.out, HS.out⟩
/-- The least of the key's cells of the first k rows (and of the first). -/
def gsM (C : Nat) (key : Int) (M : Nat → Nat → Int) : Nat → Int
  | 0 => M 0 (cellN C 0 key)
  | k + 1 => min (gsM C key M k) (M k (cellN C k key))
set_option maxRecDepth 20000 in
set_option maxHeartbeats 2000000 in
theorem guess_any (g : Nat) (v : Value) (gb : Nat → Nat) (lo hi C R : Nat) (M : Nat → Nat → Int) (key : Int) (w : World) (h : GrS w g v gb lo hi C R M) (hR0 : 1 ≤ R) (hR : R ≤ 8) (hC0 : 1 ≤ C) (hC : C ≤ 1000) :
    Calls Tryd.prog 13 #[.pointer (some ⟨g, 0, none⟩), .int .i64 key] w fun e w' => e = .returned (.int .i64 (gsM C key M R)) ∧ ∃ q, w' = w.drewN q := by
  obtain ⟨b, off, cap, rfl, hcap, hbl, hrows⟩ := h.rows (by omega)
  obtain ⟨c0, c1⟩ := h.cells
  have HR : Hid (∀ r, r < R → w.cell? ⟨b, off + r, none⟩ = some (.slice (some ⟨gb r, 0, none⟩) C C)) := hrows
  have HAT : Hid (∀ r, r < R → w.cell? ⟨gb r, cellN C r key, none⟩ = some (.int .i64 (M r (cellN C r key)))) := fun r hr => (h.at hr (cellN_lt hC0)).1
  have HC : Hid (∀ q r, r < R → Calls Tryd.prog 14 #[.pointer (some ⟨g, 0, none⟩), .int .i64 (r : Nat), .int .i64 key] (w.drewN q) fun e w' => e = .returned (.int .i64 (cellN C r key)) ∧ w' = w.drewN q) := fun q r hr => cell_yes g _ C R r key (w.drewN q) c0 c1 ⟨_, _, rfl⟩ hr hR hC0 hC
  have r0 := HR.out 0 (by omega)
  rw [Nat.add_zero] at r0
  have a0 := HAT.out 0 (by omega)
  have hR' : ¬ (R : Int) = 0 := by omega
  have hRb : ((R : Int) == 0) = false := by simpa using hR'
  have hl0 : cellN C 0 key < C := cellN_lt hC0
  clear h hrows
  have HC0 : Hid (∀ W, (∃ q, W = w.drewN q) → Calls Tryd.prog 14 #[.pointer (some ⟨g, 0, none⟩), .int .i64 0, .int .i64 key] W fun e w' => e = .returned (.int .i64 (cellN C 0 key)) ∧ w' = W) := by
    rintro W ⟨q, rfl⟩
    exact HC.out q 0 (by omega)
  go_enter Tryd.func13, Tryd.ntmps13
  go_wp2
  go_quiet ((go_at_call 14; exact Calls.quiet_of_same (HC0.out _ ⟨_, rfl⟩)))
  go_wp2
  go_loopw [5, 34] (fun s i wr => ∃ k : Nat, k ≤ R ∧ i = .int .i64 k ∧ s = .int .i64 (gsM C key M k) ∧ ∃ q, wr = w.drewN q) (fun _ i _ => R - (intOf i).toNat)
  case atStart => exact ⟨0, Nat.zero_le _, rfl, rfl, _, rfl⟩
  case round =>
    obtain ⟨k, hk, rfl, rfl, q, rfl⟩ := hrel
    by_cases hlt : k < R
    · have rk := HR.out k hlt
      have ak := HAT.out k hlt
      have hl : cellN C k key < C := cellN_lt hC0
      have HT : Hid (gsM C key M (k + 1) = min (gsM C key M k) (M k (cellN C k key))) := rfl
      have HCK := HC.out q k hlt
      have HCK' : Hid (Calls Tryd.prog 14 #[.pointer (some ⟨g, 0, none⟩), .int .i64 k, .int .i64 key] (w.drewN q) fun e w' => e = .returned (.int .i64 (cellN C k key)) ∧ w' = w.drewN q) := HCK
      clear HCK
      generalize cellN C k key = cn at *
      go_wp2_with fail
      refine HCK'.out.mono ?_
      rintro e w' ⟨rfl, rfl⟩
      go_wp2
      go_roundw
      case rel =>
        refine ⟨k + 1, by omega, by go_num, ?_, _, rfl⟩
        rw [HT.out]
        congr 1
        split <;> omega
      case measure => simp [intOf]; omega
    · obtain rfl : k = R := by omega
      go_wp2
      go_ret
      exact ⟨rfl, _, rfl⟩
end Go.Proofs.YtkmbnklfaaopaaaDoor
