/-
  package htb: a tree's When. Conditions: the tree lies in memory as its state tells; times up to 20000000.
  package htb: Len, Bytes. Conditions: the tree lies in memory as its state tells.
-/
import Derived.Test.YtpgdocmpbeabpaaDoorZtd
import Derived.Test.YtpgdocmpbeabpaaDoorZt2
namespace Go.Proofs.YtpgdocmpbeabpaaDoor
open Go.RowKit Go.Extern.Stop Go.Stop Go.Extern

/-- The least time of the first classes. -/
def whenM (K : HtK) (s : HtS) (now : Int) : Nat → Int × Bool
  | 0 => (0, false)
  | i + 1 => hearM (whenM K s now i) (readyM K s now i).1 (readyM K s now i).2
set_option maxRecDepth 20000 in
set_option maxHeartbeats 4000000 in
theorem twhen_ht {K : HtK} {s : HtS} {vs : Nat → Value} {ow : Nat → Nat × Nat} {t : Int} {n : Nat} (hK : HtKOk K) (now : Int) (w : World) (h : HtAt K w s vs ow) (hI : HtI K t n s) (hn : s.tm = now) (h2 : now ≤ 20000000) :
    Calls Tryd.prog 82 #[.pointer (some ⟨K.tb, 0, none⟩), .int .i64 now] w fun e w' => e = .returned (.tuple #[.int .i64 (whenM K s now K.N).1, .bool (whenM K s now K.N).2]) ∧ Hid (HtAt K w' s vs ow) ∧ Hid (Ot (HtF K vs) w w') := by
  have H : Hid (HtAt K w s vs ow) := h
  have HRD : Hid (∀ W i, HtAt K W s vs ow → i < K.N → Calls Tryd.prog 85 #[.pointer (some ⟨K.nb i, 0, none⟩), .int .i64 now] W fun e w' => e = .returned (.tuple #[.int .i64 (readyM K s now i).1, .bool (readyM K s now i).2]) ∧ Hid (HtAt K w' s vs ow) ∧ Hid (Ot (HtF K vs) W w')) := fun W i hW hi => ready_ht hK now hi W hW hI hn h2
  have HHE : Hid (∀ W p a ok, W.heap[w.heap.size]? = some (.cells #[.int .i64 p.1, .bool p.2] 163 (0, 0)) → Calls Tryd.prog 84 #[.pointer (some ⟨w.heap.size, 0, none⟩), .int .i64 a, .bool ok] W fun e w' => e = .returned (.tuple #[]) ∧ Hid (w'.heap[w.heap.size]? = some (.cells #[.int .i64 (hearM p a ok).1, .bool (hearM p a ok).2] 163 (0, 0))) ∧ Hid (Ot (fun k => k = w.heap.size) W w')) := fun W p a ok hW => hear_ht _ p a ok W hW
  have HLW : Hid (∀ k, HtF K vs k → k ≠ w.heap.size) := fun k hk => by have := h.low k hk; omega
  have h16 := hK.n16
  have hrt := h.root
  have hl := lt_of_block hrt
  have c1 : w.cell? ⟨K.tb, 1, none⟩ = some (.slice (some ⟨K.g, 0, none⟩) K.N K.gcap) := by simp [World.cell?, hrt]
  have c1' : (w.alloc (.cells #[.int .i64 0, .bool false] 163)).cell? ⟨K.tb, 1, none⟩ = some (.slice (some ⟨K.g, 0, none⟩) K.N K.gcap) := ((below_alloc_ (Below.refl _ _) _ : Below w.heap.size w (w.alloc (.cells #[.int .i64 0, .bool false] 163))).cell (p := ⟨K.tb, 1, none⟩) hl).trans c1
  have HW0 : Hid ((w.alloc (.cells #[.int .i64 0, .bool false] 163)).heap[w.heap.size]? = some (.cells #[.int .i64 0, .bool false] 163 (0, 0))) := new_block _ _
  have HA0 : Hid (HtAt K (w.alloc (.cells #[.int .i64 0, .bool false] 163)) s vs ow) := h.below (below_alloc_ (Below.refl _ _) _)
  have HO0 : Hid (Ot (HtF K vs) w (w.alloc (.cells #[.int .i64 0, .bool false] 163))) := (Ot.refl _ _).alloc _
  have hl' : K.tb < w.heap.size + 1 := by omega
  obtain ⟨R, hR⟩ : ∃ R, whenM K s now K.N = R := ⟨_, rfl⟩
  have HR : Hid (whenM K s now K.N = R) := hR
  rw [hR]
  clear hK h hI hn h2 hrt c1 hR
  go_enter Tryd.func82, Tryd.ntmps82
  go_wp2
  generalize w.alloc (.cells #[.int .i64 0, .bool false] 163) = w0 at *
  clear c1' hl hl'
  go_loopw [14] (fun iv wr => ∃ i : Nat, i ≤ K.N ∧ iv = .int .i64 i ∧ Hid (HtAt K wr s vs ow) ∧ Hid (Ot (HtF K vs) w wr) ∧ Hid (wr.heap[w.heap.size]? = some (.cells #[.int .i64 (whenM K s now i).1, .bool (whenM K s now i).2] 163 (0, 0)))) (fun iv _ => K.N - (intOf iv).toNat)
  case atStart => exact ⟨0, Nat.zero_le _, rfl, HA0, HO0, HW0⟩
  case round =>
    clear HA0 HO0 HW0
    obtain ⟨i, hi, rfl, HA, HO, HS⟩ := hrel
    by_cases hlt : i < K.N
    · have hrw := HA.out.row i hlt
      have hgl := HA.out.gl
      have hki : (i : Int) < (K.N : Int) := by omega
      have HCL := HRD.out wr i HA.out hlt
      have HM : Hid (whenM K s now (i + 1) = hearM (whenM K s now i) (readyM K s now i).1 (readyM K s now i).2) := rfl
      obtain ⟨p, hp⟩ : ∃ p, whenM K s now i = p := ⟨_, rfl⟩
      obtain ⟨q, hq⟩ : ∃ q, readyM K s now i = q := ⟨_, rfl⟩
      rw [hp] at HS
      rw [hp, hq] at HM
      rw [hq] at HCL
      obtain ⟨q1, q2⟩ := q
      have hsl := lt_of_block HS.out
      have HSZ : Hid (w.heap.size < wr.heap.size) := hsl
      clear hp hq hsl
      go_wp2_with fail
      refine HCL.mono ?_
      rintro e w1 ⟨rfl, HA1, HO1⟩
      have HS1 : Hid (w1.heap[w.heap.size]? = some (.cells #[.int .i64 p.1, .bool p.2] 163 (0, 0))) := (HO1.out.block _ HSZ.out (fun hk => HLW.out _ hk rfl)).trans HS.out
      go_wp2_with fail
      refine (HHE.out w1 p q1 q2 HS1.out).mono ?_
      rintro e w2 ⟨rfl, HS2, HO2⟩
      have HA2 : Hid (HtAt K w2 s vs ow) := HA1.out.kept (fun k hk => HO2.out.block k (HA1.out.low k hk) (fun e => HLW.out k hk e))
      have HO3 : Hid (Ot (HtF K vs) w w2) := (HO.out.trans HO1.out).trans' HO2.out (fun k hk hlt => absurd hk (by omega))
      go_wp2
      go_roundw
      case rel => exact ⟨i + 1, by omega, by go_num, HA2, HO3, by rw [HM.out]; exact HS2.out⟩
      case measure => simp [intOf]; omega
    · have hiN : i = K.N := by omega
      have hS := HS.out
      rw [hiN, HR.out] at hS
      have d0 : wr.cell? ⟨w.heap.size, 0, none⟩ = some (.int .i64 R.1) := by simp only [World.cell?]; rw [hS]; rfl
      have d1 : wr.cell? ⟨w.heap.size, 1, none⟩ = some (.bool R.2) := by simp only [World.cell?]; rw [hS]; rfl
      have dl := lt_of_block hS
      rw [hiN]
      clear hS hi hlt hiN
      go_wp2
      go_region
      go_wp2
      go_ret2
      exact ⟨rfl, HA.out.below (by repeat' (first | with_reducible exact Below.refl _ _ | with_reducible refine Below.drew ?_ | with_reducible refine below_drewZ ?_ _)), HO.out.drewN _⟩
end Go.Proofs.YtpgdocmpbeabpaaDoor
namespace Go.Proofs.YtpgdocmpbeabpaaDoor
open Go.RowKit Go.Extern.Stop Go.Stop Go.Extern

def sumN (f : Nat → Int) : Nat → Int
  | 0 => 0
  | k + 1 => sumN f k + f k
theorem sumN_bd {f : Nat → Int} : ∀ {k : Nat}, (∀ i, i < k → 0 ≤ f i ∧ f i ≤ 20000000) → 0 ≤ sumN f k ∧ sumN f k ≤ 20000000 * k := by
  intro k
  induction k with
  | zero => intro _; simp [sumN]
  | succ k ih =>
    intro h
    have h1 := ih (fun i hi => h i (by omega))
    have h2 := h k (by omega)
    simp only [sumN]
    omega
theorem sumL_few : ∀ {L : List Hd}, (∀ x ∈ L, 0 ≤ x.l ∧ x.l ≤ 10000) → 0 ≤ sumL L ∧ sumL L ≤ 10000 * (L.length : Int) := by
  intro L
  induction L with
  | nil => intro _; simp [sumL]
  | cons x L ih =>
    intro h
    have h1 := h x (by simp)
    have h2 := ih (fun y hy => h y (by simp [hy]))
    simp only [sumL, List.length_cons]
    omega
set_option maxRecDepth 20000 in
set_option maxHeartbeats 2000000 in
theorem len_ht {K : HtK} {s : HtS} {vs : Nat → Value} {ow : Nat → Nat × Nat} {t : Int} {n : Nat} (hK : HtKOk K) (w : World) (h : HtAt K w s vs ow) (hI : HtI K t n s) (hnn : n ≤ 1001) :
    Calls Tryd.prog 81 #[.pointer (some ⟨K.tb, 0, none⟩)] w fun e w' => e = .returned (.int .i64 (sumN (fun i => ((s.nd i).L.length : Int)) K.N)) ∧ w' = w := by
  have H : Hid (HtAt K w s vs ow) := h
  have HLN : Hid (∀ i, i < K.N → Calls Tryd.prog 29 #[.pointer (some ⟨K.nb i, 12, none⟩)] w fun e w' => e = .returned (.int .i64 (((s.nd i).L.length : Int))) ∧ w' = w) := fun i hi => lenO_any w (h.node i hi)
  have HBD : Hid (∀ k, k ≤ K.N → 0 ≤ sumN (fun i => ((s.nd i).L.length : Int)) k ∧ sumN (fun i => ((s.nd i).L.length : Int)) k ≤ 20000000 * k) := fun k hk => sumN_bd fun i hi => by
    have hw := hI.wait i (by omega)
    have h2 := sumL_few hw.2
    omega
  have hrt := h.root
  have c1 : w.cell? ⟨K.tb, 1, none⟩ = some (.slice (some ⟨K.g, 0, none⟩) K.N K.gcap) := by simp only [World.cell?]; rw [hrt]; rfl
  have lt := lt_of_block hrt
  have h16 := hK.n16
  clear hrt h hI hnn hK
  go_enter Tryd.func81, Tryd.ntmps81
  go_wp2
  clear c1 lt
  go_loopw [3, 11] (fun sv iv wr => ∃ i : Nat, i ≤ K.N ∧ iv = .int .i64 i ∧ sv = .int .i64 (sumN (fun i => ((s.nd i).L.length : Int)) i) ∧ wr = w) (fun _ iv _ => K.N - (intOf iv).toNat)
  case atStart => exact ⟨0, Nat.zero_le _, rfl, rfl, rfl⟩
  case round =>
    obtain ⟨i, hi, rfl, rfl, rfl⟩ := hrel
    by_cases hlt : i < K.N
    · have hrw := H.out.row i hlt
      have hgl := H.out.gl
      have hki : (i : Int) < (K.N : Int) := by omega
      have hnl := (H.out.node i hlt).blk.lt
      obtain ⟨q0, q1⟩ := HBD.out (i + 1) (by omega)
      obtain ⟨p0, p1⟩ := HBD.out i (by omega)
      have HCL := HLN.out i hlt
      have HSU : Hid (sumN (fun i => ((s.nd i).L.length : Int)) (i + 1) = sumN (fun i => ((s.nd i).L.length : Int)) i + (((s.nd i).L.length : Int))) := rfl
      rw [HSU.out] at q0 q1
      obtain ⟨a, ha⟩ : ∃ a, sumN (fun i => ((s.nd i).L.length : Int)) i = a := ⟨_, rfl⟩
      obtain ⟨b, hb⟩ : ∃ b, (((s.nd i).L.length : Int)) = b := ⟨_, rfl⟩
      rw [ha, hb] at HSU q0 q1
      rw [ha] at p0 p1 ⊢
      rw [hb] at HCL
      clear ha hb
      go_wp2_with fail
      refine HCL.mono ?_
      rintro e w1 ⟨rfl, rfl⟩
      go_wp2
      go_roundw
      case rel => exact ⟨i + 1, by omega, by go_num, by rw [HSU.out], trivial⟩
      case measure => simp [intOf]; omega
    · have hiN : i = K.N := by omega
      rw [hiN]
      go_wp2
      go_ret
      exact ⟨rfl, rfl⟩
set_option maxRecDepth 20000 in
set_option maxHeartbeats 2000000 in
theorem bytes_ht {K : HtK} {s : HtS} {vs : Nat → Value} {ow : Nat → Nat × Nat} {t : Int} {n : Nat} (hK : HtKOk K) (w : World) (h : HtAt K w s vs ow) (hI : HtI K t n s) (hnn : n ≤ 1001) :
    Calls Tryd.prog 80 #[.pointer (some ⟨K.tb, 0, none⟩)] w fun e w' => e = .returned (.int .i64 (sumN (fun i => sumL (s.nd i).L) K.N)) ∧ w' = w := by
  have H : Hid (HtAt K w s vs ow) := h
  have HLN : Hid (∀ i, i < K.N → Calls Tryd.prog 83 #[.pointer (some ⟨K.nb i, 12, none⟩)] w fun e w' => e = .returned (.int .i64 (sumL (s.nd i).L)) ∧ w' = w) := fun i hi => bytesO_any w (h.node i hi)
  have HBD : Hid (∀ k, k ≤ K.N → 0 ≤ sumN (fun i => sumL (s.nd i).L) k ∧ sumN (fun i => sumL (s.nd i).L) k ≤ 20000000 * k) := fun k hk => sumN_bd fun i hi => by
    have hw := hI.wait i (by omega)
    have h2 := sumL_few hw.2
    omega
  have hrt := h.root
  have c1 : w.cell? ⟨K.tb, 1, none⟩ = some (.slice (some ⟨K.g, 0, none⟩) K.N K.gcap) := by simp only [World.cell?]; rw [hrt]; rfl
  have lt := lt_of_block hrt
  have h16 := hK.n16
  clear hrt h hI hnn hK
  go_enter Tryd.func80, Tryd.ntmps80
  go_wp2
  clear c1 lt
  go_loopw [3, 11] (fun sv iv wr => ∃ i : Nat, i ≤ K.N ∧ iv = .int .i64 i ∧ sv = .int .i64 (sumN (fun i => sumL (s.nd i).L) i) ∧ wr = w) (fun _ iv _ => K.N - (intOf iv).toNat)
  case atStart => exact ⟨0, Nat.zero_le _, rfl, rfl, rfl⟩
  case round =>
    obtain ⟨i, hi, rfl, rfl, rfl⟩ := hrel
    by_cases hlt : i < K.N
    · have hrw := H.out.row i hlt
      have hgl := H.out.gl
      have hki : (i : Int) < (K.N : Int) := by omega
      have hnl := (H.out.node i hlt).blk.lt
      obtain ⟨q0, q1⟩ := HBD.out (i + 1) (by omega)
      obtain ⟨p0, p1⟩ := HBD.out i (by omega)
      have HCL := HLN.out i hlt
      have HSU : Hid (sumN (fun i => sumL (s.nd i).L) (i + 1) = sumN (fun i => sumL (s.nd i).L) i + (sumL (s.nd i).L)) := rfl
      rw [HSU.out] at q0 q1
      obtain ⟨a, ha⟩ : ∃ a, sumN (fun i => sumL (s.nd i).L) i = a := ⟨_, rfl⟩
      obtain ⟨b, hb⟩ : ∃ b, (sumL (s.nd i).L) = b := ⟨_, rfl⟩
      rw [ha, hb] at HSU q0 q1
      rw [ha] at p0 p1 ⊢
      rw [hb] at HCL
      clear ha hb
      go_wp2_with fail
      refine HCL.mono ?_
      rintro e w1 ⟨rfl, rfl⟩
      go_wp2
      go_roundw
      case rel => exact ⟨i + 1, by omega, by go_num, by rw [HSU.out], trivial⟩
      case measure => simp [intOf]; omega
    · have hiN : i = K.N := by omega
      rw [hiN]
      go_wp2
      go_ret
      exact ⟨rfl, rfl⟩
end Go.Proofs.YtpgdocmpbeabpaaDoor
