/-
  package book: a line of the journal. Conditions: internal/strconv's table of powers of ten is laid; the name is short.
-/
import Derived.Test.YtheadpemckoljaaGreatDoorJ2
namespace Go.Proofs.YtheadpemckoljaaGreatDoor
open Go.RowKit Go.Extern.Stop Go.Stop Go.Extern

theorem app_ba (a b : List UInt8) : (⟨a.toArray⟩ : ByteArray) ++ ⟨b.toArray⟩ = ⟨(a ++ b).toArray⟩ := by
  apply ByteArray.ext
  simp
set_option maxRecDepth 100000 in
set_option maxHeartbeats 2000000 in
theorem line_any (k : Nat) (nm : List UInt8) (n : Int) (w : World) (hT : Tab w) (hk : k ≤ 1000) (hn : -9223372036854775808 ≤ n) (hn1 : n ≤ 9223372036854775807) (hl : nm.length ≤ 1000000) :
    Calls Tryz.prog 30 #[.int .i64 k, .string ⟨nm.toArray⟩, .int .i64 n] w fun e w' => e = .returned (.string ⟨(lineL k (nm, n)).toArray⟩) ∧ Below w.heap.size w w' := by
  have HK : Hid (∀ w', Below w.heap.size w w' → Calls Tryz.prog 43 #[.int .i64 k] w' fun e w2 => e = .returned (.string ⟨(Lib.itoa k).toArray⟩) ∧ Below w.heap.size w w2) := fun w' h => (jitoa_any k (by omega) (by omega) w' (hT.below h)).mono fun e w2 ⟨a, b⟩ => ⟨a, h.trans (b.mono h.size)⟩
  have HN : Hid (∀ w', Below w.heap.size w w' → Calls Tryz.prog 43 #[.int .i64 n] w' fun e w2 => e = .returned (.string ⟨(Lib.itoa n).toArray⟩) ∧ Below w.heap.size w w2) := fun w' h => (jitoa_any n hn hn1 w' (hT.below h)).mono fun e w2 ⟨a, b⟩ => ⟨a, h.trans (b.mono h.size)⟩
  have l1 := itoa_len k (by omega) (by omega)
  have l2 := itoa_len n hn hn1
  have HC : Hid (∀ w', Below w.heap.size w w' → Calls Tryz.prog 44 #[.string ((((⟨(Lib.itoa k).toArray⟩ ++ ⟨#[32]⟩) ++ ⟨nm.toArray⟩) ++ ⟨#[32]⟩) ++ ⟨(Lib.itoa n).toArray⟩)] w' fun e w2 => e = .returned (.int .i64 (chk (saidL k (nm, n)) : Nat)) ∧ Below w.heap.size w w2) := by
    intro w' h
    have e : (((((⟨(Lib.itoa k).toArray⟩ : ByteArray) ++ ⟨#[32]⟩) ++ ⟨nm.toArray⟩) ++ ⟨#[32]⟩) ++ ⟨(Lib.itoa n).toArray⟩) = ⟨(saidL k (nm, n)).toArray⟩ := by
      have e0 : (⟨#[32]⟩ : ByteArray) = ⟨([32] : List UInt8).toArray⟩ := rfl
      rw [e0, app_ba, app_ba, app_ba, app_ba]
      simp [saidL]
    rw [e]
    refine (check_any _ w' ?_).mono fun e w2 ⟨a, b⟩ => ⟨a, h.trans (b.mono h.size)⟩
    show (saidL k (nm, n)).toArray.size ≤ maxLen
    rw [List.size_toArray]
    simp [saidL, maxLen]
    omega
  have hc := chk_lt (saidL k (nm, n))
  have HQ : Hid (∀ w', Below w.heap.size w w' → Calls Tryz.prog 43 #[.int .i64 (chk (saidL k (nm, n)) : Nat)] w' fun e w2 => e = .returned (.string ⟨(Lib.itoa (chk (saidL k (nm, n)) : Nat)).toArray⟩) ∧ Below w.heap.size w w2) := fun w' h => (jitoa_any _ (by omega) (by omega) w' (hT.below h)).mono fun e w2 ⟨a, b⟩ => ⟨a, h.trans (b.mono h.size)⟩
  have l3 := itoa_len (chk (saidL k (nm, n)) : Nat) (by omega) (by omega)
  have HO : Hid ((((((((⟨(Lib.itoa k).toArray⟩ : ByteArray) ++ ⟨#[32]⟩) ++ ⟨nm.toArray⟩) ++ ⟨#[32]⟩) ++ ⟨(Lib.itoa n).toArray⟩) ++ ⟨#[32]⟩) ++ ⟨(Lib.itoa (chk (saidL k (nm, n)) : Nat)).toArray⟩) ++ ⟨#[10]⟩ = ⟨(lineL k (nm, n)).toArray⟩) := by
    show _ = _
    have e0 : (⟨#[32]⟩ : ByteArray) = ⟨([32] : List UInt8).toArray⟩ := rfl
    have e1 : (⟨#[10]⟩ : ByteArray) = ⟨([10] : List UInt8).toArray⟩ := rfl
    rw [e0, e1, app_ba, app_ba, app_ba, app_ba, app_ba, app_ba, app_ba]
    simp [saidL, lineL]
  clear hT
  generalize chk (saidL k (nm, n)) = c at *
  generalize lineL k (nm, n) = L at *
  generalize Lib.itoa (c : Nat) = C at *
  generalize Lib.itoa n = N at *
  generalize Lib.itoa (k : Nat) = K at *
  have s1 : ¬ (9223372036854775807 < K.length + 1) := by omega
  have s2 : ¬ (9223372036854775807 < K.length + 1 + nm.length) := by omega
  have s3 : ¬ (9223372036854775807 < K.length + 1 + nm.length + 1) := by omega
  have s4 : ¬ (9223372036854775807 < K.length + 1 + nm.length + 1 + N.length) := by omega
  have s5 : ¬ (9223372036854775807 < K.length + 1 + nm.length + 1 + N.length + 1) := by omega
  have s6 : ¬ (9223372036854775807 < K.length + 1 + nm.length + 1 + N.length + 1 + C.length) := by omega
  have s7 : ¬ (9223372036854775807 < K.length + 1 + nm.length + 1 + N.length + 1 + C.length + 1) := by omega
  go_enter Tryz.func30, Tryz.ntmps30
  go_wp2_with fail
  refine (HK.out w (Below.refl _ _)).mono ?_
  rintro e w1 ⟨rfl, hb1⟩
  go_wp2_with fail
  refine (HN.out w1 hb1).mono ?_
  rintro e w2 ⟨rfl, hb2⟩
  clear hb1
  go_wp2_with fail
  refine (HC.out w2 hb2).mono ?_
  rintro e w3 ⟨rfl, hb3⟩
  clear hb2
  go_wp2_with fail
  refine (HQ.out w3 hb3).mono ?_
  rintro e w4 ⟨rfl, hb4⟩
  go_wp2
  go_ret
  exact ⟨by rw [← HO.out]; rfl, hb4⟩
end Go.Proofs.YtheadpemckoljaaGreatDoor
