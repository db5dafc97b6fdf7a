/-
  The reference's line of a journal. Conditions: what strconv lays is laid; the name is short.
-/
import Derived.Test.YtheadpemckoljaaGreatDoorJd
namespace Go.Proofs.YtheadpemckoljaaGreatDoor
open Go.RowKit Go.Extern.Stop Go.Stop Go.Extern Go.Maps Go.WideMaps

theorem cell_new (W : World) (v : Value) (t : TypeId) : (W.alloc (.cells #[v] t)).cell? ⟨W.heap.size, 0, none⟩ = some v := (World.cell?_alloc_mark W _ _ (0, 0) 0).trans rfl
theorem cell_newd (W : World) (v : Value) (t : TypeId) : (W.alloc (.cells #[v] t)).drew.cell? ⟨W.heap.size, 0, none⟩ = some v := cell_new W v t
theorem cell_new2 (W : World) (v : Value) (t : TypeId) (o : Obj) : ((W.alloc (.cells #[v] t)).alloc o).cell? ⟨W.heap.size, 0, none⟩ = some v := (World.cell?_alloc_lt _ _ ⟨_, 0, none⟩ (by simp)).trans (cell_new W v t)
theorem cell_new2d (W : World) (v : Value) (t : TypeId) (o : Obj) : ((W.alloc (.cells #[v] t)).alloc o).drew.cell? ⟨W.heap.size, 0, none⟩ = some v := cell_new2 W v t o
theorem bcellj {W w1 : World} (hb : Below W.heap.size W w1) : ∀ b o, b < W.heap.size → w1.cell? ⟨b, o, none⟩ = W.cell? ⟨b, o, none⟩ := fun b o h => hb.cell (p := ⟨b, o, none⟩) h
set_option maxRecDepth 100000 in
set_option maxHeartbeats 4000000 in
theorem rline_any (k : Nat) (nm : List UInt8) (n : Int) (w : World) (hT : Tab w) (hk : k ≤ 1000) (hn : -9223372036854775808 ≤ n) (hn1 : n ≤ 9223372036854775807) (hl : nm.length ≤ 1000000) :
    Calls Tryz.prog 32 #[.int .i64 k, .agg #[.string ⟨nm.toArray⟩, .int .i64 n]] w fun e w' => e = .returned (.string ⟨(lineL k (nm, n)).toArray⟩) ∧ Below w.heap.size w w' := by
  have HTO : Hid (∀ (m : Int), -9223372036854775808 ≤ m → m ≤ 9223372036854775807 → ∀ A W, Below w.heap.size w W → W.cell? ⟨A, 0, none⟩ = some (.int .i64 m) → Calls Tryz.prog 45 #[.slice (some ⟨A, 0, none⟩) 1 1] W fun e w' => e = .returned (.string ⟨(Lib.itoa m).toArray⟩) ∧ Below w.heap.size w w') := fun m a b A W hb hc => (rtold_any m A W hc a b (hT.below hb)).mono fun e w' ⟨x, y⟩ => ⟨x, hb.trans (y.mono hb.size)⟩
  have HTK : Hid (∀ A W, Below w.heap.size w W → W.cell? ⟨A, 0, none⟩ = some (.int .i64 (k : Nat)) → Calls Tryz.prog 45 #[.slice (some ⟨A, 0, none⟩) 1 1] W fun e w' => e = .returned (.string ⟨(Lib.itoa (k : Nat)).toArray⟩) ∧ Below w.heap.size w w') := HTO.out k (by omega) (by omega)
  have HTN : Hid (∀ A W, Below w.heap.size w W → W.cell? ⟨A, 0, none⟩ = some (.int .i64 n) → Calls Tryz.prog 45 #[.slice (some ⟨A, 0, none⟩) 1 1] W fun e w' => e = .returned (.string ⟨(Lib.itoa n).toArray⟩) ∧ Below w.heap.size w w') := HTO.out n hn hn1
  have hcl := chk_lt (saidL k (nm, n))
  have HTC : Hid (∀ A W, Below w.heap.size w W → W.cell? ⟨A, 0, none⟩ = some (.int .i64 (chk (saidL k (nm, n)) : Nat)) → Calls Tryz.prog 45 #[.slice (some ⟨A, 0, none⟩) 1 1] W fun e w' => e = .returned (.string ⟨(Lib.itoa (chk (saidL k (nm, n)) : Nat)).toArray⟩) ∧ Below w.heap.size w w') := HTO.out _ (by omega) (by omega)
  have l1 := itoa_len k (by omega) (by omega)
  have l2 := itoa_len n hn hn1
  have l3 := itoa_len (chk (saidL k (nm, n)) : Nat) (by omega) (by omega)
  have HSD : Hid ((((((⟨(Lib.itoa k).toArray⟩ : ByteArray) ++ ⟨#[32]⟩) ++ ⟨nm.toArray⟩) ++ ⟨#[32]⟩) ++ ⟨(Lib.itoa n).toArray⟩) = ⟨(saidL k (nm, n)).toArray⟩) := by
    show _ = _
    have e0 : (⟨#[32]⟩ : ByteArray) = ⟨([32] : List UInt8).toArray⟩ := rfl
    rw [e0, app_ba, app_ba, app_ba, app_ba]
    simp [saidL]
  have HO : Hid ((((⟨(saidL k (nm, n)).toArray⟩ : ByteArray) ++ ⟨#[32]⟩) ++ ⟨(Lib.itoa (chk (saidL k (nm, n)) : Nat)).toArray⟩) ++ ⟨#[10]⟩ = ⟨(lineL k (nm, n)).toArray⟩) := by
    show _ = _
    have e0 : (⟨#[32]⟩ : ByteArray) = ⟨([32] : List UInt8).toArray⟩ := rfl
    have e1 : (⟨#[10]⟩ : ByteArray) = ⟨([10] : List UInt8).toArray⟩ := rfl
    rw [e0, e1, app_ba, app_ba, app_ba]
    simp [lineL]
  have hsl : (saidL k (nm, n)).length = (Lib.itoa k).length + nm.length + (Lib.itoa n).length + 2 := by simp [saidL]; omega
  have HTM : Hid (∀ (m : Int), (m = (k : Int) ∨ m = n) → ∀ A W, Below w.heap.size w W → W.cell? ⟨A, 0, none⟩ = some (.int .i64 m) → Calls Tryz.prog 45 #[.slice (some ⟨A, 0, none⟩) 1 1] W fun e w' => e = .returned (.string ⟨(Lib.itoa m).toArray⟩) ∧ Below W.heap.size W w') := fun m h A W hb hc => by
    rcases h with rfl | rfl
    · exact rtold_any _ A W hc (by omega) (by omega) (hT.below hb)
    · exact rtold_any _ A W hc hn hn1 (hT.below hb)
  clear HTO HTK HTN hT
  generalize hSS : saidL k (nm, n) = SS at *
  generalize lineL k (nm, n) = L at *
  generalize Lib.itoa (chk SS : Nat) = C at *
  have s1 : ¬ (9223372036854775807 < (Lib.itoa (k : Nat)).length + 1) := by omega
  have s2 : ¬ (9223372036854775807 < (Lib.itoa (k : Nat)).length + 1 + nm.length) := by omega
  have s3 : ¬ (9223372036854775807 < (Lib.itoa (k : Nat)).length + 1 + nm.length + 1) := by omega
  have s4 : ¬ (9223372036854775807 < (Lib.itoa (k : Nat)).length + 1 + nm.length + 1 + (Lib.itoa n).length) := by omega
  have s5 : ¬ (9223372036854775807 < SS.length + 1) := by omega
  have s6 : ¬ (9223372036854775807 < SS.length + 1 + C.length) := by omega
  have s7 : ¬ (9223372036854775807 < SS.length + 1 + C.length + 1) := by omega
  clear hSS
  go_enter Tryz.func32, Tryz.ntmps32
  go_upto_region 1 with (fail)
  have hbk := new_block w (.cells #[.string ⟨nm.toArray⟩, .int .i64 n] 69)
  have HB1 : Hid (Below w.heap.size w (w.alloc (.cells #[.string ⟨nm.toArray⟩, .int .i64 n] 69))) := below_alloc_ (Below.refl _ _) _
  have hsz1 : w.heap.size < (w.alloc (.cells #[.string ⟨nm.toArray⟩, .int .i64 n] 69)).heap.size := by simp
  generalize w.alloc (.cells #[.string ⟨nm.toArray⟩, .int .i64 n] 69) = W0 at *
  have HCE : Hid (∀ w', Below W0.heap.size W0 w' → w'.cell? ⟨w.heap.size, 0, none⟩ = some (.string ⟨nm.toArray⟩) ∧ w'.cell? ⟨w.heap.size, 1, none⟩ = some (.int .i64 n) ∧ Below W0.heap.size W0 w') := fun w' h => by
    obtain ⟨a, b⟩ := two_cells ((h.block _ hsz1).trans hbk)
    exact ⟨a, b, h⟩
  have HUP : Hid (∀ w', Below W0.heap.size W0 w' → Below w.heap.size w w') := fun w' h => HB1.out.trans (h.mono HB1.out.size)
  have HT0 : Hid (∀ (m : Int), (m = (k : Int) ∨ m = n) → ∀ A W, Below W0.heap.size W0 W → W.cell? ⟨A, 0, none⟩ = some (.int .i64 m) → Calls Tryz.prog 45 #[.slice (some ⟨A, 0, none⟩) 1 1] W fun e w' => e = .returned (.string ⟨(Lib.itoa m).toArray⟩) ∧ Below W0.heap.size W0 w' ∧ Below W.heap.size W w') := fun m h A W hb hc => (HTM.out m h A W (HUP.out W hb) hc).mono fun e w' ⟨x, y⟩ => ⟨x, hb.trans (y.mono hb.size), y⟩
  obtain ⟨c0, c1, -⟩ := HCE.out W0 (Below.refl _ _)
  go_cut [5] (fun v wx => v = .string ⟨SS.toArray⟩ ∧ Below W0.heap.size W0 wx)
  case first =>
    go_region_held3 (fun w' => w'.cell? ⟨w.heap.size, 0, none⟩ = some (.string ⟨nm.toArray⟩) ∧ w'.cell? ⟨w.heap.size, 1, none⟩ = some (.int .i64 n) ∧ Below W0.heap.size W0 w') ((refine HCE.out _ ?_; (repeat (first | exact Below.refl _ _ | assumption | refine Below.drew ?_ | refine below_alloc_ ?_ _)))) ((go_at_call 45; first | (refine (HT0.out (k : Int) (Or.inl rfl) _ _ ?_ ?_).mono ?_; (· (repeat (first | exact Below.refl _ _ | assumption | refine Below.drew ?_ | refine below_alloc_ ?_ _))); (· first | (with_reducible exact cell_new _ _ _) | (simp; done) | (rw [hcw _ _ (by first | (simp; done) | (simp; omega))]; simp; done)); rintro e wa ⟨rfl, hba, hbf⟩; obtain ⟨qa0, qa1, -⟩ := HCE.out _ hba; have hcw := bcellj hbf) | (refine (HT0.out n (Or.inr rfl) _ _ ?_ ?_).mono ?_; (· (repeat (first | exact Below.refl _ _ | assumption | refine Below.drew ?_ | refine below_alloc_ ?_ _))); (· first | (with_reducible exact cell_new _ _ _) | (simp; done) | (rw [hcw _ _ (by first | (simp; done) | (simp; omega))]; simp; done)); rintro e wa ⟨rfl, hba, hbf⟩; obtain ⟨qa0, qa1, -⟩ := HCE.out _ hba; have hcw := bcellj hbf)))
    all_goals go_wp2
    all_goals
      go_meet
      case rel => exact ⟨by rw [← HSD.out], hba⟩
  case rest =>
    obtain ⟨rfl, hbc⟩ := hcut
    have HBC : Hid (Below w.heap.size w wc) := HUP.out wc hbc
    have hSz : (⟨SS.toArray⟩ : ByteArray).size = SS.length := by show SS.toArray.size = _; rw [List.size_toArray]
    have HSd : Hid (∀ (j : Nat) x, SS[j]? = some x → (⟨SS.toArray⟩ : ByteArray).data.toList[j]? = some x) := fun j x hx => by
      have e9 : (⟨SS.toArray⟩ : ByteArray).data.toList = SS := List.toList_toArray
      rw [e9]; exact hx
    clear hbc c0 c1 s1 s2 s3 s4 HCE HT0
    go_wp2
    go_loop [6, 7] (fun c i => ∃ q : Nat, q ≤ SS.length ∧ i = .int .i64 q ∧ c = .int .i64 (chk (SS.take q) : Nat)) (fun _ i => SS.length - (intOf i).toNat)
    case atStart => exact ⟨0, Nat.zero_le _, rfl, rfl⟩
    case round =>
      obtain ⟨q, hq, rfl, rfl⟩ := hrel
      by_cases hlt : q < SS.length
      · obtain ⟨x, hx⟩ : ∃ x, SS[q]? = some x := ⟨_, List.getElem?_eq_getElem hlt⟩
        have HX : Hid (chk (SS.take (q + 1)) = (chk (SS.take q) * 37 + x.toNat) % 9901) := by show _ = _; rw [take_snocU hx, chk_snoc]
        have hq2 : q < (⟨SS.toArray⟩ : ByteArray).size := by rw [hSz]; exact hlt
        have hsx := str_at (HSd.out q x hx) hq2
        have hu : x.toNat < 256 := x.toNat_lt
        have hc := chk_lt (SS.take q)
        have hk1 : (q : Int) < SS.length := by omega
        clear hx
        generalize chk (SS.take q) = c at *
        go_wp2
        go_round
        case rel =>
          refine ⟨q + 1, by omega, by go_num, ?_⟩
          rw [HX.out]
          go_num
        case measure => simp [intOf]; omega
      · obtain rfl : q = SS.length := by omega
        have e : SS.take SS.length = SS := List.take_of_length_le (Nat.le_refl _)
        rw [e]
        clear e
        go_wp2_with fail
        refine (HTC.out _ _ (below_alloc_ HBC.out _) (cell_new _ _ _)).mono ?_
        rintro e1 w5 ⟨rfl, hb5⟩
        go_wp2
        go_ret
        exact ⟨by rw [← HO.out]; rfl, hb5⟩
end Go.Proofs.YtheadpemckoljaaGreatDoor
