/-
  The reference's Bands over whatever queues of the reference: what Put and When return, and what each leaves. Conditions: the queues' methods do what models of them tell (a premise); one band at least, eight at most.
-/
import Derived.Test.YtpjhiioecigfhaaDoorSa
import Derived.Test.YtpjhiioecigfhaaDoorBp
namespace Go.Proofs.YtpjhiioecigfhaaDoor
open Go.RowKit Go.Extern.Stop Go.Stop Go.Extern

/-- What the bands' models must give besides. -/
structure RSmall (Q : Nat → RM) (N : Nat) : Prop where
  fine : ∀ i, i < N → (Q i).Fine
  mono : ∀ i, i < N → ∀ {t t' : Int} {n n' : Nat} {s : (Q i).σ}, (Q i).inv t n s → t ≤ t' → n ≤ n' → (Q i).inv t' n' s
  few : ∀ i, i < N → ∀ {t : Int} {n : Nat} {s : (Q i).σ} (now : Int), (Q i).inv t n s → n ≤ 1000 → ((Q i).take s now).2.1.length ≤ 100000
  wait : ∀ i, i < N → ∀ {t : Int} {n : Nat} {s : (Q i).σ}, (Q i).inv t n s → n ≤ 1001 → ((Q i).all s).length ≤ 100000
  one : 1 ≤ N
  eight : N ≤ 8
/-- What Put leaves. -/
def RPutP (Q : Nat → RM) (N B ob oo oc : Nat) (Fs : Nat → Nat → Prop) (s : ∀ i, (Q i).σ) (j : Nat) (now : Int) (x : Hd) (w : World) (u : Value) (w' : World) : Prop :=
  ∃ Fs', Ps w' u ((Q j).put (s j) now x).2 ∧ RBAt Q N B ob oo oc w' Fs' (rupd s j ((Q j).put (s j) now x).1) ∧ (∀ k, foot N B ob Fs' k → foot N B ob Fs k ∨ w.heap.size ≤ k) ∧ (∀ k, u.ownBlock = some k → foot N B ob Fs k ∨ w.heap.size ≤ k) ∧ Ot (foot N B ob Fs) w w'
set_option maxHeartbeats 1000000 in
theorem rbands_put {Q : Nat → RM} {N B ob oo oc : Nat} {Fs : Nat → Nat → Prop} {s : ∀ i, (Q i).σ} {t : Int} {n : Nat} (now : Int) (x : Hd) (hS : RSmall Q N) (w : World) (h : RBAt Q N B ob oo oc w Fs s) (hI : ∀ i, i < N → (Q i).inv t n (s i)) (ht0 : 0 ≤ t) (ht1 : t ≤ now) (ht2 : now ≤ 1000000) (hok : x.ok = true) (hxa : x.a = now) (hxn : x.n = n) (hn : n ≤ 1000) :
    Calls Tryd.prog 62 #[.pointer (some ⟨B, 0, none⟩), .int .i64 now, x.val] w fun e w' => ∃ u, e = .returned u ∧ RPutP Q N B ob oo oc Fs s (bandOf N x) now x w u w' := by
  have hN1 := hS.one
  have hN8 := hS.eight
  obtain ⟨j, hj⟩ : ∃ j, bandOf N x = j := ⟨_, rfl⟩
  have hjN : j < N := by rw [← hj]; exact bandOf_lt hN1 x
  rw [hj]
  have hxb : 0 ≤ x.b := by
    simp only [Hd.ok, It.ok, Bool.and_eq_true, wth_iff] at hok
    omega
  have hcase : (x.b < (N : Int) ∧ (j : Int) = x.b) ∨ ((N : Int) ≤ x.b ∧ (N : Int) - 1 = j) := by unfold bandOf at hj; omega
  have hc := h.cell
  have hl := lt_of_block h.blk
  have hrow := h.row j hjN
  have hol := h.obl
  have hM := (hS.fine j hjN)
  have hmP := hM.mP
  have heP := hM.eP
  have HP : Hid (∀ W : World, Below w.heap.size w W → Calls Tryd.prog (Q j).fP #[(Q j).rP, .int .i64 now, x.val] W fun e w' => ∃ u, e = .returned u ∧ RPutP Q N B ob oo oc Fs s j now x w u w') := by
    intro W hb
    have hp := h.below hS.fine hb
    refine (hM.cP now x (hp.each j hjN) (hI j hjN) ht0 ht1 ht2 hok hxa hxn hn).mono ?_
    rintro e w' ⟨u, F', rfl, hu, ha, hf, hk, ho⟩
    obtain ⟨h1, h2, h3⟩ := hp.step hS.fine hjN ho ha hf
    have hsz := hb.size
    refine ⟨u, rfl, _, hu, h1, fun k hk => ?_, fun k hk' => ?_, (Ot.of_below hb).trans h3⟩
    · rcases h2 k hk with h | h
      · exact Or.inl h
      · right; omega
    · rcases hk k hk' with h | h
      · exact Or.inl (Or.inr (Or.inr ⟨j, hjN, h⟩))
      · right; omega
  obtain ⟨xa, xl, xf, xb, xm, xn⟩ := x
  simp only at hxa hxn hxb hcase
  clear h hI hM hj hok hxa hxn
  have hNc : ((N : Int) == 0) = false := by simp; omega
  have hNw : IntKind.i64.wrap ((N : Int) - 1) = (N : Int) - 1 := by rw [IntKind.wrap_i64]; omega
  simp only [Hd.val_eq] at HP ⊢
  have HC : Hid ((xb < (N : Int) ∧ (j : Int) = xb) ∨ ((N : Int) ≤ xb ∧ (N : Int) - 1 = j)) := hcase
  clear hcase
  go_enter Tryd.func62, Tryd.ntmps62
  rcases HC.out with ⟨h1, h2⟩ | ⟨h1, h2⟩
  · subst h2
    clear HC
    have h3 : ¬ (N : Int) ≤ (j : Int) := by omega
    go_wp2
    go_region_with (refine (HP.out _ ?_).mono ?_; (repeat' (first | with_reducible exact Below.refl _ _ | with_reducible refine Below.drew ?_ | with_reducible refine below_drewN_ ?_ _ | with_reducible refine below_alloc_ ?_ _)); rintro e w1 ⟨u, rfl, hp1⟩)
    all_goals
      go_wp2
      go_ret
      exact ⟨u, rfl, hp1⟩
  · have hNj : IntKind.i64.wrap ((N : Int) - 1) = j := by rw [IntKind.wrap_i64]; omega
    clear HC hNw h2
    go_wp2
    go_region_with (refine (HP.out _ ?_).mono ?_; (repeat' (first | with_reducible exact Below.refl _ _ | with_reducible refine Below.drew ?_ | with_reducible refine below_drewN_ ?_ _ | with_reducible refine below_alloc_ ?_ _)); rintro e w1 ⟨u, rfl, hp1⟩)
    all_goals
      go_wp2
      go_ret
      exact ⟨u, rfl, hp1⟩
/-- The least time of the first k bands, and their states. -/
def rwhenTo {Q : Nat → RM} (s : ∀ i, (Q i).σ) (now : Int) : Nat → (∀ i, (Q i).σ) × Int × Bool
  | 0 => (s, 0, false)
  | k + 1 => (rupd (rwhenTo s now k).1 k ((Q k).when ((rwhenTo s now k).1 k) now).1, (if (((Q k).when ((rwhenTo s now k).1 k) now).2.2 && (!(rwhenTo s now k).2.2 || decide (((Q k).when ((rwhenTo s now k).1 k) now).2.1 < (rwhenTo s now k).2.1))) = true then ((Q k).when ((rwhenTo s now k).1 k) now).2.1 else (rwhenTo s now k).2.1), (rwhenTo s now k).2.2 || ((Q k).when ((rwhenTo s now k).1 k) now).2.2)
theorem rwhenTo_ge {Q : Nat → RM} (s : ∀ i, (Q i).σ) (now : Int) {i : Nat} : ∀ k, k ≤ i → (rwhenTo s now k).1 i = s i := by
  intro k
  induction k with
  | zero => intro _; rfl
  | succ k ih =>
    intro hk
    simp only [rwhenTo]
    rw [rupd_ne _ _ (by omega)]
    exact ih (by omega)
theorem rwhenTo_lt {Q : Nat → RM} (s : ∀ i, (Q i).σ) (now : Int) {i : Nat} : ∀ k, i < k → (rwhenTo s now k).1 i = ((Q i).when (s i) now).1 := by
  intro k
  induction k with
  | zero => intro h; omega
  | succ k ih =>
    intro hk
    simp only [rwhenTo]
    by_cases e : i = k
    · subst e
      rw [rupd_same, rwhenTo_ge s now i (Nat.le_refl _)]
    · rw [rupd_ne _ _ e]
      exact ih (by omega)
/-- A round of When. -/
structure RWhenI (Q : Nat → RM) (N B ob oo oc : Nat) (w : World) (Fs0 : Nat → Nat → Prop) (s : ∀ i, (Q i).σ) (now : Int) (k : Nat) (W : World) (Fs : Nat → Nat → Prop) : Prop where
  pos : RBAt Q N B ob oo oc W Fs (rwhenTo s now k).1
  ft : ∀ j, foot N B ob Fs j → foot N B ob Fs0 j ∨ w.heap.size ≤ j
  ot : Ot (foot N B ob Fs0) w W
theorem RWhenI.next {Q : Nat → RM} {N B ob oo oc : Nat} {w : World} {Fs0 : Nat → Nat → Prop} {s : ∀ i, (Q i).σ} {now : Int} {k : Nat} {W W' : World} {Fs : Nat → Nat → Prop} {F' : Nat → Prop} (hQ : ∀ i, i < N → (Q i).Fine) (hw : RWhenI Q N B ob oo oc w Fs0 s now k W Fs) (hk : k < N) (ho : Ot (Fs k) W W') (ha : (Q k).At W' F' ((Q k).when ((rwhenTo s now k).1 k) now).1) (hf : ∀ j, F' j → Fs k j ∨ W.heap.size ≤ j) :
    RWhenI Q N B ob oo oc w Fs0 s now (k + 1) W' (updF Fs k F') := by
  obtain ⟨h1, h2, h3⟩ := hw.pos.step hQ hk ho ha hf
  have hs := hw.ot.size
  refine ⟨h1, fun j hj => ?_, hw.ot.trans' h3 (fun j h hj => ?_)⟩
  · rcases h2 j hj with h | h
    · exact hw.ft j h
    · right; omega
  · rcases hw.ft j h with h' | h'
    · exact h'
    · omega
set_option maxHeartbeats 1000000 in
theorem rbands_when {Q : Nat → RM} {N B ob oo oc : Nat} {Fs : Nat → Nat → Prop} {s : ∀ i, (Q i).σ} {t : Int} {n : Nat} (now : Int) (hS : RSmall Q N) (w : World) (h : RBAt Q N B ob oo oc w Fs s) (hI : ∀ i, i < N → (Q i).inv t n (s i)) (hn : n ≤ 1000) (ht0 : 0 ≤ t) (ht1 : t ≤ now) (ht2 : now ≤ 1000000) :
    Calls Tryd.prog 64 #[.pointer (some ⟨B, 0, none⟩), .int .i64 now] w fun e w' => ∃ Fs', e = .returned (.tuple #[.int .i64 (rwhenTo s now N).2.1, .bool (rwhenTo s now N).2.2]) ∧ RBAt Q N B ob oo oc w' Fs' (rwhenTo s now N).1 ∧ (∀ k, foot N B ob Fs' k → foot N B ob Fs k ∨ w.heap.size ≤ k) ∧ Ot (foot N B ob Fs) w w' := by
  have HS : Hid (RSmall Q N) := hS
  have HB : Hid (RBAt Q N B ob oo oc w Fs s) := h
  have HI : Hid (∀ i, i < N → (Q i).inv t n (s i)) := hI
  have hN := hS.eight
  have hc := h.cell
  have hl := lt_of_block h.blk
  clear h hI hS
  go_enter Tryd.func64, Tryd.ntmps64
  go_wp2
  go_loopw [6, 7, 17] (fun a o i wr => ∃ (k : Nat) (F : Nat → Nat → Prop), k ≤ N ∧ i = .int .i64 k ∧ a = .int .i64 (rwhenTo s now k).2.1 ∧ o = .bool (rwhenTo s now k).2.2 ∧ RWhenI Q N B ob oo oc w Fs s now k wr F) (fun _ _ i _ => N - (intOf i).toNat)
  case atStart => exact ⟨0, Fs, Nat.zero_le _, rfl, rfl, rfl, HB.out, fun j hj => Or.inl hj, Ot.refl _ _⟩
  case round =>
    obtain ⟨k, F, hk, rfl, rfl, rfl, hw⟩ := hrel
    have HW : Hid (RWhenI Q N B ob oo oc w Fs s now k wr F) := hw
    by_cases hlt : k < N
    · have hcell := hw.pos.row k hlt
      have hM := HS.out.fine k hlt
      have hm := hM.mW
      have he := hM.eW
      have hinv : (Q k).inv t n ((rwhenTo s now k).1 k) := by rw [rwhenTo_ge s now k (Nat.le_refl _)]; exact HI.out k hlt
      have HCW := hM.cW now (hw.pos.each k hlt) hinv ht0 ht1 ht2 hn
      have HNX : Hid (∀ (W' : World) (F' : Nat → Prop), Ot (F k) wr W' → (Q k).At W' F' ((Q k).when ((rwhenTo s now k).1 k) now).1 → (∀ j, F' j → F k j ∨ wr.heap.size ≤ j) → RWhenI Q N B ob oo oc w Fs s now (k + 1) W' (updF F k F')) := fun W' F' ho ha hf => hw.next HS.out.fine hlt ho ha hf
      have HR1 : Hid ((rwhenTo s now (k + 1)).2 = ((if (((Q k).when ((rwhenTo s now k).1 k) now).2.2 && (!(rwhenTo s now k).2.2 || decide (((Q k).when ((rwhenTo s now k).1 k) now).2.1 < (rwhenTo s now k).2.1))) = true then ((Q k).when ((rwhenTo s now k).1 k) now).2.1 else (rwhenTo s now k).2.1), (rwhenTo s now k).2.2 || ((Q k).when ((rwhenTo s now k).1 k) now).2.2)) := rfl
      obtain ⟨⟨sk, ls, fd⟩, hwt⟩ : ∃ T, rwhenTo s now k = T := ⟨_, rfl⟩
      rw [hwt] at HCW HNX HR1 ⊢
      obtain ⟨⟨s1, a1, ok1⟩, hTk⟩ : ∃ T, (Q k).when (sk k) now = T := ⟨_, rfl⟩
      simp only [hTk] at HCW HNX HR1 ⊢
      clear hw hM hinv hTk hwt HW
      go_wp2_with fail
      refine HCW.mono ?_
      rintro e w1 ⟨F1, rfl, ha1, hf1, ho1⟩
      have HN1 : Hid (RWhenI Q N B ob oo oc w Fs s now (k + 1) w1 (updF F k F1)) := HNX.out w1 F1 ho1 ha1 hf1
      clear HNX ha1 hf1 ho1
      cases ok1 with
      | false =>
        go_wp2_with fail
        go_roundw
        case rel => exact ⟨k + 1, updF F k F1, by omega, by go_num, by rw [HR1.out]; rfl, by rw [HR1.out]; simp, HN1.out⟩
        case measure => simp [intOf]; omega
      | true =>
        cases fd with
        | false =>
          go_wp2_with fail
          go_roundw
          case rel => exact ⟨k + 1, updF F k F1, by omega, by go_num, by rw [HR1.out]; rfl, by rw [HR1.out]; rfl, HN1.out⟩
          case measure => simp [intOf]; omega
        | true =>
          by_cases hlt2 : a1 < ls
          · have hd : decide (a1 < ls) = true := by simpa using hlt2
            go_wp2_with fail
            go_roundw
            case rel => exact ⟨k + 1, updF F k F1, by omega, by go_num, by rw [HR1.out]; simp [hlt2], by rw [HR1.out]; rfl, HN1.out⟩
            case measure => simp [intOf]; omega
          · have hd : decide (a1 < ls) = false := by simpa using hlt2
            go_wp2_with fail
            go_roundw
            case rel => exact ⟨k + 1, updF F k F1, by omega, by go_num, by rw [HR1.out]; simp [show ¬ a1 < ls by omega], by rw [HR1.out]; rfl, HN1.out⟩
            case measure => simp [intOf]; omega
    · obtain rfl : k = N := by omega
      go_wp2
      go_ret2
      exact ⟨F, rfl, HW.out.pos, HW.out.ft, HW.out.ot⟩
end Go.Proofs.YtpjhiioecigfhaaDoor
