/-
  queue.Bands over whatever queues: what Len, Bytes, When, Put and Take return, and what each leaves. Conditions: the queues' methods do what models of them tell (a premise); one band at least, eight at most.
-/
import Derived.Test.YtfakjedolecdcaaGreatDoorU14
namespace Go.Proofs.YtfakjedolecdcaaGreatDoor
open Go.RowKit Go.Extern.Stop Go.Stop Go.Extern

/-- The sum of the first k. -/
def sumTo (f : Nat → Int) : Nat → Int
  | 0 => 0
  | k + 1 => sumTo f k + f k
theorem sumTo_le {f : Nat → Int} {N : Nat} {m : Int} (h : ∀ i, i < N → 0 ≤ f i ∧ f i ≤ m) : ∀ k, k ≤ N → 0 ≤ sumTo f k ∧ sumTo f k ≤ m * k := by
  intro k
  induction k with
  | zero => intro _; simp [sumTo]
  | succ k ih =>
    intro hk
    have h1 := ih (by omega)
    have h2 := h k (by omega)
    simp only [sumTo]
    have : m * ((k + 1 : Nat) : Int) = m * k + m := by rw [Int.natCast_add, Int.mul_add]; simp
    omega
/-- What the bands' models must give besides. -/
structure Small (Q : Nat → QM) (N : Nat) : Prop where
  fine : ∀ i, i < N → (Q i).Fine
  mono : ∀ i, i < N → ∀ {t t' : Int} {n n' : Nat} {s : (Q i).σ}, (Q i).inv t n s → t ≤ t' → n ≤ n' → (Q i).inv t' n' s
  len : ∀ i, i < N → ∀ {t : Int} {n : Nat} {s : (Q i).σ}, (Q i).inv t n s → n ≤ 1001 → (0 ≤ (Q i).len s ∧ (Q i).len s ≤ 100000000000000) ∧ 0 ≤ (Q i).bytes s ∧ (Q i).bytes s ≤ 100000000000000
  few : ∀ i, i < N → ∀ {t : Int} {n : Nat} {s : (Q i).σ} (now : Int), (Q i).inv t n s → n ≤ 1000 → ((Q i).take s now).2.1.length ≤ 100000
  one : 1 ≤ N
  eight : N ≤ 8
theorem eLenC (args : Array Value) (W : World) : (callFunc 205 args).run Tryz.prog W = .ok (.enter 205 args) W := enters_of Tryz.func205 (by kernel_rfl) rfl args W
theorem eBytesC (args : Array Value) (W : World) : (callFunc 204 args).run Tryz.prog W = .ok (.enter 204 args) W := enters_of Tryz.func204 (by kernel_rfl) rfl args W
theorem eWhenC (args : Array Value) (W : World) : (callFunc 206 args).run Tryz.prog W = .ok (.enter 206 args) W := enters_of Tryz.func206 (by kernel_rfl) rfl args W
set_option maxHeartbeats 1000000 in
theorem bands_len {Q : Nat → QM} {N B ob oo oc : Nat} {Fs : Nat → Nat → Prop} {s : ∀ i, (Q i).σ} {t : Int} {n : Nat} (hS : Small Q N) (w : World) (h : BAt Q N B ob oo oc w Fs s) (hI : ∀ i, i < N → (Q i).inv t n (s i)) (hn : n ≤ 1001) :
    Calls Tryz.prog 199 #[.pointer (some ⟨B, 0, none⟩)] w fun e w' => e = .returned (.int .i64 (sumTo (fun i => (Q i).len (s i)) N)) ∧ Below w.heap.size w w' := by
  have HB : Hid (BAt Q N B ob oo oc w Fs s) := h
  have hc := h.cell
  have hl := lt_of_block h.blk
  have hbd := sumTo_le (N := N) (f := fun i => (Q i).len (s i)) (m := 100000000000000) (fun i hi => (hS.len i hi (hI i hi) hn).1)
  have HE : Hid (∀ (o : Obj), o = .cells #[.int .i64 0] 3 → Calls Tryz.prog 203 #[.pointer (some ⟨B, 0, none⟩), .func (.func 205) #[] #[.pointer (some ⟨w.heap.size, 0, none⟩)]] (w.alloc o) fun e w' => e = .returned (.tuple #[]) ∧ w'.heap[w.heap.size]? = some (.cells #[.int .i64 (sumTo (fun i => (Q i).len (s i)) N)] 3 (0, 0)) ∧ Ot (· = w.heap.size) (w.alloc o) w') := by
    rintro o rfl
    refine each_any (Q := Q) (ob := ob) (oo := oo) (oc := oc) 205 _ (fun k W => W.heap[w.heap.size]? = some (.cells #[.int .i64 (sumTo (fun i => (Q i).len (s i)) k)] 3 (0, 0)) ∧ Ot (· = w.heap.size) (w.alloc (.cells #[.int .i64 0] 3)) W) _ hS.eight ?_ eLenC ⟨new_block _ _, Ot.refl _ _⟩ ?_ ?_
    · rw [World.cell?_alloc_lt _ _ _ (by exact hl)]
      exact hc
    · rintro i W hi ⟨_, ho⟩
      have h1 := ((h.below hS.fine (below_alloc_ (Below.refl _ _) _)).ot hS.fine ho (fun k hk e => by have := h.low hS.fine k hk; omega)).row i hi
      exact h1
    · rintro i W hi ⟨hb, ho⟩
      have hp := ((h.below hS.fine (below_alloc_ (Below.refl _ _) _)).ot hS.fine ho (fun k hk e => by have := h.low hS.fine k hk; omega)).each i hi
      have h1 := hbd i (by omega)
      have h2 := (hS.len i hi (hI i hi) hn).1
      have h8 := hS.eight
      refine (lenC_any (hS.fine i hi) W hp (hI i hi) hn hb ⟨h1.1, by omega⟩ h2).mono ?_
      rintro e W' ⟨rfl, hb', ho'⟩
      exact ⟨rfl, hb', ho.trans ho'⟩
  have h1 := hbd N (Nat.le_refl _)
  clear h hI hbd
  go_enter Tryz.func199, Tryz.ntmps199
  go_wp2_with (go_at_call 203; refine (HE.out _ rfl).mono ?_; rintro e w1 ⟨rfl, hb1, ho1⟩; obtain ⟨d0, f0⟩ := cell1 hb1)
  go_ret
  refine ⟨rfl, ?_⟩
  exact (below_alloc_ (Below.refl w.heap.size w) _).trans (ho1.below (by simp) (fun k hk => by omega))
set_option maxHeartbeats 1000000 in
theorem bands_bytes {Q : Nat → QM} {N B ob oo oc : Nat} {Fs : Nat → Nat → Prop} {s : ∀ i, (Q i).σ} {t : Int} {n : Nat} (hS : Small Q N) (w : World) (h : BAt Q N B ob oo oc w Fs s) (hI : ∀ i, i < N → (Q i).inv t n (s i)) (hn : n ≤ 1001) :
    Calls Tryz.prog 198 #[.pointer (some ⟨B, 0, none⟩)] w fun e w' => e = .returned (.int .i64 (sumTo (fun i => (Q i).bytes (s i)) N)) ∧ Below w.heap.size w w' := by
  have HB : Hid (BAt Q N B ob oo oc w Fs s) := h
  have hc := h.cell
  have hl := lt_of_block h.blk
  have hbd := sumTo_le (N := N) (f := fun i => (Q i).bytes (s i)) (m := 100000000000000) (fun i hi => (hS.len i hi (hI i hi) hn).2)
  have HE : Hid (∀ (o : Obj), o = .cells #[.int .i64 0] 3 → Calls Tryz.prog 203 #[.pointer (some ⟨B, 0, none⟩), .func (.func 204) #[] #[.pointer (some ⟨w.heap.size, 0, none⟩)]] (w.alloc o) fun e w' => e = .returned (.tuple #[]) ∧ w'.heap[w.heap.size]? = some (.cells #[.int .i64 (sumTo (fun i => (Q i).bytes (s i)) N)] 3 (0, 0)) ∧ Ot (· = w.heap.size) (w.alloc o) w') := by
    rintro o rfl
    refine each_any (Q := Q) (ob := ob) (oo := oo) (oc := oc) 204 _ (fun k W => W.heap[w.heap.size]? = some (.cells #[.int .i64 (sumTo (fun i => (Q i).bytes (s i)) k)] 3 (0, 0)) ∧ Ot (· = w.heap.size) (w.alloc (.cells #[.int .i64 0] 3)) W) _ hS.eight ?_ eBytesC ⟨new_block _ _, Ot.refl _ _⟩ ?_ ?_
    · rw [World.cell?_alloc_lt _ _ _ (by exact hl)]
      exact hc
    · rintro i W hi ⟨_, ho⟩
      have h1 := ((h.below hS.fine (below_alloc_ (Below.refl _ _) _)).ot hS.fine ho (fun k hk e => by have := h.low hS.fine k hk; omega)).row i hi
      exact h1
    · rintro i W hi ⟨hb, ho⟩
      have hp := ((h.below hS.fine (below_alloc_ (Below.refl _ _) _)).ot hS.fine ho (fun k hk e => by have := h.low hS.fine k hk; omega)).each i hi
      have h1 := hbd i (by omega)
      have h2 := (hS.len i hi (hI i hi) hn).2
      have h8 := hS.eight
      refine (bytesC_any (hS.fine i hi) W hp (hI i hi) hn hb ⟨h1.1, by omega⟩ h2).mono ?_
      rintro e W' ⟨rfl, hb', ho'⟩
      exact ⟨rfl, hb', ho.trans ho'⟩
  have h1 := hbd N (Nat.le_refl _)
  clear h hI hbd
  go_enter Tryz.func198, Tryz.ntmps198
  go_wp2_with (go_at_call 203; refine (HE.out _ rfl).mono ?_; rintro e w1 ⟨rfl, hb1, ho1⟩; obtain ⟨d0, f0⟩ := cell1 hb1)
  go_ret
  refine ⟨rfl, ?_⟩
  exact (below_alloc_ (Below.refl w.heap.size w) _).trans (ho1.below (by simp) (fun k hk => by omega))
/-- The least time of the first k bands, and their states. -/
def whenTo {Q : Nat → QM} (s : ∀ i, (Q i).σ) (now : Int) : Nat → (∀ i, (Q i).σ) × Int × Bool
  | 0 => (s, 0, false)
  | k + 1 => (upd (whenTo s now k).1 k ((Q k).when ((whenTo s now k).1 k) now).1, (if (((Q k).when ((whenTo s now k).1 k) now).2.2 && (!(whenTo s now k).2.2 || decide (((Q k).when ((whenTo s now k).1 k) now).2.1 < (whenTo s now k).2.1))) = true then ((Q k).when ((whenTo s now k).1 k) now).2.1 else (whenTo s now k).2.1), (whenTo s now k).2.2 || ((Q k).when ((whenTo s now k).1 k) now).2.2)
theorem whenTo_ge {Q : Nat → QM} (s : ∀ i, (Q i).σ) (now : Int) {i : Nat} : ∀ k, k ≤ i → (whenTo s now k).1 i = s i := by
  intro k
  induction k with
  | zero => intro _; rfl
  | succ k ih =>
    intro hk
    simp only [whenTo]
    rw [upd_ne _ _ (by omega)]
    exact ih (by omega)
theorem whenTo_lt {Q : Nat → QM} (s : ∀ i, (Q i).σ) (now : Int) {i : Nat} : ∀ k, i < k → (whenTo s now k).1 i = ((Q i).when (s i) now).1 := by
  intro k
  induction k with
  | zero => intro h; omega
  | succ k ih =>
    intro hk
    simp only [whenTo]
    by_cases e : i = k
    · subst e
      rw [upd_same, whenTo_ge s now i (Nat.le_refl _)]
    · rw [upd_ne _ _ e]
      exact ih (by omega)
/-- A round of When. -/
structure WhenI (Q : Nat → QM) (N B ob oo oc : Nat) (w : World) (Fs0 : Nat → Nat → Prop) (s : ∀ i, (Q i).σ) (now : Int) (k : Nat) (W : World) (Fs : Nat → Nat → Prop) : Prop where
  pos : BAt Q N B ob oo oc W Fs (whenTo s now k).1
  ft : ∀ j, foot N B ob Fs j → foot N B ob Fs0 j ∨ w.heap.size + 3 ≤ j
  b1 : W.heap[w.heap.size]? = some (.cells #[.int .i64 now] 3 (0, 0))
  b2 : W.heap[w.heap.size + 1 + 1]? = some (.cells #[.bool (whenTo s now k).2.2] 4 (0, 0))
  b3 : W.heap[w.heap.size + 1]? = some (.cells #[.int .i64 (whenTo s now k).2.1] 3 (0, 0))
  ot : Ot (foot N B ob Fs0) w W
theorem three_new (w : World) (o1 o2 o3 : Obj) : (((w.alloc o1).alloc o2).alloc o3).heap[w.heap.size]? = some o1 ∧ (((w.alloc o1).alloc o2).alloc o3).heap[w.heap.size + 1]? = some o2 ∧ (((w.alloc o1).alloc o2).alloc o3).heap[w.heap.size + 1 + 1]? = some o3 := by
  refine ⟨?_, ?_, new_block_ (by simp)⟩
  · rw [Below.heap_alloc _ _ _ (by simp; omega), Below.heap_alloc _ _ _ (by simp)]
    exact new_block_ rfl
  · rw [Below.heap_alloc _ _ _ (by simp)]
    exact new_block_ (by simp)
set_option maxHeartbeats 1000000 in
theorem bands_when {Q : Nat → QM} {N B ob oo oc : Nat} {Fs : Nat → Nat → Prop} {s : ∀ i, (Q i).σ} {t : Int} {n : Nat} (now : Int) (hS : Small Q N) (w : World) (h : BAt Q N B ob oo oc w Fs s) (hI : ∀ i, i < N → (Q i).inv t n (s i)) (hn : n ≤ 1000) (ht0 : 0 ≤ t) (ht1 : t ≤ now) (ht2 : now ≤ 20000000) :
    Calls Tryz.prog 202 #[.pointer (some ⟨B, 0, none⟩), .int .i64 now] w fun e w' => ∃ Fs', e = .returned (.tuple #[.int .i64 (whenTo s now N).2.1, .bool (whenTo s now N).2.2]) ∧ BAt Q N B ob oo oc w' Fs' (whenTo s now N).1 ∧ (∀ k, foot N B ob Fs' k → foot N B ob Fs k ∨ w.heap.size ≤ k) ∧ Ot (foot N B ob Fs) w w' := by
  have HS : Hid (Small Q N) := hS
  have HB : Hid (BAt Q N B ob oo oc w Fs s) := h
  have HL : Hid (∀ k, foot N B ob Fs k → k < w.heap.size) := h.low hS.fine
  have HI : Hid (∀ i, i < N → (Q i).inv t n (s i)) := hI
  clear h hI
  have hstep : ∀ (i : Nat) (W : World), i < N → (∃ F, WhenI Q N B ob oo oc w Fs s now i W F) → Calls Tryz.prog 206 (#[.iface (Q i).ty (Q i).rv] ++ #[.pointer (some ⟨w.heap.size, 0, none⟩), .pointer (some ⟨w.heap.size + 1 + 1, 0, none⟩), .pointer (some ⟨w.heap.size + 1, 0, none⟩)]) W fun e W' => e = .returned (.tuple #[]) ∧ ∃ F, WhenI Q N B ob oo oc w Fs s now (i + 1) W' F := by
    rintro i W hi ⟨F, hw⟩
    have hout : ∀ j, w.heap.size ≤ j → j < w.heap.size + 3 → ¬ foot N B ob F j := by
      intro j h1 h2 hf
      rcases hw.ft j hf with h | h
      · have := HL.out j h; omega
      · omega
    have hnF : ∀ j, w.heap.size ≤ j → j < w.heap.size + 3 → ¬ F i j := fun j h1 h2 hf => hout j h1 h2 (Or.inr (Or.inr ⟨i, hi, hf⟩))
    have hinv : (Q i).inv t n ((whenTo s now i).1 i) := by rw [whenTo_ge s now i (Nat.le_refl _)]; exact HI.out i hi
    have hws := hw.ot.size
    have hb2l := lt_of_block hw.b2
    refine (whenC_any (HS.out.fine i hi) W (hw.pos.each i hi) hinv hn ht0 ht1 ht2 hw.b1 hw.b2 hw.b3 ⟨hnF _ (by omega) (by omega), hnF _ (by omega) (by omega), hnF _ (by omega) (by omega)⟩ ⟨by omega, by omega, by omega⟩).mono ?_
    rintro e W' ⟨rfl, F', hp⟩
    refine ⟨rfl, updP F i F', ?_⟩
    -- the band's own turn, then the two variables
    have hz : Ot (fun k => F i k ∨ k = w.heap.size + 1 + 1 ∨ k = w.heap.size + 1) W W' := hp.ot
    have hlow := hw.pos.low HS.out.fine
    have hfoot' : ∀ k, foot N B ob (updP F i F') k → foot N B ob F k ∨ W.heap.size ≤ k := by
      rintro k (h1 | h1 | ⟨j, hj, h1⟩)
      · exact Or.inl (Or.inl h1)
      · exact Or.inl (Or.inr (Or.inl h1))
      · simp only [updP] at h1
        by_cases e : j = i
        · rw [if_pos e] at h1
          rcases hp.foot k h1 with h2 | h2
          · exact Or.inl (Or.inr (Or.inr ⟨i, hi, h2⟩))
          · exact Or.inr h2
        · rw [if_neg e] at h1
          exact Or.inl (Or.inr (Or.inr ⟨j, hj, h1⟩))
    have hkeep : ∀ k, foot N B ob F k → ¬ F i k → W'.heap[k]? = W.heap[k]? := fun k hk hnk => hz.block k (hlow k hk) (fun h => by
      rcases h with h | h | h
      · exact hnk h
      · exact hout k (by omega) (by omega) hk
      · exact hout k (by omega) (by omega) hk)
    have hBB : foot N B ob F B := Or.inl rfl
    have hBo : foot N B ob F ob := Or.inr (Or.inl rfl)
    refine ⟨⟨(hkeep B hBB (hw.pos.nB i hi).1).trans hw.pos.blk, fun j hj => ?_, Nat.lt_of_lt_of_le hw.pos.obl hz.size, fun j hj => ?_, fun j j' k hj hj' => ?_, fun j hj => ?_⟩, ?_, hp.b1, hp.b2, hp.b3, ?_⟩
    · rw [World.cell?_of_block (w := W) (a := ⟨ob, oo + j, none⟩) (hkeep ob hBo (hw.pos.nB i hi).2)]
      exact hw.pos.row j hj
    · simp only [whenTo, updP]
      by_cases e : j = i
      · subst e
        rw [upd_same, if_pos rfl]
        exact hp.pos
      · rw [upd_ne _ _ e, if_neg e]
        exact (HS.out.fine j hj).kept (hw.pos.each j hj) (fun k hk => hkeep k (Or.inr (Or.inr ⟨j, hj, hk⟩)) (fun hk' => e (hw.pos.dis j i k hj hi hk hk')))
    · intro h1 h2
      simp only [updP] at h1 h2
      by_cases e : j = i
      · by_cases e' : j' = i
        · rw [e, e']
        · rw [if_pos e] at h1
          rw [if_neg e'] at h2
          rcases hp.foot k h1 with h3 | h3
          · rw [e]; exact hw.pos.dis i j' k hi hj' h3 h2
          · have := hlow k (Or.inr (Or.inr ⟨j', hj', h2⟩)); omega
      · rw [if_neg e] at h1
        by_cases e' : j' = i
        · rw [if_pos e'] at h2
          rcases hp.foot k h2 with h3 | h3
          · rw [e']; exact hw.pos.dis j i k hj hi h1 h3
          · have := hlow k (Or.inr (Or.inr ⟨j, hj, h1⟩)); omega
        · rw [if_neg e'] at h2
          exact hw.pos.dis j j' k hj hj' h1 h2
    · simp only [updP]
      by_cases e : j = i
      · rw [if_pos e]
        refine ⟨fun hk => ?_, fun hk => ?_⟩
        · rcases hp.foot _ hk with h3 | h3
          · exact (hw.pos.nB i hi).1 h3
          · have := hlow B hBB; omega
        · rcases hp.foot _ hk with h3 | h3
          · exact (hw.pos.nB i hi).2 h3
          · have := hlow ob hBo; omega
      · rw [if_neg e]
        exact hw.pos.nB j hj
    · intro k hk
      rcases hfoot' k hk with h | h
      · exact hw.ft k h
      · right; omega
    · refine hw.ot.trans' hz (fun k h hk => ?_)
      rcases h with h | h | h
      · rcases hw.ft k (Or.inr (Or.inr ⟨i, hi, h⟩)) with h' | h'
        · exact h'
        · omega
      · omega
      · omega
  have HST : Hid (∀ (i : Nat) (W : World), i < N → (∃ F, WhenI Q N B ob oo oc w Fs s now i W F) → Calls Tryz.prog 206 (#[.iface (Q i).ty (Q i).rv] ++ #[.pointer (some ⟨w.heap.size, 0, none⟩), .pointer (some ⟨w.heap.size + 1 + 1, 0, none⟩), .pointer (some ⟨w.heap.size + 1, 0, none⟩)]) W fun e W' => e = .returned (.tuple #[]) ∧ ∃ F, WhenI Q N B ob oo oc w Fs s now (i + 1) W' F) := hstep
  clear hstep
  have hN := hS.eight
  clear hS
  have HE : Hid (∀ (o1 o2 o3 : Obj), o1 = .cells #[.int .i64 now] 3 → o2 = .cells #[.int .i64 0] 3 → o3 = .cells #[.bool false] 4 → Calls Tryz.prog 203 #[.pointer (some ⟨B, 0, none⟩), .func (.func 206) #[] #[.pointer (some ⟨w.heap.size, 0, none⟩), .pointer (some ⟨w.heap.size + 1 + 1, 0, none⟩), .pointer (some ⟨w.heap.size + 1, 0, none⟩)]] (((w.alloc o1).alloc o2).alloc o3) fun e w' => e = .returned (.tuple #[]) ∧ ∃ F, WhenI Q N B ob oo oc w Fs s now N w' F) := by
    rintro o1 o2 o3 rfl rfl rfl
    have hb0 : Below w.heap.size w (((w.alloc (.cells #[.int .i64 now] 3)).alloc (.cells #[.int .i64 0] 3)).alloc (.cells #[.bool false] 4)) := below_alloc_ (below_alloc_ (below_alloc_ (Below.refl _ _) _) _) _
    have hp := HB.out.below HS.out.fine hb0
    obtain ⟨n1, n2, n3⟩ := three_new w (.cells #[.int .i64 now] 3) (.cells #[.int .i64 0] 3) (.cells #[.bool false] 4)
    exact each_any (Q := Q) (ob := ob) (oo := oo) (oc := oc) 206 _ (fun k W => ∃ F, WhenI Q N B ob oo oc w Fs s now k W F) _ hN hp.cell eWhenC ⟨Fs, hp, fun j hj => Or.inl hj, n1, n3, n2, Ot.of_below hb0⟩ (fun i W hi ⟨F, hw⟩ => hw.pos.row i hi) HST.out
  clear HST
  go_enter Tryz.func202, Tryz.ntmps202
  go_wp2_with (go_at_call 203; refine (HE.out _ _ _ rfl rfl rfl).mono ?_; rintro e w1 ⟨rfl, F1, hw1⟩; obtain ⟨d2, f2⟩ := cell1 hw1.b2; obtain ⟨d3, f3⟩ := cell1 hw1.b3; have HW1 : Hid (WhenI Q N B ob oo oc w Fs s now N w1 F1) := hw1; clear hw1)
  go_quiet (fail)
  go_wp2
  go_ret2
  refine ⟨F1, rfl, (HW1.out.pos).kept HS.out.fine (fun k _ => rfl), fun k hk => ?_, HW1.out.ot.drewN _⟩
  rcases HW1.out.ft k hk with h | h
  · exact Or.inl h
  · right; omega
/-- The band of a packet. -/
def bandOf (N : Nat) (x : Hd) : Nat := (max 0 (min x.b ((N : Int) - 1))).toNat
theorem bandOf_lt {N : Nat} (h : 1 ≤ N) (x : Hd) : bandOf N x < N := by unfold bandOf; omega
theorem below_drewN_ {b : Nat} {a w : World} (h : Below b a w) (n : Nat) : Below b a (w.drewN n) := ⟨h.os, h.tape, h.output, h.size, h.block⟩
/-- What Put leaves. -/
def PutP (Q : Nat → QM) (N B ob oo oc : Nat) (Fs : Nat → Nat → Prop) (s : ∀ i, (Q i).σ) (j : Nat) (now : Int) (x : Hd) (w : World) (u : Value) (w' : World) : Prop :=
  ∃ Fs', Hs w' u ((Q j).put (s j) now x).2 ∧ BAt Q N B ob oo oc w' Fs' (upd s j ((Q j).put (s j) now x).1) ∧ (∀ k, foot N B ob Fs' k → foot N B ob Fs k ∨ w.heap.size ≤ k) ∧ (∀ k, u.ownBlock = some k → foot N B ob Fs k ∨ w.heap.size ≤ k) ∧ Ot (foot N B ob Fs) w w'
set_option maxHeartbeats 1000000 in
theorem bands_put {Q : Nat → QM} {N B ob oo oc : Nat} {Fs : Nat → Nat → Prop} {s : ∀ i, (Q i).σ} {t : Int} {n : Nat} (now : Int) (x : Hd) (hS : Small Q N) (w : World) (h : BAt Q N B ob oo oc w Fs s) (hI : ∀ i, i < N → (Q i).inv t n (s i)) (ht0 : 0 ≤ t) (ht1 : t ≤ now) (ht2 : now ≤ 20000000) (hok : x.ok = true) (hxa : x.a = now) (hxn : x.n = n) (hn : n ≤ 1000) :
    Calls Tryz.prog 200 #[.pointer (some ⟨B, 0, none⟩), .int .i64 now, x.val] w fun e w' => ∃ u, e = .returned u ∧ PutP Q N B ob oo oc Fs s (bandOf N x) now x w u w' := by
  have hN1 := hS.one
  have hN8 := hS.eight
  obtain ⟨j, hj⟩ : ∃ j, bandOf N x = j := ⟨_, rfl⟩
  have hjN : j < N := by rw [← hj]; exact bandOf_lt hN1 x
  rw [hj]
  have hxb : 0 ≤ x.b := by
    simp only [Hd.ok, It.ok, Bool.and_eq_true, wth_iff] at hok
    omega
  have hcase : (x.b < (N : Int) - 1 ∧ (j : Int) = x.b) ∨ ((N : Int) - 1 ≤ x.b ∧ (N : Int) - 1 = j) := by unfold bandOf at hj; omega
  have hc := h.cell
  have hl := lt_of_block h.blk
  have hrow := h.row j hjN
  have hol := h.obl
  have hM := (hS.fine j hjN)
  have hmP := hM.mP
  have heP := hM.eP
  have HP : Hid (∀ W : World, Below w.heap.size w W → Calls Tryz.prog (Q j).fP #[(Q j).rP, .int .i64 now, x.val] W fun e w' => ∃ u, e = .returned u ∧ PutP Q N B ob oo oc Fs s j now x w u w') := by
    intro W hb
    have hp := h.below hS.fine hb
    refine (hM.cP now x (hp.each j hjN) (hI j hjN) ht0 ht1 ht2 hok hxa hxn hn).mono ?_
    rintro e w' ⟨u, F', rfl, hu, ha, hf, hk, ho⟩
    obtain ⟨h1, h2, h3⟩ := hp.step hS.fine hjN ho ha hf
    have hsz := hb.size
    refine ⟨u, rfl, _, hu, h1, fun k hk => ?_, fun k hk' => ?_, (Ot.of_below hb).trans h3⟩
    · rcases h2 k hk with h | h
      · exact Or.inl h
      · right; omega
    · rcases hk k hk' with h | h
      · exact Or.inl (Or.inr (Or.inr ⟨j, hjN, h⟩))
      · right; omega
  obtain ⟨xa, xl, xf, xb, xm, xn⟩ := x
  simp only at hxa hxn hxb hcase
  clear h hI hM hj hok hxa hxn
  have hNc : ((N : Int) == 0) = false := by simp; omega
  have hNw : IntKind.i64.wrap ((N : Int) - 1) = (N : Int) - 1 := by rw [IntKind.wrap_i64]; omega
  simp only [Hd.val_eq] at HP ⊢
  have HC : Hid ((xb < (N : Int) - 1 ∧ (j : Int) = xb) ∨ ((N : Int) - 1 ≤ xb ∧ (N : Int) - 1 = j)) := hcase
  clear hcase
  go_enter Tryz.func200, Tryz.ntmps200
  go_upto_region 3 with (fail)
  go_cut [7] (fun v wx => v = .int .i64 j ∧ ∃ d, wx = (w.alloc (.cells #[.int .i64 xa, .int .i64 xl, .int .i64 xf, .int .i64 xb, .int .i64 xm, .int .i64 xn] 76)).drewN d)
  case first =>
    rcases HC.out with ⟨h1, h2⟩ | ⟨h1, h2⟩
    · have d1 : decide (xb < (N : Int) - 1) = true := by simpa using h1
      have H2 : Hid ((j : Int) = xb) := h2
      clear h2
      go_wp2
      go_quiet (fail)
      all_goals go_wp2
      all_goals
        go_meet
        case rel => exact ⟨by first | (rw [H2.out]; done) | (congr 1; have := H2.out; omega), _, rfl⟩
    · have H2 : Hid ((N : Int) - 1 = j) := h2
      clear h2
      by_cases h3 : xb < (N : Int) - 1
      · omega
      · have d1 : decide (xb < (N : Int) - 1) = false := by simpa using h3
        go_wp2
        go_quiet (fail)
        all_goals go_wp2
        all_goals
          go_meet
          case rel => exact ⟨by first | (rw [H2.out]; done) | (congr 1; have := H2.out; omega), _, rfl⟩
  case rest =>
  obtain ⟨rfl, d, rfl⟩ := hcut
  go_wp2
  go_region_with (refine (HP.out _ ?_).mono ?_; (repeat' (first | with_reducible exact Below.refl _ _ | with_reducible refine Below.drew ?_ | with_reducible refine below_drewN_ ?_ _ | with_reducible refine below_alloc_ ?_ _)); rintro e w1 ⟨u, rfl, hp1⟩)
  all_goals
    go_wp2
    go_ret
    exact ⟨u, rfl, hp1⟩
end Go.Proofs.YtfakjedolecdcaaGreatDoor
