/-
  plain.Play's closure: the numbers of packets are put behind what was lost. Conditions: the packets and what was seen lie in memory, apart.
  plain.Play with whatever queue: what is seen step by step, in memory of the call's own. Conditions: the steps lie in memory, a thousand at most; the queue's methods do what a model of it tells (a premise).
  A function told anew at one place; a packet's flow. Mathematics alone: nothing of the program is claimed here.
-/
import Derived.Test.YtpgdocmpbeabpaaDoorQd
import Derived.Test.YtpgdocmpbeabpaaDoorTm
namespace Go.Proofs.YtpgdocmpbeabpaaDoor
open Go.RowKit Go.Extern.Stop Go.Stop Go.Extern

theorem infoInt1 : (Tryd.prog.info? 3).map (fun i => (i.zero, i.size, i.bytes)) = some (some (.int .i64 0), 1, 8) := by kernel_rfl
/-- Ints lie in a slice of the call's own. -/
def Ins (w : World) (v : Value) (l : List Int) : Prop := Seg w 3 1 v l.length (l.map (Value.int .i64))
theorem Ins.nil (w : World) : Ins w (.slice none 0 0) [] := Seg.nil _ _ _
theorem Lies.held {w : World} {x : Option Addr} {L : List Hd} (h : Lies w x (flt Hd.cs L)) {k : Nat} {s : Hd} (hk : L[k]? = some s) : ∃ b off, x = some ⟨b, off, none⟩ ∧ b < w.heap.size ∧ w.cell? ⟨b, off + k * 6, none⟩ = some (.int .i64 s.a) ∧ w.cell? ⟨b, off + k * 6 + 1, none⟩ = some (.int .i64 s.l) ∧ w.cell? ⟨b, off + k * 6 + 2, none⟩ = some (.int .i64 s.f) ∧ w.cell? ⟨b, off + k * 6 + 3, none⟩ = some (.int .i64 s.b) ∧ w.cell? ⟨b, off + k * 6 + 4, none⟩ = some (.int .i64 s.m) ∧ w.cell? ⟨b, off + k * 6 + 5, none⟩ = some (.int .i64 s.n) := by
  have hat : ∀ j, j < 6 → (flt Hd.cs L)[k * 6 + j]? = s.cs[j]? := fun j hj => flt_at Hd.cs 6 Hd.len hk hj
  rcases h with h | ⟨b, off, e, hl, h⟩
  · have := hat 0 (by omega)
    rw [h] at this
    simp [Hd.cs] at this
  · refine ⟨b, off, e, hl, ?_, ?_, ?_, ?_, ?_, ?_⟩
    · exact h _ _ (hat 0 (by omega))
    · exact h _ _ (hat 1 (by omega))
    · exact h _ _ (hat 2 (by omega))
    · exact h _ _ (hat 3 (by omega))
    · exact h _ _ (hat 4 (by omega))
    · exact h _ _ (hat 5 (by omega))
/-- The numbers of the first k packets. -/
def nums (L : List Hd) (k : Nat) : List Int := (L.take k).map Hd.n
theorem nums_succ {L : List Hd} {k : Nat} {s : Hd} (h : L[k]? = some s) : nums L (k + 1) = nums L k ++ [s.n] := by
  unfold nums
  rw [List.take_add_one, h]
  simp
theorem nums_all (L : List Hd) : nums L L.length = L.map Hd.n := by simp [nums]
theorem nums_length {L : List Hd} {k : Nat} (h : k ≤ L.length) : (nums L k).length = k := by simp [nums]; omega

/-- What was seen in a step lies in block b: the five numbers, and what was lost. -/
def Bx (w : World) (b : Nat) (c0 c1 c2 c3 c4 : Value) (lv : Value) : Prop := w.heap[b]? = some (.cells #[c0, c1, c2, c3, c4, lv] 42 (0, 0))

theorem Bx.mid {w W w2 : World} {row : Option Nat} {b : Nat} {c0 c1 c2 c3 c4 lv : Value} (h : Bx w b c0 c1 c2 c3 c4 lv) (hW : Below w.heap.size w W) (hg : W.grownBy w2 row) (hr : row ≠ some b) : Bx w2 b c0 c1 c2 c3 c4 lv :=
  (hg.block b (Nat.lt_of_lt_of_le (lt_of_block h) hW.size) (fun e => hr e.symm)).trans ((hW.block b (lt_of_block h)).trans h)
theorem Bx.lost {w : World} {b : Nat} {c0 c1 c2 c3 c4 lv : Value} (h : Bx w b c0 c1 c2 c3 c4 lv) (v : Value) : Bx (w.setCell ⟨b, 5, none⟩ v) b c0 c1 c2 c3 c4 v := by
  unfold Bx
  rw [heap_setCell_here h v]
  simp
set_option maxHeartbeats 2000000 in
theorem lose_any {b : Nat} {c0 c1 c2 c3 c4 : Value} {u : Value} {L : List Hd} (w : World) (hx : Bx w b c0 c1 c2 c3 c4 (.slice none 0 0)) (hu : Hs w u L) (hne : u.ownBlock ≠ some b) (hn : L.length ≤ 1000000) :
    Calls Tryd.prog 19 #[u, .pointer (some ⟨b, 0, none⟩)] w fun e w' => e = .returned (.tuple #[]) ∧ ∃ lv, Bx w' b c0 c1 c2 c3 c4 lv ∧ Ins w' lv (L.map Hd.n) ∧ (∀ k, lv.ownBlock = some k → w.heap.size ≤ k) ∧ Ot (· = b) w w' := by
  have HX : Hid (Bx w b c0 c1 c2 c3 c4 (.slice none 0 0)) := hx
  have HU : Hid (Hs w u L) := hu
  obtain ⟨x, cap, rfl, hl⟩ := hu.lies
  have HL : Hid (Lies w x (flt Hd.cs L)) := hl
  have hbl : b < w.heap.size := lt_of_block hx
  have HNE : Hid (∀ a, x = some a → a.block ≠ b) := by
    rintro a rfl e
    exact hne (by simp [Value.ownBlock, e])
  clear hl hx hu hne
  generalize hq : L.length = q at *
  have HQ : Hid (L.length = q) := hq
  clear hq
  obtain ⟨i0, hi, hz0, hz1, hz2⟩ := info_parts infoInt1
  go_enter Tryd.func19, Tryd.ntmps19
  go_wp2
  go_loopw [7] (fun i wr => ∃ (k : Nat) (lv : Value), k ≤ q ∧ i = .int .i64 k ∧ Bx wr b c0 c1 c2 c3 c4 lv ∧ Ins wr lv (nums L k) ∧ (∀ k, lv.ownBlock = some k → w.heap.size ≤ k) ∧ Ot (· = b) w wr) (fun i _ => q - (intOf i).toNat)
  case atStart => exact ⟨0, _, Nat.zero_le _, rfl, HX.out, Ins.nil _, fun k hk => by simp [Value.ownBlock] at hk, Ot.refl _ _⟩
  case round =>
    obtain ⟨k, lv, hk, rfl, hbx, hin, hnw, hot⟩ := hrel
    have HB : Hid (Bx wr b c0 c1 c2 c3 c4 lv) := hbx
    have HI : Hid (Ins wr lv (nums L k)) := hin
    have HW : Hid (∀ k, lv.ownBlock = some k → w.heap.size ≤ k) := hnw
    have hws := hot.size
    clear hin hnw
    by_cases hlt : k < q
    · obtain ⟨s, hs⟩ : ∃ s, L[k]? = some s := ⟨_, List.getElem?_eq_getElem (by have := HQ.out; omega)⟩
      have HS : Hid (L[k]? = some s) := hs
      obtain ⟨bb, off, rfl, hbb, k0, k1, k2, k3, k4, k5⟩ := (HL.out.ot hot (fun a e h => HNE.out a e h)).held hs
      clear hs
      obtain ⟨⟨_, _, _, _, _, z5⟩, _, _, _, _, _, y5⟩ := six hbx
      have hbs : b < wr.heap.size := by omega
      have hnl : (nums L k).length = k := nums_length (by have := HQ.out; omega)
      clear hbx
      have HI' : Hid (Seg wr 3 1 lv k ((nums L k).map (Value.int .i64))) := by have := HI.out; unfold Ins at this; rw [hnl] at this; exact this
      clear hnl
      go_wp2_with (at_builtin; refine wpList_append_seg _ rfl (.tmp 12) (.tmp 15) 40 rfl 3 i0 _ 1 8 Tryd.underlying40 hi hz0 hz1 hz2 rfl (by decide) _ _ _ rfl (HI'.out.below (by repeat' (first | with_reducible exact Below.refl _ _ | with_reducible refine Below.drew ?_ | with_reducible refine below_alloc_ ?_ _ | with_reducible refine below_set_ ?_ (by simp) _))) _ 1 1 _ rfl rfl (news_of (new_block_ (by simp))) (by simp [Value.oneCell']) (by decide) (by unfold maxLen; omega) (by omega) _ rfl ?_; intro g goff gcap w2 hs2 hg2 ha2 hl2; have hm2 := HB.out.mid (by repeat' (first | with_reducible exact Below.refl _ _ | with_reducible refine Below.drew ?_ | with_reducible refine below_alloc_ ?_ _)) hg2 (fun e => by have := HW.out b e; omega); obtain ⟨⟨_, _, _, _, _, t5⟩, _, _, _, _, _, e5⟩ := six hm2)
      have hgb : w.heap.size ≤ g := by
        rcases ha2 with ha2 | ha2
        · exact HW.out _ ha2
        · simp at ha2; omega
      go_roundw
      case rel =>
        refine ⟨k + 1, _, by omega, by go_num, hm2.lost _, ?_, ?_, ?_⟩
        · unfold Ins
          rw [nums_succ HS.out, List.length_append, nums_length (by have := HQ.out; omega), List.map_append]
          exact hs2.setCell (p := ⟨b, 5, none⟩) (by simp [Value.ownBlock]; omega) _
        · intro j hj
          simp only [Value.ownBlock, Option.some.injEq] at hj
          omega
        · refine Ot.setCell (S := (· = b)) (p := ⟨b, 5, none⟩) ?_ (Or.inl rfl) _
          refine Ot.grown (row := lv.ownBlock) ?_ hg2 (fun j e => Or.inr (HW.out j e))
          exact Ot.alloc (Ot.alloc hot _) _
      case measure => simp [intOf]; omega
    · obtain rfl : k = q := by omega
      go_wp2
      go_end0
      refine ⟨rfl, lv, HB.out, ?_, HW.out, hot⟩
      have := HI.out
      rw [← HQ.out, nums_all] at this
      exact this
end Go.Proofs.YtpgdocmpbeabpaaDoor
namespace Go.Proofs.YtpgdocmpbeabpaaDoor
open Go.RowKit Go.Extern.Stop Go.Stop Go.Extern

/-- A queue as the interface has it, and what its methods tell of its state. -/
structure QM where
  σ : Type
  ty : TypeId
  rv : Value
  fP : FuncId
  fT : FuncId
  fW : FuncId
  fL : FuncId
  fB : FuncId
  rP : Value
  rT : Value
  rW : Value
  rL : Value
  rB : Value
  At : World → (Nat → Prop) → σ → Prop
  put : σ → Int → Hd → σ × List Hd
  take : σ → Int → σ × List Hd × Hd × Bool
  when : σ → Int → σ × Int × Bool
  len : σ → Int
  bytes : σ → Int
  inv : Int → Nat → σ → Prop
def Hd.ok (x : Hd) : Bool := It.ok ⟨x.a, x.l, x.f, x.b, x.m⟩
/-- The methods do so. -/
structure QM.Fine (M : QM) : Prop where
  kept : ∀ {w w' : World} {F : Nat → Prop} {s : M.σ}, M.At w F s → (∀ k, F k → w'.heap[k]? = w.heap[k]?) → M.At w' F s
  low : ∀ {w : World} {F : Nat → Prop} {s : M.σ}, M.At w F s → ∀ k, F k → k < w.heap.size
  mP : ∀ W : World, (Go.method 281 M.ty M.rv "Put").run Tryd.prog W = .ok (M.fP, M.rP) W
  mT : ∀ W : World, (Go.method 281 M.ty M.rv "Take").run Tryd.prog W = .ok (M.fT, M.rT) W
  mW : ∀ W : World, (Go.method 281 M.ty M.rv "When").run Tryd.prog W = .ok (M.fW, M.rW) W
  mL : ∀ W : World, (Go.method 281 M.ty M.rv "Len").run Tryd.prog W = .ok (M.fL, M.rL) W
  mB : ∀ W : World, (Go.method 281 M.ty M.rv "Bytes").run Tryd.prog W = .ok (M.fB, M.rB) W
  eP : ∀ (args : Array Value) (W : World), (callFunc M.fP args).run Tryd.prog W = .ok (.enter M.fP args) W
  eT : ∀ (args : Array Value) (W : World), (callFunc M.fT args).run Tryd.prog W = .ok (.enter M.fT args) W
  eW : ∀ (args : Array Value) (W : World), (callFunc M.fW args).run Tryd.prog W = .ok (.enter M.fW args) W
  eL : ∀ (args : Array Value) (W : World), (callFunc M.fL args).run Tryd.prog W = .ok (.enter M.fL args) W
  eB : ∀ (args : Array Value) (W : World), (callFunc M.fB args).run Tryd.prog W = .ok (.enter M.fB args) W
  cP : ∀ {w : World} {F : Nat → Prop} {s : M.σ} {t : Int} {n : Nat} (now : Int) (x : Hd), M.At w F s → M.inv t n s → 0 ≤ t → t ≤ now → now ≤ 20000000 → x.ok = true → x.a = now → x.n = n → n ≤ 1000 →
    Calls Tryd.prog M.fP #[M.rP, .int .i64 now, x.val] w fun e w' => ∃ u F', e = .returned u ∧ Hs w' u (M.put s now x).2 ∧ M.At w' F' (M.put s now x).1 ∧ (∀ k, F' k → F k ∨ w.heap.size ≤ k) ∧ (∀ k, u.ownBlock = some k → F k ∨ w.heap.size ≤ k) ∧ Ot F w w'
  iP : ∀ {s : M.σ} {t : Int} {n : Nat} (now : Int) (x : Hd), M.inv t n s → 0 ≤ t → t ≤ now → now ≤ 20000000 → x.ok = true → x.a = now → x.n = n → n ≤ 1000 → M.inv now (n + 1) (M.put s now x).1 ∧ (M.put s now x).2.length ≤ 1000000
  cT : ∀ {w : World} {F : Nat → Prop} {s : M.σ} {t : Int} {n : Nat} (now : Int), M.At w F s → M.inv t n s → 0 ≤ t → t ≤ now → now ≤ 20000000 → n ≤ 1000 →
    Calls Tryd.prog M.fT #[M.rT, .int .i64 now] w fun e w' => ∃ u F', e = .returned (.tuple #[(M.take s now).2.2.1.val, u, .bool (M.take s now).2.2.2]) ∧ Hs w' u (M.take s now).2.1 ∧ M.At w' F' (M.take s now).1 ∧ (∀ k, F' k → F k ∨ w.heap.size ≤ k) ∧ (∀ k, u.ownBlock = some k → F k ∨ w.heap.size ≤ k) ∧ Ot F w w'
  iT : ∀ {s : M.σ} {t : Int} {n : Nat} (now : Int), M.inv t n s → 0 ≤ t → t ≤ now → now ≤ 20000000 → n ≤ 1000 → M.inv now n (M.take s now).1 ∧ (M.take s now).2.1.length ≤ 1000000
  cW : ∀ {w : World} {F : Nat → Prop} {s : M.σ} {t : Int} {n : Nat} (now : Int), M.At w F s → M.inv t n s → 0 ≤ t → t ≤ now → now ≤ 20000000 → n ≤ 1000 →
    Calls Tryd.prog M.fW #[M.rW, .int .i64 now] w fun e w' => ∃ F', e = .returned (.tuple #[.int .i64 (M.when s now).2.1, .bool (M.when s now).2.2]) ∧ M.At w' F' (M.when s now).1 ∧ (∀ k, F' k → F k ∨ w.heap.size ≤ k) ∧ Ot F w w'
  iW : ∀ {s : M.σ} {t : Int} {n : Nat} (now : Int), M.inv t n s → 0 ≤ t → t ≤ now → now ≤ 20000000 → n ≤ 1000 → M.inv now n (M.when s now).1
  cL : ∀ {w : World} {F : Nat → Prop} {s : M.σ} {t : Int} {n : Nat}, M.At w F s → M.inv t n s → n ≤ 1001 → Calls Tryd.prog M.fL #[M.rL] w fun e w' => e = .returned (.int .i64 (M.len s)) ∧ Below w.heap.size w w'
  cB : ∀ {w : World} {F : Nat → Prop} {s : M.σ} {t : Int} {n : Nat}, M.At w F s → M.inv t n s → n ≤ 1001 → Calls Tryd.prog M.fB #[M.rB] w fun e w' => e = .returned (.int .i64 (M.bytes s)) ∧ Below w.heap.size w w'

/-- What a step told: which was taken, its mark, when, how many wait, how many bytes, which were lost. -/
structure Sn where
  taken : Int
  mark : Int
  when : Int
  len : Int
  bytes : Int
  lost : List Int
def Sn.cs (p : Sn × Value) : List Value := [.int .i64 p.1.taken, .int .i64 p.1.mark, .int .i64 p.1.when, .int .i64 p.1.len, .int .i64 p.1.bytes, p.2]
theorem Sn.len6 (p : Sn × Value) : (Sn.cs p).length = 6 := rfl
def hdOf (st : Stp) (n : Nat) : Hd := ⟨st.a, st.l, st.f, st.b, st.m, n⟩
/-- One step. -/
def stepQ (M : QM) (s : M.σ) (n : Nat) (st : Stp) : (M.σ × Nat) × Sn :=
  if st.what = 0 then (((M.put s st.lt (hdOf st n)).1, n + 1), ⟨-1, 0, -1, M.len (M.put s st.lt (hdOf st n)).1, M.bytes (M.put s st.lt (hdOf st n)).1, (M.put s st.lt (hdOf st n)).2.map Hd.n⟩)
  else if st.what = 1 then (((M.take s st.lt).1, n), ⟨if (M.take s st.lt).2.2.2 then (M.take s st.lt).2.2.1.n else -1, if (M.take s st.lt).2.2.2 then (M.take s st.lt).2.2.1.m else 0, -1, M.len (M.take s st.lt).1, M.bytes (M.take s st.lt).1, (M.take s st.lt).2.1.map Hd.n⟩)
  else (((M.when s st.lt).1, n), ⟨-1, 0, if (M.when s st.lt).2.2 then (M.when s st.lt).2.1 else -1, M.len (M.when s st.lt).1, M.bytes (M.when s st.lt).1, []⟩)
def stFrom (M : QM) : M.σ → Nat → List Stp → Nat → M.σ × Nat
  | s, n, _, 0 => (s, n)
  | s, n, [], _ + 1 => (s, n)
  | s, n, st :: r, k + 1 => stFrom M (stepQ M s n st).1.1 (stepQ M s n st).1.2 r k
def playFrom (M : QM) : M.σ → Nat → List Stp → List Sn
  | _, _, [] => []
  | s, n, st :: r => (stepQ M s n st).2 :: playFrom M (stepQ M s n st).1.1 (stepQ M s n st).1.2 r
theorem stFrom_zero (M : QM) (s : M.σ) (n : Nat) (xs : List Stp) : stFrom M s n xs 0 = (s, n) := by cases xs <;> rfl
theorem stFrom_succ {M : QM} {s : M.σ} {n : Nat} {xs : List Stp} {k : Nat} {st : Stp} (h : xs[k]? = some st) : stFrom M s n xs (k + 1) = (stepQ M (stFrom M s n xs k).1 (stFrom M s n xs k).2 st).1 := by
  induction xs generalizing s n k with
  | nil => simp at h
  | cons y r ih =>
    cases k with
    | zero =>
      simp at h; subst h
      simp [stFrom]
    | succ k => simpa [stFrom] using ih (s := (stepQ M s n y).1.1) (n := (stepQ M s n y).1.2) (by simpa using h)
theorem playFrom_length (M : QM) (s : M.σ) (n : Nat) (xs : List Stp) : (playFrom M s n xs).length = xs.length := by
  induction xs generalizing s n with
  | nil => rfl
  | cons y r ih => simp [playFrom, ih]
theorem playFrom_at {M : QM} {s : M.σ} {n : Nat} {xs : List Stp} {k : Nat} {st : Stp} (h : xs[k]? = some st) : (playFrom M s n xs)[k]? = some (stepQ M (stFrom M s n xs k).1 (stFrom M s n xs k).2 st).2 := by
  induction xs generalizing s n k with
  | nil => simp at h
  | cons y r ih =>
    cases k with
    | zero => simp at h; subst h; simp [playFrom, stFrom]
    | succ k => simpa [playFrom, stFrom] using ih (s := (stepQ M s n y).1.1) (n := (stepQ M s n y).1.2) (by simpa using h)
theorem stFrom_le (M : QM) (s : M.σ) (n : Nat) (xs : List Stp) (k : Nat) : (stFrom M s n xs k).2 ≤ n + k := by
  induction xs generalizing s n k with
  | nil => cases k <;> simp [stFrom]
  | cons y r ih =>
    cases k with
    | zero => simp [stFrom]
    | succ k =>
      have := ih (stepQ M s n y).1.1 (stepQ M s n y).1.2 k
      have h2 : (stepQ M s n y).1.2 ≤ n + 1 := by unfold stepQ; split; exact Nat.le_refl _; split <;> exact Nat.le_succ _
      simp only [stFrom]
      omega
theorem timed_lt (t : Int) (s : Stp) : (timed t s).lt = t ∧ (timed t s).a = t := ⟨rfl, rfl⟩
theorem timed_ok {t : Int} {s : Stp} (h : (timed t s).what = 0) : It.ok ⟨t, s.l, s.f, s.b, s.m⟩ = true := by
  cases hok : It.ok ⟨t, s.l, s.f, s.b, s.m⟩ with
  | true => rfl
  | false =>
    exfalso
    simp only [timed, hok, and_true] at h
    by_cases hw : s.what = 0
    · rw [if_pos hw] at h; omega
    · rw [if_neg hw] at h; exact hw h
/-- What is seen of the first k steps. -/
def Psn (M : QM) (s0 : M.σ) (ts : List Stp) (k : Nat) : List Sn := (playFrom M s0 0 ts).take k
theorem Psn_succ {M : QM} {s0 : M.σ} {ts : List Stp} {k : Nat} {st : Stp} (h : ts[k]? = some st) : Psn M s0 ts (k + 1) = Psn M s0 ts k ++ [(stepQ M (stFrom M s0 0 ts k).1 (stFrom M s0 0 ts k).2 st).2] := by
  unfold Psn
  rw [List.take_add_one, playFrom_at h]
  rfl
theorem Psn_length {M : QM} {s0 : M.σ} {ts : List Stp} {k : Nat} (h : k ≤ ts.length) : (Psn M s0 ts k).length = k := by simp [Psn, playFrom_length]; omega
theorem Psn_all (M : QM) (s0 : M.σ) (ts : List Stp) : Psn M s0 ts ts.length = playFrom M s0 0 ts := by rw [Psn, List.take_of_length_le (by rw [playFrom_length]; exact Nat.le_refl _)]

/-- What was seen lies in memory of the call's own, from block base on, apart from F. -/
structure Sns (w : World) (base : Nat) (F : Nat → Prop) (v : Value) (ss : List Sn) (us : List Value) : Prop where
  len : us.length = ss.length
  row : Seg w 42 6 v ss.length (flt Sn.cs (ss.zip us))
  new : ∀ b, v.ownBlock = some b → base ≤ b ∧ ¬ F b
  lost : ∀ (i : Nat) (sn : Sn) (u : Value), ss[i]? = some sn → us[i]? = some u → Ins w u sn.lost ∧ ∀ b, u.ownBlock = some b → base ≤ b ∧ ¬ F b
theorem Sns.nil (w : World) (base : Nat) (F : Nat → Prop) : Sns w base F (.slice none 0 0) [] [] := ⟨rfl, Seg.nil _ _ _, fun b hb => by simp [Value.ownBlock] at hb, fun i sn u h => by simp at h⟩
theorem Sns.ot {w w' : World} {base : Nat} {F F' G : Nat → Prop} {v : Value} {ss : List Sn} {us : List Value} (h : Sns w base F v ss us) (ho : Ot G w w') (hG : ∀ k, base ≤ k → k < w.heap.size → ¬ F k → ¬ G k) (hF : ∀ k, k < w.heap.size → F' k → F k) : Sns w' base F' v ss us := by
  refine ⟨h.len, Seg.oth h.row ho (fun b hb => hG b (h.new b hb).1 (h.row.lt hb) (h.new b hb).2), fun b hb => ⟨(h.new b hb).1, fun x => (h.new b hb).2 (hF b (h.row.lt hb) x)⟩, ?_⟩
  intro i sn u h1 h2
  obtain ⟨h3, h4⟩ := h.lost i sn u h1 h2
  exact ⟨Seg.oth h3 ho (fun b hb => hG b (h4 b hb).1 (Seg.lt h3 hb) (h4 b hb).2), fun b hb => ⟨(h4 b hb).1, fun x => (h4 b hb).2 (hF b (Seg.lt h3 hb) x)⟩⟩
end Go.Proofs.YtpgdocmpbeabpaaDoor
namespace Go.Proofs.YtpgdocmpbeabpaaDoor

def updF {α : Type} (g : Nat → α) (i : Nat) (x : α) : Nat → α := fun j => if j = i then x else g j
theorem updF_same {α : Type} (g : Nat → α) (i : Nat) (x : α) : updF g i x i = x := by simp [updF]
theorem updF_ne {α : Type} {g : Nat → α} {i j : Nat} {x : α} (h : j ≠ i) : updF g i x j = g j := by simp [updF, h]
theorem ok_flow {x : Hd} (h : x.ok = true) : 0 ≤ x.f ∧ x.f ≤ 15 := by
  simp only [Hd.ok, It.ok, Bool.and_eq_true, wth_iff] at h
  omega
theorem ok_len {x : Hd} (h : x.ok = true) : 1 ≤ x.l ∧ x.l ≤ 10000 := by
  simp only [Hd.ok, It.ok, Bool.and_eq_true, wth_iff] at h
  omega
end Go.Proofs.YtpgdocmpbeabpaaDoor
