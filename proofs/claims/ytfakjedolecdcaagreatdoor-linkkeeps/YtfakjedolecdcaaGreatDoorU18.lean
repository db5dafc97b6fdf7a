/-
  shaper.Shaper over whatever queue that throws nothing away when it is asked: its cells in memory, its model; within and look. Conditions: the queue's methods do what a model of it tells (a premise).
  shaper.Shaper: what Put, Take, When, Len and Bytes return, and what they leave. Conditions: the queue's methods do what a model of it tells (a premise); a bucket that may be; a level within its room.
-/
import Derived.Test.YtfakjedolecdcaaGreatDoorU17
import Derived.Test.YtfakjedolecdcaaGreatDoorU8
namespace Go.Proofs.YtfakjedolecdcaaGreatDoor
open Go.RowKit Go.Extern.Stop Go.Stop Go.Extern

/-- A queue that throws nothing away when it is asked. -/
structure QM.Calm (M : QM) : Prop where
  fine : M.Fine
  mono : ∀ {t t' : Int} {n n' : Nat} {s : M.σ}, M.inv t n s → t ≤ t' → n ≤ n' → M.inv t' n' s
  none : ∀ s now, (M.take s now).2.1 = []
  okt : ∀ {t : Int} {n : Nat} {s : M.σ} (now : Int), M.inv t n s → (M.take s now).2.2.2 = true → (M.take s now).2.2.1.ok = true
  small : ∀ {t : Int} {n : Nat} {s : M.σ}, M.inv t n s → n ≤ 1001 → (0 ≤ M.len s ∧ M.len s ≤ 1000000) ∧ 0 ≤ M.bytes s ∧ M.bytes s ≤ 10000000000
theorem fifo_calm (b : Nat) (P R : Int) (hd : Bool) (hP : 0 ≤ P) (hR : 0 ≤ R) (hR1 : R ≤ 1000000) : (FifoM b P R hd).Calm where
  fine := fifoM_fine b P R hd hP hR hR1
  mono := fun h _ hn => ⟨Nat.le_trans h.1 hn, h.2⟩
  none := fun _ _ => rfl
  okt := by
    intro t n (s : List Hd) now h hk
    cases s with
    | nil => simp [FifoM] at hk
    | cons x L => exact h.2 x (by simp)
  small := by
    intro t n (s : List Hd) h hn
    have h1 := Fit.sum (L := s) (fun x hx => by have := ok_len (h.2 x hx); omega)
    have h2 := h.1
    show (0 ≤ (s.length : Int) ∧ (s.length : Int) ≤ 1000000) ∧ 0 ≤ sumL s ∧ sumL s ≤ 10000000000
    omega
/-- A shaper's state: its queue's, the level, the latest time, what it holds. -/
structure ShS (α : Type) where
  q : α
  lev : Int
  lat : Int
  hold : Option Hd
/-- Its cells: the queue, the bucket, what it holds or held, whether it holds, what is not told. -/
def shPost (nx : Hd) (h : Bool) : List Value := [.int .i64 nx.a, .int .i64 nx.l, .int .i64 nx.f, .int .i64 nx.b, .int .i64 nx.m, .int .i64 nx.n, .bool h, .slice none 0 0]
structure ShAt (M : QM) (B : Nat) (n t R : Int) (w : World) (F : Nat → Prop) (s : ShS M.σ) (nx : Hd) : Prop where
  blk : StG w B 1 [.iface M.ty M.rv] (shPost nx s.hold.isSome) 171 n t R s.lev s.lat
  inner : M.At w F s.q
  out : ¬ F B
  eq : ∀ x, s.hold = some x → nx = x
theorem ShAt.kept {M : QM} {B : Nat} {n t R : Int} {w w' : World} {F : Nat → Prop} {s : ShS M.σ} {nx : Hd} (hM : M.Calm) (h : ShAt M B n t R w F s nx) (hk : ∀ k, k = B ∨ F k → w'.heap[k]? = w.heap[k]?) : ShAt M B n t R w' F s nx :=
  ⟨h.blk.same (hk B (Or.inl rfl)), hM.fine.kept h.inner (fun k hf => hk k (Or.inr hf)), h.out, h.eq⟩
theorem ShAt.low {M : QM} {B : Nat} {n t R : Int} {w : World} {F : Nat → Prop} {s : ShS M.σ} {nx : Hd} (hM : M.Calm) (h : ShAt M B n t R w F s nx) : ∀ k, k = B ∨ F k → k < w.heap.size := by
  rintro k (rfl | hk)
  · exact h.blk.lt
  · exact hM.fine.low h.inner k hk
/-- Its last cells. -/
theorem ShAt.cells {M : QM} {B : Nat} {n t R : Int} {w : World} {F : Nat → Prop} {s : ShS M.σ} {nx : Hd} (h : ShAt M B n t R w F s nx) : w.cell? ⟨B, 0, none⟩ = some (.iface M.ty M.rv) ∧ w.cell? ⟨B, 3, none⟩ = some (.int .i64 R) ∧ (w.cell? ⟨B, 6, none⟩ = some (.int .i64 nx.a) ∧ w.cell? ⟨B, 7, none⟩ = some (.int .i64 nx.l) ∧ w.cell? ⟨B, 8, none⟩ = some (.int .i64 nx.f) ∧ w.cell? ⟨B, 9, none⟩ = some (.int .i64 nx.b) ∧ w.cell? ⟨B, 10, none⟩ = some (.int .i64 nx.m) ∧ w.cell? ⟨B, 11, none⟩ = some (.int .i64 nx.n)) ∧ w.cell? ⟨B, 12, none⟩ = some (.bool s.hold.isSome) ∧ w.cell? ⟨B, 13, none⟩ = some (.slice none 0 0) ∧
    (w.frozen? ⟨B, 6, none⟩ = false ∧ w.frozen? ⟨B, 7, none⟩ = false ∧ w.frozen? ⟨B, 8, none⟩ = false ∧ w.frozen? ⟨B, 9, none⟩ = false ∧ w.frozen? ⟨B, 10, none⟩ = false ∧ w.frozen? ⟨B, 11, none⟩ = false) ∧ w.frozen? ⟨B, 12, none⟩ = false ∧ w.frozen? ⟨B, 13, none⟩ = false := by
  have hb := h.blk.2
  refine ⟨?_, ?_, ⟨?_, ?_, ?_, ?_, ?_, ?_⟩, ?_, ?_, ⟨?_, ?_, ?_, ?_, ?_, ?_⟩, ?_, ?_⟩
  all_goals simp [World.cell?, World.frozen?, hb, shPost]
/-- What it holds when it is asked. -/
def lookS {M : QM} (s : ShS M.σ) (now : Int) : ShS M.σ := match s.hold with
  | some _ => s
  | none => { s with q := (M.take s.q now).1, hold := if (M.take s.q now).2.2.2 = true then some (M.take s.q now).2.2.1 else none }
theorem swithin_any {M : QM} {B : Nat} {n t R : Int} {F : Nat → Prop} {s : ShS M.σ} {nx : Hd} (w : World) (h : ShAt M B n t R w F s nx) :
    Calls Tryz.prog 190 #[.pointer (some ⟨B, 0, none⟩)] w fun e w' => e = .returned (.iface M.ty M.rv) ∧ w' = w := by
  obtain ⟨c0, _⟩ := h.cells
  clear h
  go_enter Tryz.func190, Tryz.ntmps190
  go_wp2
  go_ret
  exact ⟨rfl, rfl⟩
/-- What it holds is written. -/
theorem sh_next {w : World} {B : Nat} {n t R lev lat : Int} {i : Value} {nx : Hd} {h : Bool} (hb : StG w B 1 [i] (shPost nx h) 171 n t R lev lat) (x : Hd) (h' : Bool) :
    StG ((((((((w.setCell ⟨B, 6, none⟩ (.int .i64 x.a)).setCell ⟨B, 7, none⟩ (.int .i64 x.l)).setCell ⟨B, 8, none⟩ (.int .i64 x.f)).setCell ⟨B, 9, none⟩ (.int .i64 x.b)).setCell ⟨B, 10, none⟩ (.int .i64 x.m)).setCell ⟨B, 11, none⟩ (.int .i64 x.n)).setCell ⟨B, 12, none⟩ (.bool h')).setCell ⟨B, 13, none⟩ (.slice none 0 0)) B 1 [i] (shPost x h') 171 n t R lev lat := by
  have h6 := heap_setCell_here hb.2 (o := 6) (.int .i64 x.a)
  have h7 := heap_setCell_here h6 (o := 7) (.int .i64 x.l)
  have h8 := heap_setCell_here h7 (o := 8) (.int .i64 x.f)
  have h9 := heap_setCell_here h8 (o := 9) (.int .i64 x.b)
  have h10 := heap_setCell_here h9 (o := 10) (.int .i64 x.m)
  have h11 := heap_setCell_here h10 (o := 11) (.int .i64 x.n)
  have h12 := heap_setCell_here h11 (o := 12) (.bool h')
  have h13 := heap_setCell_here h12 (o := 13) (.slice none 0 0)
  refine ⟨rfl, h13.trans ?_⟩
  simp [shPost]
/-- What look, and others, leave. -/
structure LookP (M : QM) (B : Nat) (n t R : Int) (F : Nat → Prop) (w : World) (s' : ShS M.σ) (w' : World) : Prop where
  ex : ∃ F' nx, ShAt M B n t R w' F' s' nx ∧ ∀ k, F' k → F k ∨ w.heap.size ≤ k
  ot : Ot (fun k => k = B ∨ F k) w w'
theorem look_hold {M : QM} {B : Nat} {n t R : Int} {F : Nat → Prop} {s : ShS M.σ} {nx : Hd} (now : Int) (w : World) (h : ShAt M B n t R w F s nx) (x : Hd) (hh : s.hold = some x) :
    Calls Tryz.prog 191 #[.pointer (some ⟨B, 0, none⟩), .int .i64 now] w fun e w' => e = .returned (.tuple #[]) ∧ w' = w := by
  obtain ⟨_, _, _, c12, _⟩ := h.cells
  rw [hh] at c12
  simp only [Option.isSome] at c12
  clear h hh
  go_enter Tryz.func191, Tryz.ntmps191
  go_wp2
  (try simp only [Exit.inBlock, Exit.then])
  refine bodyPost_ret (results_none rfl _ _ _) rfl ?_
  exact ⟨rfl, rfl⟩
set_option maxHeartbeats 1000000 in
theorem look_any {M : QM} {B : Nat} {n t R : Int} {F : Nat → Prop} {s : ShS M.σ} {nx : Hd} {tt : Int} {nn : Nat} (now : Int) (hM : M.Calm) (w : World) (h : ShAt M B n t R w F s nx) (hI : M.inv tt nn s.q) (h0 : 0 ≤ tt) (h1 : tt ≤ now) (h2 : now ≤ 20000000) (hn : nn ≤ 1000) :
    Calls Tryz.prog 191 #[.pointer (some ⟨B, 0, none⟩), .int .i64 now] w fun e w' => e = .returned (.tuple #[]) ∧ LookP M B n t R F w (lookS s now) w' := by
  cases hh : s.hold with
  | some x =>
    refine (look_hold now w h x hh).mono ?_
    rintro e w' ⟨rfl, rfl⟩
    have e1 : lookS s now = s := by unfold lookS; rw [hh]
    rw [e1]
    exact ⟨rfl, ⟨F, nx, h, fun k hk => Or.inl hk⟩, Ot.refl _ _⟩
  | none =>
    have hmT := hM.fine.mT
    have heT := hM.fine.eT
    have HCT := hM.fine.cT now h.inner hI h0 h1 h2 hn
    have hnn := hM.none s.q now
    have HL : Hid (lookS s now = { s with q := (M.take s.q now).1, hold := if (M.take s.q now).2.2.2 = true then some (M.take s.q now).2.2.1 else none }) := by
      show _ = _
      unfold lookS
      rw [hh]
    obtain ⟨⟨q1, l1, x1, ok1⟩, hTk⟩ : ∃ T, M.take s.q now = T := ⟨_, rfl⟩
    rw [hTk] at HCT hnn HL
    simp only at hnn
    subst hnn
    clear hTk
    obtain ⟨_, _, _, c12, _⟩ := h.cells
    rw [hh] at c12
    simp only [Option.isSome] at c12
    have H : Hid (ShAt M B n t R w F s nx) := h
    have HM : Hid M.Calm := hM
    have HW := swithin_any w h
    have hV := Hd.val_eq
    obtain ⟨i0, hi, hz0, hz1, hz2⟩ := info_parts infoHeld
    clear h hM hI
    go_enter Tryz.func191, Tryz.ntmps191
    go_wp2_with fail
    refine HW.mono ?_
    rintro e w0 ⟨rfl, rfl⟩
    go_wp2_with fail
    refine HCT.mono ?_
    rintro e w1 ⟨u, F', rfl, hu, hat, hf, hk, ho⟩
    have HST : Hid (StG w1 B 1 [.iface M.ty M.rv] (shPost nx s.hold.isSome) 171 n t R s.lev s.lat) := H.out.blk.same (ho.block B H.out.blk.lt H.out.out)
    have HAT : Hid (M.At w1 F' q1) := hat
    have HF : Hid (∀ k, F' k → F k ∨ w0.heap.size ≤ k) := hf
    have HO : Hid (Ot F w0 w1) := ho
    obtain ⟨xa, xc, hu1, _⟩ := hu.shape'
    subst hu1
    have hbl : B < w1.heap.size := HST.out.lt
    have hnb : ¬ F' B := by
      intro hb
      rcases hf B hb with h | h
      · exact H.out.out h
      · have := H.out.blk.lt; omega
    have HNB : Hid (¬ F' B) := hnb
    have hAll : ShAt M B n t R w1 F' { s with q := q1 } nx := ⟨HST.out, hat, hnb, H.out.eq⟩
    obtain ⟨c0, c3, ⟨d6, d7, d8, d9, d10, d11⟩, c12', c13, ⟨f6, f7, f8, f9, f10, f11⟩, f12, f13⟩ := hAll.cells
    clear hAll hu hat hf hk ho hnb c12 HW HCT
    go_wp2_with (at_builtin; refine wpList_append_empty _ rfl (.tmp 31) (.tmp 32) 74 rfl 76 i0 Tryz.underlying74 hi none 0 0 rfl (Nat.le_refl _) xa xc rfl ?_)
    go_end0
    have HN := (sh_next HST.out x1 ok1).alloc (.cells #[.int .i64 x1.a, .int .i64 x1.l, .int .i64 x1.f, .int .i64 x1.b, .int .i64 x1.m, .int .i64 x1.n] 76)
    have hO3 : Ot (· = B) w1 ((((((((((w1.setCell ⟨B, 6, none⟩ (.int .i64 x1.a)).setCell ⟨B, 7, none⟩ (.int .i64 x1.l)).setCell ⟨B, 8, none⟩ (.int .i64 x1.f)).setCell ⟨B, 9, none⟩ (.int .i64 x1.b)).setCell ⟨B, 10, none⟩ (.int .i64 x1.m)).setCell ⟨B, 11, none⟩ (.int .i64 x1.n)).setCell ⟨B, 12, none⟩ (.bool ok1)).setCell ⟨B, 13, none⟩ (.slice none 0 0)).alloc (.cells #[.int .i64 x1.a, .int .i64 x1.l, .int .i64 x1.f, .int .i64 x1.b, .int .i64 x1.m, .int .i64 x1.n] 76))) := by
      repeat' (first | with_reducible exact Ot.refl _ _ | with_reducible refine Ot.setCell ?_ (by simp) _ | with_reducible refine Ot.alloc ?_ _)
    generalize ((((((((w1.setCell ⟨B, 6, none⟩ (.int .i64 x1.a)).setCell ⟨B, 7, none⟩ (.int .i64 x1.l)).setCell ⟨B, 8, none⟩ (.int .i64 x1.f)).setCell ⟨B, 9, none⟩ (.int .i64 x1.b)).setCell ⟨B, 10, none⟩ (.int .i64 x1.m)).setCell ⟨B, 11, none⟩ (.int .i64 x1.n)).setCell ⟨B, 12, none⟩ (.bool ok1)).setCell ⟨B, 13, none⟩ (.slice none 0 0)).alloc (.cells #[.int .i64 x1.a, .int .i64 x1.l, .int .i64 x1.f, .int .i64 x1.b, .int .i64 x1.m, .int .i64 x1.n] 76) = w2 at *
    rw [HL.out]
    refine ⟨rfl, ⟨F', x1, ⟨?_, ?_, HNB.out, ?_⟩, HF.out⟩, ?_⟩
    · cases ok1 <;> exact HN
    · refine HM.out.fine.kept HAT.out (fun k hk => ?_)
      exact hO3.block k (HM.out.fine.low HAT.out k hk) (fun e => HNB.out (e ▸ hk))
    · intro x hx
      cases ok1 <;> simp at hx
      exact hx
    · exact (HO.out.mono (fun _ _ h => Or.inr h)).trans' hO3 (fun k e _ => Or.inl e)
end Go.Proofs.YtfakjedolecdcaaGreatDoor
namespace Go.Proofs.YtfakjedolecdcaaGreatDoor
open Go.RowKit Go.Extern.Stop Go.Stop Go.Extern

/-- What is so of a shaper's state. -/
structure ShI (M : QM) (n t R : Int) (tt : Int) (nn : Nat) (s : ShS M.σ) : Prop where
  q : M.inv tt nn s.q
  l0 : 0 ≤ s.lev
  l1 : s.lev ≤ R * t
  t0 : 0 ≤ s.lat
  t1 : s.lat ≤ tt
  held : ∀ x, s.hold = some x → x.ok = true
def putS {M : QM} (R : Int) (s : ShS M.σ) (now : Int) (x : Hd) : ShS M.σ × List Hd := if R < x.l then (s, [x]) else ({ s with q := (M.put s.q now x).1 }, (M.put s.q now x).2)
def takeS {M : QM} (n t R : Int) (s : ShS M.σ) (now : Int) : ShS M.σ × List Hd × Hd × Bool := match (lookS s now).hold with
  | none => (lookS s now, [], hd0, false)
  | some x => if drwB t (pas n t R s.lev s.lat now) x.l = true then ({ lookS s now with lev := drw t (pas n t R s.lev s.lat now) x.l, lat := lat1 s.lat now, hold := none }, [], x, true) else ({ lookS s now with lev := drw t (pas n t R s.lev s.lat now) x.l, lat := lat1 s.lat now }, [], hd0, false)
def whenS {M : QM} (n t R : Int) (s : ShS M.σ) (now : Int) : ShS M.σ × Int × Bool := match (lookS s now).hold with
  | none => ({ lookS s now with q := (M.when (lookS s now).q now).1 }, (M.when (lookS s now).q now).2.1, (M.when (lookS s now).q now).2.2)
  | some x => if x.l ≤ R then ({ lookS s now with lev := pas n t R s.lev s.lat now, lat := lat1 s.lat now }, whn n t (pas n t R s.lev s.lat now) (lat1 s.lat now) x.l, true) else ({ lookS s now with lev := pas n t R s.lev s.lat now, lat := lat1 s.lat now }, 0, false)
def lenS {M : QM} (s : ShS M.σ) : Int := match s.hold with
  | none => M.len s.q
  | some _ => M.len s.q + 1
def bytesS {M : QM} (s : ShS M.σ) : Int := match s.hold with
  | none => M.bytes s.q
  | some x => M.bytes s.q + x.l
theorem lookS_same {M : QM} (s : ShS M.σ) (now : Int) : (lookS s now).lev = s.lev ∧ (lookS s now).lat = s.lat := by
  unfold lookS
  split <;> exact ⟨rfl, rfl⟩
theorem look_inv {M : QM} (hM : M.Calm) {n t R tt : Int} {nn : Nat} {s : ShS M.σ} (now : Int) (h : ShI M n t R tt nn s) (h0 : 0 ≤ tt) (h1 : tt ≤ now) (h2 : now ≤ 20000000) (hn : nn ≤ 1000) : ShI M n t R now nn (lookS s now) := by
  obtain ⟨e1, e2⟩ := lookS_same s now
  refine ⟨?_, by rw [e1]; exact h.l0, by rw [e1]; exact h.l1, by rw [e2]; exact h.t0, by rw [e2]; exact Int.le_trans h.t1 h1, ?_⟩
  · cases hh : s.hold with
    | none =>
      have e : (lookS s now).q = (M.take s.q now).1 := by unfold lookS; rw [hh]
      rw [e]
      exact (hM.fine.iT now h.q h0 h1 h2 hn).1
    | some x =>
      have e : lookS s now = s := by unfold lookS; rw [hh]
      rw [e]
      exact hM.mono h.q h1 (Nat.le_refl _)
  · intro x hx
    cases hh : s.hold with
    | none =>
      have e : (lookS s now).hold = if (M.take s.q now).2.2.2 = true then some (M.take s.q now).2.2.1 else none := by unfold lookS; rw [hh]
      rw [e] at hx
      split at hx
      · rename_i hk
        obtain rfl := Option.some.inj hx
        exact hM.okt now h.q hk
      · simp at hx
    | some y =>
      have e : lookS s now = s := by unfold lookS; rw [hh]
      rw [e] at hx
      exact h.held x hx
theorem ShAt.below {M : QM} {B : Nat} {n t R : Int} {w w' : World} {F : Nat → Prop} {s : ShS M.σ} {nx : Hd} (hM : M.Calm) (h : ShAt M B n t R w F s nx) (hb : Below w.heap.size w w') : ShAt M B n t R w' F s nx := h.kept hM (fun k hk => hb.block k (h.low hM k hk))
theorem LookP.after {M : QM} {B : Nat} {n t R : Int} {F : Nat → Prop} {w W w' : World} {s : ShS M.σ} (h : LookP M B n t R F W s w') (hb : Below w.heap.size w W) : LookP M B n t R F w s w' := by
  obtain ⟨F', nx, h1, h2⟩ := h.ex
  refine ⟨⟨F', nx, h1, fun k hk => ?_⟩, (Ot.of_below hb).trans h.ot⟩
  rcases h2 k hk with h | h
  · exact Or.inl h
  · right; have := hb.size; omega
theorem LookP.then {M : QM} {B : Nat} {n t R : Int} {F : Nat → Prop} {w w' w'' : World} {s : ShS M.σ} (hM : M.Calm) (h : LookP M B n t R F w s w') (hb : Below w'.heap.size w' w'') : LookP M B n t R F w s w'' := by
  obtain ⟨F', nx, h1, h2⟩ := h.ex
  exact ⟨⟨F', nx, h1.below hM hb, h2⟩, h.ot.then_below (hb.mono h.ot.size)⟩
set_option maxHeartbeats 1000000 in
theorem sput_any {M : QM} {B : Nat} {n t R : Int} {F : Nat → Prop} {s : ShS M.σ} {nx : Hd} {tt : Int} {nn : Nat} (now : Int) (x : Hd) (hM : M.Calm) (w : World) (h : ShAt M B n t R w F s nx) (hI : M.inv tt nn s.q) (h0 : 0 ≤ tt) (h1 : tt ≤ now) (h2 : now ≤ 20000000) (hok : x.ok = true) (hxa : x.a = now) (hxn : x.n = nn) (hn : nn ≤ 1000) :
    Calls Tryz.prog 187 #[.pointer (some ⟨B, 0, none⟩), .int .i64 now, x.val] w fun e w' => ∃ u, e = .returned u ∧ Hs w' u (putS R s now x).2 ∧ LookP M B n t R F w (putS R s now x).1 w' ∧ ∀ k, u.ownBlock = some k → F k ∨ w.heap.size ≤ k := by
  have hV := Hd.val_eq
  have H : Hid (ShAt M B n t R w F s nx) := h
  have HM : Hid M.Calm := hM
  have hB := h.blk.lt
  obtain ⟨c0, c3, _⟩ := h.cells
  by_cases hr : R < x.l
  · have HR : Hid (putS R s now x = (s, [x])) := by show _ = _; unfold putS; rw [if_pos hr]
    clear h hM hI hxa hxn
    go_enter Tryz.func187, Tryz.ntmps187
    go_wp2
    go_quiet (fail)
    go_wp2
    go_ret
    have hB2 : Below w.heap.size w (((w.alloc (.cells #[.int .i64 x.a, .int .i64 x.l, .int .i64 x.f, .int .i64 x.b, .int .i64 x.m, .int .i64 x.n] 76)).drewN nq).alloc (.cells #[.int .i64 x.a, .int .i64 x.l, .int .i64 x.f, .int .i64 x.b, .int .i64 x.m, .int .i64 x.n] 76)) := below_alloc_ (below_drewN_ (below_alloc_ (Below.refl _ _) _) _) _
    rw [HR.out]
    refine ⟨_, rfl, Hs.one (new_block_ (by simp)), ⟨⟨F, nx, H.out.below HM.out hB2, fun k hk => Or.inl hk⟩, Ot.of_below hB2⟩, fun k hk => ?_⟩
    right
    simp only [Array.getD_eq_getD_getElem?, List.getElem?_toArray, List.getElem?_cons_succ, List.getElem?_cons_zero, Option.getD_some, Value.ownBlock, Option.some.injEq] at hk
    omega
  · have HP : Hid (∀ W : World, Below w.heap.size w W → Calls Tryz.prog M.fP #[M.rP, .int .i64 now, x.val] W fun e w' => ∃ u, e = .returned u ∧ Hs w' u (putS R s now x).2 ∧ LookP M B n t R F w (putS R s now x).1 w' ∧ ∀ k, u.ownBlock = some k → F k ∨ w.heap.size ≤ k) := by
      intro W hb
      have hp := h.below hM hb
      have hsz := hb.size
      have e1 : putS R s now x = ({ s with q := (M.put s.q now x).1 }, (M.put s.q now x).2) := by unfold putS; rw [if_neg hr]
      rw [e1]
      refine (hM.fine.cP now x hp.inner hI h0 h1 h2 hok hxa hxn hn).mono ?_
      rintro e w' ⟨u, F', rfl, hu, ha, hf, hk, ho⟩
      have hnb : ¬ F' B := by
        intro hb'
        rcases hf B hb' with h' | h'
        · exact h.out h'
        · have := hp.blk.lt; omega
      refine ⟨u, rfl, hu, LookP.after ⟨⟨F', nx, ⟨hp.blk.same (ho.block B hp.blk.lt h.out), ha, hnb, h.eq⟩, hf⟩, ho.mono (fun _ _ h => Or.inr h)⟩ hb, fun k hk' => ?_⟩
      rcases hk k hk' with h' | h'
      · exact Or.inl h'
      · right; omega
    have hmP := hM.fine.mP
    have heP := hM.fine.eP
    obtain ⟨xa, xl, xf, xb, xm, xn⟩ := x
    simp only at hr
    simp only [Hd.val_eq] at HP ⊢
    clear h hM hI hxa hxn hok hV
    have d1 : decide (R < xl) = false := by simpa using hr
    go_enter Tryz.func187, Tryz.ntmps187
    go_wp2
    go_quiet (fail)
    go_wp2
    go_region_with (first | (go_at_call 190; refine (swithin_any _ (H.out.below HM.out ?_)).mono ?_; (repeat' (first | with_reducible exact Below.refl _ _ | with_reducible refine Below.drew ?_ | with_reducible refine below_drewN_ ?_ _ | with_reducible refine below_alloc_ ?_ _)); rintro e w0 ⟨rfl, rfl⟩) | (refine (HP.out _ ?_).mono ?_; (repeat' (first | with_reducible exact Below.refl _ _ | with_reducible refine Below.drew ?_ | with_reducible refine below_drewN_ ?_ _ | with_reducible refine below_alloc_ ?_ _)); rintro e w1 ⟨u, rfl, hu, hl, hk⟩))
    all_goals
      go_wp2
      go_ret
      exact ⟨_, rfl, hu, hl, hk⟩
/-- What is not told is told; whether it holds is written. -/
theorem sh_lost {w : World} {B : Nat} {n t R lev lat : Int} {i : Value} {nx : Hd} {h : Bool} (hb : StG w B 1 [i] (shPost nx h) 171 n t R lev lat) : StG (w.setCell ⟨B, 13, none⟩ (.slice none 0 0)) B 1 [i] (shPost nx h) 171 n t R lev lat := by
  refine ⟨rfl, (heap_setCell_here hb.2 (o := 13) (.slice none 0 0)).trans ?_⟩
  simp [shPost]
theorem sh_holds {w : World} {B : Nat} {n t R lev lat : Int} {i : Value} {nx : Hd} {h : Bool} (hb : StG w B 1 [i] (shPost nx h) 171 n t R lev lat) (h' : Bool) : StG (w.setCell ⟨B, 12, none⟩ (.bool h')) B 1 [i] (shPost nx h') 171 n t R lev lat := by
  refine ⟨rfl, (heap_setCell_here hb.2 (o := 12) (.bool h')).trans ?_⟩
  simp [shPost]
theorem ShAt.ot {M : QM} {B : Nat} {n t R : Int} {w w' : World} {F S : Nat → Prop} {s : ShS M.σ} {nx : Hd} (hM : M.Calm) (h : ShAt M B n t R w F s nx) (ho : Ot S w w') (hS : ∀ k, k = B ∨ F k → ¬ S k) : ShAt M B n t R w' F s nx := h.kept hM (fun k hk => ho.block k (h.low hM k hk) (hS k hk))
theorem Oth.ot {S : Nat → Prop} {w w' : World} (h : Oth S w w') : Ot S w w' := ⟨h.os, h.tape, h.output, h.size, h.block⟩
/-- What Take leaves. -/
structure ShT (M : QM) (B : Nat) (n t R : Int) (F : Nat → Prop) (w : World) (r : ShS M.σ × List Hd × Hd × Bool) (w' : World) : Prop where
  none : r.2.1 = []
  look : LookP M B n t R F w r.1 w'
set_option maxHeartbeats 2000000 in
theorem stake_any {M : QM} {B : Nat} {n t R : Int} {F : Nat → Prop} {s : ShS M.σ} {nx : Hd} {tt : Int} {nn : Nat} (now : Int) (hM : M.Calm) (hb : okB n t R) (w : World) (h : ShAt M B n t R w F s nx) (hI : ShI M n t R tt nn s) (h0 : 0 ≤ tt) (h1 : tt ≤ now) (h2 : now ≤ 20000000) (hn : nn ≤ 1000) :
    Calls Tryz.prog 188 #[.pointer (some ⟨B, 0, none⟩), .int .i64 now] w fun e w' => e = .returned (.tuple #[(takeS n t R s now).2.2.1.val, .slice none 0 0, .bool (takeS n t R s now).2.2.2]) ∧ ShT M B n t R F w (takeS n t R s now) w' := by
  have hV := Hd.val_eq
  have HM : Hid M.Calm := hM
  have hBl := h.blk.lt
  have HLO : Hid (∀ k, k = B ∨ F k → k < w.heap.size) := h.low hM
  have HI2 : Hid (ShI M n t R now nn (lookS s now)) := look_inv hM now hI h0 h1 h2 hn
  have hal := h.below hM (below_alloc_ (Below.refl w.heap.size w) (.cells #[.int .i64 0, .int .i64 0, .int .i64 0, .int .i64 0, .int .i64 0, .int .i64 0] 76))
  have HLK := look_any now hM _ hal hI.q h0 h1 h2 hn
  have HE : Hid ((lookS s now).lev = s.lev ∧ (lookS s now).lat = s.lat) := lookS_same s now
  have HTS : Hid (takeS n t R s now = match (lookS s now).hold with
    | none => (lookS s now, [], hd0, false)
    | some x => if drwB t (pas n t R s.lev s.lat now) x.l = true then ({ lookS s now with lev := drw t (pas n t R s.lev s.lat now) x.l, lat := lat1 s.lat now, hold := none }, [], x, true) else ({ lookS s now with lev := drw t (pas n t R s.lev s.lat now) x.l, lat := lat1 s.lat now }, [], hd0, false)) := rfl
  obtain ⟨s1, hs1⟩ : ∃ s1, lookS s now = s1 := ⟨_, rfl⟩
  obtain ⟨r, hr⟩ : ∃ r, takeS n t R s now = r := ⟨_, rfl⟩
  rw [hs1] at HI2 HLK HE HTS
  rw [hr] at HTS ⊢
  clear hs1 hr h hM hI hal
  go_enter Tryz.func188, Tryz.ntmps188
  go_wp2_with fail
  refine HLK.mono ?_
  rintro e w1 ⟨rfl, hl1⟩
  clear HLK
  have HOT1 : Hid (Ot (fun k => k = B ∨ F k) w w1) := (Ot.of_below (below_alloc_ (Below.refl w.heap.size w) _)).trans hl1.ot
  obtain ⟨hsz1, hres1⟩ := after_ot hl1.ot (fun e => by have := HLO.out _ e; omega)
  obtain ⟨F1, nx1, hA1, hF1⟩ := hl1.ex
  have HF1 : Hid (∀ k, F1 k → F k ∨ w.heap.size < k) := by
    intro k hk
    rcases hF1 k hk with h | h
    · exact Or.inl h
    · right; simp at h; omega
  obtain ⟨c0, c3, ⟨d6, d7, d8, d9, d10, d11⟩, c12, c13, ⟨f6, f7, f8, f9, f10, f11⟩, f12, f13⟩ := hA1.cells
  have hB1 := hA1.blk.lt
  have HA1 : Hid (ShAt M B n t R w1 F1 s1 nx1) := hA1
  have HR1 : Hid (w1.heap[w.heap.size]? = some (.cells #[.int .i64 0, .int .i64 0, .int .i64 0, .int .i64 0, .int .i64 0, .int .i64 0] 76 (0, 0))) := hres1
  clear hA1 hF1 hl1 hres1
  go_wp2
  have hA2 : ShAt M B n t R (w1.setCell ⟨B, 13, none⟩ (.slice none 0 0)) F1 s1 nx1 := ⟨sh_lost HA1.out.blk, HM.out.fine.kept HA1.out.inner (fun k hk => Below.heap_setCell _ _ _ _ (fun e => HA1.out.out (by simp only at e; exact e ▸ hk))), HA1.out.out, HA1.out.eq⟩
  have HR2 : Hid ((w1.setCell ⟨B, 13, none⟩ (.slice none 0 0)).heap[w.heap.size]? = some (.cells #[.int .i64 0, .int .i64 0, .int .i64 0, .int .i64 0, .int .i64 0, .int .i64 0] 76 (0, 0))) := by
    show _ = _
    rw [Below.heap_setCell _ _ _ _ (fun e => by simp at e; omega)]
    exact HR1.out
  have HOT2 : Hid (Ot (fun k => k = B ∨ F k) w (w1.setCell ⟨B, 13, none⟩ (.slice none 0 0))) := HOT1.out.setCell (Or.inl (Or.inl rfl)) _
  have hsz2 : w.heap.size < (w1.setCell ⟨B, 13, none⟩ (.slice none 0 0)).heap.size := by simpa [World.setCell] using hsz1
  clear HA1 HR1 HOT1 hsz1 hB1 c0 c3 d6 d7 d8 d9 d10 d11 c12 c13 f6 f7 f8 f9 f10 f11 f12 f13
  generalize w1.setCell ⟨B, 13, none⟩ (.slice none 0 0) = w2 at *
  have HA2 : Hid (ShAt M B n t R w2 F1 s1 nx1) := hA2
  obtain ⟨c0, c3, ⟨d6, d7, d8, d9, d10, d11⟩, c12, c13, ⟨f6, f7, f8, f9, f10, f11⟩, f12, f13⟩ := hA2.cells
  have hB2 := hA2.blk.lt
  clear hA2
  cases hh : s1.hold with
  | none =>
    rw [hh] at c12 HTS
    simp only [Option.isSome] at c12
    obtain ⟨⟨z0, z1, z2, z3, z4, z5⟩, y0, y1, y2, y3, y4, y5⟩ := six HR2.out
    have HTS2 : Hid (r = (s1, [], hd0, false)) := HTS.out
    clear HTS
    go_quiet (fail)
    go_wp2
    (try simp only [Exit.inBlock, Exit.then, Exit.noGoto_ret])
    have HRD : Hid (Ot (· = w.heap.size) w2 ((((((((w2.drewN nq).setCell ⟨w.heap.size, 0, none⟩ (.int .i64 0)).setCell ⟨w.heap.size, 1, none⟩ (.int .i64 0)).setCell ⟨w.heap.size, 2, none⟩ (.int .i64 0)).setCell ⟨w.heap.size, 3, none⟩ (.int .i64 0)).setCell ⟨w.heap.size, 4, none⟩ (.int .i64 0)).setCell ⟨w.heap.size, 5, none⟩ (.int .i64 0)))) := by
      show Ot _ _ _
      repeat' (first | with_reducible exact Ot.refl _ _ | with_reducible refine Ot.setCell ?_ (by simp) _ | with_reducible refine Ot.drewN ?_ _)
    have hld := load_held (x := hd0) (six_set (w := w2.drewN nq) HR2.out (.int .i64 0) (.int .i64 0) (.int .i64 0) (.int .i64 0) (.int .i64 0) (.int .i64 0))
    refine bodyPost_ret (v := .tuple #[hd0.val, .slice none 0 0, .bool false]) ?_ rfl ⟨by rw [HTS2.out], ?_⟩
    · rw [results_cell_tmp2 rfl]
      simp [asAddr, Result.andThen, hld]
    · rw [HTS2.out]
      refine ⟨rfl, ⟨F1, nx1, HA2.out.ot HM.out HRD.out (fun k hk e => ?_), fun k hk => ?_⟩, HOT2.out.trans' HRD.out (fun k e hk => by omega)⟩
      · rcases hk with hk | hk
        · omega
        · rcases HF1.out k hk with h | h
          · have := HLO.out k (Or.inr h); omega
          · omega
      · rcases HF1.out k hk with h | h
        · exact Or.inl h
        · right; omega
  | some x =>
    obtain rfl := HA2.out.eq x hh
    rw [hh] at c12 HTS
    simp only [Option.isSome] at c12
    have hxo := HI2.out.held _ hh
    have hxl := ok_len hxo
    have HTK : Hid (∀ W : World, W.heap[B]? = w2.heap[B]? → Calls Tryz.prog 192 #[.pointer (some ⟨B, 1, none⟩), .int .i64 now, .int .i64 nx1.l] W fun e w' => e = .returned (.bool (drwB t (pas n t R s.lev s.lat now) nx1.l)) ∧ StG w' B 1 [.iface M.ty M.rv] (shPost nx1 true) 171 n t R (drw t (pas n t R s.lev s.lat now) nx1.l) (lat1 s.lat now) ∧ Oth (· = B) W w') := by
      intro W hW
      have hst := HA2.out.blk.same hW
      have hi := HI2.out
      rw [HE.out.1, HE.out.2, hh] at hst
      exact take_yes now nx1.l W hst hb (by rw [← HE.out.1]; exact hi.l0) (by rw [← HE.out.1]; exact hi.l1) (by rw [← HE.out.2]; exact hi.t0) (by omega) (by omega) (by omega)
    have HHH : Hid (s1.hold = some nx1) := hh
    have HKP : Hid (∀ W : World, W.heap[B]? = w2.heap[B]? → W.cell? ⟨B, 12, none⟩ = some (.bool true) ∧ W.cell? ⟨B, 7, none⟩ = some (.int .i64 nx1.l)) := fun W hW => ⟨(World.cell?_of_block (w := w2) hW).trans c12, (World.cell?_of_block (w := w2) hW).trans d7⟩
    clear hb hxo hh
    cases hd : drwB t (pas n t R s.lev s.lat now) nx1.l with
    | false =>
      have HTS2 : Hid (r = ({ q := s1.q, lev := drw t (pas n t R s.lev s.lat now) nx1.l, lat := lat1 s.lat now, hold := some nx1 }, [], hd0, false)) := by
        show _ = _
        rw [show r = _ from HTS.out]
        simp only [hd, Bool.false_eq_true, if_false]
      rw [hd] at HTK
      clear HTS hd
      go_region_held3 (fun W => W.cell? ⟨B, 12, none⟩ = some (.bool true) ∧ W.cell? ⟨B, 7, none⟩ = some (.int .i64 nx1.l)) (first | exact ⟨k12, e7⟩ | (refine HKP.out _ ?_; rfl)) ((go_at_call 192; refine (HTK.out _ ?_).mono ?_; rfl; rintro e w3 ⟨rfl, hst3, ho3⟩; have HR3 : Hid (w3.heap[w.heap.size]? = some (.cells #[.int .i64 0, .int .i64 0, .int .i64 0, .int .i64 0, .int .i64 0, .int .i64 0] 76 (0, 0))) := (ho3.block w.heap.size (by exact hsz2) (by omega)).trans HR2.out; have HOT3 : Hid (Ot (fun k => k = B ∨ F k) w w3) := HOT2.out.trans' (c := w3) (T := (· = B)) (by exact ⟨ho3.os, ho3.tape, ho3.output, ho3.size, ho3.block⟩) (fun k e _ => Or.inl e); have hA3 : ShAt M B n t R w3 F1 { q := s1.q, lev := drw t (pas n t R s.lev s.lat now) nx1.l, lat := lat1 s.lat now, hold := some nx1 } nx1 := ⟨hst3, HM.out.fine.kept HA2.out.inner (fun k hk => (ho3.block k (by exact HM.out.fine.low HA2.out.inner k hk) (fun e => HA2.out.out (by rw [← e]; exact hk)))), HA2.out.out, fun y hy => by simpa using hy⟩; have HA3 : Hid (ShAt M B n t R w3 F1 { q := s1.q, lev := drw t (pas n t R s.lev s.lat now) nx1.l, lat := lat1 s.lat now, hold := some nx1 } nx1) := hA3; have hsz3 : w.heap.size < w3.heap.size := Nat.lt_of_lt_of_le (by exact hsz2) ho3.size; have hB3 := hA3.blk.lt; obtain ⟨⟨z0, z1, z2, z3, z4, z5⟩, y0, y1, y2, y3, y4, y5⟩ := six HR3.out; obtain ⟨k0, k3, ⟨e6, e7, e8, e9, e10, e11⟩, k12, k13, ⟨g6, g7, g8, g9, g10, g11⟩, g12, g13⟩ := hA3.cells; clear hA3 hst3 ho3))
      all_goals
        go_wp2
        (try simp only [Exit.inBlock, Exit.then, Exit.noGoto_ret])
        have HRD : Hid (Ot (· = w.heap.size) w3 ((((((w3.setCell ⟨w.heap.size, 0, none⟩ (.int .i64 0)).setCell ⟨w.heap.size, 1, none⟩ (.int .i64 0)).setCell ⟨w.heap.size, 2, none⟩ (.int .i64 0)).setCell ⟨w.heap.size, 3, none⟩ (.int .i64 0)).setCell ⟨w.heap.size, 4, none⟩ (.int .i64 0)).setCell ⟨w.heap.size, 5, none⟩ (.int .i64 0))) := by
          show Ot _ _ _
          repeat' (first | with_reducible exact Ot.refl _ _ | with_reducible refine Ot.setCell ?_ (by simp) _ | with_reducible refine Ot.drewN ?_ _)
        have hld := load_held (x := hd0) (six_set HR3.out (.int .i64 0) (.int .i64 0) (.int .i64 0) (.int .i64 0) (.int .i64 0) (.int .i64 0))
        refine bodyPost_ret (v := .tuple #[hd0.val, .slice none 0 0, .bool false]) ?_ rfl ⟨by rw [HTS2.out], ?_⟩
        · rw [results_cell_tmp2 rfl]
          simp [asAddr, Result.andThen, hld]
        · rw [HTS2.out]
          refine ⟨rfl, ⟨F1, nx1, HA3.out.ot HM.out HRD.out (fun k hk e => ?_), fun k hk => ?_⟩, HOT3.out.trans' HRD.out (fun k e hk => by omega)⟩
          · rcases hk with hk | hk
            · omega
            · rcases HF1.out k hk with h | h
              · have := HLO.out k (Or.inr h); omega
              · omega
          · rcases HF1.out k hk with h | h
            · exact Or.inl h
            · right; omega
    | true =>
      have HTS2 : Hid (r = ({ s1 with lev := drw t (pas n t R s.lev s.lat now) nx1.l, lat := lat1 s.lat now, hold := none }, [], nx1, true)) := by
        show _ = _
        rw [show r = _ from HTS.out]
        simp only [hd, if_true]
      rw [hd] at HTK
      clear HTS hd
      go_region_held3 (fun W => W.cell? ⟨B, 12, none⟩ = some (.bool true) ∧ W.cell? ⟨B, 7, none⟩ = some (.int .i64 nx1.l)) (first | exact ⟨k12, e7⟩ | (refine HKP.out _ ?_; rfl)) ((go_at_call 192; refine (HTK.out _ ?_).mono ?_; rfl; rintro e w3 ⟨rfl, hst3, ho3⟩; have HR3 : Hid (w3.heap[w.heap.size]? = some (.cells #[.int .i64 0, .int .i64 0, .int .i64 0, .int .i64 0, .int .i64 0, .int .i64 0] 76 (0, 0))) := (ho3.block w.heap.size (by exact hsz2) (by omega)).trans HR2.out; have HOT3 : Hid (Ot (fun k => k = B ∨ F k) w w3) := HOT2.out.trans' (c := w3) (T := (· = B)) (by exact ⟨ho3.os, ho3.tape, ho3.output, ho3.size, ho3.block⟩) (fun k e _ => Or.inl e); have hA3 : ShAt M B n t R w3 F1 { q := s1.q, lev := drw t (pas n t R s.lev s.lat now) nx1.l, lat := lat1 s.lat now, hold := some nx1 } nx1 := ⟨hst3, HM.out.fine.kept HA2.out.inner (fun k hk => (ho3.block k (by exact HM.out.fine.low HA2.out.inner k hk) (fun e => HA2.out.out (by rw [← e]; exact hk)))), HA2.out.out, fun y hy => by simpa using hy⟩; have HA3 : Hid (ShAt M B n t R w3 F1 { q := s1.q, lev := drw t (pas n t R s.lev s.lat now) nx1.l, lat := lat1 s.lat now, hold := some nx1 } nx1) := hA3; have hsz3 : w.heap.size < w3.heap.size := Nat.lt_of_lt_of_le (by exact hsz2) ho3.size; have hB3 := hA3.blk.lt; obtain ⟨⟨z0, z1, z2, z3, z4, z5⟩, y0, y1, y2, y3, y4, y5⟩ := six HR3.out; obtain ⟨k0, k3, ⟨e6, e7, e8, e9, e10, e11⟩, k12, k13, ⟨g6, g7, g8, g9, g10, g11⟩, g12, g13⟩ := hA3.cells; clear hA3 hst3 ho3))
      all_goals
        go_wp2
        (try simp only [Exit.inBlock, Exit.then, Exit.noGoto_ret])
        have HRD : Hid (Ot (· = w.heap.size) (w3.setCell ⟨B, 12, none⟩ (.bool false)) (((((((w3.setCell ⟨B, 12, none⟩ (.bool false)).setCell ⟨w.heap.size, 0, none⟩ (.int .i64 nx1.a)).setCell ⟨w.heap.size, 1, none⟩ (.int .i64 nx1.l)).setCell ⟨w.heap.size, 2, none⟩ (.int .i64 nx1.f)).setCell ⟨w.heap.size, 3, none⟩ (.int .i64 nx1.b)).setCell ⟨w.heap.size, 4, none⟩ (.int .i64 nx1.m)).setCell ⟨w.heap.size, 5, none⟩ (.int .i64 nx1.n))) := by
          show Ot _ _ _
          repeat' (first | with_reducible exact Ot.refl _ _ | with_reducible refine Ot.setCell ?_ (by simp) _ | with_reducible refine Ot.drewN ?_ _)
        have HR4 : Hid ((w3.setCell ⟨B, 12, none⟩ (.bool false)).heap[w.heap.size]? = some (.cells #[.int .i64 0, .int .i64 0, .int .i64 0, .int .i64 0, .int .i64 0, .int .i64 0] 76 (0, 0))) := by
          show _ = _
          rw [Below.heap_setCell _ _ _ _ (fun e => by simp at e; omega)]
          exact HR3.out
        have hA4 : ShAt M B n t R (w3.setCell ⟨B, 12, none⟩ (.bool false)) F1 { s1 with lev := drw t (pas n t R s.lev s.lat now) nx1.l, lat := lat1 s.lat now, hold := none } nx1 := ⟨sh_holds HA3.out.blk false, HM.out.fine.kept HA3.out.inner (fun k hk => Below.heap_setCell _ _ _ _ (fun e => HA3.out.out (by simp only at e; exact e ▸ hk))), HA3.out.out, fun x hx => by simp at hx⟩
        have hOT4 := HOT3.out.setCell (p := ⟨B, 12, none⟩) (Or.inl (Or.inl rfl)) (.bool false)
        have hld := load_held (x := nx1) (six_set HR4.out (.int .i64 nx1.a) (.int .i64 nx1.l) (.int .i64 nx1.f) (.int .i64 nx1.b) (.int .i64 nx1.m) (.int .i64 nx1.n))
        refine bodyPost_ret (v := .tuple #[nx1.val, .slice none 0 0, .bool true]) ?_ rfl ⟨by rw [HTS2.out], ?_⟩
        · rw [results_cell_tmp2 rfl]
          simp [asAddr, Result.andThen, hld]
        · rw [HTS2.out]
          refine ⟨rfl, ⟨F1, nx1, hA4.ot HM.out HRD.out (fun k hk e => ?_), fun k hk => ?_⟩, hOT4.trans' HRD.out (fun k e hk => by omega)⟩
          · rcases hk with hk | hk
            · omega
            · rcases HF1.out k hk with h | h
              · have := HLO.out k (Or.inr h); omega
              · omega
          · rcases HF1.out k hk with h | h
            · exact Or.inl h
            · right; omega
end Go.Proofs.YtfakjedolecdcaaGreatDoor
