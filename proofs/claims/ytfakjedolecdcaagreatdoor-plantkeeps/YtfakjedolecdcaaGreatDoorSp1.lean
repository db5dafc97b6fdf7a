/-
  shaper.Shaper over whatever queue that throws nothing away when it is asked: its cells in memory, its model; within and look. Conditions: the queue's methods do what a model of it tells (a premise).
-/
import Derived.Test.YtfakjedolecdcaaGreatDoorU19
import Derived.Test.YtfakjedolecdcaaGreatDoorU10
namespace Go.Proofs.YtfakjedolecdcaaGreatDoor
open Go.RowKit Go.Extern.Stop Go.Stop Go.Extern

/-- A queue that throws nothing away when it is asked. -/
structure QM.Calm (M : QM) : Prop where
  fine : M.Fine
  mono : ∀ {t t' : Int} {n n' : Nat} {s : M.σ}, M.inv t n s → t ≤ t' → n ≤ n' → M.inv t' n' s
  none : ∀ s now, (M.take s now).2.1 = []
  okt : ∀ {t : Int} {n : Nat} {s : M.σ} (now : Int), M.inv t n s → (M.take s now).2.2.2 = true → (M.take s now).2.2.1.ok = true
  small : ∀ {t : Int} {n : Nat} {s : M.σ}, M.inv t n s → n ≤ 1001 → (0 ≤ M.len s ∧ M.len s ≤ 1000000) ∧ 0 ≤ M.bytes s ∧ M.bytes s ≤ 10000000000
theorem fifo_calm (b : Nat) (P R : Int) (hd : Bool) (hP : 0 ≤ P) (hR : 0 ≤ R) (hR1 : R ≤ 1000000) : (FifoM b P R hd).Calm where
  fine := fifoM_fine b P R hd hP hR hR1
  mono := fun h _ hn => ⟨Nat.le_trans h.1 hn, h.2⟩
  none := fun _ _ => rfl
  okt := by
    intro t n (s : List Hd) now h hk
    cases s with
    | nil => simp [FifoM] at hk
    | cons x L => exact h.2 x (by simp)
  small := by
    intro t n (s : List Hd) h hn
    have h1 := Fit.sum (L := s) (fun x hx => by have := ok_len (h.2 x hx); omega)
    have h2 := h.1
    show (0 ≤ (s.length : Int) ∧ (s.length : Int) ≤ 1000000) ∧ 0 ≤ sumL s ∧ sumL s ≤ 10000000000
    omega
/-- A shaper's state: its queue's, the level, the latest time, what it holds. -/
structure ShS (α : Type) where
  q : α
  lev : Int
  lat : Int
  hold : Option Hd
/-- Its cells: the queue, the bucket, what it holds or held, whether it holds, what is not told. -/
def shPost (nx : Hd) (h : Bool) : List Value := [.int .i64 nx.a, .int .i64 nx.l, .int .i64 nx.f, .int .i64 nx.b, .int .i64 nx.m, .int .i64 nx.n, .bool h, .slice none 0 0]
structure ShAt (M : QM) (B : Nat) (n t R : Int) (w : World) (F : Nat → Prop) (s : ShS M.σ) (nx : Hd) : Prop where
  blk : StG w B 1 [.iface M.ty M.rv] (shPost nx s.hold.isSome) 171 n t R s.lev s.lat
  inner : M.At w F s.q
  out : ¬ F B
  eq : ∀ x, s.hold = some x → nx = x
theorem ShAt.kept {M : QM} {B : Nat} {n t R : Int} {w w' : World} {F : Nat → Prop} {s : ShS M.σ} {nx : Hd} (hM : M.Calm) (h : ShAt M B n t R w F s nx) (hk : ∀ k, k = B ∨ F k → w'.heap[k]? = w.heap[k]?) : ShAt M B n t R w' F s nx :=
  ⟨h.blk.same (hk B (Or.inl rfl)), hM.fine.kept h.inner (fun k hf => hk k (Or.inr hf)), h.out, h.eq⟩
theorem ShAt.low {M : QM} {B : Nat} {n t R : Int} {w : World} {F : Nat → Prop} {s : ShS M.σ} {nx : Hd} (hM : M.Calm) (h : ShAt M B n t R w F s nx) : ∀ k, k = B ∨ F k → k < w.heap.size := by
  rintro k (rfl | hk)
  · exact h.blk.lt
  · exact hM.fine.low h.inner k hk
/-- Its last cells. -/
theorem ShAt.cells {M : QM} {B : Nat} {n t R : Int} {w : World} {F : Nat → Prop} {s : ShS M.σ} {nx : Hd} (h : ShAt M B n t R w F s nx) : w.cell? ⟨B, 0, none⟩ = some (.iface M.ty M.rv) ∧ w.cell? ⟨B, 3, none⟩ = some (.int .i64 R) ∧ (w.cell? ⟨B, 6, none⟩ = some (.int .i64 nx.a) ∧ w.cell? ⟨B, 7, none⟩ = some (.int .i64 nx.l) ∧ w.cell? ⟨B, 8, none⟩ = some (.int .i64 nx.f) ∧ w.cell? ⟨B, 9, none⟩ = some (.int .i64 nx.b) ∧ w.cell? ⟨B, 10, none⟩ = some (.int .i64 nx.m) ∧ w.cell? ⟨B, 11, none⟩ = some (.int .i64 nx.n)) ∧ w.cell? ⟨B, 12, none⟩ = some (.bool s.hold.isSome) ∧ w.cell? ⟨B, 13, none⟩ = some (.slice none 0 0) ∧
    (w.frozen? ⟨B, 6, none⟩ = false ∧ w.frozen? ⟨B, 7, none⟩ = false ∧ w.frozen? ⟨B, 8, none⟩ = false ∧ w.frozen? ⟨B, 9, none⟩ = false ∧ w.frozen? ⟨B, 10, none⟩ = false ∧ w.frozen? ⟨B, 11, none⟩ = false) ∧ w.frozen? ⟨B, 12, none⟩ = false ∧ w.frozen? ⟨B, 13, none⟩ = false := by
  have hb := h.blk.2
  refine ⟨?_, ?_, ⟨?_, ?_, ?_, ?_, ?_, ?_⟩, ?_, ?_, ⟨?_, ?_, ?_, ?_, ?_, ?_⟩, ?_, ?_⟩
  all_goals simp [World.cell?, World.frozen?, hb, shPost]
/-- What it holds when it is asked. -/
def lookS {M : QM} (s : ShS M.σ) (now : Int) : ShS M.σ := match s.hold with
  | some _ => s
  | none => { s with q := (M.take s.q now).1, hold := if (M.take s.q now).2.2.2 = true then some (M.take s.q now).2.2.1 else none }
theorem swithin_any {M : QM} {B : Nat} {n t R : Int} {F : Nat → Prop} {s : ShS M.σ} {nx : Hd} (w : World) (h : ShAt M B n t R w F s nx) :
    Calls Tryz.prog 190 #[.pointer (some ⟨B, 0, none⟩)] w fun e w' => e = .returned (.iface M.ty M.rv) ∧ w' = w := by
  obtain ⟨c0, _⟩ := h.cells
  clear h
  go_enter Tryz.func190, Tryz.ntmps190
  go_wp2
  go_ret
  exact ⟨rfl, rfl⟩
theorem wpList_append_empty {P : Program} (w : World) {ops : Array Oper} {rest : List Oper} {o : Oper} {a : Act} {Q : Exit → Act → World → Prop} (hgd : o.guard = none) (s x : Operand) (t : TypeId)
    (ho : o.op = .call { callee := .builtin .append, args := #[s, x], argTypes := #[t, t] })
    (e : TypeId) (i : TypeInfo) (ht : P.underlying t = some (.slice e)) (hi : P.info? e = some i)
    (ad : Option Addr) (n cap : Nat) (hs : a.eval s = .slice ad n cap) (hle : n ≤ cap) (xa : Option Addr) (xc : Nat) (hx : a.eval x = .slice xa 0 xc)
    (h : wpList P ops Q rest (a.put o.dst (.slice ad n cap)) w) : wpList P ops Q (o :: rest) a w := by
  refine wpList_plain hgd fun K hK => ?_
  have hr : (Builtin.append_ #[t, t] o.type #[.slice ad n cap, .slice xa 0 xc]).run P w = .ok (.slice ad n cap) w := by
    cases ad <;> cases xa <;> simp [Builtin.append_, Builtin.lenOf, Builtin.firstCells, run_underlying ht, sizeOf, typeInfo, hi, hle, storeCells, loadCells, loadCellsFrom]
  unfold Oper.wp execOp
  simp only [ho, resolve, invoke, builtin, Sem.run_bind, Sem.run_pure, Result.andThen_ok, List.map_toArray, List.map_cons, List.map_nil, hs, hx, hr]
  exact hK _ _ h
theorem Hs.shape' {w : World} {v : Value} {L : List Hd} (h : Hs w v L) : ∃ x cap, v = .slice x L.length cap ∧ L.length ≤ cap := by
  rcases h.form with ⟨h, h0, _⟩ | ⟨b, off, cap, h, h1, _⟩
  · exact ⟨none, 0, by rw [h, h0], by omega⟩
  · exact ⟨_, _, h, h1⟩
/-- What it holds is written. -/
theorem sh_next {w : World} {B : Nat} {n t R lev lat : Int} {i : Value} {nx : Hd} {h : Bool} (hb : StG w B 1 [i] (shPost nx h) 171 n t R lev lat) (x : Hd) (h' : Bool) :
    StG ((((((((w.setCell ⟨B, 6, none⟩ (.int .i64 x.a)).setCell ⟨B, 7, none⟩ (.int .i64 x.l)).setCell ⟨B, 8, none⟩ (.int .i64 x.f)).setCell ⟨B, 9, none⟩ (.int .i64 x.b)).setCell ⟨B, 10, none⟩ (.int .i64 x.m)).setCell ⟨B, 11, none⟩ (.int .i64 x.n)).setCell ⟨B, 12, none⟩ (.bool h')).setCell ⟨B, 13, none⟩ (.slice none 0 0)) B 1 [i] (shPost x h') 171 n t R lev lat := by
  have h6 := heap_setCell_here hb.2 (o := 6) (.int .i64 x.a)
  have h7 := heap_setCell_here h6 (o := 7) (.int .i64 x.l)
  have h8 := heap_setCell_here h7 (o := 8) (.int .i64 x.f)
  have h9 := heap_setCell_here h8 (o := 9) (.int .i64 x.b)
  have h10 := heap_setCell_here h9 (o := 10) (.int .i64 x.m)
  have h11 := heap_setCell_here h10 (o := 11) (.int .i64 x.n)
  have h12 := heap_setCell_here h11 (o := 12) (.bool h')
  have h13 := heap_setCell_here h12 (o := 13) (.slice none 0 0)
  refine ⟨rfl, h13.trans ?_⟩
  simp [shPost]
/-- What look, and others, leave. -/
structure LookP (M : QM) (B : Nat) (n t R : Int) (F : Nat → Prop) (w : World) (s' : ShS M.σ) (w' : World) : Prop where
  ex : ∃ F' nx, ShAt M B n t R w' F' s' nx ∧ ∀ k, F' k → F k ∨ w.heap.size ≤ k
  ot : Ot (fun k => k = B ∨ F k) w w'
theorem look_hold {M : QM} {B : Nat} {n t R : Int} {F : Nat → Prop} {s : ShS M.σ} {nx : Hd} (now : Int) (w : World) (h : ShAt M B n t R w F s nx) (x : Hd) (hh : s.hold = some x) :
    Calls Tryz.prog 191 #[.pointer (some ⟨B, 0, none⟩), .int .i64 now] w fun e w' => e = .returned (.tuple #[]) ∧ w' = w := by
  obtain ⟨_, _, _, c12, _⟩ := h.cells
  rw [hh] at c12
  simp only [Option.isSome] at c12
  clear h hh
  go_enter Tryz.func191, Tryz.ntmps191
  go_wp2
  (try simp only [Exit.inBlock, Exit.then])
  refine bodyPost_ret (results_none rfl _ _ _) rfl ?_
  exact ⟨rfl, rfl⟩
set_option maxHeartbeats 1000000 in
theorem look_any {M : QM} {B : Nat} {n t R : Int} {F : Nat → Prop} {s : ShS M.σ} {nx : Hd} {tt : Int} {nn : Nat} (now : Int) (hM : M.Calm) (w : World) (h : ShAt M B n t R w F s nx) (hI : M.inv tt nn s.q) (h0 : 0 ≤ tt) (h1 : tt ≤ now) (h2 : now ≤ 20000000) (hn : nn ≤ 1000) :
    Calls Tryz.prog 191 #[.pointer (some ⟨B, 0, none⟩), .int .i64 now] w fun e w' => e = .returned (.tuple #[]) ∧ LookP M B n t R F w (lookS s now) w' := by
  cases hh : s.hold with
  | some x =>
    refine (look_hold now w h x hh).mono ?_
    rintro e w' ⟨rfl, rfl⟩
    have e1 : lookS s now = s := by unfold lookS; rw [hh]
    rw [e1]
    exact ⟨rfl, ⟨F, nx, h, fun k hk => Or.inl hk⟩, Ot.refl _ _⟩
  | none =>
    have hmT := hM.fine.mT
    have heT := hM.fine.eT
    have HCT := hM.fine.cT now h.inner hI h0 h1 h2 hn
    have hnn := hM.none s.q now
    have HL : Hid (lookS s now = { s with q := (M.take s.q now).1, hold := if (M.take s.q now).2.2.2 = true then some (M.take s.q now).2.2.1 else none }) := by
      show _ = _
      unfold lookS
      rw [hh]
    obtain ⟨⟨q1, l1, x1, ok1⟩, hTk⟩ : ∃ T, M.take s.q now = T := ⟨_, rfl⟩
    rw [hTk] at HCT hnn HL
    simp only at hnn
    subst hnn
    clear hTk
    obtain ⟨_, _, _, c12, _⟩ := h.cells
    rw [hh] at c12
    simp only [Option.isSome] at c12
    have H : Hid (ShAt M B n t R w F s nx) := h
    have HM : Hid M.Calm := hM
    have HW := swithin_any w h
    have hV := Hd.val_eq
    obtain ⟨i0, hi, hz0, hz1, hz2⟩ := info_parts infoHeld
    clear h hM hI
    go_enter Tryz.func191, Tryz.ntmps191
    go_wp2_with fail
    refine HW.mono ?_
    rintro e w0 ⟨rfl, rfl⟩
    go_wp2_with fail
    refine HCT.mono ?_
    rintro e w1 ⟨u, F', rfl, hu, hat, hf, hk, ho⟩
    have HST : Hid (StG w1 B 1 [.iface M.ty M.rv] (shPost nx s.hold.isSome) 171 n t R s.lev s.lat) := H.out.blk.same (ho.block B H.out.blk.lt H.out.out)
    have HAT : Hid (M.At w1 F' q1) := hat
    have HF : Hid (∀ k, F' k → F k ∨ w0.heap.size ≤ k) := hf
    have HO : Hid (Ot F w0 w1) := ho
    obtain ⟨xa, xc, hu1, _⟩ := hu.shape'
    subst hu1
    have hbl : B < w1.heap.size := HST.out.lt
    have hnb : ¬ F' B := by
      intro hb
      rcases hf B hb with h | h
      · exact H.out.out h
      · have := H.out.blk.lt; omega
    have HNB : Hid (¬ F' B) := hnb
    have hAll : ShAt M B n t R w1 F' { s with q := q1 } nx := ⟨HST.out, hat, hnb, H.out.eq⟩
    obtain ⟨c0, c3, ⟨d6, d7, d8, d9, d10, d11⟩, c12', c13, ⟨f6, f7, f8, f9, f10, f11⟩, f12, f13⟩ := hAll.cells
    clear hAll hu hat hf hk ho hnb c12 HW HCT
    go_wp2_with (at_builtin; refine wpList_append_empty _ rfl (.tmp 31) (.tmp 32) 74 rfl 76 i0 Tryz.underlying74 hi none 0 0 rfl (Nat.le_refl _) xa xc rfl ?_)
    go_end0
    have HN := (sh_next HST.out x1 ok1).alloc (.cells #[.int .i64 x1.a, .int .i64 x1.l, .int .i64 x1.f, .int .i64 x1.b, .int .i64 x1.m, .int .i64 x1.n] 76)
    have hO3 : Ot (· = B) w1 ((((((((((w1.setCell ⟨B, 6, none⟩ (.int .i64 x1.a)).setCell ⟨B, 7, none⟩ (.int .i64 x1.l)).setCell ⟨B, 8, none⟩ (.int .i64 x1.f)).setCell ⟨B, 9, none⟩ (.int .i64 x1.b)).setCell ⟨B, 10, none⟩ (.int .i64 x1.m)).setCell ⟨B, 11, none⟩ (.int .i64 x1.n)).setCell ⟨B, 12, none⟩ (.bool ok1)).setCell ⟨B, 13, none⟩ (.slice none 0 0)).alloc (.cells #[.int .i64 x1.a, .int .i64 x1.l, .int .i64 x1.f, .int .i64 x1.b, .int .i64 x1.m, .int .i64 x1.n] 76))) := by
      repeat' (first | with_reducible exact Ot.refl _ _ | with_reducible refine Ot.setCell ?_ (by simp) _ | with_reducible refine Ot.alloc ?_ _)
    generalize ((((((((w1.setCell ⟨B, 6, none⟩ (.int .i64 x1.a)).setCell ⟨B, 7, none⟩ (.int .i64 x1.l)).setCell ⟨B, 8, none⟩ (.int .i64 x1.f)).setCell ⟨B, 9, none⟩ (.int .i64 x1.b)).setCell ⟨B, 10, none⟩ (.int .i64 x1.m)).setCell ⟨B, 11, none⟩ (.int .i64 x1.n)).setCell ⟨B, 12, none⟩ (.bool ok1)).setCell ⟨B, 13, none⟩ (.slice none 0 0)).alloc (.cells #[.int .i64 x1.a, .int .i64 x1.l, .int .i64 x1.f, .int .i64 x1.b, .int .i64 x1.m, .int .i64 x1.n] 76) = w2 at *
    rw [HL.out]
    refine ⟨rfl, ⟨F', x1, ⟨?_, ?_, HNB.out, ?_⟩, HF.out⟩, ?_⟩
    · cases ok1 <;> exact HN
    · refine HM.out.fine.kept HAT.out (fun k hk => ?_)
      exact hO3.block k (HM.out.fine.low HAT.out k hk) (fun e => HNB.out (e ▸ hk))
    · intro x hx
      cases ok1 <;> simp at hx
      exact hx
    · exact (HO.out.mono (fun _ _ h => Or.inr h)).trans' hO3 (fun k e _ => Or.inl e)
end Go.Proofs.YtfakjedolecdcaaGreatDoor
