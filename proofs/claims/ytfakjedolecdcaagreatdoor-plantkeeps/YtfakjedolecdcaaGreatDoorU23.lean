/-
  shaper.Shaper over whatever queue, also one that throws away when it is asked: what is lost is kept till it is told; its cells in memory; within and look. Conditions: the queue's methods do what a model of it tells (a premise).
  shaper.Shaper over whatever queue, as mathematics: what is held in it, what each call leaves of that, and what stays so. Nothing of the program is claimed here.
-/
import Derived.Test.YtfakjedolecdcaaGreatDoorU22
import Derived.Test.YtfakjedolecdcaaGreatDoorU15
import Derived.Test.YtfakjedolecdcaaGreatDoorU17
namespace Go.Proofs.YtfakjedolecdcaaGreatDoor
open Go.RowKit Go.Extern.Stop Go.Stop Go.Extern

/-- A shaper's state: its queue's, the level, the latest time, what it holds, what is lost and not told. -/
structure SgS (α : Type) where
  q : α
  lev : Int
  lat : Int
  hold : Option Hd
  lost : List Hd
def sgPost (nx : Hd) (h : Bool) (lv : Value) : List Value := [.int .i64 nx.a, .int .i64 nx.l, .int .i64 nx.f, .int .i64 nx.b, .int .i64 nx.m, .int .i64 nx.n, .bool h, lv]
structure SgAt (M : QM) (B : Nat) (n t R : Int) (w : World) (F : Nat → Prop) (s : SgS M.σ) (nx : Hd) (lv : Value) : Prop where
  blk : StG w B 1 [.iface M.ty M.rv] (sgPost nx s.hold.isSome lv) 171 n t R s.lev s.lat
  inner : M.At w F s.q
  out : ¬ F B
  eq : ∀ x, s.hold = some x → nx = x
  lost : Hs w lv s.lost
  own : ∀ k, lv.ownBlock = some k → ¬ F k ∧ k ≠ B
/-- Its memory. -/
def sgF (B : Nat) (F : Nat → Prop) (lv : Value) (k : Nat) : Prop := k = B ∨ F k ∨ lv.ownBlock = some k
theorem SgAt.kept {M : QM} {B : Nat} {n t R : Int} {w w' : World} {F : Nat → Prop} {s : SgS M.σ} {nx : Hd} {lv : Value} (hM : M.Fine) (h : SgAt M B n t R w F s nx lv) (hk : ∀ k, sgF B F lv k → w'.heap[k]? = w.heap[k]?) : SgAt M B n t R w' F s nx lv :=
  ⟨h.blk.same (hk B (Or.inl rfl)), hM.kept h.inner (fun k hf => hk k (Or.inr (Or.inl hf))), h.out, h.eq, Seg.kept h.lost (fun k e => hk k (Or.inr (Or.inr e))), h.own⟩
theorem SgAt.low {M : QM} {B : Nat} {n t R : Int} {w : World} {F : Nat → Prop} {s : SgS M.σ} {nx : Hd} {lv : Value} (hM : M.Fine) (h : SgAt M B n t R w F s nx lv) : ∀ k, sgF B F lv k → k < w.heap.size := by
  rintro k (rfl | hk | hk)
  · exact h.blk.lt
  · exact hM.low h.inner k hk
  · exact Seg.lt h.lost hk
theorem SgAt.below {M : QM} {B : Nat} {n t R : Int} {w w' : World} {F : Nat → Prop} {s : SgS M.σ} {nx : Hd} {lv : Value} (hM : M.Fine) (h : SgAt M B n t R w F s nx lv) (hb : Below w.heap.size w w') : SgAt M B n t R w' F s nx lv := h.kept hM (fun k hk => hb.block k (h.low hM k hk))
theorem SgAt.ot {M : QM} {B : Nat} {n t R : Int} {w w' : World} {F S : Nat → Prop} {s : SgS M.σ} {nx : Hd} {lv : Value} (hM : M.Fine) (h : SgAt M B n t R w F s nx lv) (ho : Ot S w w') (hS : ∀ k, sgF B F lv k → ¬ S k) : SgAt M B n t R w' F s nx lv := h.kept hM (fun k hk => ho.block k (h.low hM k hk) (hS k hk))
theorem sg_cells {w : World} {B : Nat} {n t R lev lat : Int} {i lv : Value} {nx : Hd} {ok : Bool} (hb : StG w B 1 [i] (sgPost nx ok lv) 171 n t R lev lat) : w.cell? ⟨B, 0, none⟩ = some i ∧ w.cell? ⟨B, 3, none⟩ = some (.int .i64 R) ∧ (w.cell? ⟨B, 6, none⟩ = some (.int .i64 nx.a) ∧ w.cell? ⟨B, 7, none⟩ = some (.int .i64 nx.l) ∧ w.cell? ⟨B, 8, none⟩ = some (.int .i64 nx.f) ∧ w.cell? ⟨B, 9, none⟩ = some (.int .i64 nx.b) ∧ w.cell? ⟨B, 10, none⟩ = some (.int .i64 nx.m) ∧ w.cell? ⟨B, 11, none⟩ = some (.int .i64 nx.n)) ∧ w.cell? ⟨B, 12, none⟩ = some (.bool ok) ∧ w.cell? ⟨B, 13, none⟩ = some lv ∧
    (w.frozen? ⟨B, 6, none⟩ = false ∧ w.frozen? ⟨B, 7, none⟩ = false ∧ w.frozen? ⟨B, 8, none⟩ = false ∧ w.frozen? ⟨B, 9, none⟩ = false ∧ w.frozen? ⟨B, 10, none⟩ = false ∧ w.frozen? ⟨B, 11, none⟩ = false) ∧ w.frozen? ⟨B, 12, none⟩ = false ∧ w.frozen? ⟨B, 13, none⟩ = false := by
  have hb := hb.2
  refine ⟨?_, ?_, ⟨?_, ?_, ?_, ?_, ?_, ?_⟩, ?_, ?_, ⟨?_, ?_, ?_, ?_, ?_, ?_⟩, ?_, ?_⟩
  all_goals simp [World.cell?, World.frozen?, hb, sgPost]
/-- What it holds when it is asked. -/
def lookG {M : QM} (s : SgS M.σ) (now : Int) : SgS M.σ := match s.hold with
  | some _ => s
  | none => { s with q := (M.take s.q now).1, hold := if (M.take s.q now).2.2.2 = true then some (M.take s.q now).2.2.1 else none, lost := s.lost ++ (M.take s.q now).2.1 }
theorem gwithin_any {M : QM} {B : Nat} {n t R : Int} {F : Nat → Prop} {s : SgS M.σ} {nx : Hd} {lv : Value} (w : World) (h : SgAt M B n t R w F s nx lv) :
    Calls Tryz.prog 190 #[.pointer (some ⟨B, 0, none⟩)] w fun e w' => e = .returned (.iface M.ty M.rv) ∧ w' = w := by
  obtain ⟨c0, _⟩ := sg_cells h.blk
  clear h
  go_enter Tryz.func190, Tryz.ntmps190
  go_wp2
  go_ret
  exact ⟨rfl, rfl⟩
/-- What it holds is written. -/
theorem sg_next {w1 : World} {B : Nat} {n t R lev lat : Int} {i lv : Value} {nx : Hd} {h : Bool} (hb : StG w1 B 1 [i] (sgPost nx h lv) 171 n t R lev lat) (x1 : Hd) (ok1 : Bool) :
    StG ((((((((w1.setCell ⟨B, 6, none⟩ (.int .i64 x1.a)).setCell ⟨B, 7, none⟩ (.int .i64 x1.l)).setCell ⟨B, 8, none⟩ (.int .i64 x1.f)).setCell ⟨B, 9, none⟩ (.int .i64 x1.b)).setCell ⟨B, 10, none⟩ (.int .i64 x1.m)).setCell ⟨B, 11, none⟩ (.int .i64 x1.n)).setCell ⟨B, 12, none⟩ (.bool ok1))) B 1 [i] (sgPost x1 ok1 lv) 171 n t R lev lat := by
  have h6 := heap_setCell_here hb.2 (o := 6) (.int .i64 x1.a)
  have h7 := heap_setCell_here h6 (o := 7) (.int .i64 x1.l)
  have h8 := heap_setCell_here h7 (o := 8) (.int .i64 x1.f)
  have h9 := heap_setCell_here h8 (o := 9) (.int .i64 x1.b)
  have h10 := heap_setCell_here h9 (o := 10) (.int .i64 x1.m)
  have h11 := heap_setCell_here h10 (o := 11) (.int .i64 x1.n)
  have h12 := heap_setCell_here h11 (o := 12) (.bool ok1)
  refine ⟨rfl, h12.trans ?_⟩
  simp [sgPost]
theorem sg_ot {w1 : World} {B : Nat} (x1 : Hd) (ok1 : Bool) : Ot (· = B) w1 (((((((w1.setCell ⟨B, 6, none⟩ (.int .i64 x1.a)).setCell ⟨B, 7, none⟩ (.int .i64 x1.l)).setCell ⟨B, 8, none⟩ (.int .i64 x1.f)).setCell ⟨B, 9, none⟩ (.int .i64 x1.b)).setCell ⟨B, 10, none⟩ (.int .i64 x1.m)).setCell ⟨B, 11, none⟩ (.int .i64 x1.n)).setCell ⟨B, 12, none⟩ (.bool ok1)) := by
  repeat' (first | with_reducible exact Ot.refl _ _ | with_reducible refine Ot.setCell ?_ (by simp) _)
theorem sg_lost {w : World} {B : Nat} {n t R lev lat : Int} {i lv : Value} {nx : Hd} {h : Bool} (hb : StG w B 1 [i] (sgPost nx h lv) 171 n t R lev lat) (lv' : Value) : StG (w.setCell ⟨B, 13, none⟩ lv') B 1 [i] (sgPost nx h lv') 171 n t R lev lat := by
  refine ⟨rfl, (heap_setCell_here hb.2 (o := 13) lv').trans ?_⟩
  simp [sgPost]
theorem sg_holds {w : World} {B : Nat} {n t R lev lat : Int} {i lv : Value} {nx : Hd} {h : Bool} (hb : StG w B 1 [i] (sgPost nx h lv) 171 n t R lev lat) (h' : Bool) : StG (w.setCell ⟨B, 12, none⟩ (.bool h')) B 1 [i] (sgPost nx h' lv) 171 n t R lev lat := by
  refine ⟨rfl, (heap_setCell_here hb.2 (o := 12) (.bool h')).trans ?_⟩
  simp [sgPost]
/-- What look, and others, leave. -/
structure LookG (M : QM) (B : Nat) (n t R : Int) (G : Nat → Prop) (w : World) (s' : SgS M.σ) (w' : World) : Prop where
  ex : ∃ F' nx lv, SgAt M B n t R w' F' s' nx lv ∧ ∀ k, sgF B F' lv k → G k ∨ w.heap.size ≤ k
  ot : Ot G w w'
theorem LookG.after {M : QM} {B : Nat} {n t R : Int} {G : Nat → Prop} {w W w' : World} {s : SgS M.σ} (h : LookG M B n t R G W s w') (hb : Below w.heap.size w W) : LookG M B n t R G w s w' := by
  obtain ⟨F', nx, lv, h1, h2⟩ := h.ex
  refine ⟨⟨F', nx, lv, h1, fun k hk => ?_⟩, (Ot.of_below hb).trans h.ot⟩
  rcases h2 k hk with h | h
  · exact Or.inl h
  · right; have := hb.size; omega
theorem LookG.then {M : QM} {B : Nat} {n t R : Int} {G : Nat → Prop} {w w' w'' : World} {s : SgS M.σ} (hM : M.Fine) (h : LookG M B n t R G w s w') (hb : Below w'.heap.size w' w'') : LookG M B n t R G w s w'' := by
  obtain ⟨F', nx, lv, h1, h2⟩ := h.ex
  exact ⟨⟨F', nx, lv, h1.below hM hb, h2⟩, h.ot.then_below (hb.mono h.ot.size)⟩
/-- The end of look. -/
theorem sg_fin {M : QM} {B : Nat} {n t R : Int} (hM : M.Fine) {w w1 W w4 : World} {F F' : Nat → Prop} {s : SgS M.σ} {nx : Hd} {lv lv' : Value} {q1 : M.σ} {x1 : Hd} {ok1 : Bool} {l1 : List Hd} (h : SgAt M B n t R w F s nx lv) (ho : Ot F w w1) (hat : M.At w1 F' q1) (hf : ∀ k, F' k → F k ∨ w.heap.size ≤ k) (hW : Ot (· = B) w1 W) (hst : StG W B 1 [.iface M.ty M.rv] (sgPost x1 ok1 lv) 171 n t R s.lev s.lat) (hg : W.grownBy w4 lv.ownBlock) (hs : Hs w4 lv' (s.lost ++ l1)) (hn : ∀ k, lv'.ownBlock = some k → lv.ownBlock = some k ∨ W.heap.size ≤ k) :
    LookG M B n t R (sgF B F lv) w { s with q := q1, hold := if ok1 = true then some x1 else none, lost := s.lost ++ l1 } (w4.setCell ⟨B, 13, none⟩ lv') := by
  have hB := h.blk.lt
  have hs1 := ho.size
  have hs2 := hW.size
  have hl := fun k (e : lv.ownBlock = some k) => Seg.lt h.lost e
  have hlow := hM.low hat
  have hFl : ∀ k, F' k → lv.ownBlock = some k → False := fun k hk e => by
    rcases hf k hk with h' | h'
    · exact (h.own k e).1 h'
    · have := hl k e; omega
  have hFB : ¬ F' B := fun hb => by
    rcases hf B hb with h' | h'
    · exact h.out h'
    · omega
  have hvB : ∀ k, lv'.ownBlock = some k → ¬ F' k ∧ k ≠ B := fun k e => by
    rcases hn k e with h' | h'
    · exact ⟨fun hk => hFl k hk h', (h.own k h').2⟩
    · exact ⟨fun hk => by have := hlow k hk; omega, by omega⟩
  have hst4 : StG w4 B 1 [.iface M.ty M.rv] (sgPost x1 ok1 lv) 171 n t R s.lev s.lat := hst.same (hg.block B (by omega) (fun e => (h.own B e.symm).2 rfl))
  have hO4 : Ot (fun k => k = B ∨ lv.ownBlock = some k) w1 w4 := (hW.mono (fun k _ e => Or.inl e)).grown hg (fun k e => Or.inl (Or.inr e))
  have hO5 : Ot (fun k => k = B ∨ lv.ownBlock = some k) w1 (w4.setCell ⟨B, 13, none⟩ lv') := hO4.setCell (Or.inl (Or.inl rfl)) _
  refine ⟨⟨F', x1, lv', ⟨?_, ?_, hFB, ?_, ?_, hvB⟩, ?_⟩, ?_⟩
  · have := sg_lost hst4 lv'
    cases ok1 <;> exact this
  · exact hM.kept hat (fun k hk => hO5.block k (hlow k hk) (fun e => by
      rcases e with rfl | e
      · exact hFB hk
      · exact hFl k hk e))
  · intro x hx
    cases ok1 <;> simp at hx
    exact hx
  · exact Seg.setCell hs (fun e => (hvB _ e).2 rfl) _
  · intro k hk
    rcases hk with rfl | hk | hk
    · exact Or.inl (Or.inl rfl)
    · rcases hf k hk with h' | h'
      · exact Or.inl (Or.inr (Or.inl h'))
      · exact Or.inr h'
    · rcases hn k hk with h' | h'
      · exact Or.inl (Or.inr (Or.inr h'))
      · right; omega
  · exact (ho.mono (fun _ _ h' => Or.inr (Or.inl h'))).trans' hO5 (fun k e _ => by
      rcases e with e | e
      · exact Or.inl e
      · exact Or.inr (Or.inr e))
theorem glook_hold {M : QM} {B : Nat} {n t R : Int} {F : Nat → Prop} {s : SgS M.σ} {nx : Hd} {lv : Value} (now : Int) (w : World) (h : SgAt M B n t R w F s nx lv) (x : Hd) (hh : s.hold = some x) :
    Calls Tryz.prog 191 #[.pointer (some ⟨B, 0, none⟩), .int .i64 now] w fun e w' => e = .returned (.tuple #[]) ∧ w' = w := by
  obtain ⟨_, _, _, c12, _⟩ := sg_cells h.blk
  rw [hh] at c12
  simp only [Option.isSome] at c12
  clear h hh
  go_enter Tryz.func191, Tryz.ntmps191
  go_wp2
  (try simp only [Exit.inBlock, Exit.then])
  refine bodyPost_ret (results_none rfl _ _ _) rfl ?_
  exact ⟨rfl, rfl⟩
set_option maxHeartbeats 2000000 in
theorem glook_any {M : QM} {B : Nat} {n t R : Int} {F : Nat → Prop} {s : SgS M.σ} {nx : Hd} {lv : Value} {tt : Int} {nn : Nat} (now : Int) (hM : M.Fine) (w : World) (h : SgAt M B n t R w F s nx lv) (hI : M.inv tt nn s.q) (hl : s.lost.length ≤ 1001) (h0 : 0 ≤ tt) (h1 : tt ≤ now) (h2 : now ≤ 20000000) (hn : nn ≤ 1000) :
    Calls Tryz.prog 191 #[.pointer (some ⟨B, 0, none⟩), .int .i64 now] w fun e w' => e = .returned (.tuple #[]) ∧ LookG M B n t R (sgF B F lv) w (lookG s now) w' := by
  cases hh : s.hold with
  | some x =>
    refine (glook_hold now w h x hh).mono ?_
    rintro e w' ⟨rfl, rfl⟩
    have e1 : lookG s now = s := by unfold lookG; rw [hh]
    rw [e1]
    exact ⟨rfl, ⟨F, nx, lv, h, fun k hk => Or.inl hk⟩, Ot.refl _ _⟩
  | none =>
    have hmT := hM.mT
    have heT := hM.eT
    have HCT := hM.cT now h.inner hI h0 h1 h2 hn
    have hfew := (hM.iT now hI h0 h1 h2 hn).2
    have HL : Hid (lookG s now = { s with q := (M.take s.q now).1, hold := if (M.take s.q now).2.2.2 = true then some (M.take s.q now).2.2.1 else none, lost := s.lost ++ (M.take s.q now).2.1 }) := by
      show _ = _
      unfold lookG
      rw [hh]
    obtain ⟨⟨q1, l1, x1, ok1⟩, hTk⟩ : ∃ T, M.take s.q now = T := ⟨_, rfl⟩
    rw [hTk] at HCT hfew HL
    clear hTk
    obtain ⟨_, _, _, c12, _⟩ := sg_cells h.blk
    rw [hh] at c12
    simp only [Option.isSome] at c12
    have H : Hid (SgAt M B n t R w F s nx lv) := h
    have HM : Hid M.Fine := hM
    have HW := gwithin_any w h
    have hV := Hd.val_eq
    obtain ⟨i0, hi, hz0, hz1, hz2⟩ := info_parts infoHeld
    obtain ⟨na, hna⟩ : ∃ na, s.lost.length = na := ⟨_, rfl⟩
    have HNA : Hid (s.lost.length = na) := hna
    have hna1 : na ≤ 1001 := by omega
    obtain ⟨ux, ucap, hlv, huc⟩ := h.lost.shape'
    rw [hna] at hlv huc
    have HLV : Hid (lv = .slice ux na ucap) := hlv
    clear h hM hI hna hl hlv
    go_enter Tryz.func191, Tryz.ntmps191
    go_wp2_with fail
    refine HW.mono ?_
    rintro e w0 ⟨rfl, rfl⟩
    go_wp2_with fail
    refine HCT.mono ?_
    rintro e w1 ⟨u, F', rfl, hu, hat, hf, hk, ho⟩
    have HST : Hid (StG w1 B 1 [.iface M.ty M.rv] (sgPost nx s.hold.isSome lv) 171 n t R s.lev s.lat) := H.out.blk.same (ho.block B H.out.blk.lt H.out.out)
    have HAT : Hid (M.At w1 F' q1) := hat
    have HF : Hid (∀ k, F' k → F k ∨ w0.heap.size ≤ k) := hf
    have HO : Hid (Ot F w0 w1) := ho
    have HU : Hid (Hs w1 u l1) := hu
    have HKU : Hid (∀ k, u.ownBlock = some k → F k ∨ w0.heap.size ≤ k) := hk
    have HUB : Hid (∀ k, u.ownBlock = some k → k ≠ B) := fun k e => by
      rcases hk k e with h' | h'
      · intro e'; exact H.out.out (e' ▸ h')
      · have := H.out.blk.lt; omega
    have HLS : Hid (Hs w1 lv s.lost) := Seg.oth H.out.lost ho (fun k e => (H.out.own k e).1)
    have hbl : B < w1.heap.size := HST.out.lt
    obtain ⟨c0, c3, ⟨d6, d7, d8, d9, d10, d11⟩, c12', c13, ⟨f6, f7, f8, f9, f10, f11⟩, f12, f13⟩ := sg_cells HST.out
    rw [HLV.out] at c13
    clear hu hat hf hk ho c12 HW HCT
    cases l1 with
    | nil =>
      obtain ⟨xa, xc, hu1, _⟩ := HU.out.shape'
      subst hu1
      go_wp2_with (at_builtin; refine wpList_append_empty _ rfl (.tmp 31) (.tmp 32) 74 rfl 76 i0 Tryz.underlying74 hi ux na ucap rfl huc xa xc rfl ?_)
      go_end0
      have HE := (sg_fin HM.out H.out HO.out HAT.out HF.out (sg_ot x1 ok1) (sg_next HST.out x1 ok1) (grownBy_same _ _) (l1 := []) (lv' := lv) (by rw [List.append_nil]; exact Seg.oth HLS.out (sg_ot x1 ok1) (fun k e => (H.out.own k e).2)) (fun k e => Or.inl e)).then HM.out (below_alloc_ (Below.refl _ _) (.cells #[.int .i64 x1.a, .int .i64 x1.l, .int .i64 x1.f, .int .i64 x1.b, .int .i64 x1.m, .int .i64 x1.n] 76))
      rw [HL.out]
      refine ⟨rfl, ?_⟩
      rw [HLV.out] at HE ⊢
      exact HE
    | cons y l3 =>
      obtain ⟨bl, ol, cl, hu2, _, _, hbl2, hcl⟩ := HU.out.some (by simp)
      subst hu2
      obtain ⟨ml, hml⟩ : ∃ ml, (y :: l3).length = ml := ⟨_, rfl⟩
      have HML : Hid ((y :: l3).length = ml) := hml
      have HCL : Hid (∀ j u, (flt Hd.cs (y :: l3))[j]? = some u → w1.cell? ⟨bl, ol + j, none⟩ = some u) := hcl
      have hml0 : 0 < ml ∧ ml ≤ 1000000 := by rw [← hml]; exact ⟨by simp, hfew⟩
      have HSG : Hid (Seg ((((((((w1.setCell ⟨B, 6, none⟩ (.int .i64 x1.a)).setCell ⟨B, 7, none⟩ (.int .i64 x1.l)).setCell ⟨B, 8, none⟩ (.int .i64 x1.f)).setCell ⟨B, 9, none⟩ (.int .i64 x1.b)).setCell ⟨B, 10, none⟩ (.int .i64 x1.m)).setCell ⟨B, 11, none⟩ (.int .i64 x1.n)).setCell ⟨B, 12, none⟩ (.bool ok1))) 76 6 (.slice ux na ucap) na (flt Hd.cs s.lost)) := by
        have := Seg.oth HLS.out (sg_ot x1 ok1) (fun k e => (H.out.own k e).2)
        rw [HNA.out, HLV.out] at this
        exact this
      have hbB : bl ≠ B := HUB.out bl rfl
      have HBX : Hid (bl ≠ B) := hbB
      rw [hml]
      clear hml hcl hfew hbB
      go_wp2_with (at_builtin; refine wpList_append_seg _ rfl (.tmp 31) (.tmp 32) 74 rfl 76 i0 _ 6 48 Tryz.underlying74 hi hz0 hz1 hz2 rfl (by decide) (.slice ux na ucap) na (flt Hd.cs s.lost) rfl (Seg.alloc HSG.out _) ⟨bl, ol, none⟩ ml cl (flt Hd.cs (y :: l3)) rfl (by rw [flt_length Hd.cs 6 Hd.len, HML.out]) (fun j u hj => by rw [Addr.add_lit]; exact (((sg_ot x1 ok1).alloc _).cell (p := ⟨bl, ol + j, none⟩) hbl2 HBX.out).trans (HCL.out j u hj)) (flt_ones' Hd.cs Hd.one _) (by omega) (by unfold maxLen; omega) (by omega) _ rfl ?_; intro g goff gcap w4 hs4 hg4 ha4 hl4; obtain ⟨k0, k3, ⟨e6, e7, e8, e9, e10, e11⟩, k12, k13, ⟨g6, g7, g8, g9, g10, g11⟩, g12, g13⟩ := sg_cells (StG.same ((sg_next HST.out x1 ok1).alloc (.cells #[.int .i64 x1.a, .int .i64 x1.l, .int .i64 x1.f, .int .i64 x1.b, .int .i64 x1.m, .int .i64 x1.n] 76)) (hg4.block B (by simp; omega) (fun e => (H.out.own B (by rw [HLV.out]; exact e.symm)).2 rfl))))
      go_end0
      have hgr : World.grownBy (((((((((w1.setCell ⟨B, 6, none⟩ (.int .i64 x1.a)).setCell ⟨B, 7, none⟩ (.int .i64 x1.l)).setCell ⟨B, 8, none⟩ (.int .i64 x1.f)).setCell ⟨B, 9, none⟩ (.int .i64 x1.b)).setCell ⟨B, 10, none⟩ (.int .i64 x1.m)).setCell ⟨B, 11, none⟩ (.int .i64 x1.n)).setCell ⟨B, 12, none⟩ (.bool ok1))).alloc (.cells #[.int .i64 x1.a, .int .i64 x1.l, .int .i64 x1.f, .int .i64 x1.b, .int .i64 x1.m, .int .i64 x1.n] 76)) w4 lv.ownBlock := by rw [HLV.out]; exact hg4
      have HE := sg_fin HM.out H.out HO.out HAT.out HF.out ((sg_ot x1 ok1).alloc _) ((sg_next HST.out x1 ok1).alloc (.cells #[.int .i64 x1.a, .int .i64 x1.l, .int .i64 x1.f, .int .i64 x1.b, .int .i64 x1.m, .int .i64 x1.n] 76)) hgr (l1 := y :: l3) (lv' := .slice (some ⟨g, goff, none⟩) (na + ml) gcap) (Hs.app hs4 (by rw [List.length_append, HNA.out, HML.out])) (fun k e => by simp only [Value.ownBlock, Option.some.injEq] at e; subst e; rcases ha4 with h | h; exact Or.inl (by rw [HLV.out]; exact h); exact Or.inr h)
      rw [HL.out]
      exact ⟨rfl, HE⟩
end Go.Proofs.YtfakjedolecdcaaGreatDoor
namespace Go.Proofs.YtfakjedolecdcaaGreatDoor
open Go.RowKit Go.Extern.Stop Go.Stop Go.Extern

/-- What the queue within is. -/
structure QM.Inn (M : QM) (cont : M.σ → List (Int × Int)) (k : Nat) : Prop where
  fine : M.Fine
  late : M.Late False cont
  tame : M.Tame k
  few : k ≤ 20
theorem nodup_few : ∀ (n : Nat) (l : List Int), l.Nodup → (∀ x ∈ l, 0 ≤ x ∧ x < n) → l.length ≤ n := by
  intro n
  induction n with
  | zero =>
    intro l _ h
    cases l with
    | nil => exact Nat.le_refl _
    | cons x r => have := h x (by simp); omega
  | succ n ih =>
    intro l hd h
    by_cases hm : (n : Int) ∈ l
    · have h1 := ih (l.erase (n : Int)) (hd.erase _) (fun x hx => by
        have h2 := (List.Nodup.mem_erase_iff hd).1 hx
        have h3 := h x h2.2
        have h4 := h2.1
        omega)
      rw [List.length_erase_of_mem hm] at h1
      omega
    · have h1 := ih l hd (fun x hx => by
        have h3 := h x hx
        have h4 : x ≠ (n : Int) := fun e => hm (e ▸ hx)
        omega)
      omega
/-- What is held in it: what is lost and not told, what it holds, what its queue holds. -/
def conG {M : QM} (cont : M.σ → List (Int × Int)) (s : SgS M.σ) : List (Int × Int) := s.lost.map nl ++ (s.hold.toList.map nl ++ cont s.q)
/-- What is so of its state. -/
structure SgI (M : QM) (cont : M.σ → List (Int × Int)) (t R : Int) (tt : Int) (nn : Nat) (s : SgS M.σ) : Prop where
  q : M.inv tt nn s.q
  l0 : 0 ≤ s.lev
  l1 : s.lev ≤ R * t
  t0 : 0 ≤ s.lat
  t1 : s.lat ≤ tt
  nd : ((conG cont s).map Prod.fst).Nodup
  rng : ∀ x ∈ conG cont s, 0 ≤ x.1 ∧ x.1 < nn ∧ 1 ≤ x.2 ∧ x.2 ≤ 10000
theorem SgI.few {M : QM} {cont : M.σ → List (Int × Int)} {t R tt : Int} {nn : Nat} {s : SgS M.σ} (h : SgI M cont t R tt nn s) : (conG cont s).length ≤ nn := by
  have := nodup_few nn ((conG cont s).map Prod.fst) h.nd (fun x hx => by
    obtain ⟨y, hy, rfl⟩ := List.mem_map.1 hx
    have := h.rng y hy
    omega)
  simpa using this
theorem SgI.few_lost {M : QM} {cont : M.σ → List (Int × Int)} {t R tt : Int} {nn : Nat} {s : SgS M.σ} (h : SgI M cont t R tt nn s) : s.lost.length ≤ nn := by
  have := h.few
  simp only [conG, List.length_append, List.length_map] at this
  omega
theorem SgI.held {M : QM} {cont : M.σ → List (Int × Int)} {t R tt : Int} {nn : Nat} {s : SgS M.σ} (h : SgI M cont t R tt nn s) {x : Hd} (hx : s.hold = some x) : 1 ≤ x.l ∧ x.l ≤ 10000 := by
  have := h.rng (nl x) (by simp [conG, hx])
  exact ⟨this.2.2.1, this.2.2.2⟩
theorem sg_sub {A C C' : List (Int × Int)} {nn nn' : Nat} (hn : nn ≤ nn') (hp : C.Perm (A ++ C')) (nd : (C.map Prod.fst).Nodup) (rng : ∀ x ∈ C, 0 ≤ x.1 ∧ x.1 < (nn : Int) ∧ 1 ≤ x.2 ∧ x.2 ≤ 10000) : (C'.map Prod.fst).Nodup ∧ ∀ x ∈ C', 0 ≤ x.1 ∧ x.1 < (nn' : Int) ∧ 1 ≤ x.2 ∧ x.2 ≤ 10000 := by
  have h := (hp.map Prod.fst).nodup_iff.1 nd
  rw [List.map_append, List.nodup_append] at h
  exact ⟨h.2.1, fun x hx => by have := rng x (hp.mem_iff.2 (by simp [hx])); omega⟩
theorem lookG_same {M : QM} (s : SgS M.σ) (now : Int) : (lookG s now).lev = s.lev ∧ (lookG s now).lat = s.lat := by
  unfold lookG
  split <;> exact ⟨rfl, rfl⟩
theorem lookG_con {M : QM} {cont : M.σ → List (Int × Int)} {k : Nat} (hM : M.Inn cont k) {tt : Int} {nn : Nat} {s : SgS M.σ} (now : Int) (h : M.inv tt nn s.q) (h0 : 0 ≤ tt) (h1 : tt ≤ now) (h2 : now ≤ 20000000) (hn : nn ≤ 1000) : (conG cont s).Perm (conG cont (lookG s now)) := by
  have hk := hM.late.take now h h0 h1 h2 hn
  unfold lookG
  split
  · exact List.Perm.refl _
  · rename_i hh
    unfold conG
    rw [hh]
    simp only [Option.toList_none, List.map_nil, List.nil_append, List.map_append, List.append_assoc]
    refine List.Perm.append_left _ (hk.trans (List.Perm.append_left _ (List.Perm.append_right _ ?_)))
    split <;> exact List.Perm.refl _
theorem lookG_inv {M : QM} {cont : M.σ → List (Int × Int)} {k : Nat} (hM : M.Inn cont k) {t R tt : Int} {nn : Nat} {s : SgS M.σ} (now : Int) (h : SgI M cont t R tt nn s) (h0 : 0 ≤ tt) (h1 : tt ≤ now) (h2 : now ≤ 20000000) (hn : nn ≤ 1000) : SgI M cont t R now nn (lookG s now) := by
  obtain ⟨e1, e2⟩ := lookG_same s now
  have hc := sg_sub (A := []) (Nat.le_refl nn) (lookG_con hM now h.q h0 h1 h2 hn) h.nd h.rng
  refine ⟨?_, by rw [e1]; exact h.l0, by rw [e1]; exact h.l1, by rw [e2]; exact h.t0, by rw [e2]; exact Int.le_trans h.t1 h1, hc.1, hc.2⟩
  cases hh : s.hold with
  | none =>
    have e : (lookG s now).q = (M.take s.q now).1 := by unfold lookG; rw [hh]
    rw [e]
    exact (hM.fine.iT now h.q h0 h1 h2 hn).1
  | some x =>
    have e : lookG s now = s := by unfold lookG; rw [hh]
    rw [e]
    exact hM.tame.mono h.q h1 (Nat.le_refl _)
def putG {M : QM} (R : Int) (s : SgS M.σ) (now : Int) (x : Hd) : SgS M.σ × List Hd := if R < x.l then (s, [x]) else ({ s with q := (M.put s.q now x).1 }, (M.put s.q now x).2)
def takeG {M : QM} (n t R : Int) (s : SgS M.σ) (now : Int) : SgS M.σ × List Hd × Hd × Bool := match (lookG s now).hold with
  | none => ({ lookG s now with lost := [] }, (lookG s now).lost, hd0, false)
  | some x => if drwB t (pas n t R s.lev s.lat now) x.l = true then ({ lookG s now with lev := drw t (pas n t R s.lev s.lat now) x.l, lat := lat1 s.lat now, hold := none, lost := [] }, (lookG s now).lost, x, true) else ({ lookG s now with lev := drw t (pas n t R s.lev s.lat now) x.l, lat := lat1 s.lat now, lost := [] }, (lookG s now).lost, hd0, false)
def whenG {M : QM} (n t R : Int) (s : SgS M.σ) (now : Int) : SgS M.σ × Int × Bool := match (lookG s now).hold with
  | none => ({ lookG s now with q := (M.when (lookG s now).q now).1 }, (M.when (lookG s now).q now).2.1, (M.when (lookG s now).q now).2.2)
  | some x => if x.l ≤ R then ({ lookG s now with lev := pas n t R s.lev s.lat now, lat := lat1 s.lat now }, whn n t (pas n t R s.lev s.lat now) (lat1 s.lat now) x.l, true) else ({ lookG s now with lev := pas n t R s.lev s.lat now, lat := lat1 s.lat now }, 0, false)
def lenG {M : QM} (s : SgS M.σ) : Int := match s.hold with
  | none => M.len s.q
  | some _ => M.len s.q + 1
def bytesG {M : QM} (s : SgS M.σ) : Int := match s.hold with
  | none => M.bytes s.q
  | some x => M.bytes s.q + x.l
theorem putG_con {M : QM} {cont : M.σ → List (Int × Int)} {k : Nat} (hM : M.Inn cont k) {tt : Int} {nn : Nat} {s : SgS M.σ} (R now : Int) (x : Hd) (h : M.inv tt nn s.q) (h0 : 0 ≤ tt) (h1 : tt ≤ now) (h2 : now ≤ 20000000) (hok : x.ok = true) (hxa : x.a = now) (hxn : x.n = nn) (hn : nn ≤ 1000) : (conG cont s ++ [nl x]).Perm ((putG R s now x).2.map nl ++ conG cont (putG R s now x).1) := by
  unfold putG
  split
  · exact List.perm_append_comm
  · have hp := hM.late.put now x h h0 h1 h2 hok hxa hxn hn
    unfold conG
    simp only [List.append_assoc]
    have a1 : (s.lost.map nl ++ (s.hold.toList.map nl ++ (cont s.q ++ [nl x]))).Perm (s.lost.map nl ++ (s.hold.toList.map nl ++ ((M.put s.q now x).2.map nl ++ cont (M.put s.q now x).1))) := List.Perm.append_left _ (List.Perm.append_left _ hp)
    exact a1.trans ((List.Perm.append_left _ (List.perm_append_comm_assoc _ _ _)).trans (List.perm_append_comm_assoc _ _ _))
theorem takeG_con {M : QM} {cont : M.σ → List (Int × Int)} {k : Nat} (hM : M.Inn cont k) {tt : Int} {nn : Nat} {s : SgS M.σ} (n t R now : Int) (h : M.inv tt nn s.q) (h0 : 0 ≤ tt) (h1 : tt ≤ now) (h2 : now ≤ 20000000) (hn : nn ≤ 1000) : (conG cont s).Perm ((takeG n t R s now).2.1.map nl ++ ((if (takeG n t R s now).2.2.2 then [nl (takeG n t R s now).2.2.1] else []) ++ conG cont (takeG n t R s now).1)) := by
  refine (lookG_con hM now h h0 h1 h2 hn).trans ?_
  unfold takeG
  split
  · rename_i hh
    simp only [conG, hh]
    simp
  · rename_i x hx
    split
    · simp only [conG, hx]
      simp
    · simp only [conG, hx]
      simp
theorem whenG_con {M : QM} {cont : M.σ → List (Int × Int)} {k : Nat} (hM : M.Inn cont k) {t R tt : Int} {nn : Nat} {s : SgS M.σ} (n now : Int) (h : SgI M cont t R tt nn s) (h0 : 0 ≤ tt) (h1 : tt ≤ now) (h2 : now ≤ 20000000) (hn : nn ≤ 1000) : (conG cont s).Perm (conG cont (whenG n t R s now).1) := by
  refine (lookG_con hM now h.q h0 h1 h2 hn).trans ?_
  have hi := lookG_inv hM now h h0 h1 h2 hn
  unfold whenG
  split
  · unfold conG
    exact List.Perm.append_left _ (List.Perm.append_left _ (hM.late.when now hi.q (by omega) (Int.le_refl _) h2 hn))
  · split <;> exact List.Perm.refl _
theorem putG_inv {M : QM} {cont : M.σ → List (Int × Int)} {k : Nat} (hM : M.Inn cont k) {t R tt : Int} {nn : Nat} {s : SgS M.σ} (now : Int) (x : Hd) (h : SgI M cont t R tt nn s) (h0 : 0 ≤ tt) (h1 : tt ≤ now) (h2 : now ≤ 20000000) (hok : x.ok = true) (hxa : x.a = now) (hxn : x.n = nn) (hn : nn ≤ 1000) : SgI M cont t R now (nn + 1) (putG R s now x).1 ∧ (putG R s now x).2.length ≤ 1000000 := by
  have hq := hM.fine.iP now x h.q h0 h1 h2 hok hxa hxn hn
  have hc := putG_con hM R now x h.q h0 h1 h2 hok hxa hxn hn
  have hl := ok_len hok
  have hnd : ((conG cont s ++ [nl x]).map Prod.fst).Nodup := by
    rw [List.map_append, List.nodup_append]
    refine ⟨h.nd, by simp, ?_⟩
    intro a ha b hb
    simp only [List.map_cons, List.map_nil, List.mem_singleton] at hb
    obtain ⟨y, hy, rfl⟩ := List.mem_map.1 ha
    have := (h.rng y hy).2.1
    subst hb
    show y.1 ≠ x.n
    omega
  have hrg : ∀ y ∈ conG cont s ++ [nl x], 0 ≤ y.1 ∧ y.1 < ((nn + 1 : Nat) : Int) ∧ 1 ≤ y.2 ∧ y.2 ≤ 10000 := by
    intro y hy
    rcases List.mem_append.1 hy with hy | hy
    · have := h.rng y hy; omega
    · simp only [List.mem_singleton] at hy
      subst hy
      show 0 ≤ x.n ∧ x.n < _ ∧ 1 ≤ x.l ∧ x.l ≤ 10000
      omega
  have hs := sg_sub (Nat.le_refl (nn + 1)) hc hnd hrg
  revert hs
  unfold putG
  split
  · intro hs
    exact ⟨⟨hM.tame.mono h.q h1 (Nat.le_succ _), h.l0, h.l1, h.t0, Int.le_trans h.t1 h1, hs.1, hs.2⟩, by simp⟩
  · intro hs
    exact ⟨⟨hq.1, h.l0, h.l1, h.t0, Int.le_trans h.t1 h1, hs.1, hs.2⟩, hq.2⟩
theorem takeG_inv {M : QM} {cont : M.σ → List (Int × Int)} {k : Nat} (hM : M.Inn cont k) {n t R tt : Int} (hb : okB n t R) {nn : Nat} {s : SgS M.σ} (now : Int) (h : SgI M cont t R tt nn s) (h0 : 0 ≤ tt) (h1 : tt ≤ now) (h2 : now ≤ 20000000) (hn : nn ≤ 1000) : SgI M cont t R now nn (takeG n t R s now).1 ∧ (takeG n t R s now).2.1.length ≤ 1000000 := by
  have hi := lookG_inv hM now h h0 h1 h2 hn
  have hc := takeG_con hM n t R now h.q h0 h1 h2 hn
  rw [← List.append_assoc] at hc
  have hs := sg_sub (Nat.le_refl nn) hc h.nd h.rng
  have hfl := hi.few_lost
  have hp := pas_room (n := n) (t := t) (R := R) (lat := s.lat) (now := now) hb.1.1 h.l0 h.l1
  have hla : 0 ≤ lat1 s.lat now ∧ lat1 s.lat now ≤ now := by have := h.t0; have := h.t1; unfold lat1; split <;> omega
  revert hs
  unfold takeG
  split
  · intro hs
    exact ⟨⟨hi.q, hi.l0, hi.l1, hi.t0, hi.t1, hs.1, hs.2⟩, by show (lookG s now).lost.length ≤ _; omega⟩
  · rename_i x hx
    have hxl := hi.held hx
    have hd := drw_room (t := t) (R := R) (x := x.l) hp.1 hp.2 (Int.mul_nonneg (by omega) (by have := hb.2.1; omega))
    split
    · intro hs
      exact ⟨⟨hi.q, hd.1, hd.2, hla.1, hla.2, hs.1, hs.2⟩, by show (lookG s now).lost.length ≤ _; omega⟩
    · intro hs
      exact ⟨⟨hi.q, hd.1, hd.2, hla.1, hla.2, hs.1, hs.2⟩, by show (lookG s now).lost.length ≤ _; omega⟩
theorem whenG_inv {M : QM} {cont : M.σ → List (Int × Int)} {k : Nat} (hM : M.Inn cont k) {n t R tt : Int} (hb : okB n t R) {nn : Nat} {s : SgS M.σ} (now : Int) (h : SgI M cont t R tt nn s) (h0 : 0 ≤ tt) (h1 : tt ≤ now) (h2 : now ≤ 20000000) (hn : nn ≤ 1000) : SgI M cont t R now nn (whenG n t R s now).1 := by
  have hi := lookG_inv hM now h h0 h1 h2 hn
  have hs := sg_sub (A := []) (Nat.le_refl nn) (whenG_con hM n now h h0 h1 h2 hn) h.nd h.rng
  have hp := pas_room (n := n) (t := t) (R := R) (lat := s.lat) (now := now) hb.1.1 h.l0 h.l1
  have hla : 0 ≤ lat1 s.lat now ∧ lat1 s.lat now ≤ now := by have := h.t0; have := h.t1; unfold lat1; split <;> omega
  revert hs
  unfold whenG
  split
  · intro hs
    exact ⟨hM.fine.iW now hi.q (by omega) (Int.le_refl _) h2 hn, hi.l0, hi.l1, hi.t0, hi.t1, hs.1, hs.2⟩
  · split
    · intro hs
      exact ⟨hi.q, hp.1, hp.2, hla.1, hla.2, hs.1, hs.2⟩
    · intro hs
      exact ⟨hi.q, hp.1, hp.2, hla.1, hla.2, hs.1, hs.2⟩
theorem lenG_le {M : QM} {cont : M.σ → List (Int × Int)} {k : Nat} (hM : M.Inn cont k) {t R tt : Int} {nn : Nat} {s : SgS M.σ} (h : SgI M cont t R tt nn s) : lenG s ≤ (conG cont s).length := by
  have := hM.late.len h.q
  unfold lenG conG
  split
  · rename_i hh; simp [hh]; omega
  · rename_i hh; simp [hh]; omega
theorem sumP_lost {M : QM} {cont : M.σ → List (Int × Int)} {t R tt : Int} {nn : Nat} {s : SgS M.σ} (h : SgI M cont t R tt nn s) : 0 ≤ sumP (s.lost.map nl) := by
  have hr : ∀ x ∈ s.lost.map nl, 1 ≤ x.2 := fun x hx => (h.rng x (by simp only [conG, List.mem_append]; exact Or.inl hx)).2.2.1
  generalize s.lost.map nl = l at hr
  induction l with
  | nil => exact Int.le_refl _
  | cons x r ih =>
    have h1 := hr x (by simp)
    have h2 := ih (fun y hy => hr y (by simp [hy]))
    simp only [sumP]
    omega
theorem bytesG_le {M : QM} {cont : M.σ → List (Int × Int)} {k : Nat} (hM : M.Inn cont k) {t R tt : Int} {nn : Nat} {s : SgS M.σ} (h : SgI M cont t R tt nn s) : bytesG s ≤ sumP (conG cont s) := by
  have h1 := hM.late.bytes h.q
  have h2 := sumP_lost h
  unfold bytesG conG
  simp only [sumP_append]
  split
  · rename_i hh; simp [hh, sumP]; omega
  · rename_i x hh
    simp only [hh, Option.toList_some, List.map_cons, List.map_nil, sumP]
    show M.bytes s.q + x.l ≤ _ + (x.l + 0 + _)
    omega
end Go.Proofs.YtfakjedolecdcaaGreatDoor
