/-
  package htb: what is written of a tree: who waits, when a class sent last, how many went; what a packet takes out of the buckets. Nothing of the program is claimed here by itself.
  A held packet in memory, loaded and written; a result that lies in a cell. No condition.
-/
import Derived.Test.YtpgdocmpbeabpaaDoorZt7
import Derived.Test.YtpgdocmpbeabpaaDoorQd
namespace Go.Proofs.YtpgdocmpbeabpaaDoor
open Go.RowKit Go.Extern.Stop Go.Stop Go.Extern

def updV (vs : Nat → Value) (i : Nat) (v : Value) : Nat → Value := fun j => if j = i then v else vs j
theorem updV_same (vs : Nat → Value) (i : Nat) (v : Value) : updV vs i v i = v := by simp [updV]
theorem updV_ne {vs : Nat → Value} {i j : Nat} {v : Value} (h : j ≠ i) : updV vs i v j = vs j := by simp [updV, h]
/-- A class's own cells are written: its list, when it sent last. -/
theorem HtAt.nodeSet {K : HtK} {w w' : World} {s : HtS} {vs : Nat → Value} {ow : Nat → Nat × Nat} (h : HtAt K w s vs ow) {i : Nat} (hi : i < K.N) {x : HNd} {v' : Value} (e1 : x.rl = (s.nd i).rl) (e2 : x.ra = (s.nd i).ra) (e3 : x.cl = (s.nd i).cl) (e4 : x.ca = (s.nd i).ca)
    (hlo : LO w' (K.nb i) 15 94 (nodeC K x i v') 12 v' x.L) (ho : Ot (fun k => k = K.nb i ∨ (vs i).ownBlock = some k) w w') (hv : ∀ k, v'.ownBlock = some k → (vs i).ownBlock = some k ∨ w.heap.size ≤ k) :
    ∃ ow', HtAt K w' { s with nd := updN s.nd i x } (updV vs i v') ow' ∧ ∀ k, HtF K (updV vs i v') k → HtF K vs k ∨ w.heap.size ≤ k := by
  have hot : ∀ k, HtF K vs k → k ≠ K.nb i → (vs i).ownBlock ≠ some k → w'.heap[k]? = w.heap[k]? := fun k hk h1 h2 => ho.block k (h.low k hk) (fun e => by rcases e with e | e; exact h1 e; exact h2 e)
  have hni := h.own i hi
  have neN : ∀ k (c : Nat × Nat), ow k = c → c ≠ (2, i) → k ≠ K.nb i := fun k c h1 h2 e => h2 (h1.symm.trans ((congrArg ow e).trans hni))
  have neV : ∀ k (c : Nat × Nat), ow k = c → c ≠ (5, i) → (vs i).ownBlock ≠ some k := fun k c h1 h2 e => h2 (h1.symm.trans (h.owv i hi k e))
  have htg := hot K.tb (Or.inl rfl) (neN _ _ h.owt (by simp)) (neV _ _ h.owt (by simp))
  have hgg := hot K.g (Or.inr (Or.inl rfl)) (neN _ _ h.owg (by simp)) (neV _ _ h.owg (by simp))
  have hne : ∀ k, HtF K vs k → (∀ k', v'.ownBlock = some k' → (vs i).ownBlock = some k' ∨ w.heap.size ≤ k') → (vs i).ownBlock ≠ some k → v'.ownBlock ≠ some k := fun k hk hv' h2 e => by
    rcases hv' k e with h3 | h3
    · exact h2 h3
    · have := h.low k hk; omega
  refine ⟨fun k => if v'.ownBlock = some k then (5, i) else ow k, ⟨htg.trans h.root, by have := ho.size; have := h.gl; omega, fun j hj => ?_, fun j hj => ?_, fun j hj => ?_, fun j hj => ?_, ?_, ?_, fun j hj => ?_, fun j hj => ?_, fun j hj => ?_, fun j hj k hk => ?_⟩, ?_⟩
  · rw [← h.row j hj]
    exact World.cell?_of_block (w := w) (a := ⟨K.g, j, none⟩) hgg
  · show LO w' (K.nb j) 15 _ (nodeC K (updN s.nd i x j) j (updV vs i v' j)) 12 (updV vs i v' j) (updN s.nd i x j).L
    by_cases e : j = i
    · subst e; rw [updN_same, updV_same]; exact hlo
    · rw [updN_ne e, updV_ne e]
      exact (h.node j hj).kept (hot _ (Or.inr (Or.inr ⟨j, hj, Or.inl rfl⟩)) (neN _ _ (h.own j hj) (by simp [e])) (neV _ _ (h.own j hj) (by simp))) (fun k hk => hot k (Or.inr (Or.inr ⟨j, hj, Or.inr (Or.inr (Or.inr hk))⟩)) (neN _ _ (h.owv j hj k hk) (by simp)) (neV _ _ (h.owv j hj k hk) (by simp [e])))
  · show BkT w' (K.rb j) _ _ _ (updN s.nd i x j).rl (updN s.nd i x j).ra s.tm
    have q1 : (updN s.nd i x j).rl = (s.nd j).rl := by unfold updN; split <;> (try subst j) <;> (first | exact e1 | rfl)
    have q2 : (updN s.nd i x j).ra = (s.nd j).ra := by unfold updN; split <;> (try subst j) <;> (first | exact e2 | rfl)
    rw [q1, q2]
    exact (h.rate j hj).same (hot _ (Or.inr (Or.inr ⟨j, hj, Or.inr (Or.inl rfl)⟩)) (neN _ _ (h.owr j hj) (by simp)) (neV _ _ (h.owr j hj) (by simp)))
  · show BkT w' (K.cb j) _ _ _ (updN s.nd i x j).cl (updN s.nd i x j).ca s.tm
    have q1 : (updN s.nd i x j).cl = (s.nd j).cl := by unfold updN; split <;> (try subst j) <;> (first | exact e3 | rfl)
    have q2 : (updN s.nd i x j).ca = (s.nd j).ca := by unfold updN; split <;> (try subst j) <;> (first | exact e4 | rfl)
    rw [q1, q2]
    exact (h.ceil j hj).same (hot _ (Or.inr (Or.inr ⟨j, hj, Or.inr (Or.inr (Or.inl rfl))⟩)) (neN _ _ (h.owc j hj) (by simp)) (neV _ _ (h.owc j hj) (by simp)))
  · show (if v'.ownBlock = some K.tb then _ else _) = _
    rw [if_neg (hne _ (Or.inl rfl) hv (neV _ _ h.owt (by simp)))]; exact h.owt
  · show (if v'.ownBlock = some K.g then _ else _) = _
    rw [if_neg (hne _ (Or.inr (Or.inl rfl)) hv (neV _ _ h.owg (by simp)))]; exact h.owg
  · show (if v'.ownBlock = some (K.nb j) then _ else _) = _
    rw [if_neg (hne _ (Or.inr (Or.inr ⟨j, hj, Or.inl rfl⟩)) hv (neV _ _ (h.own j hj) (by simp)))]; exact h.own j hj
  · show (if v'.ownBlock = some (K.rb j) then _ else _) = _
    rw [if_neg (hne _ (Or.inr (Or.inr ⟨j, hj, Or.inr (Or.inl rfl)⟩)) hv (neV _ _ (h.owr j hj) (by simp)))]; exact h.owr j hj
  · show (if v'.ownBlock = some (K.cb j) then _ else _) = _
    rw [if_neg (hne _ (Or.inr (Or.inr ⟨j, hj, Or.inr (Or.inr (Or.inl rfl))⟩)) hv (neV _ _ (h.owc j hj) (by simp)))]; exact h.owc j hj
  · show (if v'.ownBlock = some k then _ else _) = _
    by_cases e : j = i
    · subst e; rw [updV_same] at hk; rw [if_pos hk]
    · rw [updV_ne e] at hk
      rw [if_neg (hne _ (Or.inr (Or.inr ⟨j, hj, Or.inr (Or.inr (Or.inr hk))⟩)) hv (neV _ _ (h.owv j hj k hk) (by simp [e])))]
      exact h.owv j hj k hk
  · rintro k (rfl | rfl | ⟨j, hj, rfl | rfl | rfl | hk⟩)
    · exact Or.inl (Or.inl rfl)
    · exact Or.inl (Or.inr (Or.inl rfl))
    · exact Or.inl (Or.inr (Or.inr ⟨j, hj, Or.inl rfl⟩))
    · exact Or.inl (Or.inr (Or.inr ⟨j, hj, Or.inr (Or.inl rfl)⟩))
    · exact Or.inl (Or.inr (Or.inr ⟨j, hj, Or.inr (Or.inr (Or.inl rfl))⟩))
    · by_cases e : j = i
      · subst e
        rw [updV_same] at hk
        rcases hv k hk with h3 | h3
        · exact Or.inl (Or.inr (Or.inr ⟨j, hj, Or.inr (Or.inr (Or.inr h3))⟩))
        · exact Or.inr h3
      · rw [updV_ne e] at hk
        exact Or.inl (Or.inr (Or.inr ⟨j, hj, Or.inr (Or.inr (Or.inr hk))⟩))
/-- How many went is written. -/
theorem HtAt.goneSet {K : HtK} {w : World} {s : HtS} {vs : Nat → Value} {ow : Nat → Nat × Nat} (h : HtAt K w s vs ow) (v : Int) : HtAt K (w.setCell ⟨K.tb, 2, none⟩ (.int .i64 v)) { s with gone := v } vs ow := by
  have hot : ∀ k, k ≠ K.tb → (w.setCell ⟨K.tb, 2, none⟩ (.int .i64 v)).heap[k]? = w.heap[k]? := fun k hk => Below.heap_setCell _ _ _ _ hk
  have ne : ∀ k (c : Nat × Nat), ow k = c → c ≠ (0, 0) → k ≠ K.tb := fun k c h1 h2 e => h2 (h1.symm.trans ((congrArg ow e).trans h.owt))
  have hgg := hot K.g (ne _ _ h.owg (by simp))
  refine ⟨?_, by have := h.gl; simpa using this, fun j hj => ?_, fun j hj => (h.node j hj).kept (hot _ (ne _ _ (h.own j hj) (by simp))) (fun k hk => hot k (ne _ _ (h.owv j hj k hk) (by simp))), fun j hj => (h.rate j hj).same (hot _ (ne _ _ (h.owr j hj) (by simp))), fun j hj => (h.ceil j hj).same (hot _ (ne _ _ (h.owc j hj) (by simp))), h.owt, h.owg, h.own, h.owr, h.owc, h.owv⟩
  · rw [heap_setCell_here h.root]
    simp
  · rw [← h.row j hj]
    exact World.cell?_of_block (w := w) (a := ⟨K.g, j, none⟩) hgg
/-- What a packet takes out of a Ceil, out of a Rate. -/
def ceilT (K : HtK) (now x : Int) (s : HtS) (m : Nat) : HtS := { s with nd := updN s.nd m { s.nd m with cl := drw (K.cls m).ct (pas (K.cls m).cn (K.cls m).ct (K.cls m).cR (s.nd m).cl (s.nd m).ca now) x, ca := lat1 (s.nd m).ca now } }
def rateT (K : HtK) (now x : Int) (s : HtS) (m : Nat) : HtS := { s with nd := updN s.nd m { s.nd m with rl := drw (K.cls m).rt (pas (K.cls m).rn (K.cls m).rt (K.cls m).rR (s.nd m).rl (s.nd m).ra now) (min x (hasR K s now m)), ra := lat1 (s.nd m).ra now } }
theorem BkOk.drawn {n t R lev lat tm now x : Int} (h : BkOk n t R lev lat tm) (hn : tm = now) (hx : 0 ≤ x) : BkOk n t R (drw t (pas n t R lev lat now) x) (lat1 lat now) tm := by
  obtain ⟨⟨p0, p1⟩, q0, q1⟩ := h.told now (by omega)
  have hxt : 0 ≤ x * t := Int.mul_nonneg hx (by have := h.ok.2.1; omega)
  refine ⟨h.ok, ?_, ?_, q0, q1⟩
  · unfold drw; split <;> omega
  · unfold drw; split <;> omega
theorem HtI.ceilT {K : HtK} {t : Int} {n : Nat} {s : HtS} {now x : Int} (h : HtI K t n s) (hn : s.tm = now) (hx : 0 ≤ x) (m : Nat) : HtI K t n (ceilT K now x s m) := by
  have eL : ∀ j, ((Go.Proofs.YtpgdocmpbeabpaaDoor.ceilT K now x s m).nd j).L = (s.nd j).L := fun j => by unfold Go.Proofs.YtpgdocmpbeabpaaDoor.ceilT updN; simp only; split <;> (try subst j) <;> rfl
  refine ⟨h.tm, h.t0, fun j hj => ?_, fun j hj => ?_, fun j hj => ?_, fun j hj => ?_⟩
  · show BkOk _ _ _ (updN s.nd m _ j).rl (updN s.nd m _ j).ra s.tm
    by_cases e : j = m
    · subst e; rw [updN_same]; exact h.rate j hj
    · rw [updN_ne e]; exact h.rate j hj
  · show BkOk _ _ _ (updN s.nd m _ j).cl (updN s.nd m _ j).ca s.tm
    by_cases e : j = m
    · subst e; rw [updN_same]; exact (h.ceil j hj).drawn hn hx
    · rw [updN_ne e]; exact h.ceil j hj
  · rw [eL]; exact h.wait j hj
  · rw [eL]; exact h.inner j hj
theorem HtI.rateT {K : HtK} {t : Int} {n : Nat} {s : HtS} {now x : Int} (h : HtI K t n s) (hn : s.tm = now) (hx : 0 ≤ x) (m : Nat) (hm : m < K.N) : HtI K t n (rateT K now x s m) := by
  have eL : ∀ j, ((Go.Proofs.YtpgdocmpbeabpaaDoor.rateT K now x s m).nd j).L = (s.nd j).L := fun j => by unfold Go.Proofs.YtpgdocmpbeabpaaDoor.rateT updN; simp only; split <;> (try subst j) <;> rfl
  have hmin : 0 ≤ min x (hasR K s now m) := by
    have := (hasB_bd (now := now) (h.rate m hm)).1
    have h2 : 0 ≤ hasR K s now m := this
    omega
  refine ⟨h.tm, h.t0, fun j hj => ?_, fun j hj => ?_, fun j hj => ?_, fun j hj => ?_⟩
  · show BkOk _ _ _ (updN s.nd m _ j).rl (updN s.nd m _ j).ra s.tm
    by_cases e : j = m
    · subst e; rw [updN_same]; exact (h.rate j hj).drawn hn hmin
    · rw [updN_ne e]; exact h.rate j hj
  · show BkOk _ _ _ (updN s.nd m _ j).cl (updN s.nd m _ j).ca s.tm
    by_cases e : j = m
    · subst e; rw [updN_same]; exact h.ceil j hj
    · rw [updN_ne e]; exact h.ceil j hj
  · rw [eL]; exact h.wait j hj
  · rw [eL]; exact h.inner j hj
/-- The classes on a way are of the tree; the lender is on the leaf's way. -/
theorem hL_lt {K : HtK} (h : HtKOk K) : ∀ (i : Nat), i < K.N → ∀ m ∈ hL K (some i), m ≤ i := by
  intro i
  induction i using Nat.strongRecOn with
  | ind i ih =>
    intro hi m hm
    rw [hL_some h hi] at hm
    rcases List.mem_cons.1 hm with rfl | hm
    · exact Nat.le_refl _
    · cases hu : hUp K i with
      | none => rw [hu] at hm; simp [hL] at hm
      | some j =>
        rw [hu] at hm
        have hj := (h.up hi hu).1
        have := ih j hj (by omega) m hm
        omega
theorem lendL_mem {f : Nat → Bool} : ∀ {l : List Nat} {k m j : Nat}, lendL f l k = some (m, j) → m ∈ l := by
  intro l
  induction l with
  | nil => intro k m j h; cases h
  | cons a r ih =>
    intro k m j h
    unfold lendL at h
    split at h
    · cases h; simp
    · exact List.mem_cons_of_mem _ (ih h)
theorem offM_lend {K : HtK} (hK : HtKOk K) {s : HtS} {now : Int} {i : Nat} {o : Ofr} (hi : i < K.N) (h : offM K s now i = some o) : o.lend < K.N ∧ ∃ x r, (s.nd i).L = x :: r ∧ capB K s now x.l (some i) = false := by
  unfold offM at h
  split at h
  · cases h
  · rename_i x r hL
    split at h
    · cases h
    · rename_i hc
      rw [Option.map_eq_some_iff] at h
      obtain ⟨p, hp, rfl⟩ := h
      have := hL_lt hK i hi _ (lendL_mem (m := p.1) (j := p.2) hp)
      exact ⟨by show p.1 < K.N; omega, x, r, hL, by simpa using hc⟩
end Go.Proofs.YtpgdocmpbeabpaaDoor
namespace Go.Proofs.YtpgdocmpbeabpaaDoor
open Go.RowKit Go.Extern.Stop Go.Stop Go.Extern

theorem six_set {w : World} {b : Nat} {t : TypeId} {p0 p1 p2 p3 p4 p5 : Value} (h : w.heap[b]? = some (.cells #[p0, p1, p2, p3, p4, p5] t (0, 0))) (a0 a1 a2 a3 a4 a5 : Value) :
    ((((((w.setCell ⟨b, 0, none⟩ a0).setCell ⟨b, 1, none⟩ a1).setCell ⟨b, 2, none⟩ a2).setCell ⟨b, 3, none⟩ a3).setCell ⟨b, 4, none⟩ a4).setCell ⟨b, 5, none⟩ a5).heap[b]? = some (.cells #[a0, a1, a2, a3, a4, a5] t (0, 0)) := by
  rw [heap_setCell_here (heap_setCell_here (heap_setCell_here (heap_setCell_here (heap_setCell_here (heap_setCell_here h a0) a1) a2) a3) a4) a5]
  simp
theorem sizeHeld : (Tryd.prog.info? 60).map (·.size) = some 6 := by kernel_rfl
theorem load_held {w : World} {b : Nat} {t : TypeId} {fr : Nat × Nat} {x : Hd} (h : w.heap[b]? = some (.cells #[.int .i64 x.a, .int .i64 x.l, .int .i64 x.f, .int .i64 x.b, .int .i64 x.m, .int .i64 x.n] t fr)) : (loadVar 60 ⟨b, 0, none⟩).run Tryd.prog w = .ok x.val w :=
  run_loadVar_row w b t 60 _ fr _ h Tryd.underlying60 rfl sizeHeld
theorem results_cell_tmp2 {fn : Func} {p u u2 : Tmp} {ty : TypeId} (h : fn.results = #[.cell p ty, .tmp u, .tmp u2]) (tmps : Array Value) (P : Program) (w : World) :
    (results fn tmps).run P w =
      ((asAddr (tmps.getD p undef)).run P w).andThen fun a w₁ => ((loadVar ty a).run P w₁).andThen fun v w₂ => .ok (.tuple #[v, tmps.getD u undef, tmps.getD u2 undef]) w₂ := by
  simp only [results, h]
  simp [Sem.run_bind, Result.andThen]
theorem Hs.one {w : World} {b : Nat} {x : Hd} (h : w.heap[b]? = some (.cells x.cs.toArray 60 (0, 0))) : Hs w (.slice (some ⟨b, 0, none⟩) 1 1) [x] := by
  refine ⟨rfl, Or.inr ⟨b, 0, 1, _, rfl, h, by simp, by decide, by simp [Hd.cs], fun j u hj => ?_⟩⟩
  rw [flt_one] at hj
  simpa using hj
end Go.Proofs.YtpgdocmpbeabpaaDoor
