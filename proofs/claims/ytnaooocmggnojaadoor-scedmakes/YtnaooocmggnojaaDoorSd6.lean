/-
  All rows of a plan in memory; sced.step: whose cell is sent, and what it leaves. Conditions: the rows lie in memory, apart from each other.
-/
import Derived.Test.YtnaooocmggnojaaDoorSd5
namespace Go.Proofs.YtnaooocmggnojaaDoor
open Go.RowKit Go.Extern.Stop Go.Stop Go.Extern

/-- Where a row lies. -/
structure Rb where
  r : Nat
  cb : Nat
  pv : Value
  tv : Value
def Rb.Own (x : Rb) (b : Nat) : Prop := b = x.r ∨ b = x.cb ∨ x.pv.ownBlock = some b ∨ x.tv.ownBlock = some b
structure RsAt (w : World) (m : Nat) (lo : Nat → Nat) (B : Nat → Rb) (n : Nat) (C : Nat → Nat → Int) (K : Nat → Nat) (P T : Nat → Nat → Int) (h : Nat → Int) (g : Nat → Nat) : Prop where
  row : ∀ i, i < m → RwAt w (B i).r (B i).cb (B i).pv (B i).tv n (C i) (K i) (P i) (T i) (h i) (g i)
  up : ∀ i, i < m → lo i ≤ lo (i + 1)
  inn : ∀ i, i < m → ∀ b, (B i).Own b → lo i ≤ b ∧ b < lo (i + 1)
variable {w w' : World} {m : Nat} {lo : Nat → Nat} {B : Nat → Rb} {n : Nat} {C : Nat → Nat → Int} {K : Nat → Nat} {P T : Nat → Nat → Int} {h : Nat → Int} {g : Nat → Nat}
theorem RsAt.mono (H : RsAt w m lo B n C K P T h g) : ∀ j i, i ≤ j → j ≤ m → lo i ≤ lo j := by
  intro j
  induction j with
  | zero => intro i hi _; have : i = 0 := by omega
            subst this; exact Nat.le_refl _
  | succ j ih =>
    intro i hi hj
    by_cases e : i = j + 1
    · subst e; exact Nat.le_refl _
    · have := ih i (by omega) (by omega)
      have := H.up j (by omega)
      omega
theorem RsAt.apart (H : RsAt w m lo B n C K P T h g) {i j b : Nat} (hi : i < m) (hj : j < m) (hne : i ≠ j) (hb : (B i).Own b) : ¬ (B j).Own b := fun hb' => by
  have h1 := H.inn i hi b hb
  have h2 := H.inn j hj b hb'
  by_cases e : i < j
  · have := H.mono j (i + 1) (by omega) (by omega); omega
  · have := H.mono i (j + 1) (by omega) (by omega); omega
theorem RsAt.below (H : RsAt w m lo B n C K P T h g) (hb : Below w.heap.size w w') : RsAt w' m lo B n C K P T h g := ⟨fun i hi => (H.row i hi).below hb, H.up, H.inn⟩
theorem RsAt.ot {S : Nat → Prop} (H : RsAt w m lo B n C K P T h g) (ho : Ot S w w') (hS : ∀ i, i < m → ∀ b, (B i).Own b → ¬ S b) : RsAt w' m lo B n C K P T h g :=
  ⟨fun i hi => (H.row i hi).ot ho (hS i hi _ (Or.inl rfl)) (hS i hi _ (Or.inr (Or.inl rfl))) (fun b e => hS i hi b (Or.inr (Or.inr (Or.inl e)))) (fun b e => hS i hi b (Or.inr (Or.inr (Or.inr e)))), H.up, H.inn⟩
/-- One row is another one. -/
theorem RsAt.upd {S : Nat → Prop} (H : RsAt w m lo B n C K P T h g) (ho : Ot S w w') {j : Nat} (hj : j < m) (hS : ∀ b, S b → (B j).Own b) {T' : Nat → Nat → Int} {h' : Nat → Int} {g' : Nat → Nat} (hr : RwAt w' (B j).r (B j).cb (B j).pv (B j).tv n (C j) (K j) (P j) (T' j) (h' j) (g' j))
    (hT : ∀ i, i < m → i ≠ j → T' i = T i) (hh : ∀ i, i < m → i ≠ j → h' i = h i) (hg : ∀ i, i < m → i ≠ j → g' i = g i) : RsAt w' m lo B n C K P T' h' g' := by
  refine ⟨fun i hi => ?_, H.up, H.inn⟩
  by_cases e : i = j
  · subst e; exact hr
  · rw [hT i hi e, hh i hi e, hg i hi e]
    have hA : ∀ b, (B i).Own b → ¬ S b := fun b hb hs => H.apart hi hj e hb (hS b hs)
    exact (H.row i hi).ot ho (hA _ (Or.inl rfl)) (hA _ (Or.inr (Or.inl rfl))) (fun b e => hA b (Or.inr (Or.inr (Or.inl e)))) (fun b e => hA b (Or.inr (Or.inr (Or.inr e))))
/-- The pointers to them. -/
def ptrs (B : Nat → Rb) (m : Nat) : List Value := (List.range m).map fun i => .pointer (some ⟨(B i).r, 0, none⟩)
theorem ptrs_succ (B : Nat → Rb) (k : Nat) : ptrs B (k + 1) = ptrs B k ++ [.pointer (some ⟨(B k).r, 0, none⟩)] := by simp [ptrs, List.range_succ]
theorem ptrs_at (B : Nat → Rb) {m i : Nat} (hi : i < m) : (ptrs B m)[i]? = some (.pointer (some ⟨(B i).r, 0, none⟩)) := by simp [ptrs, hi]
theorem ty_ne2 {w : World} {a b : Nat} {u v : Array Value} {fr gr : Nat × Nat} (ha : w.heap[a]? = some (.cells u 72 fr)) (hb : w.heap[b]? = some (.cells v 3 gr)) : a ≠ b := by
  rintro rfl
  rw [ha] at hb
  simp at hb
theorem ty_ne3 {w : World} {a b : Nat} {u v : Array Value} {fr gr : Nat × Nat} (ha : w.heap[a]? = some (.cells u 72 fr)) (hb : w.heap[b]? = some (.cells v 74 gr)) : a ≠ b := by
  rintro rfl
  rw [ha] at hb
  simp at hb
theorem ptr_own {r cb k : Nat} {pv tv : Value} {c P T : Nat → Int} {h g : Int} {v : Value} {q : Nat} {xs : List Value} (H : RwAt w r cb pv tv n c k P T h g) (hv : Seg w 72 1 v q xs) {b : Nat} (hb : v.ownBlock = some b) : ¬ (Rb.mk r cb pv tv).Own b := by
  obtain ⟨cur, hc⟩ := hv.ty hb
  rintro (e | e | e | e)
  · exact ty_ne3 hc H.blk e
  · obtain ⟨cu, h1, _⟩ := H.cty
    exact ty_ne2 hc h1 e
  · obtain ⟨cu, h1⟩ := H.prom.ty e
    exact ty_ne2 hc h1 rfl
  · obtain ⟨cu, h1⟩ := H.thru.ty e
    exact ty_ne2 hc h1 rfl
theorem RsAt.ptr (H : RsAt w m lo B n C K P T h g) {v : Value} {q : Nat} {xs : List Value} (hv : Seg w 72 1 v q xs) {b : Nat} (hb : v.ownBlock = some b) {i : Nat} (hi : i < m) : ¬ (B i).Own b := ptr_own (H.row i hi) hv hb
/-- One more has come. -/
theorem here_fin {w : World} {r cb k : Nat} {pv tv : Value} {n : Nat} {c P T : Nat → Int} {h g : Int} (H : RwAt w r cb pv tv n c k P T h g) (u : Int) :
    RwAt (w.setCell ⟨r, 3, none⟩ (.int .i64 u)) r cb pv tv n c k P T u g ∧ Ot (fun q => q = r) w (w.setCell ⟨r, 3, none⟩ (.int .i64 u)) := by
  have hO : Ot (fun q => q = r) w (w.setCell ⟨r, 3, none⟩ (.int .i64 u)) := Ot.setCell (S := fun q => q = r) (p := ⟨r, 3, none⟩) (Ot.refl _ _) (Or.inl rfl) _
  refine ⟨⟨?_, ?_, H.prom.oth hO (fun b e e' => H.rp (e' ▸ e)), H.thru.oth hO (fun b e e' => H.rt (e' ▸ e)), H.dpc, H.dtc, H.dpt⟩, hO⟩
  · have := heap_setCell_here H.blk (o := 3) (.int .i64 u)
    rw [this]
    simp
  · obtain ⟨cur, h1, h2⟩ := H.cty
    exact ⟨cur, (hO.block cb H.clt (fun e => H.rc e.symm)).trans h1, h2⟩
/-- Of the first k flows what comes at the tick has come. -/
def hst (h : Nat → Int) (C : Nat → Nat → Int) (now k i : Nat) : Int := if i < k then h i + C i now else h i
/-- What the loop of step holds. -/
structure StR (w wr : World) (m : Nat) (lo : Nat → Nat) (B : Nat → Rb) (n : Nat) (C : Nat → Nat → Int) (K : Nat → Nat) (P T : Nat → Nat → Int) (h : Nat → Int) (g : Nat → Nat) (v : Value) : Prop where
  rs : RsAt wr m lo B n C K P T h g
  ptr : Seg wr 72 1 v m (ptrs B m)
  ot : Ot (fun b => ∃ i, i < m ∧ (B i).Own b) w wr
theorem StR.drewN {w wr : World} {v : Value} (H : StR w wr m lo B n C K P T h g v) (q : Nat) : StR w (wr.drewN q) m lo B n C K P T h g v := ⟨H.rs.below ⟨rfl, rfl, rfl, Nat.le_refl _, fun _ _ => rfl⟩, H.ptr.drewN q, H.ot.drewN q⟩
theorem StR.drew {w wr : World} {v : Value} (H : StR w wr m lo B n C K P T h g v) : StR w wr.drew m lo B n C K P T h g v := ⟨H.rs.below (Below.refl _ _).drew, H.ptr.below (Below.refl _ _).drew, H.ot.drew⟩
theorem StR.upd {w wr w' : World} {v : Value} {S : Nat → Prop} (H : StR w wr m lo B n C K P T h g v) (ho : Ot S wr w') {j : Nat} (hj : j < m) (hS : ∀ b, S b → (B j).Own b) {T' : Nat → Nat → Int} {h' : Nat → Int} {g' : Nat → Nat} (hr : RwAt w' (B j).r (B j).cb (B j).pv (B j).tv n (C j) (K j) (P j) (T' j) (h' j) (g' j))
    (hT : ∀ i, i < m → i ≠ j → T' i = T i) (hh : ∀ i, i < m → i ≠ j → h' i = h i) (hg : ∀ i, i < m → i ≠ j → g' i = g i) : StR w w' m lo B n C K P T' h' g' v :=
  ⟨H.rs.upd ho hj hS hr hT hh hg, H.ptr.oth ho (fun b e hs => H.rs.ptr H.ptr e hj (hS b hs)), H.ot.trans (ho.mono fun b _ hs => ⟨j, hj, hS b hs⟩)⟩
end Go.Proofs.YtnaooocmggnojaaDoor
