/-
  The reference's filters, in memory. Conditions: none.
-/
import Derived.Test.YtibecinojkkjpaaGreatDoorRp3
namespace Go.Proofs.YtibecinojkkjpaaGreatDoor
open Go.RowKit Go.Extern.Stop Go.Stop Go.Extern

def kindS (k : Nat) : ByteArray := if k = 0 then ⟨#[97, 110, 121]⟩ else if k = 1 then ⟨#[116, 101, 115, 116]⟩ else if k = 2 then ⟨#[104, 97, 115]⟩ else if k = 3 then ⟨#[110, 111, 116]⟩ else if k = 4 then ⟨#[97, 110, 100]⟩ else ⟨#[111, 114]⟩
def ptrV (k : Nat) : Value := .pointer (some ⟨k, 0, none⟩)
/-- A filter of the reference in block b; each block of it keeps to S. -/
def RfAt (w : World) (S : Nat → Prop) : Nat → Ft → Nat → Prop
  | 0, _, _ => False
  | d + 1, t, b => okF (d + 1) t ∧ S b ∧ ∃ (sl : Value) (ks : List Nat), w.heap[b]? = some (.cells #[.string (kindS t.k), .int .i64 t.f, .int .i64 t.lo, .int .i64 (if t.k = 2 then t.lo else t.hi), sl] 63 (0, 0)) ∧ (∀ j, sl.ownBlock = some j → S j) ∧ Seg w 22 1 sl t.l.length (ks.map ptrV) ∧ ks.length = t.l.length ∧ ∀ (i : Nat) y k, t.l[i]? = some y → ks[i]? = some k → RfAt w S d y k
theorem RfAt.ok {w : World} {S : Nat → Prop} : ∀ {d : Nat} {t : Ft} {b : Nat}, RfAt w S d t b → okF d t
  | 0, _, _, h => h.elim
  | _ + 1, _, _, h => h.1
theorem RfAt.here {w : World} {S : Nat → Prop} : ∀ {d : Nat} {t : Ft} {b : Nat}, RfAt w S d t b → S b ∧ b < w.heap.size
  | 0, _, _, h => h.elim
  | _ + 1, _, _, h => by obtain ⟨_, h1, sl, ks, h2, _⟩ := h; exact ⟨h1, lt_of_block h2⟩
theorem RfAt.kept {w w' : World} {S S' : Nat → Prop} (hk : ∀ k, S k → k < w.heap.size → w'.heap[k]? = w.heap[k]? ∧ S' k) : ∀ {d : Nat} {t : Ft} {b : Nat}, RfAt w S d t b → RfAt w' S' d t b
  | 0, _, _, h => h.elim
  | d + 1, t, b, h => by
    obtain ⟨h0, hS, sl, ks, hb, hsl, hseg, hl, hel⟩ := h
    exact ⟨h0, (hk b hS (lt_of_block hb)).2, sl, ks, (hk b hS (lt_of_block hb)).1.trans hb, fun j hj => (hk j (hsl j hj) (hseg.lt hj)).2, hseg.kept fun j hj => (hk j (hsl j hj) (hseg.lt hj)).1, hl, fun i y u h1 h2 => RfAt.kept hk (hel i y u h1 h2)⟩
section
variable {w w' : World} {S R S' : Nat → Prop} {d : Nat} {t : Ft} {b : Nat}
theorem RfAt.below (h : RfAt w S d t b) (hb : Below w.heap.size w w') : RfAt w' S d t b := h.kept fun k hS hk => ⟨hb.block k hk, hS⟩
theorem RfAt.ot (h : RfAt w S d t b) (ho : Ot R w w') (hS : ∀ k, S k → ¬ R k) : RfAt w' S d t b := h.kept fun k hs hk => ⟨ho.block k hk (hS k hs), hs⟩
theorem RfAt.sub (h : RfAt w S d t b) (hS : ∀ k, S k → S' k) : RfAt w S' d t b := h.kept fun k hs _ => ⟨rfl, hS k hs⟩
end
theorem infoRFilter : (Tryz.prog.info? 22).map (fun i => (i.zero, i.size, i.bytes)) = some (some (.pointer none), 1, 8) := by kernel_rfl
/-- So many are read, in the filter of block fb. -/
structure GkR (w : World) (b fb d : Nat) (kv : Value) (parts : List Ft) (ks : List Nat) (wr : World) : Prop where
  new : w.heap.size ≤ fb
  blk : wr.heap[fb]? = some (.cells #[.string ⟨#[97, 110, 100]⟩, .int .i64 0, .int .i64 0, .int .i64 0, kv] 63 (0, 0))
  seg : Seg wr 22 1 kv parts.length (ks.map ptrV)
  len : ks.length = parts.length
  own : ∀ j, kv.ownBlock = some j → w.heap.size ≤ j ∧ j ≠ fb
  each : ∀ (i : Nat) y k, parts[i]? = some y → ks[i]? = some k → RfAt wr (fun j => w.heap.size ≤ j ∧ j ≠ fb ∧ kv.ownBlock ≠ some j) d y k
  ot : Ot (fun k => k = b) w wr
section
variable {w wr w2 w3 : World} {b fb d : Nat} {kv : Value} {parts : List Ft} {ks : List Nat}
theorem GkR.lt (h : GkR w b fb d kv parts ks wr) : fb < wr.heap.size := lt_of_block h.blk
theorem GkR.ots (h : GkR w b fb d kv parts ks wr) (hb : b < w.heap.size) (ho : Ot (fun k => k = b) wr w2) : GkR w b fb d kv parts ks w2 :=
  ⟨h.new, (ho.block fb h.lt (by have := h.new; omega)).trans h.blk, h.seg.oth ho (fun g hg e => by have := (h.own g hg).1; omega), h.len, h.own, fun i y u h1 h2 => (h.each i y u h1 h2).ot ho (fun k hk e => by have := hk.1; omega), h.ot.trans ho⟩
theorem GkR.cells (h : GkR w b fb d kv parts ks wr) : wr.cell? ⟨fb, 4, none⟩ = some kv ∧ wr.frozen? ⟨fb, 4, none⟩ = false ∧ wr.cell? ⟨fb, 0, none⟩ = some (.string ⟨#[97, 110, 100]⟩) ∧ wr.frozen? ⟨fb, 0, none⟩ = false := by
  have hb := h.blk
  refine ⟨?_, ?_, ?_, ?_⟩
  all_goals simp [World.cell?, World.frozen?, hb]
/-- One more: wr is ahead of it, w2 behind it, W with the one that is added, w3 with the longer list. -/
theorem GkR.step (h : GkR w b fb d kv parts ks wr) (hb : b < w.heap.size) (ho : Ot (fun k => k = b) wr w2) {W : World} (hW : Below w2.heap.size w2 W) {g goff gcap H : Nat} {t : Ft} {tb : Nat} (ht : RfAt w2 (fun k => wr.heap.size ≤ k) d t tb)
    (hsg : Seg w3 22 1 (.slice (some ⟨g, goff, none⟩) (parts.length + 1) gcap) (parts.length + 1) (ks.map ptrV ++ [ptrV tb])) (hg : W.grownBy w3 kv.ownBlock) (ha : kv.ownBlock = some g ∨ H ≤ g) (hH : w2.heap.size ≤ H) :
    (w3.cell? ⟨fb, 4, none⟩ = some kv ∧ w3.frozen? ⟨fb, 4, none⟩ = false) ∧ GkR w b fb d (.slice (some ⟨g, goff, none⟩) (parts.length + 1) gcap) (parts ++ [t]) (ks ++ [tb]) (w3.setCell ⟨fb, 4, none⟩ (.slice (some ⟨g, goff, none⟩) (parts.length + 1) gcap)) := by
  have h1 := h.ots hb ho
  have hlt : ∀ j, kv.ownBlock = some j → j < wr.heap.size := fun j hj => h.seg.lt hj
  have hws := h.ot.size
  have hws2 := ho.size
  have hfb := h.new
  have hfl := h.lt
  have kept : ∀ k, k < w2.heap.size → kv.ownBlock ≠ some k → w3.heap[k]? = w2.heap[k]? := fun k hk hv => (hg.block k (by have := hW.size; omega) (fun e => hv e.symm)).trans (hW.block k hk)
  have hgk : ∀ k, k < w2.heap.size → kv.ownBlock ≠ some k → g ≠ k := by
    intro k hk hv e
    rcases ha with ha | ha
    · exact hv (e ▸ ha)
    · omega
  have hfv : kv.ownBlock ≠ some fb := fun e => (h.own fb e).2 rfl
  have hblk : w3.heap[fb]? = some (.cells #[.string ⟨#[97, 110, 100]⟩, .int .i64 0, .int .i64 0, .int .i64 0, kv] 63 (0, 0)) := (kept fb (by omega) hfv).trans h1.blk
  have hgf : g ≠ fb := hgk fb (by omega) hfv
  have hso : ∀ k, k ≠ fb → (w3.setCell ⟨fb, 4, none⟩ (.slice (some ⟨g, goff, none⟩) (parts.length + 1) gcap)).heap[k]? = w3.heap[k]? := fun k hk => heap_setCell_other _ ⟨fb, 4, none⟩ k _ hk
  refine ⟨⟨by simp [World.cell?, hblk], by simp [World.frozen?, hblk]⟩, hfb, by rw [heap_setCell_here hblk]; simp, ?_, by simp [h.len], ?_, ?_, ?_⟩
  · rw [List.length_append, List.map_append]
    exact hsg.setCell (p := ⟨fb, 4, none⟩) (by simpa [Value.ownBlock] using hgf) _
  · intro j hj
    simp only [Value.ownBlock, Option.some.injEq] at hj
    subst hj
    refine ⟨?_, hgf⟩
    rcases ha with ha | ha
    · exact (h.own _ ha).1
    · omega
  · intro i y u hy hu
    by_cases hi : i < parts.length
    · rw [List.getElem?_append_left hi] at hy
      rw [List.getElem?_append_left (by rw [h.len]; exact hi)] at hu
      refine (h1.each i y u hy hu).kept fun k hS hk => ⟨(hso k hS.2.1).trans (kept k hk hS.2.2), hS.1, hS.2.1, ?_⟩
      simp only [Value.ownBlock, ne_eq, Option.some.injEq]
      exact hgk k hk hS.2.2
    · have hi2 : i = parts.length := by
        have := (List.getElem?_eq_some_iff.1 hy).1
        simp at this
        omega
      subst hi2
      rw [List.getElem?_append_right (Nat.le_refl _)] at hy
      rw [List.getElem?_append_right (by rw [h.len]; exact Nat.le_refl _)] at hu
      simp [h.len] at hy hu
      subst hy hu
      refine ht.kept fun k hS hk => ?_
      have hne : kv.ownBlock ≠ some k := fun e => by have := hlt k e; omega
      have hkf : k ≠ fb := by omega
      refine ⟨(hso k hkf).trans (kept k hk hne), by omega, hkf, ?_⟩
      simp only [Value.ownBlock, ne_eq, Option.some.injEq]
      exact hgk k hk hne
  · have ho3 : Ot (fun k => k = b) w w3 := (h1.ot.trans (Ot.of_below hW)).grown hg (fun k hk => Or.inr (h.own k hk).1)
    exact ho3.setCell (p := ⟨fb, 4, none⟩) (Or.inr hfb) _
/-- All of them. -/
theorem GkR.made (h : GkR w b fb d kv parts ks wr) {K : Nat} (hK : K = 4 ∨ K = 5) (hp : ∀ y ∈ parts, okF d y) (hw : ∀ k, k ≠ fb → w2.heap[k]? = wr.heap[k]?) (hB : w2.heap[fb]? = some (.cells #[.string (kindS K), .int .i64 0, .int .i64 0, .int .i64 0, kv] 63 (0, 0))) :
    RfAt w2 (fun k => w.heap.size ≤ k) (d + 1) ⟨K, 0, 0, 0, parts⟩ fb :=
  ⟨Or.inr (Or.inr (Or.inr (Or.inr ⟨K, parts, rfl, hK, hp⟩))), h.new, kv, ks, by rw [hB]; simp, fun j hj => (h.own j hj).1, h.seg.kept fun j hj => hw j (h.own j hj).2, h.len, fun i y u h1 h2 => (h.each i y u h1 h2).kept fun k hS _ => ⟨hw k hS.2.1, hS.1⟩⟩
theorem GkR.okF (h : GkR w b fb d kv parts ks wr) : ∀ y ∈ parts, okF d y := by
  intro y hy
  obtain ⟨i, hi⟩ := List.mem_iff_getElem?.1 hy
  have hlt : i < ks.length := by rw [h.len]; exact (List.getElem?_eq_some_iff.1 hi).1
  exact (h.each i y _ hi (List.getElem?_eq_getElem hlt)).ok
end
/-- A filter is read by the reference: what it says, and what it leaves. -/
def RpP (w w' : World) (b n : Nat) (at' : Int) (v : Value) (L : List (List UInt8 × Nat)) (d : Nat) (res : Rd) (e : Ending) : Prop :=
  ∃ (er p : Int) (v' : Value) (L' : List (List UInt8 × Nat)), PsAt w' b n er p v' L' ∧ v'.ownBlock = v.ownBlock ∧ Ot (fun k => k = b) w w' ∧ (∀ y ∈ L', y ∈ L) ∧
    ((∃ t tb, res = .ok (t, L') ∧ er = 0 ∧ p = at' ∧ e = .returned (.pointer (some ⟨tb, 0, none⟩)) ∧ RfAt w' (fun k => w.heap.size ≤ k) d t tb) ∨ (∃ (c : Int) (q : Nat) (x : Option Addr), res = .error (c, q) ∧ er = c ∧ p = q ∧ c ≠ 0 ∧ e = .returned (.pointer x)))
theorem RpP.after {w w1 w' : World} {b n d : Nat} {at' : Int} {v v1 : Value} {L L1 : List (List UInt8 × Nat)} {res : Rd} {e : Ending} (h : RpP w1 w' b n at' v1 L1 d res e) (ho : Ot (fun k => k = b) w w1) (hv : v1.ownBlock = v.ownBlock) (hL : ∀ y ∈ L1, y ∈ L) : RpP w w' b n at' v L d res e := by
  obtain ⟨er, p, v', L', h1, h2, h3, h4, h5⟩ := h
  refine ⟨er, p, v', L', h1, h2.trans hv, ho.trans h3, fun y hy => hL y (h4 y hy), ?_⟩
  rcases h5 with ⟨t, tb, e1, e2, e3, e4, e5⟩ | h5
  · exact Or.inl ⟨t, tb, e1, e2, e3, e4, e5.sub fun k hk => Nat.le_trans ho.size hk⟩
  · exact Or.inr h5
/-- What the reference has laid that filters want. -/
structure GlobR (w : World) : Prop where
  num : Glob w
  ml : ∃ m, w.cell? ⟨3, 0, none⟩ = some (.int .i64 m)
  fs : ∃ fb off cap : Nat, w.cell? ⟨0, 0, none⟩ = some (.slice (some ⟨fb, off, none⟩) 5 cap) ∧ ∀ i, i < 5 → w.cell? ⟨fb, off + i, none⟩ = some (.string ⟨(nameF i).toArray⟩)
theorem GlobR.below {w w' : World} (h : GlobR w) (hb : Below w.heap.size w w') : GlobR w' := by
  obtain ⟨fb, off, cap, h0, h1⟩ := h.fs
  exact ⟨h.num.below hb, h.ml.imp fun _ h => (hb.cell (p := ⟨_, 0, none⟩) (cell_lt h)).trans h, fb, off, cap, (hb.cell (p := ⟨_, 0, none⟩) (cell_lt h0)).trans h0, fun i hi => (hb.cell (p := ⟨fb, off + i, none⟩) (cell_lt (h1 i hi))).trans (h1 i hi)⟩
end Go.Proofs.YtibecinojkkjpaaGreatDoor
