/-
  fair.Rounds as FairVarghese fills them and takes from them. Conditions: few flows, small packets.
-/
import Derived.Test.YtddikjhpacdciaaFs
import Derived.Test.YtddikjhpacdciaaFo
namespace Go.Proofs.Ytddikjhpacdciaa
open Go.RowKit Go.Extern.Stop Go.Stop Go.Extern

structure PI (k : Nat) (Lm : Int) (q : Nat → Int) (n : Nat) (c : Nat → Nat) (s : RnS) : Prop where
  inv : RnI q s ∧ (allF s.fl 16).length ≤ n ∧ SO n s
  cr : ∀ f, f < 16 → s.cr f = 0
  bg : s.bg = false
  tk : ∀ m ∈ s.tn, m < (k : Int)
  cnt : ∀ f, f < k → (s.fl f).length = c f
  len : ∀ f, f < k → ∀ x ∈ s.fl f, x.l ≤ Lm
theorem PI.put {k : Nat} {Lm Lm' : Int} {q : Nat → Int} {n : Nat} {c : Nat → Nat} {s : RnS} (h : PI k Lm q n c s) (hn : n ≤ 1000) {x : Hd} (hok : x.ok = true) (hxa : x.a = 0) (hxn : x.n = n) {f : Nat} (hf : f < k) (hxf : x.f = f) (hc : c f < 60) (hL : Lm ≤ Lm') (hx : x.l ≤ Lm') :
    (putW 60 s x).2 = [] ∧ PI k Lm' q (n + 1) (updF c f (c f + 1)) (putW 60 s x).1 := by
  have hI := ((roundsM_fine 0 60 q).iP 0 x h.inv (Int.le_refl _) (Int.le_refl _) (by decide) hok hxa hxn hn).1
  have hI' : RnI q (putW 60 s x).1 ∧ (allF (putW 60 s x).1.fl 16).length ≤ n + 1 ∧ SO (n + 1) (putW 60 s x).1 := hI
  have hft : x.f.toNat = f := by omega
  have hcf := h.cnt f hf
  have e : putW 60 s x = ({ fl := updF s.fl f (s.fl f ++ [x]), cr := if (s.fl f).isEmpty then updF s.cr f 0 else s.cr, tn := if (s.fl f).isEmpty then s.tn ++ [x.f] else s.tn, bg := s.bg }, []) := by
    unfold putW
    rw [hft, if_pos ⟨hok, by omega⟩]
  rw [e] at hI' ⊢
  refine ⟨rfl, hI', fun g hg => ?_, h.bg, fun m hm => ?_, fun g hg => ?_, fun g hg y hy => ?_⟩
  · show (if (s.fl f).isEmpty then updF s.cr f 0 else s.cr) g = 0
    split
    · by_cases e : g = f
      · subst e; rw [updF_same]
      · rw [updF_ne e]; exact h.cr g hg
    · exact h.cr g hg
  · have hm' : m ∈ (if (s.fl f).isEmpty then s.tn ++ [x.f] else s.tn) := hm
    split at hm'
    · rcases List.mem_append.1 hm' with h1 | h1
      · exact h.tk m h1
      · simp at h1; omega
    · exact h.tk m hm'
  · show (updF s.fl f (s.fl f ++ [x]) g).length = updF c f (c f + 1) g
    by_cases e : g = f
    · subst e; rw [updF_same, updF_same]; simp [hcf]
    · rw [updF_ne e, updF_ne e]; exact h.cnt g hg
  · have hy' : y ∈ updF s.fl f (s.fl f ++ [x]) g := hy
    by_cases e : g = f
    · subst e
      rw [updF_same] at hy'
      rcases List.mem_append.1 hy' with h1 | h1
      · have := h.len g hg y h1; omega
      · simp at h1; subst h1; exact hx
    · rw [updF_ne e] at hy'
      have := h.len g hg y hy'; omega
theorem PI.go {k : Nat} {Lm : Int} {q : Nat → Int} {n : Nat} {c : Nat → Nat} {s : RnS} (h : PI k Lm q n c s) (hk : k ≤ 16) (h0 : 0 < k) (hc : ∀ f, f < k → 0 < c f) : VI k Lm q (fun _ => 0) s := by
  have hall : ∀ f, f < k → s.fl f ≠ [] := fun f hf e => by
    have h1 := h.cnt f hf
    have h2 := hc f hf
    rw [e] at h1
    simp at h1
    omega
  have hLm : 1 ≤ Lm := by
    cases hL : s.fl 0 with
    | nil => exact absurd hL (hall 0 h0)
    | cons x L =>
      have k1 := ok_len (h.inv.1.ok 0 (by omega) x (by rw [hL]; simp)).1
      have k2 := h.len 0 h0 x (by rw [hL]; simp)
      omega
  refine ⟨h.inv.1, hk, h.tk, hall, h.len, fun _ => 0, 0, s.tn, [], by simp, fun e => ?_, fun _ _ => rfl, by simp, fun f hf => ?_⟩
  · have := (h.inv.1.tfl 0 (by omega)).2 (hall 0 h0)
    rw [e] at this
    simp at this
  · rw [exV_off h.bg, h.cr f (by omega)]
    exact ⟨by simp, by omega⟩
/-- While they are filled. -/
structure VgP (wq : World) (b m : Nat) (Q : Nat → Int) (Lm : Int) (n : Nat) (c : Nat → Nat) (wr : World) (s : RnS) (F : Nat → Prop) : Prop where
  pos : (RoundsM b 60 Q).At wr F s
  own : ∀ j, F j → b ≤ j
  pi : PI m Lm Q n c s
  lm : 0 ≤ Lm ∧ Lm ≤ 1500
  bel : Below b wq wr
theorem vput_any {wq wr : World} {b m : Nat} {Q : Nat → Int} {Lm : Int} {n : Nat} {c : Nat → Nat} {s : RnS} {F : Nat → Prop} (h : VgP wq b m Q Lm n c wr s F) (hm : m ≤ 16) (hn : n ≤ 1000) (l Lm' : Int) (hl1 : 1 ≤ l) (hL : Lm ≤ Lm') (hl2 : l ≤ Lm') (hL2 : Lm' ≤ 1500) (f : Nat) (hf : f < m) (hc : c f < 60) (hbs : b ≤ wr.heap.size) :
    Calls Try.prog 18 #[.pointer (some ⟨b, 0, none⟩), .int .i64 0, .agg #[.int .i64 0, .int .i64 l, .int .i64 f, .int .i64 0, .int .i64 0, .int .i64 n]] wr fun e w' => ∃ x0 cp s' F', e = .returned (.slice x0 0 cp) ∧ VgP wq b m Q Lm' (n + 1) (updF c f (c f + 1)) w' s' F' := by
  have hok : (Hd.mk 0 l f 0 0 n).ok = true := by
    simp only [Hd.ok, It.ok, Bool.and_eq_true, wth_iff]
    omega
  obtain ⟨h1, h2⟩ := h.pi.put (Lm' := Lm') hn (x := ⟨0, l, f, 0, 0, n⟩) hok rfl rfl hf rfl hc hL hl2
  refine ((roundsM_fine b 60 Q).cP (t := 0) (n := n) 0 ⟨0, l, f, 0, 0, n⟩ h.pos h.pi.inv (Int.le_refl _) (Int.le_refl _) (by decide) hok rfl rfl hn).mono ?_
  rintro e w' ⟨u, F', rfl, hu, hA, hF, _, hO⟩
  have e1 : (RoundsM b 60 Q).put s 0 ⟨0, l, f, 0, 0, n⟩ = putW 60 s ⟨0, l, f, 0, 0, n⟩ := rfl
  rw [e1] at hu hA
  rw [h1] at hu
  obtain ⟨x0, cp, hv, _⟩ := Seg.lies hu
  exact ⟨x0, cp, _, F', by rw [hv]; rfl, hA, fun j hj => by rcases hF j hj with h3 | h3; exact h.own j h3; omega, h2, ⟨by have := h.lm; omega, hL2⟩, h.bel.trans (hO.below hbs (fun k hk => h.own k hk))⟩
/-- While is taken from them: S what each sent, c how many it has left. -/
structure VgT (wq : World) (b m : Nat) (Q : Nat → Int) (Lm : Int) (S : Nat → Int) (c : Nat → Nat) (sb lb : Nat) (wr : World) (s : RnS) (F : Nat → Prop) : Prop where
  pos : (RoundsM b 60 Q).At wr F s
  own : ∀ j, F j → b ≤ j ∧ j ≠ sb ∧ j ≠ lb
  vi : VI m Lm Q S s
  inv : ∃ n, n ≤ 1000 ∧ RnI Q s ∧ (allF s.fl 16).length ≤ n ∧ SO n s
  cnt : ∀ f, f < m → (s.fl f).length = c f
  bel : Below b wq wr
theorem vtake_any {wq wr : World} {b m : Nat} {Q : Nat → Int} {Lm : Int} {S : Nat → Int} {c : Nat → Nat} {sb lb : Nat} {s : RnS} {F : Nat → Prop} (h : VgT wq b m Q Lm S c sb lb wr s F) (hm : 0 < m) (hbs : b ≤ wr.heap.size) (hsb : sb < wr.heap.size) (hlb : lb < wr.heap.size) :
    Calls Try.prog 19 #[.pointer (some ⟨b, 0, none⟩), .int .i64 0] wr fun e w' => ∃ (x : Hd) (u : Value) (f : Nat) (s' : RnS) (F' : Nat → Prop), e = .returned (.tuple #[x.val, u, .bool true]) ∧ f < m ∧ x.f = (f : Int) ∧ (1 ≤ x.l ∧ x.l ≤ Lm) ∧ 1 ≤ c f ∧ (2 ≤ c f → VgT wq b m Q Lm (updF S f (S f + x.l)) (updF c f (c f - 1)) sb lb w' s' F') ∧ Below b wq w' ∧ wr.heap.size ≤ w'.heap.size ∧ w'.heap[sb]? = wr.heap[sb]? ∧ w'.heap[lb]? = wr.heap[lb]? := by
  obtain ⟨n, hn, hI⟩ := h.inv
  obtain ⟨f, x, L, hf, hL, h1, h2, h3⟩ := h.vi.take (mu s + 1) s (Nat.lt_succ_self _) hm
  have hk := h.vi.k16
  have hxo := h.vi.inv.ok f (by omega) x (by rw [hL]; simp)
  have hxl := h.vi.len f hf x (by rw [hL]; simp)
  have hx1 := ok_len hxo.1
  have hcf := h.cnt f hf
  rw [hL] at hcf
  simp at hcf
  refine ((roundsM_fine b 60 Q).cT (t := 0) (n := n) 0 h.pos hI (Int.le_refl _) (Int.le_refl _) (by decide) hn).mono ?_
  rintro e w' ⟨u, F', rfl, hu, hA, hF, _, hO⟩
  have hI2 := ((roundsM_fine b 60 Q).iT 0 hI (Int.le_refl _) (Int.le_refl _) (by decide) hn).1
  have e1 : (RoundsM b 60 Q).take s 0 = takeW Q s := rfl
  rw [e1] at hA hI2 ⊢
  rw [h2]
  have hb' : Below b wq w' := h.bel.trans (hO.below hbs (fun k hk => (h.own k hk).1))
  refine ⟨x, u, f, _, F', rfl, hf, hxo.2, ⟨hx1.1, hxl⟩, by omega, fun h2c => ⟨hA, fun j hj => ?_, h3 (fun e => by rw [e] at hcf; simp at hcf; omega), ⟨n, hn, hI2⟩, fun g hg => ?_, hb'⟩, hb', hO.size, hO.block sb hsb (fun hs => (h.own sb hs).2.1 rfl), hO.block lb hlb (fun hs => (h.own lb hs).2.2 rfl)⟩
  · rcases hF j hj with h4 | h4
    · exact h.own j h4
    · omega
  · rw [h1]
    by_cases e : g = f
    · subst e; rw [updF_same, updF_same]; omega
    · rw [updF_ne e, updF_ne e]; exact h.cnt g hg
theorem VgP.go {wq wr : World} {b m : Nat} {Q : Nat → Int} {Lm : Int} {n : Nat} {c : Nat → Nat} {s : RnS} {F : Nat → Prop} (h : VgP wq b m Q Lm n c wr s F) (hm : m ≤ 16) (h0 : 0 < m) (hn : n ≤ 1000) (hc : ∀ f, f < m → 0 < c f) {w' : World} (hb : Below wr.heap.size wr w') (hbs : b ≤ wr.heap.size) {sb lb : Nat} (hsb : wr.heap.size ≤ sb) (hlb : wr.heap.size ≤ lb) : VgT wq b m Q Lm (fun _ => 0) c sb lb w' s F where
  pos := (roundsM_fine b 60 Q).kept h.pos (fun k hk => hb.block k ((roundsM_fine b 60 Q).low h.pos k hk))
  own := fun j hj => ⟨h.own j hj, by have := (roundsM_fine b 60 Q).low h.pos j hj; omega, by have := (roundsM_fine b 60 Q).low h.pos j hj; omega⟩
  vi := h.pi.go hm h0 hc
  inv := ⟨n, hn, h.pi.inv⟩
  cnt := h.pi.cnt
  bel := h.bel.trans (hb.mono hbs)
/-- Blocks that are not its own may be others. -/
theorem VgT.kept {wq wr w' : World} {b m : Nat} {Q : Nat → Int} {Lm : Int} {S : Nat → Int} {c : Nat → Nat} {sb lb : Nat} {s : RnS} {F : Nat → Prop} (h : VgT wq b m Q Lm S c sb lb wr s F) (hk : ∀ k, k < wr.heap.size → k ≠ sb → k ≠ lb → w'.heap[k]? = wr.heap[k]?) (hb : Below b wr w') : VgT wq b m Q Lm S c sb lb w' s F :=
  { h with
    pos := (roundsM_fine b 60 Q).kept h.pos (fun k hF => hk k ((roundsM_fine b 60 Q).low h.pos k hF) (h.own k hF).2.1 (h.own k hF).2.2)
    bel := h.bel.trans hb }
theorem irow_ins {w : World} {x : Option Addr} {n cap : Nat} {l : List Int} (h : Ins w (.slice x n cap) l) (hn : n = l.length) : IRow w x n (fun i => l.getD i 0) := by
  rcases h.form with ⟨hv, h0, _⟩ | ⟨b, off, cap', hv, _, _, hb, hc⟩
  · exact Or.inl (by omega)
  · simp only [Value.slice.injEq] at hv
    refine Or.inr ⟨b, off, hv.1, hb, fun i hi => hc i _ ?_⟩
    rw [List.getElem?_map, List.getElem?_eq_getElem (by omega)]
    simp [List.getD_eq_getElem?_getD, List.getElem?_eq_getElem (show i < l.length by omega)]
theorem VgP.cong {wq wr : World} {b m : Nat} {Q : Nat → Int} {Lm : Int} {n : Nat} {c c' : Nat → Nat} {s : RnS} {F : Nat → Prop} (h : VgP wq b m Q Lm n c wr s F) (hc : ∀ f, f < m → c' f = c f) : VgP wq b m Q Lm n c' wr s F :=
  { h with pi := { h.pi with cnt := fun f hf => by rw [hc f hf]; exact h.pi.cnt f hf } }
end Go.Proofs.Ytddikjhpacdciaa
