/-
  action.New: a program in memory of its own, or which error, and at which action. Conditions: actions and buckets lie in memory.
-/
import Derived.Test.YtnoppfgikanebaaDoorAc2
namespace Go.Proofs.YtnoppfgikanebaaDoor
open Go.RowKit Go.Extern.Stop Go.Stop Go.Extern

structure Bk where
  n : Int
  t : Int
  R : Int
def Bk.cells (x : Bk) : List Value := [.int .i64 x.n, .int .i64 x.t, .int .i64 x.R]
theorem Bk.cells_len (x : Bk) : x.cells.length = 3 := rfl
def B0 (g : Bk) : Bs := ⟨g.n, g.t, g.R, g.R * g.t, 0⟩
instance (n t R : Int) : Decidable (okB n t R) := inferInstanceAs (Decidable (_ ∧ _))
theorem B0_ok {g : Bk} (h : okB g.n g.t g.R) : (B0 g).ok := ⟨h, h.room.1, Int.le_refl _, Int.le_refl _⟩
theorem ArgAt.bks {w : World} {px : Option Addr} {L : List Bk} (h : ArgAt Bk.cells w px L) {i : Nat} {x : Bk} (hx : L[i]? = some x) : ∃ b off, px = some ⟨b, off, none⟩ ∧ b < w.heap.size ∧ w.cell? ⟨b, off + i * 3, none⟩ = some (.int .i64 x.n) ∧ w.cell? ⟨b, off + i * 3 + 1, none⟩ = some (.int .i64 x.t) ∧ w.cell? ⟨b, off + i * 3 + 2, none⟩ = some (.int .i64 x.R) := by
  rcases h with rfl | ⟨b, off, h1, h2, h3⟩
  · simp at hx
  · have k : ∀ j, j < 3 → ∀ u, x.cells[j]? = some u → w.cell? ⟨b, off + i * 3 + j, none⟩ = some u := by
      intro j hj u hu
      rw [Nat.add_assoc]
      exact h3 _ _ ((flt_at Bk.cells 3 Bk.cells_len hx hj).trans hu)
    exact ⟨b, off, h1, h2, k 0 (by omega) _ rfl, k 1 (by omega) _ rfl, k 2 (by omega) _ rfl⟩

/-! ### Which error -/
def flawsE (n m : Nat) : List Ac → Nat → Int × Int
  | [], _ => (0, -1)
  | a :: r, i => if flawA n m a = 0 then flawsE n m r (i + 1) else (flawA n m a, i)
def newE (L : List Ac) (G : List Bk) : Int × Int := if 50 < L.length ∨ 8 < G.length then (4, -1) else if ∀ g ∈ G, okB g.n g.t g.R then flawsE L.length G.length L 0 else (2, -1)
theorem flawsE_fine {n m : Nat} : ∀ (L : List Ac) (i : Nat), (∀ x ∈ L, flawA n m x = 0) → flawsE n m L i = (0, -1) := by
  intro L
  induction L with
  | nil => intro i _; rfl
  | cons a r ih =>
    intro i h
    unfold flawsE
    rw [if_pos (h a (by simp))]
    exact ih _ fun x hx => h x (by simp [hx])
theorem flawsE_at {n m : Nat} : ∀ (L : List Ac) (i k : Nat) (x : Ac), L[k]? = some x → (∀ j y, j < k → L[j]? = some y → flawA n m y = 0) → flawA n m x ≠ 0 → flawsE n m L i = (flawA n m x, ((i + k : Nat) : Int)) := by
  intro L
  induction L with
  | nil => intro i k x hx; simp at hx
  | cons a r ih =>
    intro i k x hx hj hne
    unfold flawsE
    cases k with
    | zero =>
      simp only [List.getElem?_cons_zero, Option.some.injEq] at hx
      subst hx
      rw [if_neg hne]
      simp
    | succ k =>
      rw [if_pos (hj 0 a (by omega) rfl), ih (i + 1) k x (by simpa using hx) (fun j y h1 h2 => hj (j + 1) y (by omega) (by simpa using h2)) hne]
      congr 2
      omega
theorem flawsE_all {n m : Nat} : ∀ (L : List Ac) (i : Nat), (flawsE n m L i).1 = 0 → ∀ x ∈ L, flawA n m x = 0 := by
  intro L
  induction L with
  | nil => intro i _ x hx; simp at hx
  | cons a r ih =>
    intro i h x hx
    unfold flawsE at h
    split at h
    · rename_i h0
      rcases List.mem_cons.1 hx with rfl | hx
      · exact h0
      · exact ih _ h x hx
    · exact absurd h (by assumption)
/-- What is true of a program that may be. -/
structure GoodA (L : List Ac) (m : Nat) : Prop where
  len : L.length ≤ 50
  few : m ≤ 8
  fine : ∀ x ∈ L, flawA L.length m x = 0
theorem newE_good {L : List Ac} {G : List Bk} (h : (newE L G).1 = 0) : GoodA L G.length := by
  unfold newE at h
  split at h
  · simp at h
  · rename_i h1
    split at h
    · exact ⟨by omega, by omega, flawsE_all L 0 h⟩
    · simp at h
theorem PrAt.fresh {w : World} {H0 pb : Nat} {av bv : Value} {ps : List Nat} {L : List Ac} {C : List Int} {B : List Bs} (h : PrAt w H0 pb av bv ps L C B) {s : Nat} (hs : s ∈ ps) : s < w.heap.size := by
  obtain ⟨i, hi⟩ := List.mem_iff_getElem?.1 hs
  have hl : i < B.length := by
    have := (List.getElem?_eq_some_iff.1 hi).1
    rwa [h.len] at this
  exact (h.st i s B[i] hi (List.getElem?_eq_getElem hl)).1.lt
theorem take_next {α : Type} {G : List α} {k : Nat} {g : α} (h : G[k]? = some g) : G.take (k + 1) = G.take k ++ [g] := by
  rw [List.take_add_one, h]
  rfl

theorem Seg.shape {w : World} {e : TypeId} {k : Nat} {v : Value} {n : Nat} {xs : List Value} (h : Seg w e k v n xs) : ∃ x m c, v = .slice x m c := by
  rcases h.form with ⟨rfl, _⟩ | ⟨b, off, cap, rfl, _⟩
  · exact ⟨_, _, _, rfl⟩
  · exact ⟨_, _, _, rfl⟩
theorem below_after {a W w1 : World} (h : Below a.heap.size a W) (hb : Below W.heap.size W w1) : Below a.heap.size a w1 := h.trans (hb.mono h.size)
theorem actNew_long (px qx : Option Addr) (cap qcap : Nat) (L : List Ac) (G : List Bk) (w : World) (h1 : L.length ≤ maxLen) (h2 : G.length ≤ maxLen) (h : 50 < L.length ∨ 8 < G.length) :
    Calls Tryd.prog 5 #[.slice px L.length cap, .slice qx G.length qcap] w fun e w' => e = .returned (.tuple #[.pointer none, .iface 34 (.int .i64 4)]) ∧ Below w.heap.size w w' := by
  generalize L.length = n at *
  generalize G.length = m at *
  unfold maxLen at h1 h2
  by_cases h0 : 50 < n
  · clear h
    go_enter Tryd.func5, Tryd.ntmps5
    go_wp2
    go_ret2
    exact ⟨rfl, Below.refl _ _⟩
  · have h3 : 8 < m := by omega
    clear h
    go_enter Tryd.func5, Tryd.ntmps5
    go_wp2
    go_ret2
    exact ⟨rfl, Below.refl _ _⟩
/-- What New tells. -/
def NewP (w : World) (L : List Ac) (G : List Bk) (e : Ending) (w' : World) : Prop := Below w.heap.size w w' ∧ (((newE L G).1 = 0 ∧ ∃ pb av bv ps, e = .returned (.tuple #[.pointer (some ⟨pb, 0, none⟩), .nilIface]) ∧ PrAt w' w.heap.size pb av bv ps L (List.replicate 8 0) (G.map B0)) ∨ ((newE L G).1 ≠ 0 ∧ ∃ v, e = .returned (.tuple #[.pointer none, v]) ∧ ErrIs w' v (newE L G).1 (newE L G).2))
set_option maxRecDepth 100000 in
set_option maxHeartbeats 4000000 in
theorem actNew_any (px qx : Option Addr) (cap qcap : Nat) (L : List Ac) (G : List Bk) (w : World) (hA : ArgAt Ac.cells w px L) (hn : px = none → L = [] ∧ cap = 0) (hfit : ∀ x ∈ L, x.fit) (hG : ArgAt Bk.cells w qx G) (h1 : L.length ≤ maxLen) (h2 : G.length ≤ maxLen) :
    Calls Tryd.prog 5 #[.slice px L.length cap, .slice qx G.length qcap] w (NewP w L G) := by
  by_cases hl : 50 < L.length ∨ 8 < G.length
  · have e0 : newE L G = (4, -1) := if_pos hl
    refine (actNew_long px qx cap qcap L G w h1 h2 hl).mono ?_
    rintro e w' ⟨rfl, hb⟩
    exact ⟨hb, Or.inr ⟨by rw [e0]; decide, _, rfl, by rw [e0]; exact Or.inr (Or.inl ⟨rfl, by decide, rfl⟩)⟩⟩
  have hl1 : ¬ 50 < L.length := fun h => hl (Or.inl h)
  have hl2 : ¬ 8 < G.length := fun h => hl (Or.inr h)
  have HN : Hid (newE L G = if ∀ g ∈ G, okB g.n g.t g.R then flawsE L.length G.length L 0 else (2, -1)) := if_neg hl
  have HC := cloneA (cap := cap) w hA hn (by omega)
  have HA : Hid (ArgAt Ac.cells w px L) := hA
  have HG : Hid (ArgAt Bk.cells w qx G) := hG
  have HFIT : Hid (∀ x ∈ L, x.fit) := hfit
  have hGR := greatest_any L.length G.length (by omega) (by omega)
  obtain ⟨n, HNN⟩ : ∃ n, Hid (L.length = n) := ⟨_, rfl⟩
  obtain ⟨m, HMM⟩ : ∃ m, Hid (G.length = m) := ⟨_, rfl⟩
  rw [HNN.out] at HC hGR hl1
  rw [HMM.out] at hGR hl2
  rw [HNN.out, HMM.out]
  obtain ⟨i0, hi, hz0, hz1, hz2⟩ := info_parts infoSt
  clear hA hG hfit hn hl h1 h2
  go_enter Tryd.func5, Tryd.ntmps5
  go_wp2_with (go_at_call 12; refine HC.mono ?_; rintro e w1 ⟨av, rfl, hs1, ho1, hb1⟩; obtain ⟨x5, n5, c5, rfl⟩ := hs1.shape)
  go_loopw [30] (fun i wr => ∃ (k : Nat) (bv : Value) (ps : List Nat), k ≤ m ∧ i = .int .i64 k ∧ Hid (PrAt wr w.heap.size w1.heap.size (.slice x5 n5 c5) bv ps L (List.replicate 8 0) ((G.take k).map B0)) ∧ Hid (∀ g ∈ G.take k, okB g.n g.t g.R) ∧ Hid (∀ q, bv.ownBlock = some q → w.heap.size ≤ q) ∧ Hid (Below w.heap.size w wr)) (fun i _ => m - (intOf i).toNat)
  case atStart =>
    refine ⟨0, .slice none 0 0, [], Nat.zero_le _, rfl, ?_, fun g hg => by simp at hg, fun q hq => by simp [Value.ownBlock] at hq, below_alloc_ hb1 _⟩
    exact ⟨new_block_ rfl, by simp, by rw [HNN.out]; exact hs1.alloc _, Seg.nil _ _ _, List.nodup_nil, fun i s b h => by simp at h, hb1.size, fun s hs => by simp at hs⟩
  case round =>
    obtain ⟨k, bv, ps, hk, rfl, HP, HO, HBV, HB⟩ := hrel
    clear hs1 ho1 hb1
    by_cases hlt : k < m
    · obtain ⟨g, hg⟩ : ∃ g, G[k]? = some g := ⟨_, List.getElem?_eq_getElem (by rw [HMM.out]; exact hlt)⟩
      obtain ⟨qb, qoff, rfl, hqb, q0, q1, q2⟩ := (HG.out.below HB.out).bks hg
      by_cases hok : okB g.n g.t g.R
      · have HOK : Hid (okB g.n g.t g.R) := hok
        have HTK : Hid (G.take (k + 1) = G.take k ++ [g]) := take_next hg
        have HLK : Hid (((G.take k).map B0).length = k) := by
          show _ = k
          rw [List.length_map, List.length_take, HMM.out]
          omega
        clear hok hg
        obtain ⟨gn, gt, gR⟩ := g
        simp only at q0 q1 q2
        go_wp2_with (first | (go_at_call 13; refine (new_yes _ _ _ _ HOK.out).mono ?_; rintro e w2 ⟨s, rfl, hs2, hst2, hb2⟩; have HP2 : Hid (PrAt w2 w.heap.size w1.heap.size (.slice x5 n5 c5) bv ps L (List.replicate 8 0) ((G.take k).map B0)) := (HP.out.alloc _).below hb2; have c1 := (HP2.out.cell (i := 1) rfl).1) | (at_builtin; refine wpList_append_seg _ rfl (.tmp 46) (.tmp 48) 45 rfl 53 i0 _ 1 8 Tryd.underlying45 hi hz0 hz1 hz2 rfl (by decide) bv k _ rfl (by have := HP2.out.bks.alloc (.cells #[.pointer (some ⟨s, 0, none⟩)] 53); rw [HLK.out] at this; exact this) ⟨w2.heap.size, 0, none⟩ 1 1 [ptrS s] rfl rfl (news_of (new_block_ (by simp))) (by simp [ptrS, Value.oneCell']) (by decide) (by unfold maxLen; omega) (by omega) _ rfl ?_; intro g goff gcap w3 hs3 hg3 ha3 hl3; have HPA : Hid (PrAt (w2.alloc (.cells #[.pointer (some ⟨s, 0, none⟩)] 53)) w.heap.size w1.heap.size (.slice x5 n5 c5) bv ps L (List.replicate 8 0) ((G.take k).map B0)) := HP2.out.alloc _; have hpq : w3.heap[w1.heap.size]? = (w2.alloc (.cells #[.pointer (some ⟨s, 0, none⟩)] 53)).heap[w1.heap.size]? := hg3.block _ HPA.out.lt (fun e => (by obtain ⟨cur, hc⟩ := HPA.out.bks.ty e.symm; exact noEqT HPA.out.hd hc (by decide) rfl)); have d1 : w3.cell? ⟨w1.heap.size, 1, none⟩ = some bv := (by rw [World.cell?_of_block (w := w2.alloc _) hpq]; exact (HPA.out.cell (i := 1) rfl).1); have d2 : w3.frozen? ⟨w1.heap.size, 1, none⟩ = false := (by simp [World.frozen?, hpq, HPA.out.hd])))
        go_roundw
        case rel =>
          refine ⟨k + 1, .slice (some ⟨g, goff, none⟩) (k + 1) gcap, ps ++ [s], by omega, by go_num, ?_, ?_, ?_, ?_⟩
          · have hsz : wr.heap.size + 1 ≤ s := by simpa using hs2
            have hB := HB.out.size
            have hp := HPA.out.push (s := s) (b := B0 ⟨gn, gt, gR⟩) (hst2.alloc _) (B0_ok HOK.out) (by omega) (fun h => by have := HP.out.fresh h; omega) (by rw [HLK.out]; exact hs3) hg3 (fun q hq => by
              simp only [Value.ownBlock, Option.some.injEq] at hq
              subst hq
              rcases ha3 with h | h
              · obtain ⟨cur, hc⟩ := HPA.out.bks.ty h
                exact noEqT hc HPA.out.hd (by decide)
              · have := HPA.out.lt
                omega)
            show PrAt _ _ _ _ _ _ _ _ _
            rw [HTK.out, List.map_append]
            exact hp
          · intro g' hg'
            rw [HTK.out] at hg'
            rcases List.mem_append.1 hg' with h | h
            · exact HO.out g' h
            · simp at h; subst h; exact HOK.out
          · intro q hq
            simp only [Value.ownBlock, Option.some.injEq] at hq
            subst hq
            rcases ha3 with h | h
            · exact HBV.out _ h
            · have := HPA.out.lt
              have := HPA.out.hb
              omega
          · show Below _ _ _
            have h0 : Below w.heap.size w (w2.alloc (.cells #[.pointer (some ⟨s, 0, none⟩)] 53)) := below_alloc_ (below_after (below_alloc_ HB.out _) hb2) _
            refine below_set_ (below_grown_ h0 hg3 (fun q hq => ?_)) (by exact HPA.out.hb) _
            exact HBV.out q hq
        case measure => simp [intOf]; omega
      · have HOK : Hid (¬ okB g.n g.t g.R) := hok
        have HE : Hid (newE L G = (2, -1)) := by
          show newE L G = _
          rw [HN.out, if_neg (fun h => hok (h g (List.mem_iff_getElem?.2 ⟨k, hg⟩)))]
        clear hok hg
        obtain ⟨gn, gt, gR⟩ := g
        simp only at q0 q1 q2
        go_wp2_with (go_at_call 13; refine (new_no _ _ _ _ HOK.out).mono ?_; rintro e w2 ⟨rfl, hb2⟩)
        go_ret2
        exact ⟨below_after (below_alloc_ HB.out _) hb2, Or.inr ⟨by rw [HE.out]; decide, _, rfl, by rw [HE.out]; exact Or.inr (Or.inl ⟨rfl, by decide, rfl⟩)⟩⟩
    · obtain rfl : k = m := by omega
      rename World => wo
      have HTA : Hid (G.take k = G) := List.take_of_length_le (by rw [HMM.out]; exact Nat.le_refl _)
      have HP' : Hid (PrAt wo w.heap.size w1.heap.size (.slice x5 n5 c5) bv ps L (List.replicate 8 0) (G.map B0)) := by have := HP.out; rw [HTA.out] at this; exact this
      have HN' : Hid (newE L G = flawsE n k L 0) := by
        show newE L G = _
        rw [HN.out, HNN.out, HMM.out, if_pos]
        have := HO.out
        rw [HTA.out] at this
        exact this
      clear HP HO HN hi hz0 hz1 hz2
      go_wp2_with (go_at_call 14; refine (hGR _).mono ?_; rintro e w2 ⟨rfl, hm2, hb2⟩)
      go_loopw [60] (fun i wt => ∃ q : Nat, q ≤ n ∧ i = .int .i64 q ∧ Hid (PrAt wt w.heap.size w1.heap.size (.slice x5 n5 c5) bv ps L (List.replicate 8 0) (G.map B0)) ∧ Hid (MostM wt wo.heap.size n k) ∧ Hid (∀ j y, j < q → L[j]? = some y → flawA n k y = 0) ∧ Hid (Below w.heap.size w wt)) (fun i _ => n - (intOf i).toNat)
      case atStart => exact ⟨0, Nat.zero_le _, rfl, HP'.out.below hb2, hm2, fun j y hj => by omega, below_after HB.out hb2⟩
      case round =>
        obtain ⟨q, hq, rfl, HPQ, HMQ, HFQ, HBQ⟩ := hrel
        clear hm2 hb2
        by_cases hlt : q < n
        · obtain ⟨x, hx⟩ : ∃ x, L[q]? = some x := ⟨_, List.getElem?_eq_getElem (by rw [HNN.out]; exact hlt)⟩
          obtain ⟨ab, aoff, rfl, hab, a0, a1, a2⟩ := (HA.out.below HBQ.out).acts hx
          have HFT : Hid x.fit := HFIT.out x (List.mem_iff_getElem?.2 ⟨q, hx⟩)
          have HX : Hid (L[q]? = some x) := hx
          obtain ⟨ev, HEV⟩ : ∃ ev, Hid (flawA n k x = ev) := ⟨_, rfl⟩
          have HFL := fun (W : World) (h : MostM W wo.heap.size n k) => flaw_any n k x HFT.out wo.heap.size W h
          rw [HEV.out] at HFL
          obtain ⟨xk, xa, xb⟩ := x
          simp only at a0 a1 a2
          clear hx
          by_cases hz : ev = 0
          · subst hz
            go_wp2_with (go_at_call 15; refine (HFL _ (Tb.below HMQ.out (below_alloc_ (Below.refl _ _) _))).mono ?_; rintro e w3 ⟨rfl, hb3⟩)
            go_roundw
            case rel =>
              have hb3' := below_after (below_alloc_ (Below.refl _ _) _) hb3
              refine ⟨q + 1, by omega, by go_num, HPQ.out.below hb3', Tb.below HMQ.out hb3', fun j y hj hy => ?_, below_after HBQ.out hb3'⟩
              by_cases hjq : j = q
              · subst hjq
                rw [HX.out] at hy
                obtain rfl := Option.some.inj hy
                exact HEV.out
              · exact HFQ.out j y (by omega) hy
            case measure => simp [intOf]; omega
          · have HE : Hid (newE L G = (ev, (q : Int))) := by
              show newE L G = _
              rw [HN'.out, flawsE_at L 0 q _ HX.out HFQ.out (by rw [HEV.out]; exact hz), HEV.out, Nat.zero_add]
            go_wp2_with (go_at_call 15; refine (HFL _ (Tb.below HMQ.out (below_alloc_ (Below.refl _ _) _))).mono ?_; rintro e w3 ⟨rfl, hb3⟩)
            go_ret2
            refine ⟨below_alloc_ (below_after (below_alloc_ HBQ.out _) hb3) _, Or.inr ⟨by rw [HE.out]; exact hz, _, rfl, ?_⟩⟩
            rw [HE.out]
            exact Or.inr (Or.inr ⟨w3.heap.size, rfl, by simp, by simp, hz, by simp⟩)
        · obtain rfl : q = n := by omega
          have HE : Hid (newE L G = (0, -1)) := by
            show newE L G = _
            rw [HN'.out]
            refine flawsE_fine L 0 fun x hx => ?_
            obtain ⟨j, hj⟩ := List.mem_iff_getElem?.1 hx
            exact HFQ.out j x (by rw [← HNN.out]; exact (List.getElem?_eq_some_iff.1 hj).1) hj
          go_wp2
          go_ret2
          exact ⟨HBQ.out, Or.inl ⟨by rw [HE.out], w1.heap.size, _, bv, ps, rfl, HPQ.out⟩⟩
end Go.Proofs.YtnoppfgikanebaaDoor
