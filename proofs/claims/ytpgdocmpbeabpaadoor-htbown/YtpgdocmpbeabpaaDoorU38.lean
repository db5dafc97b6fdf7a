/-
  Slices of packets in a slice, and one more beside it (number N), all apart from each other. Nothing of the program is claimed here by itself.
  HtbOwn: the packets of each leaf. Mathematics alone.
  millracekeep.borrows: it returns true. No condition but that errors.errorType is laid.
-/
import Derived.Test.YtpgdocmpbeabpaaDoorFa
import Derived.Test.YtpgdocmpbeabpaaDoorU23
import Derived.Test.YtpgdocmpbeabpaaDoorU3
import Derived.Test.YtpgdocmpbeabpaaDoorZo1
import Derived.Test.YtpgdocmpbeabpaaDoorU35
import Derived.Test.YtpgdocmpbeabpaaDoorKm
import Derived.Test.YtpgdocmpbeabpaaDoorPy
namespace Go.Proofs.YtpgdocmpbeabpaaDoor
open Go.RowKit Go.Extern.Stop Go.Stop Go.Extern

/-- The cells of a packet. -/
def It.cl (x : It) : List Value := [.int .i64 x.a, .int .i64 x.l, .int .i64 x.f, .int .i64 x.b, .int .i64 x.m]
theorem It.cl_len (x : It) : x.cl.length = 5 := rfl
theorem It.cl_one (x : It) : ∀ u ∈ x.cl, u.oneCell' = true := by
  intro u hu
  simp only [It.cl, List.mem_cons, List.not_mem_nil, or_false] at hu
  rcases hu with rfl | rfl | rfl | rfl | rfl <;> rfl
/-- Rows of packets: N of them in block g, and one beside it. -/
structure GoAt (w : World) (g N : Nat) (vs : Nat → Value) (G : Nat → List It) (base : Nat) : Prop where
  blk : Blk w g N 35 vs
  lo : base ≤ g
  row : ∀ c, c ≤ N → Seg w 37 5 (vs c) (G c).length (flt It.cl (G c))
  lr : ∀ c, c ≤ N → ∀ k, (vs c).ownBlock = some k → base ≤ k
  ne : ∀ c d, c ≤ N → d ≤ N → c ≠ d → ∀ k, (vs c).ownBlock = some k → (vs d).ownBlock ≠ some k
theorem GoAt.gNe {w : World} {g N : Nat} {vs : Nat → Value} {G : Nat → List It} {base : Nat} (h : GoAt w g N vs G base) {c : Nat} (hc : c ≤ N) {k : Nat} (hk : (vs c).ownBlock = some k) : k ≠ g := by
  rintro rfl
  obtain ⟨cur, h1⟩ := (h.row c hc).ty hk
  obtain ⟨cur', h2, _⟩ := h.blk
  rw [h1] at h2
  simp only [Option.some.injEq, Obj.cells.injEq] at h2
  exact absurd h2.2.1 (by decide)
theorem GoAt.below {w w' : World} {g N : Nat} {vs : Nat → Value} {G : Nat → List It} {base : Nat} (h : GoAt w g N vs G base) (hb : Below w.heap.size w w') : GoAt w' g N vs G base :=
  ⟨h.blk.kept (hb.block _ h.blk.lt), h.lo, fun c hc => (h.row c hc).below hb, h.lr, h.ne⟩
/-- A row lies in memory. -/
theorem seg_itemsC {w : World} {x : Option Addr} {n cap : Nat} {l : List It} (h : Seg w 37 5 (.slice x n cap) l.length (flt It.cl l)) : ItemsAt w x l ∧ n = l.length := by
  rcases h.form with ⟨h1, h2, _⟩ | ⟨b, off, cap', h1, _, _, _, h5⟩
  · cases h1
    exact ⟨Or.inl (List.eq_nil_of_length_eq_zero h2), h2.symm⟩
  · simp only [Value.slice.injEq] at h1
    obtain ⟨rfl, rfl, rfl⟩ := h1
    refine ⟨Or.inr ⟨b, off, rfl, fun i y hy => ?_⟩, rfl⟩
    have k : ∀ j, j < 5 → ∀ u, y.cl[j]? = some u → w.cell? ⟨b, off + i * 5 + j, none⟩ = some u := by
      intro j hj u hu
      rw [Nat.add_assoc]
      exact h5 _ _ ((flt_at It.cl 5 It.cl_len hy hj).trans hu)
    exact ⟨k 0 (by omega) _ rfl, k 1 (by omega) _ rfl, k 2 (by omega) _ rfl, k 3 (by omega) _ rfl, k 4 (by omega) _ rfl⟩
theorem flt_clC (l : List It) (y : It) : flt It.cl (l ++ [y]) = flt It.cl l ++ y.cl := by simp [flt]
/-- One more in a row. -/
theorem GoAt.grow {w w' : World} {g N : Nat} {vs : Nat → Value} {G : Nat → List It} {base : Nat} (h : GoAt w g N vs G base) {c : Nat} (hc : c ≤ N) {y : It} {b off cap : Nat} {w2 : World}
    (hs : Seg w' 37 5 (.slice (some ⟨b, off, none⟩) ((G c).length + 1) cap) ((G c).length + 1) (flt It.cl (G c) ++ y.cl)) (hg : w.grownBy w' (vs c).ownBlock) (ha : (vs c).ownBlock = some b ∨ w.heap.size ≤ b) (hbs : base ≤ w.heap.size)
    (h2 : (c < N ∧ w2 = w'.setCell ⟨g, c, none⟩ (.slice (some ⟨b, off, none⟩) ((G c).length + 1) cap)) ∨ (c = N ∧ w2 = w')) :
    GoAt w2 g N (updF vs c (.slice (some ⟨b, off, none⟩) ((G c).length + 1) cap)) (updF G c (G c ++ [y])) base := by
  have hgl := h.blk.lt
  have hbg : b ≠ g := by
    rcases ha with h' | h'
    · exact h.gNe hc h'
    · omega
  have hgk : w'.heap[g]? = w.heap[g]? := hg.block _ hgl (fun e => h.gNe hc e.symm rfl)
  have hsame : ∀ k, k ≠ g → w2.heap[k]? = w'.heap[k]? := fun k hk => by
    rcases h2 with ⟨_, rfl⟩ | ⟨_, rfl⟩
    · exact Below.heap_setCell _ _ _ _ hk
    · rfl
  have hnb : ∀ d, d ≤ N → d ≠ c → (vs d).ownBlock ≠ some b := fun d hd hdc e => by
    rcases ha with h' | h'
    · exact h.ne d c hd hc hdc b e h'
    · have := (h.row d hd).lt e
      omega
  refine ⟨?_, h.lo, fun d hd => ?_, fun d hd k hk => ?_, fun d f hd hf hdf k hk => ?_⟩
  · rcases h2 with ⟨_, rfl⟩ | ⟨e, rfl⟩
    · exact (h.blk.kept hgk).set c _
    · refine (h.blk.kept hgk).cong fun i hi => updF_ne (by omega)
  · by_cases e : d = c
    · subst e
      rw [updF_same, updF_same, flt_clC, List.length_append, List.length_singleton]
      refine hs.kept fun k hk => hsame k ?_
      cases hk
      exact hbg
    · rw [updF_ne e, updF_ne e]
      refine (h.row d hd).kept fun k hk => ?_
      rw [hsame k (h.gNe hd hk)]
      exact hg.block _ ((h.row d hd).lt hk) (fun e' => h.ne d c hd hc e k hk e'.symm)
  · by_cases e : d = c
    · subst e
      rw [updF_same] at hk
      cases hk
      rcases ha with h' | h'
      · exact h.lr d hd b h'
      · exact Nat.le_trans hbs h'
    · rw [updF_ne e] at hk
      exact h.lr d hd k hk
  · by_cases e : d = c
    · subst e
      rw [updF_same] at hk
      cases hk
      rw [updF_ne (fun e => hdf e.symm)]
      exact hnb f hf (fun e => hdf e.symm)
    · rw [updF_ne e] at hk
      by_cases e2 : f = c
      · subst e2
        rw [updF_same]
        intro e3
        cases e3
        exact hnb d hd e hk
      · rw [updF_ne e2]
        exact h.ne d f hd hf hdf k hk
end Go.Proofs.YtpgdocmpbeabpaaDoor
namespace Go.Proofs.YtpgdocmpbeabpaaDoor
open Go.RowKit Go.Extern.Stop Go.Stop Go.Extern

theorem okL.both {xs : List It} (h : okL xs) : (∀ x ∈ xs, x.ok = true) ∧ xs.Pairwise (fun a b => a.a ≤ b.a) := by
  have hfi := h.fine.1
  unfold okL at h
  have hl : ¬ 100 < xs.length := fun hl => by rw [listE_long hl] at h; simp at h
  have hf : ∀ j, j < xs.length → faultAt xs j = 0 := by
    intro j hj
    cases hb : firstBad xs with
    | none =>
      unfold firstBad at hb
      simp at hb
      exact hb j hj
    | some i =>
      exfalso
      simp only [listE, hl, if_false, hb] at h
      unfold firstBad at hb
      rw [List.find?_range_eq_some] at hb
      have := hb.1
      simp [h] at this
  refine ⟨fun x hx => ?_, ?_⟩
  · obtain ⟨k, hk⟩ := List.getElem?_of_mem hx
    have h1 := hf k (List.getElem?_eq_some_iff.1 hk).1
    cases ho : x.ok with
    | true => rfl
    | false => rw [fault_range hk ho] at h1; simp at h1
  · rw [List.pairwise_iff_getElem]
    intro i j hi hj hij
    induction j with
    | zero => omega
    | succ j ih =>
      have h2 := (hfi j xs[j] (List.getElem?_eq_getElem (by omega))).2 xs[j + 1] (List.getElem?_eq_getElem hj)
      by_cases e : i = j
      · subst e; exact h2
      · exact Int.le_trans (ih (by omega) (by omega)) h2
theorem okL_both {xs : List It} (h : ∀ x ∈ xs, x.ok = true) (hp : xs.Pairwise (fun a b => a.a ≤ b.a)) (hl : ¬ 100 < xs.length) : okL xs := by
  have hok : ∀ (i : Nat) (x : It), xs[i]? = some x → x.ok = true := fun i x hx => h x (List.mem_of_getElem? hx)
  unfold okL
  rw [listE_fine hl (fun j hj => ?_)]
  obtain ⟨x, hx⟩ : ∃ x, xs[j]? = some x := ⟨_, List.getElem?_eq_getElem hj⟩
  cases j with
  | zero => exact fault_first hx (hok _ _ hx)
  | succ j =>
    obtain ⟨y, hy⟩ : ∃ y, xs[j]? = some y := ⟨_, List.getElem?_eq_getElem (by omega)⟩
    refine fault_none hx hy (hok _ _ hx) ?_
    rw [List.getElem?_eq_some_iff] at hx hy
    obtain ⟨h1, e1⟩ := hx
    obtain ⟨h2, e2⟩ := hy
    have := List.pairwise_iff_getElem.1 hp j (j + 1) h2 h1 (by omega)
    rw [e1, e2] at this
    omega
/-- The packets of a leaf among the first. -/
def ofD (m : Nat) (xs : List It) (i c : Nat) : List It := (xs.take i).filter fun x => decide (x.f % (m : Int) = (c : Int))
theorem ofD_zero (m : Nat) (xs : List It) (c : Nat) : ofD m xs 0 c = [] := rfl
theorem ofD_succ {m : Nat} {xs : List It} {i : Nat} {x : It} (hx : xs[i]? = some x) (c : Nat) : ofD m xs (i + 1) c = if x.f % (m : Int) = (c : Int) then ofD m xs i c ++ [x] else ofD m xs i c := by
  have hi := (List.getElem?_eq_some_iff.1 hx)
  obtain ⟨h1, h2⟩ := hi
  unfold ofD
  rw [List.take_succ_eq_append_getElem h1, h2, List.filter_append]
  by_cases e : x.f % (m : Int) = (c : Int)
  · rw [if_pos e]; simp [e]
  · rw [if_neg e]; simp [e]
theorem ofD_len (m : Nat) (xs : List It) (i c : Nat) : (ofD m xs i c).length ≤ i := by
  unfold ofD
  exact Nat.le_trans (List.length_filter_le _ _) (by rw [List.length_take]; omega)
theorem ofD_pre (m : Nat) (xs : List It) {i j : Nat} (h : i ≤ j) (c : Nat) : ∃ r, ofD m xs j c = ofD m xs i c ++ r := by
  induction j with
  | zero =>
    obtain rfl : i = 0 := by omega
    exact ⟨[], by simp⟩
  | succ j ih =>
    by_cases e : i = j + 1
    · subst e; exact ⟨[], by simp⟩
    · obtain ⟨r, hr⟩ := ih (by omega)
      cases hx : xs[j]? with
      | none =>
        refine ⟨r, ?_⟩
        have hl := List.getElem?_eq_none_iff.1 hx
        rw [← hr]
        unfold ofD
        rw [List.take_of_length_le (by omega), List.take_of_length_le (by omega)]
      | some x =>
        rw [ofD_succ hx, hr]
        split
        · exact ⟨r ++ [x], by simp⟩
        · exact ⟨r, rfl⟩
theorem ofD_at {m : Nat} {xs : List It} {i N : Nat} {x : It} (hx : xs[i]? = some x) (hi : i < N) {c : Nat} (hc : x.f % (m : Int) = (c : Int)) : (ofD m xs N c)[(ofD m xs i c).length]? = some x := by
  obtain ⟨r, hr⟩ := ofD_pre m xs (show i + 1 ≤ N from hi) c
  rw [hr, ofD_succ hx, if_pos hc]
  simp
theorem ofD_okL {m : Nat} {xs : List It} (h : okL xs) (i c : Nat) : okL (ofD m xs i c) := by
  obtain ⟨h1, h2⟩ := h.both
  have hs : (ofD m xs i c).Sublist xs := List.Sublist.trans List.filter_sublist (List.take_sublist _ _)
  refine okL_both (fun x hx => h1 x (hs.subset hx)) (h2.sublist hs) ?_
  have := hs.length_le
  have := h.fine.2
  omega
/-- How many of each leaf's packets there were. -/
def ofC (m : Nat) (xs : List It) (i c : Nat) : Nat := (ofD m xs i c).length
theorem ofC_succ {m : Nat} {xs : List It} {i : Nat} {x : It} (hx : xs[i]? = some x) {f : Nat} (hf : x.f % (m : Int) = (f : Int)) : ofC m xs (i + 1) = updF (ofC m xs i) f (ofC m xs i f + 1) := by
  funext c
  unfold ofC
  rw [ofD_succ hx]
  by_cases e : c = f
  · subst e
    rw [updF_same, if_pos hf]
    simp
  · rw [updF_ne e, if_neg (by omega)]
theorem ofD_next {m : Nat} {xs : List It} {i : Nat} {x : It} (hx : xs[i]? = some x) {f : Nat} (hf : x.f % (m : Int) = (f : Int)) : updF (ofD m xs i) f (ofD m xs i f ++ [x]) = ofD m xs (i + 1) := by
  funext c
  rw [ofD_succ hx]
  by_cases e : c = f
  · subst e
    rw [updF_same, if_pos hf]
  · rw [updF_ne e, if_neg (by omega)]
theorem mod_at {m : Nat} (hm : 1 ≤ m) {z : Int} (hz : 0 ≤ z) : ∃ f : Nat, f < m ∧ z % (m : Int) = (f : Int) ∧ z.tmod (m : Int) = (f : Int) := by
  have h0 := Int.emod_nonneg z (show (m : Int) ≠ 0 by omega)
  have h1 := Int.emod_lt_of_pos z (show (0 : Int) < (m : Int) by omega)
  refine ⟨(z % (m : Int)).toNat, by omega, by omega, ?_⟩
  rw [Int.tmod_eq_emod_of_nonneg hz]
  omega
/-- The rows' values: N rows of packets, and nothing beside them. -/
def gE (N : Nat) (A : Nat → List It) (c : Nat) : List It := if c < N then A c else []
theorem gE_at {N : Nat} {A : Nat → List It} {c : Nat} (h : c < N) : gE N A c = A c := if_pos h
theorem gE_next {N : Nat} {A A' : Nat → List It} {f : Nat} {x : It} (hf : f < N) (hA : updF A f (A f ++ [x]) = A') : updF (gE N A) f (A f ++ [x]) = gE N A' := by
  funext c
  rw [← hA]
  unfold gE
  by_cases e : c = f
  · subst e
    rw [updF_same, updF_same, if_pos hf]
  · rw [updF_ne e, updF_ne e]
end Go.Proofs.YtpgdocmpbeabpaaDoor
namespace Go.Proofs.YtpgdocmpbeabpaaDoor
open Go.RowKit Go.Extern.Stop Go.Stop Go.Extern

def bCl : List HCl := [⟨-1, 1, 1, 100, 1, 1, 100, 0⟩, ⟨0, 1, 1, 10, 1, 1, 100, 0⟩]
def bSt : List Stp := [⟨0, 0, 0, 50, 1, 0, 0⟩, ⟨0, 0, 0, 50, 0, 0, 0⟩, ⟨1, 0, 0, 0, 0, 0, 0⟩]
def bSn : List Sn := [⟨-1, 0, -1, 1, 50, []⟩, ⟨-1, 0, -1, 1, 50, [1]⟩, ⟨0, 0, -1, 0, 0, []⟩]
def bK (tb g gcap : Nat) (nb rb cb : Nat → Nat) : HtK := ⟨tb, g, gcap, 2, 5, clsL bCl, innL bCl, nb, rb, cb⟩
theorem b_play (tb g gcap : Nat) (nb rb cb : Nat → Nat) : playFrom (HtM (bK tb g gcap nb rb cb)) ⟨nd0 (bK tb g gcap nb rb cb), 0, 0⟩ 0 (timesL 0 bSt) = bSn := by
  rfl
theorem b_ok : OkH bCl := by
  refine ⟨by decide, by decide, fun i c h => ?_⟩
  match i, h with
  | 0, h => cases h; rfl
  | 1, h => cases h; rfl
theorem NewH.bK {K : HtK} {base : Nat} {w : World} (h : NewH K bCl 5 base w) : K = Go.Proofs.YtpgdocmpbeabpaaDoor.bK K.tb K.g K.gcap K.nb K.rb K.cb := by
  obtain ⟨e1, e2, e3⟩ := h.of.eq
  have e4 := h.room
  obtain ⟨tb, g, gcap, N, room, cls, inner, nb, rb, cb⟩ := K
  simp only at e1 e2 e3 e4
  subst e1 e2 e3 e4
  rfl
theorem ptrTr (b : Nat) (w : World) : (binOp .eql 24 (.pointer (some ⟨b, 0, none⟩)) (.pointer none)).run Tryd.prog w = .ok (.bool false) w := by kernel_rfl
theorem bCl_at {w : World} {p : Nat} (h : w.heap[p]? = some (.cells #[.int .i64 (-1), .int .i64 1, .int .i64 1, .int .i64 100, .int .i64 1, .int .i64 1, .int .i64 100, .int .i64 0, .int .i64 0, .int .i64 1, .int .i64 1, .int .i64 10, .int .i64 1, .int .i64 1, .int .i64 100, .int .i64 0] 48 (0, 0))) : ArgAt HCl.cs w (some ⟨p, 0, none⟩) bCl :=
  Or.inr ⟨p, 0, rfl, lt_of_block h, fun j u hj => by
    have := news_of (l := flt HCl.cs bCl) h j u hj
    rw [Addr.add_lit] at this
    exact this⟩
set_option maxRecDepth 20000 in
set_option maxHeartbeats 4000000 in
theorem borrows_any (w : World) (hL : Laid w) : Calls Tryd.prog 6 #[] w fun e w' => e = .returned (.bool true) ∧ Below w.heap.size w w' := by
  have hp1 := ptrTr
  have HNW : Hid (∀ W p, Laid W → W.heap[p]? = some (.cells #[.int .i64 (-1), .int .i64 1, .int .i64 1, .int .i64 100, .int .i64 1, .int .i64 1, .int .i64 100, .int .i64 0, .int .i64 0, .int .i64 1, .int .i64 1, .int .i64 10, .int .i64 1, .int .i64 1, .int .i64 100, .int .i64 0] 48 (0, 0)) → Calls Tryd.prog 5 #[.slice (some ⟨p, 0, none⟩) 2 2, .int .i64 5] W fun e w' => Below W.heap.size W w' ∧ ∃ K, e = .returned (.tuple #[.pointer (some ⟨K.tb, 0, none⟩), .nilIface]) ∧ Hid (NewH K bCl 5 W.heap.size w')) := by
    intro W p hW hp
    refine (hnew_any bCl (some ⟨p, 0, none⟩) 2 5 W (bCl_at hp) hW (by decide)).mono ?_
    rintro e w' ⟨hb, ⟨hno, _⟩ | ⟨_, K, he, hK⟩⟩
    · exact absurd ⟨b_ok, by decide, by decide⟩ hno
    · exact ⟨hb, K, he, hK⟩
  have HL : Hid (Laid w) := hL
  clear hL
  go_enter Tryd.func6, Tryd.ntmps6
  go_wp2_with (go_at_call 5; fail)
  refine (HNW.out _ _ (HL.out.below (below_alloc_ (below_alloc_ (Below.refl _ _) _) _)) (new_block_ (by simp))).mono ?_
  rintro e w1 ⟨hb1, K, rfl, HK⟩
  have HB1 : Hid (Below w.heap.size w w1) := (below_alloc_ (below_alloc_ (Below.refl _ _) _) _).trans (hb1.mono (by simp <;> omega))
  clear hb1
  go_wp2_with (go_at_call 7; fail)
  obtain ⟨vs, ow, hAt, hF⟩ := HK.out.at'
  refine (play_any (HtM K) (htM_fine HK.out.ok) (HtF K vs) (⟨nd0 K, 0, 0⟩ : HtS) (some ⟨w1.heap.size, 0, none⟩) 3 bSt _ ?_ (by decide) ⟨vs, ow, hAt.below (below_alloc_ (Below.refl _ _) _), fun _ => Iff.rfl⟩ HK.out.inv).mono ?_
  · refine Or.inr ⟨w1.heap.size, 0, rfl, by simp, fun j u hj => ?_⟩
    have := news_of (new_block_ (w := w1) (o := .cells (flt Stp.cs bSt).toArray 39) (n := w1.heap.size) rfl) j u hj
    rw [Addr.add_lit] at this
    exact this
  rintro e w3 ⟨u, us, F, rfl, hsn, hot⟩
  have hpl : playFrom (HtM K) (⟨nd0 K, 0, 0⟩ : HtS) 0 (timesL 0 bSt) = bSn := by
    rw [HK.out.bK]
    exact b_play _ _ _ _ _ _
  rw [hpl] at hsn
  have hlen := hsn.len
  obtain ⟨u0, u1, u2, rfl⟩ : ∃ u0 u1 u2, us = [u0, u1, u2] := by
    match us, hlen with
    | [a, b, c], _ => exact ⟨a, b, c, rfl⟩
  obtain ⟨x, cap, rfl, hlies⟩ := hsn.lies
  obtain ⟨h0, _⟩ := hsn.lost 0 ⟨-1, 0, -1, 1, 50, []⟩ u0 rfl rfl
  obtain ⟨h1, _⟩ := hsn.lost 1 ⟨-1, 0, -1, 1, 50, [1]⟩ u1 rfl rfl
  obtain ⟨x0, c0, rfl⟩ : ∃ x c, u0 = .slice x 0 c := by
    rcases h0.form with ⟨h, _⟩ | ⟨b, off, cap, h, _⟩
    · exact ⟨_, _, h⟩
    · exact ⟨_, _, h⟩
  obtain ⟨x1, c1, rfl⟩ : ∃ x c, u1 = .slice x 1 c := by
    rcases h1.form with ⟨_, h, _⟩ | ⟨b, off, cap, h, _⟩
    · cases h
    · exact ⟨_, _, h⟩
  obtain ⟨b, off, rfl, hb, a0, a1, a2, a3, a4, a5⟩ := hlies.seen (k := 0) (p := (⟨-1, 0, -1, 1, 50, []⟩, .slice x0 0 c0)) rfl
  obtain ⟨b', off', e', hb', d0, d1, d2, d3, d4, d5⟩ := hlies.seen (k := 1) (p := (⟨-1, 0, -1, 1, 50, [1]⟩, .slice x1 1 c1)) rfl
  simp only [Option.some.injEq, Addr.mk.injEq, and_true] at e'
  obtain ⟨rfl, rfl⟩ := e'
  obtain ⟨b', off', e', hb'', f0, f1, f2, f3, f4, f5⟩ := hlies.seen (k := 2) (p := (⟨0, 0, -1, 0, 0, []⟩, u2)) rfl
  simp only [Option.some.injEq, Addr.mk.injEq, and_true] at e'
  obtain ⟨rfl, rfl⟩ := e'
  have HF : Hid (Below w.heap.size w w3) := HB1.out.trans ((below_alloc_ (Below.refl _ _) _ : Below w1.heap.size w1 _).mono HB1.out.size |>.trans (hot.below (by simp; have := HB1.out.size; omega) (fun k hk => by have := hF k hk; simp at this; omega)))
  clear hsn hlies h0 h1 hot hAt hF hpl
  simp only [Nat.reduceMul, Nat.add_zero] at a0 a1 a2 a3 a4 a5 d0 d1 d2 d3 d4 d5 f0 f1 f2 f3 f4 f5
  go_wp2
  go_ret
  exact ⟨rfl, HF.out⟩
end Go.Proofs.YtpgdocmpbeabpaaDoor
