/-
  package htb: a packet is sent: taken out of its list, and its bytes out of the buckets. Conditions: the tree lies in memory as its state tells; times up to 1000000000.
-/
import Derived.Test.YtpgdocmpbeabpaaDoorU16
namespace Go.Proofs.YtpgdocmpbeabpaaDoor
open Go.RowKit Go.Extern.Stop Go.Stop Go.Extern

theorem ret_held1 {fn : Func} {p : Tmp} (h : fn.results = #[.cell p 60]) {tmps : Array Value} {w : World} {r : Nat} {x : Hd} {t : TypeId} {fr : Nat × Nat} (hp : tmps.getD p undef = .pointer (some ⟨r, 0, none⟩)) (hx : w.heap[r]? = some (.cells #[.int .i64 x.a, .int .i64 x.l, .int .i64 x.f, .int .i64 x.b, .int .i64 x.m, .int .i64 x.n] t fr)) :
    (results fn tmps).run Tryd.prog w = .ok x.val w := by
  rw [Array.getD_eq_getD_getElem?] at hp
  simp only [results, h]
  simp [hp, asAddr, load_held hx]
theorem nodeC_list (K : HtK) (x : HNd) (i : Nat) (v v' : Value) (L' : List Hd) : ∀ j, j < 15 → nodeC K { x with L := L' } i v' j = updL (nodeC K x i v) 12 v' L' j := by
  intro j hj
  have : j = 0 ∨ j = 1 ∨ j = 2 ∨ j = 3 ∨ j = 4 ∨ j = 5 ∨ j = 6 ∨ j = 7 ∨ j = 8 ∨ j = 9 ∨ j = 10 ∨ j = 11 ∨ j = 12 ∨ j = 13 ∨ j = 14 := by omega
  rcases this with rfl | rfl | rfl | rfl | rfl | rfl | rfl | rfl | rfl | rfl | rfl | rfl | rfl | rfl | rfl <;> rfl
theorem LO.node {K : HtK} {w : World} {x : HNd} {i : Nat} {v v' : Value} {L' : List Hd} (h : LO w (K.nb i) 15 94 (updL (nodeC K x i v) 12 v' L') 12 v' L') : LO w (K.nb i) 15 94 (nodeC K { x with L := L' } i v') 12 v' L' :=
  ⟨h.blk.cong (nodeC_list K x i v v' L'), h.lt, rfl, rfl, h.row, h.ne⟩
/-- One less waits. -/
def popN (s : HtS) (i : Nat) : HtS := { s with nd := updN s.nd i { s.nd i with L := (s.nd i).L.tail } }
theorem HtI.pop {K : HtK} {t : Int} {n : Nat} {s : HtS} (h : HtI K t n s) (i : Nat) : HtI K t n (popN s i) := by
  refine ⟨h.tm, h.t0, fun j hj => ?_, fun j hj => ?_, fun j hj => ?_, fun j hj hin => ?_⟩
  · show BkOk _ _ _ (updN s.nd i _ j).rl (updN s.nd i _ j).ra s.tm
    by_cases e : j = i
    · subst e; rw [updN_same]; exact h.rate j hj
    · rw [updN_ne e]; exact h.rate j hj
  · show BkOk _ _ _ (updN s.nd i _ j).cl (updN s.nd i _ j).ca s.tm
    by_cases e : j = i
    · subst e; rw [updN_same]; exact h.ceil j hj
    · rw [updN_ne e]; exact h.ceil j hj
  · show (updN s.nd i _ j).L.length ≤ n ∧ ∀ x ∈ (updN s.nd i _ j).L, _
    by_cases e : j = i
    · subst e
      rw [updN_same]
      have := h.wait j hj
      refine ⟨?_, fun x hx => this.2 x (List.mem_of_mem_tail hx)⟩
      show (s.nd j).L.tail.length ≤ n
      rw [List.length_tail]
      omega
    · rw [updN_ne e]; exact h.wait j hj
  · show (updN s.nd i _ j).L = []
    by_cases e : j = i
    · subst e
      rw [updN_same]
      show (s.nd j).L.tail = []
      rw [h.inner j hj hin]
      rfl
    · rw [updN_ne e]; exact h.inner j hj hin
/-- What sending leaves. -/
def sendM (K : HtK) (now : Int) (s : HtS) (o : Ofr) : HtS := (hL K (some o.lend)).foldl (rateT K now (hdOr (s.nd o.leaf).L).l) ((hL K (some o.leaf)).foldl (ceilT K now (hdOr (s.nd o.leaf).L).l) (popN s o.leaf))
theorem ceilTake {K : HtK} {w : World} {s : HtS} {vs : Nat → Value} {ow : Nat → Nat × Nat} {t : Int} {n : Nat} (h : HtAt K w s vs ow) (hI : HtI K t n s) {now x : Int} (hn : s.tm = now) (h2 : now ≤ 1000000000) (hx0 : 0 ≤ x) (hx1 : x ≤ 1000000) {i : Nat} (hi : i < K.N) :
    Calls Tryd.prog 25 #[.pointer (some ⟨K.cb i, 0, none⟩), .int .i64 now, .int .i64 x] w fun e w' => (∃ b, e = .returned (.bool b)) ∧ Hid (HtAt K w' (ceilT K now x s i) vs ow) ∧ Hid (Ot (HtF K vs) w w') := by
  refine (take_bk now x w (h.ceil i hi) (hI.ceil i hi) (by omega) (by omega) hx0 hx1).mono ?_
  rintro e w' ⟨rfl, h1, h2⟩
  have h3 := h.ceilSet hi h2 (h1.bkt (tm := s.tm) (by have := ((hI.ceil i hi).told now (by omega)).2; omega))
  exact ⟨⟨_, rfl⟩, h3, h2.mono (fun k _ hk => Or.inr (Or.inr ⟨i, hi, Or.inr (Or.inr (Or.inl hk))⟩))⟩
theorem rateTake {K : HtK} {w : World} {s : HtS} {vs : Nat → Value} {ow : Nat → Nat × Nat} {t : Int} {n : Nat} (h : HtAt K w s vs ow) (hI : HtI K t n s) {now x : Int} (hn : s.tm = now) (h2 : now ≤ 1000000000) (hx0 : 0 ≤ x) (hx1 : x ≤ 1000000) {i : Nat} (hi : i < K.N) :
    Calls Tryd.prog 25 #[.pointer (some ⟨K.rb i, 0, none⟩), .int .i64 now, .int .i64 (min x (hasR K s now i))] w fun e w' => (∃ b, e = .returned (.bool b)) ∧ Hid (HtAt K w' (rateT K now x s i) vs ow) ∧ Hid (Ot (HtF K vs) w w') := by
  have hmin : 0 ≤ hasR K s now i := (hasB_bd (now := now) (hI.rate i hi)).1
  refine (take_bk now (min x (hasR K s now i)) w (h.rate i hi) (hI.rate i hi) (by omega) (by omega) (by omega) (by omega)).mono ?_
  rintro e w' ⟨rfl, h1, h2⟩
  have h3 := h.rateSet hi h2 (h1.bkt (tm := s.tm) (by have := ((hI.rate i hi).told now (by omega)).2; omega))
  exact ⟨⟨_, rfl⟩, h3, h2.mono (fun k _ hk => Or.inr (Or.inr ⟨i, hi, Or.inr (Or.inl hk)⟩))⟩
set_option maxRecDepth 20000 in
set_option maxHeartbeats 4000000 in
theorem send_ht {K : HtK} {s : HtS} {vs : Nat → Value} {ow : Nat → Nat × Nat} {t : Int} {n : Nat} (hK : HtKOk K) (now : Int) (o : Ofr) {x : Hd} {r : List Hd} (hi0 : o.leaf < K.N) (hm0 : o.lend < K.N) (hLx : (s.nd o.leaf).L = x :: r) (w : World) (h : HtAt K w s vs ow) (hI : HtI K t n s) (hnn : n ≤ 1001) (hn : s.tm = now) (h2 : now ≤ 1000000000) :
    Calls Tryd.prog 33 #[.agg #[.pointer (some ⟨K.nb o.leaf, 0, none⟩), .pointer (some ⟨K.nb o.lend, 0, none⟩), .int .i64 o.steps], .int .i64 now] w fun e w' => e = .returned x.val ∧ ∃ vs' ow', Hid (HtAt K w' (sendM K now s o) vs' ow') ∧ Hid (∀ k, HtF K vs' k → HtF K vs k ∨ w.heap.size ≤ k) ∧ Hid (Ot (HtF K vs) w w') := by
  have HK : Hid (HtKOk K) := hK
  have H : Hid (HtAt K w s vs ow) := h
  have hx := (hI.wait o.leaf hi0).2 x (by rw [hLx]; simp)
  have HNX : Hid (∀ W, HtAt K W s vs ow → Calls Tryd.prog 44 #[.pointer (some ⟨K.nb o.leaf, 12, none⟩)] W fun e w' => e = .returned (.tuple #[.agg #[.int .i64 x.a, .int .i64 x.l, .int .i64 x.f, .int .i64 x.b, .int .i64 x.m, .int .i64 x.n], .bool true]) ∧ ∃ vs' ow', Hid (HtAt K w' (popN s o.leaf) vs' ow') ∧ Hid (∀ k, HtF K vs' k → HtF K vs k ∨ W.heap.size ≤ k) ∧ Hid (Ot (HtF K vs) W w')) := by
    intro W hW
    have hw := hI.wait o.leaf hi0
    refine (nextO_any W (hW.node o.leaf hi0) ⟨by omega, hw.2⟩).mono ?_
    rintro e w' ⟨rfl, v', h1, h3, h4⟩
    obtain ⟨ow', h5, h6⟩ := hW.nodeSet hi0 (x := { s.nd o.leaf with L := (s.nd o.leaf).L.tail }) (v' := v') rfl rfl rfl rfl h1.node (h4.mono (fun k _ e => Or.inl e)) (fun k hk => Or.inl (by rw [← h3]; exact hk))
    refine ⟨by rw [hLx]; rfl, _, ow', h5, h6, h4.mono (fun k _ e => Or.inr (Or.inr ⟨_, hi0, Or.inl e⟩))⟩
  have HCT : Hid (∀ W s' vs' ow' i, HtAt K W s' vs' ow' → HtI K t n s' → s'.tm = now → i < K.N → Calls Tryd.prog 25 #[.pointer (some ⟨K.cb i, 0, none⟩), .int .i64 now, .int .i64 x.l] W fun e w' => (∃ b, e = .returned (.bool b)) ∧ Hid (HtAt K w' (ceilT K now x.l s' i) vs' ow') ∧ Hid (Ot (HtF K vs') W w')) := fun W s' vs' ow' i h1 h3 h4 h5 => ceilTake h1 h3 h4 h2 hx.1 (by omega) h5
  have HRT : Hid (∀ W s' vs' ow' i, HtAt K W s' vs' ow' → HtI K t n s' → s'.tm = now → i < K.N → Calls Tryd.prog 25 #[.pointer (some ⟨K.rb i, 0, none⟩), .int .i64 now, .int .i64 (min x.l (hasR K s' now i))] W fun e w' => (∃ b, e = .returned (.bool b)) ∧ Hid (HtAt K w' (rateT K now x.l s' i) vs' ow') ∧ Hid (Ot (HtF K vs') W w')) := fun W s' vs' ow' i h1 h3 h4 h5 => rateTake h1 h3 h4 h2 hx.1 (by omega) h5
  have HHAS : Hid (∀ W s' vs' ow' i, HtAt K W s' vs' ow' → HtI K t n s' → s'.tm = now → i < K.N → Calls Tryd.prog 45 #[.pointer (some ⟨K.rb i, 0, none⟩), .int .i64 now] W fun e w' => e = .returned (.int .i64 (hasR K s' now i)) ∧ Hid (HtAt K w' s' vs' ow') ∧ Hid (Ot (HtF K vs') W w')) := fun W s' vs' ow' i h1 h3 h4 h5 => hasR_told h1 h3 h4 h2 h5
  have HLW : Hid (∀ k, HtF K vs k → k < w.heap.size) := h.low
  have HI1 : Hid (HtI K t n (popN s o.leaf)) := hI.pop o.leaf
  have HTM : Hid ((popN s o.leaf).tm = now) := hn
  have HX0 : Hid (0 ≤ x.l) := hx.1
  obtain ⟨S2, hS2⟩ : ∃ S2, (hL K (some o.leaf)).foldl (ceilT K now x.l) (popN s o.leaf) = S2 := ⟨_, rfl⟩
  obtain ⟨S3, hS3⟩ : ∃ S3, (hL K (some o.lend)).foldl (rateT K now x.l) S2 = S3 := ⟨_, rfl⟩
  have HS2 : Hid (S2 = (hL K (some o.leaf)).foldl (ceilT K now x.l) (popN s o.leaf)) := hS2.symm
  have HS3 : Hid (S3 = (hL K (some o.lend)).foldl (rateT K now x.l) S2) := hS3.symm
  have hsend : sendM K now s o = S3 := by
    unfold sendM
    rw [hLx]
    show (hL K (some o.lend)).foldl (rateT K now x.l) ((hL K (some o.leaf)).foldl (ceilT K now x.l) (popN s o.leaf)) = S3
    rw [hS2, hS3]
  rw [hsend]
  have hnow : now ≤ 1000000000 := h2
  clear hK h hI hn h2 hLx hS2 hS3 hsend hx hnn
  go_enter Tryd.func33, Tryd.ntmps33
  have HB0 : Hid (((w.alloc (.cells #[.pointer (some ⟨K.nb o.leaf, 0, none⟩), .pointer (some ⟨K.nb o.lend, 0, none⟩), .int .i64 o.steps] 98)).alloc (.cells #[.int .i64 0, .int .i64 0, .int .i64 0, .int .i64 0, .int .i64 0, .int .i64 0] 60)).heap[w.heap.size]? = some (.cells #[.pointer (some ⟨K.nb o.leaf, 0, none⟩), .pointer (some ⟨K.nb o.lend, 0, none⟩), .int .i64 o.steps] 98 (0, 0))) := (Below.heap_alloc _ _ _ (by simp)).trans (new_block _ _)
  have HB1 : Hid (((w.alloc (.cells #[.pointer (some ⟨K.nb o.leaf, 0, none⟩), .pointer (some ⟨K.nb o.lend, 0, none⟩), .int .i64 o.steps] 98)).alloc (.cells #[.int .i64 0, .int .i64 0, .int .i64 0, .int .i64 0, .int .i64 0, .int .i64 0] 60)).heap[w.heap.size + 1]? = some (.cells #[.int .i64 0, .int .i64 0, .int .i64 0, .int .i64 0, .int .i64 0, .int .i64 0] 60 (0, 0))) := new_block_ (by simp)
  have HN0 := HNX.out ((w.alloc (.cells #[.pointer (some ⟨K.nb o.leaf, 0, none⟩), .pointer (some ⟨K.nb o.lend, 0, none⟩), .int .i64 o.steps] 98)).alloc (.cells #[.int .i64 0, .int .i64 0, .int .i64 0, .int .i64 0, .int .i64 0, .int .i64 0] 60)) (H.out.below (below_alloc_ (below_alloc_ (Below.refl _ _) _) _))
  have hs0 : ((w.alloc (.cells #[.pointer (some ⟨K.nb o.leaf, 0, none⟩), .pointer (some ⟨K.nb o.lend, 0, none⟩), .int .i64 o.steps] 98)).alloc (.cells #[.int .i64 0, .int .i64 0, .int .i64 0, .int .i64 0, .int .i64 0, .int .i64 0] 60)).heap.size = w.heap.size + 2 := by simp
  have HO0 : Hid (Ot (HtF K vs) w ((w.alloc (.cells #[.pointer (some ⟨K.nb o.leaf, 0, none⟩), .pointer (some ⟨K.nb o.lend, 0, none⟩), .int .i64 o.steps] 98)).alloc (.cells #[.int .i64 0, .int .i64 0, .int .i64 0, .int .i64 0, .int .i64 0, .int .i64 0] 60))) := ((Ot.refl _ _).alloc _).alloc _
  have o0 : ((w.alloc (.cells #[.pointer (some ⟨K.nb o.leaf, 0, none⟩), .pointer (some ⟨K.nb o.lend, 0, none⟩), .int .i64 o.steps] 98)).alloc (.cells #[.int .i64 0, .int .i64 0, .int .i64 0, .int .i64 0, .int .i64 0, .int .i64 0] 60)).cell? ⟨w.heap.size, 0, none⟩ = some (.pointer (some ⟨K.nb o.leaf, 0, none⟩)) := by have h := HB0.out; simp only [World.cell?]; rw [h]; rfl
  have o0l : w.heap.size < w.heap.size + 2 := by omega
  go_wp2_with fail
  clear o0
  generalize (w.alloc (.cells #[.pointer (some ⟨K.nb o.leaf, 0, none⟩), .pointer (some ⟨K.nb o.lend, 0, none⟩), .int .i64 o.steps] 98)).alloc (.cells #[.int .i64 0, .int .i64 0, .int .i64 0, .int .i64 0, .int .i64 0, .int .i64 0] 60) = w0 at *
  refine HN0.mono ?_
  rintro e w1 ⟨rfl, vs1, ow1, HA1, HF1, HO1⟩
  have hs1 : w.heap.size + 2 ≤ w1.heap.size := by have := HO1.out.size; omega
  have hnv : ∀ k, HtF K vs k → k ≠ w.heap.size ∧ k ≠ w.heap.size + 1 := fun k hk => by have := HLW.out k hk; omega
  have HC0 : Hid (w1.heap[w.heap.size]? = some (.cells #[.pointer (some ⟨K.nb o.leaf, 0, none⟩), .pointer (some ⟨K.nb o.lend, 0, none⟩), .int .i64 o.steps] 98 (0, 0))) := (HO1.out.block _ (lt_of_block HB0.out) (fun hk => (hnv _ hk).1 rfl)).trans HB0.out
  have HC1 : Hid (w1.heap[w.heap.size + 1]? = some (.cells #[.int .i64 0, .int .i64 0, .int .i64 0, .int .i64 0, .int .i64 0, .int .i64 0] 60 (0, 0))) := (HO1.out.block _ (lt_of_block HB1.out) (fun hk => (hnv _ hk).2 rfl)).trans HB1.out
  have HNF1 : Hid (∀ k, HtF K vs1 k → k ≠ w1.heap.size ∧ k ≠ w.heap.size ∧ k ≠ w.heap.size + 1) := fun k hk => by
    refine ⟨fun e => by have := HA1.out.low k hk; omega, ?_⟩
    rcases HF1.out k hk with h | h
    · exact hnv k h
    · omega
  have HF1' : Hid (∀ k, HtF K vs1 k → HtF K vs k ∨ w.heap.size ≤ k) := fun k hk => by
    rcases HF1.out k hk with h | h
    · exact Or.inl h
    · exact Or.inr (by omega)
  have HO01 : Hid (Ot (HtF K vs) w w1) := HO0.out.trans HO1.out
  clear HN0 HB0 HB1 HO0 HO1 HF1 hnv hs0 HNX o0l
  have HD0 : Hid ((w1.alloc (.cells #[.int .i64 x.a, .int .i64 x.l, .int .i64 x.f, .int .i64 x.b, .int .i64 x.m, .int .i64 x.n] 60)).heap[w.heap.size]? = some (.cells #[.pointer (some ⟨K.nb o.leaf, 0, none⟩), .pointer (some ⟨K.nb o.lend, 0, none⟩), .int .i64 o.steps] 98 (0, 0))) := (Below.heap_alloc _ _ _ (lt_of_block HC0.out)).trans HC0.out
  have HD1 : Hid ((w1.alloc (.cells #[.int .i64 x.a, .int .i64 x.l, .int .i64 x.f, .int .i64 x.b, .int .i64 x.m, .int .i64 x.n] 60)).heap[w.heap.size + 1]? = some (.cells #[.int .i64 0, .int .i64 0, .int .i64 0, .int .i64 0, .int .i64 0, .int .i64 0] 60 (0, 0))) := (Below.heap_alloc _ _ _ (lt_of_block HC1.out)).trans HC1.out
  have HDX : Hid ((w1.alloc (.cells #[.int .i64 x.a, .int .i64 x.l, .int .i64 x.f, .int .i64 x.b, .int .i64 x.m, .int .i64 x.n] 60)).heap[w1.heap.size]? = some (.cells #[.int .i64 x.a, .int .i64 x.l, .int .i64 x.f, .int .i64 x.b, .int .i64 x.m, .int .i64 x.n] 60 (0, 0))) := new_block _ _
  have HA2 : Hid (HtAt K (w1.alloc (.cells #[.int .i64 x.a, .int .i64 x.l, .int .i64 x.f, .int .i64 x.b, .int .i64 x.m, .int .i64 x.n] 60)) (popN s o.leaf) vs1 ow1) := HA1.out.below (below_alloc_ (Below.refl _ _) _)
  have HO02 : Hid (Ot (HtF K vs) w (w1.alloc (.cells #[.int .i64 x.a, .int .i64 x.l, .int .i64 x.f, .int .i64 x.b, .int .i64 x.m, .int .i64 x.n] 60))) := HO01.out.alloc _
  have p0 : (w1.alloc (.cells #[.int .i64 x.a, .int .i64 x.l, .int .i64 x.f, .int .i64 x.b, .int .i64 x.m, .int .i64 x.n] 60)).cell? ⟨w.heap.size, 0, none⟩ = some (.pointer (some ⟨K.nb o.leaf, 0, none⟩)) := by have h := HD0.out; simp only [World.cell?]; rw [h]; rfl
  have p0l := lt_of_block HD0.out
  go_wp2
  clear p0 p0l
  obtain ⟨bx, hbx⟩ : ∃ bx, w1.heap.size = bx := ⟨_, rfl⟩
  rw [hbx] at HNF1 HDX hs1 ⊢
  generalize w1.alloc (.cells #[.int .i64 x.a, .int .i64 x.l, .int .i64 x.f, .int .i64 x.b, .int .i64 x.m, .int .i64 x.n] 60) = w2 at *
  have hxl := lt_of_block HDX.out
  have HBK : Hid (∀ W, Ot (HtF K vs1) w2 W → W.heap[bx]? = some (.cells #[.int .i64 x.a, .int .i64 x.l, .int .i64 x.f, .int .i64 x.b, .int .i64 x.m, .int .i64 x.n] 60 (0, 0)) ∧ W.heap[w.heap.size]? = some (.cells #[.pointer (some ⟨K.nb o.leaf, 0, none⟩), .pointer (some ⟨K.nb o.lend, 0, none⟩), .int .i64 o.steps] 98 (0, 0)) ∧ W.heap[w.heap.size + 1]? = some (.cells #[.int .i64 0, .int .i64 0, .int .i64 0, .int .i64 0, .int .i64 0, .int .i64 0] 60 (0, 0)) ∧ bx < W.heap.size) := fun W hW => ⟨(hW.block _ hxl (fun hk => (HNF1.out _ hk).1 rfl)).trans HDX.out, (hW.block _ (lt_of_block HD0.out) (fun hk => (HNF1.out _ hk).2.1 rfl)).trans HD0.out, (hW.block _ (lt_of_block HD1.out) (fun hk => (HNF1.out _ hk).2.2 rfl)).trans HD1.out, by have := hW.size; omega⟩
  have HFW : Hid (∀ W, Ot (HtF K vs1) w2 W → Ot (HtF K vs) w W) := fun W hW => HO02.out.trans' hW (fun k hk hlt => by
    rcases HF1'.out k hk with h | h
    · exact h
    · omega)
  clear HC0 HC1 HA1 HO01 HD0 HD1 HDX HO02 hbx
  go_loopg [7] (oIdx (some o.leaf)) (fun gh mv wr => ∃ (o' : Option Nat) (s' : HtS), oIdx o' = gh ∧ (∀ i, o' = some i → i < K.N) ∧ mv = ndV K o' ∧ Hid (HtAt K wr s' vs1 ow1) ∧ Hid (HtI K t n s') ∧ Hid (s'.tm = now) ∧ Hid (Ot (HtF K vs1) w2 wr) ∧ Hid (S2 = (hL K o').foldl (ceilT K now x.l) s'))
  case atStart => exact ⟨some o.leaf, _, rfl, fun i hi => by cases hi; exact hi0, rfl, HA2.out, HI1.out, HTM.out, Ot.refl _ _, HS2.out⟩
  case round =>
    clear HA2 HI1 HTM HS2
    obtain ⟨o', s', hgk, ho, rfl, HA, HI, HT, HO, HR⟩ := hrel
    cases o' with
    | none =>
      have HE : Hid (S2 = s') := HR
      obtain ⟨k0, k1, k2, k3⟩ := HBK.out wr HO.out
      have p1 : wr.cell? ⟨w.heap.size, 1, none⟩ = some (.pointer (some ⟨K.nb o.lend, 0, none⟩)) := by have h := k1; simp only [World.cell?]; rw [h]; rfl
      have p1l := lt_of_block k1
      clear k0 k1 k2 k3 HR ho
      show Code.wp _ _ _ _ _
      unfold ndV
      go_wp2
      clear p1 p1l
      go_loopg [8] (oIdx (some o.lend)) (fun gh mv wx => ∃ (o' : Option Nat) (s' : HtS), oIdx o' = gh ∧ (∀ i, o' = some i → i < K.N) ∧ mv = ndV K o' ∧ Hid (HtAt K wx s' vs1 ow1) ∧ Hid (HtI K t n s') ∧ Hid (s'.tm = now) ∧ Hid (Ot (HtF K vs1) w2 wx) ∧ Hid (S3 = (hL K o').foldl (rateT K now x.l) s'))
      case atStart => exact ⟨some o.lend, _, rfl, fun i hi => by cases hi; exact hm0, rfl, HA.out, HI.out, HT.out, HO.out, by have h := HS3.out; rw [HE.out] at h; exact h⟩
      case round =>
        clear HA HI HT HO HE HS3
        obtain ⟨o', s', hgk, ho, rfl, HA, HI, HT, HO, HR⟩ := hrel
        cases o' with
        | none =>
          have HE : Hid (S3 = s') := HR
          obtain ⟨k0, k1, k2, k3⟩ := HBK.out wr HO.out
          have HK2 : Hid (wr.heap[w.heap.size + 1]? = some (.cells #[.int .i64 0, .int .i64 0, .int .i64 0, .int .i64 0, .int .i64 0, .int .i64 0] 60 (0, 0))) := k2
          obtain ⟨⟨c0, c1, c2, c3, c4, c5⟩, _⟩ := six k0
          obtain ⟨⟨e0, e1, e2, e3, e4, e5⟩, g0, g1, g2, g3, g4, g5⟩ := six k2
          have e6 := lt_of_block k2
          clear k0 k1 k2 HR ho
          show Code.wp _ _ _ _ _
          unfold ndV
          go_wp2
          (try simp only [Exit.inBlock, Exit.then])
          have hz := six_set HK2.out (.int .i64 x.a) (.int .i64 x.l) (.int .i64 x.f) (.int .i64 x.b) (.int .i64 x.m) (.int .i64 x.n)
          have hot : Ot (fun k => k = w.heap.size + 1) wr ((((((wr.setCell ⟨w.heap.size + 1, 0, none⟩ (.int .i64 x.a)).setCell ⟨w.heap.size + 1, 1, none⟩ (.int .i64 x.l)).setCell ⟨w.heap.size + 1, 2, none⟩ (.int .i64 x.f)).setCell ⟨w.heap.size + 1, 3, none⟩ (.int .i64 x.b)).setCell ⟨w.heap.size + 1, 4, none⟩ (.int .i64 x.m)).setCell ⟨w.heap.size + 1, 5, none⟩ (.int .i64 x.n)) := by
            repeat' (first | with_reducible exact Ot.refl _ _ | with_reducible refine Ot.setCell ?_ (by simp) _)
          refine bodyPost_ret (v := x.val) (ret_held1 rfl rfl hz) rfl ⟨rfl, vs1, ow1, ?_, HF1', (HFW.out wr HO.out).trans' hot (fun k hk hlt => absurd hk (by omega))⟩
          rw [HE.out]
          exact HA.out.kept (fun k hk => hot.block k (HA.out.low k hk) (HNF1.out k hk).2.2)
        | some i =>
          have hi := ho i rfl
          have HIN : Hid (i < K.N) := hi
          have hbl := (HA.out.node i hi).blk.lt
          obtain ⟨k0, k1, k2, k3⟩ := HBK.out wr HO.out
          have HF0 : wr.drew.cell? ⟨K.nb i, 10, none⟩ = some (.pointer (some ⟨K.rb i, 0, none⟩)) ∧ wr.drew.cell? ⟨bx, 1, none⟩ = some (.int .i64 x.l) := ⟨(HA.out.cells hi 10 (by omega)).1, by have h := k0; show wr.cell? _ = _; simp only [World.cell?]; rw [h]; rfl⟩
          obtain ⟨hup1, hup2⟩ := oIdx_up HK.out hi
          have hoi : oIdx (some i) = i + 1 := rfl
          rw [hoi] at hup1 hgk
          have HCL : Hid (Calls Tryd.prog 45 #[.pointer (some ⟨K.rb i, 0, none⟩), .int .i64 now] wr.drew fun e w' => e = .returned (.int .i64 (hasR K s' now i)) ∧ Hid (HtAt K w' s' vs1 ow1) ∧ Hid (Ot (HtF K vs1) wr.drew w')) := HHAS.out wr.drew s' vs1 ow1 i (HA.out.below (Below.refl _ _).drew) HI.out HT.out hi
          have emin : (if hasR K s' now i < x.l then hasR K s' now i else x.l) = min x.l (hasR K s' now i) := by split <;> omega
          have HTK : Hid (∀ W, HtAt K W s' vs1 ow1 → Calls Tryd.prog 25 #[.pointer (some ⟨K.rb i, 0, none⟩), .int .i64 now, .int .i64 (if hasR K s' now i < x.l then hasR K s' now i else x.l)] W fun e w' => (∃ b, e = .returned (.bool b)) ∧ Hid (HtAt K w' (rateT K now x.l s' i) vs1 ow1) ∧ Hid (Ot (HtF K vs1) W w')) := fun W hW => by rw [emin]; exact HRT.out W s' vs1 ow1 i hW HI.out HT.out hi
          clear emin
          have HCF : Hid (∀ W s'', HtAt K W s'' vs1 ow1 → Ot (HtF K vs1) wr.drew W → W.cell? ⟨K.nb i, 10, none⟩ = some (.pointer (some ⟨K.rb i, 0, none⟩)) ∧ W.cell? ⟨bx, 1, none⟩ = some (.int .i64 x.l)) := by
            intro W s'' hW ho
            refine ⟨(hW.cells HIN.out 10 (by omega)).1, ?_⟩
            rw [ho.cell (p := ⟨bx, 1, none⟩) k3 (fun hk => (HNF1.out _ hk).1 rfl)]
            exact HF0.2
          have HR2 : Hid (S3 = (hL K (hUp K i)).foldl (rateT K now x.l) (rateT K now x.l s' i)) := by
            have h := HR.out
            rw [hL_some HK.out hi, List.foldl_cons] at h
            exact h
          have HI2 : Hid (HtI K t n (rateT K now x.l s' i)) := HI.out.rateT HT.out HX0.out i hi
          have HT2 : Hid ((rateT K now x.l s' i).tm = now) := HT
          obtain ⟨hv, hhv⟩ : ∃ hv, hasR K s' now i = hv := ⟨_, rfl⟩
          rw [hhv] at HCL HTK
          obtain ⟨mn, hmn⟩ : ∃ mn, (if hv < x.l then hv else x.l) = mn := ⟨_, rfl⟩
          rw [hmn] at HTK
          clear HR hi k0 k1 k2 k3 hhv HI HT
          show Code.wp _ _ _ _ _
          unfold ndV
          go_wp2_with fail
          go_region_held3 (fun W => W.cell? ⟨K.nb i, 10, none⟩ = some (.pointer (some ⟨K.rb i, 0, none⟩)) ∧ W.cell? ⟨bx, 1, none⟩ = some (.int .i64 x.l))
            (first | (with_reducible exact HF5) | (with_reducible exact HF4) | (with_reducible exact HF0))
            (first
              | (go_at_call 45; refine HCL.out.mono ?_; rintro e w4 ⟨rfl, HA4, HO4⟩; have HF4 := HCF.out w4 _ HA4.out HO4.out)
              | (go_at_call 25; refine (HTK.out w4 HA4.out).mono ?_; rintro e w5 ⟨⟨tb, rfl⟩, HA5, HO5⟩; have HF5 := HCF.out w5 _ HA5.out (HO4.out.trans HO5.out)))
          have c8 : w5.cell? ⟨K.nb i, 8, none⟩ = some (ndV K (hUp K i)) := (HA5.out.cells HIN.out 8 (by omega)).1
          have hbl5 := (HA5.out.node i HIN.out).blk.lt
          obtain ⟨uv, huv⟩ : ∃ uv, ndV K (hUp K i) = uv := ⟨_, rfl⟩
          have HUV : Hid (ndV K (hUp K i) = uv) := huv
          rw [huv] at c8
          clear huv
          go_wp2
          go_roundg (oIdx (hUp K i))
          case measure => omega
          case rel => exact ⟨hUp K i, _, rfl, hup2, HUV.out.symm, HA5, HI2, HT2, HO.out.trans ((Ot.refl _ _).drew.trans (HO4.out.trans HO5.out)), HR2⟩
    | some i =>
      have hi := ho i rfl
      have HIN : Hid (i < K.N) := hi
      have hbl := (HA.out.node i hi).blk.lt
      obtain ⟨k0, k1, k2, k3⟩ := HBK.out wr HO.out
      have HF0 : wr.drew.cell? ⟨K.nb i, 11, none⟩ = some (.pointer (some ⟨K.cb i, 0, none⟩)) ∧ wr.drew.cell? ⟨bx, 1, none⟩ = some (.int .i64 x.l) := ⟨(HA.out.cells hi 11 (by omega)).1, by have h := k0; show wr.cell? _ = _; simp only [World.cell?]; rw [h]; rfl⟩
      obtain ⟨hup1, hup2⟩ := oIdx_up HK.out hi
      have hoi : oIdx (some i) = i + 1 := rfl
      rw [hoi] at hup1 hgk
      have HCL : Hid (Calls Tryd.prog 25 #[.pointer (some ⟨K.cb i, 0, none⟩), .int .i64 now, .int .i64 x.l] wr.drew fun e w' => (∃ b, e = .returned (.bool b)) ∧ Hid (HtAt K w' (ceilT K now x.l s' i) vs1 ow1) ∧ Hid (Ot (HtF K vs1) wr.drew w')) := HCT.out wr.drew s' vs1 ow1 i (HA.out.below (Below.refl _ _).drew) HI.out HT.out hi
      have HCF : Hid (∀ W s'', HtAt K W s'' vs1 ow1 → Ot (HtF K vs1) wr.drew W → W.cell? ⟨K.nb i, 11, none⟩ = some (.pointer (some ⟨K.cb i, 0, none⟩)) ∧ W.cell? ⟨bx, 1, none⟩ = some (.int .i64 x.l)) := by
        intro W s'' hW ho
        refine ⟨(hW.cells HIN.out 11 (by omega)).1, ?_⟩
        rw [ho.cell (p := ⟨bx, 1, none⟩) k3 (fun hk => (HNF1.out _ hk).1 rfl)]
        exact HF0.2
      have HR2 : Hid (S2 = (hL K (hUp K i)).foldl (ceilT K now x.l) (ceilT K now x.l s' i)) := by
        have h := HR.out
        rw [hL_some HK.out hi, List.foldl_cons] at h
        exact h
      have HI2 : Hid (HtI K t n (ceilT K now x.l s' i)) := HI.out.ceilT HT.out HX0.out i
      have HT2 : Hid ((ceilT K now x.l s' i).tm = now) := HT
      clear HR hi k0 k1 k2 k3 HI HT
      show Code.wp _ _ _ _ _
      unfold ndV
      go_wp2_with fail
      go_region_held3 (fun W => W.cell? ⟨K.nb i, 11, none⟩ = some (.pointer (some ⟨K.cb i, 0, none⟩)) ∧ W.cell? ⟨bx, 1, none⟩ = some (.int .i64 x.l))
        (first | (with_reducible exact HF5) | (with_reducible exact HF0))
        (first | (go_at_call 25; refine HCL.out.mono ?_; rintro e w5 ⟨⟨tb, rfl⟩, HA5, HO5⟩; have HF5 := HCF.out w5 _ HA5.out HO5.out))
      have c8 : w5.cell? ⟨K.nb i, 8, none⟩ = some (ndV K (hUp K i)) := (HA5.out.cells HIN.out 8 (by omega)).1
      have hbl5 := (HA5.out.node i HIN.out).blk.lt
      obtain ⟨uv, huv⟩ : ∃ uv, ndV K (hUp K i) = uv := ⟨_, rfl⟩
      have HUV : Hid (ndV K (hUp K i) = uv) := huv
      rw [huv] at c8
      clear huv
      go_wp2
      go_roundg (oIdx (hUp K i))
      case measure => omega
      case rel => exact ⟨hUp K i, _, rfl, hup2, HUV.out.symm, HA5, HI2, HT2, HO.out.trans ((Ot.refl _ _).drew.trans HO5.out), HR2⟩
end Go.Proofs.YtpgdocmpbeabpaaDoor
