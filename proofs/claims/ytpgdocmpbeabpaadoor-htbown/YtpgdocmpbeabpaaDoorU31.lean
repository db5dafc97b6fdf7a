/-
  package htb: flaw, newNode. Conditions: errors.errorType is laid (flaw); buckets that may be (newNode).
  Rows of the call's own: kept, written, appended to within a drawn region. Nothing of the program is claimed here by itself.
-/
import Derived.Test.YtpgdocmpbeabpaaDoorZt2
import Derived.Test.YtpgdocmpbeabpaaDoorU2
import Derived.Test.YtpgdocmpbeabpaaDoorSg
import Derived.Deep.RegionLaw
namespace Go.Proofs.YtpgdocmpbeabpaaDoor
open Go.RowKit Go.Extern.Stop Go.Stop Go.Extern

instance (n t R : Int) : Decidable (okB n t R) := by unfold okB; infer_instance
/-- What is wrong of a class. -/
def flawH (c : HCl) (i : Int) : Int := if c.par < -1 ∨ i ≤ c.par then 10 else if c.pr < 0 ∨ 8 ≤ c.pr then 2 else if okB c.rn c.rt c.rR then (if okB c.cn c.ct c.cR then 0 else 2) else 2
set_option maxRecDepth 20000 in
set_option maxHeartbeats 4000000 in
theorem flaw_ht (c : HCl) (i : Int) (w : World) (hL : Laid w) :
    Calls Tryd.prog 34 #[.agg #[.int .i64 c.par, .int .i64 c.rn, .int .i64 c.rt, .int .i64 c.rR, .int .i64 c.cn, .int .i64 c.ct, .int .i64 c.cR, .int .i64 c.pr], .int .i64 i] w fun e w' => e = .returned (.int .i64 (flawH c i)) ∧ Below w.heap.size w w' := by
  have HL : Hid (Laid (w.alloc (.cells #[.int .i64 c.par, .int .i64 c.rn, .int .i64 c.rt, .int .i64 c.rR, .int .i64 c.cn, .int .i64 c.ct, .int .i64 c.cR, .int .i64 c.pr] 48))) := hL.alloc _
  have HB : Hid (Below w.heap.size w (w.alloc (.cells #[.int .i64 c.par, .int .i64 c.rn, .int .i64 c.rt, .int .i64 c.rR, .int .i64 c.cn, .int .i64 c.ct, .int .i64 c.cR, .int .i64 c.pr] 48))) := below_alloc_ (Below.refl _ _) _
  have HT : Hid (∀ W, Below w.heap.size w W → Laid W → Calls Tryd.prog 41 #[.iface 65 (.int .i64 2)] W fun e w' => e = .returned (.int .i64 2) ∧ Below W.heap.size W w') := fun W _ hW => tell_errno 2 W hW
  clear hL
  by_cases h1 : c.par < -1
  · have hf : flawH c i = 10 := by unfold flawH; rw [if_pos (Or.inl h1)]
    rw [hf]
    clear hf
    go_enter Tryd.func34, Tryd.ntmps34
    go_wp2
    go_ret
    exact ⟨rfl, HB.out⟩
  by_cases h2 : i ≤ c.par
  · have hf : flawH c i = 10 := by unfold flawH; rw [if_pos (Or.inr h2)]
    rw [hf]
    clear hf
    go_enter Tryd.func34, Tryd.ntmps34
    go_wp2
    go_ret
    exact ⟨rfl, HB.out⟩
  by_cases h3 : c.pr < 0
  · have hf : flawH c i = 2 := by unfold flawH; rw [if_neg (by omega), if_pos (Or.inl h3)]
    rw [hf]
    clear hf
    go_enter Tryd.func34, Tryd.ntmps34
    go_wp2
    go_ret
    exact ⟨rfl, HB.out⟩
  by_cases h4 : 8 ≤ c.pr
  · have hf : flawH c i = 2 := by unfold flawH; rw [if_neg (by omega), if_pos (Or.inr h4)]
    rw [hf]
    clear hf
    go_enter Tryd.func34, Tryd.ntmps34
    go_wp2
    go_ret
    exact ⟨rfl, HB.out⟩
  have e0 : flawH c i = if okB c.rn c.rt c.rR then (if okB c.cn c.ct c.cR then 0 else 2) else 2 := by unfold flawH; rw [if_neg (by omega), if_neg (by omega)]
  by_cases h5 : okB c.rn c.rt c.rR
  · have H5 : Hid (okB c.rn c.rt c.rR) := h5
    rw [if_pos h5] at e0
    clear h5
    by_cases h6 : okB c.cn c.ct c.cR
    · have H6 : Hid (okB c.cn c.ct c.cR) := h6
      rw [if_pos h6] at e0
      rw [e0]
      clear e0 h6
      go_enter Tryd.func34, Tryd.ntmps34
      go_wp2_with fail
      refine (bcheck_yes _ _ _ _ H5.out).mono ?_
      rintro e w1 ⟨rfl, hb1⟩
      have HB1 : Hid (Below w.heap.size w w1) := HB.out.trans (hb1.mono HB.out.size)
      have d2 : (w.alloc (.cells #[.int .i64 c.par, .int .i64 c.rn, .int .i64 c.rt, .int .i64 c.rR, .int .i64 c.cn, .int .i64 c.ct, .int .i64 c.cR, .int .i64 c.pr] 48)).heap.size = w.heap.size + 1 := by simp
      have hb2 := bcell hb1
      have b1 := hb2.1 w.heap.size 4 (by simp)
      have b2 := hb2.1 w.heap.size 5 (by simp)
      have b3 := hb2.1 w.heap.size 6 (by simp)
      have hs1 := hb1.size
      have HL1 : Hid (Laid w1) := HL.out.below hb1
      go_wp2_with fail
      refine (bcheck_yes _ _ _ _ H6.out).mono ?_
      rintro e w2 ⟨rfl, hb3⟩
      have HB2 : Hid (Below w.heap.size w w2) := HB1.out.trans (hb3.mono HB1.out.size)
      clear hb3 hb2 b1 b2 b3 hb1
      go_wp2_with fail
      refine (tell_nil _).mono ?_
      rintro e w3 ⟨rfl, rfl⟩
      go_wp2
      go_ret
      exact ⟨rfl, HB2.out⟩
    · have H6 : Hid (¬ okB c.cn c.ct c.cR) := h6
      rw [if_neg h6] at e0
      rw [e0]
      clear e0 h6
      go_enter Tryd.func34, Tryd.ntmps34
      go_wp2_with fail
      refine (bcheck_yes _ _ _ _ H5.out).mono ?_
      rintro e w1 ⟨rfl, hb1⟩
      have HB1 : Hid (Below w.heap.size w w1) := HB.out.trans (hb1.mono HB.out.size)
      have d2 : (w.alloc (.cells #[.int .i64 c.par, .int .i64 c.rn, .int .i64 c.rt, .int .i64 c.rR, .int .i64 c.cn, .int .i64 c.ct, .int .i64 c.cR, .int .i64 c.pr] 48)).heap.size = w.heap.size + 1 := by simp
      have hb2 := bcell hb1
      have b1 := hb2.1 w.heap.size 4 (by simp)
      have b2 := hb2.1 w.heap.size 5 (by simp)
      have b3 := hb2.1 w.heap.size 6 (by simp)
      have hs1 := hb1.size
      have HL1 : Hid (Laid w1) := HL.out.below hb1
      go_wp2_with fail
      refine (bcheck_no _ _ _ _ H6.out).mono ?_
      rintro e w2 ⟨rfl, hb3⟩
      have HB2 : Hid (Below w.heap.size w w2) := HB1.out.trans (hb3.mono HB1.out.size)
      have HL2 : Hid (Laid w2) := HL1.out.below hb3
      clear hb3 hb2 b1 b2 b3 hb1
      go_wp2_with fail
      refine (HT.out w2 HB2.out HL2.out).mono ?_
      rintro e w3 ⟨rfl, hb4⟩
      have HB3 : Hid (Below w.heap.size w w3) := HB2.out.trans (hb4.mono HB2.out.size)
      clear hb4
      go_wp2
      go_ret
      exact ⟨rfl, HB3.out⟩
  · have H5 : Hid (¬ okB c.rn c.rt c.rR) := h5
    rw [if_neg h5] at e0
    rw [e0]
    clear e0 h5
    go_enter Tryd.func34, Tryd.ntmps34
    go_wp2_with fail
    refine (bcheck_no _ _ _ _ H5.out).mono ?_
    rintro e w1 ⟨rfl, hb1⟩
    have HB1 : Hid (Below w.heap.size w w1) := HB.out.trans (hb1.mono HB.out.size)
    have HL1 : Hid (Laid w1) := HL.out.below hb1
    clear hb1
    go_wp2_with fail
    refine (HT.out w1 HB1.out HL1.out).mono ?_
    rintro e w3 ⟨rfl, hb4⟩
    have HB3 : Hid (Below w.heap.size w w3) := HB1.out.trans (hb4.mono HB1.out.size)
    clear hb4
    go_wp2
    go_ret
    exact ⟨rfl, HB3.out⟩
/-- The cells of a class that is new. -/
def newC (c : HCl) (rb cb : Nat) : List Value := [.int .i64 c.par, .int .i64 c.rn, .int .i64 c.rt, .int .i64 c.rR, .int .i64 c.cn, .int .i64 c.ct, .int .i64 c.cR, .int .i64 c.pr, .pointer none, .bool false, .pointer (some ⟨rb, 0, none⟩), .pointer (some ⟨cb, 0, none⟩), .slice none 0 0, .int .i64 0, .int .i64 0]
set_option maxRecDepth 20000 in
set_option maxHeartbeats 4000000 in
theorem newNode_ht (c : HCl) (w : World) (h1 : okB c.rn c.rt c.rR) (h2 : okB c.cn c.ct c.cR) :
    Calls Tryd.prog 35 #[.agg #[.int .i64 c.par, .int .i64 c.rn, .int .i64 c.rt, .int .i64 c.rR, .int .i64 c.cn, .int .i64 c.ct, .int .i64 c.cR, .int .i64 c.pr]] w fun e w' => ∃ nb rb cb, e = .returned (.tuple #[.pointer (some ⟨nb, 0, none⟩), .nilIface]) ∧ w.heap.size ≤ rb ∧ rb < cb ∧ cb < nb ∧ w'.heap[nb]? = some (.cells (newC c rb cb).toArray 94 (0, 0)) ∧ StAt w' rb c.rn c.rt c.rR (c.rR * c.rt) 0 ∧ StAt w' cb c.cn c.ct c.cR (c.cR * c.ct) 0 ∧ Below w.heap.size w w' := by
  have HB : Hid (Below w.heap.size w (w.alloc (.cells #[.int .i64 c.par, .int .i64 c.rn, .int .i64 c.rt, .int .i64 c.rR, .int .i64 c.cn, .int .i64 c.ct, .int .i64 c.cR, .int .i64 c.pr] 48))) := below_alloc_ (Below.refl _ _) _
  have H5 : Hid (okB c.rn c.rt c.rR) := h1
  have H6 : Hid (okB c.cn c.ct c.cR) := h2
  have H0 : Hid ((w.alloc (.cells #[.int .i64 c.par, .int .i64 c.rn, .int .i64 c.rt, .int .i64 c.rR, .int .i64 c.cn, .int .i64 c.ct, .int .i64 c.cR, .int .i64 c.pr] 48)).heap[w.heap.size]? = some (.cells #[.int .i64 c.par, .int .i64 c.rn, .int .i64 c.rt, .int .i64 c.rR, .int .i64 c.cn, .int .i64 c.ct, .int .i64 c.cR, .int .i64 c.pr] 48 (0, 0))) := new_block _ _
  clear h1 h2
  go_enter Tryd.func35, Tryd.ntmps35
  go_wp2_with fail
  refine (new_yes _ _ _ _ H5.out).mono ?_
  rintro e w1 ⟨rb, rfl, hrb, hst, hb1⟩
  have HB1 : Hid (Below w.heap.size w w1) := HB.out.trans (hb1.mono HB.out.size)
  have H1 : Hid (w1.heap[w.heap.size]? = some (.cells #[.int .i64 c.par, .int .i64 c.rn, .int .i64 c.rt, .int .i64 c.rR, .int .i64 c.cn, .int .i64 c.ct, .int .i64 c.cR, .int .i64 c.pr] 48 (0, 0))) := (hb1.block _ (by simp)).trans H0.out
  have HRB : Hid (w.heap.size < rb) := by show _ < _; simp at hrb; omega
  have HST : Hid (StAt w1 rb c.rn c.rt c.rR (c.rR * c.rt) 0) := hst
  have hh := H1.out
  have x0 : w1.cell? ⟨w.heap.size, 4, none⟩ = some (.int .i64 c.cn) := by simp only [World.cell?]; rw [hh]; rfl
  have x1 : w1.cell? ⟨w.heap.size, 5, none⟩ = some (.int .i64 c.ct) := by simp only [World.cell?]; rw [hh]; rfl
  have x2 : w1.cell? ⟨w.heap.size, 6, none⟩ = some (.int .i64 c.cR) := by simp only [World.cell?]; rw [hh]; rfl
  have xl := lt_of_block hh
  clear hb1 hst hrb hh
  go_wp2_with fail
  refine (new_yes _ _ _ _ H6.out).mono ?_
  rintro e w2 ⟨cb, rfl, hcb, hst, hb2⟩
  have HB2 : Hid (Below w.heap.size w w2) := HB1.out.trans (hb2.mono HB1.out.size)
  have HRC : Hid (rb < cb) := by show _ < _; have := HST.out.lt; omega
  have HS2 : Hid (StAt w2 rb c.rn c.rt c.rR (c.rR * c.rt) 0) := HST.out.kept (S := fun _ => False) (Oth.of_below hb2) id
  have HC2 : Hid (StAt w2 cb c.cn c.ct c.cR (c.cR * c.ct) 0) := hst
  have H2 : Hid (w2.heap[w.heap.size]? = some (.cells #[.int .i64 c.par, .int .i64 c.rn, .int .i64 c.rt, .int .i64 c.rR, .int .i64 c.cn, .int .i64 c.ct, .int .i64 c.cR, .int .i64 c.pr] 48 (0, 0))) := (hb2.block _ xl).trans H1.out
  have hh := H2.out
  have y0 : w2.cell? ⟨w.heap.size, 0, none⟩ = some (.int .i64 c.par) := by simp only [World.cell?]; rw [hh]; rfl
  have y1 : w2.cell? ⟨w.heap.size, 1, none⟩ = some (.int .i64 c.rn) := by simp only [World.cell?]; rw [hh]; rfl
  have y2 : w2.cell? ⟨w.heap.size, 2, none⟩ = some (.int .i64 c.rt) := by simp only [World.cell?]; rw [hh]; rfl
  have y3 : w2.cell? ⟨w.heap.size, 3, none⟩ = some (.int .i64 c.rR) := by simp only [World.cell?]; rw [hh]; rfl
  have y4 : w2.cell? ⟨w.heap.size, 4, none⟩ = some (.int .i64 c.cn) := by simp only [World.cell?]; rw [hh]; rfl
  have y5 : w2.cell? ⟨w.heap.size, 5, none⟩ = some (.int .i64 c.ct) := by simp only [World.cell?]; rw [hh]; rfl
  have y6 : w2.cell? ⟨w.heap.size, 6, none⟩ = some (.int .i64 c.cR) := by simp only [World.cell?]; rw [hh]; rfl
  have y7 : w2.cell? ⟨w.heap.size, 7, none⟩ = some (.int .i64 c.pr) := by simp only [World.cell?]; rw [hh]; rfl
  have yl := lt_of_block hh
  clear hb2 hst hcb hh x0 x1 x2 xl
  go_wp2
  go_ret2
  refine ⟨_, rb, cb, rfl, Nat.le_of_lt HRB.out, HRC.out, ?_, new_block _ _, ?_, ?_, below_alloc_ HB2.out _⟩
  · exact HC2.out.lt
  · exact HS2.out.kept (S := fun _ => False) (Oth.of_below (below_alloc_ (Below.refl _ _) _)) id
  · exact HC2.out.kept (S := fun _ => False) (Oth.of_below (below_alloc_ (Below.refl _ _) _)) id
end Go.Proofs.YtpgdocmpbeabpaaDoor
namespace Go.Proofs.YtpgdocmpbeabpaaDoor
open Go.RowKit Go.Extern.Stop Go.Stop Go.Extern

theorem owns_sliceW {w : World} {base n k : Nat} {e : TypeId} {v : Value} {xs : List Value} (h : w.ownsRow base e k v n xs) : ∃ x c, v = .slice x n c := by
  rcases h.2 with ⟨rfl, rfl⟩ | ⟨g, cap, cur, rfl, _⟩
  · exact ⟨_, _, rfl⟩
  · exact ⟨_, _, rfl⟩
theorem own_someW {w : World} {B : Nat} {e : TypeId} {v : Value} {n : Nat} {xs : List Value} (h : w.ownsRow B e 1 v n xs) (hn : 0 < n) : ∃ g cap cur, v = .slice (some ⟨g, 0, none⟩) n cap ∧ B ≤ g ∧ w.heap[g]? = some (.cells cur e (0, 0)) ∧ n ≤ cap ∧ cap ≤ maxLen ∧ cur.size = cap ∧ cur.toList.take n = xs := by
  rcases h.2 with ⟨_, h0⟩ | ⟨g, cap, cur, h1, h2, h3, h4, h5, h6, h7⟩
  · omega
  · exact ⟨g, cap, cur, h1, h2, h3, h4, h5, by omega, by simpa using h7⟩
theorem ownW_kept {w w' : World} {B : Nat} {e : TypeId} {v : Value} {n k : Nat} {xs : List Value} (h : w.ownsRow B e k v n xs) (hk : ∀ j, v.ownBlock = some j → w'.heap[j]? = w.heap[j]?) : w'.ownsRow B e k v n xs := by
  refine ⟨h.1, ?_⟩
  rcases h.2 with h1 | ⟨g, cap, cur, h1, h2, h3, h4⟩
  · exact Or.inl h1
  · exact Or.inr ⟨g, cap, cur, h1, h2, (hk g (by rw [h1]; rfl)).trans h3, h4⟩
theorem ownW_lt {w : World} {B : Nat} {e : TypeId} {v : Value} {n k : Nat} {xs : List Value} (h : w.ownsRow B e k v n xs) {j : Nat} (hj : v.ownBlock = some j) : B ≤ j ∧ j < w.heap.size ∧ ∃ cur, w.heap[j]? = some (.cells cur e (0, 0)) := by
  rcases h.2 with ⟨h1, _⟩ | ⟨g, cap, cur, h1, h2, h3, h4⟩
  · rw [h1] at hj; cases hj
  · rw [h1] at hj
    cases hj
    exact ⟨h2, lt_of_block h3, cur, h3⟩
theorem ownW_below {w w' : World} {B : Nat} {e : TypeId} {v : Value} {n k : Nat} {xs : List Value} (h : w.ownsRow B e k v n xs) (hb : Below w.heap.size w w') : w'.ownsRow B e k v n xs := ownW_kept h fun j hj => hb.block j (ownW_lt h hj).2.1
theorem ownW_alloc {w : World} {B : Nat} {e : TypeId} {v : Value} {n k : Nat} {xs : List Value} (h : w.ownsRow B e k v n xs) (o : Obj) : (w.alloc o).ownsRow B e k v n xs := ownW_kept h fun _ hj => Below.heap_alloc _ _ _ (ownW_lt h hj).2.1
theorem ownW_drew {w : World} {B : Nat} {e : TypeId} {v : Value} {n k : Nat} {xs : List Value} (h : w.ownsRow B e k v n xs) : w.drew.ownsRow B e k v n xs := h
/-- A cell of a row of one's own is written. -/
theorem ownW_set {w : World} {B g n c p : Nat} {e : TypeId} {xs : List Value} (h : w.ownsRow B e 1 (.slice (some ⟨g, 0, none⟩) n c) n xs) (u : Value) : (w.setCell ⟨g, p, none⟩ u).ownsRow B e 1 (.slice (some ⟨g, 0, none⟩) n c) n (xs.set p u) := by
  refine ⟨by rw [List.length_set]; exact h.1, ?_⟩
  rcases h.2 with ⟨h1, _⟩ | ⟨g', cap, cur, h1, h2, h3, h4, h5, h6, h7⟩
  · cases h1
  · simp only [Value.slice.injEq, Option.some.injEq, Addr.mk.injEq, and_true, true_and] at h1
    obtain ⟨rfl, rfl⟩ := h1
    refine Or.inr ⟨g, c, cur.setIfInBounds p u, rfl, h2, heap_setCell_here h3 u, h4, h5, by simpa using h6, ?_⟩
    rw [Array.toList_setIfInBounds, ← h7, List.take_set]
theorem step_append_owns {P : Program} {ops : Array Oper} {o : Oper} {a : Act} {w : World} {K : Act → World → Prop} {Q : Exit → Act → World → Prop} {E : Prop}
    (hg : o.guard = none) (s x : Operand) (t : TypeId) (hop : o.op = Op.call { callee := Callee.builtin Builtin.append, args := #[s, x], argTypes := #[t, t] })
    (base : Nat) (e : TypeId) (i : TypeInfo) (z : Value) (size bytes : Nat) (h1 : P.underlying t = some (.slice e)) (h2 : P.info? e = some i) (h3 : i.zero = some z) (h4 : i.size = size) (h5 : i.bytes = bytes) (h6 : z.cells.size = size) (h7 : 0 < size)
    (v : Value) (n : Nat) (xs : List Value) (hs : a.eval s = v) (hown : w.ownsRow base e size v n xs)
    (ad : Addr) (m c : Nat) (news : List Value) (hx : a.eval x = .slice (some ad) m c) (hn : news.length = m * size) (hc : ∀ j u, news[j]? = some u → w.cell? (ad.add j) = some u) (h1c : ∀ u ∈ news, u.oneCell' = true)
    (b1 : n + m ≤ maxLen) (b2 : (n + m) * bytes ≤ 140737488355328) (hbase : base ≤ w.heap.size)
    (hK : ∀ v' w', w'.ownsRow base e size v' (n + m) (xs ++ news) → w.grownBy w' v.ownBlock → K (a.put o.dst v') w') :
    if Region.wanted o (yielded ops a.tmps) = true then Oper.wp P o a w K Q else E := by
  have hw : Region.wanted o (yielded ops a.tmps) = true := by simp [Region.wanted, hg]
  rw [if_pos hw]
  obtain ⟨v', w', hrun, r1, r2, _⟩ := run_append_own (P := P) w base t o.type e i z size bytes h1 h2 h3 h4 h5 h6 h7 v n xs hown ad m c news hn hc h1c b1 b2 hbase
  unfold Oper.wp
  simp [execOp, hop, resolve, invoke, builtin, hs, hx, hrun, Result.andThen]
  exact hK v' w' r1 r2
theorem two_at {w : World} {p : Nat} {v u : Value} (h0 : w.cell? ⟨p, 0, none⟩ = some v) (h1 : w.cell? ⟨p, 1, none⟩ = some u) : ∀ (j : Nat) (x : Value), [v, u][j]? = some x → w.cell? ((⟨p, 0, none⟩ : Addr).add j) = some x := by
  intro j x hj
  match j, hj with
  | 0, hj => simp at hj; subst hj; simpa [Addr.add] using h0
  | 1, hj => simp at hj; subst hj; simpa [Addr.add] using h1
theorem ownW_cell {w : World} {B g n c : Nat} {e : TypeId} {xs : List Value} (h : w.ownsRow B e 1 (.slice (some ⟨g, 0, none⟩) n c) n xs) {j : Nat} {u : Value} (hj : xs[j]? = some u) : w.cell? ⟨g, j, none⟩ = some u ∧ w.frozen? ⟨g, j, none⟩ = false := by
  rcases h.2 with ⟨h1, _⟩ | ⟨g', cap, cur, h1, h2, h3, h4, h5, h6, h7⟩
  · cases h1
  · simp only [Value.slice.injEq, Option.some.injEq, Addr.mk.injEq, and_true, true_and] at h1
    obtain ⟨rfl, rfl⟩ := h1
    constructor
    · simp only [World.cell?, h3]
      rw [← h7, List.getElem?_take] at hj
      split at hj
      · simpa using hj
      · simp at hj
    · simp [World.frozen?, h3]
end Go.Proofs.YtpgdocmpbeabpaaDoor
