/-
  package htb: flaw, newNode. Conditions: errors.errorType is laid (flaw); buckets that may be (newNode).
  Elements of an argument in memory. Nothing of the program is claimed here by itself.
  package htb: Check, for any classes. Conditions: they lie in memory; errors.errorType is laid.
-/
import Derived.Test.YtpgdocmpbeabpaaDoorZt2
import Derived.Test.YtpgdocmpbeabpaaDoorU2
import Derived.Test.YtpgdocmpbeabpaaDoorSg
namespace Go.Proofs.YtpgdocmpbeabpaaDoor
open Go.RowKit Go.Extern.Stop Go.Stop Go.Extern

instance (n t R : Int) : Decidable (okB n t R) := by unfold okB; infer_instance
/-- What is wrong of a class. -/
def flawH (c : HCl) (i : Int) : Int := if c.par < -1 ∨ i ≤ c.par then 10 else if c.pr < 0 ∨ 8 ≤ c.pr then 2 else if okB c.rn c.rt c.rR then (if okB c.cn c.ct c.cR then 0 else 2) else 2
set_option maxRecDepth 20000 in
set_option maxHeartbeats 4000000 in
theorem flaw_ht (c : HCl) (i : Int) (w : World) (hL : Laid w) :
    Calls Tryd.prog 34 #[.agg #[.int .i64 c.par, .int .i64 c.rn, .int .i64 c.rt, .int .i64 c.rR, .int .i64 c.cn, .int .i64 c.ct, .int .i64 c.cR, .int .i64 c.pr], .int .i64 i] w fun e w' => e = .returned (.int .i64 (flawH c i)) ∧ Below w.heap.size w w' := by
  have HL : Hid (Laid (w.alloc (.cells #[.int .i64 c.par, .int .i64 c.rn, .int .i64 c.rt, .int .i64 c.rR, .int .i64 c.cn, .int .i64 c.ct, .int .i64 c.cR, .int .i64 c.pr] 48))) := hL.alloc _
  have HB : Hid (Below w.heap.size w (w.alloc (.cells #[.int .i64 c.par, .int .i64 c.rn, .int .i64 c.rt, .int .i64 c.rR, .int .i64 c.cn, .int .i64 c.ct, .int .i64 c.cR, .int .i64 c.pr] 48))) := below_alloc_ (Below.refl _ _) _
  have HT : Hid (∀ W, Below w.heap.size w W → Laid W → Calls Tryd.prog 41 #[.iface 65 (.int .i64 2)] W fun e w' => e = .returned (.int .i64 2) ∧ Below W.heap.size W w') := fun W _ hW => tell_errno 2 W hW
  clear hL
  by_cases h1 : c.par < -1
  · have hf : flawH c i = 10 := by unfold flawH; rw [if_pos (Or.inl h1)]
    rw [hf]
    clear hf
    go_enter Tryd.func34, Tryd.ntmps34
    go_wp2
    go_ret
    exact ⟨rfl, HB.out⟩
  by_cases h2 : i ≤ c.par
  · have hf : flawH c i = 10 := by unfold flawH; rw [if_pos (Or.inr h2)]
    rw [hf]
    clear hf
    go_enter Tryd.func34, Tryd.ntmps34
    go_wp2
    go_ret
    exact ⟨rfl, HB.out⟩
  by_cases h3 : c.pr < 0
  · have hf : flawH c i = 2 := by unfold flawH; rw [if_neg (by omega), if_pos (Or.inl h3)]
    rw [hf]
    clear hf
    go_enter Tryd.func34, Tryd.ntmps34
    go_wp2
    go_ret
    exact ⟨rfl, HB.out⟩
  by_cases h4 : 8 ≤ c.pr
  · have hf : flawH c i = 2 := by unfold flawH; rw [if_neg (by omega), if_pos (Or.inr h4)]
    rw [hf]
    clear hf
    go_enter Tryd.func34, Tryd.ntmps34
    go_wp2
    go_ret
    exact ⟨rfl, HB.out⟩
  have e0 : flawH c i = if okB c.rn c.rt c.rR then (if okB c.cn c.ct c.cR then 0 else 2) else 2 := by unfold flawH; rw [if_neg (by omega), if_neg (by omega)]
  by_cases h5 : okB c.rn c.rt c.rR
  · have H5 : Hid (okB c.rn c.rt c.rR) := h5
    rw [if_pos h5] at e0
    clear h5
    by_cases h6 : okB c.cn c.ct c.cR
    · have H6 : Hid (okB c.cn c.ct c.cR) := h6
      rw [if_pos h6] at e0
      rw [e0]
      clear e0 h6
      go_enter Tryd.func34, Tryd.ntmps34
      go_wp2_with fail
      refine (bcheck_yes _ _ _ _ H5.out).mono ?_
      rintro e w1 ⟨rfl, hb1⟩
      have HB1 : Hid (Below w.heap.size w w1) := HB.out.trans (hb1.mono HB.out.size)
      have d2 : (w.alloc (.cells #[.int .i64 c.par, .int .i64 c.rn, .int .i64 c.rt, .int .i64 c.rR, .int .i64 c.cn, .int .i64 c.ct, .int .i64 c.cR, .int .i64 c.pr] 48)).heap.size = w.heap.size + 1 := by simp
      have hb2 := bcell hb1
      have b1 := hb2.1 w.heap.size 4 (by simp)
      have b2 := hb2.1 w.heap.size 5 (by simp)
      have b3 := hb2.1 w.heap.size 6 (by simp)
      have hs1 := hb1.size
      have HL1 : Hid (Laid w1) := HL.out.below hb1
      go_wp2_with fail
      refine (bcheck_yes _ _ _ _ H6.out).mono ?_
      rintro e w2 ⟨rfl, hb3⟩
      have HB2 : Hid (Below w.heap.size w w2) := HB1.out.trans (hb3.mono HB1.out.size)
      clear hb3 hb2 b1 b2 b3 hb1
      go_wp2_with fail
      refine (tell_nil _).mono ?_
      rintro e w3 ⟨rfl, rfl⟩
      go_wp2
      go_ret
      exact ⟨rfl, HB2.out⟩
    · have H6 : Hid (¬ okB c.cn c.ct c.cR) := h6
      rw [if_neg h6] at e0
      rw [e0]
      clear e0 h6
      go_enter Tryd.func34, Tryd.ntmps34
      go_wp2_with fail
      refine (bcheck_yes _ _ _ _ H5.out).mono ?_
      rintro e w1 ⟨rfl, hb1⟩
      have HB1 : Hid (Below w.heap.size w w1) := HB.out.trans (hb1.mono HB.out.size)
      have d2 : (w.alloc (.cells #[.int .i64 c.par, .int .i64 c.rn, .int .i64 c.rt, .int .i64 c.rR, .int .i64 c.cn, .int .i64 c.ct, .int .i64 c.cR, .int .i64 c.pr] 48)).heap.size = w.heap.size + 1 := by simp
      have hb2 := bcell hb1
      have b1 := hb2.1 w.heap.size 4 (by simp)
      have b2 := hb2.1 w.heap.size 5 (by simp)
      have b3 := hb2.1 w.heap.size 6 (by simp)
      have hs1 := hb1.size
      have HL1 : Hid (Laid w1) := HL.out.below hb1
      go_wp2_with fail
      refine (bcheck_no _ _ _ _ H6.out).mono ?_
      rintro e w2 ⟨rfl, hb3⟩
      have HB2 : Hid (Below w.heap.size w w2) := HB1.out.trans (hb3.mono HB1.out.size)
      have HL2 : Hid (Laid w2) := HL1.out.below hb3
      clear hb3 hb2 b1 b2 b3 hb1
      go_wp2_with fail
      refine (HT.out w2 HB2.out HL2.out).mono ?_
      rintro e w3 ⟨rfl, hb4⟩
      have HB3 : Hid (Below w.heap.size w w3) := HB2.out.trans (hb4.mono HB2.out.size)
      clear hb4
      go_wp2
      go_ret
      exact ⟨rfl, HB3.out⟩
  · have H5 : Hid (¬ okB c.rn c.rt c.rR) := h5
    rw [if_neg h5] at e0
    rw [e0]
    clear e0 h5
    go_enter Tryd.func34, Tryd.ntmps34
    go_wp2_with fail
    refine (bcheck_no _ _ _ _ H5.out).mono ?_
    rintro e w1 ⟨rfl, hb1⟩
    have HB1 : Hid (Below w.heap.size w w1) := HB.out.trans (hb1.mono HB.out.size)
    have HL1 : Hid (Laid w1) := HL.out.below hb1
    clear hb1
    go_wp2_with fail
    refine (HT.out w1 HB1.out HL1.out).mono ?_
    rintro e w3 ⟨rfl, hb4⟩
    have HB3 : Hid (Below w.heap.size w w3) := HB1.out.trans (hb4.mono HB1.out.size)
    clear hb4
    go_wp2
    go_ret
    exact ⟨rfl, HB3.out⟩
/-- The cells of a class that is new. -/
def newC (c : HCl) (rb cb : Nat) : List Value := [.int .i64 c.par, .int .i64 c.rn, .int .i64 c.rt, .int .i64 c.rR, .int .i64 c.cn, .int .i64 c.ct, .int .i64 c.cR, .int .i64 c.pr, .pointer none, .bool false, .pointer (some ⟨rb, 0, none⟩), .pointer (some ⟨cb, 0, none⟩), .slice none 0 0, .int .i64 0, .int .i64 0]
set_option maxRecDepth 20000 in
set_option maxHeartbeats 4000000 in
theorem newNode_ht (c : HCl) (w : World) (h1 : okB c.rn c.rt c.rR) (h2 : okB c.cn c.ct c.cR) :
    Calls Tryd.prog 35 #[.agg #[.int .i64 c.par, .int .i64 c.rn, .int .i64 c.rt, .int .i64 c.rR, .int .i64 c.cn, .int .i64 c.ct, .int .i64 c.cR, .int .i64 c.pr]] w fun e w' => ∃ nb rb cb, e = .returned (.tuple #[.pointer (some ⟨nb, 0, none⟩), .nilIface]) ∧ w.heap.size ≤ rb ∧ rb < cb ∧ cb < nb ∧ w'.heap[nb]? = some (.cells (newC c rb cb).toArray 94 (0, 0)) ∧ StAt w' rb c.rn c.rt c.rR (c.rR * c.rt) 0 ∧ StAt w' cb c.cn c.ct c.cR (c.cR * c.ct) 0 ∧ Below w.heap.size w w' := by
  have HB : Hid (Below w.heap.size w (w.alloc (.cells #[.int .i64 c.par, .int .i64 c.rn, .int .i64 c.rt, .int .i64 c.rR, .int .i64 c.cn, .int .i64 c.ct, .int .i64 c.cR, .int .i64 c.pr] 48))) := below_alloc_ (Below.refl _ _) _
  have H5 : Hid (okB c.rn c.rt c.rR) := h1
  have H6 : Hid (okB c.cn c.ct c.cR) := h2
  have H0 : Hid ((w.alloc (.cells #[.int .i64 c.par, .int .i64 c.rn, .int .i64 c.rt, .int .i64 c.rR, .int .i64 c.cn, .int .i64 c.ct, .int .i64 c.cR, .int .i64 c.pr] 48)).heap[w.heap.size]? = some (.cells #[.int .i64 c.par, .int .i64 c.rn, .int .i64 c.rt, .int .i64 c.rR, .int .i64 c.cn, .int .i64 c.ct, .int .i64 c.cR, .int .i64 c.pr] 48 (0, 0))) := new_block _ _
  clear h1 h2
  go_enter Tryd.func35, Tryd.ntmps35
  go_wp2_with fail
  refine (new_yes _ _ _ _ H5.out).mono ?_
  rintro e w1 ⟨rb, rfl, hrb, hst, hb1⟩
  have HB1 : Hid (Below w.heap.size w w1) := HB.out.trans (hb1.mono HB.out.size)
  have H1 : Hid (w1.heap[w.heap.size]? = some (.cells #[.int .i64 c.par, .int .i64 c.rn, .int .i64 c.rt, .int .i64 c.rR, .int .i64 c.cn, .int .i64 c.ct, .int .i64 c.cR, .int .i64 c.pr] 48 (0, 0))) := (hb1.block _ (by simp)).trans H0.out
  have HRB : Hid (w.heap.size < rb) := by show _ < _; simp at hrb; omega
  have HST : Hid (StAt w1 rb c.rn c.rt c.rR (c.rR * c.rt) 0) := hst
  have hh := H1.out
  have x0 : w1.cell? ⟨w.heap.size, 4, none⟩ = some (.int .i64 c.cn) := by simp only [World.cell?]; rw [hh]; rfl
  have x1 : w1.cell? ⟨w.heap.size, 5, none⟩ = some (.int .i64 c.ct) := by simp only [World.cell?]; rw [hh]; rfl
  have x2 : w1.cell? ⟨w.heap.size, 6, none⟩ = some (.int .i64 c.cR) := by simp only [World.cell?]; rw [hh]; rfl
  have xl := lt_of_block hh
  clear hb1 hst hrb hh
  go_wp2_with fail
  refine (new_yes _ _ _ _ H6.out).mono ?_
  rintro e w2 ⟨cb, rfl, hcb, hst, hb2⟩
  have HB2 : Hid (Below w.heap.size w w2) := HB1.out.trans (hb2.mono HB1.out.size)
  have HRC : Hid (rb < cb) := by show _ < _; have := HST.out.lt; omega
  have HS2 : Hid (StAt w2 rb c.rn c.rt c.rR (c.rR * c.rt) 0) := HST.out.kept (S := fun _ => False) (Oth.of_below hb2) id
  have HC2 : Hid (StAt w2 cb c.cn c.ct c.cR (c.cR * c.ct) 0) := hst
  have H2 : Hid (w2.heap[w.heap.size]? = some (.cells #[.int .i64 c.par, .int .i64 c.rn, .int .i64 c.rt, .int .i64 c.rR, .int .i64 c.cn, .int .i64 c.ct, .int .i64 c.cR, .int .i64 c.pr] 48 (0, 0))) := (hb2.block _ xl).trans H1.out
  have hh := H2.out
  have y0 : w2.cell? ⟨w.heap.size, 0, none⟩ = some (.int .i64 c.par) := by simp only [World.cell?]; rw [hh]; rfl
  have y1 : w2.cell? ⟨w.heap.size, 1, none⟩ = some (.int .i64 c.rn) := by simp only [World.cell?]; rw [hh]; rfl
  have y2 : w2.cell? ⟨w.heap.size, 2, none⟩ = some (.int .i64 c.rt) := by simp only [World.cell?]; rw [hh]; rfl
  have y3 : w2.cell? ⟨w.heap.size, 3, none⟩ = some (.int .i64 c.rR) := by simp only [World.cell?]; rw [hh]; rfl
  have y4 : w2.cell? ⟨w.heap.size, 4, none⟩ = some (.int .i64 c.cn) := by simp only [World.cell?]; rw [hh]; rfl
  have y5 : w2.cell? ⟨w.heap.size, 5, none⟩ = some (.int .i64 c.ct) := by simp only [World.cell?]; rw [hh]; rfl
  have y6 : w2.cell? ⟨w.heap.size, 6, none⟩ = some (.int .i64 c.cR) := by simp only [World.cell?]; rw [hh]; rfl
  have y7 : w2.cell? ⟨w.heap.size, 7, none⟩ = some (.int .i64 c.pr) := by simp only [World.cell?]; rw [hh]; rfl
  have yl := lt_of_block hh
  clear hb2 hst hcb hh x0 x1 x2 xl
  go_wp2
  go_ret2
  refine ⟨_, rb, cb, rfl, Nat.le_of_lt HRB.out, HRC.out, ?_, new_block _ _, ?_, ?_, below_alloc_ HB2.out _⟩
  · exact HC2.out.lt
  · exact HS2.out.kept (S := fun _ => False) (Oth.of_below (below_alloc_ (Below.refl _ _) _)) id
  · exact HC2.out.kept (S := fun _ => False) (Oth.of_below (below_alloc_ (Below.refl _ _) _)) id
end Go.Proofs.YtpgdocmpbeabpaaDoor
namespace Go.Proofs.YtpgdocmpbeabpaaDoor
open Go.RowKit Go.Extern.Stop Go.Stop Go.Extern

/-- Elements of an argument, one behind the other. -/
def ArgAt {α : Type} (cs : α → List Value) (w : World) (px : Option Addr) (L : List α) : Prop := L = [] ∨ ∃ b off, px = some ⟨b, off, none⟩ ∧ b < w.heap.size ∧ ∀ j u, (flt cs L)[j]? = some u → w.cell? ⟨b, off + j, none⟩ = some u
theorem ArgAt.below {α : Type} {cs : α → List Value} {w w' : World} {px : Option Addr} {L : List α} (h : ArgAt cs w px L) (hb : Below w.heap.size w w') : ArgAt cs w' px L := by
  rcases h with h | ⟨b, off, h1, h2, h3⟩
  · exact Or.inl h
  · exact Or.inr ⟨b, off, h1, Nat.lt_of_lt_of_le h2 hb.size, fun j u hj => (hb.cell h2).trans (h3 j u hj)⟩
end Go.Proofs.YtpgdocmpbeabpaaDoor
namespace Go.Proofs.YtpgdocmpbeabpaaDoor
open Go.RowKit Go.Extern.Stop Go.Stop Go.Extern

/-- The cells of a class in an argument. -/
def HCl.cs (c : HCl) : List Value := [.int .i64 c.par, .int .i64 c.rn, .int .i64 c.rt, .int .i64 c.rR, .int .i64 c.cn, .int .i64 c.ct, .int .i64 c.cR, .int .i64 c.pr]
theorem HCl.len (c : HCl) : c.cs.length = 8 := rfl
theorem ArgAt.cls {w : World} {px : Option Addr} {L : List HCl} (h : ArgAt HCl.cs w px L) {i : Nat} {c : HCl} (hx : L[i]? = some c) : ∃ b off, px = some ⟨b, off, none⟩ ∧ b < w.heap.size ∧ w.cell? ⟨b, off + i * 8, none⟩ = some (.int .i64 c.par) ∧ w.cell? ⟨b, off + i * 8 + 1, none⟩ = some (.int .i64 c.rn) ∧ w.cell? ⟨b, off + i * 8 + 2, none⟩ = some (.int .i64 c.rt) ∧ w.cell? ⟨b, off + i * 8 + 3, none⟩ = some (.int .i64 c.rR) ∧ w.cell? ⟨b, off + i * 8 + 4, none⟩ = some (.int .i64 c.cn) ∧ w.cell? ⟨b, off + i * 8 + 5, none⟩ = some (.int .i64 c.ct) ∧ w.cell? ⟨b, off + i * 8 + 6, none⟩ = some (.int .i64 c.cR) ∧ w.cell? ⟨b, off + i * 8 + 7, none⟩ = some (.int .i64 c.pr) := by
  rcases h with rfl | ⟨b, off, h1, h2, h3⟩
  · simp at hx
  · have k : ∀ j, j < 8 → ∀ u, c.cs[j]? = some u → w.cell? ⟨b, off + i * 8 + j, none⟩ = some u := by
      intro j hj u hu
      rw [Nat.add_assoc]
      exact h3 _ _ ((flt_at HCl.cs 8 HCl.len hx hj).trans hu)
    exact ⟨b, off, h1, h2, k 0 (by omega) _ rfl, k 1 (by omega) _ rfl, k 2 (by omega) _ rfl, k 3 (by omega) _ rfl, k 4 (by omega) _ rfl, k 5 (by omega) _ rfl, k 6 (by omega) _ rfl, k 7 (by omega) _ rfl⟩
/-- Classes that may be. -/
def OkH (l : List HCl) : Prop := 1 ≤ l.length ∧ l.length ≤ 16 ∧ ∀ (i : Nat) c, l[i]? = some c → flawH c i = 0
set_option maxRecDepth 20000 in
set_option maxHeartbeats 4000000 in
theorem check_ht (l : List HCl) (px : Option Addr) (cap : Nat) (w : World) (hA : ArgAt HCl.cs w px l) (hL : Laid w) (hn : l.length ≤ maxLen) :
    Calls Tryd.prog 17 #[.slice px l.length cap] w fun e w' => Below w.heap.size w w' ∧ ((OkH l ∧ e = .returned .nilIface) ∨ (¬ OkH l ∧ ∃ ty v, e = .returned (.iface ty v))) := by
  have HA : Hid (ArgAt HCl.cs w px l) := hA
  have HL : Hid (Laid w) := hL
  have HFL : Hid (∀ W c i, Laid W → Calls Tryd.prog 34 #[.agg #[.int .i64 c.par, .int .i64 c.rn, .int .i64 c.rt, .int .i64 c.rR, .int .i64 c.cn, .int .i64 c.ct, .int .i64 c.cR, .int .i64 c.pr], .int .i64 i] W fun e w' => e = .returned (.int .i64 (flawH c i)) ∧ Below W.heap.size W w') := fun W c i hW => flaw_ht c i W hW
  unfold maxLen at hn
  by_cases h1 : l.length < 1
  · have hno : ¬ OkH l := fun h => by have := h.1; omega
    have HNO : Hid (¬ OkH l) := hno
    obtain ⟨n, hnn⟩ : ∃ n, l.length = n := ⟨_, rfl⟩
    rw [hnn] at h1 ⊢
    have h0 : n = 0 := by omega
    subst h0
    clear hA hL hno hn hnn h1
    go_enter Tryd.func17, Tryd.ntmps17
    go_wp2
    go_ret
    exact ⟨Below.refl _ _, Or.inr ⟨HNO.out, _, _, rfl⟩⟩
  by_cases h2 : 16 < l.length
  · have HNO : Hid (¬ OkH l) := fun h => by have := h.2.1; omega
    obtain ⟨n, hnn⟩ : ∃ n, l.length = n := ⟨_, rfl⟩
    rw [hnn] at h1 h2 hn ⊢
    have g1 : ¬ ((n : Int) < 1) := by omega
    have g2 : (16 : Int) < (n : Int) := by omega
    clear hA hL hnn h1 h2
    go_enter Tryd.func17, Tryd.ntmps17
    go_wp2
    go_ret
    exact ⟨Below.refl _ _, Or.inr ⟨HNO.out, _, _, rfl⟩⟩
  obtain ⟨n, hnn⟩ : ∃ n, l.length = n := ⟨_, rfl⟩
  have HN : Hid (l.length = n) := hnn
  rw [hnn] at h1 h2 hn ⊢
  have g1 : ¬ ((n : Int) < 1) := by omega
  have g2 : ¬ ((16 : Int) < (n : Int)) := by omega
  have HR : Hid (1 ≤ n ∧ n ≤ 16) := by show _ ∧ _; omega
  clear hA hL hnn
  go_enter Tryd.func17, Tryd.ntmps17
  go_wp2
  go_loopw [17] (fun iv wr => ∃ k : Nat, k ≤ n ∧ iv = .int .i64 k ∧ Hid (Below w.heap.size w wr) ∧ Hid (∀ j c, j < k → l[j]? = some c → flawH c j = 0)) (fun iv _ => n - (intOf iv).toNat)
  case atStart => exact ⟨0, Nat.zero_le _, rfl, Below.refl _ _, fun j c h => by omega⟩
  case round =>
    obtain ⟨k, hk, rfl, HB, HF⟩ := hrel
    by_cases hlt : k < n
    · obtain ⟨c, hc⟩ : ∃ c, l[k]? = some c := ⟨_, List.getElem?_eq_getElem (by rw [HN.out]; exact hlt)⟩
      have HC : Hid (l[k]? = some c) := hc
      obtain ⟨b, off, rfl, hbl, q0, q1, q2, q3, q4, q5, q6, q7⟩ := (HA.out.below HB.out).cls hc
      have hki : (k : Int) < (n : Int) := by omega
      have HL1 : Hid (∀ W, Below w.heap.size w W → Laid W) := fun W hW => HL.out.below hW
      have HCL : Hid (Calls Tryd.prog 34 #[.agg #[.int .i64 c.par, .int .i64 c.rn, .int .i64 c.rt, .int .i64 c.rR, .int .i64 c.cn, .int .i64 c.ct, .int .i64 c.cR, .int .i64 c.pr], .int .i64 (k : Int)] (wr.alloc (.cells #[.int .i64 c.par, .int .i64 c.rn, .int .i64 c.rt, .int .i64 c.rR, .int .i64 c.cn, .int .i64 c.ct, .int .i64 c.cR, .int .i64 c.pr] 48)) fun e w' => e = .returned (.int .i64 (flawH c k)) ∧ Below (wr.alloc (.cells #[.int .i64 c.par, .int .i64 c.rn, .int .i64 c.rt, .int .i64 c.rR, .int .i64 c.cn, .int .i64 c.ct, .int .i64 c.cR, .int .i64 c.pr] 48)).heap.size (wr.alloc (.cells #[.int .i64 c.par, .int .i64 c.rn, .int .i64 c.rt, .int .i64 c.rR, .int .i64 c.cn, .int .i64 c.ct, .int .i64 c.cR, .int .i64 c.pr] 48)) w') := HFL.out _ c k ((HL1.out wr HB.out).alloc _)
      have HB0 : Hid (Below w.heap.size w (wr.alloc (.cells #[.int .i64 c.par, .int .i64 c.rn, .int .i64 c.rt, .int .i64 c.rR, .int .i64 c.cn, .int .i64 c.ct, .int .i64 c.cR, .int .i64 c.pr] 48))) := HB.out.alloc HB.out.size _
      by_cases hf : flawH c k = 0
      · have HF2 : Hid (∀ j c', j < k + 1 → l[j]? = some c' → flawH c' j = 0) := by
          intro j c' hj hc'
          by_cases e : j = k
          · subst e
            rw [HC.out] at hc'
            cases hc'
            exact hf
          · exact HF.out j c' (by omega) hc'
        rw [hf] at HCL
        clear hc hf
        go_wp2_with fail
        refine HCL.out.mono ?_
        rintro e w1 ⟨rfl, hb1⟩
        have HB1 : Hid (Below w.heap.size w w1) := HB0.out.trans (hb1.mono HB0.out.size)
        clear hb1
        go_wp2
        go_roundw
        case rel => exact ⟨k + 1, by omega, by go_num, HB1, HF2⟩
        case measure => simp [intOf]; omega
      · have HNO : Hid (¬ OkH l) := fun h => hf (h.2.2 k c HC.out)
        obtain ⟨fv, hfv⟩ : ∃ fv, flawH c k = fv := ⟨_, rfl⟩
        rw [hfv] at HCL hf
        clear hc hfv
        go_wp2_with fail
        refine HCL.out.mono ?_
        rintro e w1 ⟨rfl, hb1⟩
        have HB1 : Hid (Below w.heap.size w w1) := HB0.out.trans (hb1.mono HB0.out.size)
        clear hb1
        go_wp2
        go_ret
        exact ⟨HB1.out.alloc HB1.out.size _, Or.inr ⟨HNO.out, _, _, rfl⟩⟩
    · have hkn : k = n := by omega
      have HOK : Hid (OkH l) := ⟨by rw [HN.out]; exact HR.out.1, by rw [HN.out]; exact HR.out.2, fun i c hc => HF.out i c (by rw [hkn, ← HN.out]; exact (List.getElem?_eq_some_iff.1 hc).1) hc⟩
      rw [hkn]
      go_wp2
      go_ret
      exact ⟨HB.out, Or.inl ⟨HOK.out, rfl⟩⟩
end Go.Proofs.YtpgdocmpbeabpaaDoor
