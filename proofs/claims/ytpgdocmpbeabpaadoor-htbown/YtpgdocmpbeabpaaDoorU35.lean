/-
  package htb: Check, for any classes. Conditions: they lie in memory; errors.errorType is laid.
  package htb: New, for any classes. Conditions: they lie in memory; errors.errorType is laid.
-/
import Derived.Test.YtpgdocmpbeabpaaDoorU31
import Derived.Test.YtpgdocmpbeabpaaDoorU34
import Derived.Test.YtpgdocmpbeabpaaDoorU24
namespace Go.Proofs.YtpgdocmpbeabpaaDoor
open Go.RowKit Go.Extern.Stop Go.Stop Go.Extern

/-- The cells of a class in an argument. -/
def HCl.cs (c : HCl) : List Value := [.int .i64 c.par, .int .i64 c.rn, .int .i64 c.rt, .int .i64 c.rR, .int .i64 c.cn, .int .i64 c.ct, .int .i64 c.cR, .int .i64 c.pr]
theorem HCl.len (c : HCl) : c.cs.length = 8 := rfl
theorem ArgAt.cls {w : World} {px : Option Addr} {L : List HCl} (h : ArgAt HCl.cs w px L) {i : Nat} {c : HCl} (hx : L[i]? = some c) : ∃ b off, px = some ⟨b, off, none⟩ ∧ b < w.heap.size ∧ w.cell? ⟨b, off + i * 8, none⟩ = some (.int .i64 c.par) ∧ w.cell? ⟨b, off + i * 8 + 1, none⟩ = some (.int .i64 c.rn) ∧ w.cell? ⟨b, off + i * 8 + 2, none⟩ = some (.int .i64 c.rt) ∧ w.cell? ⟨b, off + i * 8 + 3, none⟩ = some (.int .i64 c.rR) ∧ w.cell? ⟨b, off + i * 8 + 4, none⟩ = some (.int .i64 c.cn) ∧ w.cell? ⟨b, off + i * 8 + 5, none⟩ = some (.int .i64 c.ct) ∧ w.cell? ⟨b, off + i * 8 + 6, none⟩ = some (.int .i64 c.cR) ∧ w.cell? ⟨b, off + i * 8 + 7, none⟩ = some (.int .i64 c.pr) := by
  rcases h with rfl | ⟨b, off, h1, h2, h3⟩
  · simp at hx
  · have k : ∀ j, j < 8 → ∀ u, c.cs[j]? = some u → w.cell? ⟨b, off + i * 8 + j, none⟩ = some u := by
      intro j hj u hu
      rw [Nat.add_assoc]
      exact h3 _ _ ((flt_at HCl.cs 8 HCl.len hx hj).trans hu)
    exact ⟨b, off, h1, h2, k 0 (by omega) _ rfl, k 1 (by omega) _ rfl, k 2 (by omega) _ rfl, k 3 (by omega) _ rfl, k 4 (by omega) _ rfl, k 5 (by omega) _ rfl, k 6 (by omega) _ rfl, k 7 (by omega) _ rfl⟩
/-- Classes that may be. -/
def OkH (l : List HCl) : Prop := 1 ≤ l.length ∧ l.length ≤ 16 ∧ ∀ (i : Nat) c, l[i]? = some c → flawH c i = 0
set_option maxRecDepth 20000 in
set_option maxHeartbeats 4000000 in
theorem check_ht (l : List HCl) (px : Option Addr) (cap : Nat) (w : World) (hA : ArgAt HCl.cs w px l) (hL : Laid w) (hn : l.length ≤ maxLen) :
    Calls Tryd.prog 17 #[.slice px l.length cap] w fun e w' => Below w.heap.size w w' ∧ ((OkH l ∧ e = .returned .nilIface) ∨ (¬ OkH l ∧ ∃ ty v, e = .returned (.iface ty v))) := by
  have HA : Hid (ArgAt HCl.cs w px l) := hA
  have HL : Hid (Laid w) := hL
  have HFL : Hid (∀ W c i, Laid W → Calls Tryd.prog 34 #[.agg #[.int .i64 c.par, .int .i64 c.rn, .int .i64 c.rt, .int .i64 c.rR, .int .i64 c.cn, .int .i64 c.ct, .int .i64 c.cR, .int .i64 c.pr], .int .i64 i] W fun e w' => e = .returned (.int .i64 (flawH c i)) ∧ Below W.heap.size W w') := fun W c i hW => flaw_ht c i W hW
  unfold maxLen at hn
  by_cases h1 : l.length < 1
  · have hno : ¬ OkH l := fun h => by have := h.1; omega
    have HNO : Hid (¬ OkH l) := hno
    obtain ⟨n, hnn⟩ : ∃ n, l.length = n := ⟨_, rfl⟩
    rw [hnn] at h1 ⊢
    have h0 : n = 0 := by omega
    subst h0
    clear hA hL hno hn hnn h1
    go_enter Tryd.func17, Tryd.ntmps17
    go_wp2
    go_ret
    exact ⟨Below.refl _ _, Or.inr ⟨HNO.out, _, _, rfl⟩⟩
  by_cases h2 : 16 < l.length
  · have HNO : Hid (¬ OkH l) := fun h => by have := h.2.1; omega
    obtain ⟨n, hnn⟩ : ∃ n, l.length = n := ⟨_, rfl⟩
    rw [hnn] at h1 h2 hn ⊢
    have g1 : ¬ ((n : Int) < 1) := by omega
    have g2 : (16 : Int) < (n : Int) := by omega
    clear hA hL hnn h1 h2
    go_enter Tryd.func17, Tryd.ntmps17
    go_wp2
    go_ret
    exact ⟨Below.refl _ _, Or.inr ⟨HNO.out, _, _, rfl⟩⟩
  obtain ⟨n, hnn⟩ : ∃ n, l.length = n := ⟨_, rfl⟩
  have HN : Hid (l.length = n) := hnn
  rw [hnn] at h1 h2 hn ⊢
  have g1 : ¬ ((n : Int) < 1) := by omega
  have g2 : ¬ ((16 : Int) < (n : Int)) := by omega
  have HR : Hid (1 ≤ n ∧ n ≤ 16) := by show _ ∧ _; omega
  clear hA hL hnn
  go_enter Tryd.func17, Tryd.ntmps17
  go_wp2
  go_loopw [17] (fun iv wr => ∃ k : Nat, k ≤ n ∧ iv = .int .i64 k ∧ Hid (Below w.heap.size w wr) ∧ Hid (∀ j c, j < k → l[j]? = some c → flawH c j = 0)) (fun iv _ => n - (intOf iv).toNat)
  case atStart => exact ⟨0, Nat.zero_le _, rfl, Below.refl _ _, fun j c h => by omega⟩
  case round =>
    obtain ⟨k, hk, rfl, HB, HF⟩ := hrel
    by_cases hlt : k < n
    · obtain ⟨c, hc⟩ : ∃ c, l[k]? = some c := ⟨_, List.getElem?_eq_getElem (by rw [HN.out]; exact hlt)⟩
      have HC : Hid (l[k]? = some c) := hc
      obtain ⟨b, off, rfl, hbl, q0, q1, q2, q3, q4, q5, q6, q7⟩ := (HA.out.below HB.out).cls hc
      have hki : (k : Int) < (n : Int) := by omega
      have HL1 : Hid (∀ W, Below w.heap.size w W → Laid W) := fun W hW => HL.out.below hW
      have HCL : Hid (Calls Tryd.prog 34 #[.agg #[.int .i64 c.par, .int .i64 c.rn, .int .i64 c.rt, .int .i64 c.rR, .int .i64 c.cn, .int .i64 c.ct, .int .i64 c.cR, .int .i64 c.pr], .int .i64 (k : Int)] (wr.alloc (.cells #[.int .i64 c.par, .int .i64 c.rn, .int .i64 c.rt, .int .i64 c.rR, .int .i64 c.cn, .int .i64 c.ct, .int .i64 c.cR, .int .i64 c.pr] 48)) fun e w' => e = .returned (.int .i64 (flawH c k)) ∧ Below (wr.alloc (.cells #[.int .i64 c.par, .int .i64 c.rn, .int .i64 c.rt, .int .i64 c.rR, .int .i64 c.cn, .int .i64 c.ct, .int .i64 c.cR, .int .i64 c.pr] 48)).heap.size (wr.alloc (.cells #[.int .i64 c.par, .int .i64 c.rn, .int .i64 c.rt, .int .i64 c.rR, .int .i64 c.cn, .int .i64 c.ct, .int .i64 c.cR, .int .i64 c.pr] 48)) w') := HFL.out _ c k ((HL1.out wr HB.out).alloc _)
      have HB0 : Hid (Below w.heap.size w (wr.alloc (.cells #[.int .i64 c.par, .int .i64 c.rn, .int .i64 c.rt, .int .i64 c.rR, .int .i64 c.cn, .int .i64 c.ct, .int .i64 c.cR, .int .i64 c.pr] 48))) := HB.out.alloc HB.out.size _
      by_cases hf : flawH c k = 0
      · have HF2 : Hid (∀ j c', j < k + 1 → l[j]? = some c' → flawH c' j = 0) := by
          intro j c' hj hc'
          by_cases e : j = k
          · subst e
            rw [HC.out] at hc'
            cases hc'
            exact hf
          · exact HF.out j c' (by omega) hc'
        rw [hf] at HCL
        clear hc hf
        go_wp2_with fail
        refine HCL.out.mono ?_
        rintro e w1 ⟨rfl, hb1⟩
        have HB1 : Hid (Below w.heap.size w w1) := HB0.out.trans (hb1.mono HB0.out.size)
        clear hb1
        go_wp2
        go_roundw
        case rel => exact ⟨k + 1, by omega, by go_num, HB1, HF2⟩
        case measure => simp [intOf]; omega
      · have HNO : Hid (¬ OkH l) := fun h => hf (h.2.2 k c HC.out)
        obtain ⟨fv, hfv⟩ : ∃ fv, flawH c k = fv := ⟨_, rfl⟩
        rw [hfv] at HCL hf
        clear hc hfv
        go_wp2_with fail
        refine HCL.out.mono ?_
        rintro e w1 ⟨rfl, hb1⟩
        have HB1 : Hid (Below w.heap.size w w1) := HB0.out.trans (hb1.mono HB0.out.size)
        clear hb1
        go_wp2
        go_ret
        exact ⟨HB1.out.alloc HB1.out.size _, Or.inr ⟨HNO.out, _, _, rfl⟩⟩
    · have hkn : k = n := by omega
      have HOK : Hid (OkH l) := ⟨by rw [HN.out]; exact HR.out.1, by rw [HN.out]; exact HR.out.2, fun i c hc => HF.out i c (by rw [hkn, ← HN.out]; exact (List.getElem?_eq_some_iff.1 hc).1) hc⟩
      rw [hkn]
      go_wp2
      go_ret
      exact ⟨HB.out, Or.inl ⟨HOK.out, rfl⟩⟩
end Go.Proofs.YtpgdocmpbeabpaaDoor
namespace Go.Proofs.YtpgdocmpbeabpaaDoor
open Go.RowKit Go.Extern.Stop Go.Stop Go.Extern

theorem flawH_zero {c : HCl} {i : Int} (h : flawH c i = 0) : (-1 ≤ c.par ∧ c.par < i) ∧ (0 ≤ c.pr ∧ c.pr < 8) ∧ okB c.rn c.rt c.rR ∧ okB c.cn c.ct c.cR := by
  unfold flawH at h
  split at h
  · omega
  · split at h
    · omega
    · split at h
      · split at h
        · rename_i h1 h2
          exact ⟨by omega, by omega, h1, h2⟩
        · omega
      · omega
/-- A tree without classes. -/
def HtK.none (tb : Nat) (room : Int) : HtK := ⟨tb, 0, 0, 0, room, fun _ => ⟨0, 0, 0, 0, 0, 0, 0, 0⟩, fun _ => false, fun _ => 0, fun _ => 0, fun _ => 0⟩
def hcl0 : HCl := ⟨0, 0, 0, 0, 0, 0, 0, 0⟩
/-- These are its classes. -/
structure HtK.Of (K : HtK) (l : List HCl) (k : Nat) : Prop where
  n : K.N = k
  cls : ∀ i, i < k → l[i]? = some (K.cls i)
  inner : ∀ i : Nat, K.inner i = true ↔ ∃ j, j < k ∧ (K.cls j).par = (i : Int)
  z : ∀ i, k ≤ i → K.cls i = hcl0
theorem HtK.Of.push {K : HtK} {l : List HCl} {k : Nat} (h : K.Of l k) {c : HCl} (hc : l[k]? = some c) (n r b : Nat) : (K.push c n r b).Of l (k + 1) := by
  have hk := h.n
  have e1 : (K.push c n r b).cls k = c := by show updF K.cls K.N c k = c; rw [hk]; exact updF_same _ _ _
  have e2 : ∀ i, i < k → (K.push c n r b).cls i = K.cls i := fun i hi => by show updF K.cls K.N c i = _; rw [hk]; exact updF_ne (by omega)
  refine ⟨by show K.N + 1 = k + 1; omega, fun i hi => ?_, fun i => ?_, fun i hi => by show updF K.cls K.N c i = _; rw [updF_ne (by omega)]; exact h.z i (by omega)⟩
  · by_cases e : i = k
    · subst e; rw [e1]; exact hc
    · rw [e2 i (by omega)]; exact h.cls i (by omega)
  · show (K.inner i || decide (c.par = (i : Int))) = true ↔ _
    rw [Bool.or_eq_true, decide_eq_true_eq, h.inner i]
    constructor
    · rintro (⟨j, h1, h2⟩ | h2)
      · exact ⟨j, by omega, by rw [e2 j h1]; exact h2⟩
      · exact ⟨k, by omega, by rw [e1]; exact h2⟩
    · rintro ⟨j, h1, h2⟩
      by_cases e : j = k
      · subst e; rw [e1] at h2; exact Or.inr h2
      · rw [e2 j (by omega)] at h2; exact Or.inl ⟨j, by omega, h2⟩
/-- All that its answers stand on, out of the list. -/
def clsL (l : List HCl) (i : Nat) : HCl := l.getD i hcl0
def innL (l : List HCl) (i : Nat) : Bool := l.any fun c => decide (c.par = (i : Int))
theorem HtK.Of.eq {K : HtK} {l : List HCl} (h : K.Of l l.length) : K.N = l.length ∧ K.cls = clsL l ∧ K.inner = innL l := by
  have e : K.cls = clsL l := by
    funext i
    unfold clsL
    rw [List.getD_eq_getElem?_getD]
    by_cases hi : i < l.length
    · rw [h.cls i hi]; rfl
    · rw [List.getElem?_eq_none (by omega)]; exact h.z i (by omega)
  refine ⟨h.n, e, ?_⟩
  funext i
  rw [Bool.eq_iff_iff, h.inner i]
  unfold innL
  rw [List.any_eq_true]
  constructor
  · rintro ⟨j, h1, h2⟩
    exact ⟨K.cls j, List.mem_of_getElem? (h.cls j h1), decide_eq_true h2⟩
  · rintro ⟨c, h1, h2⟩
    obtain ⟨j, hj, hc⟩ := List.getElem_of_mem h1
    refine ⟨j, hj, ?_⟩
    have := h.cls j hj
    rw [List.getElem?_eq_getElem hj, hc] at this
    rw [← Option.some.inj this]
    exact of_decide_eq_true h2
/-- A tree that was made. -/
structure NewH (K : HtK) (l : List HCl) (room : Int) (base : Nat) (w : World) : Prop where
  ok : HtKOk K
  of : K.Of l l.length
  room : K.room = room
  at' : ∃ vs ow, HtAt K w ⟨nd0 K, 0, 0⟩ vs ow ∧ ∀ k, HtF K vs k → base ≤ k
  inv : HtJ K 0 0 ⟨nd0 K, 0, 0⟩
theorem HtJ.start {K : HtK} (h : HtKOk K) : HtJ K 0 0 ⟨nd0 K, 0, 0⟩ := by
  refine ⟨⟨Int.le_refl _, Int.le_refl _, fun i hi => ?_, fun i hi => ?_, fun i hi => ⟨Nat.le_refl _, fun x hx => (by cases hx)⟩, fun i hi _ => rfl⟩, fun i hi x hx => (by cases hx), fun i hi => List.Pairwise.nil⟩
  · have := (h.okr i hi).room
    exact ⟨h.okr i hi, this.1, Int.le_refl _, Int.le_refl _, Int.le_refl _⟩
  · have := (h.okc i hi).room
    exact ⟨h.okc i hi, this.1, Int.le_refl _, Int.le_refl _, Int.le_refl _⟩
set_option maxRecDepth 20000 in
set_option maxHeartbeats 8000000 in
theorem hnew_any (l : List HCl) (px : Option Addr) (cap : Nat) (room : Int) (w : World) (hA : ArgAt HCl.cs w px l) (hL : Laid w) (hn : l.length ≤ maxLen) :
    Calls Tryd.prog 5 #[.slice px l.length cap, .int .i64 room] w fun e w' => Below w.heap.size w w' ∧ ((¬ (OkH l ∧ 0 ≤ room ∧ room ≤ 1000000) ∧ ∃ ty v, e = .returned (.tuple #[.pointer none, .iface ty v])) ∨ (OkH l ∧ ∃ K, e = .returned (.tuple #[.pointer (some ⟨K.tb, 0, none⟩), .nilIface]) ∧ Hid (NewH K l room w.heap.size w'))) := by
  have HA : Hid (ArgAt HCl.cs w px l) := hA
  have HCH := check_ht l px cap w hA hL hn
  unfold maxLen at hn
  obtain ⟨n, hnn⟩ : ∃ n, l.length = n := ⟨_, rfl⟩
  have HN : Hid (l.length = n) := hnn
  rw [hnn] at HCH hn ⊢
  by_cases hok : OkH l
  · have HOK : Hid (OkH l) := hok
    have HCY : Hid (Calls Tryd.prog 17 #[.slice px n cap] w fun e w' => e = .returned .nilIface ∧ Below w.heap.size w w') := HCH.mono (by
      rintro e w' ⟨hb, ⟨_, rfl⟩ | ⟨hno, _⟩⟩
      · exact ⟨rfl, hb⟩
      · exact absurd hok hno)
    clear HCH hA hL hnn hok
    by_cases h1 : room < 0
    · have HNO : Hid (¬ (OkH l ∧ 0 ≤ room ∧ room ≤ 1000000)) := fun h => by have := h.2; omega
      go_enter Tryd.func5, Tryd.ntmps5
      go_wp2_with fail
      refine HCY.out.mono ?_
      rintro e w1 ⟨rfl, hb1⟩
      go_wp2
      go_ret2
      exact ⟨hb1, Or.inl ⟨HNO.out, _, _, rfl⟩⟩
    by_cases h2 : 1000000 < room
    · have HNO : Hid (¬ (OkH l ∧ 0 ≤ room ∧ room ≤ 1000000)) := fun h => by have := h.2; omega
      go_enter Tryd.func5, Tryd.ntmps5
      go_wp2_with fail
      refine HCY.out.mono ?_
      rintro e w1 ⟨rfl, hb1⟩
      go_wp2
      go_ret2
      exact ⟨hb1, Or.inl ⟨HNO.out, _, _, rfl⟩⟩
    have HRM : Hid (0 ≤ room ∧ room ≤ 1000000) := by show _ ∧ _; omega
    have HGR : Hid (∀ (K : HtK) v ow c W, GrAt K W v ow w.heap.size → K.N < n → l[K.N]? = some c → w.heap.size ≤ W.heap.size → Calls Tryd.prog 18 #[.pointer (some ⟨K.tb, 0, none⟩), .agg #[.int .i64 c.par, .int .i64 c.rn, .int .i64 c.rt, .int .i64 c.rR, .int .i64 c.cn, .int .i64 c.ct, .int .i64 c.cR, .int .i64 c.pr]] W fun e w' => e = .returned .nilIface ∧ ∃ n r b v' ow', Hid (GrAt (K.push c n r b) w' v' ow' w.heap.size) ∧ Hid (Ot (fun k => w.heap.size ≤ k) W w')) := fun K v ow c W hW hKN hc hs => by
      have hf := flawH_zero (HOK.out.2.2 K.N c hc)
      have := HOK.out.2.1
      exact grow_ht c W hW hf.2.2.1 hf.2.2.2 hf.1 (by rw [HN.out] at this; omega) hs
    go_enter Tryd.func5, Tryd.ntmps5
    go_wp2_with fail
    refine HCY.out.mono ?_
    rintro e w1 ⟨rfl, hb1⟩
    have HB1 : Hid (Below w.heap.size w w1) := hb1
    have HG0 : Hid (GrAt (HtK.none w1.heap.size room) (w1.alloc (.cells #[.int .i64 room, .slice none 0 0, .int .i64 0] 68)) (.slice none 0 0) (fun _ => (0, 0)) w.heap.size) := by
      refine ⟨⟨fun i hi => absurd hi (Nat.not_lt_zero i), fun i _ => rfl, fun i hi => absurd hi (Nat.not_lt_zero i), fun i hi => absurd hi (Nat.not_lt_zero i), fun i hi => absurd hi (Nat.not_lt_zero i), fun i hi => absurd hi (Nat.not_lt_zero i), fun i hi => absurd hi (Nat.not_lt_zero i), fun i hi => absurd hi (Nat.not_lt_zero i), fun i hi => absurd hi (Nat.not_lt_zero i)⟩, new_block _ _, World.ownsRow_nil _ _ _ _, rfl, hb1.size⟩
    have HB2 : Hid (Below w.heap.size w (w1.alloc (.cells #[.int .i64 room, .slice none 0 0, .int .i64 0] 68))) := hb1.alloc hb1.size _
    clear hb1
    go_wp2
    go_loopw [28] (fun iv wr => ∃ (k : Nat) (K : HtK) (v : Value) (ow : Nat → Nat × Nat), k ≤ n ∧ iv = .int .i64 k ∧ Hid (K.Of l k ∧ K.tb = w1.heap.size ∧ K.room = room) ∧ Hid (GrAt K wr v ow w.heap.size) ∧ Hid (Below w.heap.size w wr)) (fun iv _ => n - (intOf iv).toNat)
    case atStart => exact ⟨0, _, _, _, Nat.zero_le _, rfl, ⟨⟨rfl, fun i hi => by omega, fun i => ⟨fun h => (by cases h), fun ⟨j, hj, _⟩ => by omega⟩, fun i _ => rfl⟩, rfl, rfl⟩, HG0, HB2⟩
    case round =>
      clear HG0 HB2
      obtain ⟨k, K, v, ow, hk, rfl, HK, HG, HB⟩ := hrel
      by_cases hlt : k < n
      · obtain ⟨c, hc⟩ : ∃ c, l[k]? = some c := ⟨_, List.getElem?_eq_getElem (by rw [HN.out]; exact hlt)⟩
        have HC : Hid (l[k]? = some c) := hc
        obtain ⟨b, off, rfl, hbl, q0, q1, q2, q3, q4, q5, q6, q7⟩ := (HA.out.below HB.out).cls hc
        have hki : (k : Int) < (n : Int) := by omega
        have HCL := HGR.out K v ow c (wr.alloc (.cells #[.int .i64 c.par, .int .i64 c.rn, .int .i64 c.rt, .int .i64 c.rR, .int .i64 c.cn, .int .i64 c.ct, .int .i64 c.cR, .int .i64 c.pr] 48)) (HG.out.below (below_alloc_ (Below.refl _ _) _)) (by rw [HK.out.1.n]; exact hlt) (by rw [HK.out.1.n]; exact hc) (by have := HB.out.size; simp; omega)
        rw [HK.out.2.1] at HCL
        clear hc
        go_wp2_with fail
        refine HCL.mono ?_
        rintro e w2 ⟨rfl, n2, r2, b2, v2, ow2, HG2, HO2⟩
        have HB3 : Hid (Below w.heap.size w w2) := (HB.out.alloc HB.out.size _).trans (HO2.out.below (by have := HB.out.size; simp; omega) (fun k hk => hk))
        clear HO2
        go_wp2
        go_roundw
        case rel => exact ⟨k + 1, K.push c n2 r2 b2, v2, ow2, by omega, by go_num, ⟨HK.out.1.push HC.out n2 r2 b2, HK.out.2⟩, HG2, HB3⟩
        case measure => simp [intOf]; omega
      · have hkn : k = n := by omega
        obtain ⟨hK1, hK2, hK3⟩ := HK.out
        obtain ⟨g, gcap, ow', hAt, hF⟩ := HG.out.tree (by have := HOK.out.1; rw [hK1.n, hkn, ← HN.out]; omega)
        have hof : HtK.Of { K with g := g, gcap := gcap } l l.length := ⟨by rw [HN.out, ← hkn]; exact hK1.n, by rw [HN.out, ← hkn]; exact hK1.cls, by rw [HN.out, ← hkn]; exact hK1.inner, by rw [HN.out, ← hkn]; exact hK1.z⟩
        have hfl : ∀ i, i < K.N → flawH (K.cls i) i = 0 := fun i hi => HOK.out.2.2 i _ (hK1.cls i (by rw [← hK1.n]; exact hi))
        have hkok : HtKOk { K with g := g, gcap := gcap } := ⟨by show 1 ≤ K.N; have := HOK.out.1; rw [hK1.n, hkn, ← HN.out]; omega, by show K.N ≤ 16; have := HOK.out.2.1; rw [hK1.n, hkn, ← HN.out]; omega, by show 0 ≤ K.room ∧ _; rw [hK3]; exact HRM.out, fun i hi => (flawH_zero (hfl i hi)).1, fun i hi => (flawH_zero (hfl i hi)).2.2.1, fun i hi => (flawH_zero (hfl i hi)).2.2.2, fun i hi => (flawH_zero (hfl i hi)).2.1⟩
        have HFIN : Hid (NewH { K with g := g, gcap := gcap } l room w.heap.size wr) := ⟨hkok, hof, hK3, ⟨_, ow', hAt, hF⟩, HtJ.start hkok⟩
        have HTB : Hid (K.tb = w1.heap.size) := hK2
        rw [hkn]
        clear hAt hF hof hfl hkok hK1 hK2 hK3
        go_wp2
        go_ret2
        exact ⟨HB.out, Or.inr ⟨HOK.out, _, by rw [← HTB.out]; rfl, HFIN⟩⟩
  · have HNO : Hid (¬ (OkH l ∧ 0 ≤ room ∧ room ≤ 1000000)) := fun h => hok h.1
    have HCY : Hid (Calls Tryd.prog 17 #[.slice px n cap] w fun e w' => (∃ ty v, e = .returned (.iface ty v)) ∧ Below w.heap.size w w') := HCH.mono (by
      rintro e w' ⟨hb, ⟨h, _⟩ | ⟨_, h⟩⟩
      · exact absurd h hok
      · exact ⟨h, hb⟩)
    clear HCH hA hL hnn hok
    go_enter Tryd.func5, Tryd.ntmps5
    go_wp2_with fail
    refine HCY.out.mono ?_
    rintro e w1 ⟨⟨ty, v, rfl⟩, hb1⟩
    go_wp2
    go_ret2
    exact ⟨hb1, Or.inl ⟨HNO.out, _, _, rfl⟩⟩
end Go.Proofs.YtpgdocmpbeabpaaDoor
