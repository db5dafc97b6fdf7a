/-
  A Fifo is a queue as plain.Play asks it: its model. Conditions: room from 0 to MaxRoom.
  package plant: a Fifo that a text tells. Conditions: its two numbers are room that may be.
  millracekeep.left (and kept): true where each packet that was put in is taken, lost, or waits, each just once. Conditions: the steps and what was seen lie in memory; the count is as a fold tells (a premise).
  A region that draws its order, by what holds at every point of it: each operation is carried out once, at any point at which it may come up; no order is written out.
-/
import Derived.Test.YtfakjedolecdcaaGreatDoorU4
import Derived.Test.YtfakjedolecdcaaGreatDoorU9
import Derived.Test.YtfakjedolecdcaaGreatDoorProg
import Derived.WalkKit
import Derived.Deep.RegionWith
namespace Go.Proofs.YtfakjedolecdcaaGreatDoor
open Go.RowKit Go.Extern.Stop Go.Stop Go.Extern

theorem mFifoP (a : Addr) (W : World) : (Go.method 395 86 (.pointer (some a)) "Put").run Tryz.prog W = .ok (140, .pointer (some a)) W := by kernel_rfl
theorem mFifoT (a : Addr) (W : World) : (Go.method 395 86 (.pointer (some a)) "Take").run Tryz.prog W = .ok (141, .pointer (some a)) W := by kernel_rfl
theorem mFifoW (a : Addr) (W : World) : (Go.method 395 86 (.pointer (some a)) "When").run Tryz.prog W = .ok (142, .pointer (some a)) W := by kernel_rfl
theorem mFifoL (b : Nat) (W : World) : (Go.method 395 86 (.pointer (some ⟨b, 0, none⟩)) "Len").run Tryz.prog W = .ok (139, .pointer (some ⟨b, 0, none⟩)) W := by kernel_rfl
theorem mFifoB (b : Nat) (W : World) : (Go.method 395 86 (.pointer (some ⟨b, 0, none⟩)) "Bytes").run Tryz.prog W = .ok (138, .pointer (some ⟨b, 0, none⟩)) W := by kernel_rfl
theorem eFifoP (args : Array Value) (W : World) : (callFunc 140 args).run Tryz.prog W = .ok (.enter 140 args) W := enters_of Tryz.func140 (by kernel_rfl) rfl args W
theorem eFifoT (args : Array Value) (W : World) : (callFunc 141 args).run Tryz.prog W = .ok (.enter 141 args) W := enters_of Tryz.func141 (by kernel_rfl) rfl args W
theorem eFifoW (args : Array Value) (W : World) : (callFunc 142 args).run Tryz.prog W = .ok (.enter 142 args) W := enters_of Tryz.func142 (by kernel_rfl) rfl args W
theorem eFifoL (args : Array Value) (W : World) : (callFunc 139 args).run Tryz.prog W = .ok (.enter 139 args) W := enters_of Tryz.func139 (by kernel_rfl) rfl args W
theorem eFifoB (args : Array Value) (W : World) : (callFunc 138 args).run Tryz.prog W = .ok (.enter 138 args) W := enters_of Tryz.func138 (by kernel_rfl) rfl args W

/-- A Fifo in block b: room for P packets and R bytes. -/
def FifoM (b : Nat) (P R : Int) (hd : Bool) : QM where
  σ := List Hd
  ty := 86
  rv := .pointer (some ⟨b, 0, none⟩)
  fP := 140
  fT := 141
  fW := 142
  fL := 139
  fB := 138
  rP := .pointer (some ⟨b, 0, none⟩)
  rT := .pointer (some ⟨b, 0, none⟩)
  rW := .pointer (some ⟨b, 0, none⟩)
  rL := .pointer (some ⟨b, 0, none⟩)
  rB := .pointer (some ⟨b, 0, none⟩)
  At := fun w F L => ∃ v, LAt w b 110 (frest P R hd []) v L ∧ ∀ k, F k ↔ k = b ∨ v.ownBlock = some k
  put := fun L _ x => ((putF P R hd L x).2, (putF P R hd L x).1)
  take := fun L _ => (L.tail, [], hdOr L, !L.isEmpty)
  when := fun L now => (L, now, !L.isEmpty)
  len := fun L => L.length
  bytes := fun L => sumL L
  inv := fun _ n L => L.length ≤ n ∧ ∀ x ∈ L, x.ok = true
theorem ok_len {x : Hd} (h : x.ok = true) : 1 ≤ x.l ∧ x.l ≤ 10000 := by
  simp only [Hd.ok, It.ok, Bool.and_eq_true, wth_iff] at h
  omega
theorem fit_of {n : Nat} {L : List Hd} (h : L.length ≤ n ∧ ∀ x ∈ L, x.ok = true) (hn : n ≤ 1000000) : Fit L := ⟨by omega, fun x hx => by have := ok_len (h.2 x hx); omega⟩
theorem cutL_parts (P R : Int) (L : List Hd) : (cutL P R L).1 ++ (cutL P R L).2 = L := by
  induction L with
  | nil => rfl
  | cons x L ih =>
    simp only [cutL]
    split
    · simp [ih]
    · rfl
theorem putF_mem {P R : Int} {hd : Bool} {L : List Hd} {x : Hd} : (∀ y ∈ (putF P R hd L x).2, y ∈ L ++ [x]) ∧ (putF P R hd L x).2.length ≤ L.length + 1 ∧ (putF P R hd L x).1.length ≤ L.length + 1 := by
  unfold putF
  split
  · have h := cutL_parts P R (L ++ [x])
    have hl := congrArg List.length h
    simp at hl
    refine ⟨fun y hy => ?_, by omega, by omega⟩
    rw [← h]
    exact List.mem_append_right _ hy
  · split
    · exact ⟨fun y hy => List.mem_append_left _ hy, by simp, by simp⟩
    · exact ⟨fun y hy => hy, by simp, by simp⟩
theorem fifoM_fine (b : Nat) (P R : Int) (hd : Bool) (hP : 0 ≤ P) (hR : 0 ≤ R) (hR1 : R ≤ 1000000) : (FifoM b P R hd).Fine where
  kept := by
    rintro w w' F L ⟨v, h, hF⟩ hk
    exact ⟨v, h.kept (hk b ((hF b).2 (Or.inl rfl))) (fun k hv => hk k ((hF k).2 (Or.inr hv))), hF⟩
  low := by
    rintro w F L ⟨v, h, hF⟩ k hk
    rcases (hF k).1 hk with rfl | hv
    · exact h.lt
    · exact h.row.lt hv
  mP := mFifoP _
  mT := mFifoT _
  mW := mFifoW _
  mL := mFifoL _
  mB := mFifoB _
  eP := eFifoP
  eT := eFifoT
  eW := eFifoW
  eL := eFifoL
  eB := eFifoB
  cP := by
    rintro w F (L : List Hd) t n now x ⟨v, h, hF⟩ hI ht0 ht1 ht2 hok hxa hxn hn
    have hfit : Fit (L ++ [x]) := fit_of (n := n + 1) ⟨by simpa using hI.1, fun y hy => by rcases List.mem_append.1 hy with h | h; exact hI.2 y h; simp at h; exact h ▸ hok⟩ (by omega)
    refine (fifo_put now x w h hfit hP hR hR1).mono ?_
    rintro e w' ⟨u, v', rfl, hu, hl, hk, hn', ho⟩
    refine ⟨u, fun k => k = b ∨ v'.ownBlock = some k, rfl, hu, ⟨v', hl, fun k => Iff.rfl⟩, ?_, fun k hk => Or.inr (hn' k hk), ho.mono (fun k _ h => (hF k).2 h)⟩
    intro k hk'
    rcases hk' with rfl | h
    · exact Or.inl ((hF _).2 (Or.inl rfl))
    · rcases hk k h with h | h
      · exact Or.inl ((hF k).2 (Or.inr h))
      · exact Or.inr h
  iP := by
    intro (L : List Hd) t n now x hI ht0 ht1 ht2 hok hxa hxn hn
    obtain ⟨h1, h2, h3⟩ := putF_mem (P := P) (R := R) (hd := hd) (L := L) (x := x)
    refine ⟨⟨?_, fun y hy => ?_⟩, ?_⟩
    · have := hI.1
      show (putF P R hd L x).2.length ≤ n + 1
      omega
    · rcases List.mem_append.1 (h1 y hy) with h | h
      · exact hI.2 y h
      · simp at h; exact h ▸ hok
    · have := hI.1
      show (putF P R hd L x).1.length ≤ 1000000
      omega
  cT := by
    rintro w F (L : List Hd) t n now ⟨v, h, hF⟩ hI ht0 ht1 ht2 hn
    refine (fifo_take now w h (fit_of hI (by omega))).mono ?_
    rintro e w' ⟨rfl, v', hl, hk, ho⟩
    refine ⟨_, F, rfl, Hs.nil _, ⟨v', hl, fun k => by rw [hF, hk]⟩, fun k hk => Or.inl hk, fun k hk => by simp [Value.ownBlock] at hk, ho.mono (fun k _ h => (hF k).2 (Or.inl h))⟩
  iT := by
    intro (L : List Hd) t n now hI ht0 ht1 ht2 hn
    refine ⟨⟨?_, fun y hy => hI.2 y (List.mem_of_mem_tail hy)⟩, by simp [FifoM]⟩
    have := hI.1
    show L.tail.length ≤ n
    rw [List.length_tail]
    omega
  cW := by
    rintro w F (L : List Hd) t n now ⟨v, h, hF⟩ hI ht0 ht1 ht2 hn
    refine (fifo_when now w h).mono ?_
    rintro e w' ⟨rfl, rfl⟩
    exact ⟨F, rfl, ⟨v, h, hF⟩, fun k hk => Or.inl hk, Ot.refl _ _⟩
  iW := by
    intro (L : List Hd) t n now hI ht0 ht1 ht2 hn
    exact hI
  cL := by
    rintro w F L t n ⟨v, h, hF⟩ hI hn
    exact (len_any w h).mono (by rintro e w' ⟨rfl, rfl⟩; exact ⟨rfl, Below.refl _ _⟩)
  cB := by
    rintro w F L t n ⟨v, h, hF⟩ hI hn
    exact (bytes_any w h).mono (by rintro e w' ⟨rfl, rfl⟩; exact ⟨rfl, Below.refl _ _⟩)
end Go.Proofs.YtfakjedolecdcaaGreatDoor
namespace Go.Proofs.YtfakjedolecdcaaGreatDoor
open Go.RowKit Go.Extern.Stop Go.Stop Go.Extern

theorem made_yes (x : List UInt8 × Nat) (qv : Value) (w : World) :
    Calls Tryz.prog 46 #[.agg #[.string ⟨x.1.toArray⟩, .int .i64 x.2], qv, .nilIface] w fun e w' => e = .returned (.tuple #[qv, .nilIface]) ∧ Below w.heap.size w w' := by
  go_enter Tryz.func46, Tryz.ntmps46
  go_wp2
  go_ret2
  exact ⟨rfl, below_alloc_ (Below.refl _ _) _⟩
theorem end_any (x : List UInt8 × Nat) (w : World) :
    Calls Tryz.prog 21 #[.agg #[.string ⟨x.1.toArray⟩, .int .i64 x.2]] w fun e w' => e = .returned (.bool (x.1 == [])) ∧ Below w.heap.size w w' := by
  go_enter Tryz.func21, Tryz.ntmps21
  go_wp2
  go_ret
  exact ⟨by simp, below_alloc_ (Below.refl _ _) _⟩
def headB : List UInt8 := [104, 101, 97, 100]
def fifoB : List UInt8 := [102, 105, 102, 111]
set_option maxHeartbeats 2000000 in
theorem fifo_yes {b : Nat} {n : Nat} {rest : List Value} {v : Value} {x1 x2 : List UInt8 × Nat} {R : List (List UInt8 × Nat)} (f : List UInt8 × Nat) (P Rm : Int) (w : World) (h : RdAt w b 65 n rest v (x1 :: x2 :: R)) (hB : ∀ w', Ot (fun k => k = b) w w' → Glob w') (h1 : numL x1.1 = some P) (h2 : numL x2.1 = some Rm) (hl1 : x1.1.length ≤ 2000) (hl2 : x2.1.length ≤ 2000) (hP : 0 ≤ P ∧ P ≤ 1000000) (hR : 0 ≤ Rm ∧ Rm ≤ 1000000) :
    Calls Tryz.prog 31 #[.pointer (some ⟨b, 0, none⟩), .agg #[.string ⟨f.1.toArray⟩, .int .i64 f.2]] w fun e w' => ∃ q v', e = .returned (.tuple #[.iface 86 (.pointer (some ⟨q, 0, none⟩)), .nilIface]) ∧ w.heap.size ≤ q ∧ LAt w' q 110 (frest P Rm (f.1 == headB) []) (.slice none 0 0) [] ∧ RdAt w' b 65 n rest v' R ∧ v'.ownBlock = v.ownBlock ∧ Ot (fun k => k = b) w w' := by
  have HNS : Hid (∀ w1, Ot (fun k => k = b) w w1 → RdAt w1 b 65 n rest v (x1 :: x2 :: R) → Calls Tryz.prog 45 #[.pointer (some ⟨b, 0, none⟩), .int .i64 2] w1 fun e w' => ∃ u v', e = .returned (.tuple #[u, .nilIface]) ∧ RdAt w' b 65 n rest v' R ∧ v'.ownBlock = v.ownBlock ∧ Seg w' 3 1 u 2 [.int .i64 P, .int .i64 Rm] ∧ (∀ k, u.ownBlock = some k → w1.heap.size ≤ k) ∧ Ot (fun k => k = b) w1 w') := by
    intro w1 ho hr
    refine (numbers_yes (L := [x1, x2]) w1 hr (fun w' h' => hB w' (ho.trans h')) ?_ (by simp)).mono ?_
    · intro x hx
      simp at hx
      rcases hx with rfl | rfl
      · exact ⟨by rw [h1]; rfl, hl1⟩
      · exact ⟨by rw [h2]; rfl, hl2⟩
    · rintro e w' ⟨u, v', rfl, hr', hv', hs', hn', ho'⟩
      simp only [numsL, List.map, h1, h2, Option.getD, List.length_cons, List.length_nil] at hs'
      exact ⟨u, v', rfl, hr', hv', hs', hn', ho'⟩
  have H : Hid (RdAt w b 65 n rest v (x1 :: x2 :: R)) := h
  have hb := h.lt
  clear h hB h1 h2 hl1 hl2
  go_enter Tryz.func31, Tryz.ntmps31
  go_wp2_with (go_at_call 45; refine (HNS.out _ ?_ ?_).mono ?_; exact (Ot.refl _ _).alloc _; exact H.out.below (below_alloc_ (Below.refl _ _) _); rintro e w1 ⟨u, v', rfl, hr1, hv1, hs1, hn1, ho1⟩)
  obtain ⟨g, off, cap, rfl, hg1, hg2, hg3, hgc⟩ := hs1.some (by decide)
  have c0 : w1.cell? ⟨g, off, none⟩ = some (.int .i64 P) := hgc 0 _ rfl
  have c1 : w1.cell? ⟨g, off + 1, none⟩ = some (.int .i64 Rm) := hgc 1 _ rfl
  have hbx : w1.heap[w.heap.size]? = some (.cells #[.string ⟨f.1.toArray⟩, .int .i64 f.2] 60 (0, 0)) := (ho1.block w.heap.size (by simp) (by omega)).trans (new_block _ _)
  have b0 : w1.cell? ⟨w.heap.size, 0, none⟩ = some (.string ⟨f.1.toArray⟩) := by simp [World.cell?, hbx]
  have b1 : w1.cell? ⟨w.heap.size, 1, none⟩ = some (.int .i64 f.2) := by simp [World.cell?, hbx]
  have hbl := lt_of_block hbx
  have HR1 : Hid (RdAt w1 b 65 n rest v' R) := hr1
  have HV1 : Hid (v'.ownBlock = v.ownBlock) := hv1
  have HO1 : Hid (Ot (fun k => k = b) w w1) := ((Ot.refl _ _).alloc _).trans ho1
  have HBX : Hid (w1.heap[w.heap.size]? = some (.cells #[.string ⟨f.1.toArray⟩, .int .i64 f.2] 60 (0, 0))) := hbx
  have HNF : Hid (∀ w2, Calls Tryz.prog 27 #[.int .i64 P, .int .i64 Rm, .bool (f.1 == [104, 101, 97, 100])] w2 fun e w' => e = .returned (.tuple #[.pointer (some ⟨w2.heap.size, 0, none⟩), .nilIface]) ∧ LAt w' w2.heap.size 110 (frest P Rm (f.1 == headB) []) (.slice none 0 0) [] ∧ Below w2.heap.size w2 w') := fun w2 => (newFifo_yes P Rm (f.1 == headB) w2 hP.1 hP.2 hR.1 hR.2).mono fun e w' ⟨h1, h2, h3⟩ => ⟨h1, h2, by rw [h3]; exact below_alloc_ (Below.refl _ _) _⟩
  clear hs1 hgc hbx hr1 hv1 ho1 hn1 hP hR HNS
  go_cut [8, 7] (fun qv ev wx => ev = .nilIface ∧ qv = .pointer (some ⟨w1.heap.size, 0, none⟩) ∧ LAt wx w1.heap.size 110 (frest P Rm (f.1 == headB) []) (.slice none 0 0) [] ∧ Below w1.heap.size w1 wx)
  case first =>
    go_region_with (go_at_call 27; refine (HNF.out _).mono ?_; rintro e w2 ⟨rfl, hl2, hb2⟩)
    all_goals go_wp2_with fail
    all_goals go_meet
    all_goals exact ⟨rfl, rfl, hl2, ⟨hb2.os, hb2.tape, hb2.output, hb2.size, hb2.block⟩⟩
  case rest =>
  obtain ⟨rfl, rfl, hlc, hbc⟩ := hcut
  clear b0 b1 c0 c1
  generalize wc = w2 at *
  have hbx : w2.heap[w.heap.size]? = some (.cells #[.string ⟨f.1.toArray⟩, .int .i64 f.2] 60 (0, 0)) := (hbc.block _ hbl).trans HBX.out
  have b0 : w2.cell? ⟨w.heap.size, 0, none⟩ = some (.string ⟨f.1.toArray⟩) := by simp [World.cell?, hbx]
  have b1 : w2.cell? ⟨w.heap.size, 1, none⟩ = some (.int .i64 f.2) := by simp [World.cell?, hbx]
  have hbl2 := lt_of_block hbx
  have HLC : Hid (LAt w2 w1.heap.size 110 (frest P Rm (f.1 == headB) []) (.slice none 0 0) []) := hlc
  have HBC : Hid (Below w1.heap.size w1 w2) := hbc
  clear hbx hlc hbc
  go_wp2_with (go_at_call 46; refine (made_yes f _ _).mono ?_; rintro e w3 ⟨rfl, hb3⟩)
  go_ret2
  exact ⟨w1.heap.size, v', rfl, HO1.out.size, HLC.out.below hb3, (HR1.out.below HBC.out).below hb3, HV1.out, (HO1.out.trans (Ot.of_below HBC.out)).trans (Ot.of_below hb3)⟩
end Go.Proofs.YtfakjedolecdcaaGreatDoor
namespace Go.Proofs.YtfakjedolecdcaaGreatDoor
open Go.RowKit Go.Extern.Stop Go.Stop Go.Extern

/-- What left counts: the bytes of each packet, whether it has gone (1), how many wait, how many bytes. -/
structure LS where
  size : List Int
  st : List Int
  wait : Int
  bytes : Int
/-- Packet k goes. -/
def outS (s : LS) (k : Int) : Option LS := if 0 ≤ k ∧ k < s.st.length ∧ s.st[k.toNat]? = some 0 then some { s with st := s.st.set k.toNat 1, wait := s.wait - 1, bytes := s.bytes - s.size.getD k.toNat 0 } else none
def outsS (s : LS) : List Int → Option LS
  | [] => some s
  | k :: r => match outS s k with
    | none => none
    | some s' => outsS s' r
def addS (s : LS) (t : Stp) : LS := if t.what = 0 then { size := s.size ++ [t.l], st := s.st ++ [0], wait := s.wait + 1, bytes := s.bytes + t.l } else s
/-- How many zeros, and the sum of what stands beside them. -/
def zc : List Int → Int
  | [] => 0
  | x :: r => (if x = 0 then 1 else 0) + zc r
def zs : List Int → List Int → Int
  | z :: zr, x :: r => (if x = 0 then z else 0) + zs zr r
  | _, _ => 0
theorem zc_append (a b : List Int) : zc (a ++ b) = zc a + zc b := by
  induction a with
  | nil => simp [zc]
  | cons x r ih => simp only [List.cons_append, zc, ih]; omega
theorem zs_append {a b : List Int} : ∀ {c d : List Int}, a.length = c.length → zs (a ++ b) (c ++ d) = zs a c + zs b d := by
  induction a with
  | nil => intro c d h; cases c with | nil => simp [zs] | cons _ _ => simp at h
  | cons x r ih =>
    intro c d h
    cases c with
    | nil => simp at h
    | cons y t => simp only [List.cons_append, zs, ih (c := t) (d := d) (by simpa using h)]; omega
theorem zc_set : ∀ {l : List Int} {j : Nat}, l[j]? = some 0 → zc (l.set j 1) = zc l - 1 := by
  intro l
  induction l with
  | nil => intro j h; simp at h
  | cons x r ih =>
    intro j h
    cases j with
    | zero => simp at h; subst h; simp [zc]; omega
    | succ j => simp only [List.set_cons_succ, zc, ih (by simpa using h)]; omega
theorem zs_set : ∀ {z l : List Int} {j : Nat}, z.length = l.length → l[j]? = some 0 → zs z (l.set j 1) = zs z l - z.getD j 0 := by
  intro z
  induction z with
  | nil => intro l j h1 h; cases l with | nil => simp at h | cons _ _ => simp at h1
  | cons y t ih =>
    intro l j h1 h
    cases l with
    | nil => simp at h
    | cons x r =>
      cases j with
      | zero => simp at h; subst h; simp [zs]; omega
      | succ j =>
        have := ih (l := r) (j := j) (by simpa using h1) (by simpa using h)
        simp only [List.set_cons_succ, zs, this, List.getD_cons_succ]
        omega
theorem zc_le (l : List Int) : 0 ≤ zc l ∧ zc l ≤ l.length := by
  induction l with
  | nil => simp [zc]
  | cons x r ih => simp only [zc, List.length_cons]; split <;> omega
theorem zs_le : ∀ (z l : List Int), (∀ x ∈ z, 0 ≤ x ∧ x ≤ 10000) → 0 ≤ zs z l ∧ zs z l ≤ 10000 * l.length := by
  intro z
  induction z with
  | nil => intro l _; simp [zs]; omega
  | cons y t ih =>
    intro l h
    cases l with
    | nil => simp [zs]
    | cons x r =>
      have h1 := ih r (fun x hx => h x (by simp [hx]))
      have h2 := h y (by simp)
      simp only [zs, List.length_cons]
      split <;> omega
/-- The numbers are as they should be. -/
structure LS.Ok (s : LS) (n : Nat) : Prop where
  len : s.size.length = s.st.length
  le : s.st.length ≤ n
  each : ∀ x ∈ s.size, 0 ≤ x ∧ x ≤ 10000
  wait : s.wait = zc s.st
  bytes : s.bytes = zs s.size s.st
theorem LS.Ok.add {s : LS} {n : Nat} (h : s.Ok n) {t : Stp} (hl : t.what = 0 → 0 ≤ t.l ∧ t.l ≤ 10000) : (addS s t).Ok (n + 1) := by
  unfold addS
  split
  · rename_i hw
    refine ⟨by simp [h.len], by simp; exact h.le, ?_, ?_, ?_⟩
    · intro x hx
      rcases List.mem_append.1 hx with hx | hx
      · exact h.each x hx
      · simp at hx; exact hx ▸ hl hw
    · simp only [h.wait, zc_append]; simp [zc]
    · simp only [h.bytes, zs_append h.len]; simp [zs]
  · exact ⟨h.len, Nat.le_succ_of_le h.le, h.each, h.wait, h.bytes⟩
theorem LS.Ok.out {s s' : LS} {n : Nat} {k : Int} (h : s.Ok n) (ho : outS s k = some s') : s'.Ok n := by
  unfold outS at ho
  split at ho
  · rename_i hc
    simp only [Option.some.injEq] at ho
    subst ho
    refine ⟨by simp [h.len], by simpa using h.le, h.each, ?_, ?_⟩
    · simp only [h.wait, zc_set hc.2.2]
    · simp only [h.bytes, zs_set h.len hc.2.2]
  · simp at ho
theorem LS.Ok.bounds {s : LS} {n : Nat} (h : s.Ok n) : (0 ≤ s.wait ∧ s.wait ≤ n) ∧ 0 ≤ s.bytes ∧ s.bytes ≤ 10000 * n := by
  have h1 := zc_le s.st
  have h2 := zs_le s.size s.st h.each
  have h3 := h.le
  rw [h.wait, h.bytes]
  omega
/-- It lies in memory: four variables from block B on, and two rows behind them. -/
structure LSAt (w : World) (B : Nat) (s : LS) (zv sv : Value) : Prop where
  vz : w.heap[B]? = some (.cells #[zv] 22 (0, 0))
  vs : w.heap[B + 1]? = some (.cells #[sv] 22 (0, 0))
  vw : w.heap[B + 2]? = some (.cells #[.int .i64 s.wait] 3 (0, 0))
  vb : w.heap[B + 3]? = some (.cells #[.int .i64 s.bytes] 3 (0, 0))
  rz : Ins w zv s.size
  rs : Ins w sv s.st
  nz : ∀ k, zv.ownBlock = some k → B + 4 ≤ k ∧ sv.ownBlock ≠ some k
  ns : ∀ k, sv.ownBlock = some k → B + 4 ≤ k
theorem one_cell {w : World} {b : Nat} {t : TypeId} {v : Value} (h : w.heap[b]? = some (.cells #[v] t (0, 0))) : w.cell? ⟨b, 0, none⟩ = some v ∧ w.frozen? ⟨b, 0, none⟩ = false := by
  refine ⟨?_, ?_⟩
  all_goals simp [World.cell?, World.frozen?, h]
theorem Ins.at {w : World} {v : Value} {l : List Int} (h : Ins w v l) {k : Nat} {x : Int} (hk : l[k]? = some x) : ∃ b off cap, v = .slice (some ⟨b, off, none⟩) l.length cap ∧ b < w.heap.size ∧ w.cell? ⟨b, off + k, none⟩ = some (.int .i64 x) ∧ w.frozen? ⟨b, off + k, none⟩ = false := by
  have hkl := (List.getElem?_eq_some_iff.1 hk).1
  rcases h.2 with ⟨_, h0⟩ | ⟨b, off, cap, cur, rfl, hh, _, _, _, hc⟩
  · omega
  · refine ⟨b, off, cap, rfl, lt_of_block hh, ?_, by simp [World.frozen?, hh]⟩
    simp only [World.cell?, hh]
    exact hc k _ (by simp [hk])
theorem Ins.slice {w : World} {v : Value} {l : List Int} (h : Ins w v l) : ∃ x cap, v = .slice x l.length cap := by
  rcases h.form with ⟨rfl, h0, _⟩ | ⟨b, off, cap, rfl, _⟩
  · exact ⟨none, 0, by rw [h0]⟩
  · exact ⟨_, _, rfl⟩
/-- One of the ints is written. -/
theorem Ins.set {w : World} {b off cap : Nat} {l : List Int} (h : Ins w (.slice (some ⟨b, off, none⟩) l.length cap) l) (k : Nat) (hk : k < l.length) (x : Int) : Ins (w.setCell ⟨b, off + k, none⟩ (.int .i64 x)) (.slice (some ⟨b, off, none⟩) l.length cap) (l.set k x) := by
  rcases h.2 with ⟨hv, _⟩ | ⟨b', off', cap', cur, hv, hh, h1, h2, h3, h4⟩
  · simp at hv
  · simp only [Value.slice.injEq, Option.some.injEq, Addr.mk.injEq, and_true, true_and] at hv
    obtain ⟨⟨rfl, rfl⟩, rfl⟩ := hv
    have hls : (l.set k x).length = l.length := by simp
    refine ⟨by simp, Or.inr ⟨b, off, cap, _, by rw [hls], heap_setCell_here hh _, by omega, h2, by simpa using h3, fun j u hj => ?_⟩⟩
    rw [Array.getElem?_setIfInBounds]
    rw [List.map_set, List.getElem?_set] at hj
    by_cases hjk : k = j
    · subst hjk
      rw [if_pos rfl, if_pos (by omega)]
      rw [if_pos rfl, if_pos (by simpa using hk)] at hj
      exact hj
    · rw [if_neg (by omega)]
      rw [if_neg hjk] at hj
      exact h4 j u hj

theorem LSAt.out {w : World} {B : Nat} {s : LS} {bz oz cz bs os cs j : Nat} {z : Int} (h : LSAt w B s (.slice (some ⟨bz, oz, none⟩) s.size.length cz) (.slice (some ⟨bs, os, none⟩) s.st.length cs)) (hj : j < s.st.length) : LSAt (((w.setCell ⟨bs, os + j, none⟩ (.int .i64 1)).setCell ⟨B + 2, 0, none⟩ (.int .i64 (s.wait - 1))).setCell ⟨B + 3, 0, none⟩ (.int .i64 (s.bytes - z))) B { s with st := s.st.set j 1, wait := s.wait - 1, bytes := s.bytes - z } (.slice (some ⟨bz, oz, none⟩) s.size.length cz) (.slice (some ⟨bs, os, none⟩) s.st.length cs) := by
  have hd1 := h.ns bs rfl
  have hd2 := (h.nz bz rfl).1
  have hd3 : bz ≠ bs := fun e => (h.nz bz rfl).2 (by rw [e]; rfl)
  refine ⟨?_, ?_, ?_, ?_, ?_, ?_, h.nz, h.ns⟩
  · rw [Below.heap_setCell _ _ _ _ (by show B ≠ B + 3; omega), Below.heap_setCell _ _ _ _ (by show B ≠ B + 2; omega), Below.heap_setCell _ _ _ _ (by show B ≠ bs; omega)]
    exact h.vz
  · rw [Below.heap_setCell _ _ _ _ (by show B + 1 ≠ B + 3; omega), Below.heap_setCell _ _ _ _ (by show B + 1 ≠ B + 2; omega), Below.heap_setCell _ _ _ _ (by show B + 1 ≠ bs; omega)]
    exact h.vs
  · rw [Below.heap_setCell _ _ _ _ (by show B + 2 ≠ B + 3; omega), heap_setCell_here (((Below.heap_setCell _ _ _ _ (by show B + 2 ≠ bs; omega))).trans h.vw)]
    rfl
  · rw [heap_setCell_here ((Below.heap_setCell _ _ _ _ (by show B + 3 ≠ B + 2; omega)).trans ((Below.heap_setCell _ _ _ _ (by show B + 3 ≠ bs; omega)).trans h.vb))]
    rfl
  · exact ((h.rz.setCell (p := ⟨bs, os + j, none⟩) (by simpa [Value.ownBlock] using hd3) _).setCell (p := ⟨B + 2, 0, none⟩) (by simp [Value.ownBlock]; omega) _).setCell (p := ⟨B + 3, 0, none⟩) (by simp [Value.ownBlock]; omega) _
  · have := h.rs.set j hj 1
    exact (Seg.setCell this (p := ⟨B + 2, 0, none⟩) (by simp [Value.ownBlock]; omega) _).setCell (p := ⟨B + 3, 0, none⟩) (by simp [Value.ownBlock]; omega) _
theorem LSAt.drew {w : World} {B : Nat} {s : LS} {zv sv : Value} (h : LSAt w B s zv sv) : LSAt w.drew B s zv sv := ⟨h.vz, h.vs, h.vw, h.vb, h.rz, h.rs, h.nz, h.ns⟩
theorem LSAt.drewN {w : World} {B : Nat} {s : LS} {zv sv : Value} (h : LSAt w B s zv sv) (q : Nat) : LSAt (w.drewN q) B s zv sv := ⟨h.vz, h.vs, h.vw, h.vb, h.rz, h.rs, h.nz, h.ns⟩
set_option maxHeartbeats 1000000 in
theorem out_any {B : Nat} {s s' : LS} {zv sv : Value} {n : Nat} (k : Int) (w : World) (h : LSAt w B s zv sv) (hok : s.Ok n) (hn : n ≤ 1000000) (ho : outS s k = some s') :
    Calls Tryz.prog 24 #[.int .i64 k, .pointer (some ⟨B + 1, 0, none⟩), .pointer (some ⟨B + 2, 0, none⟩), .pointer (some ⟨B + 3, 0, none⟩), .pointer (some ⟨B, 0, none⟩)] w fun e w' => e = .returned (.bool true) ∧ LSAt w' B s' zv sv ∧ Below B w w' ∧ w.heap.size = w'.heap.size := by
  have H : Hid (LSAt w B s zv sv) := h
  unfold outS at ho
  split at ho
  · rename_i hc
    obtain ⟨h0, h1, h2⟩ := hc
    simp only [Option.some.injEq] at ho
    obtain ⟨j, rfl⟩ : ∃ j : Nat, k = (j : Int) := ⟨k.toNat, by omega⟩
    simp only [Int.toNat_natCast] at h2 ho
    have hj : j < s.st.length := by omega
    obtain ⟨z, hz⟩ : ∃ z, s.size[j]? = some z := ⟨_, List.getElem?_eq_getElem (by rw [hok.len]; exact hj)⟩
    have HZ : Hid (s.size[j]? = some z) := hz
    have hz0 := hok.each z (List.mem_of_getElem? hz)
    obtain ⟨a0, b0⟩ := one_cell h.vz
    obtain ⟨a1, b1⟩ := one_cell h.vs
    obtain ⟨a2, b2⟩ := one_cell h.vw
    obtain ⟨a3, b3⟩ := one_cell h.vb
    obtain ⟨bs, os, cs, rfl, hbs, ks, fs⟩ := h.rs.at h2
    obtain ⟨bz, oz, cz, rfl, hbz, kz, fz⟩ := h.rz.at hz
    have hd1 := h.ns bs rfl
    have hd2 := (h.nz bz rfl).1
    have hd3 : bz ≠ bs := fun e => (h.nz bz rfl).2 (by rw [e]; rfl)
    have hl3 := lt_of_block h.vb
    have HO : Hid ({ s with st := s.st.set j 1, wait := s.wait - 1, bytes := s.bytes - s.size.getD j 0 } = s') := ho
    have hg : s.size.getD j 0 = z := by simp [List.getD, hz]
    have HG : Hid (s.size.getD j 0 = z) := hg
    obtain ⟨sz, hsz⟩ : ∃ sz, s.st.length = sz := ⟨_, rfl⟩
    have HS : Hid (s.st.length = sz) := hsz
    have hzl : s.size.length = sz := by rw [hok.len]; exact hsz
    have HW : Hid (s.Ok n) := hok
    obtain ⟨hw1, hw2⟩ := hok.bounds
    have hln : sz ≤ n := by rw [← hsz]; exact hok.le
    rw [hsz] at hj a1
    rw [hzl] at a0
    clear h ho h1 h2 hz hg hok hsz hzl
    go_enter Tryz.func24, Tryz.ntmps24
    go_wp2
    go_region
    all_goals
      go_wp2
      go_ret
      have h := H.out
      rw [← HO.out, HG.out]
      exact ⟨rfl, (h.out (z := z) (by rw [HS.out]; exact hj)).drew, (((Below.refl B w).setCell (p := ⟨bs, os + j, none⟩) (by show B ≤ bs; omega) _).setCell (p := ⟨B + 2, 0, none⟩) (by show B ≤ B + 2; omega) _).setCell (p := ⟨B + 3, 0, none⟩) (by show B ≤ B + 3; omega) _ |>.drew, by simp [World.setCell]⟩
  · simp at ho
end Go.Proofs.YtfakjedolecdcaaGreatDoor
namespace Go.Proofs.YtfakjedolecdcaaGreatDoor
open Go.RowKit

/-- Does every operation wait for earlier ones alone? -/
def back (ops : Array Oper) : Bool := (List.range ops.size).all fun i => ((ops[i]?).map fun o => o.after.all fun e => decide (e.on < i)).getD true

theorem back_spec {ops : Array Oper} (h : back ops = true) {i : Nat} {o : Oper} (ho : ops[i]? = some o) : ∀ e ∈ o.after, e.on < i := by
  intro e he
  have hi : i < ops.size := by
    rcases Nat.lt_or_ge i ops.size with h' | h'
    · exact h'
    · rw [Array.getElem?_eq_none h'] at ho; cases ho
  unfold back at h
  rw [List.all_eq_true] at h
  have := h i (List.mem_range.2 hi)
  rw [ho] at this
  simp only [Option.map_some, Option.getD_some] at this
  rw [Array.all_eq_true_iff_forall_mem] at this
  simpa using this e he

theorem wpAny_inv {P : Program} {md : Region.Mode} {ops : Array Oper} {Q : Exit → Act → World → Prop} (I : (Nat → Prop) → Act → World → Prop) (hb : back ops = true)
    (step : ∀ (i : Nat) (o : Oper) (L : Nat → Prop) (a : Act) (w : World), ops[i]? = some o → ¬ L i → (∀ e ∈ o.after, Region.binds md e = true → L e.on) → I L a w → wpOp P ops Q i (I (fun j => j = i ∨ L j)) a w)
    (fin : ∀ (L : Nat → Prop) (a : Act) (w : World), (∀ i, i < ops.size → L i) → I L a w → Q .normal a w) :
    ∀ (fuel : Nat) (listed : Array Bool) (S : List Nat) (a : Act) (w : World), S.length ≤ fuel → (∀ i, i < ops.size → listed.getD i false = false → i ∈ S) → listed.size = ops.size → I (fun j => listed.getD j false = true) a w →
      wpAny P md ops Q fuel listed a w := by
  have same : ∀ (listed : Array Bool) (i : Nat), i < listed.size → listed.getD i true = listed.getD i false := fun listed i h => by simp [h]
  have allL : ∀ (listed : Array Bool), listed.size = ops.size → Region.ready md ops listed = [] → ∀ i, i < ops.size → listed.getD i false = true := by
    intro listed hsz hr i
    induction i using Nat.strongRecOn with
    | ind i ih =>
      intro hi
      rcases hc : listed.getD i false with _ | _
      · exfalso
        have hm : i ∈ Region.ready md ops listed := by
          rw [mem_ready]
          refine ⟨by rw [same listed i (by omega)]; exact hc, ops[i], by simp [hi], fun e he _ => ?_⟩
          have hlt : e.on < i := back_spec hb (o := ops[i]) (by simp [hi]) e he
          exact ih e.on hlt (by omega)
        rw [hr] at hm
        cases hm
      · rfl
  intro fuel
  induction fuel with
  | zero =>
    intro listed S a w hS hcov hsz hI
    have hS0 : S = [] := List.eq_nil_of_length_eq_zero (by omega)
    subst hS0
    have hall : ∀ i, i < ops.size → listed.getD i false = true := fun i hi => by
      rcases hc : listed.getD i false with _ | _
      · cases hcov i hi hc
      · rfl
    refine ⟨?_, fin _ a w hall hI⟩
    rcases hr : Region.ready md ops listed with _ | ⟨j, r⟩
    · rfl
    · have hj : j ∈ Region.ready md ops listed := by rw [hr]; exact List.mem_cons_self
      obtain ⟨h0, o, ho, _⟩ := mem_ready.1 hj
      have hlt : j < ops.size := by
        rcases Nat.lt_or_ge j ops.size with h' | h'
        · exact h'
        · rw [Array.getElem?_eq_none h'] at ho; cases ho
      rw [same listed j (by omega), hall j hlt] at h0
      cases h0
  | succ fuel ih =>
    intro listed S a w hS hcov hsz hI
    refine ⟨fun hr => fin _ a w (allL listed hsz hr) hI, fun i hi => ?_⟩
    obtain ⟨h0, o, ho, hd⟩ := mem_ready.1 hi
    have hlt : i < ops.size := by
      rcases Nat.lt_or_ge i ops.size with h' | h'
      · exact h'
      · rw [Array.getElem?_eq_none h'] at ho; cases ho
    rw [same listed i (by omega)] at h0
    have hmem := hcov i hlt h0
    refine wpOp_mono (fun a' w' h' => ih (listed.setIfInBounds i true) (S.erase i) a' w' ?_ ?_ ?_ ?_) (step i o _ a w ho (by rw [h0]; simp) hd hI)
    · have := List.length_erase_of_mem hmem
      omega
    · intro j hj hf
      have hne : j ≠ i := by
        rintro rfl
        have : (listed.setIfInBounds j true).getD j false = true := by simp [hsz, hj]
        rw [this] at hf
        cases hf
      rw [getD_set_ne false (Ne.symm hne)] at hf
      exact (List.mem_erase_of_ne hne).2 (hcov j hj hf)
    · simp [hsz]
    · have e : (fun j => (listed.setIfInBounds i true).getD j false = true) = (fun j => j = i ∨ listed.getD j false = true) := by
        funext j
        refine propext ⟨fun h => ?_, fun h => ?_⟩
        · by_cases hne : j = i
          · exact Or.inl hne
          · rw [getD_set_ne false (Ne.symm hne)] at h
            exact Or.inr h
        · rcases h with rfl | h
          · simp [hsz, hlt]
          · exact getD_set_true h
      rw [e]
      exact h'
/-- S: the operations that have not come up yet. -/
def covers (n : Nat) (listed : Array Bool) (S : List Nat) : Bool := listed.size == n && (List.range n).all (fun i => listed.getD i false || S.contains i) && S.all (fun i => !listed.getD i false && decide (i < n))

/-- A region of which some operations have come up: what holds at every point of it, shown for each of the others at any point at which it may come up. -/
theorem wpAny_by {P : Program} {md : Region.Mode} {ops : Array Oper} {Q : Exit → Act → World → Prop} {fuel : Nat} {listed : Array Bool} {a : Act} {w : World} (I : (Nat → Prop) → Act → World → Prop) (S : List Nat) (hb : back ops = true)
    (hc : covers ops.size listed S = true) (hS : S.length ≤ fuel)
    (init : ∀ L : Nat → Prop, (∀ i, i ∈ S → ¬ L i) → I L a w)
    (step : ∀ (i : Nat) (L : Nat → Prop) (a : Act) (w : World), i ∈ S → ¬ L i → (∀ o, ops[i]? = some o → ∀ e ∈ o.after, Region.binds md e = true → L e.on) → I L a w → wpOp P ops Q i (I (fun j => j = i ∨ L j)) a w)
    (fin : ∀ (L : Nat → Prop) (a : Act) (w : World), (∀ i, i ∈ S → L i) → I L a w → Q .normal a w) : wpAny P md ops Q fuel listed a w := by
  unfold covers at hc
  simp only [Bool.and_eq_true, beq_iff_eq, List.all_eq_true] at hc
  obtain ⟨⟨h1, h2⟩, h3⟩ := hc
  refine wpAny_inv (fun L a w => (∀ i, i < ops.size → ¬ L i → i ∈ S) ∧ I L a w) hb ?_ ?_ fuel listed S a w hS ?_ h1 ⟨?_, ?_⟩
  · rintro i o L a w ho hn hd ⟨hs, hI⟩
    have hi : i < ops.size := by
      rcases Nat.lt_or_ge i ops.size with h' | h'
      · exact h'
      · rw [Array.getElem?_eq_none h'] at ho; cases ho
    refine wpOp_mono (fun a' w' h => ⟨fun j hj hL => hs j hj (fun h' => hL (Or.inr h')), h⟩) (step i L a w (hs i hi hn) hn (fun o' ho' => ?_) hI)
    rw [ho] at ho'
    cases ho'
    exact hd
  · rintro L a w hL ⟨_, hI⟩
    refine fin L a w (fun i hi => ?_) hI
    have := h3 i hi
    simp only [decide_eq_true_eq] at this
    exact hL i this.2
  · intro i hi hf
    have := h2 i (List.mem_range.2 hi)
    rw [hf] at this
    simpa using this
  · intro i hi hn
    have := h2 i (List.mem_range.2 hi)
    rcases hc : listed.getD i false with _ | _
    · rw [hc] at this
      simpa using this
    · exact absurd hc hn
  · refine init _ fun i hi hL => ?_
    have := h3 i hi
    rw [hL] at this
    simp at this
end Go.Proofs.YtfakjedolecdcaaGreatDoor
