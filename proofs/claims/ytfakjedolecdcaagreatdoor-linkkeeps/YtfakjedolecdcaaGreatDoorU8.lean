/-
  A Fifo is a queue as plain.Play asks it: its model. Conditions: room from 0 to MaxRoom.
  A queue that neither loses nor makes a packet; a Fifo is one. Mathematics alone: nothing of the program is claimed here.
  A queue of which what is held loses and makes no packet (marks may change); some losses may be told late. Mathematics alone: nothing of the program is claimed here.
  package link with whatever queue: the wire and the log in memory; the closure that tells what is lost; busy; item.Takes of bytes beyond. Conditions: the queue's methods do what a model of it tells (a premise).
-/
import Derived.Test.YtfakjedolecdcaaGreatDoorQf
import Derived.Test.YtfakjedolecdcaaGreatDoorU7
import Derived.Test.YtfakjedolecdcaaGreatDoorU2
namespace Go.Proofs.YtfakjedolecdcaaGreatDoor
open Go.RowKit Go.Extern.Stop Go.Stop Go.Extern

theorem mFifoP (a : Addr) (W : World) : (Go.method 395 86 (.pointer (some a)) "Put").run Tryz.prog W = .ok (140, .pointer (some a)) W := by kernel_rfl
theorem mFifoT (a : Addr) (W : World) : (Go.method 395 86 (.pointer (some a)) "Take").run Tryz.prog W = .ok (141, .pointer (some a)) W := by kernel_rfl
theorem mFifoW (a : Addr) (W : World) : (Go.method 395 86 (.pointer (some a)) "When").run Tryz.prog W = .ok (142, .pointer (some a)) W := by kernel_rfl
theorem mFifoL (b : Nat) (W : World) : (Go.method 395 86 (.pointer (some ⟨b, 0, none⟩)) "Len").run Tryz.prog W = .ok (139, .pointer (some ⟨b, 0, none⟩)) W := by kernel_rfl
theorem mFifoB (b : Nat) (W : World) : (Go.method 395 86 (.pointer (some ⟨b, 0, none⟩)) "Bytes").run Tryz.prog W = .ok (138, .pointer (some ⟨b, 0, none⟩)) W := by kernel_rfl
theorem eFifoP (args : Array Value) (W : World) : (callFunc 140 args).run Tryz.prog W = .ok (.enter 140 args) W := enters_of Tryz.func140 (by kernel_rfl) rfl args W
theorem eFifoT (args : Array Value) (W : World) : (callFunc 141 args).run Tryz.prog W = .ok (.enter 141 args) W := enters_of Tryz.func141 (by kernel_rfl) rfl args W
theorem eFifoW (args : Array Value) (W : World) : (callFunc 142 args).run Tryz.prog W = .ok (.enter 142 args) W := enters_of Tryz.func142 (by kernel_rfl) rfl args W
theorem eFifoL (args : Array Value) (W : World) : (callFunc 139 args).run Tryz.prog W = .ok (.enter 139 args) W := enters_of Tryz.func139 (by kernel_rfl) rfl args W
theorem eFifoB (args : Array Value) (W : World) : (callFunc 138 args).run Tryz.prog W = .ok (.enter 138 args) W := enters_of Tryz.func138 (by kernel_rfl) rfl args W

/-- A Fifo in block b: room for P packets and R bytes. -/
def FifoM (b : Nat) (P R : Int) (hd : Bool) : QM where
  σ := List Hd
  ty := 86
  rv := .pointer (some ⟨b, 0, none⟩)
  fP := 140
  fT := 141
  fW := 142
  fL := 139
  fB := 138
  rP := .pointer (some ⟨b, 0, none⟩)
  rT := .pointer (some ⟨b, 0, none⟩)
  rW := .pointer (some ⟨b, 0, none⟩)
  rL := .pointer (some ⟨b, 0, none⟩)
  rB := .pointer (some ⟨b, 0, none⟩)
  At := fun w F L => ∃ v, LAt w b 110 (frest P R hd []) v L ∧ ∀ k, F k ↔ k = b ∨ v.ownBlock = some k
  put := fun L _ x => ((putF P R hd L x).2, (putF P R hd L x).1)
  take := fun L _ => (L.tail, [], hdOr L, !L.isEmpty)
  when := fun L now => (L, now, !L.isEmpty)
  len := fun L => L.length
  bytes := fun L => sumL L
  inv := fun _ n L => L.length ≤ n ∧ ∀ x ∈ L, x.ok = true
theorem ok_len {x : Hd} (h : x.ok = true) : 1 ≤ x.l ∧ x.l ≤ 10000 := by
  simp only [Hd.ok, It.ok, Bool.and_eq_true, wth_iff] at h
  omega
theorem fit_of {n : Nat} {L : List Hd} (h : L.length ≤ n ∧ ∀ x ∈ L, x.ok = true) (hn : n ≤ 1000000) : Fit L := ⟨by omega, fun x hx => by have := ok_len (h.2 x hx); omega⟩
theorem cutL_parts (P R : Int) (L : List Hd) : (cutL P R L).1 ++ (cutL P R L).2 = L := by
  induction L with
  | nil => rfl
  | cons x L ih =>
    simp only [cutL]
    split
    · simp [ih]
    · rfl
theorem putF_mem {P R : Int} {hd : Bool} {L : List Hd} {x : Hd} : (∀ y ∈ (putF P R hd L x).2, y ∈ L ++ [x]) ∧ (putF P R hd L x).2.length ≤ L.length + 1 ∧ (putF P R hd L x).1.length ≤ L.length + 1 := by
  unfold putF
  split
  · have h := cutL_parts P R (L ++ [x])
    have hl := congrArg List.length h
    simp at hl
    refine ⟨fun y hy => ?_, by omega, by omega⟩
    rw [← h]
    exact List.mem_append_right _ hy
  · split
    · exact ⟨fun y hy => List.mem_append_left _ hy, by simp, by simp⟩
    · exact ⟨fun y hy => hy, by simp, by simp⟩
theorem fifoM_fine (b : Nat) (P R : Int) (hd : Bool) (hP : 0 ≤ P) (hR : 0 ≤ R) (hR1 : R ≤ 1000000) : (FifoM b P R hd).Fine where
  kept := by
    rintro w w' F L ⟨v, h, hF⟩ hk
    exact ⟨v, h.kept (hk b ((hF b).2 (Or.inl rfl))) (fun k hv => hk k ((hF k).2 (Or.inr hv))), hF⟩
  low := by
    rintro w F L ⟨v, h, hF⟩ k hk
    rcases (hF k).1 hk with rfl | hv
    · exact h.lt
    · exact h.row.lt hv
  mP := mFifoP _
  mT := mFifoT _
  mW := mFifoW _
  mL := mFifoL _
  mB := mFifoB _
  eP := eFifoP
  eT := eFifoT
  eW := eFifoW
  eL := eFifoL
  eB := eFifoB
  cP := by
    rintro w F (L : List Hd) t n now x ⟨v, h, hF⟩ hI ht0 ht1 ht2 hok hxa hxn hn
    have hfit : Fit (L ++ [x]) := fit_of (n := n + 1) ⟨by simpa using hI.1, fun y hy => by rcases List.mem_append.1 hy with h | h; exact hI.2 y h; simp at h; exact h ▸ hok⟩ (by omega)
    refine (fifo_put now x w h hfit hP hR hR1).mono ?_
    rintro e w' ⟨u, v', rfl, hu, hl, hk, hn', ho⟩
    refine ⟨u, fun k => k = b ∨ v'.ownBlock = some k, rfl, hu, ⟨v', hl, fun k => Iff.rfl⟩, ?_, fun k hk => Or.inr (hn' k hk), ho.mono (fun k _ h => (hF k).2 h)⟩
    intro k hk'
    rcases hk' with rfl | h
    · exact Or.inl ((hF _).2 (Or.inl rfl))
    · rcases hk k h with h | h
      · exact Or.inl ((hF k).2 (Or.inr h))
      · exact Or.inr h
  iP := by
    intro (L : List Hd) t n now x hI ht0 ht1 ht2 hok hxa hxn hn
    obtain ⟨h1, h2, h3⟩ := putF_mem (P := P) (R := R) (hd := hd) (L := L) (x := x)
    refine ⟨⟨?_, fun y hy => ?_⟩, ?_⟩
    · have := hI.1
      show (putF P R hd L x).2.length ≤ n + 1
      omega
    · rcases List.mem_append.1 (h1 y hy) with h | h
      · exact hI.2 y h
      · simp at h; exact h ▸ hok
    · have := hI.1
      show (putF P R hd L x).1.length ≤ 1000000
      omega
  cT := by
    rintro w F (L : List Hd) t n now ⟨v, h, hF⟩ hI ht0 ht1 ht2 hn
    refine (fifo_take now w h (fit_of hI (by omega))).mono ?_
    rintro e w' ⟨rfl, v', hl, hk, ho⟩
    refine ⟨_, F, rfl, Hs.nil _, ⟨v', hl, fun k => by rw [hF, hk]⟩, fun k hk => Or.inl hk, fun k hk => by simp [Value.ownBlock] at hk, ho.mono (fun k _ h => (hF k).2 (Or.inl h))⟩
  iT := by
    intro (L : List Hd) t n now hI ht0 ht1 ht2 hn
    refine ⟨⟨?_, fun y hy => hI.2 y (List.mem_of_mem_tail hy)⟩, by simp [FifoM]⟩
    have := hI.1
    show L.tail.length ≤ n
    rw [List.length_tail]
    omega
  cW := by
    rintro w F (L : List Hd) t n now ⟨v, h, hF⟩ hI ht0 ht1 ht2 hn
    refine (fifo_when now w h).mono ?_
    rintro e w' ⟨rfl, rfl⟩
    exact ⟨F, rfl, ⟨v, h, hF⟩, fun k hk => Or.inl hk, Ot.refl _ _⟩
  iW := by
    intro (L : List Hd) t n now hI ht0 ht1 ht2 hn
    exact hI
  cL := by
    rintro w F L t n ⟨v, h, hF⟩ hI hn
    exact (len_any w h).mono (by rintro e w' ⟨rfl, rfl⟩; exact ⟨rfl, Below.refl _ _⟩)
  cB := by
    rintro w F L t n ⟨v, h, hF⟩ hI hn
    exact (bytes_any w h).mono (by rintro e w' ⟨rfl, rfl⟩; exact ⟨rfl, Below.refl _ _⟩)
end Go.Proofs.YtfakjedolecdcaaGreatDoor
namespace Go.Proofs.YtfakjedolecdcaaGreatDoor

theorem sumL_perm {a b : List Hd} (h : a.Perm b) : sumL a = sumL b := by
  induction h with
  | nil => rfl
  | cons x _ ih => simp only [sumL, ih]
  | swap x y l => simp only [sumL]; omega
  | trans _ _ h1 h2 => exact h1.trans h2
/-- A queue that neither loses nor makes a packet: what waits in it. -/
structure QM.Keeps (M : QM) (cont : M.σ → List Hd) : Prop where
  put : ∀ s now x, (cont s ++ [x]).Perm ((M.put s now x).2 ++ cont (M.put s now x).1)
  take : ∀ s now, (cont s).Perm ((M.take s now).2.1 ++ (if (M.take s now).2.2.2 then [(M.take s now).2.2.1] else []) ++ cont (M.take s now).1)
  when : ∀ s now, (cont s).Perm (cont (M.when s now).1)
  len : ∀ s, M.len s = (cont s).length
  bytes : ∀ s, M.bytes s = sumL (cont s)
/-- A Fifo is such a queue. -/
theorem fifo_keeps (b : Nat) (P R : Int) (hd : Bool) : (FifoM b P R hd).Keeps (fun L => L) where
  put := by
    intro (L : List Hd) now x
    show (L ++ [x]).Perm ((putF P R hd L x).1 ++ (putF P R hd L x).2)
    unfold putF
    split
    · rw [cutL_parts]
    · split
      · exact List.perm_append_comm
      · exact List.Perm.refl _
  take := by
    intro (L : List Hd) now
    cases L with
    | nil => exact List.Perm.refl _
    | cons x L => exact List.Perm.refl _
  when := fun s now => List.Perm.refl _
  len := fun s => rfl
  bytes := fun s => rfl
end Go.Proofs.YtfakjedolecdcaaGreatDoor
namespace Go.Proofs.YtfakjedolecdcaaGreatDoor
variable {E : Prop}

def nl (x : Hd) : Int × Int := (x.n, x.l)
def sumP : List (Int × Int) → Int
  | [] => 0
  | x :: r => x.2 + sumP r
theorem sumP_append (a b : List (Int × Int)) : sumP (a ++ b) = sumP a + sumP b := by
  induction a with
  | nil => simp [sumP]
  | cons x a ih => simp only [List.cons_append, sumP, ih]; omega
theorem sumP_perm {a b : List (Int × Int)} (h : a.Perm b) : sumP a = sumP b := by
  induction h with
  | nil => rfl
  | cons x _ ih => simp only [sumP, ih]
  | swap x y l => simp only [sumP]; omega
  | trans _ _ h1 h2 => exact h1.trans h2
theorem sumP_nl (l : List Hd) : sumP (l.map nl) = sumL l := by
  induction l with
  | nil => rfl
  | cons x l ih => simp only [List.map_cons, sumP, sumL, ih, nl]
/-- A queue of which what is held loses and makes no packet: what is held in it, by number and bytes; some of it may be lost and not told yet (not if E). -/
structure QM.Late (M : QM) (E : Prop) (cont : M.σ → List (Int × Int)) : Prop where
  put : ∀ {s : M.σ} {t : Int} {n : Nat} (now : Int) (x : Hd), M.inv t n s → 0 ≤ t → t ≤ now → now ≤ 20000000 → x.ok = true → x.a = now → x.n = n → n ≤ 1000 → (cont s ++ [nl x]).Perm ((M.put s now x).2.map nl ++ cont (M.put s now x).1)
  take : ∀ {s : M.σ} {t : Int} {n : Nat} (now : Int), M.inv t n s → 0 ≤ t → t ≤ now → now ≤ 20000000 → n ≤ 1000 → (cont s).Perm ((M.take s now).2.1.map nl ++ ((if (M.take s now).2.2.2 then [nl (M.take s now).2.2.1] else []) ++ cont (M.take s now).1))
  when : ∀ {s : M.σ} {t : Int} {n : Nat} (now : Int), M.inv t n s → 0 ≤ t → t ≤ now → now ≤ 20000000 → n ≤ 1000 → (cont s).Perm (cont (M.when s now).1)
  len : ∀ {s : M.σ} {t : Int} {n : Nat}, M.inv t n s → M.len s ≤ (cont s).length
  bytes : ∀ {s : M.σ} {t : Int} {n : Nat}, M.inv t n s → M.bytes s ≤ sumP (cont s)
  full : E → ∀ {s : M.σ} {t : Int} {n : Nat}, M.inv t n s → M.len s = (cont s).length
theorem QM.Late.weak {M : QM} {cont : M.σ → List (Int × Int)} (h : M.Late E cont) : M.Late False cont := ⟨h.put, h.take, h.when, h.len, h.bytes, fun f => f.elim⟩
theorem QM.Late.noE {M : QM} {cont : M.σ → List (Int × Int)} (h : M.Late False cont) (hE : ¬ E) : M.Late E cont := ⟨h.put, h.take, h.when, h.len, h.bytes, fun e => absurd e hE⟩
/-- What tells its losses at once does so, too. -/
theorem QM.Keeps.late {M : QM} {cont : M.σ → List Hd} (h : M.Keeps cont) : M.Late E (fun s => (cont s).map nl) where
  put := fun {s t n} now x _ _ _ _ _ _ _ _ => by
    have := (h.put s now x).map nl
    rw [List.map_append, List.map_append] at this
    exact this
  take := fun {s t n} now _ _ _ _ _ => by
    have := (h.take s now).map nl
    rw [List.map_append, List.map_append, List.append_assoc] at this
    refine this.trans (List.Perm.append_left _ (List.Perm.append_right _ ?_))
    split <;> exact List.Perm.refl _
  when := fun {s t n} now _ _ _ _ _ => (h.when s now).map nl
  len := fun {s t n} _ => by rw [h.len, List.length_map]; exact Int.le_refl _
  bytes := fun {s t n} _ => by rw [h.bytes, sumP_nl]; exact Int.le_refl _
  full := fun _ {s t n} _ => by rw [h.len, List.length_map]
end Go.Proofs.YtfakjedolecdcaaGreatDoor
namespace Go.Proofs.YtfakjedolecdcaaGreatDoor
open Go.RowKit Go.Extern.Stop Go.Stop Go.Extern

/-- A packet that went. -/
structure Snt where
  n : Int
  f : Int
  t : Int
  m : Int
def Snt.cs (s : Snt) : List Value := [.int .i64 s.n, .int .i64 s.f, .int .i64 s.t, .int .i64 s.m]
theorem Snt.len (s : Snt) : s.cs.length = 4 := rfl
def itc (x : It) : List Value := [.int .i64 x.a, .int .i64 x.l, .int .i64 x.f, .int .i64 x.b, .int .i64 x.m]
theorem itc_len (x : It) : (itc x).length = 5 := rfl
/-- What a wire is at a time: its queue, how many came, when it is free; what went, what was lost, the most that waited. -/
structure LkS (σ : Type) where
  s : σ
  put : Nat
  free : Int
  sent : List Snt
  lost : List Int
  most : Int
/-- What does not change: the world ahead of it, the queue's blocks then, the wire's block, the log's, the rate, the packets. -/
structure LkC where
  w0 : World
  F0 : Nat → Prop
  bw : Nat
  bg : Nat
  n : Int
  t : Int
  x : Option Addr
  cap : Nat
  items : List It
def loseV (bg : Nat) : Value := .func (.func 40) #[] #[.pointer (some ⟨bg, 0, none⟩)]
/-- The wire and the log in memory. -/
structure LkAt (M : QM) (C : LkC) (S : LkS M.σ) (w : World) (F : Nat → Prop) (sv lv : Value) : Prop where
  wire : w.heap[C.bw]? = some (.cells #[.iface M.ty M.rv, .int .i64 C.n, .int .i64 C.t, .slice C.x C.items.length C.cap, .int .i64 S.put, .int .i64 S.free, loseV C.bg] 103 (0, 0))
  log : w.heap[C.bg]? = some (.cells #[sv, lv, .int .i64 0, .int .i64 S.most] 41 (0, 0))
  que : M.At w F S.s
  sent : Seg w 49 4 sv S.sent.length (flt Snt.cs S.sent)
  lost : Ins w lv S.lost
  fw : ¬ F C.bw
  fg : ¬ F C.bg
  wg : C.bw ≠ C.bg
  wb : C.w0.heap.size ≤ C.bw
  gb : C.w0.heap.size ≤ C.bg
  sn : ∀ b, sv.ownBlock = some b → C.w0.heap.size ≤ b ∧ ¬ F b ∧ b ≠ C.bw ∧ b ≠ C.bg ∧ lv.ownBlock ≠ some b
  ln : ∀ b, lv.ownBlock = some b → C.w0.heap.size ≤ b ∧ ¬ F b ∧ b ≠ C.bw ∧ b ≠ C.bg
  fnew : ∀ k, F k → C.F0 k ∨ C.w0.heap.size ≤ k
  ot : Ot C.F0 C.w0 w
def LkW (M : QM) (C : LkC) (S : LkS M.σ) (w : World) : Prop := ∃ F sv lv, LkAt M C S w F sv lv
/-- The packets lie in memory that the queue does not write. -/
structure LkC.Good (C : LkC) : Prop where
  lies : Lies C.w0 C.x (flt itc C.items)
  out : ∀ a, C.x = some a → C.items ≠ [] → ¬ C.F0 a.block
  len : C.items.length ≤ 100
  ok : ∀ x ∈ C.items, x.ok = true
  ord : (C.items.map It.a).Pairwise (· ≤ ·)
  rate : okRate C.n C.t = true
/-- The cells of the wire. -/
theorem LkAt.cells {M : QM} {C : LkC} {S : LkS M.σ} {w : World} {F : Nat → Prop} {sv lv : Value} (h : LkAt M C S w F sv lv) :
    w.cell? ⟨C.bw, 0, none⟩ = some (.iface M.ty M.rv) ∧ w.cell? ⟨C.bw, 1, none⟩ = some (.int .i64 C.n) ∧ w.cell? ⟨C.bw, 2, none⟩ = some (.int .i64 C.t) ∧ w.cell? ⟨C.bw, 3, none⟩ = some (.slice C.x C.items.length C.cap) ∧ w.cell? ⟨C.bw, 4, none⟩ = some (.int .i64 S.put) ∧ w.cell? ⟨C.bw, 5, none⟩ = some (.int .i64 S.free) ∧ w.cell? ⟨C.bw, 6, none⟩ = some (loseV C.bg) ∧ w.frozen? ⟨C.bw, 4, none⟩ = false ∧ w.frozen? ⟨C.bw, 5, none⟩ = false ∧ C.bw < w.heap.size ∧ C.bg < w.heap.size := by
  have hb := h.wire
  refine ⟨?_, ?_, ?_, ?_, ?_, ?_, ?_, ?_, ?_, lt_of_block hb, lt_of_block h.log⟩
  all_goals simp [World.cell?, World.frozen?, hb]
/-- A packet's cells. -/
theorem LkAt.item {M : QM} {C : LkC} {S : LkS M.σ} {w : World} {F : Nat → Prop} {sv lv : Value} (h : LkAt M C S w F sv lv) (hC : C.Good) {k : Nat} {x : It} (hx : C.items[k]? = some x) :
    ∃ b off, C.x = some ⟨b, off, none⟩ ∧ b < C.w0.heap.size ∧ ¬ C.F0 b ∧ w.cell? ⟨b, off + k * 5, none⟩ = some (.int .i64 x.a) ∧ w.cell? ⟨b, off + k * 5 + 1, none⟩ = some (.int .i64 x.l) ∧ w.cell? ⟨b, off + k * 5 + 2, none⟩ = some (.int .i64 x.f) ∧ w.cell? ⟨b, off + k * 5 + 3, none⟩ = some (.int .i64 x.b) ∧ w.cell? ⟨b, off + k * 5 + 4, none⟩ = some (.int .i64 x.m) := by
  have hne : C.items ≠ [] := by rintro e; rw [e] at hx; simp at hx
  rcases hC.lies with he | ⟨b, off, e, hb, hc⟩
  · exfalso
    have := flt_at itc 5 itc_len hx (j := 0) (by omega)
    rw [he] at this
    simp [itc] at this
  · have hnf := hC.out _ e hne
    have hat : ∀ j, j < 5 → w.cell? ⟨b, off + (k * 5 + j), none⟩ = (itc x)[j]? := fun j hj => by
      have hj2 : ∃ u, (itc x)[j]? = some u := ⟨_, List.getElem?_eq_getElem (by rw [itc_len]; exact hj)⟩
      obtain ⟨u, hu⟩ := hj2
      rw [h.ot.cell (p := ⟨b, off + (k * 5 + j), none⟩) hb hnf, hu]
      exact hc _ _ ((flt_at itc 5 itc_len hx hj).trans hu)
    exact ⟨b, off, e, hb, hnf, hat 0 (by omega), hat 1 (by omega), hat 2 (by omega), hat 3 (by omega), hat 4 (by omega)⟩
/-- Memory that is made beside it. -/
theorem LkAt.below {M : QM} (hM : M.Fine) {C : LkC} {S : LkS M.σ} {w w' : World} {F : Nat → Prop} {sv lv : Value} (h : LkAt M C S w F sv lv) (hb : Below w.heap.size w w') : LkAt M C S w' F sv lv :=
  ⟨(hb.block _ (lt_of_block h.wire)).trans h.wire, (hb.block _ (lt_of_block h.log)).trans h.log, hM.kept h.que (fun k hk => hb.block k (hM.low h.que k hk)), h.sent.below hb, Seg.below h.lost hb, h.fw, h.fg, h.wg, h.wb, h.gb, h.sn, h.ln, h.fnew, h.ot.trans (Ot.of_below hb)⟩
theorem LkW.below {M : QM} (hM : M.Fine) {C : LkC} {S : LkS M.σ} {w w' : World} (h : LkW M C S w) (hb : Below w.heap.size w w') : LkW M C S w' := by
  obtain ⟨F, sv, lv, h⟩ := h
  exact ⟨F, sv, lv, h.below hM hb⟩
/-- How many came, and when it is free, are written. -/
theorem LkAt.setw {M : QM} (hM : M.Fine) {C : LkC} {S S' : LkS M.σ} {w w' : World} {F : Nat → Prop} {sv lv : Value} (h : LkAt M C S w F sv lv) (ho : Ot (· = C.bw) w w')
    (hw : w'.heap[C.bw]? = some (.cells #[.iface M.ty M.rv, .int .i64 C.n, .int .i64 C.t, .slice C.x C.items.length C.cap, .int .i64 S'.put, .int .i64 S'.free, loseV C.bg] 103 (0, 0)))
    (e1 : S'.s = S.s) (e2 : S'.sent = S.sent) (e3 : S'.lost = S.lost) (e4 : S'.most = S.most) : LkAt M C S' w' F sv lv := by
  have hl := hM.low h.que
  refine ⟨hw, ?_, ?_, ?_, ?_, h.fw, h.fg, h.wg, h.wb, h.gb, h.sn, h.ln, h.fnew, ?_⟩
  · rw [ho.block _ (lt_of_block h.log) (fun e => h.wg e.symm), h.log, e4]
  · rw [e1]; exact hM.kept h.que (fun k hk => ho.block k (hl k hk) (fun e => h.fw (e ▸ hk)))
  · rw [e2]; exact h.sent.oth ho (fun b hb => (h.sn b hb).2.2.1)
  · rw [e3]; exact Seg.oth h.lost ho (fun b hb => (h.ln b hb).2.2.1)
  · refine h.ot.trans' ho (fun i hi hlt => ?_)
    have := h.wb; omega

theorem takes_out (n t x : Int) (w : World) (h : okRate n t = true) (hx : ¬ (0 ≤ x ∧ x ≤ 1000000)) :
    Calls Tryz.prog 14 #[.agg #[.int .i64 n, .int .i64 t], .int .i64 x] w fun e w' => e = .returned (.int .i64 0) ∧ Below w.heap.size w w' := by
  have H : Hid (okRate n t = true) := h
  clear h
  have hw : wth x 0 1000000 = false := wth_no.2 hx
  clear hx
  go_enter Tryz.func14, Tryz.ntmps14
  go_wp2_with (first | (go_at_call 28; refine (speed_yes _ _ _ H.out).mono ?_; rintro e w' ⟨rfl, rfl⟩) | (go_at_call 29; refine (within_any _ _ _ _).mono ?_; rintro e w' ⟨rfl, rfl⟩))
  go_ret
  exact ⟨rfl, below_alloc_ (below_alloc_ (Below.refl _ _) _) _⟩
def tkL (n t x : Int) : Int := if 0 ≤ x ∧ x ≤ 1000000 then takes n t x else 0
theorem tkL_le {n t x : Int} (h : okRate n t = true) : 0 ≤ tkL n t x ∧ tkL n t x ≤ 1000001000000 := by
  simp only [okRate, Bool.and_eq_true, wth_iff] at h
  obtain ⟨⟨h1, h2⟩, h3, h4⟩ := h
  unfold tkL
  split
  · rename_i hx
    unfold takes
    have hp0 : 0 ≤ x * t := Int.mul_nonneg hx.1 (by omega)
    have hp1 : x * t ≤ 1000000000000 := by
      have := Int.mul_le_mul hx.2 h4 (by omega) (by omega : (0 : Int) ≤ 1000000)
      omega
    refine ⟨Int.ediv_nonneg (by omega) (by omega), ?_⟩
    have := Int.ediv_le_self (a := x * t + n - 1) n (by omega)
    omega
  · omega
theorem takes_both (n t x : Int) (w : World) (h : okRate n t = true) :
    Calls Tryz.prog 14 #[.agg #[.int .i64 n, .int .i64 t], .int .i64 x] w fun e w' => e = .returned (.int .i64 (tkL n t x)) ∧ Below w.heap.size w w' := by
  by_cases hx : 0 ≤ x ∧ x ≤ 1000000
  · refine (takes_yes n t x w h hx.1 hx.2).mono ?_
    rintro e w' ⟨rfl, rfl⟩
    exact ⟨by unfold tkL; rw [if_pos hx], below_alloc_ (below_alloc_ (Below.refl _ _) _) _⟩
  · refine (takes_out n t x w h hx).mono ?_
    rintro e w' ⟨rfl, hb⟩
    exact ⟨by unfold tkL; rw [if_neg hx], hb⟩
theorem busy_any {bw : Nat} {free : Int} (now : Int) (w : World) (c5 : w.cell? ⟨bw, 5, none⟩ = some (.int .i64 free)) :
    Calls Tryz.prog 57 #[.pointer (some ⟨bw, 0, none⟩), .int .i64 now] w fun e w' => e = .returned (.bool (decide (now < free))) ∧ w' = w := by
  go_enter Tryz.func57, Tryz.ntmps57
  go_wp2
  go_ret
  exact ⟨rfl, rfl⟩
/-- A log in block b. -/
def LgB (w : World) (b : Nat) (sv lv : Value) (wt ms : Int) : Prop := w.heap[b]? = some (.cells #[sv, lv, .int .i64 wt, .int .i64 ms] 41 (0, 0))
theorem LgB.cells {w : World} {b : Nat} {sv lv : Value} {wt ms : Int} (h : LgB w b sv lv wt ms) : w.cell? ⟨b, 0, none⟩ = some sv ∧ w.cell? ⟨b, 1, none⟩ = some lv ∧ w.cell? ⟨b, 2, none⟩ = some (.int .i64 wt) ∧ w.cell? ⟨b, 3, none⟩ = some (.int .i64 ms) ∧ w.frozen? ⟨b, 0, none⟩ = false ∧ w.frozen? ⟨b, 1, none⟩ = false ∧ w.frozen? ⟨b, 2, none⟩ = false ∧ w.frozen? ⟨b, 3, none⟩ = false := by
  have hb : w.heap[b]? = _ := h
  refine ⟨?_, ?_, ?_, ?_, ?_, ?_, ?_, ?_⟩
  all_goals simp [World.cell?, World.frozen?, hb]
theorem LgB.mid {w W w2 : World} {row : Option Nat} {b : Nat} {sv lv : Value} {wt ms : Int} (h : LgB w b sv lv wt ms) (hW : Below w.heap.size w W) (hg : W.grownBy w2 row) (hr : row ≠ some b) : LgB w2 b sv lv wt ms :=
  (hg.block b (Nat.lt_of_lt_of_le (lt_of_block h) hW.size) (fun e => hr e.symm)).trans ((hW.block b (lt_of_block h)).trans h)
theorem LgB.lost {w : World} {b : Nat} {sv lv : Value} {wt ms : Int} (h : LgB w b sv lv wt ms) (v : Value) : LgB (w.setCell ⟨b, 1, none⟩ v) b sv v wt ms := by
  unfold LgB
  rw [heap_setCell_here h v]
  simp
set_option maxHeartbeats 2000000 in
theorem tellLost_any {b : Nat} {sv lv0 : Value} {wt ms : Int} {u : Value} {L : List Hd} {l0 : List Int} (w : World) (hx : LgB w b sv lv0 wt ms) (hu : Hs w u L) (h0 : Ins w lv0 l0) (hne : u.ownBlock ≠ some b) (hne2 : ∀ k, u.ownBlock = some k → lv0.ownBlock ≠ some k) (hne3 : lv0.ownBlock ≠ some b) (hn : L.length ≤ 1000000) (hn0 : l0.length ≤ 17000000000000) :
    Calls Tryz.prog 40 #[u, .pointer (some ⟨b, 0, none⟩)] w fun e w' => e = .returned (.tuple #[]) ∧ ∃ lv, LgB w' b sv lv wt ms ∧ Ins w' lv (l0 ++ L.map Hd.n) ∧ (∀ k, lv.ownBlock = some k → lv0.ownBlock = some k ∨ w.heap.size ≤ k) ∧ Ot (fun k => k = b ∨ lv0.ownBlock = some k) w w' := by
  have HX : Hid (LgB w b sv lv0 wt ms) := hx
  have H0 : Hid (Ins w lv0 l0) := h0
  obtain ⟨x, cap, rfl, hl⟩ := hu.lies
  have HL : Hid (Lies w x (flt Hd.cs L)) := hl
  have hbl : b < w.heap.size := lt_of_block hx
  have HNE : Hid (∀ a, x = some a → a.block ≠ b ∧ lv0.ownBlock ≠ some a.block) := by
    rintro a rfl
    exact ⟨fun e => hne (by simp [Value.ownBlock, e]), hne2 _ rfl⟩
  have HN3 : Hid (lv0.ownBlock ≠ some b) := hne3
  have HLT0 : Hid (∀ k, lv0.ownBlock = some k → k < w.heap.size) := fun k hk => Seg.lt h0 hk
  clear hl hx hu hne hne2 h0 hne3
  generalize hq : L.length = q at *
  have HQ : Hid (L.length = q) := hq
  clear hq
  obtain ⟨i0, hi, hz0, hz1, hz2⟩ := info_parts infoInt1
  go_enter Tryz.func40, Tryz.ntmps40
  go_wp2
  go_loopw [7] (fun i wr => ∃ (k : Nat) (lv : Value), k ≤ q ∧ i = .int .i64 k ∧ LgB wr b sv lv wt ms ∧ Ins wr lv (l0 ++ nums L k) ∧ (∀ k, lv.ownBlock = some k → lv0.ownBlock = some k ∨ w.heap.size ≤ k) ∧ Ot (fun k => k = b ∨ lv0.ownBlock = some k) w wr) (fun i _ => q - (intOf i).toNat)
  case atStart => exact ⟨0, _, Nat.zero_le _, rfl, HX.out, by simpa [nums] using H0.out, fun k hk => Or.inl hk, Ot.refl _ _⟩
  case round =>
    obtain ⟨k, lv, hk, rfl, hbx, hin, hnw, hot⟩ := hrel
    have HB : Hid (LgB wr b sv lv wt ms) := hbx
    have HI : Hid (Ins wr lv (l0 ++ nums L k)) := hin
    have HW : Hid (∀ k, lv.ownBlock = some k → lv0.ownBlock = some k ∨ w.heap.size ≤ k) := hnw
    have hws := hot.size
    clear hin hnw
    by_cases hlt : k < q
    · obtain ⟨s, hs⟩ : ∃ s, L[k]? = some s := ⟨_, List.getElem?_eq_getElem (by have := HQ.out; omega)⟩
      have HS : Hid (L[k]? = some s) := hs
      obtain ⟨bb, off, rfl, hbb, k0, k1, k2, k3, k4, k5⟩ := (HL.out.ot hot (fun a e h => by rcases h with h | h; exact (HNE.out a e).1 h; exact (HNE.out a e).2 h)).held hs
      clear hs
      obtain ⟨_, z1, _, _, _, y1, _, _⟩ := hbx.cells
      have hbs : b < wr.heap.size := by omega
      have hnl : (l0 ++ nums L k).length = l0.length + k := by rw [List.length_append, nums_length (by have := HQ.out; omega)]
      clear hbx
      have HI' : Hid (Seg wr 3 1 lv (l0.length + k) ((l0 ++ nums L k).map (Value.int .i64))) := by have := HI.out; unfold Ins at this; rw [hnl] at this; exact this
      have hne4 : lv.ownBlock ≠ some b := fun e => by
        rcases HW.out b e with h | h
        · exact HN3.out h
        · omega
      clear hnl
      go_wp2_with (at_builtin; refine wpList_append_seg _ rfl (.tmp 12) (.tmp 15) 22 rfl 3 i0 _ 1 8 Tryz.underlying22 hi hz0 hz1 hz2 rfl (by decide) _ _ _ rfl (HI'.out.below (by repeat' (first | with_reducible exact Below.refl _ _ | with_reducible refine Below.drew ?_ | with_reducible refine below_alloc_ ?_ _ | with_reducible refine below_set_ ?_ (by simp) _))) _ 1 1 _ rfl rfl (news_of (new_block_ (by simp))) (by simp [Value.oneCell']) (by decide) (by unfold maxLen; omega) (by omega) _ rfl ?_; intro g goff gcap w2 hs2 hg2 ha2 hl2; have hm2 := HB.out.mid (by repeat' (first | with_reducible exact Below.refl _ _ | with_reducible refine Below.drew ?_ | with_reducible refine below_alloc_ ?_ _)) hg2 hne4; obtain ⟨_, t1, _, _, _, e1, _, _⟩ := hm2.cells)
      have hgb : g ≠ b ∧ (lv0.ownBlock = some g ∨ w.heap.size ≤ g) := by
        rcases ha2 with ha2 | ha2
        · exact ⟨fun e => hne4 (e ▸ ha2), HW.out _ ha2⟩
        · simp at ha2; exact ⟨by omega, Or.inr (by omega)⟩
      go_roundw
      case rel =>
        refine ⟨k + 1, _, by omega, by go_num, hm2.lost _, ?_, ?_, ?_⟩
        · unfold Ins
          rw [nums_succ HS.out, ← List.append_assoc, List.length_append, List.length_append, nums_length (by have := HQ.out; omega), List.map_append]
          exact hs2.setCell (p := ⟨b, 1, none⟩) (by simp [Value.ownBlock]; exact hgb.1) _
        · intro j hj
          simp only [Value.ownBlock, Option.some.injEq] at hj
          subst hj
          exact hgb.2
        · refine Ot.setCell (S := fun k => k = b ∨ lv0.ownBlock = some k) (p := ⟨b, 1, none⟩) ?_ (Or.inl (Or.inl rfl)) _
          refine Ot.grown (row := lv.ownBlock) ?_ hg2 (fun j e => by rcases HW.out j e with h | h; exact Or.inl (Or.inr h); exact Or.inr h)
          exact Ot.alloc (Ot.alloc hot _) _
      case measure => simp [intOf]; omega
    · obtain rfl : k = q := by omega
      go_wp2
      go_end0
      refine ⟨rfl, lv, HB.out, ?_, HW.out, hot⟩
      have := HI.out
      rw [← HQ.out, nums_all] at this
      exact this
theorem entersLose (args : Array Value) (W : World) : (callFunc 40 args).run Tryz.prog W = .ok (.enter 40 args) W := enters_of Tryz.func40 (by kernel_rfl) rfl args W
end Go.Proofs.YtfakjedolecdcaaGreatDoor
