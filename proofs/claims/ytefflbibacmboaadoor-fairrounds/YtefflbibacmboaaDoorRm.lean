/-
  The reference's queues as millracelaw.played asks them: a model; the reference's Fifo is one; it agrees with the program's. Conditions: room from 0 to MaxRoom.
-/
import Derived.Test.YtefflbibacmboaaDoorRi
namespace Go.Proofs.YtefflbibacmboaaDoor
open Go.RowKit Go.Extern.Stop Go.Stop Go.Extern

/-- A queue of the reference, and what its methods tell of its state. -/
structure RM where
  σ : Type
  ty : TypeId
  rv : Value
  fP : FuncId
  fT : FuncId
  fW : FuncId
  fA : FuncId
  rP : Value
  rT : Value
  rW : Value
  rA : Value
  At : World → (Nat → Prop) → σ → Prop
  put : σ → Int → Hd → σ × List Hd
  take : σ → Int → σ × List Hd × Hd × Bool
  when : σ → Int → σ × Int × Bool
  all : σ → List Hd
  inv : Int → Nat → σ → Prop
structure RM.Fine (M : RM) : Prop where
  kept : ∀ {w w' : World} {F : Nat → Prop} {s : M.σ}, M.At w F s → (∀ k, F k → w'.heap[k]? = w.heap[k]?) → M.At w' F s
  low : ∀ {w : World} {F : Nat → Prop} {s : M.σ}, M.At w F s → ∀ k, F k → k < w.heap.size
  mP : ∀ W : World, (Go.method 314 M.ty M.rv "Put").run Tryd.prog W = .ok (M.fP, M.rP) W
  mT : ∀ W : World, (Go.method 314 M.ty M.rv "Take").run Tryd.prog W = .ok (M.fT, M.rT) W
  mW : ∀ W : World, (Go.method 314 M.ty M.rv "When").run Tryd.prog W = .ok (M.fW, M.rW) W
  mA : ∀ W : World, (Go.method 314 M.ty M.rv "All").run Tryd.prog W = .ok (M.fA, M.rA) W
  eP : ∀ (args : Array Value) (W : World), (callFunc M.fP args).run Tryd.prog W = .ok (.enter M.fP args) W
  eT : ∀ (args : Array Value) (W : World), (callFunc M.fT args).run Tryd.prog W = .ok (.enter M.fT args) W
  eW : ∀ (args : Array Value) (W : World), (callFunc M.fW args).run Tryd.prog W = .ok (.enter M.fW args) W
  eA : ∀ (args : Array Value) (W : World), (callFunc M.fA args).run Tryd.prog W = .ok (.enter M.fA args) W
  cP : ∀ {w : World} {F : Nat → Prop} {s : M.σ} {t : Int} {n : Nat} (now : Int) (x : Hd), M.At w F s → M.inv t n s → 0 ≤ t → t ≤ now → now ≤ 1000000 → x.ok = true → x.a = now → x.n = n → n ≤ 1000 →
    Calls Tryd.prog M.fP #[M.rP, .int .i64 now, x.val] w fun e w' => ∃ u F', e = .returned u ∧ Ps w' u (M.put s now x).2 ∧ M.At w' F' (M.put s now x).1 ∧ (∀ k, F' k → F k ∨ w.heap.size ≤ k) ∧ (∀ k, u.ownBlock = some k → F k ∨ w.heap.size ≤ k) ∧ Ot F w w'
  iP : ∀ {s : M.σ} {t : Int} {n : Nat} (now : Int) (x : Hd), M.inv t n s → 0 ≤ t → t ≤ now → now ≤ 1000000 → x.ok = true → x.a = now → x.n = n → n ≤ 1000 → M.inv now (n + 1) (M.put s now x).1 ∧ (M.put s now x).2.length ≤ 1000000
  cT : ∀ {w : World} {F : Nat → Prop} {s : M.σ} {t : Int} {n : Nat} (now : Int), M.At w F s → M.inv t n s → 0 ≤ t → t ≤ now → now ≤ 1000000 → n ≤ 1000 →
    Calls Tryd.prog M.fT #[M.rT, .int .i64 now] w fun e w' => ∃ u F', e = .returned (.tuple #[(M.take s now).2.2.1.val, u, .bool (M.take s now).2.2.2]) ∧ Ps w' u (M.take s now).2.1 ∧ M.At w' F' (M.take s now).1 ∧ (∀ k, F' k → F k ∨ w.heap.size ≤ k) ∧ (∀ k, u.ownBlock = some k → F k ∨ w.heap.size ≤ k) ∧ Ot F w w'
  iT : ∀ {s : M.σ} {t : Int} {n : Nat} (now : Int), M.inv t n s → 0 ≤ t → t ≤ now → now ≤ 1000000 → n ≤ 1000 → M.inv now n (M.take s now).1 ∧ (M.take s now).2.1.length ≤ 1000000
  cW : ∀ {w : World} {F : Nat → Prop} {s : M.σ} {t : Int} {n : Nat} (now : Int), M.At w F s → M.inv t n s → 0 ≤ t → t ≤ now → now ≤ 1000000 → n ≤ 1000 →
    Calls Tryd.prog M.fW #[M.rW, .int .i64 now] w fun e w' => ∃ F', e = .returned (.tuple #[.int .i64 (M.when s now).2.1, .bool (M.when s now).2.2]) ∧ M.At w' F' (M.when s now).1 ∧ (∀ k, F' k → F k ∨ w.heap.size ≤ k) ∧ Ot F w w'
  iW : ∀ {s : M.σ} {t : Int} {n : Nat} (now : Int), M.inv t n s → 0 ≤ t → t ≤ now → now ≤ 1000000 → n ≤ 1000 → M.inv now n (M.when s now).1
  cA : ∀ {w : World} {F : Nat → Prop} {s : M.σ} {t : Int} {n : Nat}, M.At w F s → M.inv t n s → n ≤ 1001 → Calls Tryd.prog M.fA #[M.rA] w fun e w' => ∃ u, e = .returned u ∧ Ps w' u (M.all s) ∧ Fit (M.all s) ∧ Below w.heap.size w w'
theorem mRFifoP (a : Addr) (W : World) : (Go.method 314 183 (.pointer (some a)) "Put").run Tryd.prog W = .ok (88, .pointer (some a)) W := by kernel_rfl
theorem mRFifoT (a : Addr) (W : World) : (Go.method 314 183 (.pointer (some a)) "Take").run Tryd.prog W = .ok (86, .pointer (some a)) W := by kernel_rfl
theorem mRFifoW (a : Addr) (W : World) : (Go.method 314 183 (.pointer (some a)) "When").run Tryd.prog W = .ok (87, .pointer (some a)) W := by kernel_rfl
theorem mRFifoA (a : Addr) (W : World) : (Go.method 314 183 (.pointer (some a)) "All").run Tryd.prog W = .ok (84, .pointer (some a)) W := by kernel_rfl
theorem eRFifoP (args : Array Value) (W : World) : (callFunc 88 args).run Tryd.prog W = .ok (.enter 88 args) W := enters_of Tryd.func88 (by kernel_rfl) rfl args W
theorem eRFifoT (args : Array Value) (W : World) : (callFunc 86 args).run Tryd.prog W = .ok (.enter 86 args) W := enters_of Tryd.func86 (by kernel_rfl) rfl args W
theorem eRFifoW (args : Array Value) (W : World) : (callFunc 87 args).run Tryd.prog W = .ok (.enter 87 args) W := enters_of Tryd.func87 (by kernel_rfl) rfl args W
theorem eRFifoA (args : Array Value) (W : World) : (callFunc 84 args).run Tryd.prog W = .ok (.enter 84 args) W := enters_of Tryd.func84 (by kernel_rfl) rfl args W
/-- The reference's Fifo in block b. -/
def RFifoM (b : Nat) (P R : Int) (hd : Bool) : RM where
  σ := List Hd
  ty := 183
  rv := .pointer (some ⟨b, 0, none⟩)
  fP := 88
  fT := 86
  fW := 87
  fA := 84
  rP := .pointer (some ⟨b, 0, none⟩)
  rT := .pointer (some ⟨b, 0, none⟩)
  rW := .pointer (some ⟨b, 0, none⟩)
  rA := .pointer (some ⟨b, 0, none⟩)
  At := fun w F L => ∃ v, RAt w b 38 P R hd [] v L ∧ ∀ k, F k ↔ k = b ∨ v.ownBlock = some k
  put := fun L _ x => ((putF P R hd L x).2, (putF P R hd L x).1)
  take := fun L _ => (L.tail, [], hdOr L, !L.isEmpty)
  when := fun L now => (L, now, !L.isEmpty)
  all := fun L => L
  inv := fun _ n L => L.length ≤ n ∧ ∀ x ∈ L, x.ok = true
theorem fifoM_fine' (b : Nat) (P R : Int) (hd : Bool) : (∀ {s : (RFifoM b P R hd).σ} {t : Int} {n : Nat} (now : Int) (x : Hd), (RFifoM b P R hd).inv t n s → 0 ≤ t → t ≤ now → now ≤ 1000000 → x.ok = true → x.a = now → x.n = n → n ≤ 1000 → (RFifoM b P R hd).inv now (n + 1) ((RFifoM b P R hd).put s now x).1 ∧ ((RFifoM b P R hd).put s now x).2.length ≤ 1000000) ∧
    (∀ {s : (RFifoM b P R hd).σ} {t : Int} {n : Nat} (now : Int), (RFifoM b P R hd).inv t n s → 0 ≤ t → t ≤ now → now ≤ 1000000 → n ≤ 1000 → (RFifoM b P R hd).inv now n ((RFifoM b P R hd).take s now).1 ∧ ((RFifoM b P R hd).take s now).2.1.length ≤ 1000000) := by
  constructor
  · intro (L : List Hd) t n now x hI ht0 ht1 ht2 hok hxa hxn hn
    obtain ⟨h1, h2, h3⟩ := putF_mem (P := P) (R := R) (hd := hd) (L := L) (x := x)
    refine ⟨⟨?_, fun y hy => ?_⟩, ?_⟩
    · have := hI.1
      show (putF P R hd L x).2.length ≤ n + 1
      omega
    · rcases List.mem_append.1 (h1 y hy) with h | h
      · exact hI.2 y h
      · simp at h; exact h ▸ hok
    · have := hI.1
      show (putF P R hd L x).1.length ≤ 1000000
      omega
  · intro (L : List Hd) t n now hI ht0 ht1 ht2 hn
    refine ⟨⟨?_, fun y hy => hI.2 y (List.mem_of_mem_tail hy)⟩, by simp [RFifoM]⟩
    have := hI.1
    show L.tail.length ≤ n
    rw [List.length_tail]
    omega
theorem rfifoM_fine (b : Nat) (P R : Int) (hd : Bool) (hP : 0 ≤ P) (hR : 0 ≤ R) : (RFifoM b P R hd).Fine where
  kept := by
    rintro w w' F L ⟨v, h, hF⟩ hk
    exact ⟨v, h.kept (hk b ((hF b).2 (Or.inl rfl))) (fun k hv => hk k ((hF k).2 (Or.inr hv))), hF⟩
  low := by
    rintro w F L ⟨v, h, hF⟩ k hk
    rcases (hF k).1 hk with rfl | hv
    · exact h.lt
    · exact h.row.lt hv
  mP := mRFifoP _
  mT := mRFifoT _
  mW := mRFifoW _
  mA := mRFifoA _
  eP := eRFifoP
  eT := eRFifoT
  eW := eRFifoW
  eA := eRFifoA
  cP := by
    rintro w F (L : List Hd) t n now x ⟨v, h, hF⟩ hI ht0 ht1 ht2 hok hxa hxn hn
    have hfit : Fit (L ++ [x]) := fit_of (n := n + 1) ⟨by simpa using hI.1, fun y hy => by rcases List.mem_append.1 hy with h | h; exact hI.2 y h; simp at h; exact h ▸ hok⟩ (by omega)
    refine (rfifo_put now x w h hfit hP hR).mono ?_
    rintro e w' ⟨u, v', rfl, hp⟩
    refine ⟨u, fun k => k = b ∨ v'.ownBlock = some k, rfl, hp.lost, ⟨v', hp.list, fun k => Iff.rfl⟩, ?_, fun k hk => Or.inr (hp.new k hk), hp.ot.mono (fun k _ h => (hF k).2 h)⟩
    intro k hk'
    rcases hk' with rfl | h
    · exact Or.inl ((hF _).2 (Or.inl rfl))
    · rcases hp.own k h with h | h
      · exact Or.inl ((hF k).2 (Or.inr h))
      · exact Or.inr h
  iP := (fifoM_fine' b P R hd).1
  cT := by
    rintro w F (L : List Hd) t n now ⟨v, h, hF⟩ hI ht0 ht1 ht2 hn
    refine (rfifo_take now w h (fit_of hI (by omega))).mono ?_
    rintro e w' ⟨rfl, v', hp⟩
    refine ⟨_, fun k => k = b ∨ v'.ownBlock = some k, rfl, Ps.nil _, ⟨v', hp.list, fun k => Iff.rfl⟩, ?_, fun k hk => by simp [Value.ownBlock] at hk, hp.ot.mono (fun k _ h => (hF k).2 (Or.inl h))⟩
    intro k hk'
    rcases hk' with rfl | h
    · exact Or.inl ((hF _).2 (Or.inl rfl))
    · rcases hp.own k h with h | h
      · exact Or.inl ((hF k).2 (Or.inr h))
      · exact Or.inr h
  iT := (fifoM_fine' b P R hd).2
  cW := by
    rintro w F (L : List Hd) t n now ⟨v, h, hF⟩ hI ht0 ht1 ht2 hn
    refine (rfifo_when now w h).mono ?_
    rintro e w' ⟨rfl, q, rfl⟩
    exact ⟨F, rfl, ⟨v, h.drewN q, hF⟩, fun k hk => Or.inl hk, (Ot.refl _ _).drewN q⟩
  iW := by
    intro (L : List Hd) t n now hI ht0 ht1 ht2 hn
    exact hI
  cA := by
    rintro w F (L : List Hd) t n ⟨v, h, hF⟩ hI hn
    refine (rfifo_all w h).mono ?_
    rintro e w' ⟨rfl, rfl⟩
    exact ⟨v, rfl, h.row, fit_of hI (by omega), Below.refl _ _⟩
end Go.Proofs.YtefflbibacmboaaDoor
