/-
  A Fifo is a queue as plain.Play asks it: its model. Conditions: room from 0 to MaxRoom.
-/
import Derived.Test.YticplgdfgckicaaGreatDoorQf
import Derived.Test.YticplgdfgckicaaGreatDoorPl
namespace Go.Proofs.YticplgdfgckicaaGreatDoor
open Go.RowKit Go.Extern.Stop Go.Stop Go.Extern

theorem mFifoP (a : Addr) (W : World) : (Go.method 393 52 (.pointer (some a)) "Put").run Tryz.prog W = .ok (135, .pointer (some a)) W := by kernel_rfl
theorem mFifoT (a : Addr) (W : World) : (Go.method 393 52 (.pointer (some a)) "Take").run Tryz.prog W = .ok (136, .pointer (some a)) W := by kernel_rfl
theorem mFifoW (a : Addr) (W : World) : (Go.method 393 52 (.pointer (some a)) "When").run Tryz.prog W = .ok (137, .pointer (some a)) W := by kernel_rfl
theorem mFifoL (b : Nat) (W : World) : (Go.method 393 52 (.pointer (some ⟨b, 0, none⟩)) "Len").run Tryz.prog W = .ok (134, .pointer (some ⟨b, 0, none⟩)) W := by kernel_rfl
theorem mFifoB (b : Nat) (W : World) : (Go.method 393 52 (.pointer (some ⟨b, 0, none⟩)) "Bytes").run Tryz.prog W = .ok (133, .pointer (some ⟨b, 0, none⟩)) W := by kernel_rfl
theorem eFifoP (args : Array Value) (W : World) : (callFunc 135 args).run Tryz.prog W = .ok (.enter 135 args) W := enters_of Tryz.func135 (by kernel_rfl) rfl args W
theorem eFifoT (args : Array Value) (W : World) : (callFunc 136 args).run Tryz.prog W = .ok (.enter 136 args) W := enters_of Tryz.func136 (by kernel_rfl) rfl args W
theorem eFifoW (args : Array Value) (W : World) : (callFunc 137 args).run Tryz.prog W = .ok (.enter 137 args) W := enters_of Tryz.func137 (by kernel_rfl) rfl args W
theorem eFifoL (args : Array Value) (W : World) : (callFunc 134 args).run Tryz.prog W = .ok (.enter 134 args) W := enters_of Tryz.func134 (by kernel_rfl) rfl args W
theorem eFifoB (args : Array Value) (W : World) : (callFunc 133 args).run Tryz.prog W = .ok (.enter 133 args) W := enters_of Tryz.func133 (by kernel_rfl) rfl args W

/-- A Fifo in block b: room for P packets and R bytes. -/
def FifoM (b : Nat) (P R : Int) (hd : Bool) : QM where
  σ := List Hd
  ty := 52
  rv := .pointer (some ⟨b, 0, none⟩)
  fP := 135
  fT := 136
  fW := 137
  fL := 134
  fB := 133
  rP := .pointer (some ⟨b, 0, none⟩)
  rT := .pointer (some ⟨b, 0, none⟩)
  rW := .pointer (some ⟨b, 0, none⟩)
  rL := .pointer (some ⟨b, 0, none⟩)
  rB := .pointer (some ⟨b, 0, none⟩)
  At := fun w F L => ∃ v, LAt w b 93 (frest P R hd []) v L ∧ ∀ k, F k ↔ k = b ∨ v.ownBlock = some k
  put := fun L _ x => ((putF P R hd L x).2, (putF P R hd L x).1)
  take := fun L _ => (L.tail, [], hdOr L, !L.isEmpty)
  when := fun L now => (L, now, !L.isEmpty)
  len := fun L => L.length
  bytes := fun L => sumL L
  inv := fun _ n L => L.length ≤ n ∧ ∀ x ∈ L, x.ok = true
theorem ok_len {x : Hd} (h : x.ok = true) : 1 ≤ x.l ∧ x.l ≤ 10000 := by
  simp only [Hd.ok, It.ok, Bool.and_eq_true, wth_iff] at h
  omega
theorem fit_of {n : Nat} {L : List Hd} (h : L.length ≤ n ∧ ∀ x ∈ L, x.ok = true) (hn : n ≤ 1000000) : Fit L := ⟨by omega, fun x hx => by have := ok_len (h.2 x hx); omega⟩
theorem cutL_parts (P R : Int) (L : List Hd) : (cutL P R L).1 ++ (cutL P R L).2 = L := by
  induction L with
  | nil => rfl
  | cons x L ih =>
    simp only [cutL]
    split
    · simp [ih]
    · rfl
theorem putF_mem {P R : Int} {hd : Bool} {L : List Hd} {x : Hd} : (∀ y ∈ (putF P R hd L x).2, y ∈ L ++ [x]) ∧ (putF P R hd L x).2.length ≤ L.length + 1 ∧ (putF P R hd L x).1.length ≤ L.length + 1 := by
  unfold putF
  split
  · have h := cutL_parts P R (L ++ [x])
    have hl := congrArg List.length h
    simp at hl
    refine ⟨fun y hy => ?_, by omega, by omega⟩
    rw [← h]
    exact List.mem_append_right _ hy
  · split
    · exact ⟨fun y hy => List.mem_append_left _ hy, by simp, by simp⟩
    · exact ⟨fun y hy => hy, by simp, by simp⟩
theorem fifoM_fine (b : Nat) (P R : Int) (hd : Bool) (hP : 0 ≤ P) (hR : 0 ≤ R) (hR1 : R ≤ 1000000) : (FifoM b P R hd).Fine where
  kept := by
    rintro w w' F L ⟨v, h, hF⟩ hk
    exact ⟨v, h.kept (hk b ((hF b).2 (Or.inl rfl))) (fun k hv => hk k ((hF k).2 (Or.inr hv))), hF⟩
  low := by
    rintro w F L ⟨v, h, hF⟩ k hk
    rcases (hF k).1 hk with rfl | hv
    · exact h.lt
    · exact h.row.lt hv
  mP := mFifoP _
  mT := mFifoT _
  mW := mFifoW _
  mL := mFifoL _
  mB := mFifoB _
  eP := eFifoP
  eT := eFifoT
  eW := eFifoW
  eL := eFifoL
  eB := eFifoB
  cP := by
    rintro w F (L : List Hd) t n now x ⟨v, h, hF⟩ hI ht0 ht1 ht2 hok hxa hxn hn
    have hfit : Fit (L ++ [x]) := fit_of (n := n + 1) ⟨by simpa using hI.1, fun y hy => by rcases List.mem_append.1 hy with h | h; exact hI.2 y h; simp at h; exact h ▸ hok⟩ (by omega)
    refine (fifo_put now x w h hfit hP hR hR1).mono ?_
    rintro e w' ⟨u, v', rfl, hu, hl, hk, hn', ho⟩
    refine ⟨u, fun k => k = b ∨ v'.ownBlock = some k, rfl, hu, ⟨v', hl, fun k => Iff.rfl⟩, ?_, fun k hk => Or.inr (hn' k hk), ho.mono (fun k _ h => (hF k).2 h)⟩
    intro k hk'
    rcases hk' with rfl | h
    · exact Or.inl ((hF _).2 (Or.inl rfl))
    · rcases hk k h with h | h
      · exact Or.inl ((hF k).2 (Or.inr h))
      · exact Or.inr h
  iP := by
    intro (L : List Hd) t n now x hI ht0 ht1 ht2 hok hxa hxn hn
    obtain ⟨h1, h2, h3⟩ := putF_mem (P := P) (R := R) (hd := hd) (L := L) (x := x)
    refine ⟨⟨?_, fun y hy => ?_⟩, ?_⟩
    · have := hI.1
      show (putF P R hd L x).2.length ≤ n + 1
      omega
    · rcases List.mem_append.1 (h1 y hy) with h | h
      · exact hI.2 y h
      · simp at h; exact h ▸ hok
    · have := hI.1
      show (putF P R hd L x).1.length ≤ 1000000
      omega
  cT := by
    rintro w F (L : List Hd) t n now ⟨v, h, hF⟩ hI ht0 ht1 ht2 hn
    refine (fifo_take now w h (fit_of hI (by omega))).mono ?_
    rintro e w' ⟨rfl, v', hl, hk, ho⟩
    refine ⟨_, F, rfl, Hs.nil _, ⟨v', hl, fun k => by rw [hF, hk]⟩, fun k hk => Or.inl hk, fun k hk => by simp [Value.ownBlock] at hk, ho.mono (fun k _ h => (hF k).2 (Or.inl h))⟩
  iT := by
    intro (L : List Hd) t n now hI ht0 ht1 ht2 hn
    refine ⟨⟨?_, fun y hy => hI.2 y (List.mem_of_mem_tail hy)⟩, by simp [FifoM]⟩
    have := hI.1
    show L.tail.length ≤ n
    rw [List.length_tail]
    omega
  cW := by
    rintro w F (L : List Hd) t n now ⟨v, h, hF⟩ hI ht0 ht1 ht2 hn
    refine (fifo_when now w h).mono ?_
    rintro e w' ⟨rfl, rfl⟩
    exact ⟨F, rfl, ⟨v, h, hF⟩, fun k hk => Or.inl hk, Ot.refl _ _⟩
  iW := by
    intro (L : List Hd) t n now hI ht0 ht1 ht2 hn
    exact hI
  cL := by
    rintro w F L t n ⟨v, h, hF⟩ hI hn
    exact (len_any w h).mono (by rintro e w' ⟨rfl, rfl⟩; exact ⟨rfl, Below.refl _ _⟩)
  cB := by
    rintro w F L t n ⟨v, h, hF⟩ hI hn
    exact (bytes_any w h).mono (by rintro e w' ⟨rfl, rfl⟩; exact ⟨rfl, Below.refl _ _⟩)
end Go.Proofs.YticplgdfgckicaaGreatDoor
