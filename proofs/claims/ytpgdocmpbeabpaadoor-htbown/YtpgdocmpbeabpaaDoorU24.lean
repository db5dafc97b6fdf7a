/-
  A tree is a queue as plain.Play asks it: its model. Conditions: classes that may be.
  A queue that neither loses nor makes a packet. Mathematics alone: nothing of the program is claimed here.
-/
import Derived.Test.YtpgdocmpbeabpaaDoorU21
import Derived.Test.YtpgdocmpbeabpaaDoorZtb
import Derived.Test.YtpgdocmpbeabpaaDoorU23
namespace Go.Proofs.YtpgdocmpbeabpaaDoor
open Go.RowKit Go.Extern.Stop Go.Stop Go.Extern

theorem mTreeP (b : Nat) (W : World) : (Go.method 281 24 (.pointer (some ⟨b, 0, none⟩)) "Put").run Tryd.prog W = .ok (15, .pointer (some ⟨b, 0, none⟩)) W := by kernel_rfl
theorem eTreeP (args : Array Value) (W : World) : (callFunc 15 args).run Tryd.prog W = .ok (.enter 15 args) W := enters_of Tryd.func15 (by kernel_rfl) rfl args W
theorem mTreeT (b : Nat) (W : World) : (Go.method 281 24 (.pointer (some ⟨b, 0, none⟩)) "Take").run Tryd.prog W = .ok (16, .pointer (some ⟨b, 0, none⟩)) W := by kernel_rfl
theorem eTreeT (args : Array Value) (W : World) : (callFunc 16 args).run Tryd.prog W = .ok (.enter 16 args) W := enters_of Tryd.func16 (by kernel_rfl) rfl args W
theorem mTreeW (b : Nat) (W : World) : (Go.method 281 24 (.pointer (some ⟨b, 0, none⟩)) "When").run Tryd.prog W = .ok (82, .pointer (some ⟨b, 0, none⟩)) W := by kernel_rfl
theorem eTreeW (args : Array Value) (W : World) : (callFunc 82 args).run Tryd.prog W = .ok (.enter 82 args) W := enters_of Tryd.func82 (by kernel_rfl) rfl args W
theorem mTreeL (b : Nat) (W : World) : (Go.method 281 24 (.pointer (some ⟨b, 0, none⟩)) "Len").run Tryd.prog W = .ok (81, .pointer (some ⟨b, 0, none⟩)) W := by kernel_rfl
theorem eTreeL (args : Array Value) (W : World) : (callFunc 81 args).run Tryd.prog W = .ok (.enter 81 args) W := enters_of Tryd.func81 (by kernel_rfl) rfl args W
theorem mTreeB (b : Nat) (W : World) : (Go.method 281 24 (.pointer (some ⟨b, 0, none⟩)) "Bytes").run Tryd.prog W = .ok (80, .pointer (some ⟨b, 0, none⟩)) W := by kernel_rfl
theorem eTreeB (args : Array Value) (W : World) : (callFunc 80 args).run Tryd.prog W = .ok (.enter 80 args) W := enters_of Tryd.func80 (by kernel_rfl) rfl args W
theorem HtI.ceils {K : HtK} {t : Int} {n : Nat} {now x : Int} (hx : 0 ≤ x) : ∀ (l : List Nat) (s : HtS), HtI K t n s → s.tm = now → HtI K t n (l.foldl (Go.Proofs.YtpgdocmpbeabpaaDoor.ceilT K now x) s) ∧ (l.foldl (Go.Proofs.YtpgdocmpbeabpaaDoor.ceilT K now x) s).tm = now := by
  intro l
  induction l with
  | nil => intro s h e; exact ⟨h, e⟩
  | cons m r ih => intro s h e; exact ih _ (h.ceilT e hx m) e
theorem HtI.rates {K : HtK} {t : Int} {n : Nat} {now x : Int} (hx : 0 ≤ x) : ∀ (l : List Nat) (s : HtS), (∀ m ∈ l, m < K.N) → HtI K t n s → s.tm = now → HtI K t n (l.foldl (Go.Proofs.YtpgdocmpbeabpaaDoor.rateT K now x) s) ∧ (l.foldl (Go.Proofs.YtpgdocmpbeabpaaDoor.rateT K now x) s).tm = now := by
  intro l
  induction l with
  | nil => intro s _ h e; exact ⟨h, e⟩
  | cons m r ih => intro s hl h e; exact ih _ (fun k hk => hl k (List.mem_cons_of_mem _ hk)) (h.rateT e hx m (hl m (by simp))) e
theorem ceils_L {K : HtK} {now x : Int} : ∀ (l : List Nat) (s : HtS) (j : Nat), ((l.foldl (ceilT K now x) s).nd j).L = (s.nd j).L := by
  intro l
  induction l with
  | nil => intro s j; rfl
  | cons m r ih =>
    intro s j
    refine (ih _ j).trans ?_
    unfold ceilT updN
    simp only
    split
    · subst j; rfl
    · rfl
theorem rates_L {K : HtK} {now x : Int} : ∀ (l : List Nat) (s : HtS) (j : Nat), ((l.foldl (rateT K now x) s).nd j).L = (s.nd j).L := by
  intro l
  induction l with
  | nil => intro s j; rfl
  | cons m r ih =>
    intro s j
    refine (ih _ j).trans ?_
    unfold rateT updN
    simp only
    split
    · subst j; rfl
    · rfl
/-- What is so when a tree lets one out. -/
theorem take_some {K : HtK} (hK : HtKOk K) {s : HtS} {now : Int} {o : Ofr} (h : bestM K (s.at now) now K.N = some o) : o.leaf < K.N ∧ o.lend < K.N ∧ ∃ x r, (s.nd o.leaf).L = x :: r ∧ capB K (s.at now) now x.l (some o.leaf) = false ∧ takeH K s now = (sendM K now (sentN { s.at now with gone := IntKind.i64.wrap (s.gone + 1) } o.leaf (IntKind.i64.wrap (s.gone + 1))) o, [], x, true) := by
  obtain ⟨h1, h2⟩ := bestM_off h
  obtain ⟨h3, x, r, h4, h5⟩ := offM_lend hK h1 h2
  refine ⟨h1, h3, x, r, h4, h5, ?_⟩
  have e : (s.nd o.leaf).L = x :: r := h4
  unfold takeH
  rw [h]
  simp only
  rw [e]
  rfl
theorem take_none {K : HtK} {s : HtS} {now : Int} (h : bestM K (s.at now) now K.N = none) : takeH K s now = (s.at now, [], hd0, false) := by
  unfold takeH
  rw [h]
/-- The lists behind a Take. -/
theorem send_L {K : HtK} {s : HtS} {now : Int} {o : Ofr} (j : Nat) : ((sendM K now s o).nd j).L = if j = o.leaf then (s.nd j).L.tail else (s.nd j).L := by
  unfold sendM
  rw [rates_L, ceils_L]
  unfold popN updN
  simp only
  split
  · subst j; rfl
  · rfl
theorem sent_L (s : HtS) (g : Int) (i : Nat) (v : Int) (j : Nat) : ((sentN { s with gone := g } i v).nd j).L = (s.nd j).L := (sentN_nd _ i v j).2.2.2.2
/-- What is so of the state, also of who waits where. -/
structure HtJ (K : HtK) (t : Int) (n : Nat) (s : HtS) : Prop where
  i : HtI K t n s
  fl : ∀ i, i < K.N → ∀ x ∈ (s.nd i).L, x.f = i ∧ 0 ≤ x.n ∧ x.n < n
  up : ∀ i, i < K.N → (s.nd i).L.Pairwise (fun a b => a.n < b.n)
theorem leafB_in {K : HtK} {f : Int} (h : leafB K f = true) : 0 ≤ f ∧ f < K.N := by
  unfold leafB at h
  simp only [Bool.and_eq_true, decide_eq_true_eq] at h
  exact h.1
theorem HtJ.put {K : HtK} {t : Int} {n : Nat} {s : HtS} (h : HtJ K t n s) {now : Int} {x : Hd} (ht : t ≤ now) (hx : 0 ≤ x.l ∧ x.l ≤ 10000) (hn : x.n = n) : HtJ K now (n + 1) (putH K s x).1 ∧ (putH K s x).2.length ≤ 1000000 := by
  unfold putH
  split
  · rename_i hin
    have hl : leafB K x.f = true := by unfold inB at hin; simp only [Bool.and_eq_true] at hin; exact hin.1.1
    obtain ⟨f0, f1⟩ := leafB_in hl
    refine ⟨⟨(h.i.add hx hin).later ht, fun j hj => ?_, fun j hj => ?_⟩, by simp⟩
    · show ∀ y ∈ (updN s.nd x.f.toNat _ j).L, _
      by_cases e : j = x.f.toNat
      · subst e
        rw [updN_same]
        intro y hy
        have hy' : y ∈ (s.nd x.f.toNat).L ++ [x] := hy
        rcases List.mem_append.1 hy' with hy' | hy'
        · have := h.fl _ hj y hy'
          omega
        · rw [List.mem_singleton.1 hy']
          omega
      · rw [updN_ne e]
        intro y hy
        have := h.fl j hj y hy
        omega
    · show (updN s.nd x.f.toNat _ j).L.Pairwise _
      by_cases e : j = x.f.toNat
      · subst e
        rw [updN_same]
        show ((s.nd x.f.toNat).L ++ [x]).Pairwise _
        refine List.pairwise_append.2 ⟨h.up _ hj, List.pairwise_singleton _ _, fun a ha b hb => ?_⟩
        rw [List.mem_singleton.1 hb]
        have := h.fl _ hj a ha
        omega
      · rw [updN_ne e]
        exact h.up j hj
  · exact ⟨⟨(h.i.more (Nat.le_succ n)).later ht, fun j hj y hy => by have := h.fl j hj y hy; omega, h.up⟩, by simp⟩
theorem HtJ.at {K : HtK} {t : Int} {n : Nat} {s : HtS} (h : HtJ K t n s) {now : Int} (ht : t ≤ now) : HtJ K now n (s.at now) := ⟨h.i.at (by have := h.i.tm; omega), h.fl, h.up⟩
theorem HtJ.take {K : HtK} (hK : HtKOk K) {t : Int} {n : Nat} {s : HtS} (h : HtJ K t n s) {now : Int} (ht : t ≤ now) : HtJ K now n (takeH K s now).1 := by
  cases hb : bestM K (s.at now) now K.N with
  | none => rw [take_none hb]; exact h.at ht
  | some o =>
    obtain ⟨h1, h2, x, r, h3, h4, h5⟩ := take_some hK hb
    rw [h5]
    have hI := (h.at ht).i
    have hI2 : HtI K now n (sentN { s.at now with gone := IntKind.i64.wrap (s.gone + 1) } o.leaf (IntKind.i64.wrap (s.gone + 1))) := hI.other rfl (fun j => sentN_nd _ _ _ j)
    have hx := (h.i.wait o.leaf h1).2 x (by rw [h3]; simp)
    have hLs : ((sentN { s.at now with gone := IntKind.i64.wrap (s.gone + 1) } o.leaf (IntKind.i64.wrap (s.gone + 1))).nd o.leaf).L = x :: r := by rw [sent_L]; exact h3
    have hL2 : ∀ j, ((sendM K now (sentN { s.at now with gone := IntKind.i64.wrap (s.gone + 1) } o.leaf (IntKind.i64.wrap (s.gone + 1))) o).nd j).L = if j = o.leaf then (s.nd j).L.tail else (s.nd j).L := by intro j; rw [send_L, sent_L]; rfl
    refine ⟨?_, fun j hj y hy => ?_, fun j hj => ?_⟩
    · unfold sendM
      rw [hLs]
      obtain ⟨c1, c2⟩ := HtI.ceils (K := K) (now := now) (x := (hdOr (x :: r)).l) hx.1 (hL K (some o.leaf)) _ (hI2.pop o.leaf) rfl
      exact (HtI.rates hx.1 (hL K (some o.lend)) _ (fun m hm => by have := hL_lt hK o.lend h2 m hm; omega) c1 c2).1
    · rw [hL2] at hy
      split at hy
      · exact h.fl j hj y (List.mem_of_mem_tail hy)
      · exact h.fl j hj y hy
    · rw [hL2]
      split
      · exact (h.up j hj).sublist (List.tail_sublist _)
      · exact h.up j hj
/-- A tree as a queue. -/
def HtM (K : HtK) : QM where
  σ := HtS
  ty := 24
  rv := .pointer (some ⟨K.tb, 0, none⟩)
  fP := 15
  fT := 16
  fW := 82
  fL := 81
  fB := 80
  rP := .pointer (some ⟨K.tb, 0, none⟩)
  rT := .pointer (some ⟨K.tb, 0, none⟩)
  rW := .pointer (some ⟨K.tb, 0, none⟩)
  rL := .pointer (some ⟨K.tb, 0, none⟩)
  rB := .pointer (some ⟨K.tb, 0, none⟩)
  At := fun w F s => ∃ vs ow, HtAt K w s vs ow ∧ ∀ k, F k ↔ HtF K vs k
  put := fun s _ x => putH K s x
  take := fun s now => takeH K s now
  when := fun s now => (s.at now, whenM K (s.at now) now K.N)
  len := fun s => sumN (fun i => ((s.nd i).L.length : Int)) K.N
  bytes := fun s => sumN (fun i => sumL (s.nd i).L) K.N
  inv := fun t n s => HtJ K t n s
theorem htM_fine {K : HtK} (hK : HtKOk K) : (HtM K).Fine where
  kept := by
    rintro w w' F s ⟨vs, ow, h, hF⟩ hk
    exact ⟨vs, ow, h.kept (fun k hf => hk k ((hF k).2 hf)), hF⟩
  low := by
    rintro w F s ⟨vs, ow, h, hF⟩ k hk
    exact h.low k ((hF k).1 hk)
  mP := mTreeP _
  mT := mTreeT _
  mW := mTreeW _
  mL := mTreeL _
  mB := mTreeB _
  eP := eTreeP
  eT := eTreeT
  eW := eTreeW
  eL := eTreeL
  eB := eTreeB
  cP := by
    rintro w F s t n now x ⟨vs, ow, h, hF⟩ hI h0 h1 h2 hok hxa hxn hn
    refine (put_ht hK now x w h (HtJ.i hI) hn (by have := ok_len hok; omega)).mono ?_
    rintro e w' ⟨u, vs', ow', rfl, hu, hA, hN, hn', hO⟩
    refine ⟨u, HtF K vs', rfl, hu, ⟨vs', ow', hA.out, fun _ => Iff.rfl⟩, fun k hk => ?_, fun k hk => Or.inr (hn' k hk), hO.out.mono (fun k _ hk => (hF k).2 hk)⟩
    rcases hN.out k hk with h | h
    · exact Or.inl ((hF k).2 h)
    · exact Or.inr h
  iP := by
    intro (s : HtS) t n now x hI h0 h1 h2 hok hxa hxn hn
    exact HtJ.put hI h1 (by have := ok_len hok; omega) hxn
  cT := by
    rintro w F s t n now ⟨vs, ow, h, hF⟩ hI h0 h1 h2 hn
    refine (take_ht hK now w h (HtJ.i hI) (by omega) (by have := (HtJ.i hI).tm; omega) (by omega)).mono ?_
    rintro e w' ⟨rfl, vs', ow', hA, hN, hO⟩
    have hl : ((HtM K).take s now).2.1 = [] := by
      show (takeH K s now).2.1 = []
      unfold takeH
      split <;> rfl
    refine ⟨.slice none 0 0, HtF K vs', rfl, by rw [hl]; exact Hs.nil _, ⟨vs', ow', hA.out, fun _ => Iff.rfl⟩, fun k hk => ?_, fun k hk => by simp [Value.ownBlock] at hk, hO.out.mono (fun k _ hk => (hF k).2 hk)⟩
    rcases hN.out k hk with h | h
    · exact Or.inl ((hF k).2 h)
    · exact Or.inr h
  iT := by
    intro (s : HtS) t n now hI h0 h1 h2 hn
    refine ⟨HtJ.take hK hI h1, ?_⟩
    show (takeH K s now).2.1.length ≤ _
    unfold takeH
    split <;> simp
  cW := by
    rintro w F s t n now ⟨vs, ow, h, hF⟩ hI h0 h1 h2 hn
    have htm : s.tm ≤ now := by have := (HtJ.i hI).tm; omega
    refine (twhen_ht hK now w (h.later htm) ((HtJ.i hI).at htm) rfl h2).mono ?_
    rintro e w' ⟨rfl, hA, hO⟩
    exact ⟨HtF K vs, rfl, ⟨vs, ow, hA.out, fun _ => Iff.rfl⟩, fun k hk => Or.inl ((hF k).2 hk), hO.out.mono (fun k _ hk => (hF k).2 hk)⟩
  iW := by
    intro (s : HtS) t n now hI h0 h1 h2 hn
    exact HtJ.at hI h1
  cL := by
    rintro w F s t n ⟨vs, ow, h, hF⟩ hI hn
    refine (len_ht hK w h (HtJ.i hI) hn).mono ?_
    rintro e w' ⟨rfl, rfl⟩
    exact ⟨rfl, Below.refl _ _⟩
  cB := by
    rintro w F s t n ⟨vs, ow, h, hF⟩ hI hn
    refine (bytes_ht hK w h (HtJ.i hI) hn).mono ?_
    rintro e w' ⟨rfl, rfl⟩
    exact ⟨rfl, Below.refl _ _⟩
end Go.Proofs.YtpgdocmpbeabpaaDoor
namespace Go.Proofs.YtpgdocmpbeabpaaDoor

theorem sumL_perm {a b : List Hd} (h : a.Perm b) : sumL a = sumL b := by
  induction h with
  | nil => rfl
  | cons x _ ih => simp only [sumL, ih]
  | swap x y l => simp only [sumL]; omega
  | trans _ _ h1 h2 => exact h1.trans h2
/-- A queue that neither loses nor makes a packet: what waits in it. -/
structure QM.Keeps (M : QM) (cont : M.σ → List Hd) : Prop where
  put : ∀ s now x, (cont s ++ [x]).Perm ((M.put s now x).2 ++ cont (M.put s now x).1)
  take : ∀ s now, (cont s).Perm ((M.take s now).2.1 ++ (if (M.take s now).2.2.2 then [(M.take s now).2.2.1] else []) ++ cont (M.take s now).1)
  when : ∀ s now, (cont s).Perm (cont (M.when s now).1)
  len : ∀ s, M.len s = (cont s).length
  bytes : ∀ s, M.bytes s = sumL (cont s)
end Go.Proofs.YtpgdocmpbeabpaaDoor
