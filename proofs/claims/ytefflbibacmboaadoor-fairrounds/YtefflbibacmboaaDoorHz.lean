/-
  fair.Hashed is a queue as plain.Play and millracelaw.played ask it: a model. Conditions: its numbers within their bounds.
  fair.Hashed is a queue: its methods do what the model tells; nothing is lost but what is told. Conditions: its numbers within their bounds.
  Hashed, as the reference has it (one list, and turns) and as the program has it (a list for each): that Put, Take and When of both agree. Mathematics alone.
-/
import Derived.Test.YtefflbibacmboaaDoorHi
namespace Go.Proofs.YtefflbibacmboaaDoor
open Go.RowKit Go.Extern.Stop Go.Stop Go.Extern

theorem mHaP (a : Addr) (W : World) : (Go.method 314 70 (.pointer (some a)) "Put").run Tryd.prog W = .ok (122, .pointer (some a)) W := by kernel_rfl
theorem mHaT (a : Addr) (W : World) : (Go.method 314 70 (.pointer (some a)) "Take").run Tryd.prog W = .ok (123, .pointer (some a)) W := by kernel_rfl
theorem mHaW (a : Addr) (W : World) : (Go.method 314 70 (.pointer (some a)) "When").run Tryd.prog W = .ok (124, .pointer (some a)) W := by kernel_rfl
theorem mHaL (a : Addr) (W : World) : (Go.method 314 70 (.pointer (some a)) "Len").run Tryd.prog W = .ok (121, .pointer (some a)) W := by kernel_rfl
theorem mHaB (a : Addr) (W : World) : (Go.method 314 70 (.pointer (some a)) "Bytes").run Tryd.prog W = .ok (120, .pointer (some a)) W := by kernel_rfl
theorem eHaP (args : Array Value) (W : World) : (callFunc 122 args).run Tryd.prog W = .ok (.enter 122 args) W := enters_of Tryd.func122 (by kernel_rfl) rfl args W
theorem eHaT (args : Array Value) (W : World) : (callFunc 123 args).run Tryd.prog W = .ok (.enter 123 args) W := enters_of Tryd.func123 (by kernel_rfl) rfl args W
theorem eHaW (args : Array Value) (W : World) : (callFunc 124 args).run Tryd.prog W = .ok (.enter 124 args) W := enters_of Tryd.func124 (by kernel_rfl) rfl args W
theorem eHaL (args : Array Value) (W : World) : (callFunc 121 args).run Tryd.prog W = .ok (.enter 121 args) W := enters_of Tryd.func121 (by kernel_rfl) rfl args W
theorem eHaB (args : Array Value) (W : World) : (callFunc 120 args).run Tryd.prog W = .ok (.enter 120 args) W := enters_of Tryd.func120 (by kernel_rfl) rfl args W
/-- Each list's numbers go up, and are below n. -/
def SH (n : Nat) (s : HaS) : Prop := ∀ f, f < 64 → ((s.fl f).map Hd.n).Pairwise (· < ·) ∧ ∀ x ∈ s.fl f, 0 ≤ x.n ∧ x.n < (n : Int)
theorem SH.less {n : Nat} {s s' : HaS} (h : SH n s) {f : Nat} {L : List Hd} (hs : s'.fl = updF s.fl f L) (hL : L.Sublist (s.fl f)) : SH n s' := by
  intro g hg
  rw [hs]
  by_cases e : g = f
  · subst e; rw [updF_same]
    exact ⟨(h g hg).1.sublist (hL.map _), fun x hx => (h g hg).2 x (hL.subset hx)⟩
  · rw [updF_ne e]; exact h g hg
theorem SH.into {n : Nat} {p : HaC} {s : HaS} {x : Hd} (h : SH n s) (hx : x.n = (n : Int)) : SH (n + 1) (intoH p s x) := by
  have hw : SH (n + 1) s := fun f hf => ⟨(h f hf).1, fun y hy => by have := (h f hf).2 y hy; omega⟩
  intro f hf
  show ((updF s.fl (whereN p x.f).toNat (s.fl (whereN p x.f).toNat ++ [x]) f).map Hd.n).Pairwise (· < ·) ∧ ∀ y ∈ updF s.fl (whereN p x.f).toNat (s.fl (whereN p x.f).toNat ++ [x]) f, 0 ≤ y.n ∧ y.n < ((n + 1 : Nat) : Int)
  by_cases e : f = (whereN p x.f).toNat
  · rw [e, updF_same, ← e]
    refine ⟨?_, fun y hy => ?_⟩
    · rw [List.map_append, List.pairwise_append]
      refine ⟨(h _ hf).1, by simp, fun a ha b hb => ?_⟩
      obtain ⟨y, hy, rfl⟩ := List.mem_map.1 ha
      simp at hb
      subst hb
      have := (h _ hf).2 y hy
      omega
    · rcases List.mem_append.1 hy with h1 | h1
      · have := (h _ hf).2 y h1; omega
      · simp at h1; subst h1; omega
  · rw [updF_ne e]; exact hw f hf
/-- A Hashed in block b. -/
def HashM (b : Nat) (p : HaC) : QM where
  σ := HaS
  ty := 70
  rv := .pointer (some ⟨b, 0, none⟩)
  fP := 122
  fT := 123
  fW := 124
  fL := 121
  fB := 120
  rP := .pointer (some ⟨b, 0, none⟩)
  rT := .pointer (some ⟨b, 0, none⟩)
  rW := .pointer (some ⟨b, 0, none⟩)
  rL := .pointer (some ⟨b, 0, none⟩)
  rB := .pointer (some ⟨b, 0, none⟩)
  At := fun w F s => ∃ C vs tv, HaP w b p C vs tv s ∧ ∀ k, F k ↔ HaF b vs tv k
  put := fun s _ x => putH p s x
  take := fun s _ => takeH s
  when := fun s now => (s, now, !s.tn.isEmpty)
  len := fun s => (allF s.fl 64).length
  bytes := fun s => sumL (allF s.fl 64)
  inv := fun _ n s => HaI p s ∧ (allF s.fl 64).length ≤ n ∧ SH n s
end Go.Proofs.YtefflbibacmboaaDoor
namespace Go.Proofs.YtefflbibacmboaaDoor
open Go.RowKit Go.Extern.Stop Go.Stop Go.Extern

theorem nodup64 {l : List Int} (h : ∀ m ∈ l, 0 ≤ m ∧ m < 64) (hn : l.Nodup) : l.length ≤ 64 := by
  have h1 : (l.map Int.toNat).Nodup := by
    rw [List.nodup_iff_pairwise_ne, List.pairwise_map]
    refine List.Pairwise.imp_of_mem ?_ hn
    intro a b ha hb hab e
    have := h a ha
    have := h b hb
    omega
  have h3 := nodup_lt 64 _ h1 (fun x hx => by
    obtain ⟨m, hm, rfl⟩ := List.mem_map.1 hx
    have := h m hm
    omega)
  simpa using h3
theorem HaI.fitA {p : HaC} {s : HaS} {n : Nat} (h : HaI p s) (hn : (allF s.fl 64).length ≤ n) (hn1 : n ≤ 1001) : Fit (allF s.fl 64) := by
  refine ⟨by omega, fun x hx => ?_⟩
  obtain ⟨f, hf, hx⟩ := allF_mem hx
  have := ok_len (h.ok f hf x hx).1
  omega
theorem HaI.fit {p : HaC} {s : HaS} {n : Nat} (h : HaI p s) (hn : (allF s.fl 64).length ≤ n) (hn1 : n ≤ 1001) {f : Nat} (hf : f < 64) : Fit (s.fl f) := by
  have h1 := allF_len (fl := s.fl) hf
  exact ⟨by omega, fun x hx => by have := ok_len (h.ok f hf x hx).1; omega⟩
theorem takeH_keeps (s : HaS) : (allF s.fl 64).Perm ((takeH s).2.1 ++ (if (takeH s).2.2.2 then [(takeH s).2.2.1] else []) ++ allF (takeH s).1.fl 64) := by
  rcases takeH_fl s with ⟨h1, h2, h3⟩ | ⟨f, x, L, hf, hL, h2, h3⟩
  · rw [h1, h2, h3]; exact List.Perm.refl _
  · rw [h2, h3]
    obtain ⟨R, k1, k2⟩ := allF_split (fl := s.fl) hf L
    rw [hL] at k1
    show (allF s.fl 64).Perm ([] ++ [x] ++ allF (updF s.fl f L) 64)
    exact k1.trans (List.Perm.cons x k2.symm)
theorem HaI.put {p : HaC} {s : HaS} {x : Hd} (h : HaI p s) (hm0 : 1 ≤ p.many) (hm1 : p.many ≤ 64) (hok : x.ok = true) : HaI p (putH p s x).1 := by
  unfold putH
  split
  · exact h.into hm0 hm1 hok
  · exact (h.into hm0 hm1 hok).cut (into_some hm0 hm1 s x)
theorem SH.put {n : Nat} {p : HaC} {s : HaS} {x : Hd} (h : SH n s) (hx : x.n = (n : Int)) : SH (n + 1) (putH p s x).1 := by
  unfold putH
  split
  · exact h.into hx
  · exact SH.less (h.into hx) (s' := (cutH (intoH p s x)).1) rfl (List.dropLast_sublist _)
theorem SH.take {n : Nat} {s : HaS} (h : SH n s) : SH n (takeH s).1 := by
  rcases takeH_fl s with ⟨_, h2, _⟩ | ⟨f, x, L, hf, hL, h2, _⟩
  · intro g hg; rw [h2]; exact h g hg
  · exact h.less h2 (by rw [hL]; exact List.sublist_cons_self _ _)
theorem hashM_fine (b : Nat) (p : HaC) (hm0 : 1 ≤ p.many) (hm1 : p.many ≤ 64) (hs0 : 0 ≤ p.salt) (hs1 : p.salt ≤ 1000000) : (HashM b p).Fine where
  kept := by
    rintro w w' F s ⟨C, vs, tv, h, hF⟩ hk
    exact ⟨C, vs, tv, h.kept (fun k hk' => hk k ((hF k).2 hk')), hF⟩
  low := by
    rintro w F s ⟨C, vs, tv, h, hF⟩ k hk
    exact h.low ((hF k).1 hk)
  mP := mHaP ⟨b, 0, none⟩
  mT := mHaT ⟨b, 0, none⟩
  mW := mHaW ⟨b, 0, none⟩
  mL := mHaL ⟨b, 0, none⟩
  mB := mHaB ⟨b, 0, none⟩
  eP := eHaP
  eT := eHaT
  eW := eHaW
  eL := eHaL
  eB := eHaB
  cP := by
    rintro w F (s : HaS) t n now x ⟨C, vs, tv, h, hF⟩ hI ht0 ht1 ht2 hok hxa hxn hn
    have hfl := ok_flow hok
    have hw := whereN_bd hm0 x.f
    have hIn := hI.1.into hm0 hm1 hok
    have hlen : (allF (intoH p s x).fl 64).length ≤ n + 1 := by
      have h1 := (into_keeps hm0 hm1 s x).length_eq
      have h2 := hI.2.1
      simp only [List.length_append, List.length_cons, List.length_nil] at h1
      omega
    have hso := into_some hm0 hm1 s x
    have hFk : Fit (s.fl (whereN p x.f).toNat ++ [x]) := by
      have h1 := hIn.fit hlen (by omega) (f := (whereN p x.f).toNat) (by omega)
      have e : (intoH p s x).fl (whereN p x.f).toNat = s.fl (whereN p x.f).toNat ++ [x] := updF_same _ _ _
      rw [e] at h1
      exact h1
    have h64 := nodup64 hI.1.tin hI.1.tnd
    refine (hput_any now x w h hm0 hm1 hs0 hs1 hfl.1 (by omega) (by omega) hFk (hIn.fitA hlen (by omega)) hso ((hIn.tfl _ (longK_lt _ 64 (by decide))).2 hso) hIn.tnd (fun f hf => hIn.fit hlen (by omega) hf)).mono ?_
    rintro e w' ⟨u, C', vs', tv', rfl, hu, hnu, hT⟩
    exact ⟨u, HaF b vs' tv', rfl, hu, ⟨C', vs', tv', hT.pos, fun k => Iff.rfl⟩, fun k hk => by rcases hT.own k hk with h1 | h1; exact Or.inl ((hF k).2 h1); exact Or.inr h1, fun k hk => Or.inr (hnu k hk), hT.ot.mono (fun k _ h1 => (hF k).2 h1)⟩
  iP := by
    intro (s : HaS) t n now x hI ht0 ht1 ht2 hok hxa hxn hn
    have h2 := hI.2.1
    have h3 := (putH_keeps hm0 hm1 s x).length_eq
    simp only [List.length_append, List.length_cons, List.length_nil] at h3
    refine ⟨⟨hI.1.put hm0 hm1 hok, ?_, hI.2.2.put hxn⟩, ?_⟩
    · show (allF (putH p s x).1.fl 64).length ≤ n + 1
      omega
    · show (putH p s x).2.length ≤ _
      omega
  cT := by
    rintro w F (s : HaS) t n now ⟨C, vs, tv, h, hF⟩ hI ht0 ht1 ht2 hn
    have h64 := nodup64 hI.1.tin hI.1.tnd
    refine (htake_any now w h (fun m hm => ?_) hI.1.tnd (by omega) (fun f hf => hI.1.fit hI.2.1 (by omega) hf)).mono ?_
    · have h1 := hI.1.tin m hm
      refine ⟨h1.1, h1.2, (hI.1.tfl m.toNat (by omega)).1 ?_⟩
      rw [Int.toNat_of_nonneg h1.1]
      exact hm
    rintro e w' ⟨rfl, C', vs', tv', hT⟩
    have hl : (takeH s).2.1 = [] := by
      rcases takeH_fl s with ⟨_, _, h3⟩ | ⟨_, _, _, _, _, _, h3⟩
      · exact h3
      · rw [h3]
    refine ⟨.slice none 0 0, HaF b vs' tv', rfl, ?_, ⟨C', vs', tv', hT.pos, fun k => Iff.rfl⟩, fun k hk => by rcases hT.own k hk with h1 | h1; exact Or.inl ((hF k).2 h1); exact Or.inr h1, fun k hk => by simp [Value.ownBlock] at hk, hT.ot.mono (fun k _ h1 => (hF k).2 h1)⟩
    show Hs w' _ (takeH s).2.1
    rw [hl]
    exact Hs.nil _
  iT := by
    intro (s : HaS) t n now hI ht0 ht1 ht2 hn
    have h2 := hI.2.1
    have h3 := (takeH_keeps s).length_eq
    rw [List.length_append, List.length_append] at h3
    refine ⟨⟨hI.1.take, ?_, hI.2.2.take⟩, ?_⟩
    · show (allF (takeH s).1.fl 64).length ≤ n
      omega
    · show (takeH s).2.1.length ≤ _
      omega
  cW := by
    rintro w F (s : HaS) t n now ⟨C, vs, tv, h, hF⟩ hI ht0 ht1 ht2 hn
    refine (hwhen_any now w h).mono ?_
    rintro e w' ⟨rfl, rfl⟩
    exact ⟨F, rfl, ⟨C, vs, tv, h, hF⟩, fun k hk => Or.inl hk, Ot.refl _ _⟩
  iW := by
    intro (s : HaS) t n now hI ht0 ht1 ht2 hn
    exact hI
  cL := by
    rintro w F (s : HaS) t n ⟨C, vs, tv, h, hF⟩ hI hn
    exact (hlen_any w h (hI.1.fitA hI.2.1 hn)).mono (by rintro e w' ⟨rfl, rfl⟩; exact ⟨rfl, Below.refl _ _⟩)
  cB := by
    rintro w F (s : HaS) t n ⟨C, vs, tv, h, hF⟩ hI hn
    exact (hbts_any w h (hI.1.fitA hI.2.1 hn)).mono (by rintro e w' ⟨rfl, rfl⟩; exact ⟨rfl, Below.refl _ _⟩)
end Go.Proofs.YtefflbibacmboaaDoor
namespace Go.Proofs.YtefflbibacmboaaDoor
open Go.RowKit Go.Extern.Stop Go.Stop Go.Extern

/-- What the reference's Hashed keeps. -/
structure RhS where
  L : List Hd
  tn : List Int
def ofL (p : HaC) (L : List Hd) (k : Int) : List Hd := L.filter (fun x => decide (whereN p x.f = k))
def rmN (L : List Hd) (n : Int) : List Hd := L.filter (fun y => decide (y.n ≠ n))
def longX (p : HaC) (L : List Hd) : Nat → Nat := longK (fun i => ofL p L (i : Int))
def putX (p : HaC) (r : RhS) (x : Hd) : RhS × List Hd :=
  if ((r.L ++ [x]).length : Int) ≤ p.room then (⟨r.L ++ [x], if (ofL p r.L (whereN p x.f)).isEmpty then r.tn ++ [whereN p x.f] else r.tn⟩, [])
  else (⟨rmN (r.L ++ [x]) (lsOr (ofL p (r.L ++ [x]) (longX p (r.L ++ [x]) p.many.toNat : Nat))).n, if (ofL p (r.L ++ [x]) (longX p (r.L ++ [x]) p.many.toNat : Nat)).length = 1 then (if (ofL p r.L (whereN p x.f)).isEmpty then r.tn ++ [whereN p x.f] else r.tn).filter (fun i => decide (i ≠ (longX p (r.L ++ [x]) p.many.toNat : Nat))) else (if (ofL p r.L (whereN p x.f)).isEmpty then r.tn ++ [whereN p x.f] else r.tn)⟩, [lsOr (ofL p (r.L ++ [x]) (longX p (r.L ++ [x]) p.many.toNat : Nat))])
def takeX (p : HaC) (r : RhS) : RhS × List Hd × Hd × Bool :=
  match r.tn with
  | [] => (r, [], hd0, false)
  | k :: B => (⟨rmN r.L (hdOr (ofL p r.L k)).n, if (ofL p (rmN r.L (hdOr (ofL p r.L k)).n) k).isEmpty then B else B ++ [k]⟩, [], hdOr (ofL p r.L k), true)
/-- Both keep the same. -/
structure HRel (p : HaC) (s : HaS) (r : RhS) : Prop where
  tn : s.tn = r.tn
  fl : ∀ f : Nat, f < 64 → s.fl f = ofL p r.L (f : Int)
  srt : (r.L.map Hd.n).Pairwise (· < ·)
theorem HRel.zero (p : HaC) : HRel p ha0 ⟨[], []⟩ := ⟨rfl, fun f hf => rfl, by simp⟩
theorem ofL_mem {p : HaC} {L : List Hd} {k : Int} {x : Hd} : x ∈ ofL p L k ↔ x ∈ L ∧ whereN p x.f = k := by simp [ofL]
theorem ofL_rm (p : HaC) (L : List Hd) (k n : Int) : ofL p (rmN L n) k = rmN (ofL p L k) n := by
  unfold ofL rmN
  rw [List.filter_filter, List.filter_filter]
  congr 1
  funext x
  exact Bool.and_comm _ _
theorem inj_n : ∀ {L : List Hd}, (L.map Hd.n).Pairwise (· < ·) → ∀ y ∈ L, ∀ z ∈ L, y.n = z.n → y = z := by
  intro L
  induction L with
  | nil => intro _ y hy; simp at hy
  | cons a L ih =>
    intro h y hy z hz e
    rw [List.map_cons, List.pairwise_cons] at h
    have hlt : ∀ t ∈ L, a.n < t.n := fun t ht => h.1 t.n (List.mem_map.2 ⟨t, ht, rfl⟩)
    rcases List.mem_cons.1 hy with e1 | hy
    · rcases List.mem_cons.1 hz with e2 | hz
      · rw [e1, e2]
      · have := hlt z hz; rw [e1] at e; omega
    · rcases List.mem_cons.1 hz with e2 | hz
      · have := hlt y hy; rw [e2] at e; omega
      · exact ih h.2 y hy z hz e
theorem HRel.in {p : HaC} {s : HaS} {r : RhS} (h : HRel p s r) (hm0 : 1 ≤ p.many) (hm1 : p.many ≤ 64) {y : Hd} (hy : y ∈ r.L) : y ∈ s.fl (whereN p y.f).toNat := by
  have hw := whereN_bd hm0 y.f
  rw [h.fl _ (by omega), ofL_mem]
  exact ⟨hy, by omega⟩
theorem allF_same {fl fl' : Nat → List Hd} {N : Nat} (h : ∀ f, f < N → fl f = fl' f) : allF fl N = allF fl' N := by
  unfold allF
  rw [List.flatMap_def, List.flatMap_def, List.map_congr_left (fun f hf => h f (List.mem_range.1 hf))]
theorem ofL_all (p : HaC) (hm0 : 1 ≤ p.many) (hm1 : p.many ≤ 64) (L : List Hd) : (allF (fun f => ofL p L (f : Int)) 64).Perm L := by
  induction L with
  | nil =>
    have : allF (fun f => ofL p [] (f : Int)) 64 = [] := by unfold allF ofL; simp
    rw [this]
  | cons x L ih =>
    have hw := whereN_bd hm0 x.f
    obtain ⟨j, hj⟩ : ∃ j : Nat, whereN p x.f = j := ⟨(whereN p x.f).toNat, by omega⟩
    obtain ⟨R, h1, h2⟩ := allF_split (fl := fun f => ofL p L (f : Int)) (show j < 64 by omega) (x :: ofL p L (j : Int))
    have e : allF (fun f => ofL p (x :: L) (f : Int)) 64 = allF (updF (fun f => ofL p L (f : Int)) j (x :: ofL p L (j : Int))) 64 := by
      refine allF_same (fun f hf => ?_)
      by_cases e : f = j
      · subst e; rw [updF_same]; simp [ofL, hj]
      · rw [updF_ne e]
        have : ¬ (whereN p x.f = (f : Int)) := by omega
        simp [ofL, this]
    rw [e]
    refine h2.trans ?_
    rw [List.cons_append]
    exact List.Perm.cons _ (h1.symm.trans ih)
theorem HRel.perm {p : HaC} {s : HaS} {r : RhS} (h : HRel p s r) (hm0 : 1 ≤ p.many) (hm1 : p.many ≤ 64) : (allF s.fl 64).Perm r.L := by
  rw [allF_same (fl' := fun f => ofL p r.L (f : Int)) h.fl]
  exact ofL_all p hm0 hm1 r.L
theorem longK_le (fl : Nat → List Hd) (n : Nat) : longK fl n ≤ n := by
  induction n with
  | zero => exact Nat.le_refl _
  | succ n ih => simp only [longK]; split <;> omega
theorem longK_same {fl fl' : Nat → List Hd} : ∀ n, (∀ i, i < n → fl i = fl' i) → longK fl n = longK fl' n := by
  intro n
  induction n with
  | zero => intro _; rfl
  | succ n ih =>
    intro h
    have e := ih (fun i hi => h i (by omega))
    simp only [longK]
    rw [e, h (longK fl' n) (by have := longK_le fl' n; omega), h n (by omega)]
theorem longK_ext {fl : Nat → List Hd} {k : Nat} : ∀ n, k ≤ n → (∀ i, k ≤ i → i < n → fl i = []) → longK fl n = longK fl k := by
  intro n
  induction n with
  | zero => intro h _; obtain rfl : k = 0 := by omega
            rfl
  | succ n ih =>
    intro h hi
    by_cases e : k = n + 1
    · rw [e]
    · simp only [longK]
      rw [ih (by omega) (fun i h1 h2 => hi i h1 (by omega)), hi n (by omega) (by omega)]
      simp
theorem longX_eq {p : HaC} {s : HaS} {L : List Hd} (hm0 : 1 ≤ p.many) (hm1 : p.many ≤ 64) (h : ∀ f : Nat, f < 64 → s.fl f = ofL p L (f : Int)) : longK s.fl 64 = longX p L p.many.toNat := by
  unfold longX
  rw [longK_same (fl' := fun i => ofL p L (i : Int)) 64 h]
  refine longK_ext 64 (by omega) (fun i h1 h2 => ?_)
  rw [List.eq_nil_iff_forall_not_mem]
  intro y hy
  have h3 := (ofL_mem.1 hy).2
  have h4 := whereN_bd hm0 y.f
  omega
theorem into_rel {p : HaC} {s : HaS} {r : RhS} {n : Nat} {x : Hd} (hm0 : 1 ≤ p.many) (hm1 : p.many ≤ 64) (h : HRel p s r) (hS : SH n s) (hx : x.n = (n : Int)) : HRel p (intoH p s x) ⟨r.L ++ [x], if (ofL p r.L (whereN p x.f)).isEmpty then r.tn ++ [whereN p x.f] else r.tn⟩ := by
  have hw := whereN_bd hm0 x.f
  have hfw := h.fl (whereN p x.f).toNat (by omega)
  rw [show (((whereN p x.f).toNat : Nat) : Int) = whereN p x.f by omega] at hfw
  refine ⟨?_, fun f hf => ?_, ?_⟩
  · show (if (s.fl (whereN p x.f).toNat).isEmpty then s.tn ++ [whereN p x.f] else s.tn) = _
    rw [hfw, h.tn]
  · show updF s.fl (whereN p x.f).toNat (s.fl (whereN p x.f).toNat ++ [x]) f = ofL p (r.L ++ [x]) (f : Int)
    unfold ofL
    rw [List.filter_append]
    by_cases e : f = (whereN p x.f).toNat
    · rw [e, updF_same, hfw, show (((whereN p x.f).toNat : Nat) : Int) = whereN p x.f by omega]
      simp [ofL]
    · rw [updF_ne e, h.fl f hf]
      have : ¬ (whereN p x.f = (f : Int)) := by omega
      simp [ofL, this]
  · show ((r.L ++ [x]).map Hd.n).Pairwise (· < ·)
    rw [List.map_append, List.pairwise_append]
    refine ⟨h.srt, by simp, fun a ha c hc => ?_⟩
    obtain ⟨y, hy, rfl⟩ := List.mem_map.1 ha
    simp at hc
    subst hc
    have h1 := whereN_bd hm0 y.f
    have h2 := (hS (whereN p y.f).toNat (by omega)).2 y (h.in hm0 hm1 hy)
    omega
theorem rmN_none {L : List Hd} {n : Int} (h : ∀ y ∈ L, y.n ≠ n) : rmN L n = L := by
  unfold rmN
  rw [List.filter_eq_self]
  intro y hy
  exact decide_eq_true (h y hy)
theorem rmN_sub (L : List Hd) (n : Int) : (rmN L n).Sublist L := List.filter_sublist
theorem ofL_sub (p : HaC) (L : List Hd) (k : Int) : (ofL p L k).Sublist L := List.filter_sublist
/-- Of the others nothing goes. -/
theorem rm_other {p : HaC} {L : List Hd} {k f : Int} {y : Hd} (hs : (L.map Hd.n).Pairwise (· < ·)) (hy : y ∈ ofL p L k) (hf : f ≠ k) : rmN (ofL p L f) y.n = ofL p L f := by
  refine rmN_none (fun z hz e => ?_)
  have h1 := ofL_mem.1 hy
  have h2 := ofL_mem.1 hz
  have := inj_n hs z h2.1 y h1.1 e
  subst this
  exact hf (h2.2.symm.trans h1.2)
theorem rm_last {M : List Hd} (hs : (M.map Hd.n).Pairwise (· < ·)) (hne : M ≠ []) : rmN M (lsOr M).n = M.dropLast := by
  have e := snoc_last hne
  obtain ⟨A, hA⟩ : ∃ A, M.dropLast = A := ⟨_, rfl⟩
  obtain ⟨y, hy⟩ : ∃ y, lsOr M = y := ⟨_, rfl⟩
  rw [hA, hy] at e
  rw [hA, hy]
  subst e
  rw [List.map_append, List.pairwise_append] at hs
  unfold rmN
  rw [List.filter_append]
  have h1 : A.filter (fun z => decide (z.n ≠ y.n)) = A := by
    rw [List.filter_eq_self]
    intro z hz
    have := hs.2.2 z.n (List.mem_map.2 ⟨z, hz, rfl⟩) y.n (by simp)
    exact decide_eq_true (by omega)
  rw [h1]
  simp
theorem rm_first {x : Hd} {M : List Hd} (hs : ((x :: M).map Hd.n).Pairwise (· < ·)) : rmN (x :: M) x.n = M := by
  rw [List.map_cons, List.pairwise_cons] at hs
  unfold rmN
  rw [List.filter_cons_of_neg (by simp), List.filter_eq_self]
  intro z hz
  have := hs.1 z.n (List.mem_map.2 ⟨z, hz, rfl⟩)
  exact decide_eq_true (by omega)
theorem srt_sub {L M : List Hd} (h : (L.map Hd.n).Pairwise (· < ·)) (hs : M.Sublist L) : (M.map Hd.n).Pairwise (· < ·) := h.sublist (hs.map _)
theorem erase_filter {l : List Int} (h : l.Nodup) (k : Int) : l.erase k = l.filter (fun i => decide (i ≠ k)) := by
  rw [h.erase_eq_filter]
  congr 1
  funext i
  simp [bne, BEq.beq]
theorem lsOr_mem' {L : List Hd} (h : L ≠ []) : lsOr L ∈ L := by
  have := snoc_last h
  rw [this]
  simp [lsOr]
theorem cut_rel {p : HaC} {s : HaS} {r : RhS} (hm0 : 1 ≤ p.many) (hm1 : p.many ≤ 64) (h : HRel p s r) (hI : HaI p s) (hne : s.fl (longK s.fl 64) ≠ []) :
    (cutH s).2 = lsOr (ofL p r.L (longX p r.L p.many.toNat : Nat)) ∧ HRel p (cutH s).1 ⟨rmN r.L (lsOr (ofL p r.L (longX p r.L p.many.toNat : Nat))).n, if (ofL p r.L (longX p r.L p.many.toNat : Nat)).length = 1 then r.tn.filter (fun i => decide (i ≠ (longX p r.L p.many.toNat : Nat))) else r.tn⟩ := by
  have hK := longK_lt s.fl 64 (by decide)
  rw [← longX_eq hm0 hm1 h.fl]
  have h1 : (cutH s).1 = { fl := updF s.fl (longK s.fl 64) (s.fl (longK s.fl 64)).dropLast, tn := if (s.fl (longK s.fl 64)).dropLast.isEmpty then s.tn.erase (longK s.fl 64 : Int) else s.tn } := rfl
  have h2 : (cutH s).2 = lsOr (s.fl (longK s.fl 64)) := rfl
  rw [h1, h2]
  generalize longK s.fl 64 = K at *
  rw [← h.fl K hK]
  have hfl := h.fl K hK
  have hsM : ((s.fl K).map Hd.n).Pairwise (· < ·) := by rw [hfl]; exact srt_sub h.srt (ofL_sub _ _ _)
  have hmem := lsOr_mem' hne
  refine ⟨rfl, ?_, fun f hf => ?_, ?_⟩
  · show (if (s.fl K).dropLast.isEmpty then s.tn.erase (K : Int) else s.tn) = _
    rw [h.tn, erase_filter (by rw [← h.tn]; exact hI.tnd)]
    have : (s.fl K).dropLast.isEmpty = true ↔ (s.fl K).length = 1 := by
      rw [List.isEmpty_iff, ← List.length_eq_zero_iff, List.length_dropLast]
      have : 0 < (s.fl K).length := List.length_pos_iff.2 hne
      omega
    by_cases e : (s.fl K).length = 1
    · rw [if_pos (this.2 e), if_pos e]
    · rw [if_neg (fun h => e (this.1 h)), if_neg e]
  · show updF s.fl K (s.fl K).dropLast f = ofL p (rmN r.L (lsOr (s.fl K)).n) (f : Int)
    rw [ofL_rm]
    by_cases e : f = K
    · subst e; rw [updF_same, ← hfl, rm_last hsM hne]
    · rw [updF_ne e, h.fl f hf]
      exact (rm_other h.srt (by rw [← hfl]; exact hmem) (by omega)).symm
  · exact srt_sub h.srt (rmN_sub _ _)
theorem put_rel {p : HaC} {s : HaS} {r : RhS} {n : Nat} {x : Hd} (hm0 : 1 ≤ p.many) (hm1 : p.many ≤ 64) (h : HRel p s r) (hI : HaI p s) (hS : SH n s) (hok : x.ok = true) (hx : x.n = (n : Int)) : (putH p s x).2 = (putX p r x).2 ∧ HRel p (putH p s x).1 (putX p r x).1 := by
  have h1 := into_rel hm0 hm1 h hS hx
  have hl := (h1.perm hm0 hm1).length_eq
  unfold putH putX
  by_cases hfit : ((allF (intoH p s x).fl 64).length : Int) ≤ p.room
  · have hfit' : ((r.L ++ [x]).length : Int) ≤ p.room := by rw [hl] at hfit; exact hfit
    rw [if_pos hfit, if_pos hfit']
    exact ⟨rfl, h1⟩
  · have hfit' : ¬ ((r.L ++ [x]).length : Int) ≤ p.room := by rw [hl] at hfit; exact hfit
    rw [if_neg hfit, if_neg hfit']
    obtain ⟨h2, h3⟩ := cut_rel hm0 hm1 h1 (hI.into hm0 hm1 hok) (into_some hm0 hm1 s x)
    exact ⟨by show [_] = [_]; rw [h2], h3⟩
theorem take_rel {p : HaC} {s : HaS} {r : RhS} (h : HRel p s r) (hI : HaI p s) : (takeH s).2 = (takeX p r).2 ∧ HRel p (takeH s).1 (takeX p r).1 := by
  unfold takeH takeX
  rw [← h.tn]
  cases ht : s.tn with
  | nil => exact ⟨rfl, h⟩
  | cons m B =>
    simp only
    have hm := hI.tin m (by rw [ht]; simp)
    obtain ⟨f, rfl⟩ : ∃ f : Nat, m = f := ⟨m.toNat, by omega⟩
    rw [Int.toNat_natCast]
    have hf64 : f < 64 := by omega
    have hfl := h.fl f hf64
    cases hL : s.fl f with
    | nil => exact absurd hL ((hI.tfl f hf64).1 (by rw [ht]; simp))
    | cons x L =>
      simp only
      rw [if_pos hf64]
      rw [hL] at hfl
      rw [← hfl]
      have hsM : ((x :: L).map Hd.n).Pairwise (· < ·) := by rw [hfl]; exact srt_sub h.srt (ofL_sub _ _ _)
      have hx : hdOr (x :: L) = x := rfl
      rw [hx]
      have hk : ofL p (rmN r.L x.n) (f : Int) = L := by rw [ofL_rm, ← hfl]; exact rm_first hsM
      rw [hk]
      refine ⟨rfl, rfl, fun g hg => ?_, srt_sub h.srt (rmN_sub _ _)⟩
      show updF s.fl f L g = ofL p (rmN r.L x.n) (g : Int)
      by_cases e : g = f
      · subst e; rw [updF_same, hk]
      · rw [updF_ne e, h.fl g hg, ofL_rm]
        exact (rm_other (y := x) (k := (f : Int)) h.srt (by rw [← hfl]; simp) (by omega)).symm
theorem when_rel {p : HaC} {s : HaS} {r : RhS} (hm0 : 1 ≤ p.many) (hm1 : p.many ≤ 64) (h : HRel p s r) (hI : HaI p s) : (!s.tn.isEmpty) = (!r.L.isEmpty) := by
  congr 1
  rw [Bool.eq_iff_iff, List.isEmpty_iff, List.isEmpty_iff]
  constructor
  · intro ht
    rw [List.eq_nil_iff_forall_not_mem]
    intro y hy
    have h1 := whereN_bd hm0 y.f
    have h2 := h.in hm0 hm1 hy
    have h3 := (hI.tfl (whereN p y.f).toNat (by omega)).2 (List.ne_nil_of_mem h2)
    rw [ht] at h3
    simp at h3
  · intro hL
    rw [List.eq_nil_iff_forall_not_mem]
    intro m hm
    have h1 := hI.tin m hm
    obtain ⟨f, rfl⟩ : ∃ f : Nat, m = f := ⟨m.toNat, by omega⟩
    have h2 := (hI.tfl f (by omega)).1 hm
    rw [h.fl f (by omega), hL] at h2
    exact h2 rfl
end Go.Proofs.YtefflbibacmboaaDoor
