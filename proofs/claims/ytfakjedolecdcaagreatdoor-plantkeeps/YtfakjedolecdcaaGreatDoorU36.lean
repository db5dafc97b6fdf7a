/-
  fair.Hashed: what holds of it, and that Put and Take keep it. Mathematics alone.
  fair.Hashed is a queue as plain.Play and millracelaw.played ask it: a model. Conditions: its numbers within their bounds.
  fair.Hashed is a queue: its methods do what the model tells; nothing is lost but what is told. Conditions: its numbers within their bounds.
  fair.Hashed neither loses nor makes a packet. Mathematics of the model alone.
-/
import Derived.Test.YtfakjedolecdcaaGreatDoorU34
import Derived.Test.YtfakjedolecdcaaGreatDoorU35
import Derived.Test.YtfakjedolecdcaaGreatDoorKm
namespace Go.Proofs.YtfakjedolecdcaaGreatDoor
open Go.RowKit Go.Extern.Stop Go.Stop Go.Extern

/-- What holds of a Hashed. -/
structure HaI (p : HaC) (s : HaS) : Prop where
  tin : ∀ m ∈ s.tn, 0 ≤ m ∧ m < 64
  tnd : s.tn.Nodup
  tfl : ∀ f : Nat, f < 64 → ((f : Int) ∈ s.tn ↔ s.fl f ≠ [])
  ok : ∀ f, f < 64 → ∀ x ∈ s.fl f, x.ok = true ∧ whereN p x.f = (f : Int)
theorem HaI.zero (p : HaC) : HaI p ha0 := ⟨by simp [ha0], by simp [ha0], by simp [ha0], by simp [ha0]⟩
theorem HaI.into {p : HaC} {s : HaS} {x : Hd} (h : HaI p s) (hm0 : 1 ≤ p.many) (hm1 : p.many ≤ 64) (hok : x.ok = true) : HaI p (intoH p s x) := by
  have hw := whereN_bd hm0 x.f
  obtain ⟨f, hf⟩ : ∃ f : Nat, whereN p x.f = f := ⟨(whereN p x.f).toNat, by omega⟩
  have hf64 : f < 64 := by omega
  unfold intoH
  rw [hf, Int.toNat_natCast]
  have hok' : ∀ g, g < 64 → ∀ y ∈ updF s.fl f (s.fl f ++ [x]) g, y.ok = true ∧ whereN p y.f = (g : Int) := by
    intro g hg y hy
    by_cases e : g = f
    · subst e
      rw [updF_same] at hy
      rcases List.mem_append.1 hy with h1 | h1
      · exact h.ok g hg y h1
      · simp at h1; subst h1; exact ⟨hok, hf⟩
    · rw [updF_ne e] at hy; exact h.ok g hg y hy
  cases he : s.fl f with
  | nil =>
    have hnin : (f : Int) ∉ s.tn := fun hm => (h.tfl f hf64).1 hm he
    simp only [List.isEmpty_nil, if_true]
    rw [he] at hok'
    refine ⟨fun m hm => ?_, ?_, fun g hg => ?_, hok'⟩
    · rcases List.mem_append.1 hm with h1 | h1
      · exact h.tin m h1
      · simp at h1; omega
    · show (s.tn ++ [(f : Int)]).Nodup
      rw [List.nodup_append]
      exact ⟨h.tnd, by simp, fun a ha b hb e => by simp at hb; subst hb; subst e; exact hnin ha⟩
    · show (g : Int) ∈ s.tn ++ [(f : Int)] ↔ updF s.fl f ([] ++ [x]) g ≠ []
      by_cases e : g = f
      · subst e; rw [updF_same]; simp
      · rw [updF_ne e, ← h.tfl g hg]; simp; omega
  | cons y L =>
    simp only [List.isEmpty_cons, Bool.false_eq_true, if_false]
    rw [he] at hok'
    refine ⟨h.tin, h.tnd, fun g hg => ?_, hok'⟩
    show (g : Int) ∈ s.tn ↔ updF s.fl f (y :: L ++ [x]) g ≠ []
    by_cases e : g = f
    · subst e; rw [updF_same, h.tfl g hg, he]; simp
    · rw [updF_ne e]; exact h.tfl g hg
/-- A list loses some of its packets; if all, its turn goes too. -/
theorem HaI.less {p : HaC} {s : HaS} (h : HaI p s) {f : Nat} (hf : f < 64) {L : List Hd} {t : List Int} (hL : ∀ y ∈ L, y ∈ s.fl f) (hne : s.fl f ≠ []) (ht : t.Nodup) (hm : ∀ m, m ∈ t ↔ (m ∈ s.tn ∧ (m = (f : Int) → L ≠ []))) : HaI p { fl := updF s.fl f L, tn := t } where
  tin := fun m hm' => h.tin m ((hm m).1 hm').1
  tnd := ht
  tfl := fun g hg => by
    show (g : Int) ∈ t ↔ updF s.fl f L g ≠ []
    rw [hm, h.tfl g hg]
    by_cases e : g = f
    · subst e; rw [updF_same]
      exact ⟨fun h1 => h1.2 rfl, fun h1 => ⟨hne, fun _ => h1⟩⟩
    · rw [updF_ne e]
      exact ⟨fun h1 => h1.1, fun h1 => ⟨h1, fun e2 => absurd (by omega : g = f) e⟩⟩
  ok := fun g hg y hy => by
    have hy' : y ∈ updF s.fl f L g := hy
    by_cases e : g = f
    · subst e; rw [updF_same] at hy'; exact h.ok g hg y (hL y hy')
    · rw [updF_ne e] at hy'; exact h.ok g hg y hy'
theorem HaI.take {p : HaC} {s : HaS} (h : HaI p s) : HaI p (takeH s).1 := by
  unfold takeH
  cases ht : s.tn with
  | nil => simpa using h
  | cons m B =>
    simp only
    have hm := h.tin m (by rw [ht]; simp)
    obtain ⟨f, hf⟩ : ∃ f : Nat, m = f := ⟨m.toNat, by omega⟩
    subst hf
    rw [Int.toNat_natCast]
    have hf64 : f < 64 := by omega
    have hnd := h.tnd
    rw [ht, List.nodup_cons] at hnd
    cases hL : s.fl f with
    | nil => simpa using h
    | cons x L =>
      simp only
      rw [if_pos hf64]
      refine h.less hf64 (fun y hy => by rw [hL]; exact List.mem_cons_of_mem _ hy) (by rw [hL]; simp) ?_ (fun m => ?_)
      · split
        · exact hnd.2
        · rw [List.nodup_append]
          exact ⟨hnd.2, by simp, fun a ha b hb e => by simp at hb; subst hb; subst e; exact hnd.1 ha⟩
      · rw [ht]
        cases L with
        | nil =>
          simp only [List.isEmpty_nil, if_true, List.mem_cons, ne_eq, not_true_eq_false, imp_false]
          exact ⟨fun h1 => ⟨Or.inr h1, fun e => hnd.1 (e ▸ h1)⟩, fun h1 => h1.1.resolve_left h1.2⟩
        | cons y L' =>
          simp only [List.isEmpty_cons, Bool.false_eq_true, if_false, List.mem_append, List.mem_cons, List.not_mem_nil, or_false]
          exact ⟨fun h1 => ⟨h1.symm, fun _ => by simp⟩, fun h1 => h1.1.symm⟩
theorem HaI.cut {p : HaC} {s : HaS} (h : HaI p s) (hne : s.fl (longK s.fl 64) ≠ []) : HaI p (cutH s).1 := by
  have hK := longK_lt s.fl 64 (by decide)
  unfold cutH
  generalize longK s.fl 64 = f at *
  have hin := (h.tfl f hK).2 hne
  refine h.less hK (fun y hy => (List.dropLast_sublist _).subset hy) hne ?_ (fun m => ?_)
  · split
    · exact h.tnd.erase _
    · exact h.tnd
  · by_cases hd : (s.fl f).dropLast = []
    · rw [hd]
      simp only [List.isEmpty_nil, if_true, ne_eq, not_true_eq_false, imp_false]
      rw [h.tnd.mem_erase_iff]
      exact ⟨fun h1 => ⟨h1.2, h1.1⟩, fun h1 => ⟨h1.2, h1.1⟩⟩
    · have e : (s.fl f).dropLast.isEmpty = false := by rw [Bool.eq_false_iff]; intro e; exact hd (List.isEmpty_iff.1 e)
      rw [e]
      exact ⟨fun h1 => ⟨h1, fun _ => hd⟩, fun h1 => h1.1⟩
theorem into_keeps {p : HaC} (hm0 : 1 ≤ p.many) (hm1 : p.many ≤ 64) (s : HaS) (x : Hd) : (allF s.fl 64 ++ [x]).Perm (allF (intoH p s x).fl 64) := by
  have hw := whereN_bd hm0 x.f
  obtain ⟨R, h1, h2⟩ := allF_split (fl := s.fl) (N := 64) (show (whereN p x.f).toNat < 64 by omega) (s.fl (whereN p x.f).toNat ++ [x])
  show (allF s.fl 64 ++ [x]).Perm (allF (updF s.fl (whereN p x.f).toNat (s.fl (whereN p x.f).toNat ++ [x])) 64)
  refine (h1.append_right [x]).trans (List.Perm.trans ?_ h2.symm)
  rw [List.append_assoc, List.append_assoc]
  exact List.Perm.append_left _ List.perm_append_comm
theorem snoc_last {L : List Hd} (h : L ≠ []) : L = L.dropLast ++ [lsOr L] := by
  rcases snoc_or L with rfl | ⟨A, x, rfl⟩
  · exact absurd rfl h
  · simp [lsOr]
theorem cut_keeps {s : HaS} (hne : s.fl (longK s.fl 64) ≠ []) : (allF s.fl 64).Perm ([(cutH s).2] ++ allF (cutH s).1.fl 64) := by
  have hK := longK_lt s.fl 64 (by decide)
  show (allF s.fl 64).Perm ([lsOr (s.fl (longK s.fl 64))] ++ allF (updF s.fl (longK s.fl 64) (s.fl (longK s.fl 64)).dropLast) 64)
  generalize longK s.fl 64 = f at *
  obtain ⟨R, h1, h2⟩ := allF_split (fl := s.fl) hK (s.fl f).dropLast
  have h3 := snoc_last hne
  refine h1.trans (List.Perm.trans ?_ (h2.append_left [lsOr (s.fl f)]).symm)
  have e : s.fl f ++ R = (s.fl f).dropLast ++ ([lsOr (s.fl f)] ++ R) := by rw [← List.append_assoc, ← h3]
  rw [e, ← List.append_assoc, ← List.append_assoc]
  exact List.Perm.append_right R List.perm_append_comm
/-- The longest list is not empty where any wait. -/
theorem long_some {fl : Nat → List Hd} {f : Nat} (hf : f < 64) (h : fl f ≠ []) : fl (longK fl 64) ≠ [] := by
  intro e
  have h1 := longK_max fl 64 f hf
  rw [e] at h1
  exact h (List.eq_nil_of_length_eq_zero (by simpa using h1))
theorem into_some {p : HaC} (hm0 : 1 ≤ p.many) (hm1 : p.many ≤ 64) (s : HaS) (x : Hd) : (intoH p s x).fl (longK (intoH p s x).fl 64) ≠ [] := by
  have hw := whereN_bd hm0 x.f
  refine long_some (f := (whereN p x.f).toNat) (by omega) ?_
  show updF s.fl (whereN p x.f).toNat (s.fl (whereN p x.f).toNat ++ [x]) (whereN p x.f).toNat ≠ []
  rw [updF_same]
  simp
theorem putH_keeps {p : HaC} (hm0 : 1 ≤ p.many) (hm1 : p.many ≤ 64) (s : HaS) (x : Hd) : (allF s.fl 64 ++ [x]).Perm ((putH p s x).2 ++ allF (putH p s x).1.fl 64) := by
  unfold putH
  split
  · exact into_keeps hm0 hm1 s x
  · exact (into_keeps hm0 hm1 s x).trans (cut_keeps (into_some hm0 hm1 s x))
theorem takeH_fl (s : HaS) : ((takeH s).2.2.2 = false ∧ (takeH s).1.fl = s.fl ∧ (takeH s).2.1 = []) ∨ ∃ f x L, f < 64 ∧ s.fl f = x :: L ∧ (takeH s).1.fl = updF s.fl f L ∧ (takeH s).2 = ([], x, true) := by
  unfold takeH
  cases ht : s.tn with
  | nil => exact Or.inl ⟨rfl, rfl, rfl⟩
  | cons m B =>
    simp only
    cases hL : s.fl m.toNat with
    | nil => exact Or.inl ⟨rfl, rfl, rfl⟩
    | cons x L =>
      simp only
      split
      · rename_i hm
        exact Or.inr ⟨m.toNat, x, L, hm, hL, rfl, rfl⟩
      · exact Or.inl ⟨rfl, rfl, rfl⟩
end Go.Proofs.YtfakjedolecdcaaGreatDoor
namespace Go.Proofs.YtfakjedolecdcaaGreatDoor
open Go.RowKit Go.Extern.Stop Go.Stop Go.Extern

theorem mHaP (a : Addr) (W : World) : (Go.method 395 122 (.pointer (some a)) "Put").run Tryz.prog W = .ok (162, .pointer (some a)) W := by kernel_rfl
theorem mHaT (a : Addr) (W : World) : (Go.method 395 122 (.pointer (some a)) "Take").run Tryz.prog W = .ok (163, .pointer (some a)) W := by kernel_rfl
theorem mHaW (a : Addr) (W : World) : (Go.method 395 122 (.pointer (some a)) "When").run Tryz.prog W = .ok (164, .pointer (some a)) W := by kernel_rfl
theorem mHaL (a : Addr) (W : World) : (Go.method 395 122 (.pointer (some a)) "Len").run Tryz.prog W = .ok (161, .pointer (some a)) W := by kernel_rfl
theorem mHaB (a : Addr) (W : World) : (Go.method 395 122 (.pointer (some a)) "Bytes").run Tryz.prog W = .ok (160, .pointer (some a)) W := by kernel_rfl
theorem eHaP (args : Array Value) (W : World) : (callFunc 162 args).run Tryz.prog W = .ok (.enter 162 args) W := enters_of Tryz.func162 (by kernel_rfl) rfl args W
theorem eHaT (args : Array Value) (W : World) : (callFunc 163 args).run Tryz.prog W = .ok (.enter 163 args) W := enters_of Tryz.func163 (by kernel_rfl) rfl args W
theorem eHaW (args : Array Value) (W : World) : (callFunc 164 args).run Tryz.prog W = .ok (.enter 164 args) W := enters_of Tryz.func164 (by kernel_rfl) rfl args W
theorem eHaL (args : Array Value) (W : World) : (callFunc 161 args).run Tryz.prog W = .ok (.enter 161 args) W := enters_of Tryz.func161 (by kernel_rfl) rfl args W
theorem eHaB (args : Array Value) (W : World) : (callFunc 160 args).run Tryz.prog W = .ok (.enter 160 args) W := enters_of Tryz.func160 (by kernel_rfl) rfl args W
/-- Each list's numbers go up, and are below n. -/
def SH (n : Nat) (s : HaS) : Prop := ∀ f, f < 64 → ((s.fl f).map Hd.n).Pairwise (· < ·) ∧ ∀ x ∈ s.fl f, 0 ≤ x.n ∧ x.n < (n : Int)
theorem SH.less {n : Nat} {s s' : HaS} (h : SH n s) {f : Nat} {L : List Hd} (hs : s'.fl = updF s.fl f L) (hL : L.Sublist (s.fl f)) : SH n s' := by
  intro g hg
  rw [hs]
  by_cases e : g = f
  · subst e; rw [updF_same]
    exact ⟨(h g hg).1.sublist (hL.map _), fun x hx => (h g hg).2 x (hL.subset hx)⟩
  · rw [updF_ne e]; exact h g hg
theorem SH.into {n : Nat} {p : HaC} {s : HaS} {x : Hd} (h : SH n s) (hx : x.n = (n : Int)) : SH (n + 1) (intoH p s x) := by
  have hw : SH (n + 1) s := fun f hf => ⟨(h f hf).1, fun y hy => by have := (h f hf).2 y hy; omega⟩
  intro f hf
  show ((updF s.fl (whereN p x.f).toNat (s.fl (whereN p x.f).toNat ++ [x]) f).map Hd.n).Pairwise (· < ·) ∧ ∀ y ∈ updF s.fl (whereN p x.f).toNat (s.fl (whereN p x.f).toNat ++ [x]) f, 0 ≤ y.n ∧ y.n < ((n + 1 : Nat) : Int)
  by_cases e : f = (whereN p x.f).toNat
  · rw [e, updF_same, ← e]
    refine ⟨?_, fun y hy => ?_⟩
    · rw [List.map_append, List.pairwise_append]
      refine ⟨(h _ hf).1, by simp, fun a ha b hb => ?_⟩
      obtain ⟨y, hy, rfl⟩ := List.mem_map.1 ha
      simp at hb
      subst hb
      have := (h _ hf).2 y hy
      omega
    · rcases List.mem_append.1 hy with h1 | h1
      · have := (h _ hf).2 y h1; omega
      · simp at h1; subst h1; omega
  · rw [updF_ne e]; exact hw f hf
/-- A Hashed in block b. -/
def HashM (b : Nat) (p : HaC) : QM where
  σ := HaS
  ty := 122
  rv := .pointer (some ⟨b, 0, none⟩)
  fP := 162
  fT := 163
  fW := 164
  fL := 161
  fB := 160
  rP := .pointer (some ⟨b, 0, none⟩)
  rT := .pointer (some ⟨b, 0, none⟩)
  rW := .pointer (some ⟨b, 0, none⟩)
  rL := .pointer (some ⟨b, 0, none⟩)
  rB := .pointer (some ⟨b, 0, none⟩)
  At := fun w F s => ∃ C vs tv, HaP w b p C vs tv s ∧ ∀ k, F k ↔ HaF b vs tv k
  put := fun s _ x => putH p s x
  take := fun s _ => takeH s
  when := fun s now => (s, now, !s.tn.isEmpty)
  len := fun s => (allF s.fl 64).length
  bytes := fun s => sumL (allF s.fl 64)
  inv := fun _ n s => HaI p s ∧ (allF s.fl 64).length ≤ n ∧ SH n s
end Go.Proofs.YtfakjedolecdcaaGreatDoor
namespace Go.Proofs.YtfakjedolecdcaaGreatDoor
open Go.RowKit Go.Extern.Stop Go.Stop Go.Extern

theorem nodup64 {l : List Int} (h : ∀ m ∈ l, 0 ≤ m ∧ m < 64) (hn : l.Nodup) : l.length ≤ 64 := by
  have h1 : (l.map Int.toNat).Nodup := by
    rw [List.nodup_iff_pairwise_ne, List.pairwise_map]
    refine List.Pairwise.imp_of_mem ?_ hn
    intro a b ha hb hab e
    have := h a ha
    have := h b hb
    omega
  have h3 := nodup_lt 64 _ h1 (fun x hx => by
    obtain ⟨m, hm, rfl⟩ := List.mem_map.1 hx
    have := h m hm
    omega)
  simpa using h3
theorem HaI.fitA {p : HaC} {s : HaS} {n : Nat} (h : HaI p s) (hn : (allF s.fl 64).length ≤ n) (hn1 : n ≤ 1001) : Fit (allF s.fl 64) := by
  refine ⟨by omega, fun x hx => ?_⟩
  obtain ⟨f, hf, hx⟩ := allF_mem hx
  have := ok_len (h.ok f hf x hx).1
  omega
theorem HaI.fit {p : HaC} {s : HaS} {n : Nat} (h : HaI p s) (hn : (allF s.fl 64).length ≤ n) (hn1 : n ≤ 1001) {f : Nat} (hf : f < 64) : Fit (s.fl f) := by
  have h1 := allF_len (fl := s.fl) hf
  exact ⟨by omega, fun x hx => by have := ok_len (h.ok f hf x hx).1; omega⟩
theorem takeH_keeps (s : HaS) : (allF s.fl 64).Perm ((takeH s).2.1 ++ (if (takeH s).2.2.2 then [(takeH s).2.2.1] else []) ++ allF (takeH s).1.fl 64) := by
  rcases takeH_fl s with ⟨h1, h2, h3⟩ | ⟨f, x, L, hf, hL, h2, h3⟩
  · rw [h1, h2, h3]; exact List.Perm.refl _
  · rw [h2, h3]
    obtain ⟨R, k1, k2⟩ := allF_split (fl := s.fl) hf L
    rw [hL] at k1
    show (allF s.fl 64).Perm ([] ++ [x] ++ allF (updF s.fl f L) 64)
    exact k1.trans (List.Perm.cons x k2.symm)
theorem HaI.put {p : HaC} {s : HaS} {x : Hd} (h : HaI p s) (hm0 : 1 ≤ p.many) (hm1 : p.many ≤ 64) (hok : x.ok = true) : HaI p (putH p s x).1 := by
  unfold putH
  split
  · exact h.into hm0 hm1 hok
  · exact (h.into hm0 hm1 hok).cut (into_some hm0 hm1 s x)
theorem SH.put {n : Nat} {p : HaC} {s : HaS} {x : Hd} (h : SH n s) (hx : x.n = (n : Int)) : SH (n + 1) (putH p s x).1 := by
  unfold putH
  split
  · exact h.into hx
  · exact SH.less (h.into hx) (s' := (cutH (intoH p s x)).1) rfl (List.dropLast_sublist _)
theorem SH.take {n : Nat} {s : HaS} (h : SH n s) : SH n (takeH s).1 := by
  rcases takeH_fl s with ⟨_, h2, _⟩ | ⟨f, x, L, hf, hL, h2, _⟩
  · intro g hg; rw [h2]; exact h g hg
  · exact h.less h2 (by rw [hL]; exact List.sublist_cons_self _ _)
theorem hashM_fine (b : Nat) (p : HaC) (hm0 : 1 ≤ p.many) (hm1 : p.many ≤ 64) (hs0 : 0 ≤ p.salt) (hs1 : p.salt ≤ 1000000) : (HashM b p).Fine where
  kept := by
    rintro w w' F s ⟨C, vs, tv, h, hF⟩ hk
    exact ⟨C, vs, tv, h.kept (fun k hk' => hk k ((hF k).2 hk')), hF⟩
  low := by
    rintro w F s ⟨C, vs, tv, h, hF⟩ k hk
    exact h.low ((hF k).1 hk)
  mP := mHaP ⟨b, 0, none⟩
  mT := mHaT ⟨b, 0, none⟩
  mW := mHaW ⟨b, 0, none⟩
  mL := mHaL ⟨b, 0, none⟩
  mB := mHaB ⟨b, 0, none⟩
  eP := eHaP
  eT := eHaT
  eW := eHaW
  eL := eHaL
  eB := eHaB
  cP := by
    rintro w F (s : HaS) t n now x ⟨C, vs, tv, h, hF⟩ hI ht0 ht1 ht2 hok hxa hxn hn
    have hfl := ok_flow hok
    have hw := whereN_bd hm0 x.f
    have hIn := hI.1.into hm0 hm1 hok
    have hlen : (allF (intoH p s x).fl 64).length ≤ n + 1 := by
      have h1 := (into_keeps hm0 hm1 s x).length_eq
      have h2 := hI.2.1
      simp only [List.length_append, List.length_cons, List.length_nil] at h1
      omega
    have hso := into_some hm0 hm1 s x
    have hFk : Fit (s.fl (whereN p x.f).toNat ++ [x]) := by
      have h1 := hIn.fit hlen (by omega) (f := (whereN p x.f).toNat) (by omega)
      have e : (intoH p s x).fl (whereN p x.f).toNat = s.fl (whereN p x.f).toNat ++ [x] := updF_same _ _ _
      rw [e] at h1
      exact h1
    have h64 := nodup64 hI.1.tin hI.1.tnd
    refine (hput_any now x w h hm0 hm1 hs0 hs1 hfl.1 (by omega) (by omega) hFk (hIn.fitA hlen (by omega)) hso ((hIn.tfl _ (longK_lt _ 64 (by decide))).2 hso) hIn.tnd (fun f hf => hIn.fit hlen (by omega) hf)).mono ?_
    rintro e w' ⟨u, C', vs', tv', rfl, hu, hnu, hT⟩
    exact ⟨u, HaF b vs' tv', rfl, hu, ⟨C', vs', tv', hT.pos, fun k => Iff.rfl⟩, fun k hk => by rcases hT.own k hk with h1 | h1; exact Or.inl ((hF k).2 h1); exact Or.inr h1, fun k hk => Or.inr (hnu k hk), hT.ot.mono (fun k _ h1 => (hF k).2 h1)⟩
  iP := by
    intro (s : HaS) t n now x hI ht0 ht1 ht2 hok hxa hxn hn
    have h2 := hI.2.1
    have h3 := (putH_keeps hm0 hm1 s x).length_eq
    simp only [List.length_append, List.length_cons, List.length_nil] at h3
    refine ⟨⟨hI.1.put hm0 hm1 hok, ?_, hI.2.2.put hxn⟩, ?_⟩
    · show (allF (putH p s x).1.fl 64).length ≤ n + 1
      omega
    · show (putH p s x).2.length ≤ _
      omega
  cT := by
    rintro w F (s : HaS) t n now ⟨C, vs, tv, h, hF⟩ hI ht0 ht1 ht2 hn
    have h64 := nodup64 hI.1.tin hI.1.tnd
    refine (htake_any now w h (fun m hm => ?_) hI.1.tnd (by omega) (fun f hf => hI.1.fit hI.2.1 (by omega) hf)).mono ?_
    · have h1 := hI.1.tin m hm
      refine ⟨h1.1, h1.2, (hI.1.tfl m.toNat (by omega)).1 ?_⟩
      rw [Int.toNat_of_nonneg h1.1]
      exact hm
    rintro e w' ⟨rfl, C', vs', tv', hT⟩
    have hl : (takeH s).2.1 = [] := by
      rcases takeH_fl s with ⟨_, _, h3⟩ | ⟨_, _, _, _, _, _, h3⟩
      · exact h3
      · rw [h3]
    refine ⟨.slice none 0 0, HaF b vs' tv', rfl, ?_, ⟨C', vs', tv', hT.pos, fun k => Iff.rfl⟩, fun k hk => by rcases hT.own k hk with h1 | h1; exact Or.inl ((hF k).2 h1); exact Or.inr h1, fun k hk => by simp [Value.ownBlock] at hk, hT.ot.mono (fun k _ h1 => (hF k).2 h1)⟩
    show Hs w' _ (takeH s).2.1
    rw [hl]
    exact Hs.nil _
  iT := by
    intro (s : HaS) t n now hI ht0 ht1 ht2 hn
    have h2 := hI.2.1
    have h3 := (takeH_keeps s).length_eq
    rw [List.length_append, List.length_append] at h3
    refine ⟨⟨hI.1.take, ?_, hI.2.2.take⟩, ?_⟩
    · show (allF (takeH s).1.fl 64).length ≤ n
      omega
    · show (takeH s).2.1.length ≤ _
      omega
  cW := by
    rintro w F (s : HaS) t n now ⟨C, vs, tv, h, hF⟩ hI ht0 ht1 ht2 hn
    refine (hwhen_any now w h).mono ?_
    rintro e w' ⟨rfl, rfl⟩
    exact ⟨F, rfl, ⟨C, vs, tv, h, hF⟩, fun k hk => Or.inl hk, Ot.refl _ _⟩
  iW := by
    intro (s : HaS) t n now hI ht0 ht1 ht2 hn
    exact hI
  cL := by
    rintro w F (s : HaS) t n ⟨C, vs, tv, h, hF⟩ hI hn
    exact (hlen_any w h (hI.1.fitA hI.2.1 hn)).mono (by rintro e w' ⟨rfl, rfl⟩; exact ⟨rfl, Below.refl _ _⟩)
  cB := by
    rintro w F (s : HaS) t n ⟨C, vs, tv, h, hF⟩ hI hn
    exact (hbts_any w h (hI.1.fitA hI.2.1 hn)).mono (by rintro e w' ⟨rfl, rfl⟩; exact ⟨rfl, Below.refl _ _⟩)
end Go.Proofs.YtfakjedolecdcaaGreatDoor
namespace Go.Proofs.YtfakjedolecdcaaGreatDoor

theorem hash_keeps (b : Nat) (p : HaC) (hm0 : 1 ≤ p.many) (hm1 : p.many ≤ 64) : (HashM b p).Keeps (fun s => allF s.fl 64) where
  put := fun s _ x => putH_keeps hm0 hm1 s x
  take := fun s _ => takeH_keeps s
  when := fun _ _ => List.Perm.refl _
  len := fun _ => rfl
  bytes := fun _ => rfl
end Go.Proofs.YtfakjedolecdcaaGreatDoor
