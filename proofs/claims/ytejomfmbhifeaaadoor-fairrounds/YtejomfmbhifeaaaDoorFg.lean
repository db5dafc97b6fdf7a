/-
  fair.Rounds: what is taken, as a function of what waits; how long it may take. Mathematics alone.
-/
import Derived.Test.YtejomfmbhifeaaaDoorFf
import Derived.Test.YtejomfmbhifeaaaDoorFm
namespace Go.Proofs.YtejomfmbhifeaaaDoor
open Go.RowKit Go.Extern.Stop Go.Stop Go.Extern

/-- It comes behind all others. -/
def passS (s : RnS) (m : Int) : RnS := { s with tn := s.tn.tail ++ [m], bg := false }
def mu (s : RnS) : Nat := (s.tn.map (fun m => 2 * (10001 - s.cr m.toNat).toNat)).sum + (if s.bg then 1 else 0)
def takeW (q : Nat → Int) (s : RnS) : RnS × List Hd × Hd × Bool :=
  match s.tn with
  | [] => (s, [], hd0, false)
  | m :: _ =>
    match s.fl m.toNat with
    | [] => (s, [], hd0, false)
    | x :: L =>
      if x.l ≤ (beginS q s m.toNat).cr m.toNat ∧ m.toNat < 16 then (sendS (beginS q s m.toNat) m.toNat x L, [], x, true)
      else if _h : mu (passS (beginS q s m.toNat) m) < mu s then takeW q (passS (beginS q s m.toNat) m) else (s, [], hd0, false)
termination_by mu s
theorem takeW_nil {q : Nat → Int} {s : RnS} (h : s.tn = []) : takeW q s = (s, [], hd0, false) := by
  rw [takeW]; simp only [h]
theorem takeW_send {q : Nat → Int} {s : RnS} {f : Nat} {B : List Int} {x : Hd} {L : List Hd} (h : s.tn = (f : Int) :: B) (hf : f < 16) (hL : s.fl f = x :: L) (hx : x.l ≤ (beginS q s f).cr f) : takeW q s = (sendS (beginS q s f) f x L, [], x, true) := by
  rw [takeW]
  simp only [h, Int.toNat_natCast, hL]
  rw [if_pos ⟨hx, hf⟩]
theorem takeW_pass {q : Nat → Int} {s : RnS} {f : Nat} {B : List Int} {x : Hd} {L : List Hd} (h : s.tn = (f : Int) :: B) (hL : s.fl f = x :: L) (hx : ¬ x.l ≤ (beginS q s f).cr f) (hm : mu (passS (beginS q s f) f) < mu s) : takeW q s = takeW q (passS (beginS q s f) f) := by
  rw [takeW]
  simp only [h, Int.toNat_natCast, hL]
  rw [if_neg (fun e => hx e.1), dif_pos hm]
/-- What holds of Rounds. -/
structure RnI (q : Nat → Int) (s : RnS) : Prop where
  tin : ∀ m ∈ s.tn, 0 ≤ m ∧ m < 16
  tnd : s.tn.Nodup
  tfl : ∀ f : Nat, f < 16 → ((f : Int) ∈ s.tn ↔ s.fl f ≠ [])
  len : ∀ f, f < 16 → (s.fl f).length ≤ 1001
  ok : ∀ f, f < 16 → ∀ x ∈ s.fl f, x.ok = true ∧ x.f = (f : Int)
  cr0 : ∀ f, f < 16 → 0 ≤ s.cr f ∧ s.cr f ≤ 1010000
  crt : ∀ m ∈ s.tn, (s.bg = false ∨ s.tn.head? ≠ some m) → s.cr m.toNat ≤ 10000
  qs : ∀ f, f < 16 → 1 ≤ q f ∧ q f ≤ 1000000
theorem nodup_lt : ∀ (n : Nat) (l : List Nat), l.Nodup → (∀ x ∈ l, x < n) → l.length ≤ n := by
  intro n
  induction n with
  | zero =>
    intro l _ h
    cases l with
    | nil => exact Nat.le_refl _
    | cons a l => have := h a (by simp); omega
  | succ n ih =>
    intro l hn h
    by_cases hm : n ∈ l
    · have h1 := ih (l.erase n) (hn.erase n) (fun x hx => by
        have h2 := h x (List.mem_of_mem_erase hx)
        have h3 : x ≠ n := fun e => hn.not_mem_erase (e ▸ hx)
        omega)
      rw [List.length_erase_of_mem hm] at h1
      omega
    · have h1 := ih l hn (fun x hx => by
        have h2 := h x hx
        have h3 : x ≠ n := fun e => hm (e ▸ hx)
        omega)
      omega
theorem nodup_le {l : List Int} (h : ∀ m ∈ l, 0 ≤ m ∧ m < 16) (hn : l.Nodup) : l.length ≤ 16 := by
  have h1 : (l.map Int.toNat).Nodup := by
    rw [List.nodup_iff_pairwise_ne, List.pairwise_map]
    refine List.Pairwise.imp_of_mem ?_ hn
    intro a b ha hb hab e
    have := h a ha
    have := h b hb
    omega
  have h3 := nodup_lt 16 _ h1 (fun x hx => by
    obtain ⟨m, hm, rfl⟩ := List.mem_map.1 hx
    have := h m hm
    omega)
  simpa using h3
theorem RnI.few {q : Nat → Int} {s : RnS} (h : RnI q s) : s.tn.length ≤ 1000 := Nat.le_trans (nodup_le h.tin h.tnd) (by omega)
theorem RnI.fit {q : Nat → Int} {s : RnS} (h : RnI q s) {f : Nat} (hf : f < 16) : Fit (s.fl f) := ⟨by have := h.len f hf; omega, fun x hx => by have := ok_len (h.ok f hf x hx).1; omega⟩
theorem beginS_fl (q : Nat → Int) (s : RnS) (f : Nat) : (beginS q s f).fl = s.fl ∧ (beginS q s f).tn = s.tn ∧ (beginS q s f).bg = true := by
  unfold beginS
  split
  · rename_i h; exact ⟨rfl, rfl, h⟩
  · exact ⟨rfl, rfl, rfl⟩
theorem beginS_cr {q : Nat → Int} {s : RnS} {f g : Nat} (h : g ≠ f) : (beginS q s f).cr g = s.cr g := by
  unfold beginS
  split
  · rfl
  · exact updF_ne h
theorem beginS_cr0 {q : Nat → Int} {s : RnS} {f : Nat} {B : List Int} (h : RnI q s) (hf : f < 16) (ht : s.tn = (f : Int) :: B) : 0 ≤ (beginS q s f).cr f ∧ (beginS q s f).cr f ≤ 1010000 := by
  have h1 := h.cr0 f hf
  have h2 := h.qs f hf
  unfold beginS
  cases hb : s.bg with
  | true => simpa using h1
  | false =>
    have h3 := h.crt (f : Int) (by rw [ht]; simp) (Or.inl hb)
    rw [Int.toNat_natCast] at h3
    simp only [Bool.false_eq_true, if_false, updF_same]
    omega
theorem not_in_tail {q : Nat → Int} {s : RnS} {m : Int} {B : List Int} (h : RnI q s) (ht : s.tn = m :: B) : m ∉ B := by
  have := h.tnd
  rw [ht, List.nodup_cons] at this
  exact this.1
theorem RnI.begin {q : Nat → Int} {s : RnS} {f : Nat} {B : List Int} (h : RnI q s) (hf : f < 16) (ht : s.tn = (f : Int) :: B) : RnI q (beginS q s f) := by
  obtain ⟨e1, e2, e3⟩ := beginS_fl q s f
  refine ⟨by rw [e2]; exact h.tin, by rw [e2]; exact h.tnd, by rw [e2, e1]; exact h.tfl, by rw [e1]; exact h.len, by rw [e1]; exact h.ok, fun g hg => ?_, fun m hm hd => ?_, h.qs⟩
  · by_cases e : g = f
    · subst e; exact beginS_cr0 h hg ht
    · rw [beginS_cr e]; exact h.cr0 g hg
  · rw [e2] at hm hd
    rw [e3, ht] at hd
    have hmf : m ≠ (f : Int) := by
      rcases hd with hd | hd
      · cases hd
      · intro e; exact hd (by simp [e])
    have hm0 := h.tin m hm
    rw [beginS_cr (by omega)]
    exact h.crt m hm (Or.inr (by rw [ht]; simp; exact fun e => hmf e.symm))
theorem RnI.pass {q : Nat → Int} {s : RnS} {f : Nat} {B : List Int} (h : RnI q s) (ht : s.tn = (f : Int) :: B) (hc : s.cr f ≤ 10000) : RnI q (passS s f) := by
  have hB := not_in_tail h ht
  have hmem : ∀ m, m ∈ (passS s f).tn ↔ m ∈ s.tn := by
    intro m
    show m ∈ s.tn.tail ++ [(f : Int)] ↔ _
    rw [ht]
    simp [or_comm]
  refine ⟨fun m hm => h.tin m ((hmem m).1 hm), ?_, fun g hg => by rw [hmem]; exact h.tfl g hg, h.len, h.ok, h.cr0, fun m hm _ => ?_, h.qs⟩
  · show (s.tn.tail ++ [(f : Int)]).Nodup
    have := h.tnd
    rw [ht, List.nodup_cons] at this
    rw [ht, List.tail_cons, List.nodup_append]
    exact ⟨this.2, by simp, fun a ha b hb e => by simp at hb; subst hb; subst e; exact hB ha⟩
  · have hm' := (hmem m).1 hm
    show s.cr m.toNat ≤ 10000
    by_cases e : m = (f : Int)
    · subst e; rw [Int.toNat_natCast]; exact hc
    · exact h.crt m hm' (Or.inr (by rw [ht]; simp; exact fun e' => e e'.symm))
theorem RnI.send {q : Nat → Int} {s : RnS} {f : Nat} {B : List Int} {x : Hd} {L : List Hd} (h : RnI q s) (hf : f < 16) (ht : s.tn = (f : Int) :: B) (hL : s.fl f = x :: L) (hx : x.l ≤ s.cr f) (hbg : s.bg = true) : RnI q (sendS s f x L) := by
  have hB := not_in_tail h ht
  have hxl := ok_len (h.ok f hf x (by rw [hL]; simp)).1
  have hcr := h.cr0 f hf
  have hnd := h.tnd
  rw [ht, List.nodup_cons] at hnd
  have hcr' : ∀ g, g < 16 → 0 ≤ (sendS s f x L).cr g ∧ (sendS s f x L).cr g ≤ 1010000 := by
    intro g hg
    show 0 ≤ updF s.cr f (s.cr f - x.l) g ∧ updF s.cr f (s.cr f - x.l) g ≤ 1010000
    by_cases e : g = f
    · subst e; rw [updF_same]; omega
    · rw [updF_ne e]; exact h.cr0 g hg
  have hlen' : ∀ g, g < 16 → ((sendS s f x L).fl g).length ≤ 1001 := by
    intro g hg
    show (updF s.fl f L g).length ≤ 1001
    by_cases e : g = f
    · subst e; rw [updF_same]; have := h.len g hg; rw [hL] at this; simp at this; omega
    · rw [updF_ne e]; exact h.len g hg
  have hok' : ∀ g, g < 16 → ∀ y ∈ (sendS s f x L).fl g, y.ok = true ∧ y.f = (g : Int) := by
    intro g hg y hy
    have hy' : y ∈ updF s.fl f L g := hy
    by_cases e : g = f
    · subst e; rw [updF_same] at hy'; exact h.ok g hg y (by rw [hL]; simp [hy'])
    · rw [updF_ne e] at hy'; exact h.ok g hg y hy'
  cases L with
  | nil =>
    have e1 : (sendS s f x []).tn = B := by show s.tn.tail = _; rw [ht]; rfl
    refine ⟨fun m hm => h.tin m (by rw [e1] at hm; rw [ht]; simp [hm]), by rw [e1]; exact hnd.2, fun g hg => ?_, hlen', hok', hcr', fun m hm _ => ?_, h.qs⟩
    · rw [e1]
      show _ ↔ updF s.fl f [] g ≠ []
      by_cases e : g = f
      · subst e; rw [updF_same]; simp [hB]
      · rw [updF_ne e, ← h.tfl g hg, ht]
        simp; omega
    · rw [e1] at hm
      have hmf : m ≠ (f : Int) := fun e => hB (e ▸ hm)
      have hm0 := h.tin m (by rw [ht]; simp [hm])
      show updF s.cr f (s.cr f - x.l) m.toNat ≤ 10000
      rw [updF_ne (by omega)]
      exact h.crt m (by rw [ht]; simp [hm]) (Or.inr (by rw [ht]; simp; exact fun e => hmf e.symm))
  | cons y L' =>
    have e1 : (sendS s f x (y :: L')).tn = s.tn := rfl
    have e2 : (sendS s f x (y :: L')).bg = true := hbg
    refine ⟨by rw [e1]; exact h.tin, by rw [e1]; exact h.tnd, fun g hg => ?_, hlen', hok', hcr', fun m hm hd => ?_, h.qs⟩
    · rw [e1]
      show _ ↔ updF s.fl f (y :: L') g ≠ []
      by_cases e : g = f
      · subst e; rw [updF_same, ht]; simp
      · rw [updF_ne e]; exact h.tfl g hg
    · rw [e1] at hm hd
      rw [e2] at hd
      have hmf : m ≠ (f : Int) := by
        rcases hd with hd | hd
        · cases hd
        · intro e; exact hd (by rw [ht]; simp [e])
      have hm0 := h.tin m hm
      show updF s.cr f (s.cr f - x.l) m.toNat ≤ 10000
      rw [updF_ne (by omega)]
      exact h.crt m hm (Or.inr (by rw [ht]; simp; exact fun e => hmf e.symm))
theorem mu_pass {q : Nat → Int} {s : RnS} {f : Nat} {B : List Int} (h : RnI q s) (hf : f < 16) (ht : s.tn = (f : Int) :: B) (hx : (beginS q s f).cr f < 10000) : mu (passS (beginS q s f) f) < mu s := by
  obtain ⟨e1, e2, e3⟩ := beginS_fl q s f
  have hB := not_in_tail h ht
  have hq := h.qs f hf
  have hsame : B.map (fun m => 2 * (10001 - (beginS q s f).cr m.toNat).toNat) = B.map (fun m => 2 * (10001 - s.cr m.toNat).toNat) := by
    refine List.map_congr_left (fun m hm => ?_)
    have hm0 := h.tin m (by rw [ht]; simp [hm])
    have hmf : m ≠ (f : Int) := fun e => hB (e ▸ hm)
    rw [beginS_cr (by omega)]
  have e4 : (passS (beginS q s f) f).tn = B ++ [(f : Int)] := by show (beginS q s f).tn.tail ++ _ = _; rw [e2, ht]; rfl
  have e5 : mu (passS (beginS q s f) f) = (B.map (fun m => 2 * (10001 - s.cr m.toNat).toNat)).sum + 2 * (10001 - (beginS q s f).cr f).toNat := by
    unfold mu
    rw [e4, List.map_append, List.sum_append]
    show (B.map (fun m => 2 * (10001 - (beginS q s f).cr m.toNat).toNat)).sum + _ + 0 = _
    rw [hsame]
    simp
    rfl
  rw [e5]
  unfold mu
  rw [ht, List.map_cons, List.sum_cons, Int.toNat_natCast]
  unfold beginS at hx ⊢
  cases hb : s.bg with
  | true =>
    rw [hb] at hx
    simp only [if_true] at hx ⊢
    omega
  | false =>
    rw [hb] at hx
    simp only [Bool.false_eq_true, if_false, updF_same] at hx ⊢
    omega
end Go.Proofs.YtejomfmbhifeaaaDoor
