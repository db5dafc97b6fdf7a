/-
  fair.Rounds: as long as some flows always have something to send, what they sent, each by its quantum, stays near (Shreedhar and Varghese). Mathematics alone.
-/
import Derived.Test.YtddikjhpacdciaaFn
namespace Go.Proofs.Ytddikjhpacdciaa
open Go.RowKit Go.Extern.Stop Go.Stop Go.Extern

/-- What the one whose turn it is has got for this turn. -/
def exV (q : Nat → Int) (s : RnS) (f : Nat) : Int := if s.bg = true ∧ s.tn.head? = some (f : Int) then q f else 0
theorem exV_off {q : Nat → Int} {s : RnS} {f : Nat} (h : s.bg = false) : exV q s f = 0 := by unfold exV; rw [if_neg (fun e => by rw [h] at e; cases e.1)]
theorem exV_head {q : Nat → Int} {s : RnS} {f : Nat} {B : List Int} (h : s.bg = true) (ht : s.tn = (f : Int) :: B) : exV q s f = q f := by unfold exV; rw [if_pos ⟨h, by rw [ht]; rfl⟩]
theorem exV_other {q : Nat → Int} {s : RnS} {f g : Nat} {B : List Int} (ht : s.tn = (f : Int) :: B) (hg : g ≠ f) : exV q s g = 0 := by
  unfold exV
  rw [if_neg]
  rintro ⟨_, e⟩
  rw [ht] at e
  simp at e
  omega
/-- All of k flows have something to send, none longer than Lm; S: what they sent. -/
structure VI (k : Nat) (Lm : Int) (q : Nat → Int) (S : Nat → Int) (s : RnS) : Prop where
  inv : RnI q s
  k16 : k ≤ 16
  tk : ∀ m ∈ s.tn, m < (k : Int)
  all : ∀ f, f < k → s.fl f ≠ []
  len : ∀ f, f < k → ∀ x ∈ s.fl f, x.l ≤ Lm
  turns : ∃ (U : Nat → Int) (t : Int) (A B : List Int), s.tn = A ++ B ∧ A ≠ [] ∧ (∀ m ∈ A, U m.toNat = t) ∧ (∀ m ∈ B, U m.toNat = t + 1) ∧ ∀ f, f < k → S f + s.cr f = U f * q f + exV q s f ∧ s.cr f < Lm + exV q s f
theorem VI.begin {k : Nat} {Lm : Int} {q S : Nat → Int} {s : RnS} (h : VI k Lm q S s) {f : Nat} {B : List Int} (hf : f < 16) (ht : s.tn = (f : Int) :: B) : VI k Lm q S (beginS q s f) := by
  have hI := h.inv.begin hf ht
  obtain ⟨e1, e2, e3⟩ := beginS_fl q s f
  cases hb : s.bg with
  | true =>
    have e : beginS q s f = s := by unfold beginS; rw [if_pos hb]
    rw [e]; exact h
  | false =>
    obtain ⟨U, t, A, B', h1, h2, h3, h4, h5⟩ := h.turns
    refine ⟨hI, h.k16, by rw [e2]; exact h.tk, by rw [e1]; exact h.all, by rw [e1]; exact h.len, U, t, A, B', by rw [e2]; exact h1, h2, h3, h4, fun g hg => ?_⟩
    obtain ⟨a1, a2⟩ := h5 g hg
    rw [exV_off hb] at a1 a2
    by_cases e : g = f
    · subst e
      have hc : (beginS q s g).cr g = s.cr g + q g := by unfold beginS; rw [if_neg (by rw [hb]; simp)]; exact updF_same _ _ _
      rw [exV_head (s := beginS q s g) e3 (by rw [e2]; exact ht), hc]
      omega
    · rw [exV_other (s := beginS q s f) (by rw [e2]; exact ht) e, beginS_cr e]
      exact ⟨a1, a2⟩
theorem VI.pass {k : Nat} {Lm : Int} {q S : Nat → Int} {s : RnS} (h : VI k Lm q S s) {f : Nat} {B : List Int} (ht : s.tn = (f : Int) :: B) (hb : s.bg = true) (hc : s.cr f < Lm) (hc1 : s.cr f ≤ 10000) : VI k Lm q S (passS s f) := by
  have hI := h.inv.pass ht hc1
  have hB := not_in_tail h.inv ht
  have hmem : ∀ m, m ∈ (passS s f).tn → m ∈ s.tn := by
    intro m hm
    have hm' : m ∈ s.tn.tail ++ [(f : Int)] := hm
    rw [ht] at hm' ⊢
    simpa [or_comm] using hm'
  obtain ⟨U, t, A, B', h1, h2, h3, h4, h5⟩ := h.turns
  have hne : ∀ m ∈ B, m.toNat ≠ f := fun m hm e => hB (by have := h.inv.tin m (by rw [ht]; simp [hm]); have e2 : m = (f : Int) := by omega
                                                          rw [← e2]; exact hm)
  have hsum : ∀ g, g < k → S g + (passS s f).cr g = updF U f (U f + 1) g * q g + exV q (passS s f) g ∧ (passS s f).cr g < Lm + exV q (passS s f) g := by
    intro g hg
    obtain ⟨a1, a2⟩ := h5 g hg
    rw [exV_off (s := passS s f) rfl]
    show S g + s.cr g = _ ∧ s.cr g < Lm + 0
    by_cases e : g = f
    · subst e
      rw [exV_head hb ht] at a1
      rw [updF_same, Int.add_mul]
      omega
    · rw [exV_other ht e] at a1 a2
      rw [updF_ne e]
      omega
  cases A with
  | nil => exact absurd rfl h2
  | cons a A' =>
    rw [ht] at h1
    simp only [List.cons_append, List.cons.injEq] at h1
    obtain ⟨rfl, hBe⟩ := h1
    have htn : (passS s f).tn = A' ++ B' ++ [(f : Int)] := by show s.tn.tail ++ [(f : Int)] = _; rw [ht, List.tail_cons, hBe]
    have hUf : U f = t := by have := h3 (f : Int) (by simp); rwa [Int.toNat_natCast] at this
    have hA' : ∀ m ∈ A', updF U f (U f + 1) m.toNat = t := fun m hm => by rw [updF_ne (hne m (by rw [hBe]; simp [hm]))]; exact h3 m (by simp [hm])
    have hB' : ∀ m ∈ B' ++ [(f : Int)], updF U f (U f + 1) m.toNat = t + 1 := fun m hm => by
      rcases List.mem_append.1 hm with h | h
      · rw [updF_ne (hne m (by rw [hBe]; simp [h]))]; exact h4 m h
      · simp at h; subst h; rw [Int.toNat_natCast, updF_same, hUf]
    refine ⟨hI, h.k16, fun m hm => h.tk m (hmem m hm), h.all, h.len, ?_⟩
    cases A' with
    | nil => exact ⟨updF U f (U f + 1), t + 1, B' ++ [(f : Int)], [], by rw [htn]; simp, by simp, hB', by simp, hsum⟩
    | cons a A2 => exact ⟨updF U f (U f + 1), t, a :: A2, B' ++ [(f : Int)], by rw [htn]; simp, by simp, hA', hB', hsum⟩
theorem VI.send {k : Nat} {Lm : Int} {q S : Nat → Int} {s : RnS} (h : VI k Lm q S s) {f : Nat} {B : List Int} {x : Hd} {L : List Hd} (hf : f < k) (ht : s.tn = (f : Int) :: B) (hb : s.bg = true) (hL : s.fl f = x :: L) (hne : L ≠ []) (hx : x.l ≤ s.cr f) : VI k Lm q (updF S f (S f + x.l)) (sendS s f x L) := by
  have hI := h.inv.send (by have := h.k16; omega) ht hL hx hb
  cases L with
  | nil => exact absurd rfl hne
  | cons y L' =>
    have hxl := ok_len (h.inv.ok f (by have := h.k16; omega) x (by rw [hL]; simp)).1
    obtain ⟨U, t, A, B', h1, h2, h3, h4, h5⟩ := h.turns
    have hex : ∀ g, exV q (sendS s f x (y :: L')) g = exV q s g := fun g => rfl
    refine ⟨hI, h.k16, h.tk, fun g hg => ?_, fun g hg z hz => ?_, U, t, A, B', h1, h2, h3, h4, fun g hg => ?_⟩
    · show updF s.fl f (y :: L') g ≠ []
      by_cases e : g = f
      · subst e; rw [updF_same]; simp
      · rw [updF_ne e]; exact h.all g hg
    · have hz' : z ∈ updF s.fl f (y :: L') g := hz
      by_cases e : g = f
      · subst e; rw [updF_same] at hz'; exact h.len g hg z (by rw [hL]; exact List.mem_cons_of_mem _ hz')
      · rw [updF_ne e] at hz'; exact h.len g hg z hz'
    · rw [hex]
      obtain ⟨a1, a2⟩ := h5 g hg
      show updF S f (S f + x.l) g + updF s.cr f (s.cr f - x.l) g = _ ∧ updF s.cr f (s.cr f - x.l) g < _
      by_cases e : g = f
      · subst e; rw [updF_same, updF_same]; omega
      · rw [updF_ne e, updF_ne e]; exact ⟨a1, a2⟩
theorem VI.take {k : Nat} {Lm : Int} {q S : Nat → Int} : ∀ (n : Nat) (s : RnS), mu s < n → VI k Lm q S s → 0 < k → ∃ f x L, f < k ∧ s.fl f = x :: L ∧ (takeW q s).1.fl = updF s.fl f L ∧ (takeW q s).2 = ([], x, true) ∧ (L ≠ [] → VI k Lm q (updF S f (S f + x.l)) (takeW q s).1) := by
  intro n
  induction n with
  | zero => intro s h; omega
  | succ n ih =>
    intro s hs h hk
    have hm0 : ((0 : Nat) : Int) ∈ s.tn := (h.inv.tfl 0 (by omega)).2 (h.all 0 hk)
    cases ht : s.tn with
    | nil => rw [ht] at hm0; simp at hm0
    | cons m B =>
      have hm := h.inv.tin m (by rw [ht]; simp)
      have hmk := h.tk m (by rw [ht]; simp)
      obtain ⟨f, hf⟩ : ∃ f : Nat, m = f := ⟨m.toNat, by omega⟩
      subst hf
      have hf : f < 16 := by omega
      have hfk : f < k := by omega
      obtain ⟨x, L, hL⟩ : ∃ x L, s.fl f = x :: L := by
        cases hL : s.fl f with
        | nil => exact absurd hL (h.all f hfk)
        | cons x L => exact ⟨x, L, rfl⟩
      obtain ⟨e1, e2, e3⟩ := beginS_fl q s f
      have hB := h.begin hf ht
      have hxl := ok_len (h.inv.ok f hf x (by rw [hL]; simp)).1
      have hxL := h.len f hfk x (by rw [hL]; simp)
      by_cases hx : x.l ≤ (beginS q s f).cr f
      · rw [takeW_send ht hf hL hx]
        refine ⟨f, x, L, hfk, hL, ?_, rfl, fun hne => hB.send hfk (by rw [e2]; exact ht) e3 (by rw [e1]; exact hL) hne hx⟩
        show updF (beginS q s f).fl f L = _
        rw [e1]
      · have hmp := mu_pass h.inv hf ht (by omega)
        rw [takeW_pass ht hL hx hmp]
        have h2 := ih (passS (beginS q s f) f) (by omega) (hB.pass (by rw [e2]; exact ht) e3 (by omega) (by omega)) hk
        have e : (passS (beginS q s f) f).fl = s.fl := e1
        rw [e] at h2
        exact h2
/-- SHREEDHAR AND VARGHESE. -/
theorem VI.near {k : Nat} {Lm : Int} {q S : Nat → Int} {s : RnS} (h : VI k Lm q S s) {i j : Nat} (hi : i < k) (hj : j < k) : S i * q j - S j * q i < 2 * q i * q j + Lm * (q i + q j) := by
  have hk := h.k16
  obtain ⟨U, t, A, B, h1, h2, h3, h4, h5⟩ := h.turns
  have hU : ∀ f, f < k → U f = t ∨ U f = t + 1 := by
    intro f hf
    have hm : (f : Int) ∈ s.tn := (h.inv.tfl f (by omega)).2 (h.all f hf)
    rw [h1] at hm
    rcases List.mem_append.1 hm with h | h
    · have := h3 _ h; rw [Int.toNat_natCast] at this; exact Or.inl this
    · have := h4 _ h; rw [Int.toNat_natCast] at this; exact Or.inr this
  have hqi := h.inv.qs i (by omega)
  have hqj := h.inv.qs j (by omega)
  have hci := h.inv.cr0 i (by omega)
  have hcj := h.inv.cr0 j (by omega)
  obtain ⟨a1, a2⟩ := h5 i hi
  obtain ⟨b1, b2⟩ := h5 j hj
  have hei : 0 ≤ exV q s i ∧ exV q s i ≤ q i := by unfold exV; split <;> omega
  have hej : 0 ≤ exV q s j := by unfold exV; split <;> omega
  generalize exV q s i = ei at *
  generalize exV q s j = ej at *
  generalize s.cr i = ci at *
  generalize s.cr j = cj at *
  have hLm : 0 ≤ Lm := by
    cases hL : s.fl i with
    | nil => exact absurd hL (h.all i hi)
    | cons x L =>
      have k1 := ok_len (h.inv.ok i (by omega) x (by rw [hL]; simp)).1
      have k2 := h.len i hi x (by rw [hL]; simp)
      omega
  have eSi : S i = U i * q i + ei - ci := by omega
  have eSj : S j = U j * q j + ej - cj := by omega
  rw [eSi, eSj]
  generalize q i = a at *
  generalize q j = b at *
  have hUd : U i - U j ≤ 1 := by rcases hU i hi with h | h <;> rcases hU j hj with h' | h' <;> omega
  have hab : 0 < a * b := Int.mul_pos (by omega) (by omega)
  have p1 : (U i - U j) * (a * b) ≤ 1 * (a * b) := Int.mul_le_mul_of_nonneg_right hUd (Int.le_of_lt hab)
  have p2 : ei * b ≤ a * b := Int.mul_le_mul_of_nonneg_right hei.2 (by omega)
  have p3 : 0 ≤ ci * b := Int.mul_nonneg hci.1 (by omega)
  have p4 : (cj + 1) * a ≤ (Lm + ej) * a := Int.mul_le_mul_of_nonneg_right (by omega) (by omega)
  have p5 : 0 ≤ (Lm + ei) * b := Int.mul_nonneg (by omega) (by omega)
  have x1 : (U i * a + ei - ci) * b = U i * (a * b) + ei * b - ci * b := by rw [Int.sub_mul, Int.add_mul, Int.mul_assoc]
  have x2 : (U j * b + ej - cj) * a = U j * (a * b) + ej * a - cj * a := by rw [Int.sub_mul, Int.add_mul, Int.mul_assoc, Int.mul_comm b a]
  have x3 : 2 * a * b = 2 * (a * b) := Int.mul_assoc _ _ _
  have x4 : Lm * (a + b) = Lm * a + Lm * b := Int.mul_add _ _ _
  rw [x1, x2, x3, x4]
  rw [Int.sub_mul] at p1
  rw [Int.add_mul, Int.add_mul] at p4
  rw [Int.add_mul] at p5
  have p6 : 0 ≤ Lm * b := Int.mul_nonneg hLm (by omega)
  generalize U i * (a * b) = P1 at *
  generalize U j * (a * b) = P2 at *
  generalize a * b = P at *
  generalize ei * b = P3 at *
  generalize ci * b = P4 at *
  generalize cj * a = P5 at *
  generalize Lm * a = P6 at *
  generalize ej * a = P7 at *
  generalize Lm * b = P8 at *
  omega
end Go.Proofs.Ytddikjhpacdciaa
