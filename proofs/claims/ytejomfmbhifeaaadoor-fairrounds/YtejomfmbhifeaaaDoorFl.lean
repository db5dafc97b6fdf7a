/-
  fair.Rounds: what Put and Take leave keeps what holds of them; nothing is lost but what is told; each flow keeps its order. Mathematics alone.
-/
import Derived.Test.YtejomfmbhifeaaaDoorFk
namespace Go.Proofs.YtejomfmbhifeaaaDoor
open Go.RowKit Go.Extern.Stop Go.Stop Go.Extern

theorem RnI.put {q : Nat → Int} {room : Int} {s : RnS} {x : Hd} (h : RnI q s) (hlen : (s.fl x.f.toNat).length ≤ 1000) : RnI q (putW room s x).1 := by
  unfold putW
  split
  · rename_i hc
    have hfl := ok_flow hc.1
    obtain ⟨f, hf⟩ : ∃ f : Nat, x.f = f := ⟨x.f.toNat, by omega⟩
    have hf16 : f < 16 := by omega
    have ht : x.f.toNat = f := by omega
    rw [ht] at hlen ⊢
    have hlen' : ∀ g, g < 16 → (updF s.fl f (s.fl f ++ [x]) g).length ≤ 1001 := by
      intro g hg
      by_cases e : g = f
      · subst e; rw [updF_same]; simp; omega
      · rw [updF_ne e]; exact h.len g hg
    have hok' : ∀ g, g < 16 → ∀ y ∈ updF s.fl f (s.fl f ++ [x]) g, y.ok = true ∧ y.f = (g : Int) := by
      intro g hg y hy
      by_cases e : g = f
      · subst e
        rw [updF_same] at hy
        rcases List.mem_append.1 hy with h1 | h1
        · exact h.ok g hg y h1
        · simp at h1; subst h1; exact ⟨hc.1, hf⟩
      · rw [updF_ne e] at hy; exact h.ok g hg y hy
    cases he : s.fl f with
    | nil =>
      have hnin : (f : Int) ∉ s.tn := fun hm => (h.tfl f hf16).1 hm he
      simp only [List.isEmpty_nil, if_true, hf]
      rw [he] at hlen' hok'
      refine ⟨fun m hm => ?_, ?_, fun g hg => ?_, hlen', hok', fun g hg => ?_, fun m hm hd => ?_, h.qs⟩
      · rcases List.mem_append.1 hm with h1 | h1
        · exact h.tin m h1
        · simp at h1; omega
      · show (s.tn ++ [(f : Int)]).Nodup
        rw [List.nodup_append]
        exact ⟨h.tnd, by simp, fun a ha b hb e => by simp at hb; subst hb; subst e; exact hnin ha⟩
      · show (g : Int) ∈ s.tn ++ [(f : Int)] ↔ updF s.fl f ([] ++ [x]) g ≠ []
        by_cases e : g = f
        · subst e; rw [updF_same]; simp
        · rw [updF_ne e, ← h.tfl g hg]; simp; omega
      · show 0 ≤ updF s.cr f 0 g ∧ updF s.cr f 0 g ≤ 1010000
        by_cases e : g = f
        · subst e; rw [updF_same]; omega
        · rw [updF_ne e]; exact h.cr0 g hg
      · show updF s.cr f 0 m.toNat ≤ 10000
        rcases List.mem_append.1 hm with h1 | h1
        · have hm0 := h.tin m h1
          have hmf : m ≠ (f : Int) := fun e => hnin (e ▸ h1)
          rw [updF_ne (by omega)]
          refine h.crt m h1 ?_
          rcases hd with hd | hd
          · exact Or.inl hd
          · refine Or.inr (fun e => hd ?_)
            show (s.tn ++ [(f : Int)]).head? = some m
            cases ht : s.tn with
            | nil => rw [ht] at h1; simp at h1
            | cons a l => rw [ht] at e; simpa using e
        · simp at h1
          subst h1
          rw [Int.toNat_natCast, updF_same]; omega
    | cons y L =>
      simp only [List.isEmpty_cons, Bool.false_eq_true, if_false]
      rw [he] at hlen' hok'
      refine ⟨h.tin, h.tnd, fun g hg => ?_, hlen', hok', h.cr0, h.crt, h.qs⟩
      show (g : Int) ∈ s.tn ↔ updF s.fl f (y :: L ++ [x]) g ≠ []
      by_cases e : g = f
      · subst e; rw [updF_same, h.tfl g hg, he]; simp
      · rw [updF_ne e]; exact h.tfl g hg
  · exact h
theorem takeW_fl (q : Nat → Int) : ∀ (n : Nat) (s : RnS), mu s < n → ((takeW q s).2.2.2 = false ∧ (takeW q s).1.fl = s.fl ∧ (takeW q s).2.1 = []) ∨ (∃ f x L, f < 16 ∧ s.fl f = x :: L ∧ (takeW q s).1.fl = updF s.fl f L ∧ (takeW q s).2 = ([], x, true)) := by
  intro n
  induction n with
  | zero => intro s h; omega
  | succ n ih =>
    intro s hs
    rw [takeW]
    cases ht : s.tn with
    | nil => exact Or.inl ⟨rfl, rfl, rfl⟩
    | cons m B =>
      simp only
      cases hL : s.fl m.toNat with
      | nil => exact Or.inl ⟨rfl, rfl, rfl⟩
      | cons x L =>
        simp only
        split
        · rename_i hc
          refine Or.inr ⟨m.toNat, x, L, hc.2, hL, ?_, rfl⟩
          show updF (beginS q s m.toNat).fl m.toNat L = _
          rw [(beginS_fl q s m.toNat).1]
        · split
          · rename_i hm
            have h1 := ih (passS (beginS q s m.toNat) m) (by omega)
            have e : (passS (beginS q s m.toNat) m).fl = s.fl := (beginS_fl q s m.toNat).1
            rw [e] at h1
            exact h1
          · exact Or.inl ⟨rfl, rfl, rfl⟩
theorem RnI.take {q : Nat → Int} : ∀ (n : Nat) (s : RnS), mu s < n → RnI q s → RnI q (takeW q s).1 := by
  intro n
  induction n with
  | zero => intro s h; omega
  | succ n ih =>
    intro s hs h
    cases ht : s.tn with
    | nil => rw [takeW_nil ht]; exact h
    | cons m B =>
      have hm := h.tin m (by rw [ht]; simp)
      obtain ⟨f, hf⟩ : ∃ f : Nat, m = f := ⟨m.toNat, by omega⟩
      subst hf
      have hf : f < 16 := by omega
      obtain ⟨x, L, hL⟩ : ∃ x L, s.fl f = x :: L := by
        cases hL : s.fl f with
        | nil => exact absurd hL ((h.tfl f hf).1 (by rw [ht]; simp))
        | cons x L => exact ⟨x, L, rfl⟩
      obtain ⟨e1, e2, e3⟩ := beginS_fl q s f
      have hB := h.begin hf ht
      have hxl := ok_len (h.ok f hf x (by rw [hL]; simp)).1
      by_cases hx : x.l ≤ (beginS q s f).cr f
      · rw [takeW_send ht hf hL hx]
        exact hB.send hf (by rw [e2]; exact ht) (by rw [e1]; exact hL) hx e3
      · have hmp := mu_pass h hf ht (by omega)
        rw [takeW_pass ht hL hx hmp]
        exact ih _ (by omega) (hB.pass (by rw [e2]; exact ht) (by omega))
theorem allF_split {fl : Nat → List Hd} {N j : Nat} (hj : j < N) (L : List Hd) : ∃ R, (allF fl N).Perm (fl j ++ R) ∧ (allF (updF fl j L) N).Perm (L ++ R) := by
  have h := List.perm_cons_erase (List.mem_range.2 hj)
  refine ⟨((List.range N).erase j).flatMap fl, (h.flatMap_right fl).trans (by rw [List.flatMap_cons]), ?_⟩
  refine (h.flatMap_right (updF fl j L)).trans ?_
  rw [List.flatMap_cons, updF_same]
  have e : ((List.range N).erase j).flatMap (updF fl j L) = ((List.range N).erase j).flatMap fl := by
    rw [List.flatMap_def, List.flatMap_def]
    congr 1
    refine List.map_congr_left fun i hi => updF_ne (fun e => ?_)
    subst e
    exact (List.nodup_range.not_mem_erase) hi
  rw [e]
theorem putW_keeps (room : Int) (s : RnS) (x : Hd) : (allF s.fl 16 ++ [x]).Perm ((putW room s x).2 ++ allF (putW room s x).1.fl 16) := by
  unfold putW
  split
  · rename_i hc
    have hfl := ok_flow hc.1
    obtain ⟨R, h1, h2⟩ := allF_split (fl := s.fl) (show x.f.toNat < 16 by omega) (s.fl x.f.toNat ++ [x])
    show (allF s.fl 16 ++ [x]).Perm ([] ++ allF (updF s.fl x.f.toNat (s.fl x.f.toNat ++ [x])) 16)
    rw [List.nil_append]
    refine (h1.append_right [x]).trans (List.Perm.trans ?_ h2.symm)
    rw [List.append_assoc, List.append_assoc]
    exact List.Perm.append_left _ List.perm_append_comm
  · exact List.perm_append_comm
theorem takeW_keeps (q : Nat → Int) (s : RnS) : (allF s.fl 16).Perm ((takeW q s).2.1 ++ (if (takeW q s).2.2.2 then [(takeW q s).2.2.1] else []) ++ allF (takeW q s).1.fl 16) := by
  rcases takeW_fl q (mu s + 1) s (Nat.lt_succ_self _) with ⟨h1, h2, h3⟩ | ⟨f, x, L, hf, hL, h2, h3⟩
  · rw [h1, h2, h3]; exact List.Perm.refl _
  · rw [h2, h3]
    obtain ⟨R, k1, k2⟩ := allF_split (fl := s.fl) hf L
    rw [hL] at k1
    show (allF s.fl 16).Perm ([] ++ [x] ++ allF (updF s.fl f L) 16)
    exact k1.trans (List.Perm.cons x k2.symm)
/-- Each flow's numbers go up, and are below n. -/
def SO (n : Nat) (s : RnS) : Prop := ∀ f, f < 16 → ((s.fl f).map Hd.n).Pairwise (· < ·) ∧ ∀ x ∈ s.fl f, 0 ≤ x.n ∧ x.n < (n : Int)
theorem SO.put {n : Nat} {room : Int} {s : RnS} {x : Hd} (h : SO n s) (hx : x.n = (n : Int)) : SO (n + 1) (putW room s x).1 := by
  have hw : SO (n + 1) s := fun f hf => ⟨(h f hf).1, fun y hy => by have := (h f hf).2 y hy; omega⟩
  unfold putW
  split
  · intro f hf
    show ((updF s.fl x.f.toNat (s.fl x.f.toNat ++ [x]) f).map Hd.n).Pairwise (· < ·) ∧ ∀ y ∈ updF s.fl x.f.toNat (s.fl x.f.toNat ++ [x]) f, 0 ≤ y.n ∧ y.n < ((n + 1 : Nat) : Int)
    by_cases e : f = x.f.toNat
    · subst e
      rw [updF_same]
      refine ⟨?_, fun y hy => ?_⟩
      · rw [List.map_append, List.pairwise_append]
        refine ⟨(h _ hf).1, by simp, fun a ha b hb => ?_⟩
        obtain ⟨y, hy, rfl⟩ := List.mem_map.1 ha
        simp at hb
        subst hb
        have := (h _ hf).2 y hy
        omega
      · rcases List.mem_append.1 hy with h1 | h1
        · have := (h _ hf).2 y h1; omega
        · simp at h1; subst h1; omega
    · rw [updF_ne e]; exact hw f hf
  · exact hw
theorem SO.take {n : Nat} {q : Nat → Int} {s : RnS} (h : SO n s) : SO n (takeW q s).1 := by
  intro g hg
  rcases takeW_fl q (mu s + 1) s (Nat.lt_succ_self _) with ⟨_, h2, _⟩ | ⟨f, x, L, hf, hL, h2, _⟩
  · rw [h2]; exact h g hg
  · rw [h2]
    by_cases e : g = f
    · subst e
      rw [updF_same]
      have h1 := h g hg
      rw [hL, List.map_cons, List.pairwise_cons] at h1
      exact ⟨h1.1.2, fun y hy => h1.2 y (by simp [hy])⟩
    · rw [updF_ne e]; exact h g hg
end Go.Proofs.YtejomfmbhifeaaaDoor
