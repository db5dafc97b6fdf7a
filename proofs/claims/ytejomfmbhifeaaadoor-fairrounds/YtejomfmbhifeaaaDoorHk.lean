/-
  fair.Hashed is a queue: its methods do what the model tells; nothing is lost but what is told. Conditions: its numbers within their bounds.
-/
import Derived.Test.YtejomfmbhifeaaaDoorHj
namespace Go.Proofs.YtejomfmbhifeaaaDoor
open Go.RowKit Go.Extern.Stop Go.Stop Go.Extern

theorem nodup64 {l : List Int} (h : ∀ m ∈ l, 0 ≤ m ∧ m < 64) (hn : l.Nodup) : l.length ≤ 64 := by
  have h1 : (l.map Int.toNat).Nodup := by
    rw [List.nodup_iff_pairwise_ne, List.pairwise_map]
    refine List.Pairwise.imp_of_mem ?_ hn
    intro a b ha hb hab e
    have := h a ha
    have := h b hb
    omega
  have h3 := nodup_lt 64 _ h1 (fun x hx => by
    obtain ⟨m, hm, rfl⟩ := List.mem_map.1 hx
    have := h m hm
    omega)
  simpa using h3
theorem HaI.fitA {p : HaC} {s : HaS} {n : Nat} (h : HaI p s) (hn : (allF s.fl 64).length ≤ n) (hn1 : n ≤ 1001) : Fit (allF s.fl 64) := by
  refine ⟨by omega, fun x hx => ?_⟩
  obtain ⟨f, hf, hx⟩ := allF_mem hx
  have := ok_len (h.ok f hf x hx).1
  omega
theorem HaI.fit {p : HaC} {s : HaS} {n : Nat} (h : HaI p s) (hn : (allF s.fl 64).length ≤ n) (hn1 : n ≤ 1001) {f : Nat} (hf : f < 64) : Fit (s.fl f) := by
  have h1 := allF_len (fl := s.fl) hf
  exact ⟨by omega, fun x hx => by have := ok_len (h.ok f hf x hx).1; omega⟩
theorem takeH_keeps (s : HaS) : (allF s.fl 64).Perm ((takeH s).2.1 ++ (if (takeH s).2.2.2 then [(takeH s).2.2.1] else []) ++ allF (takeH s).1.fl 64) := by
  rcases takeH_fl s with ⟨h1, h2, h3⟩ | ⟨f, x, L, hf, hL, h2, h3⟩
  · rw [h1, h2, h3]; exact List.Perm.refl _
  · rw [h2, h3]
    obtain ⟨R, k1, k2⟩ := allF_split (fl := s.fl) hf L
    rw [hL] at k1
    show (allF s.fl 64).Perm ([] ++ [x] ++ allF (updF s.fl f L) 64)
    exact k1.trans (List.Perm.cons x k2.symm)
theorem HaI.put {p : HaC} {s : HaS} {x : Hd} (h : HaI p s) (hm0 : 1 ≤ p.many) (hm1 : p.many ≤ 64) (hok : x.ok = true) : HaI p (putH p s x).1 := by
  unfold putH
  split
  · exact h.into hm0 hm1 hok
  · exact (h.into hm0 hm1 hok).cut (into_some hm0 hm1 s x)
theorem SH.put {n : Nat} {p : HaC} {s : HaS} {x : Hd} (h : SH n s) (hx : x.n = (n : Int)) : SH (n + 1) (putH p s x).1 := by
  unfold putH
  split
  · exact h.into hx
  · exact SH.less (h.into hx) (s' := (cutH (intoH p s x)).1) rfl (List.dropLast_sublist _)
theorem SH.take {n : Nat} {s : HaS} (h : SH n s) : SH n (takeH s).1 := by
  rcases takeH_fl s with ⟨_, h2, _⟩ | ⟨f, x, L, hf, hL, h2, _⟩
  · intro g hg; rw [h2]; exact h g hg
  · exact h.less h2 (by rw [hL]; exact List.sublist_cons_self _ _)
theorem hashM_fine (b : Nat) (p : HaC) (hm0 : 1 ≤ p.many) (hm1 : p.many ≤ 64) (hs0 : 0 ≤ p.salt) (hs1 : p.salt ≤ 1000000) : (HashM b p).Fine where
  kept := by
    rintro w w' F s ⟨C, vs, tv, h, hF⟩ hk
    exact ⟨C, vs, tv, h.kept (fun k hk' => hk k ((hF k).2 hk')), hF⟩
  low := by
    rintro w F s ⟨C, vs, tv, h, hF⟩ k hk
    exact h.low ((hF k).1 hk)
  mP := mHaP ⟨b, 0, none⟩
  mT := mHaT ⟨b, 0, none⟩
  mW := mHaW ⟨b, 0, none⟩
  mL := mHaL ⟨b, 0, none⟩
  mB := mHaB ⟨b, 0, none⟩
  eP := eHaP
  eT := eHaT
  eW := eHaW
  eL := eHaL
  eB := eHaB
  cP := by
    rintro w F (s : HaS) t n now x ⟨C, vs, tv, h, hF⟩ hI ht0 ht1 ht2 hok hxa hxn hn
    have hfl := ok_flow hok
    have hw := whereN_bd hm0 x.f
    have hIn := hI.1.into hm0 hm1 hok
    have hlen : (allF (intoH p s x).fl 64).length ≤ n + 1 := by
      have h1 := (into_keeps hm0 hm1 s x).length_eq
      have h2 := hI.2.1
      simp only [List.length_append, List.length_cons, List.length_nil] at h1
      omega
    have hso := into_some hm0 hm1 s x
    have hFk : Fit (s.fl (whereN p x.f).toNat ++ [x]) := by
      have h1 := hIn.fit hlen (by omega) (f := (whereN p x.f).toNat) (by omega)
      have e : (intoH p s x).fl (whereN p x.f).toNat = s.fl (whereN p x.f).toNat ++ [x] := updF_same _ _ _
      rw [e] at h1
      exact h1
    have h64 := nodup64 hI.1.tin hI.1.tnd
    refine (hput_any now x w h hm0 hm1 hs0 hs1 hfl.1 (by omega) (by omega) hFk (hIn.fitA hlen (by omega)) hso ((hIn.tfl _ (longK_lt _ 64 (by decide))).2 hso) hIn.tnd (fun f hf => hIn.fit hlen (by omega) hf)).mono ?_
    rintro e w' ⟨u, C', vs', tv', rfl, hu, hnu, hT⟩
    exact ⟨u, HaF b vs' tv', rfl, hu, ⟨C', vs', tv', hT.pos, fun k => Iff.rfl⟩, fun k hk => by rcases hT.own k hk with h1 | h1; exact Or.inl ((hF k).2 h1); exact Or.inr h1, fun k hk => Or.inr (hnu k hk), hT.ot.mono (fun k _ h1 => (hF k).2 h1)⟩
  iP := by
    intro (s : HaS) t n now x hI ht0 ht1 ht2 hok hxa hxn hn
    have h2 := hI.2.1
    have h3 := (putH_keeps hm0 hm1 s x).length_eq
    simp only [List.length_append, List.length_cons, List.length_nil] at h3
    refine ⟨⟨hI.1.put hm0 hm1 hok, ?_, hI.2.2.put hxn⟩, ?_⟩
    · show (allF (putH p s x).1.fl 64).length ≤ n + 1
      omega
    · show (putH p s x).2.length ≤ _
      omega
  cT := by
    rintro w F (s : HaS) t n now ⟨C, vs, tv, h, hF⟩ hI ht0 ht1 ht2 hn
    have h64 := nodup64 hI.1.tin hI.1.tnd
    refine (htake_any now w h (fun m hm => ?_) hI.1.tnd (by omega) (fun f hf => hI.1.fit hI.2.1 (by omega) hf)).mono ?_
    · have h1 := hI.1.tin m hm
      refine ⟨h1.1, h1.2, (hI.1.tfl m.toNat (by omega)).1 ?_⟩
      rw [Int.toNat_of_nonneg h1.1]
      exact hm
    rintro e w' ⟨rfl, C', vs', tv', hT⟩
    have hl : (takeH s).2.1 = [] := by
      rcases takeH_fl s with ⟨_, _, h3⟩ | ⟨_, _, _, _, _, _, h3⟩
      · exact h3
      · rw [h3]
    refine ⟨.slice none 0 0, HaF b vs' tv', rfl, ?_, ⟨C', vs', tv', hT.pos, fun k => Iff.rfl⟩, fun k hk => by rcases hT.own k hk with h1 | h1; exact Or.inl ((hF k).2 h1); exact Or.inr h1, fun k hk => by simp [Value.ownBlock] at hk, hT.ot.mono (fun k _ h1 => (hF k).2 h1)⟩
    show Hs w' _ (takeH s).2.1
    rw [hl]
    exact Hs.nil _
  iT := by
    intro (s : HaS) t n now hI ht0 ht1 ht2 hn
    have h2 := hI.2.1
    have h3 := (takeH_keeps s).length_eq
    rw [List.length_append, List.length_append] at h3
    refine ⟨⟨hI.1.take, ?_, hI.2.2.take⟩, ?_⟩
    · show (allF (takeH s).1.fl 64).length ≤ n
      omega
    · show (takeH s).2.1.length ≤ _
      omega
  cW := by
    rintro w F (s : HaS) t n now ⟨C, vs, tv, h, hF⟩ hI ht0 ht1 ht2 hn
    refine (hwhen_any now w h).mono ?_
    rintro e w' ⟨rfl, rfl⟩
    exact ⟨F, rfl, ⟨C, vs, tv, h, hF⟩, fun k hk => Or.inl hk, Ot.refl _ _⟩
  iW := by
    intro (s : HaS) t n now hI ht0 ht1 ht2 hn
    exact hI
  cL := by
    rintro w F (s : HaS) t n ⟨C, vs, tv, h, hF⟩ hI hn
    exact (hlen_any w h (hI.1.fitA hI.2.1 hn)).mono (by rintro e w' ⟨rfl, rfl⟩; exact ⟨rfl, Below.refl _ _⟩)
  cB := by
    rintro w F (s : HaS) t n ⟨C, vs, tv, h, hF⟩ hI hn
    exact (hbts_any w h (hI.1.fitA hI.2.1 hn)).mono (by rintro e w' ⟨rfl, rfl⟩; exact ⟨rfl, Below.refl _ _⟩)
end Go.Proofs.YtejomfmbhifeaaaDoor
