/-
  Rounds, as the reference has them (one list, turns, credits by flow) and as the program has them (a list for each flow): that Put, Take and When of both agree. Mathematics alone.
-/
import Derived.Test.YtejomfmbhifeaaaDoorXa
namespace Go.Proofs.YtejomfmbhifeaaaDoor
open Go.RowKit Go.Extern.Stop Go.Stop Go.Extern

/-- What the reference's Rounds keep. -/
structure RrS where
  L : List Hd
  tn : List Int
  bg : Bool
  cr : Nat → Int
/-- A flow's packets. -/
def flw (L : List Hd) (k : Int) : List Hd := L.filter (fun x => decide (x.f = k))
def flN (L : List Hd) (f : Nat) : List Hd := flw L (f : Int)
def toS (r : RrS) : RnS := { fl := flN r.L, cr := r.cr, tn := r.tn, bg := r.bg }
theorem rn_ext {s : RnS} {fl : Nat → List Hd} {cr : Nat → Int} {tn : List Int} {bg : Bool} (h1 : s.fl = fl) (h2 : s.cr = cr) (h3 : s.tn = tn) (h4 : s.bg = bg) : s = ⟨fl, cr, tn, bg⟩ := by
  obtain ⟨a, b, c, d⟩ := s
  subst h1 h2 h3 h4
  rfl
def putY (room : Int) (r : RrS) (x : Hd) : RrS × List Hd :=
  if room ≤ ((flw r.L x.f).length : Int) then (r, [x])
  else ({ L := r.L ++ [x], tn := if (flw r.L x.f).isEmpty then r.tn ++ [x.f] else r.tn, bg := r.bg, cr := if (flw r.L x.f).isEmpty then updF r.cr x.f.toNat 0 else r.cr }, [])
def takeY (q : Nat → Int) (r : RrS) : RrS × List Hd × Hd × Bool :=
  ({ L := if (takeW q (toS r)).2.2.2 then rmN r.L (takeW q (toS r)).2.2.1.n else r.L, tn := (takeW q (toS r)).1.tn, bg := (takeW q (toS r)).1.bg, cr := (takeW q (toS r)).1.cr }, (takeW q (toS r)).2)
/-- Both keep the same. -/
structure RRel (s : RnS) (r : RrS) : Prop where
  eq : s = toS r
  srt : (r.L.map Hd.n).Pairwise (· < ·)
  flow : ∀ y ∈ r.L, 0 ≤ y.f ∧ y.f < 16
def rr0 : RrS := ⟨[], [], false, fun _ => 0⟩
theorem RRel.zero : RRel rn0 rr0 := ⟨rfl, by simp [rr0], by simp [rr0]⟩
theorem flw_mem {L : List Hd} {k : Int} {x : Hd} : x ∈ flw L k ↔ x ∈ L ∧ x.f = k := by simp [flw]
theorem flw_rm (L : List Hd) (k n : Int) : flw (rmN L n) k = rmN (flw L k) n := by
  unfold flw rmN
  rw [List.filter_filter, List.filter_filter]
  congr 1
  funext x
  exact Bool.and_comm _ _
theorem flw_sub (L : List Hd) (k : Int) : (flw L k).Sublist L := List.filter_sublist
theorem flw_other {L : List Hd} {k f : Int} {y : Hd} (hs : (L.map Hd.n).Pairwise (· < ·)) (hy : y ∈ flw L k) (hf : f ≠ k) : rmN (flw L f) y.n = flw L f := by
  refine rmN_none (fun z hz e => ?_)
  have h1 := flw_mem.1 hy
  have h2 := flw_mem.1 hz
  have := inj_n hs z h2.1 y h1.1 e
  subst this
  exact hf (h2.2.symm.trans h1.2)
theorem flw_all (L : List Hd) (h : ∀ y ∈ L, 0 ≤ y.f ∧ y.f < 16) : (allF (flN L) 16).Perm L := by
  induction L with
  | nil =>
    have : allF (flN []) 16 = [] := by unfold allF flN flw; simp
    rw [this]
  | cons x L ih =>
    have hw := h x (by simp)
    obtain ⟨j, hj⟩ : ∃ j : Nat, x.f = j := ⟨x.f.toNat, by omega⟩
    obtain ⟨R, h1, h2⟩ := allF_split (fl := flN L) (show j < 16 by omega) (x :: flw L (j : Int))
    have e : allF (flN (x :: L)) 16 = allF (updF (flN L) j (x :: flw L (j : Int))) 16 := by
      refine allF_same (fun f hf => ?_)
      by_cases e : f = j
      · subst e; rw [updF_same]; simp [flN, flw, hj]
      · rw [updF_ne e]
        have : ¬ (x.f = (f : Int)) := by omega
        simp [flN, flw, this]
    rw [e]
    refine h2.trans ?_
    rw [List.cons_append]
    exact List.Perm.cons _ (h1.symm.trans (ih (fun y hy => h y (by simp [hy]))))
theorem RRel.perm {s : RnS} {r : RrS} (h : RRel s r) : (allF s.fl 16).Perm r.L := by
  rw [h.eq]
  exact flw_all r.L h.flow
theorem rput_rel {room : Int} {s : RnS} {r : RrS} {n : Nat} {x : Hd} (h : RRel s r) (hS : SO n s) (hok : x.ok = true) (hx : x.n = (n : Int)) : (putW room s x).2 = (putY room r x).2 ∧ RRel (putW room s x).1 (putY room r x).1 := by
  have hf := ok_flow hok
  obtain ⟨j, hj⟩ : ∃ j : Nat, x.f = j := ⟨x.f.toNat, by omega⟩
  have e := h.eq
  subst e
  have hfl : (toS r).fl x.f.toNat = flw r.L x.f := by show flw r.L ((x.f.toNat : Nat) : Int) = _; rw [hj, Int.toNat_natCast]
  unfold putW putY
  rw [hfl]
  by_cases hr : room ≤ ((flw r.L x.f).length : Int)
  · rw [if_neg (fun e => e.2 hr), if_pos hr]
    exact ⟨rfl, h⟩
  · rw [if_pos ⟨hok, hr⟩, if_neg hr]
    refine ⟨rfl, ?_, ?_, fun y hy => ?_⟩
    · refine rn_ext ?_ rfl rfl rfl
      funext g
      show updF (flN r.L) x.f.toNat (flw r.L x.f ++ [x]) g = flN (r.L ++ [x]) g
      rw [hj, Int.toNat_natCast]
      by_cases e : g = j
      · subst e; rw [updF_same]; simp [flN, flw, hj]
      · rw [updF_ne e]
        have : ¬ (x.f = (g : Int)) := by omega
        simp [flN, flw, this]
    · show ((r.L ++ [x]).map Hd.n).Pairwise (· < ·)
      rw [List.map_append, List.pairwise_append]
      refine ⟨h.srt, by simp, fun a ha c hc => ?_⟩
      obtain ⟨y, hy, rfl⟩ := List.mem_map.1 ha
      simp at hc
      subst hc
      have h1 := h.flow y hy
      obtain ⟨i, hi⟩ : ∃ i : Nat, y.f = i := ⟨y.f.toNat, by omega⟩
      have h2 := (hS i (by omega)).2 y (flw_mem.2 ⟨hy, hi⟩)
      omega
    · rcases List.mem_append.1 hy with h1 | h1
      · exact h.flow y h1
      · simp at h1; subst h1; omega
theorem rtake_rel {q : Nat → Int} {s : RnS} {r : RrS} (h : RRel s r) : (takeW q s).2 = (takeY q r).2 ∧ RRel (takeW q s).1 (takeY q r).1 := by
  have e := h.eq
  subst e
  refine ⟨rfl, ?_⟩
  rcases takeW_fl q (mu (toS r) + 1) (toS r) (Nat.lt_succ_self _) with ⟨h1, h2, _⟩ | ⟨f, x, L, hf, hL, h2, h3⟩
  · refine ⟨?_, ?_, ?_⟩
    · refine rn_ext ?_ rfl rfl rfl
      show (takeW q (toS r)).1.fl = flN (if (takeW q (toS r)).2.2.2 then rmN r.L (takeW q (toS r)).2.2.1.n else r.L)
      rw [h1, h2]
      rfl
    · show ((if (takeW q (toS r)).2.2.2 then rmN r.L (takeW q (toS r)).2.2.1.n else r.L).map Hd.n).Pairwise (· < ·)
      rw [h1]; exact h.srt
    · show ∀ y ∈ (if (takeW q (toS r)).2.2.2 then rmN r.L (takeW q (toS r)).2.2.1.n else r.L), 0 ≤ y.f ∧ y.f < 16
      rw [h1]; exact h.flow
  · have hL' : flw r.L (f : Int) = x :: L := hL
    have hx : x ∈ flw r.L (f : Int) := by rw [hL']; simp
    have hsM : ((x :: L).map Hd.n).Pairwise (· < ·) := by rw [← hL']; exact srt_sub h.srt (flw_sub _ _)
    have hfl : updF (flN r.L) f L = flN (rmN r.L x.n) := by
      funext g
      show _ = flw (rmN r.L x.n) (g : Int)
      rw [flw_rm]
      by_cases e : g = f
      · subst e; rw [updF_same, hL', rm_first hsM]
      · rw [updF_ne e]; exact (flw_other h.srt hx (by omega)).symm
    have hok : (takeW q (toS r)).2.2.2 = true := by rw [h3]
    have hxx : (takeW q (toS r)).2.2.1 = x := by rw [h3]
    refine ⟨?_, ?_, ?_⟩
    · refine rn_ext ?_ rfl rfl rfl
      show (takeW q (toS r)).1.fl = flN (if (takeW q (toS r)).2.2.2 then rmN r.L (takeW q (toS r)).2.2.1.n else r.L)
      rw [hok, hxx, h2]
      exact hfl
    · show ((if (takeW q (toS r)).2.2.2 then rmN r.L (takeW q (toS r)).2.2.1.n else r.L).map Hd.n).Pairwise (· < ·)
      rw [hok]; exact srt_sub h.srt (rmN_sub _ _)
    · show ∀ y ∈ (if (takeW q (toS r)).2.2.2 then rmN r.L (takeW q (toS r)).2.2.1.n else r.L), 0 ≤ y.f ∧ y.f < 16
      rw [hok]; exact fun y hy => h.flow y ((rmN_sub _ _).subset hy)
theorem rwhen_rel {q : Nat → Int} {s : RnS} {r : RrS} (h : RRel s r) (hI : RnI q s) : (!s.tn.isEmpty) = (!r.L.isEmpty) := by
  have e := h.eq
  subst e
  congr 1
  rw [Bool.eq_iff_iff, List.isEmpty_iff, List.isEmpty_iff]
  constructor
  · intro ht
    rw [List.eq_nil_iff_forall_not_mem]
    intro y hy
    have h1 := h.flow y hy
    obtain ⟨j, hj⟩ : ∃ j : Nat, y.f = j := ⟨y.f.toNat, by omega⟩
    have h2 : y ∈ flw r.L (j : Int) := flw_mem.2 ⟨hy, hj⟩
    have h3 := (hI.tfl j (by omega)).2 (List.ne_nil_of_mem h2)
    rw [ht] at h3
    simp at h3
  · intro hL
    rw [List.eq_nil_iff_forall_not_mem]
    intro m hm
    have h1 := hI.tin m hm
    obtain ⟨f, rfl⟩ : ∃ f : Nat, m = f := ⟨m.toNat, by omega⟩
    have h2 := (hI.tfl f (by omega)).1 hm
    have h3 : flw r.L (f : Int) ≠ [] := h2
    rw [hL] at h3
    exact h3 rfl
end Go.Proofs.YtejomfmbhifeaaaDoor
