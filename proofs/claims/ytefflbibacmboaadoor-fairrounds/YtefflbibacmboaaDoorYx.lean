/-
  Rounds, as the reference has them (one list, turns, credits by flow) and as the program has them (a list for each flow): that Put, Take and When of both agree. Mathematics alone.
  A map from ints below 16 to ints, in memory: what it tells, and what is left when one is set. No condition.
-/
import Derived.Test.YtefflbibacmboaaDoorHz
import Derived.Maps.Own
import Derived.Maps.OwnSet
import Derived.Maps.Range
import Derived.WalkKit
namespace Go.Proofs.YtefflbibacmboaaDoor
open Go.RowKit Go.Extern.Stop Go.Stop Go.Extern

/-- What the reference's Rounds keep. -/
structure RrS where
  L : List Hd
  tn : List Int
  bg : Bool
  cr : Nat → Int
/-- A flow's packets. -/
def flw (L : List Hd) (k : Int) : List Hd := L.filter (fun x => decide (x.f = k))
def flN (L : List Hd) (f : Nat) : List Hd := flw L (f : Int)
def toS (r : RrS) : RnS := { fl := flN r.L, cr := r.cr, tn := r.tn, bg := r.bg }
theorem rn_ext {s : RnS} {fl : Nat → List Hd} {cr : Nat → Int} {tn : List Int} {bg : Bool} (h1 : s.fl = fl) (h2 : s.cr = cr) (h3 : s.tn = tn) (h4 : s.bg = bg) : s = ⟨fl, cr, tn, bg⟩ := by
  obtain ⟨a, b, c, d⟩ := s
  subst h1 h2 h3 h4
  rfl
def putY (room : Int) (r : RrS) (x : Hd) : RrS × List Hd :=
  if room ≤ ((flw r.L x.f).length : Int) then (r, [x])
  else ({ L := r.L ++ [x], tn := if (flw r.L x.f).isEmpty then r.tn ++ [x.f] else r.tn, bg := r.bg, cr := if (flw r.L x.f).isEmpty then updF r.cr x.f.toNat 0 else r.cr }, [])
def takeY (q : Nat → Int) (r : RrS) : RrS × List Hd × Hd × Bool :=
  ({ L := if (takeW q (toS r)).2.2.2 then rmN r.L (takeW q (toS r)).2.2.1.n else r.L, tn := (takeW q (toS r)).1.tn, bg := (takeW q (toS r)).1.bg, cr := (takeW q (toS r)).1.cr }, (takeW q (toS r)).2)
/-- Both keep the same. -/
structure RRel (s : RnS) (r : RrS) : Prop where
  eq : s = toS r
  srt : (r.L.map Hd.n).Pairwise (· < ·)
  flow : ∀ y ∈ r.L, 0 ≤ y.f ∧ y.f < 16
def rr0 : RrS := ⟨[], [], false, fun _ => 0⟩
theorem RRel.zero : RRel rn0 rr0 := ⟨rfl, by simp [rr0], by simp [rr0]⟩
theorem flw_mem {L : List Hd} {k : Int} {x : Hd} : x ∈ flw L k ↔ x ∈ L ∧ x.f = k := by simp [flw]
theorem flw_rm (L : List Hd) (k n : Int) : flw (rmN L n) k = rmN (flw L k) n := by
  unfold flw rmN
  rw [List.filter_filter, List.filter_filter]
  congr 1
  funext x
  exact Bool.and_comm _ _
theorem flw_sub (L : List Hd) (k : Int) : (flw L k).Sublist L := List.filter_sublist
theorem flw_other {L : List Hd} {k f : Int} {y : Hd} (hs : (L.map Hd.n).Pairwise (· < ·)) (hy : y ∈ flw L k) (hf : f ≠ k) : rmN (flw L f) y.n = flw L f := by
  refine rmN_none (fun z hz e => ?_)
  have h1 := flw_mem.1 hy
  have h2 := flw_mem.1 hz
  have := inj_n hs z h2.1 y h1.1 e
  subst this
  exact hf (h2.2.symm.trans h1.2)
theorem flw_all (L : List Hd) (h : ∀ y ∈ L, 0 ≤ y.f ∧ y.f < 16) : (allF (flN L) 16).Perm L := by
  induction L with
  | nil =>
    have : allF (flN []) 16 = [] := by unfold allF flN flw; simp
    rw [this]
  | cons x L ih =>
    have hw := h x (by simp)
    obtain ⟨j, hj⟩ : ∃ j : Nat, x.f = j := ⟨x.f.toNat, by omega⟩
    obtain ⟨R, h1, h2⟩ := allF_split (fl := flN L) (show j < 16 by omega) (x :: flw L (j : Int))
    have e : allF (flN (x :: L)) 16 = allF (updF (flN L) j (x :: flw L (j : Int))) 16 := by
      refine allF_same (fun f hf => ?_)
      by_cases e : f = j
      · subst e; rw [updF_same]; simp [flN, flw, hj]
      · rw [updF_ne e]
        have : ¬ (x.f = (f : Int)) := by omega
        simp [flN, flw, this]
    rw [e]
    refine h2.trans ?_
    rw [List.cons_append]
    exact List.Perm.cons _ (h1.symm.trans (ih (fun y hy => h y (by simp [hy]))))
theorem RRel.perm {s : RnS} {r : RrS} (h : RRel s r) : (allF s.fl 16).Perm r.L := by
  rw [h.eq]
  exact flw_all r.L h.flow
theorem rput_rel {room : Int} {s : RnS} {r : RrS} {n : Nat} {x : Hd} (h : RRel s r) (hS : SO n s) (hok : x.ok = true) (hx : x.n = (n : Int)) : (putW room s x).2 = (putY room r x).2 ∧ RRel (putW room s x).1 (putY room r x).1 := by
  have hf := ok_flow hok
  obtain ⟨j, hj⟩ : ∃ j : Nat, x.f = j := ⟨x.f.toNat, by omega⟩
  have e := h.eq
  subst e
  have hfl : (toS r).fl x.f.toNat = flw r.L x.f := by show flw r.L ((x.f.toNat : Nat) : Int) = _; rw [hj, Int.toNat_natCast]
  unfold putW putY
  rw [hfl]
  by_cases hr : room ≤ ((flw r.L x.f).length : Int)
  · rw [if_neg (fun e => e.2 hr), if_pos hr]
    exact ⟨rfl, h⟩
  · rw [if_pos ⟨hok, hr⟩, if_neg hr]
    refine ⟨rfl, ?_, ?_, fun y hy => ?_⟩
    · refine rn_ext ?_ rfl rfl rfl
      funext g
      show updF (flN r.L) x.f.toNat (flw r.L x.f ++ [x]) g = flN (r.L ++ [x]) g
      rw [hj, Int.toNat_natCast]
      by_cases e : g = j
      · subst e; rw [updF_same]; simp [flN, flw, hj]
      · rw [updF_ne e]
        have : ¬ (x.f = (g : Int)) := by omega
        simp [flN, flw, this]
    · show ((r.L ++ [x]).map Hd.n).Pairwise (· < ·)
      rw [List.map_append, List.pairwise_append]
      refine ⟨h.srt, by simp, fun a ha c hc => ?_⟩
      obtain ⟨y, hy, rfl⟩ := List.mem_map.1 ha
      simp at hc
      subst hc
      have h1 := h.flow y hy
      obtain ⟨i, hi⟩ : ∃ i : Nat, y.f = i := ⟨y.f.toNat, by omega⟩
      have h2 := (hS i (by omega)).2 y (flw_mem.2 ⟨hy, hi⟩)
      omega
    · rcases List.mem_append.1 hy with h1 | h1
      · exact h.flow y h1
      · simp at h1; subst h1; omega
theorem rtake_rel {q : Nat → Int} {s : RnS} {r : RrS} (h : RRel s r) : (takeW q s).2 = (takeY q r).2 ∧ RRel (takeW q s).1 (takeY q r).1 := by
  have e := h.eq
  subst e
  refine ⟨rfl, ?_⟩
  rcases takeW_fl q (mu (toS r) + 1) (toS r) (Nat.lt_succ_self _) with ⟨h1, h2, _⟩ | ⟨f, x, L, hf, hL, h2, h3⟩
  · refine ⟨?_, ?_, ?_⟩
    · refine rn_ext ?_ rfl rfl rfl
      show (takeW q (toS r)).1.fl = flN (if (takeW q (toS r)).2.2.2 then rmN r.L (takeW q (toS r)).2.2.1.n else r.L)
      rw [h1, h2]
      rfl
    · show ((if (takeW q (toS r)).2.2.2 then rmN r.L (takeW q (toS r)).2.2.1.n else r.L).map Hd.n).Pairwise (· < ·)
      rw [h1]; exact h.srt
    · show ∀ y ∈ (if (takeW q (toS r)).2.2.2 then rmN r.L (takeW q (toS r)).2.2.1.n else r.L), 0 ≤ y.f ∧ y.f < 16
      rw [h1]; exact h.flow
  · have hL' : flw r.L (f : Int) = x :: L := hL
    have hx : x ∈ flw r.L (f : Int) := by rw [hL']; simp
    have hsM : ((x :: L).map Hd.n).Pairwise (· < ·) := by rw [← hL']; exact srt_sub h.srt (flw_sub _ _)
    have hfl : updF (flN r.L) f L = flN (rmN r.L x.n) := by
      funext g
      show _ = flw (rmN r.L x.n) (g : Int)
      rw [flw_rm]
      by_cases e : g = f
      · subst e; rw [updF_same, hL', rm_first hsM]
      · rw [updF_ne e]; exact (flw_other h.srt hx (by omega)).symm
    have hok : (takeW q (toS r)).2.2.2 = true := by rw [h3]
    have hxx : (takeW q (toS r)).2.2.1 = x := by rw [h3]
    refine ⟨?_, ?_, ?_⟩
    · refine rn_ext ?_ rfl rfl rfl
      show (takeW q (toS r)).1.fl = flN (if (takeW q (toS r)).2.2.2 then rmN r.L (takeW q (toS r)).2.2.1.n else r.L)
      rw [hok, hxx, h2]
      exact hfl
    · show ((if (takeW q (toS r)).2.2.2 then rmN r.L (takeW q (toS r)).2.2.1.n else r.L).map Hd.n).Pairwise (· < ·)
      rw [hok]; exact srt_sub h.srt (rmN_sub _ _)
    · show ∀ y ∈ (if (takeW q (toS r)).2.2.2 then rmN r.L (takeW q (toS r)).2.2.1.n else r.L), 0 ≤ y.f ∧ y.f < 16
      rw [hok]; exact fun y hy => h.flow y ((rmN_sub _ _).subset hy)
theorem rwhen_rel {q : Nat → Int} {s : RnS} {r : RrS} (h : RRel s r) (hI : RnI q s) : (!s.tn.isEmpty) = (!r.L.isEmpty) := by
  have e := h.eq
  subst e
  congr 1
  rw [Bool.eq_iff_iff, List.isEmpty_iff, List.isEmpty_iff]
  constructor
  · intro ht
    rw [List.eq_nil_iff_forall_not_mem]
    intro y hy
    have h1 := h.flow y hy
    obtain ⟨j, hj⟩ : ∃ j : Nat, y.f = j := ⟨y.f.toNat, by omega⟩
    have h2 : y ∈ flw r.L (j : Int) := flw_mem.2 ⟨hy, hj⟩
    have h3 := (hI.tfl j (by omega)).2 (List.ne_nil_of_mem h2)
    rw [ht] at h3
    simp at h3
  · intro hL
    rw [List.eq_nil_iff_forall_not_mem]
    intro m hm
    have h1 := hI.tin m hm
    obtain ⟨f, rfl⟩ : ∃ f : Nat, m = f := ⟨m.toNat, by omega⟩
    have h2 := (hI.tfl f (by omega)).1 hm
    have h3 : flw r.L (f : Int) ≠ [] := h2
    rw [hL] at h3
    exact h3 rfl
end Go.Proofs.YtefflbibacmboaaDoor
namespace Go.Proofs.YtefflbibacmboaaDoor
open Go.RowKit Go.Extern.Stop Go.Stop Go.Extern Go.Maps

theorem keyI : Keyed Tryd.prog 3 := int_keyed Tryd.underlying3
theorem zeroI (w : World) : (zeroValue 3).run Tryd.prog w = .ok (.int .i64 0) w := by kernel_rfl
/-- A map of credits in block mb. -/
def CrM (w : World) (mb : Nat) (cr : Nat → Int) : Prop := ∃ l : List (Lit × DataW Unit), w.ownsMap Tryd.prog 3 (plainElem Tryd.prog 3) mb 16 (.map l) ∧ (∀ f : Nat, f < 16 → (DataW.map l).atKey (.int .i64 f) (.lit (.int .i64 0)) = .lit (.int .i64 (cr f))) ∧ ∀ p ∈ l, ∃ f : Nat, f < 16 ∧ p.1 = .int .i64 f
theorem wfI {x : Int} (h0 : -9223372036854775808 ≤ x) (h1 : x ≤ 9223372036854775807) : (Lit.int .i64 x).wf = true := by
  have e : wrap64 x = x := by have := IntKind.wrap_i64 x; unfold wrap64; omega
  rw [← e]
  exact wrap64_wf _
theorem keyOfI {f : Nat} (hf : f < 16) : keyOf Tryd.prog 3 (.int .i64 (f : Int)) = some (.int .i64 (f : Int)) := keyOf_int_mk Tryd.underlying3 (wfI (by omega) (by omega))
theorem CrM.lt {w : World} {mb : Nat} {cr : Nat → Int} (h : CrM w mb cr) : mb < w.heap.size := by
  obtain ⟨l, h1, _⟩ := h
  exact h1.lt
theorem CrM.kept {w w' : World} {mb : Nat} {cr : Nat → Int} (h : CrM w mb cr) (hb : w'.heap[mb]? = w.heap[mb]?) : CrM w' mb cr := by
  obtain ⟨l, ⟨es, clock, g1, g2⟩, h2⟩ := h
  exact ⟨l, ⟨es, clock, hb.trans g1, g2⟩, h2⟩
theorem CrM.made (w : World) : CrM (w.alloc (.map #[] 0)) w.heap.size (fun _ => 0) := ⟨[], (World.ownsMap_made w _ _ _).mono (by omega), fun f hf => rfl, by simp⟩
theorem CrM.look {w : World} {mb : Nat} {cr : Nat → Int} (h : CrM w mb cr) {f : Nat} (hf : f < 16) : (Instr.lookup 66 (.map (some mb)) (.int .i64 (f : Int)) false).run Tryd.prog w = .ok (.int .i64 (cr f)) w := by
  obtain ⟨l, h1, h2, _⟩ := h
  obtain ⟨c, hrun, hat, _⟩ := h1.lookup_int keyI Tryd.underlying66 Tryd.underlying3 (zeroI w) (keyOfI hf)
  rw [h2 f hf] at hat
  have : cr f = c := by simpa using hat
  rw [this]
  exact hrun
theorem own_tight {w : World} {P : Program} {k : TypeId} {R : Value → Option (DataW Unit × List MemPlace)} {b n m : Nat} {l : List (Lit × DataW Unit)} (h : w.ownsMap P k R b n (.map l)) (hl : l.length ≤ m) : w.ownsMap P k R b m (.map l) := by
  obtain ⟨es, clock, hb, F, hs, hD⟩ := h
  refine ⟨es, clock, hb, F, ?_, hD⟩
  have e : l = (es.toList.map (Go.WideElems.rg P k R)).foldr DataW.insert [] := by simpa using hD
  rw [e, length_sorted] at hl
  simpa using hl
def kN (p : Lit × DataW Unit) : Nat := match p.1 with
  | .int _ z => z.toNat
  | _ => 0
theorem keys_few {l : List (Lit × DataW Unit)} (hp : l.Pairwise (fun p q => p.1 ≠ q.1)) (hk : ∀ p ∈ l, ∃ f : Nat, f < 16 ∧ p.1 = .int .i64 f) : l.length ≤ 16 := by
  have h1 : (l.map kN).Nodup := by
    rw [List.nodup_iff_pairwise_ne, List.pairwise_map]
    refine List.Pairwise.imp_of_mem ?_ hp
    intro a b ha hb hab e
    obtain ⟨f, _, hf⟩ := hk a ha
    obtain ⟨g, _, hg⟩ := hk b hb
    simp only [kN, hf, hg, Int.toNat_natCast] at e
    subst e
    exact hab (hf.trans hg.symm)
  have h2 := nodup_lt 16 _ h1 (fun x hx => by
    obtain ⟨p, hp', rfl⟩ := List.mem_map.1 hx
    obtain ⟨f, hf1, hf⟩ := hk p hp'
    simp only [kN, hf, Int.toNat_natCast]
    exact hf1)
  simpa using h2
theorem litNe {g f : Nat} (e : g ≠ f) : Lit.int .i64 (g : Int) ≠ Lit.int .i64 (f : Int) := by
  intro h
  simp only [Lit.int.injEq, true_and] at h
  omega
theorem CrM.upd {w : World} {mb : Nat} {cr : Nat → Int} (h : CrM w mb cr) {f : Nat} (hf : f < 16) (x : Int) (h0 : -9223372036854775808 ≤ x) (h1 : x ≤ 9223372036854775807) : ∃ w', (Instr.mapUpdate 66 (.map (some mb)) (.int .i64 (f : Int)) (.int .i64 x)).run Tryd.prog w = .ok () w' ∧ CrM w' mb (updF cr f x) ∧ w.grownBy w' (some mb) := by
  obtain ⟨l, g1, g2, g3⟩ := h
  obtain ⟨w', hrun, hown, hg⟩ := g1.update keyI Tryd.underlying66 (by unfold maxLen; omega) (keyOfI hf) (plainElem_int Tryd.underlying3 (wfI h0 h1))
  refine ⟨w', hrun, ?_, hg⟩
  have hkeys : ∀ p ∈ ChangeMaps.putKey (.int .i64 (f : Int)) (.lit (.int .i64 x)) l, ∃ f : Nat, f < 16 ∧ p.1 = .int .i64 f := by
    intro p hp
    unfold ChangeMaps.putKey at hp
    rcases ChangeMaps.mem_insert_iff.1 hp with rfl | hp
    · exact ⟨f, hf, rfl⟩
    · exact g3 p (List.mem_filter.1 hp).1
  rw [DataW.put_eq] at hown
  obtain ⟨es, he, hpw, _⟩ := hown.entries keyI
  have he' : ChangeMaps.putKey (.int .i64 (f : Int)) (.lit (.int .i64 x)) l = es := by simpa using he
  refine ⟨_, own_tight hown (keys_few (by rw [he']; exact hpw) hkeys), fun g hg' => ?_, hkeys⟩
  rw [← DataW.put_eq]
  by_cases e : g = f
  · subst e
    rw [updF_same]
    exact atKey_put_same g1.isMap (keyI.key (keyOfI hf)) _ _
  · rw [updF_ne e, atKey_put_other (litNe e)]
    exact g2 g hg'
end Go.Proofs.YtefflbibacmboaaDoor
