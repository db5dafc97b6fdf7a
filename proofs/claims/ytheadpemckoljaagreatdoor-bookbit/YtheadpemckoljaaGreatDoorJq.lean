/-
  millracekeep.has: a book is just that of the first so many entries. Conditions: the book and both rows lie in memory.
-/
import Derived.Test.YtheadpemckoljaaGreatDoorJp
namespace Go.Proofs.YtheadpemckoljaaGreatDoor
open Go.RowKit Go.Extern.Stop Go.Stop Go.Extern Go.Maps Go.WideMaps

theorem names_count {l : List Ent} {ss : List (List UInt8)} {L : List (List UInt8 × Int)} (h : NamesOf l ss) (hS : SumsOf l L) (ha : Ap L) : ss.length = L.length := by
  have h1 : ss.Nodup := List.nodup_iff_pairwise_ne.2 (h.1.imp fun {x y} h (e : x = y) => List.lt_irrefl y (by rw [e] at h; exact h))
  have h2 : (L.map Prod.fst).Nodup := by
    rw [List.nodup_iff_pairwise_ne, List.pairwise_map]
    exact ha.imp fun h e => h e
  have h3 := perm_of_mem h1 h2 (fun x => by
    rw [h.2 x, ← hS.2 x]
    simp)
  have := h3.length_eq
  simpa using this
theorem take_take_mem {es : List Ent} {i r : Nat} (h : i ≤ r) {P : Ent → Prop} (hp : ∀ e ∈ es.take r, P e) : ∀ e ∈ es.take i, P e := by
  intro e he
  refine hp e ?_
  have : es.take i = (es.take r).take i := by rw [List.take_take, Nat.min_eq_left h]
  rw [this] at he
  exact List.mem_of_mem_take he
set_option maxRecDepth 100000 in
set_option maxHeartbeats 4000000 in
theorem has_any (c : Nat) (cm : Option Nat) (jv : Value) (su : Nat) (es : List Ent) (r B : Nat) (lx kx : Option Addr) (lc kc : Nat) (w : World) (hbk : BkAt w c cm jv su (es.take r)) (hr : r ≤ es.length)
    (hl : w.ownsRow B 9 1 (.slice lx es.length lc) es.length (encS es)) (hk : w.ownsRow B 3 1 (.slice kx es.length kc) es.length (encN es)) (hfew : es.length ≤ 60) :
    Calls Tryz.prog 26 #[.pointer (some ⟨c, 0, none⟩), .slice lx es.length lc, .slice kx es.length kc, .int .i64 (r : Nat)] w fun e w' => e = .returned (.bool true) ∧ Below w.heap.size w w' := by
  have hrl : (es.take r).length = r := by rw [List.length_take]; omega
  have HOK : Hid (∀ e ∈ es.take r, EntOk e) := hbk.ok
  have HLN : Hid (∀ W, Below w.heap.size w W → Calls Tryz.prog 16 #[.pointer (some ⟨c, 0, none⟩)] W fun e w' => e = .returned (.int .i64 (r : Nat)) ∧ Below W.heap.size W w') := fun W hb => by
    have := lines_any c cm jv su _ W (hbk.below hb)
    rw [hrl] at this
    exact this
  have HNM : Hid (∀ W, Below w.heap.size w W → Calls Tryz.prog 18 #[.pointer (some ⟨c, 0, none⟩)] W fun e w' => ∃ v ss, e = .returned v ∧ NamesOf (es.take r) ss ∧ w'.ownsRow W.heap.size 9 1 v ss.length (ss.map encStr) ∧ Below W.heap.size W w') := fun W hb => names_any c cm jv su _ W (hbk.below hb)
  have HGE : Hid (∀ W s, s.length ≤ maxLen → Below w.heap.size w W → Calls Tryz.prog 14 #[.pointer (some ⟨c, 0, none⟩), .string ⟨s.toArray⟩] W fun e w' => e = .returned (.int .i64 (sumE (es.take r) s)) ∧ Below W.heap.size W w') := fun W s hs hb => get_any c cm jv su _ s W (hbk.below hb) hs
  have HC1 : Hid (∀ (i : Nat) e, es[i]? = some e → ∃ g, lx = some ⟨g, 0, none⟩ ∧ w.cell? ⟨g, i, none⟩ = some (.string ⟨e.1.toArray⟩)) := fun i e he => by
    rcases owns_cells hl with ⟨_, h0⟩ | ⟨g, cc, hv, hc⟩
    · rw [List.length_eq_zero_iff.1 h0] at he; simp at he
    · simp only [Value.slice.injEq, true_and] at hv
      exact ⟨g, hv.1, hc i _ (by unfold encS; rw [List.getElem?_map, he]; rfl)⟩
  have HC2 : Hid (∀ (i : Nat) e, es[i]? = some e → ∃ g, kx = some ⟨g, 0, none⟩ ∧ w.cell? ⟨g, i, none⟩ = some (.int .i64 e.2)) := fun i e he => by
    rcases owns_cells hk with ⟨_, h0⟩ | ⟨g, cc, hv, hc⟩
    · rw [List.length_eq_zero_iff.1 h0] at he; simp at he
    · simp only [Value.slice.injEq, true_and] at hv
      exact ⟨g, hv.1, hc i _ (by unfold encN; rw [List.getElem?_map, he]; rfl)⟩
  have hq : ((r : Int) != r) = false := by simp
  have hgt : ¬ (es.length : Int) < r := by omega
  have hmm := @run_makeMap Tryz.prog
  clear hbk hl hk hrl
  go_enter Tryz.func26, Tryz.ntmps26
  go_wp2_with fail
  refine (HLN.out w (Below.refl _ _)).mono ?_
  rintro e w1 ⟨rfl, hb1⟩
  have HB1 : Hid (Below w.heap.size w w1) := hb1
  have HM0 : Hid (MpS (w1.alloc (.map #[] 0)) w1.heap.size []) := MpS.made w1
  have hm1 : w.heap.size ≤ w1.heap.size := hb1.size
  clear hb1
  go_wp2
  go_loopg [10] r (fun g v10 wx => ∃ (i : Nat) (L : List (List UInt8 × Int)), i + g = r ∧ v10 = .int .i64 i ∧ Hid (MpS wx w1.heap.size L) ∧ Hid (SumsOf (es.take i) L) ∧ Hid (Below w.heap.size w wx))
  case atStart => exact ⟨0, [], by omega, rfl, HM0.out, SumsOf.nil, below_alloc_ HB1.out _⟩
  case round =>
    obtain ⟨i, L, hig, rfl, HM, HS, HB⟩ := hrel
    by_cases hi : i < r
    · have hi1 : (i : Int) < r := by omega
      have hi2 : (i : Int) < es.length := by omega
      obtain ⟨e, he⟩ : ∃ e, es[i]? = some e := ⟨_, List.getElem?_eq_getElem (by omega)⟩
      have HE : Hid (es[i]? = some e) := he
      obtain ⟨g1, rfl, c1⟩ := HC1.out i e he
      obtain ⟨g2, rfl, c2⟩ := HC2.out i e he
      replace c1 := (HB.out.cell (p := ⟨g1, i, none⟩) (World.block_lt_of_cell? w _ c1)).trans c1
      replace c2 := (HB.out.cell (p := ⟨g2, i, none⟩) (World.block_lt_of_cell? w _ c2)).trans c2
      have heo : EntOk e := HOK.out e (List.mem_of_getElem? (i := i) (by rw [List.getElem?_take_of_lt hi]; exact he))
      have hs12 := (nameOk_len heo.1).2
      have hv := sumE_bd (take_take_mem (Nat.le_of_lt hi) HOK.out) e.1
      rw [← HS.out.1 e.1, List.length_take] at hv
      have he2 := heo.2
      obtain ⟨v, HV⟩ : ∃ v, Hid (vl L e.1 = v) := ⟨_, rfl⟩
      rw [HV.out] at hv
      have hvw : IntKind.i64.wrap (v + e.2) = v + e.2 := by rw [IntKind.wrap_i64]; omega
      have hMd : MpS wr.drew w1.heap.size L := HM.out.below (Below.refl _ _).drew
      have hlk := hMd.look (k := e.1) (by unfold maxLen; omega)
      rw [HV.out] at hlk
      obtain ⟨w3, hup, hm3, hg3⟩ := hMd.upd (k := e.1) (x := v + e.2) (by unfold maxLen; omega) ⟨by omega, by omega⟩ (by
        have := HS.out.few HM.out.ap
        rw [List.length_take] at this
        omega)
      have HM3 : Hid (MpS w3 w1.heap.size (putL e.1 (v + e.2) L)) := hm3
      have HB3 : Hid (Below w.heap.size w w3) := HB.out.drew.grown hg3 HB.out.size (fun j hj => by cases hj; exact hm1)
      have HS3 : Hid (SumsOf (es.take (i + 1)) (putL e.1 (v + e.2) L)) := by
        have := HS.out.snoc e
        rw [HV.out] at this
        have e2 : es.take (i + 1) = es.take i ++ [e] := by rw [List.take_add_one, HE.out]; rfl
        rw [e2]
        exact this
      clear he heo hs12 hv he2 hMd hm3 hg3
      go_upto_region 7 with (fail)
      go_region
      all_goals
        clear c1 c2 hlk hup
        go_wp2
        go_roundg (gk - 1)
        case measure => omega
        case rel => exact ⟨i + 1, putL e.1 (v + e.2) L, by omega, by go_num, HM3.out, HS3.out, HB3.out⟩
    · obtain rfl : i = r := by omega
      have hi1 : ¬ (i : Int) < i := by omega
      clear hi hgt
      go_wp2_with fail
      refine (HNM.out wr HB.out).mono ?_
      rintro e w2 ⟨v, ss, rfl, hn2, hr2, hb2⟩
      obtain ⟨nx, nc, rfl⟩ := owns_slice hr2
      have HN2 : Hid (NamesOf (es.take i) ss) := hn2
      have HR2 : Hid (w2.ownsRow wr.heap.size 9 1 (.slice nx ss.length nc) ss.length (ss.map encStr)) := hr2
      have HB2 : Hid (Below w.heap.size w w2) := HB.out.trans (hb2.mono HB.out.size)
      have HM2 : Hid (MpS w2 w1.heap.size L) := HM.out.below hb2
      have hsl : ss.length ≤ 60 := by
        have := names_len hn2
        rw [List.length_take] at this
        omega
      clear hn2 hr2 hb2
      go_wp2
      go_loopg [12] ss.length (fun g v12 wx => ∃ j : Nat, j + g = ss.length ∧ v12 = .int .i64 j ∧ Hid (Below w2.heap.size w2 wx))
      case atStart => exact ⟨0, by omega, rfl, Below.refl _ _⟩
      case round =>
        obtain ⟨j, hjg, rfl, HBJ⟩ := hrel
        by_cases hj : j < ss.length
        · have hj1 : (j : Int) < ss.length := by omega
          obtain ⟨s, hs⟩ : ∃ s, ss[j]? = some s := ⟨_, List.getElem?_eq_getElem hj⟩
          rcases owns_cells HR2.out with ⟨_, h0⟩ | ⟨g, cc, hv, hc⟩
          · omega
          simp only [Value.slice.injEq, true_and] at hv
          obtain ⟨rfl, rfl⟩ := hv
          have hcs : w2.cell? ⟨g, j, none⟩ = some (.string ⟨s.toArray⟩) := hc j _ (by rw [List.getElem?_map, hs]; rfl)
          have hsm : s.length ≤ maxLen := by
            obtain ⟨e, he, rfl⟩ := (HN2.out.2 s).1 (List.mem_of_getElem? hs)
            have := (nameOk_len (HOK.out e he).1).2
            unfold maxLen
            omega
          have HCS : Hid (∀ W, Below w2.heap.size w2 W → W.cell? ⟨g, j, none⟩ = some (.string ⟨s.toArray⟩)) := fun W hb => (hb.cell (p := ⟨g, j, none⟩) (World.block_lt_of_cell? w2 _ hcs)).trans hcs
          have HLK : Hid (∀ W, Below w2.heap.size w2 W → (Instr.lookup 26 (.map (some w1.heap.size)) (.string ⟨s.toArray⟩) false).run Tryz.prog W = .ok (.int .i64 (sumE (es.take i) s)) W) := fun W hb => by
            have := (HM2.out.below hb).look hsm
            rw [HS.out.1] at this
            exact this
          have HGS : Hid (∀ W, Below w2.heap.size w2 W → Calls Tryz.prog 14 #[.pointer (some ⟨c, 0, none⟩), .string ⟨s.toArray⟩] W fun e w' => e = .returned (.int .i64 (sumE (es.take i) s)) ∧ Below w2.heap.size w2 w') := fun W hb => (HGE.out W s hsm (HB2.out.trans (hb.mono HB2.out.size))).mono fun e w' ⟨a, b⟩ => ⟨a, hb.trans (b.mono hb.size)⟩
          generalize sumE (es.take i) s = sm at HLK HGS
          have hq1 : (sm != sm) = false := by simp
          clear hc hs hcs
          go_upto_region 12 with (fail)
          go_cut [64] (fun v wx => v = .bool false ∧ Hid (Below w2.heap.size w2 wx))
          case first =>
            go_region_held3 (fun W => W.cell? ⟨g, j, none⟩ = some (.string ⟨s.toArray⟩) ∧ (Instr.lookup 26 (.map (some w1.heap.size)) (.string ⟨s.toArray⟩) false).run Tryz.prog W = .ok (.int .i64 sm) W) (first | (with_reducible exact ⟨HCS.out _ HSa.out, HLK.out _ HSa.out⟩) | (with_reducible exact ⟨HCS.out _ HBJ.out.drew, HLK.out _ HBJ.out.drew⟩))
              ((go_at_call 14; refine (HGS.out _ HBJ.out.drew).mono ?_; rintro e Wa ⟨rfl, hba⟩; have HSa : Hid (Below w2.heap.size w2 Wa) := hba; clear hba))
            all_goals
              go_wp2
              go_meet
              case rel => exact ⟨rfl, HSa.out⟩
          case rest =>
          obtain ⟨rfl, HBK⟩ := hcut
          go_wp2
          go_roundg (gk - 1)
          case measure => omega
          case rel => exact ⟨j + 1, by omega, by go_num, HBK.out⟩
        · have hj1 : ¬ (j : Int) < ss.length := by omega
          obtain ⟨es', clock, hmb, hml⟩ := (HM2.out.below HBJ.out).len
          have hcount := names_count HN2.out HS.out HM2.out.ap
          have hfin : ((ss.length : Int) == (es'.size : Int)) = true := by simp; omega
          have hle : (Builtin.len_ #[26] 3 #[.map (some w1.heap.size)]).run Tryz.prog wr = .ok (.int .i64 (es'.size : Int)) wr := run_len_map wr _ _ _ _ _ (by kernel_rfl) hmb
          clear hml hcount
          go_wp2
          go_ret
          exact ⟨rfl, HB2.out.trans (HBJ.out.mono HB2.out.size)⟩
end Go.Proofs.YtheadpemckoljaaGreatDoor
