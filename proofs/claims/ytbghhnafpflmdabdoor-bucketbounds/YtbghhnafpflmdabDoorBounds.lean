/-
  millracekeep.BucketBounds is true at every bucket and every packets; nothing that was there before is otherwise. Conditions: errors.errorType holds its handle; the packets lie in memory.
-/
import Derived.Test.YtbghhnafpflmdabDoorPoured
import Derived.Test.YtbghhnafpflmdabDoorBkCf
import Derived.Test.YtbghhnafpflmdabDoorBounded
import Derived.Test.YtbghhnafpflmdabDoorToldI
import Derived.Deep.RegionHeld3
import Derived.Deep.RegionLawGrows
import Derived.Deep.DeepCutAuto
import Derived.Maps.AppendAt
namespace Go.Proofs.YtbghhnafpflmdabDoor
open Go.RowKit Go.Extern.Stop Go.Stop Go.Extern

theorem bounds_err (n t R : Int) (x : Option Addr) (cap : Nat) (xs : List It) (w : World) (h : ¬ (okB n t R ∧ okL xs)) (hL : Laid w) (hI : ItemsAt w x xs) (hm : xs.length ≤ maxLen) :
    Calls Tryd.prog 4 #[.agg #[.int .i64 n, .int .i64 t, .int .i64 R], .slice x xs.length cap] w fun e w' => e = .returned (.bool true) ∧ Below w.heap.size w w' := by
  have hC : ∀ W : World, Laid W → ItemsAt W x xs → Calls Tryd.prog 7 #[.agg #[.int .i64 n, .int .i64 t, .int .i64 R], .slice x xs.length cap] W fun e w' => ∃ t' u', e = .returned (.tuple #[.slice none 0 0, .iface t' u']) ∧ Below W.heap.size W w' := by
    intro W hL hI
    by_cases hb : okB n t R
    · exact (conform_nol n t R x cap xs W hb (fun hl => h ⟨hb, hl⟩) hL hI hm).mono (by rintro e w' ⟨t', u', rfl, _, hb⟩; exact ⟨_, _, rfl, hb⟩)
    · exact (conform_nob n t R _ W hb).mono (by rintro e w' ⟨rfl, hb⟩; exact ⟨_, _, rfl, hb⟩)
  have HC : Hid (∀ W : World, Laid W → ItemsAt W x xs → Calls Tryd.prog 7 #[.agg #[.int .i64 n, .int .i64 t, .int .i64 R], .slice x xs.length cap] W fun e w' => ∃ t' u', e = .returned (.tuple #[.slice none 0 0, .iface t' u']) ∧ Below W.heap.size W w') := hC
  have HL : Hid (Laid w) := hL
  have HI : Hid (ItemsAt w x xs) := hI
  clear hC hL hI hm h
  generalize xs.length = m at *
  go_enter Tryd.func4, Tryd.ntmps4
  go_wp2_with fail
  have hB0 : Below w.heap.size w (w.alloc (.cells #[.int .i64 n, .int .i64 t, .int .i64 R] 25)) := (Below.refl _ _).alloc (Nat.le_refl _) _
  refine (HC.out _ (HL.out.below hB0) (HI.out.below hB0)).mono ?_
  rintro e w1 ⟨t1, u1, rfl, hb1⟩
  have hB1 : Below w.heap.size w w1 := hB0.trans (hb1.mono (by simp))
  go_wp2_with fail
  refine (poured_true _).mono ?_
  rintro e w3 ⟨rfl, hb3⟩
  have hB3 : Below w.heap.size w w3 := hB1.trans (hb3.mono hB1.size)
  go_wp2_with fail
  refine (poured_true _).mono ?_
  rintro e w4 ⟨rfl, hb4⟩
  go_wp2
  go_ret
  exact ⟨rfl, hB3.trans (hb4.mono hB3.size)⟩

/-- A slice of numbers: nil where there are none, else a row. -/
def SlI (w : World) (v : Value) (l : List Int) : Prop := (l = [] ∧ v = .slice none 0 0) ∨ (l ≠ [] ∧ ∃ g cap, v = .slice (some ⟨g, 0, none⟩) l.length cap ∧ l.length ≤ cap ∧ ∀ j u, l[j]? = some u → w.cell? ⟨g, j, none⟩ = some (.int .i64 u))
theorem SlI.below {w w' : World} {v : Value} {l : List Int} (h : SlI w v l) (hb : Below w.heap.size w w') : SlI w' v l := by
  rcases h with h | ⟨h0, g, cap, h1, h2, h3⟩
  · exact Or.inl h
  · exact Or.inr ⟨h0, g, cap, h1, h2, fun j u hj => by rw [hb.cell (lt_of_cell (h3 j u hj))]; exact h3 j u hj⟩
theorem SlI.of_owns {w : World} {B : Nat} {v : Value} {l : List Int} {n : Nat} {cs : List Value} (h : w.ownsRow B 3 1 v n cs) (hn : n = l.length) (hc : cs = l.map (Value.int .i64)) (h0 : l ≠ []) : SlI w v l := by
  subst hn hc
  rcases h.2 with ⟨_, hc⟩ | ⟨g, cap, cur, hv, hg, hh, hn, _, hs, ht⟩
  · exact absurd (List.length_eq_zero_iff.1 hc) h0
  · refine Or.inr ⟨h0, g, cap, hv, hn, fun j u hj => ?_⟩
    have hlt := (List.getElem?_eq_some_iff.1 hj).1
    have h1 : cur.toList[j]? = some (.int .i64 u) := by
      have : (l.map (Value.int .i64))[j]? = some (.int .i64 u) := by simp [hj]
      rw [← ht, List.getElem?_take, if_pos (by omega)] at this
      exact this
    simp only [World.cell?, hh]
    simpa using h1
theorem okay_kept {n t R : Int} {xs : List It} (hF : Fine xs) (k : Nat) {x : It} (hx : xs[k]? = some x) : Okay (kept n t R xs k ++ [x]) := by
  intro j y hy
  have hm : y ∈ kept n t R xs k ++ [x] := List.mem_of_getElem? hy
  have : y ∈ xs := by
    rcases List.mem_append.1 hm with h | h
    · exact kept_mem k y h
    · simp at h; subst h; exact List.mem_of_getElem? hx
  obtain ⟨i, hi⟩ := List.getElem?_of_mem this
  exact (hF i y hi).1

theorem below_grown' {a w w' : World} (h : Below a.heap.size a w) (hg : w.grownBy w' none) : Below a.heap.size a w' := h.grown hg h.size (by simp)
theorem below_alloc' {a w : World} (h : Below a.heap.size a w) (o : Obj) : Below a.heap.size a (w.alloc o) := h.alloc h.size o
theorem one_at {w : World} {p : Nat} {v : Value} (h : w.cell? ⟨p, 0, none⟩ = some v) : ∀ (j : Nat) (u : Value), [v][j]? = some u → w.cell? ((⟨p, 0, none⟩ : Addr).add j) = some u := by
  intro j u hj
  match j, hj with
  | 0, hj => simp at hj; subst hj; simpa [Addr.add] using h

set_option maxRecDepth 20000 in
set_option maxHeartbeats 4000000 in
theorem bounds_yes (n t R : Int) (x0 : Option Addr) (cap : Nat) (xs : List It) (w : World) (h : okB n t R) (hl : okL xs) (hL : Laid w) (hI : ItemsAt w x0 xs) :
    Calls Tryd.prog 4 #[.agg #[.int .i64 n, .int .i64 t, .int .i64 R], .slice x0 xs.length cap] w fun e w' => e = .returned (.bool true) ∧ Below w.heap.size w w' := by
  obtain ⟨i0, hi, hz0, hz1, hz2⟩ := info_parts infoI
  obtain ⟨hF, h100⟩ := hl.fine
  have HL : Hid (Laid w) := hL
  have HI : Hid (ItemsAt w x0 xs) := hI
  have H : Hid (okB n t R) := h
  have HN : Hid (okL xs) := hl
  have HF : Hid (Fine xs) := hF
  clear hL hI h hl hF
  go_enter Tryd.func4, Tryd.ntmps4
  go_wp2_with fail
  have hB0 : Below w.heap.size w (w.alloc (.cells #[.int .i64 n, .int .i64 t, .int .i64 R] 25)) := (Below.refl _ _).alloc (Nat.le_refl _) _
  refine (conform_yes n t R x0 cap xs _ H.out HN.out (HL.out.below hB0) (HI.out.below hB0)).mono ?_
  rintro e w1 ⟨g1, rfl, hg1, hr1, hb1⟩
  have HR1 : Hid (RowB w1 g1 xs.length (bok n t R xs)) := hr1
  have c0 : w1.cell? ⟨w.heap.size, 0, none⟩ = some (.int .i64 n) := by rw [hb1.cell (by simp)]; simp
  have c1 : w1.cell? ⟨w.heap.size, 1, none⟩ = some (.int .i64 t) := by rw [hb1.cell (by simp)]; simp
  have c2 : w1.cell? ⟨w.heap.size, 2, none⟩ = some (.int .i64 R) := by rw [hb1.cell (by simp)]; simp
  have hB1 : Below w.heap.size w w1 := hB0.trans (hb1.mono (by simp))
  clear hr1 hg1 hb1
  have HK1 : Hid (w1.cell? ⟨w.heap.size, 0, none⟩ = some (.int .i64 n) ∧ w1.cell? ⟨w.heap.size, 1, none⟩ = some (.int .i64 t) ∧ w1.cell? ⟨w.heap.size, 2, none⟩ = some (.int .i64 R)) := ⟨c0, c1, c2⟩
  clear c0 c1 c2
  go_wp2_with fail
  refine (poured_true _).mono ?_
  rintro e w3 ⟨rfl, hb3⟩
  have hB3 : Below w.heap.size w w3 := hB1.trans (hb3.mono hB1.size)
  have hk : ∀ {a b : World} {p o : Nat} {v : Value}, Below a.heap.size a b → a.cell? ⟨p, o, none⟩ = some v → b.cell? ⟨p, o, none⟩ = some v := fun hb hc => (hb.cell (lt_of_cell hc)).trans hc
  have HA : Hid (RowB w3 g1 xs.length (bok n t R xs)) := HR1.out.kept (S := fun _ => False) (Oth.of_below hb3) id
  have HK3 : Hid (w3.cell? ⟨w.heap.size, 0, none⟩ = some (.int .i64 n) ∧ w3.cell? ⟨w.heap.size, 1, none⟩ = some (.int .i64 t) ∧ w3.cell? ⟨w.heap.size, 2, none⟩ = some (.int .i64 R)) := ⟨hk hb3 HK1.out.1, hk hb3 HK1.out.2.1, hk hb3 HK1.out.2.2⟩
  clear hb3 hB0 hB1
  go_wp2
  go_loopw [7, 8, 9] (fun va vb i wr => ∃ k : Nat, k ≤ xs.length ∧ i = .int .i64 k ∧ SlI wr va ((kept n t R xs k).map It.a) ∧ SlI wr vb ((kept n t R xs k).map It.l) ∧ Below w3.heap.size w3 wr) (fun _ _ i _ => xs.length - (intOf i).toNat)
  case atStart => exact ⟨0, Nat.zero_le _, rfl, Or.inl ⟨rfl, rfl⟩, Or.inl ⟨rfl, rfl⟩, Below.refl _ _⟩
  case round =>
    obtain ⟨k, hk', rfl, hsa, hsb, hbr⟩ := hrel
    have HSA : Hid (SlI wr u7 ((kept n t R xs k).map It.a)) := hsa
    have HSB : Hid (SlI wr u8 ((kept n t R xs k).map It.l)) := hsb
    have hBr : Below w.heap.size w wr := hB3.trans (hbr.mono hB3.size)
    by_cases hlt : k < xs.length
    · obtain ⟨x, hx⟩ : ∃ x, xs[k]? = some x := ⟨_, List.getElem?_eq_getElem hlt⟩
      have HX : Hid (xs[k]? = some x) := hx
      rcases HI.out with he | ⟨b, off, rfl, hI⟩
      · exfalso; rw [he] at hx; simp at hx
      obtain ⟨d0, d1, _, _, _⟩ := hI k x hx
      have c0 : wr.cell? ⟨b, off + k * 5, none⟩ = some (.int .i64 x.a) := by rw [hBr.cell (lt_of_cell d0)]; exact d0
      have c1 : wr.cell? ⟨b, off + k * 5 + 1, none⟩ = some (.int .i64 x.l) := by rw [hBr.cell (lt_of_cell d1)]; exact d1
      have hkl := kept_le n t R xs k
      clear hx hI d0 d1 hsa hsb
      have HSS : Hid (∀ w' : World, Below wr.heap.size wr w' → w'.cell? ⟨b, off + k * 5, none⟩ = some (.int .i64 x.a) ∧ w'.cell? ⟨b, off + k * 5 + 1, none⟩ = some (.int .i64 x.l) ∧ Below wr.heap.size wr w') := fun w' hb' => ⟨hk hb' c0, hk hb' c1, hb'⟩
      by_cases hE : kept n t R xs k = []
      · have HE : Hid (kept n t R xs k = []) := hE
        obtain rfl : u7 = .slice none 0 0 := by
          rcases HSA.out with ⟨_, h⟩ | ⟨h, _⟩
          · exact h
          · exact absurd (by rw [hE]; rfl) h
        obtain rfl : u8 = .slice none 0 0 := by
          rcases HSB.out with ⟨_, h⟩ | ⟨h, _⟩
          · exact h
          · exact absurd (by rw [hE]; rfl) h
        clear hE
        go_wp2
        go_cut [10, 11] (fun v1 v2 wx => SlI wx v1 ((kept n t R xs k ++ [x]).map It.a) ∧ SlI wx v2 ((kept n t R xs k ++ [x]).map It.l) ∧ Below wr.heap.size wr wx)
        case first =>
          go_region_held3 (fun w' => w'.cell? ⟨b, off + k * 5, none⟩ = some (.int .i64 x.a) ∧ w'.cell? ⟨b, off + k * 5 + 1, none⟩ = some (.int .i64 x.l) ∧ Below wr.heap.size wr w') ((refine HSS.out _ ?_; (repeat (first | exact Below.refl _ _ | assumption | refine Below.drew ?_ | refine below_alloc' ?_ _ | refine below_grown' ?_ hgA | refine below_grown' ?_ hgB)))) (first | (refine step_append_grows (by rfl) (.tmp 46) (.tmp 52) 34 (by rfl) 3 i0 (.int .i64 0) 1 8 Tryd.underlying34 hi hz0 hz1 hz2 rfl (by decide) none 0 0 [] (by rfl) (fun _ => ⟨rfl, rfl⟩) rfl (fun b hb => by cases hb) _ 1 1 [.int .i64 x.a] (by rfl) rfl (one_at (by first | (simp; done) | exact hgB.cell (by simp) (by simp))) (by simp [Value.oneCell']) (by omega) (by unfold maxLen; omega) (by omega) ?_; intro va wA hoA hgA) | (refine step_append_grows (by rfl) (.tmp 59) (.tmp 65) 34 (by rfl) 3 i0 (.int .i64 0) 1 8 Tryd.underlying34 hi hz0 hz1 hz2 rfl (by decide) none 0 0 [] (by rfl) (fun _ => ⟨rfl, rfl⟩) rfl (fun b hb => by cases hb) _ 1 1 [.int .i64 x.l] (by rfl) rfl (one_at (by first | (simp; done) | exact hgA.cell (by simp) (by simp))) (by simp [Value.oneCell']) (by omega) (by unfold maxLen; omega) (by omega) ?_; intro vb wB hoB hgB))
          all_goals
            go_wp2_with fail
            go_meet
            case rel => exact ⟨(SlI.of_owns hoA (by simp [HE.out]) (by simp [HE.out]) (by simp)).below (by (repeat (first | exact Below.refl _ _ | refine Below.drew ?_ | refine below_alloc' ?_ _ | refine below_grown' ?_ hgA | refine below_grown' ?_ hgB))), (SlI.of_owns hoB (by simp [HE.out]) (by simp [HE.out]) (by simp)).below (by (repeat (first | exact Below.refl _ _ | refine Below.drew ?_ | refine below_alloc' ?_ _ | refine below_grown' ?_ hgA | refine below_grown' ?_ hgB))), by (repeat (first | exact Below.refl _ _ | assumption | refine Below.drew ?_ | refine below_alloc' ?_ _ | refine below_grown' ?_ hgA | refine below_grown' ?_ hgB))⟩
        case rest =>
        obtain ⟨h1, h2, hbc⟩ := hcut
        have hl1 : ((kept n t R xs k ++ [x]).map It.a).length = (kept n t R xs k).length + 1 := by simp
        have hl2 : ((kept n t R xs k ++ [x]).map It.l).length = (kept n t R xs k).length + 1 := by simp
        have HS1 : Hid (SlI wc u10 ((kept n t R xs k ++ [x]).map It.a)) := h1
        have HS2 : Hid (SlI wc u11 ((kept n t R xs k ++ [x]).map It.l)) := h2
        rcases h1 with ⟨h, _⟩ | ⟨_, g2, cap2, rfl, hcap2, hcs2⟩
        · simp at h
        rcases h2 with ⟨h, _⟩ | ⟨_, g3, cap3, rfl, hcap3, hcs3⟩
        · simp at h
        have HT : Hid (Tms wc g2 (kept n t R xs k ++ [x])) := fun j y hy => hcs2 j y.a (by simp only [List.getElem?_map, hy, Option.map_some])
        have HBy : Hid (Bys wc g3 (kept n t R xs k ++ [x])) := fun j y hy => hcs3 j y.l (by simp only [List.getElem?_map, hy, Option.map_some])
        have hbw : Below w3.heap.size w3 wc := hbr.trans (hbc.mono hbr.size)
        have e0 : wc.cell? ⟨w.heap.size, 0, none⟩ = some (.int .i64 n) := hk hbw HK3.out.1
        have e1 : wc.cell? ⟨w.heap.size, 1, none⟩ = some (.int .i64 t) := hk hbw HK3.out.2.1
        have e2 : wc.cell? ⟨w.heap.size, 2, none⟩ = some (.int .i64 R) := hk hbw HK3.out.2.2
        have e3 : wc.cell? ⟨g1, k, none⟩ = some (.bool (bok n t R xs k)) := hk hbw (HA.out k hlt)
        have hlen : (kept n t R xs k ++ [x]).length = (kept n t R xs k).length + 1 := by simp
        have HBD := bounded_any n t R g2 cap2 g3 cap3 (kept n t R xs k ++ [x])
        rw [hlen] at HBD
        rw [hl1, hl2]
        rw [hl1] at HS1
        rw [hl2] at HS2
        have HBE : Hid (Bnd n t R (kept n t R xs k ++ [x]) ↔ bok n t R xs k = true) := bnd_iff HF.out H.out.1.1 H.out.2.1.1 H.out.2.2.1 HX.out (bnd_kept HF.out H.out.1.1 H.out.2.1.1 H.out.2.2.1 k (by omega))
        have HBC : Hid (∀ W : World, Below wc.heap.size wc W → Calls Tryd.prog 10 #[.agg #[.int .i64 n, .int .i64 t, .int .i64 R], .slice (some ⟨g2, 0, none⟩) ((kept n t R xs k).length + 1) cap2, .slice (some ⟨g3, 0, none⟩) ((kept n t R xs k).length + 1) cap3] W fun e w' => e = .returned (.bool (bok n t R xs k)) ∧ Below W.heap.size W w') := by
          intro W hW
          refine (HBD W H.out (okay_kept HF.out k HX.out) (by have := kept_le n t R xs k; omega) (fun j y hy => hk hW (HT.out j y hy)) (fun j y hy => hk hW (HBy.out j y hy))).mono ?_
          rintro e w' ⟨r, rfl, hr, hb'⟩
          have hrr : r = bok n t R xs k := by
            have := hr.trans HBE.out
            cases r <;> cases hh : bok n t R xs k <;> simp_all
          rw [hrr]; exact ⟨rfl, hb'⟩
        have HE3 : Hid (wc.cell? ⟨w.heap.size, 0, none⟩ = some (.int .i64 n) ∧ wc.cell? ⟨w.heap.size, 1, none⟩ = some (.int .i64 t) ∧ wc.cell? ⟨w.heap.size, 2, none⟩ = some (.int .i64 R) ∧ wc.cell? ⟨g1, k, none⟩ = some (.bool (bok n t R xs k))) := ⟨e0, e1, e2, e3⟩
        have HSC : Hid (∀ w' : World, Below wc.heap.size wc w' → w'.cell? ⟨w.heap.size, 0, none⟩ = some (.int .i64 n) ∧ w'.cell? ⟨w.heap.size, 1, none⟩ = some (.int .i64 t) ∧ w'.cell? ⟨w.heap.size, 2, none⟩ = some (.int .i64 R) ∧ w'.cell? ⟨g1, k, none⟩ = some (.bool (bok n t R xs k)) ∧ Below wc.heap.size wc w') := fun w' hb' => ⟨hk hb' e0, hk hb' e1, hk hb' e2, hk hb' e3, hb'⟩
        have HKS : Hid (kept n t R xs (k + 1) = if bok n t R xs k then kept n t R xs k ++ [x] else kept n t R xs k) := kept_succ HX.out
        clear HBD hcs2 hcs3 c0 c1 hl1 hl2 hlen e0 e1 e2 e3
        have hBc : Below w.heap.size w wc := hBr.trans (hbc.mono hBr.size)
        cases hbk : bok n t R xs k with
        | true =>
          rw [hbk] at HBC HSC HE3 HKS
          simp only [if_true] at HKS
          clear hbk
          go_wp2_with fail
          go_region_held3 (fun w' => w'.cell? ⟨w.heap.size, 0, none⟩ = some (.int .i64 n) ∧ w'.cell? ⟨w.heap.size, 1, none⟩ = some (.int .i64 t) ∧ w'.cell? ⟨w.heap.size, 2, none⟩ = some (.int .i64 R) ∧ w'.cell? ⟨g1, k, none⟩ = some (.bool true) ∧ Below wc.heap.size wc w') ((refine HSC.out _ ?_; first | exact (Below.refl _ _).drew | assumption | exact Below.refl _ _)) ((go_at_call 10; refine (HBC.out _ (by first | exact (Below.refl _ _).drew | assumption | exact Below.refl _ _)).mono ?_; rintro e w' ⟨rfl, hbb⟩; have hbq : Below wc.heap.size wc w' := Below.trans (b := wc.drew) (Below.refl _ _).drew hbb; have q3 := (HSC.out _ hbq).2.2.2.1))
          go_wp2
          go_roundw
          case rel => exact ⟨k + 1, by omega, by go_num, by rw [HKS.out]; exact HS1.out.below hbq, by rw [HKS.out]; exact HS2.out.below hbq, hbw.trans (hbq.mono hbw.size)⟩
          case measure => simp [intOf]; omega
        | false =>
          rw [hbk] at HBC HSC HE3 HKS
          simp only [Bool.false_eq_true, if_false] at HKS
          clear hbk
          go_wp2_with fail
          go_region_held3 (fun w' => w'.cell? ⟨w.heap.size, 0, none⟩ = some (.int .i64 n) ∧ w'.cell? ⟨w.heap.size, 1, none⟩ = some (.int .i64 t) ∧ w'.cell? ⟨w.heap.size, 2, none⟩ = some (.int .i64 R) ∧ w'.cell? ⟨g1, k, none⟩ = some (.bool false) ∧ Below wc.heap.size wc w') ((refine HSC.out _ ?_; first | exact (Below.refl _ _).drew | assumption | exact Below.refl _ _)) ((go_at_call 10; refine (HBC.out _ (by first | exact (Below.refl _ _).drew | assumption | exact Below.refl _ _)).mono ?_; rintro e w' ⟨rfl, hbb⟩; have hbq : Below wc.heap.size wc w' := Below.trans (b := wc.drew) (Below.refl _ _).drew hbb; have q3 := (HSC.out _ hbq).2.2.2.1))
          go_wp2
          go_roundw
          case rel => exact ⟨k + 1, by omega, by go_num, by rw [HKS.out]; exact HSA.out.below (hbc.trans (hbq.mono hbc.size)), by rw [HKS.out]; exact HSB.out.below (hbc.trans (hbq.mono hbc.size)), hbw.trans (hbq.mono hbw.size)⟩
          case measure => simp [intOf]; omega
      · have hEa : (kept n t R xs k).map It.a ≠ [] := by simpa using hE
        have hEl : (kept n t R xs k).map It.l ≠ [] := by simpa using hE
        rcases HSA.out with ⟨h, _⟩ | ⟨_, ga, ca, rfl, hca, hcsa⟩
        · exact absurd h hEa
        rcases HSB.out with ⟨h, _⟩ | ⟨_, gb, cb, rfl, hcb, hcsb⟩
        · exact absurd h hEl
        obtain ⟨q, hq⟩ : ∃ q, (kept n t R xs k).length = q := ⟨_, rfl⟩
        have HQ : Hid ((kept n t R xs k).length = q) := hq
        have HQA : Hid ((((kept n t R xs k).map It.a).map (Value.int .i64)).length = q * 1) := by unfold Hid; simp [hq]
        have HQB : Hid ((((kept n t R xs k).map It.l).map (Value.int .i64)).length = q * 1) := by unfold Hid; simp [hq]
        have HCA : Hid (∀ w' : World, Below wr.heap.size wr w' → ∀ (j : Nat) (u : Value), (((kept n t R xs k).map It.a).map (Value.int .i64))[j]? = some u → w'.cell? ((⟨ga, 0, none⟩ : Addr).add j) = some u) := by
          intro w' hb' j u hj
          rw [List.getElem?_map, Option.map_eq_some_iff] at hj
          obtain ⟨v, hv, rfl⟩ := hj
          have := hk hb' (hcsa j v hv)
          by_cases h0 : j = 0
          · subst h0; simpa [Addr.add] using this
          · simpa [Addr.add, h0] using this
        have HCB : Hid (∀ w' : World, Below wr.heap.size wr w' → ∀ (j : Nat) (u : Value), (((kept n t R xs k).map It.l).map (Value.int .i64))[j]? = some u → w'.cell? ((⟨gb, 0, none⟩ : Addr).add j) = some u) := by
          intro w' hb' j u hj
          rw [List.getElem?_map, Option.map_eq_some_iff] at hj
          obtain ⟨v, hv, rfl⟩ := hj
          have := hk hb' (hcsb j v hv)
          by_cases h0 : j = 0
          · subst h0; simpa [Addr.add] using this
          · simpa [Addr.add, h0] using this
        simp only [List.length_map, hq] at hca hcb
        rw [List.length_map, hq] at HSA
        rw [List.length_map, hq] at HSB
        rw [List.length_map, List.length_map, hq]
        rw [hq] at hkl
        have hca' : (q : Int) ≤ (ca : Int) := by omega
        have hcb' : (q : Int) ≤ (cb : Int) := by omega
        clear hE hEa hEl hcsa hcsb hq
        go_wp2
        go_cut [10, 11] (fun v1 v2 wx => SlI wx v1 ((kept n t R xs k ++ [x]).map It.a) ∧ SlI wx v2 ((kept n t R xs k ++ [x]).map It.l) ∧ Below wr.heap.size wr wx)
        case first =>
          go_region_held3 (fun w' => w'.cell? ⟨b, off + k * 5, none⟩ = some (.int .i64 x.a) ∧ w'.cell? ⟨b, off + k * 5 + 1, none⟩ = some (.int .i64 x.l) ∧ Below wr.heap.size wr w') ((refine HSS.out _ ?_; (repeat (first | exact Below.refl _ _ | assumption | refine Below.drew ?_ | refine below_alloc' ?_ _ | refine below_grown' ?_ hgA | refine below_grown' ?_ hgB)))) (first | (refine step_append_grows (by rfl) (.tmp 46) (.tmp 52) 34 (by rfl) 3 i0 (.int .i64 0) 1 8 Tryd.underlying34 hi hz0 hz1 hz2 rfl (by decide) (some ⟨ga, 0, none⟩) q q (((kept n t R xs k).map It.a).map (Value.int .i64)) (by rfl) (fun h => by cases h) HQA.out (fun b hb => by cases hb; exact HCA.out _ (by (repeat (first | exact Below.refl _ _ | assumption | refine Below.drew ?_ | refine below_alloc' ?_ _ | refine below_grown' ?_ hgA | refine below_grown' ?_ hgB)))) _ 1 1 [.int .i64 x.a] (by rfl) rfl (one_at (by first | (simp; done) | exact hgB.cell (by simp) (by simp))) (by simp [Value.oneCell']) (by omega) (by unfold maxLen; omega) (by omega) ?_; intro va wA hoA hgA) | (refine step_append_grows (by rfl) (.tmp 59) (.tmp 65) 34 (by rfl) 3 i0 (.int .i64 0) 1 8 Tryd.underlying34 hi hz0 hz1 hz2 rfl (by decide) (some ⟨gb, 0, none⟩) q q (((kept n t R xs k).map It.l).map (Value.int .i64)) (by rfl) (fun h => by cases h) HQB.out (fun b hb => by cases hb; exact HCB.out _ (by (repeat (first | exact Below.refl _ _ | assumption | refine Below.drew ?_ | refine below_alloc' ?_ _ | refine below_grown' ?_ hgA | refine below_grown' ?_ hgB)))) _ 1 1 [.int .i64 x.l] (by rfl) rfl (one_at (by first | (simp; done) | exact hgA.cell (by simp) (by simp))) (by simp [Value.oneCell']) (by omega) (by unfold maxLen; omega) (by omega) ?_; intro vb wB hoB hgB))
          all_goals
            go_wp2_with fail
            go_meet
            case rel => exact ⟨(SlI.of_owns hoA (by simp [HQ.out]) (by simp) (by simp)).below (by (repeat (first | exact Below.refl _ _ | refine Below.drew ?_ | refine below_alloc' ?_ _ | refine below_grown' ?_ hgA | refine below_grown' ?_ hgB))), (SlI.of_owns hoB (by simp [HQ.out]) (by simp) (by simp)).below (by (repeat (first | exact Below.refl _ _ | refine Below.drew ?_ | refine below_alloc' ?_ _ | refine below_grown' ?_ hgA | refine below_grown' ?_ hgB))), by (repeat (first | exact Below.refl _ _ | assumption | refine Below.drew ?_ | refine below_alloc' ?_ _ | refine below_grown' ?_ hgA | refine below_grown' ?_ hgB))⟩
        case rest =>
        obtain ⟨h1, h2, hbc⟩ := hcut
        have hl1 : ((kept n t R xs k ++ [x]).map It.a).length = (kept n t R xs k).length + 1 := by simp
        have hl2 : ((kept n t R xs k ++ [x]).map It.l).length = (kept n t R xs k).length + 1 := by simp
        have HS1 : Hid (SlI wc u10 ((kept n t R xs k ++ [x]).map It.a)) := h1
        have HS2 : Hid (SlI wc u11 ((kept n t R xs k ++ [x]).map It.l)) := h2
        rcases h1 with ⟨h, _⟩ | ⟨_, g2, cap2, rfl, hcap2, hcs2⟩
        · simp at h
        rcases h2 with ⟨h, _⟩ | ⟨_, g3, cap3, rfl, hcap3, hcs3⟩
        · simp at h
        have HT : Hid (Tms wc g2 (kept n t R xs k ++ [x])) := fun j y hy => hcs2 j y.a (by simp only [List.getElem?_map, hy, Option.map_some])
        have HBy : Hid (Bys wc g3 (kept n t R xs k ++ [x])) := fun j y hy => hcs3 j y.l (by simp only [List.getElem?_map, hy, Option.map_some])
        have hbw : Below w3.heap.size w3 wc := hbr.trans (hbc.mono hbr.size)
        have e0 : wc.cell? ⟨w.heap.size, 0, none⟩ = some (.int .i64 n) := hk hbw HK3.out.1
        have e1 : wc.cell? ⟨w.heap.size, 1, none⟩ = some (.int .i64 t) := hk hbw HK3.out.2.1
        have e2 : wc.cell? ⟨w.heap.size, 2, none⟩ = some (.int .i64 R) := hk hbw HK3.out.2.2
        have e3 : wc.cell? ⟨g1, k, none⟩ = some (.bool (bok n t R xs k)) := hk hbw (HA.out k hlt)
        have hlen : (kept n t R xs k ++ [x]).length = (kept n t R xs k).length + 1 := by simp
        have HBD := bounded_any n t R g2 cap2 g3 cap3 (kept n t R xs k ++ [x])
        rw [hlen] at HBD
        rw [hl1, hl2]
        rw [hl1] at HS1
        rw [hl2] at HS2
        have HBE : Hid (Bnd n t R (kept n t R xs k ++ [x]) ↔ bok n t R xs k = true) := bnd_iff HF.out H.out.1.1 H.out.2.1.1 H.out.2.2.1 HX.out (bnd_kept HF.out H.out.1.1 H.out.2.1.1 H.out.2.2.1 k (by omega))
        have HBC : Hid (∀ W : World, Below wc.heap.size wc W → Calls Tryd.prog 10 #[.agg #[.int .i64 n, .int .i64 t, .int .i64 R], .slice (some ⟨g2, 0, none⟩) ((kept n t R xs k).length + 1) cap2, .slice (some ⟨g3, 0, none⟩) ((kept n t R xs k).length + 1) cap3] W fun e w' => e = .returned (.bool (bok n t R xs k)) ∧ Below W.heap.size W w') := by
          intro W hW
          refine (HBD W H.out (okay_kept HF.out k HX.out) (by have := kept_le n t R xs k; omega) (fun j y hy => hk hW (HT.out j y hy)) (fun j y hy => hk hW (HBy.out j y hy))).mono ?_
          rintro e w' ⟨r, rfl, hr, hb'⟩
          have hrr : r = bok n t R xs k := by
            have := hr.trans HBE.out
            cases r <;> cases hh : bok n t R xs k <;> simp_all
          rw [hrr]; exact ⟨rfl, hb'⟩
        have HE3 : Hid (wc.cell? ⟨w.heap.size, 0, none⟩ = some (.int .i64 n) ∧ wc.cell? ⟨w.heap.size, 1, none⟩ = some (.int .i64 t) ∧ wc.cell? ⟨w.heap.size, 2, none⟩ = some (.int .i64 R) ∧ wc.cell? ⟨g1, k, none⟩ = some (.bool (bok n t R xs k))) := ⟨e0, e1, e2, e3⟩
        have HSC : Hid (∀ w' : World, Below wc.heap.size wc w' → w'.cell? ⟨w.heap.size, 0, none⟩ = some (.int .i64 n) ∧ w'.cell? ⟨w.heap.size, 1, none⟩ = some (.int .i64 t) ∧ w'.cell? ⟨w.heap.size, 2, none⟩ = some (.int .i64 R) ∧ w'.cell? ⟨g1, k, none⟩ = some (.bool (bok n t R xs k)) ∧ Below wc.heap.size wc w') := fun w' hb' => ⟨hk hb' e0, hk hb' e1, hk hb' e2, hk hb' e3, hb'⟩
        have HKS : Hid (kept n t R xs (k + 1) = if bok n t R xs k then kept n t R xs k ++ [x] else kept n t R xs k) := kept_succ HX.out
        clear HBD hcs2 hcs3 c0 c1 hl1 hl2 hlen e0 e1 e2 e3
        have hBc : Below w.heap.size w wc := hBr.trans (hbc.mono hBr.size)
        cases hbk : bok n t R xs k with
        | true =>
          rw [hbk] at HBC HSC HE3 HKS
          simp only [if_true] at HKS
          clear hbk
          go_wp2_with fail
          go_region_held3 (fun w' => w'.cell? ⟨w.heap.size, 0, none⟩ = some (.int .i64 n) ∧ w'.cell? ⟨w.heap.size, 1, none⟩ = some (.int .i64 t) ∧ w'.cell? ⟨w.heap.size, 2, none⟩ = some (.int .i64 R) ∧ w'.cell? ⟨g1, k, none⟩ = some (.bool true) ∧ Below wc.heap.size wc w') ((refine HSC.out _ ?_; first | exact (Below.refl _ _).drew | assumption | exact Below.refl _ _)) ((go_at_call 10; refine (HBC.out _ (by first | exact (Below.refl _ _).drew | assumption | exact Below.refl _ _)).mono ?_; rintro e w' ⟨rfl, hbb⟩; have hbq : Below wc.heap.size wc w' := Below.trans (b := wc.drew) (Below.refl _ _).drew hbb; have q3 := (HSC.out _ hbq).2.2.2.1))
          go_wp2
          go_roundw
          case rel => exact ⟨k + 1, by omega, by go_num, by rw [HKS.out]; exact HS1.out.below hbq, by rw [HKS.out]; exact HS2.out.below hbq, hbw.trans (hbq.mono hbw.size)⟩
          case measure => simp [intOf]; omega
        | false =>
          rw [hbk] at HBC HSC HE3 HKS
          simp only [Bool.false_eq_true, if_false] at HKS
          clear hbk
          go_wp2_with fail
          go_region_held3 (fun w' => w'.cell? ⟨w.heap.size, 0, none⟩ = some (.int .i64 n) ∧ w'.cell? ⟨w.heap.size, 1, none⟩ = some (.int .i64 t) ∧ w'.cell? ⟨w.heap.size, 2, none⟩ = some (.int .i64 R) ∧ w'.cell? ⟨g1, k, none⟩ = some (.bool false) ∧ Below wc.heap.size wc w') ((refine HSC.out _ ?_; first | exact (Below.refl _ _).drew | assumption | exact Below.refl _ _)) ((go_at_call 10; refine (HBC.out _ (by first | exact (Below.refl _ _).drew | assumption | exact Below.refl _ _)).mono ?_; rintro e w' ⟨rfl, hbb⟩; have hbq : Below wc.heap.size wc w' := Below.trans (b := wc.drew) (Below.refl _ _).drew hbb; have q3 := (HSC.out _ hbq).2.2.2.1))
          go_wp2
          go_roundw
          case rel => exact ⟨k + 1, by omega, by go_num, by rw [HKS.out]; exact HSA.out.below (hbc.trans (hbq.mono hbc.size)), by rw [HKS.out]; exact HSB.out.below (hbc.trans (hbq.mono hbc.size)), hbw.trans (hbq.mono hbw.size)⟩
          case measure => simp [intOf]; omega
    · go_wp2
      go_ret
      exact ⟨rfl, hBr⟩
theorem bounds_any (n t R : Int) (x : Option Addr) (cap : Nat) (xs : List It) (w : World) (hL : Laid w) (hI : ItemsAt w x xs) (hm : xs.length ≤ maxLen) :
    Calls Tryd.prog 4 #[.agg #[.int .i64 n, .int .i64 t, .int .i64 R], .slice x xs.length cap] w fun e w' => e = .returned (.bool true) ∧ Below w.heap.size w w' := by
  by_cases h : okB n t R ∧ okL xs
  · exact bounds_yes n t R x cap xs w h.1 h.2 hL hI
  · exact bounds_err n t R x cap xs w h hL hI hm
end Go.Proofs.YtbghhnafpflmdabDoor
