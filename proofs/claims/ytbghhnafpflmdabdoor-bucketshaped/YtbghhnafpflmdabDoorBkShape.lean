/-
  bucket.Shape: the errors; ErrFull where one may not go; else, in new memory, when each packet goes; nothing that was there before is otherwise. Conditions: errors.errorType holds its handle; the packets lie in memory.
-/
import Derived.Test.YtbghhnafpflmdabDoorBk3
import Derived.Test.YtbghhnafpflmdabDoorBkWhen
import Derived.Test.YtbghhnafpflmdabDoorToldI
import Derived.Maps.AppendAt
namespace Go.Proofs.YtbghhnafpflmdabDoor
open Go.RowKit Go.Extern.Stop Go.Stop Go.Extern

theorem shape_nob (n t R : Int) (l : Value) (w : World) (h : ¬ okB n t R) :
    Calls Tryd.prog 11 #[.agg #[.int .i64 n, .int .i64 t, .int .i64 R], l] w fun e w' => e = .returned (.tuple #[.slice none 0 0, .iface 57 (.int .i64 2)]) ∧ Below w.heap.size w w' := by
  have H : Hid (¬ okB n t R) := h
  clear h
  go_enter Tryd.func11, Tryd.ntmps11
  go_wp2_with (go_at_call 15; refine (open_nob _ _ _ _ _ H.out).mono ?_; rintro e w1 ⟨rfl, hb1⟩)
  go_ret2
  exact ⟨rfl, ((Below.refl _ _).alloc (Nat.le_refl _) _).trans (hb1.mono (by simp))⟩
theorem shape_nol (n t R : Int) (x : Option Addr) (cap : Nat) (xs : List It) (w : World) (h : okB n t R) (hl : ¬ okL xs) (hL : Laid w) (hI : ItemsAt w x xs) (hm : xs.length ≤ maxLen) :
    Calls Tryd.prog 11 #[.agg #[.int .i64 n, .int .i64 t, .int .i64 R], .slice x xs.length cap] w fun e w' => ∃ t' u', e = .returned (.tuple #[.slice none 0 0, .iface t' u']) ∧ ErrIs w' (.iface t' u') (listE xs).1 (listE xs).2 ∧ Below w.heap.size w w' := by
  have H : Hid (okB n t R) := h
  have HM : Hid (xs.length ≤ maxLen) := hm
  have HN : Hid (¬ okL xs) := hl
  have hL1 : Laid (w.alloc (.cells #[.int .i64 n, .int .i64 t, .int .i64 R] 25)) := hL.alloc _
  have hI1 : ItemsAt (w.alloc (.cells #[.int .i64 n, .int .i64 t, .int .i64 R] 25)) x xs := hI.below ((Below.refl _ _).alloc (Nat.le_refl _) _)
  clear h hm hl
  go_enter Tryd.func11, Tryd.ntmps11
  go_wp2_with (go_at_call 15; refine (open_nol _ _ _ _ _ _ _ H.out HN.out hL1 hI1 HM.out).mono ?_; rintro e w1 ⟨v, rfl, he, hb1⟩; obtain ⟨t', u', rfl⟩ := he.iface HN.out)
  go_ret2
  exact ⟨_, _, rfl, he, ((Below.refl _ _).alloc (Nat.le_refl _) _).trans (hb1.mono (by simp))⟩

theorem owns_oth {w w' : World} {base s : Nat} {e : TypeId} {size : Nat} {v : Value} {n : Nat} {xs : List Value} (hs : s < base) (h : w.ownsRow base e size v n xs) (ho : Oth (· = s) w w') : w'.ownsRow base e size v n xs := by
  refine ⟨h.1, ?_⟩
  rcases h.2 with h2 | ⟨g, cp, cur, hv, hg, hh, rest⟩
  · exact Or.inl h2
  · exact Or.inr ⟨g, cp, cur, hv, hg, by rw [ho.block g (lt_of_block hh) (by omega)]; exact hh, rest⟩
theorem StAt.grown {w w' : World} {s base : Nat} {n t R lev lat : Int} {v : Value} {e : TypeId} {size m : Nat} {xs : List Value} (h : StAt w s n t R lev lat) (hs : s < base) (ho : w.ownsRow base e size v m xs) (hg : w.grownBy w' v.ownBlock) : StAt w' s n t R lev lat :=
  (hg.block s h.lt (fun e => by have := (ho.lt s e.symm).1; omega)).trans h
theorem goes_draw {n t R : Int} {xs : List It} (hF : Fine xs) (hn : 1 ≤ n) (ht : 1 ≤ t) (hR : 0 ≤ R) {k : Nat} {x : It} (hx : xs[k]? = some x) (hG : Goes n t R xs k) (hl : x.l ≤ R) :
    drwB t (pas n t R (pas n t R (sst n t R xs k).1 (sst n t R xs k).2 x.a) (lat1 (sst n t R xs k).2 x.a) (goes n t R xs k)) x.l = true ∧ lat1 (lat1 (sst n t R xs k).2 x.a) (goes n t R xs k) = goes n t R xs k := by
  have hk : k < xs.length := (List.getElem?_eq_some_iff.1 hx).1
  obtain ⟨⟨h0, h1⟩, hl0, hl1⟩ := sst_inv hF hn ht hR k (by omega) hG
  have hp := pas_room (n := n) (t := t) (R := R) (lev := (sst n t R xs k).1) (lat := (sst n t R xs k).2) (now := x.a) hn h0 h1
  rw [goes_at hx]
  generalize pas n t R (sst n t R xs k).1 (sst n t R xs k).2 x.a = v at *
  generalize lat1 (sst n t R xs k).2 x.a = la at *
  obtain ⟨w1, w2, _⟩ := whn_bounds (n := n) (t := t) (lev := v) (lat := la) (l := x.l) hn
  constructor
  · unfold drwB
    rw [pas_eq w1 hp.2]
    rw [Int.sub_mul] at w2
    have h8 : x.l * t ≤ R * t := Int.mul_le_mul_of_nonneg_right hl (by omega)
    simp; omega
  · unfold lat1; split <;> omega

theorem goes_step {n t R : Int} {xs : List It} (hF : Fine xs) (hn : 1 ≤ n) (ht : 1 ≤ t) (hR : 0 ≤ R) {k : Nat} {x : It} (hx : xs[k]? = some x) (hG : Goes n t R xs k) (hl : x.l ≤ R) :
    sst n t R xs (k + 1) = (drw t (pas n t R (pas n t R (sst n t R xs k).1 (sst n t R xs k).2 x.a) (lat1 (sst n t R xs k).2 x.a) (goes n t R xs k)) x.l, lat1 (lat1 (sst n t R xs k).2 x.a) (goes n t R xs k)) := by
  obtain ⟨h1, h2⟩ := goes_draw hF hn ht hR hx hG hl
  rw [h2, sst_succ hx, ← goes_at hx]
  unfold drwB at h1
  rw [drw, if_pos (by simpa using h1)]

set_option maxHeartbeats 2000000 in
theorem shape_ok (n t R : Int) (x0 : Option Addr) (cap : Nat) (xs : List It) (w : World) (h : okB n t R) (hl : okL xs) (hL : Laid w) (hI : ItemsAt w x0 xs) :
    Calls Tryd.prog 11 #[.agg #[.int .i64 n, .int .i64 t, .int .i64 R], .slice x0 xs.length cap] w fun e w' => ((∃ v, e = .returned (.tuple #[v, .nilIface]) ∧ Goes n t R xs xs.length ∧ w'.ownsRow w.heap.size 3 1 v xs.length (toldI (goes n t R xs) xs.length)) ∨ (e = .returned (.tuple #[.slice none 0 0, .iface 57 (.int .i64 12)]) ∧ ¬ Goes n t R xs xs.length)) ∧ Below w.heap.size w w' := by
  obtain ⟨i0, hi, hz0, hz1, hz2⟩ := info_parts infoI
  obtain ⟨hF, h100⟩ := hl.fine
  have hm : xs.length ≤ maxLen := by unfold maxLen; omega
  have H : Hid (okB n t R) := h
  have HM : Hid (xs.length ≤ maxLen) := hm
  have HN : Hid (okL xs) := hl
  have HF : Hid (Fine xs) := hF
  have HI : Hid (ItemsAt w x0 xs) := hI
  have hL1 : Laid (w.alloc (.cells #[.int .i64 n, .int .i64 t, .int .i64 R] 25)) := hL.alloc _
  have hI1 : ItemsAt (w.alloc (.cells #[.int .i64 n, .int .i64 t, .int .i64 R] 25)) x0 xs := hI.below ((Below.refl _ _).alloc (Nat.le_refl _) _)
  clear h hm hl hF hI
  go_enter Tryd.func11, Tryd.ntmps11
  go_wp2_with (go_at_call 15; refine (open_yes _ _ _ _ _ _ _ H.out HN.out hL1 hI1 HM.out).mono ?_; rintro e w1 ⟨s, rfl, hs, hst, hb1⟩; have HST : Hid (StAt w1 s n t R (R * t) 0) := hst; clear hst)
  have hB : Below w.heap.size w w1 := ((Below.refl _ _).alloc (Nat.le_refl _) _).trans (hb1.mono (by simp))
  have hsw : w.heap.size ≤ s := by simp at hs; omega
  have hs1 : s < w1.heap.size := HST.out.lt
  clear hL1 hI1 hs hb1
  generalize hn : xs.length = m at *
  have HMM : Hid (xs.length = m) := hn
  clear hn
  go_loopw [8, 24] (fun v i wr => ∃ k : Nat, k ≤ m ∧ i = .int .i64 k ∧ Goes n t R xs k ∧ wr.ownsRow w1.heap.size 3 1 v k (toldI (goes n t R xs) k) ∧ StAt wr s n t R (sst n t R xs k).1 (sst n t R xs k).2 ∧ Below w.heap.size w wr ∧ w1.heap.size ≤ wr.heap.size) (fun _ i _ => m - (intOf i).toNat)
  case atStart => exact ⟨0, Nat.zero_le _, rfl, fun j y hj => absurd hj (Nat.not_lt_zero j), World.ownsRow_nil _ _ _ _, HST.out, hB, Nat.le_refl _⟩
  case round =>
    obtain ⟨k, hk, rfl, hG, hown, hst, hb, hz⟩ := hrel
    have HG : Hid (Goes n t R xs k) := hG
    have HO : Hid (wr.ownsRow w1.heap.size 3 1 u8 k (toldI (goes n t R xs) k)) := hown
    have HS : Hid (StAt wr s n t R (sst n t R xs k).1 (sst n t R xs k).2) := hst
    clear hG hown hst
    by_cases hlt : k < m
    · obtain ⟨x, hx⟩ : ∃ x, xs[k]? = some x := ⟨_, List.getElem?_eq_getElem (by have := HMM.out; omega)⟩
      have HX : Hid (xs[k]? = some x) := hx
      rcases HI.out with he | ⟨b, off, rfl, hI⟩
      · exfalso; rw [he] at hx; simp at hx
      obtain ⟨d0, d1, d2, d3, d4⟩ := hI k x hx
      have c0 : wr.cell? ⟨b, off + k * 5, none⟩ = some (.int .i64 x.a) := by rw [hb.cell (lt_of_cell d0)]; exact d0
      have c1 : wr.cell? ⟨b, off + k * 5 + 1, none⟩ = some (.int .i64 x.l) := by rw [hb.cell (lt_of_cell d1)]; exact d1
      have c2 : wr.cell? ⟨b, off + k * 5 + 2, none⟩ = some (.int .i64 x.f) := by rw [hb.cell (lt_of_cell d2)]; exact d2
      have c3 : wr.cell? ⟨b, off + k * 5 + 3, none⟩ = some (.int .i64 x.b) := by rw [hb.cell (lt_of_cell d3)]; exact d3
      have c4 : wr.cell? ⟨b, off + k * 5 + 4, none⟩ = some (.int .i64 x.m) := by rw [hb.cell (lt_of_cell d4)]; exact d4
      have hfx := (HF.out k x hx).1
      have hinv := sst_inv HF.out H.out.1.1 H.out.2.1.1 H.out.2.2.1 k (by have := HMM.out; omega) HG.out
      have hpr := pas_room (n := n) (t := t) (R := R) (lev := (sst n t R xs k).1) (lat := (sst n t R xs k).2) (now := x.a) H.out.1.1 hinv.1.1 hinv.1.2
      have hla : 0 ≤ lat1 (sst n t R xs k).2 x.a := by unfold lat1; split <;> omega
      have HWN := fun hle : x.l ≤ R => when_yes x.a x.l (wr.alloc (.cells #[.int .i64 x.a, .int .i64 x.l, .int .i64 x.f, .int .i64 x.b, .int .i64 x.m] 36)) (HS.out.alloc _) H.out hinv.1.1 hinv.1.2 hinv.2.1 hinv.2.2 (by omega) (by omega) hle
      simp only [← goes_at hx] at HWN
      have HW : Hid (x.l ≤ R → Calls Tryd.prog 22 #[.pointer (some ⟨s, 0, none⟩), .int .i64 x.a, .int .i64 x.l] (wr.alloc (.cells #[.int .i64 x.a, .int .i64 x.l, .int .i64 x.f, .int .i64 x.b, .int .i64 x.m] 36)) fun e w' => e = .returned (.tuple #[.int .i64 (goes n t R xs k), .bool true]) ∧ StAt w' s n t R (pas n t R (sst n t R xs k).1 (sst n t R xs k).2 x.a) (lat1 (sst n t R xs k).2 x.a) ∧ Oth (· = s) (wr.alloc (.cells #[.int .i64 x.a, .int .i64 x.l, .int .i64 x.f, .int .i64 x.b, .int .i64 x.m] 36)) w') := HWN
      have HV : Hid (((0 ≤ (sst n t R xs k).1 ∧ (sst n t R xs k).1 ≤ R * t) ∧ 0 ≤ (sst n t R xs k).2 ∧ (sst n t R xs k).2 ≤ 1000000000) ∧ (0 ≤ pas n t R (sst n t R xs k).1 (sst n t R xs k).2 x.a ∧ pas n t R (sst n t R xs k).1 (sst n t R xs k).2 x.a ≤ R * t) ∧ 0 ≤ lat1 (sst n t R xs k).2 x.a ∧ (0 ≤ x.a ∧ x.a ≤ 1000000000 ∧ 1 ≤ x.l ∧ x.l ≤ 10000)) := ⟨hinv, hpr, hla, hfx⟩
      have hbA : Below w.heap.size wr (wr.alloc (.cells #[.int .i64 x.a, .int .i64 x.l, .int .i64 x.f, .int .i64 x.b, .int .i64 x.m] 36)) := (Below.refl _ _).alloc hb.size _
      have hws : ¬ wr.heap.size = s := by omega
      have hoB : ∀ {a b : World}, Oth (· = s) a b → w.heap.size ≤ a.heap.size → Below w.heap.size a b := fun ho hz => ho.below hz (fun k e => by subst e; exact hsw)
      clear hx hinv hpr hla hfx HWN d0 d1 d2 d3 d4 hI
      by_cases hR : x.l ≤ R
      · have HR : Hid (x.l ≤ R) := hR
        clear hR
        go_wp2_with fail
        refine (HW.out HR.out).mono ?_
        rintro e w2 ⟨rfl, hs2, ho2⟩
        have HS2 : Hid (StAt w2 s n t R (pas n t R (sst n t R xs k).1 (sst n t R xs k).2 x.a) (lat1 (sst n t R xs k).2 x.a)) := hs2
        have q1 : w2.cell? ⟨wr.heap.size, 1, none⟩ = some (.int .i64 x.l) := by rw [ho2.cell (by simp) hws]; simp
        have hb2 : Below w.heap.size w w2 := (hb.trans hbA).trans (hoB ho2 (by simp; have := hb.size; omega))
        have hy2 : w1.heap.size ≤ w2.heap.size := by have := ho2.size; simp at this; omega
        have HO2 : Hid (w2.ownsRow w1.heap.size 3 1 u8 k (toldI (goes n t R xs) k)) := owns_oth hs1 (HO.out.alloc _) ho2
        clear hs2 c0 c1 c2 c3 c4
        by_cases hT : goes n t R xs k ≤ 1000000000
        · have HT : Hid (goes n t R xs k ≤ 1000000000) := hT
          have hgd := goes_draw HF.out H.out.1.1 H.out.2.1.1 H.out.2.2.1 HX.out HG.out HR.out
          have hgs := goes_step HF.out H.out.1.1 H.out.2.1.1 H.out.2.2.1 HX.out HG.out HR.out
          have HTK := take_yes (goes n t R xs k) x.l w2 HS2.out H.out HV.out.2.1.1 HV.out.2.1.2 HV.out.2.2.1 hT (by have := HV.out.2.2.2; omega) (by have := HV.out.2.2.2; omega)
          rw [hgd.1] at HTK
          have hG1 : Goes n t R xs (k + 1) := by
            intro j y hj hy
            by_cases hjk : j < k
            · exact HG.out j y hjk hy
            · obtain rfl : j = k := by omega
              have := HX.out
              rw [hy] at this
              obtain rfl := Option.some.inj this
              exact ⟨HR.out, HT.out⟩
          have HG1 : Hid (Goes n t R xs (k + 1)) := hG1
          have HTK' : Calls Tryd.prog 18 #[.pointer (some ⟨s, 0, none⟩), .int .i64 (goes n t R xs k), .int .i64 x.l] w2 fun e w' => e = .returned (.bool true) ∧ StAt w' s n t R (sst n t R xs (k + 1)).1 (sst n t R xs (k + 1)).2 ∧ Oth (· = s) w2 w' := by
            rw [hgs]; exact HTK
          have HT2 : Hid (Calls Tryd.prog 18 #[.pointer (some ⟨s, 0, none⟩), .int .i64 (goes n t R xs k), .int .i64 x.l] w2 fun e w' => e = .returned (.bool true) ∧ StAt w' s n t R (sst n t R xs (k + 1)).1 (sst n t R xs (k + 1)).2 ∧ Oth (· = s) w2 w') := HTK'
          clear hgd hgs HTK HTK' hG1 hT
          go_wp2_with fail
          refine HT2.out.mono ?_
          rintro e w3 ⟨rfl, hs3, ho3⟩
          have HS3 : Hid (StAt w3 s n t R (sst n t R xs (k + 1)).1 (sst n t R xs (k + 1)).2) := hs3
          have hb3 : Below w.heap.size w w3 := hb2.trans (hoB ho3 hb2.size)
          have hy3 : w1.heap.size ≤ w3.heap.size := by have := ho3.size; omega
          have hown3 : w3.ownsRow w1.heap.size 3 1 u8 k (toldI (goes n t R xs) k) := owns_oth hs1 HO2.out ho3
          clear hs3 q1
          go_wp2_with (at_builtin; refine wpList_append_own _ rfl _ _ 34 rfl w1.heap.size 3 i0 (.int .i64 0) 1 8 Tryd.underlying34 hi hz0 hz1 hz2 rfl (by decide) _ _ _ rfl (hown3.alloc _) ⟨w3.heap.size, 0, none⟩ 1 1 [.int .i64 (goes n t R xs k)] rfl rfl (cell_one_new _ _ _) (by simp [Value.oneCell']) (by unfold maxLen; omega) (by omega) (by simp; omega) ?_; intro v' w4 hown4 hgrow4 _)
          have hS4 : StAt w4 s n t R (sst n t R xs (k + 1)).1 (sst n t R xs (k + 1)).2 := (HS3.out.alloc _).grown hs1 (hown3.alloc _) hgrow4
          have hb4 : Below w.heap.size w w4 := (hb3.alloc hb3.size _).grown hgrow4 (by simp; have := hb3.size; omega) (fun j e => by have := (hown3.lt j e).1; have := hB.size; omega)
          have hy4 : w1.heap.size ≤ w4.heap.size := by have := hgrow4.size; simp at this; omega
          go_roundw
          case rel => exact ⟨k + 1, by omega, by go_num, HG1.out, by rw [toldI_succ]; exact hown4, hS4, hb4, hy4⟩
          case measure => simp [intOf]; omega
        · have HT : Hid (1000000000 < goes n t R xs k) := Int.not_le.1 hT
          have HTK := take_late (goes n t R xs k) x.l w2 HS2.out (Int.not_le.1 hT)
          have HT2 : Hid (Calls Tryd.prog 18 #[.pointer (some ⟨s, 0, none⟩), .int .i64 (goes n t R xs k), .int .i64 x.l] w2 fun e w' => e = .returned (.bool false) ∧ w' = w2) := HTK
          clear HTK hT
          go_wp2_with fail
          refine HT2.out.mono ?_
          rintro e w3 ⟨rfl, rfl⟩
          go_wp2
          go_ret2
          refine ⟨Or.inr ⟨rfl, fun hg => ?_⟩, hb2⟩
          have := (hg k x (by have := HMM.out; omega) HX.out).2
          have := HT.out
          omega
      · have HR : Hid (R < x.l) := Int.not_le.1 hR
        have HWN := when_no x.a x.l (wr.alloc (.cells #[.int .i64 x.a, .int .i64 x.l, .int .i64 x.f, .int .i64 x.b, .int .i64 x.m] 36)) (HS.out.alloc _) H.out HV.out.1.1.1 HV.out.1.1.2 HV.out.1.2.1 (by have := HV.out.2.2.2; omega) (by have := HV.out.2.2.2; omega) (Int.not_le.1 hR)
        have HW2 : Hid (Calls Tryd.prog 22 #[.pointer (some ⟨s, 0, none⟩), .int .i64 x.a, .int .i64 x.l] (wr.alloc (.cells #[.int .i64 x.a, .int .i64 x.l, .int .i64 x.f, .int .i64 x.b, .int .i64 x.m] 36)) fun e w' => e = .returned (.tuple #[.int .i64 0, .bool false]) ∧ StAt w' s n t R (pas n t R (sst n t R xs k).1 (sst n t R xs k).2 x.a) (lat1 (sst n t R xs k).2 x.a) ∧ Oth (· = s) (wr.alloc (.cells #[.int .i64 x.a, .int .i64 x.l, .int .i64 x.f, .int .i64 x.b, .int .i64 x.m] 36)) w') := HWN
        clear HWN hR
        go_wp2_with fail
        refine HW2.out.mono ?_
        rintro e w2 ⟨rfl, hs2, ho2⟩
        have hb2 : Below w.heap.size w w2 := (hb.trans hbA).trans (hoB ho2 (by simp; have := hb.size; omega))
        clear hs2 c0 c1 c2 c3 c4
        go_wp2
        go_ret2
        refine ⟨Or.inr ⟨rfl, fun hg => ?_⟩, hb2⟩
        have := (hg k x (by have := HMM.out; omega) HX.out).1
        have := HR.out
        omega
    · obtain rfl : k = m := by omega
      go_wp2
      go_ret2
      refine ⟨Or.inl ⟨u8, rfl, ?_, ?_⟩, hb⟩
      · rw [HMM.out]; exact HG.out
      · rw [HMM.out]
        refine ⟨HO.out.1, ?_⟩
        rcases HO.out.2 with h2 | ⟨g, cp, cur, hv, hg, r⟩
        · exact Or.inl h2
        · exact Or.inr ⟨g, cp, cur, hv, by have := hB.size; omega, r⟩
end Go.Proofs.YtbghhnafpflmdabDoor
