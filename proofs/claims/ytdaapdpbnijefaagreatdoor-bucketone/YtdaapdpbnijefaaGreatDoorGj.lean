/-
  bucket.One: the errors; else, in new memory, the colors by one rate and two rooms; nothing that was there before is otherwise. Conditions: errors.errorType holds its handle; the packets lie in memory.
  bucket.One, whole: the errors; else, in new memory, the colors by one rate and two rooms; nothing that was there before is otherwise. Conditions: errors.errorType holds its handle; the packets lie in memory.
-/
import Derived.Test.YtdaapdpbnijefaaGreatDoorGf
import Derived.Deep.DeepCutAuto
namespace Go.Proofs.YtdaapdpbnijefaaGreatDoor
open Go.RowKit Go.Extern.Stop Go.Stop Go.Extern

theorem entersOne (args : Array Value) (W : World) : (callFunc 44 args).run Tryz.prog W = .ok (.enter 44 args) W := enters_of Tryz.func44 (by kernel_rfl) rfl args W

theorem ovr_top {n t R lev lat now : Int} (hn0 : 0 ≤ n) (hn1 : n ≤ 1000000) (h0 : 0 ≤ lev) (h1 : lev ≤ 1000000000000) (hr : 0 ≤ R * t) (ht0 : 0 ≤ lat) (ht1 : now ≤ 1000000000) : ovr n t R lev lat now ≤ 2000000000000000 := by
  unfold ovr
  split
  · omega
  · have := (prod_bounds (n := n) (R := now - lat) (a := 1000000) (b := 1000000000) hn0 hn1 (by omega) (by omega)).2
    split <;> omega
theorem pou_room {t E lev more : Int} (h0 : 0 ≤ lev) (h1 : lev ≤ E * t) (hm : 0 ≤ more) : 0 ≤ pou t E lev more ∧ pou t E lev more ≤ E * t := by
  unfold pou
  split <;> omega
/-- The color, and what is left in the second room. -/
def colO (t p q l : Int) : Int := if drwB t p l then 1 else if drwB t q l then 2 else 3
def lefO (t p q l : Int) : Int := if drwB t p l then q else drw t q l

set_option maxHeartbeats 1000000 in
theorem one1_any {n t R E lev lat lev2 lat2 : Int} (x : It) {s s2 c c2 : Nat} (w : World) (hc : w.cell? ⟨c, 0, none⟩ = some (.pointer (some ⟨s, 0, none⟩))) (hc2 : w.cell? ⟨c2, 0, none⟩ = some (.pointer (some ⟨s2, 0, none⟩))) (h : StAt w s n t R lev lat) (h2 : StAt w s2 n t E lev2 lat2) (hne : ¬ s = s2) (hb : okB n t R) (hb2 : okB n t E) (hl0 : 0 ≤ lev) (hl1 : lev ≤ R * t) (hm0 : 0 ≤ lev2) (hm1 : lev2 ≤ E * t) (ht0 : 0 ≤ lat) (ht1 : x.a ≤ 1000000000) (hx0 : 0 ≤ x.l) (hx1 : x.l ≤ 1000000) :
    Calls Tryz.prog 44 #[.agg #[.int .i64 x.a, .int .i64 x.l, .int .i64 x.f, .int .i64 x.b, .int .i64 x.m], .pointer (some ⟨c2, 0, none⟩), .pointer (some ⟨c, 0, none⟩)] w fun e w' => e = .returned (.int .i64 (colO t (pas n t R lev lat x.a) (pou t E lev2 (ovr n t R lev lat x.a)) x.l)) ∧ StAt w' s n t R (drw t (pas n t R lev lat x.a) x.l) (lat1 lat x.a) ∧ StAt w' s2 n t E (lefO t (pas n t R lev lat x.a) (pou t E lev2 (ovr n t R lev lat x.a)) x.l) lat2 ∧ Oth (fun k => k = s ∨ k = s2) w w' := by
  have hcs : ¬ c = s := by
    rintro rfl
    have := h.cells.1
    rw [hc] at this; simp at this
  have hcs2 : ¬ c = s2 := by
    rintro rfl
    have := h2.cells.1
    rw [hc] at this; simp at this
  have hc2s : ¬ c2 = s := by
    rintro rfl
    have := h.cells.1
    rw [hc2] at this; simp at this
  have hc2s2 : ¬ c2 = s2 := by
    rintro rfl
    have := h2.cells.1
    rw [hc2] at this; simp at this
  have hr := hb.room
  have hr2 := hb2.room
  have hp := pas_room (n := n) (t := t) (R := R) (lat := lat) (now := x.a) hb.1.1 hl0 hl1
  have ho0 : 0 ≤ ovr n t R lev lat x.a := ovr_bounds
  have ho1 : ovr n t R lev lat x.a ≤ 2000000000000000 := ovr_top (by have := hb.1; omega) hb.1.2 hl0 (by omega) hr.1 ht0 ht1
  have hq := pou_room (t := t) (E := E) (lev := lev2) (more := ovr n t R lev lat x.a) hm0 hm1 ho0
  have hcl := lt_of_cell hc
  have hcl2 := lt_of_cell hc2
  have hsl := h.lt
  have hsl2 := h2.lt
  obtain ⟨W0, hW0⟩ : ∃ W0, W0 = w.alloc (.cells #[.int .i64 x.a, .int .i64 x.l, .int .i64 x.f, .int .i64 x.b, .int .i64 x.m] 61) := ⟨_, rfl⟩
  have k1 : W0.cell? ⟨c, 0, none⟩ = some (.pointer (some ⟨s, 0, none⟩)) := by rw [hW0, World.cell?_alloc_lt _ _ ⟨c, 0, none⟩ hcl]; exact hc
  have k2 : W0.cell? ⟨c2, 0, none⟩ = some (.pointer (some ⟨s2, 0, none⟩)) := by rw [hW0, World.cell?_alloc_lt _ _ ⟨c2, 0, none⟩ hcl2]; exact hc2
  have k3 : W0.cell? ⟨w.heap.size, 0, none⟩ = some (.int .i64 x.a) := by rw [hW0]; simp
  have k4 : W0.cell? ⟨w.heap.size, 1, none⟩ = some (.int .i64 x.l) := by rw [hW0]; simp
  have HS : Hid (StAt W0 s n t R lev lat) := by rw [hW0]; exact h.alloc _
  have HS2 : Hid (StAt W0 s2 n t E lev2 lat2) := by rw [hW0]; exact h2.alloc _
  have HO : Hid (Oth (fun k => k = s ∨ k = s2) w W0) := by rw [hW0]; exact (Oth.refl _ _).alloc _
  have hws : ¬ w.heap.size = s := by omega
  have hws2 : ¬ w.heap.size = s2 := by omega
  have hsz : W0.heap.size = w.heap.size + 1 := by rw [hW0]; simp
  have HW : Hid (W0 = w.alloc (.cells #[.int .i64 x.a, .int .i64 x.l, .int .i64 x.f, .int .i64 x.b, .int .i64 x.m] 61)) := hW0
  have HN : Hid (¬ s = s2) := hne
  have HB : Hid (okB n t R) := hb
  have HB2 : Hid (okB n t E) := hb2
  have HP : Hid (0 ≤ pas n t R lev lat x.a ∧ pas n t R lev lat x.a ≤ R * t) := hp
  have HQ : Hid (0 ≤ pou t E lev2 (ovr n t R lev lat x.a) ∧ pou t E lev2 (ovr n t R lev lat x.a) ≤ E * t) := hq
  have HF : Hid ((0 ≤ lev ∧ lev ≤ R * t) ∧ (0 ≤ lev2 ∧ lev2 ≤ E * t) ∧ 0 ≤ lat ∧ x.a ≤ 1000000000 ∧ 0 ≤ x.l ∧ x.l ≤ 1000000 ∧ 0 ≤ E * t ∧ E * t ≤ 1000000000000) := ⟨⟨hl0, hl1⟩, ⟨hm0, hm1⟩, ht0, ht1, hx0, hx1, hr2.1, hr2.2⟩
  have HV : Hid (0 ≤ ovr n t R lev lat x.a ∧ ovr n t R lev lat x.a ≤ 2000000000000000) := ⟨ho0, ho1⟩
  -- what a call that writes s alone, or s2 alone, leaves
  have hk : ∀ {a b : World} {S : Nat → Prop} {p : Nat} {o : Nat} {v : Value}, Oth S a b → a.cell? ⟨p, o, none⟩ = some v → ¬ S p → b.cell? ⟨p, o, none⟩ = some v := fun ho hc hs => (ho.cell (lt_of_cell hc) hs).trans hc
  clear hc hc2 h h2 hne hb hb2 hp hq hl0 hl1 hm0 hm1 ht0 ht1 hx0 hx1 hr hr2 ho0 ho1 hW0
  go_enter Tryz.func44, Tryz.ntmps44
  go_wp2
  rw [← HW.out]
  go_cut [4] (fun v wx => v = .int .i64 0 ∧ wx.cell? ⟨c, 0, none⟩ = some (.pointer (some ⟨s, 0, none⟩)) ∧ wx.cell? ⟨c2, 0, none⟩ = some (.pointer (some ⟨s2, 0, none⟩)) ∧ wx.cell? ⟨w.heap.size, 1, none⟩ = some (.int .i64 x.l) ∧ StAt wx s n t R (pas n t R lev lat x.a) (lat1 lat x.a) ∧ StAt wx s2 n t E (pou t E lev2 (ovr n t R lev lat x.a)) lat2 ∧ Oth (fun k => k = s ∨ k = s2) w wx)
  case first =>
    go_region_with (first
      | (go_at_call 46; refine (pass_any x.a _ (by exact HS.out) HB.out HF.out.1.1 HF.out.1.2 HF.out.2.2.1 HF.out.2.2.2.1).mono ?_; rintro e w1 ⟨rfl, hs1, ho1⟩; have q1 := hk (a := W0.drew) ho1 k1 hcs; have q2 := hk (a := W0.drew) ho1 k2 hc2s; have q3 := hk (a := W0.drew) ho1 k3 hws; have q4 := hk (a := W0.drew) ho1 k4 hws; have HS1 : Hid (StAt w1 s n t R (pas n t R lev lat x.a) (lat1 lat x.a)) := hs1; clear hs1)
      | (go_at_call 45; refine (pour_any _ _ (by exact StG.kept (w := W0.drew) HS2.out ho1 (fun e => HN.out e.symm)) HF.out.2.2.2.2.2.2.1 HF.out.2.2.2.2.2.2.2 HF.out.2.1.1 HF.out.2.1.2 HV.out.1 HV.out.2).mono ?_; rintro e w2 ⟨rfl, hs2, ho2⟩; have r1 := hk ho2 q1 hcs2; have r2 := hk ho2 q2 hc2s2; have r4 := hk ho2 q4 hws2; have HS22 : Hid (StAt w2 s2 n t E (pou t E lev2 (ovr n t R lev lat x.a)) lat2) := hs2; have HS12 : Hid (StAt w2 s n t R (pas n t R lev lat x.a) (lat1 lat x.a)) := HS1.out.kept ho2 (fun e => HN.out e); have HO2 : Hid (Oth (fun k => k = s ∨ k = s2) w w2) := (HO.out.drew.trans (ho1.mono (fun _ e => Or.inl e))).trans (ho2.mono (fun _ e => Or.inr e)); clear hs2))
    all_goals
      go_wp2_with fail
      go_meet
      case rel => exact ⟨rfl, r1, r2, r4, HS12.out, HS22.out, HO2.out⟩
  case rest =>
  obtain ⟨rfl, r1, r2, r4, hs12, hs22, ho2⟩ := hcut
  have HS12 : Hid (StAt wc s n t R (pas n t R lev lat x.a) (lat1 lat x.a)) := hs12
  have HS22 : Hid (StAt wc s2 n t E (pou t E lev2 (ovr n t R lev lat x.a)) lat2) := hs22
  have HO2 : Hid (Oth (fun k => k = s ∨ k = s2) w wc) := ho2
  clear hs12 hs22 ho2 k1 k2 k3 k4
  cases hA : drwB t (pas n t R lev lat x.a) x.l with
  | true =>
    have HA : Hid (drwB t (pas n t R lev lat x.a) x.l = true) := hA
    go_wp2_with (go_at_call 47; refine (draw_any _ _ (by exact HS12.out) HB.out HP.out.1 HP.out.2 HF.out.2.2.2.2.1 HF.out.2.2.2.2.2.1).mono ?_; rintro e w3 ⟨rfl, hs3, ho3⟩; have HS3 : Hid (StAt w3 s n t R (drw t (pas n t R lev lat x.a) x.l) (lat1 lat x.a)) := hs3; clear hs3; have u2 := hk ho3 r2 hc2s; have u4 := hk ho3 r4 hws; have HS23 : Hid (StAt w3 s2 n t E (pou t E lev2 (ovr n t R lev lat x.a)) lat2) := HS22.out.kept ho3 (fun e => HN.out e.symm))
    go_ret
    refine ⟨?_, HS3.out, ?_, HO2.out.trans (ho3.mono (fun _ e => Or.inl e))⟩
    · rw [colO, HA.out]; rfl
    · rw [lefO, HA.out]; exact HS23.out
  | false =>
    have HA : Hid (drwB t (pas n t R lev lat x.a) x.l = false) := hA
    cases hC : drwB t (pou t E lev2 (ovr n t R lev lat x.a)) x.l with
    | true =>
      have HC : Hid (drwB t (pou t E lev2 (ovr n t R lev lat x.a)) x.l = true) := hC
      go_wp2_with (go_at_call 47; refine (draw_any _ _ (by exact HS12.out) HB.out HP.out.1 HP.out.2 HF.out.2.2.2.2.1 HF.out.2.2.2.2.2.1).mono ?_; rintro e w3 ⟨rfl, hs3, ho3⟩; have HS3 : Hid (StAt w3 s n t R (drw t (pas n t R lev lat x.a) x.l) (lat1 lat x.a)) := hs3; clear hs3; have u2 := hk ho3 r2 hc2s; have u4 := hk ho3 r4 hws; have HS23 : Hid (StAt w3 s2 n t E (pou t E lev2 (ovr n t R lev lat x.a)) lat2) := HS22.out.kept ho3 (fun e => HN.out e.symm))
      refine (draw_any _ _ (by exact HS23.out) HB2.out HQ.out.1 HQ.out.2 HF.out.2.2.2.2.1 HF.out.2.2.2.2.2.1).mono ?_
      rintro e w4 ⟨rfl, hs4, ho4⟩
      have HS4 : Hid (StAt w4 s2 n t E (drw t (pou t E lev2 (ovr n t R lev lat x.a)) x.l) lat2) := hs4
      clear hs4
      go_wp2
      go_ret
      refine ⟨?_, HS3.out.kept ho4 HN.out, ?_, (HO2.out.trans (ho3.mono (fun _ e => Or.inl e))).trans (ho4.mono (fun _ e => Or.inr e))⟩
      · rw [colO, HA.out, HC.out]; rfl
      · rw [lefO, HA.out]; exact HS4.out
    | false =>
      have HC : Hid (drwB t (pou t E lev2 (ovr n t R lev lat x.a)) x.l = false) := hC
      go_wp2_with (go_at_call 47; refine (draw_any _ _ (by exact HS12.out) HB.out HP.out.1 HP.out.2 HF.out.2.2.2.2.1 HF.out.2.2.2.2.2.1).mono ?_; rintro e w3 ⟨rfl, hs3, ho3⟩; have HS3 : Hid (StAt w3 s n t R (drw t (pas n t R lev lat x.a) x.l) (lat1 lat x.a)) := hs3; clear hs3; have u2 := hk ho3 r2 hc2s; have u4 := hk ho3 r4 hws; have HS23 : Hid (StAt w3 s2 n t E (pou t E lev2 (ovr n t R lev lat x.a)) lat2) := HS22.out.kept ho3 (fun e => HN.out e.symm))
      refine (draw_any _ _ (by exact HS23.out) HB2.out HQ.out.1 HQ.out.2 HF.out.2.2.2.2.1 HF.out.2.2.2.2.2.1).mono ?_
      rintro e w4 ⟨rfl, hs4, ho4⟩
      have HS4 : Hid (StAt w4 s2 n t E (drw t (pou t E lev2 (ovr n t R lev lat x.a)) x.l) lat2) := hs4
      clear hs4
      go_wp2
      go_ret
      refine ⟨?_, HS3.out.kept ho4 HN.out, ?_, (HO2.out.trans (ho3.mono (fun _ e => Or.inl e))).trans (ho4.mono (fun _ e => Or.inr e))⟩
      · rw [colO, HA.out, HC.out]; rfl
      · rw [lefO, HA.out]; exact HS4.out
end Go.Proofs.YtdaapdpbnijefaaGreatDoor
namespace Go.Proofs.YtdaapdpbnijefaaGreatDoor
open Go.RowKit Go.Extern.Stop Go.Stop Go.Extern

theorem eachOne_any (n t R E : Int) (x0 : Option Addr) (cap : Nat) (xs : List It) {s s2 c c2 : Nat} (w : World) (hc : w.cell? ⟨c, 0, none⟩ = some (.pointer (some ⟨s, 0, none⟩))) (hc2 : w.cell? ⟨c2, 0, none⟩ = some (.pointer (some ⟨s2, 0, none⟩))) (hst : StAt w s n t R (R * t) 0) (hst2 : StAt w s2 n t E (E * t) 0) (hne : ¬ s = s2) (h : okB n t R) (h2 : okB n t E) (hF : Fine xs) (h100 : xs.length ≤ 100) (hI : ItemsAt w x0 xs) (hsx : ∀ b off, x0 = some ⟨b, off, none⟩ → xs ≠ [] → ¬ (b = s ∨ b = s2)) :
    Calls Tryz.prog 43 #[.slice x0 xs.length cap, .func (.func 44) #[] #[.pointer (some ⟨c2, 0, none⟩), .pointer (some ⟨c, 0, none⟩)]] w fun e w' => ∃ g, e = .returned (.slice (some ⟨g, 0, none⟩) xs.length xs.length) ∧ w.heap.size ≤ g ∧ RowI w' g xs.length (col n t R E xs) ∧ Oth (fun k => k = s ∨ k = s2) w w' := by
  have hcl := lt_of_cell hc
  have hcl2 := lt_of_cell hc2
  have hsl := hst.lt
  have hsl2 := hst2.lt
  have hcs : ¬ c = s := by
    rintro rfl
    have := hst.cells.1
    rw [hc] at this; simp at this
  have hcs2 : ¬ c = s2 := by
    rintro rfl
    have := hst2.cells.1
    rw [hc] at this; simp at this
  have hc2s : ¬ c2 = s := by
    rintro rfl
    have := hst.cells.1
    rw [hc2] at this; simp at this
  have hc2s2 : ¬ c2 = s2 := by
    rintro rfl
    have := hst2.cells.1
    rw [hc2] at this; simp at this
  refine (eachI_any 44 #[.pointer (some ⟨c2, 0, none⟩), .pointer (some ⟨c, 0, none⟩)] x0 cap xs (col n t R E xs) (fun k W => W.cell? ⟨c, 0, none⟩ = some (.pointer (some ⟨s, 0, none⟩)) ∧ W.cell? ⟨c2, 0, none⟩ = some (.pointer (some ⟨s2, 0, none⟩)) ∧ StAt W s n t R (bst n t R xs k).1 (bst n t R xs k).2 ∧ StAt W s2 n t E (est n t R E xs k) 0) (fun k => k = s ∨ k = s2) w hI (fun k e => by rcases e with rfl | rfl <;> assumption) hsx h100 entersOne ⟨hc, hc2, hst, hst2⟩ ?_ ?_).mono ?_
  · rintro k W W' ⟨h1, h2, h3, h4⟩ hb
    exact ⟨(hb.cell (p := ⟨c, 0, none⟩) hcl).trans h1, (hb.cell (p := ⟨c2, 0, none⟩) hcl2).trans h2, h3.same (hb.block s hsl), h4.same (hb.block s2 hsl2)⟩
  · rintro k x W hx ⟨h1, h1', h3, h4⟩
    have hk : k < xs.length := (List.getElem?_eq_some_iff.1 hx).1
    have hl := bst_lev (n := n) (t := t) (R := R) hF h.1.1 h.2.1.1 h.2.2.1 k (by omega)
    have ht := (bst_lat (n := n) (t := t) (R := R) hF k (by omega)).1
    have he := est_bounds (n := n) (t := t) (R := R) (E := E) hF h.2.1.1 h2.2.2.1 k (by omega)
    have hx' := (hF k x hx).1
    refine (one1_any x W h1 h1' h3 h4 hne h h2 hl.1 hl.2 he.1 he.2 ht.1 (by omega) (by omega) (by omega)).mono ?_
    rintro e W' ⟨rfl, h5, h6, h7⟩
    refine ⟨?_, ⟨(h7.cell (p := ⟨c, 0, none⟩) (lt_of_cell h1) (by simp only; omega)).trans h1, (h7.cell (p := ⟨c2, 0, none⟩) (lt_of_cell h1') (by simp only; omega)).trans h1', ?_, ?_⟩, h7⟩
    · rw [col_at hx, bok_at hx]
      simp only [colO, drwB, decide_eq_true_eq]
    · rw [bst_succ hx]; exact h5
    · rw [est_succ hx, bok_at hx]
      have : lefO t (pas n t R (bst n t R xs k).1 (bst n t R xs k).2 x.a) (pou t E (est n t R E xs k) (ovr n t R (bst n t R xs k).1 (bst n t R xs k).2 x.a)) x.l = if decide (x.l * t ≤ pas n t R (bst n t R xs k).1 (bst n t R xs k).2 x.a) then pou t E (est n t R E xs k) (ovr n t R (bst n t R xs k).1 (bst n t R xs k).2 x.a) else if x.l * t ≤ pou t E (est n t R E xs k) (ovr n t R (bst n t R xs k).1 (bst n t R xs k).2 x.a) then pou t E (est n t R E xs k) (ovr n t R (bst n t R xs k).1 (bst n t R xs k).2 x.a) - x.l * t else pou t E (est n t R E xs k) (ovr n t R (bst n t R xs k).1 (bst n t R xs k).2 x.a) := rfl
      rw [← this]; exact h6
  · rintro e w' ⟨g, rfl, h1, h2, _, h4⟩
    exact ⟨g, rfl, h1, h2, h4⟩

theorem one_nob (n t R E : Int) (l : Value) (w : World) (h : ¬ okB n t R) :
    Calls Tryz.prog 20 #[.agg #[.int .i64 n, .int .i64 t, .int .i64 R], .int .i64 E, l] w fun e w' => e = .returned (.tuple #[.slice none 0 0, .iface 28 (.int .i64 2)]) ∧ Below w.heap.size w w' := by
  have H : Hid (¬ okB n t R) := h
  clear h
  go_enter Tryz.func20, Tryz.ntmps20
  go_wp2_with (go_at_call 42; refine (both_nob _ _ _ _ _ _ _ _ H.out).mono ?_; rintro e w1 ⟨rfl, hb1⟩)
  go_ret2
  have hB : Below w.heap.size w w1 := ((Below.refl _ _).alloc (Nat.le_refl _) _).trans (hb1.mono (by simp))
  exact ⟨rfl, (hB.alloc hB.size _).alloc (by simp; have := hB.size; omega) _⟩
theorem one_nob2 (n t R E : Int) (l : Value) (w : World) (h : okB n t R) (h2 : ¬ okB n t E) :
    Calls Tryz.prog 20 #[.agg #[.int .i64 n, .int .i64 t, .int .i64 R], .int .i64 E, l] w fun e w' => e = .returned (.tuple #[.slice none 0 0, .iface 28 (.int .i64 2)]) ∧ Below w.heap.size w w' := by
  have H : Hid (okB n t R) := h
  have H2 : Hid (¬ okB n t E) := h2
  clear h h2
  go_enter Tryz.func20, Tryz.ntmps20
  go_wp2_with (go_at_call 42; refine (both_nob2 _ _ _ _ _ _ _ _ H.out H2.out).mono ?_; rintro e w1 ⟨rfl, hb1⟩)
  go_ret2
  have hB : Below w.heap.size w w1 := ((Below.refl _ _).alloc (Nat.le_refl _) _).trans (hb1.mono (by simp))
  exact ⟨rfl, (hB.alloc hB.size _).alloc (by simp; have := hB.size; omega) _⟩
theorem one_nol (n t R E : Int) (x : Option Addr) (cap : Nat) (xs : List It) (w : World) (h : okB n t R) (h2 : okB n t E) (hl : ¬ okL xs) (hL : Laid w) (hI : ItemsAt w x xs) (hm : xs.length ≤ maxLen) :
    Calls Tryz.prog 20 #[.agg #[.int .i64 n, .int .i64 t, .int .i64 R], .int .i64 E, .slice x xs.length cap] w fun e w' => ∃ t' u', e = .returned (.tuple #[.slice none 0 0, .iface t' u']) ∧ ErrIs w' (.iface t' u') (listE xs).1 (listE xs).2 ∧ Below w.heap.size w w' := by
  have H : Hid (okB n t R) := h
  have H2 : Hid (okB n t E) := h2
  have HM : Hid (xs.length ≤ maxLen) := hm
  have HN : Hid (¬ okL xs) := hl
  have hL1 : Laid (w.alloc (.cells #[.int .i64 n, .int .i64 t, .int .i64 R] 25)) := hL.alloc _
  have hI1 : ItemsAt (w.alloc (.cells #[.int .i64 n, .int .i64 t, .int .i64 R] 25)) x xs := hI.below ((Below.refl _ _).alloc (Nat.le_refl _) _)
  clear h hm hl h2
  go_enter Tryz.func20, Tryz.ntmps20
  go_wp2_with (go_at_call 42; refine (both_nol _ _ _ _ _ _ _ _ _ _ H.out H2.out HN.out hL1 hI1 HM.out).mono ?_; rintro e w1 ⟨t', u', rfl, he, hb1⟩; have HE : Hid (ErrIs w1 (.iface t' u') (listE xs).1 (listE xs).2) := he; clear he)
  go_ret2
  have hB : Below w.heap.size w w1 := ((Below.refl _ _).alloc (Nat.le_refl _) _).trans (hb1.mono (by simp))
  exact ⟨_, _, rfl, HE.out.below (((Below.refl _ _).alloc (Nat.le_refl _) _).alloc (by simp) _), (hB.alloc hB.size _).alloc (by simp; have := hB.size; omega) _⟩
theorem one_yes (n t R E : Int) (x : Option Addr) (cap : Nat) (xs : List It) (w : World) (h : okB n t R) (h2 : okB n t E) (hl : okL xs) (hL : Laid w) (hI : ItemsAt w x xs) :
    Calls Tryz.prog 20 #[.agg #[.int .i64 n, .int .i64 t, .int .i64 R], .int .i64 E, .slice x xs.length cap] w fun e w' => ∃ g, e = .returned (.tuple #[.slice (some ⟨g, 0, none⟩) xs.length xs.length, .nilIface]) ∧ w.heap.size ≤ g ∧ RowI w' g xs.length (col n t R E xs) ∧ Below w.heap.size w w' := by
  obtain ⟨hF, h100⟩ := hl.fine
  have hm : xs.length ≤ maxLen := by unfold maxLen; omega
  have H : Hid (okB n t R) := h
  have H2 : Hid (okB n t E) := h2
  have HM : Hid (xs.length ≤ maxLen) := hm
  have HN : Hid (okL xs) := hl
  have HF : Hid (Fine xs) := hF
  have HI : Hid (ItemsAt w x xs) := hI
  have hL1 : Laid (w.alloc (.cells #[.int .i64 n, .int .i64 t, .int .i64 R] 25)) := hL.alloc _
  have hI1 : ItemsAt (w.alloc (.cells #[.int .i64 n, .int .i64 t, .int .i64 R] 25)) x xs := hI.below ((Below.refl _ _).alloc (Nat.le_refl _) _)
  have hmf : ∀ (fn : Fn) (first cap : Array Value) (w : World), (Instr.makeFunc fn first cap).run Tryz.prog w = .ok (.func fn first cap) w := fun _ _ _ _ => rfl
  clear h hm hl hF hI h2
  go_enter Tryz.func20, Tryz.ntmps20
  go_wp2_with (go_at_call 42; refine (both_yes _ _ _ _ _ _ _ _ _ _ H.out H2.out HN.out hL1 hI1 HM.out).mono ?_; rintro e w1 ⟨s, s2, rfl, hs, hs2, hne, hst, hst2, hb1⟩; have HST : Hid (StAt w1 s n t R (R * t) 0 ∧ StAt w1 s2 n t E (E * t) 0 ∧ ¬ s = s2) := ⟨hst, hst2, hne⟩; clear hst hst2 hne)
  have hB : Below w.heap.size w w1 := ((Below.refl _ _).alloc (Nat.le_refl _) _).trans (hb1.mono (by simp))
  have hB2 : Below w.heap.size w (w1.alloc (.cells #[.pointer (some ⟨s, 0, none⟩)] 63)) := hB.alloc hB.size _
  have hB3 := hB2.alloc hB2.size (.cells #[.pointer (some ⟨s2, 0, none⟩)] 63)
  have hsw : w.heap.size ≤ s := by simp at hs; omega
  have hsw2 : w.heap.size ≤ s2 := by simp at hs2; omega
  refine (eachOne_any n t R E x cap xs (s := s) (s2 := s2) (c := w1.heap.size) (c2 := w1.heap.size + 1) _ (by rw [World.cell?_alloc_lt _ _ ⟨w1.heap.size, 0, none⟩ (by simp)]; simp) (by simp) ((HST.out.1.alloc _).alloc _) ((HST.out.2.1.alloc _).alloc _) HST.out.2.2 H.out H2.out HF.out h100 (HI.out.below hB3) ?_).mono ?_
  · rintro b off rfl hne e
    have := HI.out.lt hne
    omega
  rintro e w2 ⟨g, rfl, hg, hrow, ho⟩
  go_wp2
  go_ret2
  exact ⟨g, rfl, by simp at hg; have := hB.size; omega, hrow, hB3.trans (ho.below hB3.size (fun k e => by rcases e with rfl | rfl <;> assumption))⟩
end Go.Proofs.YtdaapdpbnijefaaGreatDoor
