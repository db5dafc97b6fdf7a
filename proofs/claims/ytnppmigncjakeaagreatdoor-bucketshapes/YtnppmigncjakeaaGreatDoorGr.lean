/-
  bucket.When: the first time at which so many bytes are in it, or never; Take beyond MaxTime: nothing is done. Conditions: a bucket that may be, a level within its room, times up to MaxTime (When).
  Rows of ints in memory. Nothing is claimed here by itself.
  bucket.Shape: the errors; ErrFull where one may not go; else, in new memory, when each packet goes; nothing that was there before is otherwise. Conditions: errors.errorType holds its handle; the packets lie in memory.
-/
import Derived.Test.YtnppmigncjakeaaGreatDoorBk2
import Derived.Test.YtnppmigncjakeaaGreatDoorBk1
import Derived.Test.YtnppmigncjakeaaGreatDoorBk3
import Derived.Maps.AppendAt
namespace Go.Proofs.YtnppmigncjakeaaGreatDoor
open Go.RowKit Go.Extern.Stop Go.Stop Go.Extern

theorem tell_late {n t R lev lat : Int} (now : Int) {s o : Nat} {pre post : List Value} {ty : TypeId} (w : World) (_h : StG w s o pre post ty n t R lev lat) (ht1 : 1000000000 < now) :
    Calls Tryz.prog 53 #[.pointer (some ⟨s, o, none⟩), .int .i64 now] w fun e w' => e = .returned (.bool false) ∧ w' = w := by
  clear _h
  go_enter Tryz.func53, Tryz.ntmps53
  go_wp2
  go_ret
  exact ⟨rfl, rfl⟩
theorem take_late {n t R lev lat : Int} (now x : Int) {s o : Nat} {pre post : List Value} {ty : TypeId} (w : World) (h : StG w s o pre post ty n t R lev lat) (ht1 : 1000000000 < now) :
    Calls Tryz.prog 29 #[.pointer (some ⟨s, o, none⟩), .int .i64 now, .int .i64 x] w fun e w' => e = .returned (.bool false) ∧ w' = w := by
  have HT := tell_late now w h ht1
  clear h
  go_enter Tryz.func29, Tryz.ntmps29
  go_wp2_with (go_at_call 53; refine HT.mono ?_; rintro e w1 ⟨rfl, rfl⟩)
  go_ret
  exact ⟨rfl, rfl⟩

theorem when_no {n t R lev lat : Int} (now x : Int) {s o : Nat} {pre post : List Value} {ty : TypeId} (w : World) (h : StG w s o pre post ty n t R lev lat) (hb : okB n t R) (hl0 : 0 ≤ lev) (hl1 : lev ≤ R * t) (ht0 : 0 ≤ lat) (ht1 : now ≤ 1000000000) (hx0 : 0 ≤ x) (hx1 : R < x) :
    Calls Tryz.prog 32 #[.pointer (some ⟨s, o, none⟩), .int .i64 now, .int .i64 x] w fun e w' => e = .returned (.tuple #[.int .i64 0, .bool false]) ∧ StG w' s o pre post ty n t R (pas n t R lev lat now) (lat1 lat now) ∧ Oth (· = s) w w' := by
  have HT := tell_yes now w h hb hl0 hl1 ht0 ht1
  clear h hb
  go_enter Tryz.func32, Tryz.ntmps32
  go_wp2_with fail
  refine HT.mono ?_
  rintro e w1 ⟨rfl, hs1, ho1⟩
  obtain ⟨c0, c1, c2, c3, c4, _, _⟩ := hs1.cells
  have HS : Hid (StG w1 s o pre post ty n t R (pas n t R lev lat now) (lat1 lat now)) := hs1
  clear hs1 HT
  go_wp2
  go_ret2
  exact ⟨rfl, HS.out, ho1⟩

set_option maxHeartbeats 1000000 in
theorem when_yes {n t R lev lat : Int} (now x : Int) {s o : Nat} {pre post : List Value} {ty : TypeId} (w : World) (h : StG w s o pre post ty n t R lev lat) (hb : okB n t R) (hl0 : 0 ≤ lev) (hl1 : lev ≤ R * t) (ht0 : 0 ≤ lat) (ht2 : lat ≤ 1000000000) (ht1 : now ≤ 1000000000) (hx0 : 0 ≤ x) (hx1 : x ≤ R) :
    Calls Tryz.prog 32 #[.pointer (some ⟨s, o, none⟩), .int .i64 now, .int .i64 x] w fun e w' => e = .returned (.tuple #[.int .i64 (whn n t (pas n t R lev lat now) (lat1 lat now) x), .bool true]) ∧ StG w' s o pre post ty n t R (pas n t R lev lat now) (lat1 lat now) ∧ Oth (· = s) w w' := by
  have HT := tell_yes now w h hb hl0 hl1 ht0 ht1
  have hp := pas_room (n := n) (t := t) (R := R) (lat := lat) (now := now) hb.1.1 hl0 hl1
  have hr := hb.room
  have hla : 0 ≤ lat1 lat now ∧ lat1 lat now ≤ 1000000000 := by unfold lat1; split <;> omega
  obtain ⟨hg0, hg1⟩ := prod_bounds (n := t) (R := x) (a := 1000000) (b := 1000000) (by have := hb.2.1; omega) hb.2.1.2 hx0 (by have := hb.2.2; omega)
  have hg1' : x * t ≤ 1000000000000 := by omega
  obtain ⟨⟨hn0, hn1⟩, _, _⟩ := hb
  have HW := @whn_bounds n t (pas n t R lev lat now) (lat1 lat now) x hn0
  generalize pas n t R lev lat now = lv at *
  generalize lat1 lat now = la at *
  clear h ht0 ht2 ht1 hl0 hl1
  obtain ⟨hp0, hp1⟩ := hp
  obtain ⟨hr0, hr1⟩ := hr
  obtain ⟨hla0, hla1⟩ := hla
  clear HW
  by_cases hc : x * t - lv ≤ 0
  · have HC : Hid (whn n t lv la x = la + (n - 1) / n) := by unfold Hid whn; rw [if_pos hc, Int.zero_add]
    have hq0 : 0 ≤ (n - 1) / n := Int.ediv_nonneg (by omega) (by omega)
    have hq1 : (n - 1) / n ≤ 0 := by
      have := Int.ediv_eq_zero_of_lt (a := n - 1) (b := n) (by omega) (by omega); omega
    go_enter Tryz.func32, Tryz.ntmps32
    go_wp2_with fail
    refine HT.mono ?_
    rintro e w1 ⟨rfl, hs1, ho1⟩
    obtain ⟨c0, c1, c2, c3, c4, _, _⟩ := hs1.cells
    have HS : Hid (StG w1 s o pre post ty n t R lv la) := hs1
    clear hs1 HT
    go_wp2
    go_quiet ((go_at_call 57; exact Calls.quiet_of_same (worth_any _ _ HS.out hg0 hg1')))
    go_wp2
    go_quiet (fail)
    go_wp2
    go_ret2
    exact ⟨by rw [HC.out]; rfl, (HS.out.drewN _).drewN _, (ho1.drewN _).drewN _⟩
  · have HC : Hid (whn n t lv la x = la + (x * t - lv + n - 1) / n) := by unfold Hid whn; rw [if_neg hc]
    have hq0 : 0 ≤ (x * t - lv + n - 1) / n := Int.ediv_nonneg (by omega) (by omega)
    have hq1 : (x * t - lv + n - 1) / n ≤ 1000001000000 := by
      have h1 := Int.mul_ediv_add_emod (x * t - lv + n - 1) n
      have h2 := Int.emod_nonneg (x * t - lv + n - 1) (by omega : n ≠ 0)
      have h3 : 1 * ((x * t - lv + n - 1) / n) ≤ n * ((x * t - lv + n - 1) / n) := Int.mul_le_mul_of_nonneg_right hn0 hq0
      omega
    go_enter Tryz.func32, Tryz.ntmps32
    go_wp2_with fail
    refine HT.mono ?_
    rintro e w1 ⟨rfl, hs1, ho1⟩
    obtain ⟨c0, c1, c2, c3, c4, _, _⟩ := hs1.cells
    have HS : Hid (StG w1 s o pre post ty n t R lv la) := hs1
    clear hs1 HT
    go_wp2
    go_quiet ((go_at_call 57; exact Calls.quiet_of_same (worth_any _ _ HS.out hg0 hg1')))
    go_wp2
    go_quiet (fail)
    go_wp2
    go_ret2
    exact ⟨by rw [HC.out]; rfl, (HS.out.drewN _).drewN _, (ho1.drewN _).drewN _⟩
end Go.Proofs.YtnppmigncjakeaaGreatDoor
namespace Go.Proofs.YtnppmigncjakeaaGreatDoor
open Go.RowKit Go.Extern.Stop Go.Stop Go.Extern

theorem infoI : (Tryz.prog.info? 3).map (fun i => (i.zero, i.size, i.bytes)) = some (some (.int .i64 0), 1, 8) := by kernel_rfl

/-- What each returned, up to k. -/
def toldI (r : Nat → Int) (k : Nat) : List Value := (List.range k).map fun j => .int .i64 (r j)
theorem toldI_succ (r : Nat → Int) (k : Nat) : toldI r (k + 1) = toldI r k ++ [.int .i64 (r k)] := by simp [toldI, List.range_succ]
theorem toldI_at (r : Nat → Int) (k j : Nat) (h : j < k) : (toldI r k)[j]? = some (.int .i64 (r j)) := by simp [toldI, h]

/-- A row of ints in memory. -/
def RowI (w : World) (g : Nat) (n : Nat) (r : Nat → Int) : Prop := ∀ j, j < n → w.cell? ⟨g, j, none⟩ = some (.int .i64 (r j))
theorem RowI.kept {w w' : World} {g n : Nat} {r : Nat → Int} {S : Nat → Prop} (h : RowI w g n r) (ho : Oth S w w') (hs : ¬ S g) : RowI w' g n r := fun j hj => by
  rw [ho.cell (p := ⟨g, j, none⟩) (lt_of_cell (h j hj)) hs]; exact h j hj
theorem rowI_of_owns {w : World} {B g n cap : Nat} {r : Nat → Int} (h : w.ownsRow B 3 1 (.slice (some ⟨g, 0, none⟩) n cap) n (toldI r n)) : RowI w g n r := by
  intro j hj
  rcases h.2 with ⟨hc, _⟩ | ⟨g', cap', cur, hv, hg, hh, hn, _, hs, ht⟩
  · simp at hc
  · simp only [Value.slice.injEq, Option.some.injEq, Addr.mk.injEq, and_true, true_and] at hv
    obtain ⟨rfl, rfl⟩ := hv
    have hsz : j < cur.size := by omega
    have h1 : cur.toList[j]? = some (.int .i64 (r j)) := by
      have := toldI_at r n j hj
      rw [← ht, List.getElem?_take, if_pos (by omega)] at this
      exact this
    simp only [World.cell?, hh]
    simpa using h1
end Go.Proofs.YtnppmigncjakeaaGreatDoor
namespace Go.Proofs.YtnppmigncjakeaaGreatDoor
open Go.RowKit Go.Extern.Stop Go.Stop Go.Extern

theorem shape_nob (n t R : Int) (l : Value) (w : World) (h : ¬ okB n t R) :
    Calls Tryz.prog 15 #[.agg #[.int .i64 n, .int .i64 t, .int .i64 R], l] w fun e w' => e = .returned (.tuple #[.slice none 0 0, .iface 28 (.int .i64 2)]) ∧ Below w.heap.size w w' := by
  have H : Hid (¬ okB n t R) := h
  clear h
  go_enter Tryz.func15, Tryz.ntmps15
  go_wp2_with (go_at_call 26; refine (open_nob _ _ _ _ _ H.out).mono ?_; rintro e w1 ⟨rfl, hb1⟩)
  go_ret2
  exact ⟨rfl, ((Below.refl _ _).alloc (Nat.le_refl _) _).trans (hb1.mono (by simp))⟩
theorem shape_nol (n t R : Int) (x : Option Addr) (cap : Nat) (xs : List It) (w : World) (h : okB n t R) (hl : ¬ okL xs) (hL : Laid w) (hI : ItemsAt w x xs) (hm : xs.length ≤ maxLen) :
    Calls Tryz.prog 15 #[.agg #[.int .i64 n, .int .i64 t, .int .i64 R], .slice x xs.length cap] w fun e w' => ∃ t' u', e = .returned (.tuple #[.slice none 0 0, .iface t' u']) ∧ ErrIs w' (.iface t' u') (listE xs).1 (listE xs).2 ∧ Below w.heap.size w w' := by
  have H : Hid (okB n t R) := h
  have HM : Hid (xs.length ≤ maxLen) := hm
  have HN : Hid (¬ okL xs) := hl
  have hL1 : Laid (w.alloc (.cells #[.int .i64 n, .int .i64 t, .int .i64 R] 25)) := hL.alloc _
  have hI1 : ItemsAt (w.alloc (.cells #[.int .i64 n, .int .i64 t, .int .i64 R] 25)) x xs := hI.below ((Below.refl _ _).alloc (Nat.le_refl _) _)
  clear h hm hl
  go_enter Tryz.func15, Tryz.ntmps15
  go_wp2_with (go_at_call 26; refine (open_nol _ _ _ _ _ _ _ H.out HN.out hL1 hI1 HM.out).mono ?_; rintro e w1 ⟨v, rfl, he, hb1⟩; obtain ⟨t', u', rfl⟩ := he.iface HN.out)
  go_ret2
  exact ⟨_, _, rfl, he, ((Below.refl _ _).alloc (Nat.le_refl _) _).trans (hb1.mono (by simp))⟩

theorem owns_oth {w w' : World} {base s : Nat} {e : TypeId} {size : Nat} {v : Value} {n : Nat} {xs : List Value} (hs : s < base) (h : w.ownsRow base e size v n xs) (ho : Oth (· = s) w w') : w'.ownsRow base e size v n xs := by
  refine ⟨h.1, ?_⟩
  rcases h.2 with h2 | ⟨g, cp, cur, hv, hg, hh, rest⟩
  · exact Or.inl h2
  · exact Or.inr ⟨g, cp, cur, hv, hg, by rw [ho.block g (lt_of_block hh) (by omega)]; exact hh, rest⟩
theorem StAt.grown {w w' : World} {s base : Nat} {n t R lev lat : Int} {v : Value} {e : TypeId} {size m : Nat} {xs : List Value} (h : StAt w s n t R lev lat) (hs : s < base) (ho : w.ownsRow base e size v m xs) (hg : w.grownBy w' v.ownBlock) : StAt w' s n t R lev lat :=
  h.same (hg.block s h.lt (fun e => by have := (ho.lt s e.symm).1; omega))
theorem goes_draw {n t R : Int} {xs : List It} (hF : Fine xs) (hn : 1 ≤ n) (ht : 1 ≤ t) (hR : 0 ≤ R) {k : Nat} {x : It} (hx : xs[k]? = some x) (hG : Goes n t R xs k) (hl : x.l ≤ R) :
    drwB t (pas n t R (pas n t R (sst n t R xs k).1 (sst n t R xs k).2 x.a) (lat1 (sst n t R xs k).2 x.a) (goes n t R xs k)) x.l = true ∧ lat1 (lat1 (sst n t R xs k).2 x.a) (goes n t R xs k) = goes n t R xs k := by
  have hk : k < xs.length := (List.getElem?_eq_some_iff.1 hx).1
  obtain ⟨⟨h0, h1⟩, hl0, hl1⟩ := sst_inv hF hn ht hR k (by omega) hG
  have hp := pas_room (n := n) (t := t) (R := R) (lev := (sst n t R xs k).1) (lat := (sst n t R xs k).2) (now := x.a) hn h0 h1
  rw [goes_at hx]
  generalize pas n t R (sst n t R xs k).1 (sst n t R xs k).2 x.a = v at *
  generalize lat1 (sst n t R xs k).2 x.a = la at *
  obtain ⟨w1, w2, _⟩ := whn_bounds (n := n) (t := t) (lev := v) (lat := la) (l := x.l) hn
  constructor
  · unfold drwB
    rw [pas_eq w1 hp.2]
    rw [Int.sub_mul] at w2
    have h8 : x.l * t ≤ R * t := Int.mul_le_mul_of_nonneg_right hl (by omega)
    simp; omega
  · unfold lat1; split <;> omega

theorem goes_step {n t R : Int} {xs : List It} (hF : Fine xs) (hn : 1 ≤ n) (ht : 1 ≤ t) (hR : 0 ≤ R) {k : Nat} {x : It} (hx : xs[k]? = some x) (hG : Goes n t R xs k) (hl : x.l ≤ R) :
    sst n t R xs (k + 1) = (drw t (pas n t R (pas n t R (sst n t R xs k).1 (sst n t R xs k).2 x.a) (lat1 (sst n t R xs k).2 x.a) (goes n t R xs k)) x.l, lat1 (lat1 (sst n t R xs k).2 x.a) (goes n t R xs k)) := by
  obtain ⟨h1, h2⟩ := goes_draw hF hn ht hR hx hG hl
  rw [h2, sst_succ hx, ← goes_at hx]
  unfold drwB at h1
  rw [drw, if_pos (by simpa using h1)]

set_option maxHeartbeats 2000000 in
theorem shape_ok (n t R : Int) (x0 : Option Addr) (cap : Nat) (xs : List It) (w : World) (h : okB n t R) (hl : okL xs) (hL : Laid w) (hI : ItemsAt w x0 xs) :
    Calls Tryz.prog 15 #[.agg #[.int .i64 n, .int .i64 t, .int .i64 R], .slice x0 xs.length cap] w fun e w' => ((∃ v, e = .returned (.tuple #[v, .nilIface]) ∧ Goes n t R xs xs.length ∧ w'.ownsRow w.heap.size 3 1 v xs.length (toldI (goes n t R xs) xs.length)) ∨ (e = .returned (.tuple #[.slice none 0 0, .iface 28 (.int .i64 12)]) ∧ ¬ Goes n t R xs xs.length)) ∧ Below w.heap.size w w' := by
  obtain ⟨i0, hi, hz0, hz1, hz2⟩ := info_parts infoI
  obtain ⟨hF, h100⟩ := hl.fine
  have hm : xs.length ≤ maxLen := by unfold maxLen; omega
  have H : Hid (okB n t R) := h
  have HM : Hid (xs.length ≤ maxLen) := hm
  have HN : Hid (okL xs) := hl
  have HF : Hid (Fine xs) := hF
  have HI : Hid (ItemsAt w x0 xs) := hI
  have hL1 : Laid (w.alloc (.cells #[.int .i64 n, .int .i64 t, .int .i64 R] 25)) := hL.alloc _
  have hI1 : ItemsAt (w.alloc (.cells #[.int .i64 n, .int .i64 t, .int .i64 R] 25)) x0 xs := hI.below ((Below.refl _ _).alloc (Nat.le_refl _) _)
  clear h hm hl hF hI
  go_enter Tryz.func15, Tryz.ntmps15
  go_wp2_with (go_at_call 26; refine (open_yes _ _ _ _ _ _ _ H.out HN.out hL1 hI1 HM.out).mono ?_; rintro e w1 ⟨s, rfl, hs, hst, hb1⟩; have HST : Hid (StAt w1 s n t R (R * t) 0) := hst; clear hst)
  have hB : Below w.heap.size w w1 := ((Below.refl _ _).alloc (Nat.le_refl _) _).trans (hb1.mono (by simp))
  have hsw : w.heap.size ≤ s := by simp at hs; omega
  have hs1 : s < w1.heap.size := HST.out.lt
  clear hL1 hI1 hs hb1
  generalize hn : xs.length = m at *
  have HMM : Hid (xs.length = m) := hn
  clear hn
  go_loopw [8, 24] (fun v i wr => ∃ k : Nat, k ≤ m ∧ i = .int .i64 k ∧ Goes n t R xs k ∧ wr.ownsRow w1.heap.size 3 1 v k (toldI (goes n t R xs) k) ∧ StAt wr s n t R (sst n t R xs k).1 (sst n t R xs k).2 ∧ Below w.heap.size w wr ∧ w1.heap.size ≤ wr.heap.size) (fun _ i _ => m - (intOf i).toNat)
  case atStart => exact ⟨0, Nat.zero_le _, rfl, fun j y hj => absurd hj (Nat.not_lt_zero j), World.ownsRow_nil _ _ _ _, HST.out, hB, Nat.le_refl _⟩
  case round =>
    obtain ⟨k, hk, rfl, hG, hown, hst, hb, hz⟩ := hrel
    have HG : Hid (Goes n t R xs k) := hG
    have HO : Hid (wr.ownsRow w1.heap.size 3 1 u8 k (toldI (goes n t R xs) k)) := hown
    have HS : Hid (StAt wr s n t R (sst n t R xs k).1 (sst n t R xs k).2) := hst
    clear hG hown hst
    by_cases hlt : k < m
    · obtain ⟨x, hx⟩ : ∃ x, xs[k]? = some x := ⟨_, List.getElem?_eq_getElem (by have := HMM.out; omega)⟩
      have HX : Hid (xs[k]? = some x) := hx
      rcases HI.out with he | ⟨b, off, rfl, hI⟩
      · exfalso; rw [he] at hx; simp at hx
      obtain ⟨d0, d1, d2, d3, d4⟩ := hI k x hx
      have c0 : wr.cell? ⟨b, off + k * 5, none⟩ = some (.int .i64 x.a) := by rw [hb.cell (lt_of_cell d0)]; exact d0
      have c1 : wr.cell? ⟨b, off + k * 5 + 1, none⟩ = some (.int .i64 x.l) := by rw [hb.cell (lt_of_cell d1)]; exact d1
      have c2 : wr.cell? ⟨b, off + k * 5 + 2, none⟩ = some (.int .i64 x.f) := by rw [hb.cell (lt_of_cell d2)]; exact d2
      have c3 : wr.cell? ⟨b, off + k * 5 + 3, none⟩ = some (.int .i64 x.b) := by rw [hb.cell (lt_of_cell d3)]; exact d3
      have c4 : wr.cell? ⟨b, off + k * 5 + 4, none⟩ = some (.int .i64 x.m) := by rw [hb.cell (lt_of_cell d4)]; exact d4
      have hfx := (HF.out k x hx).1
      have hinv := sst_inv HF.out H.out.1.1 H.out.2.1.1 H.out.2.2.1 k (by have := HMM.out; omega) HG.out
      have hpr := pas_room (n := n) (t := t) (R := R) (lev := (sst n t R xs k).1) (lat := (sst n t R xs k).2) (now := x.a) H.out.1.1 hinv.1.1 hinv.1.2
      have hla : 0 ≤ lat1 (sst n t R xs k).2 x.a := by unfold lat1; split <;> omega
      have HWN := fun hle : x.l ≤ R => when_yes x.a x.l (wr.alloc (.cells #[.int .i64 x.a, .int .i64 x.l, .int .i64 x.f, .int .i64 x.b, .int .i64 x.m] 61)) (HS.out.alloc _) H.out hinv.1.1 hinv.1.2 hinv.2.1 hinv.2.2 (by omega) (by omega) hle
      simp only [← goes_at hx] at HWN
      have HW : Hid (x.l ≤ R → Calls Tryz.prog 32 #[.pointer (some ⟨s, 0, none⟩), .int .i64 x.a, .int .i64 x.l] (wr.alloc (.cells #[.int .i64 x.a, .int .i64 x.l, .int .i64 x.f, .int .i64 x.b, .int .i64 x.m] 61)) fun e w' => e = .returned (.tuple #[.int .i64 (goes n t R xs k), .bool true]) ∧ StAt w' s n t R (pas n t R (sst n t R xs k).1 (sst n t R xs k).2 x.a) (lat1 (sst n t R xs k).2 x.a) ∧ Oth (· = s) (wr.alloc (.cells #[.int .i64 x.a, .int .i64 x.l, .int .i64 x.f, .int .i64 x.b, .int .i64 x.m] 61)) w') := HWN
      have HV : Hid (((0 ≤ (sst n t R xs k).1 ∧ (sst n t R xs k).1 ≤ R * t) ∧ 0 ≤ (sst n t R xs k).2 ∧ (sst n t R xs k).2 ≤ 1000000000) ∧ (0 ≤ pas n t R (sst n t R xs k).1 (sst n t R xs k).2 x.a ∧ pas n t R (sst n t R xs k).1 (sst n t R xs k).2 x.a ≤ R * t) ∧ 0 ≤ lat1 (sst n t R xs k).2 x.a ∧ (0 ≤ x.a ∧ x.a ≤ 1000000000 ∧ 1 ≤ x.l ∧ x.l ≤ 10000)) := ⟨hinv, hpr, hla, hfx⟩
      have hbA : Below w.heap.size wr (wr.alloc (.cells #[.int .i64 x.a, .int .i64 x.l, .int .i64 x.f, .int .i64 x.b, .int .i64 x.m] 61)) := (Below.refl _ _).alloc hb.size _
      have hws : ¬ wr.heap.size = s := by omega
      have hoB : ∀ {a b : World}, Oth (· = s) a b → w.heap.size ≤ a.heap.size → Below w.heap.size a b := fun ho hz => ho.below hz (fun k e => by subst e; exact hsw)
      clear hx hinv hpr hla hfx HWN d0 d1 d2 d3 d4 hI
      by_cases hR : x.l ≤ R
      · have HR : Hid (x.l ≤ R) := hR
        clear hR
        go_wp2_with fail
        refine (HW.out HR.out).mono ?_
        rintro e w2 ⟨rfl, hs2, ho2⟩
        have HS2 : Hid (StAt w2 s n t R (pas n t R (sst n t R xs k).1 (sst n t R xs k).2 x.a) (lat1 (sst n t R xs k).2 x.a)) := hs2
        have q1 : w2.cell? ⟨wr.heap.size, 1, none⟩ = some (.int .i64 x.l) := by rw [ho2.cell (by simp) hws]; simp
        have hb2 : Below w.heap.size w w2 := (hb.trans hbA).trans (hoB ho2 (by simp; have := hb.size; omega))
        have hy2 : w1.heap.size ≤ w2.heap.size := by have := ho2.size; simp at this; omega
        have HO2 : Hid (w2.ownsRow w1.heap.size 3 1 u8 k (toldI (goes n t R xs) k)) := owns_oth hs1 (HO.out.alloc _) ho2
        clear hs2 c0 c1 c2 c3 c4
        by_cases hT : goes n t R xs k ≤ 1000000000
        · have HT : Hid (goes n t R xs k ≤ 1000000000) := hT
          have hgd := goes_draw HF.out H.out.1.1 H.out.2.1.1 H.out.2.2.1 HX.out HG.out HR.out
          have hgs := goes_step HF.out H.out.1.1 H.out.2.1.1 H.out.2.2.1 HX.out HG.out HR.out
          have HTK := take_yes (goes n t R xs k) x.l w2 HS2.out H.out HV.out.2.1.1 HV.out.2.1.2 HV.out.2.2.1 hT (by have := HV.out.2.2.2; omega) (by have := HV.out.2.2.2; omega)
          rw [hgd.1] at HTK
          have hG1 : Goes n t R xs (k + 1) := by
            intro j y hj hy
            by_cases hjk : j < k
            · exact HG.out j y hjk hy
            · obtain rfl : j = k := by omega
              have := HX.out
              rw [hy] at this
              obtain rfl := Option.some.inj this
              exact ⟨HR.out, HT.out⟩
          have HG1 : Hid (Goes n t R xs (k + 1)) := hG1
          have HTK' : Calls Tryz.prog 29 #[.pointer (some ⟨s, 0, none⟩), .int .i64 (goes n t R xs k), .int .i64 x.l] w2 fun e w' => e = .returned (.bool true) ∧ StAt w' s n t R (sst n t R xs (k + 1)).1 (sst n t R xs (k + 1)).2 ∧ Oth (· = s) w2 w' := by
            rw [hgs]; exact HTK
          have HT2 : Hid (Calls Tryz.prog 29 #[.pointer (some ⟨s, 0, none⟩), .int .i64 (goes n t R xs k), .int .i64 x.l] w2 fun e w' => e = .returned (.bool true) ∧ StAt w' s n t R (sst n t R xs (k + 1)).1 (sst n t R xs (k + 1)).2 ∧ Oth (· = s) w2 w') := HTK'
          clear hgd hgs HTK HTK' hG1 hT
          go_wp2_with fail
          refine HT2.out.mono ?_
          rintro e w3 ⟨rfl, hs3, ho3⟩
          have HS3 : Hid (StAt w3 s n t R (sst n t R xs (k + 1)).1 (sst n t R xs (k + 1)).2) := hs3
          have hb3 : Below w.heap.size w w3 := hb2.trans (hoB ho3 hb2.size)
          have hy3 : w1.heap.size ≤ w3.heap.size := by have := ho3.size; omega
          have hown3 : w3.ownsRow w1.heap.size 3 1 u8 k (toldI (goes n t R xs) k) := owns_oth hs1 HO2.out ho3
          clear hs3 q1
          go_wp2_with (at_builtin; refine wpList_append_own _ rfl _ _ 43 rfl w1.heap.size 3 i0 (.int .i64 0) 1 8 Tryz.underlying43 hi hz0 hz1 hz2 rfl (by decide) _ _ _ rfl (hown3.alloc _) ⟨w3.heap.size, 0, none⟩ 1 1 [.int .i64 (goes n t R xs k)] rfl rfl (cell_one_new _ _ _) (by simp [Value.oneCell']) (by unfold maxLen; omega) (by omega) (by simp; omega) ?_; intro v' w4 hown4 hgrow4 _)
          have hS4 : StAt w4 s n t R (sst n t R xs (k + 1)).1 (sst n t R xs (k + 1)).2 := StAt.grown (HS3.out.alloc _) hs1 (hown3.alloc _) hgrow4
          have hb4 : Below w.heap.size w w4 := (hb3.alloc hb3.size _).grown hgrow4 (by simp; have := hb3.size; omega) (fun j e => by have := (hown3.lt j e).1; have := hB.size; omega)
          have hy4 : w1.heap.size ≤ w4.heap.size := by have := hgrow4.size; simp at this; omega
          go_roundw
          case rel => exact ⟨k + 1, by omega, by go_num, HG1.out, by rw [toldI_succ]; exact hown4, hS4, hb4, hy4⟩
          case measure => simp [intOf]; omega
        · have HT : Hid (1000000000 < goes n t R xs k) := Int.not_le.1 hT
          have HTK := take_late (goes n t R xs k) x.l w2 HS2.out (Int.not_le.1 hT)
          have HT2 : Hid (Calls Tryz.prog 29 #[.pointer (some ⟨s, 0, none⟩), .int .i64 (goes n t R xs k), .int .i64 x.l] w2 fun e w' => e = .returned (.bool false) ∧ w' = w2) := HTK
          clear HTK hT
          go_wp2_with fail
          refine HT2.out.mono ?_
          rintro e w3 ⟨rfl, rfl⟩
          go_wp2
          go_ret2
          refine ⟨Or.inr ⟨rfl, fun hg => ?_⟩, hb2⟩
          have := (hg k x (by have := HMM.out; omega) HX.out).2
          have := HT.out
          omega
      · have HR : Hid (R < x.l) := Int.not_le.1 hR
        have HWN := when_no x.a x.l (wr.alloc (.cells #[.int .i64 x.a, .int .i64 x.l, .int .i64 x.f, .int .i64 x.b, .int .i64 x.m] 61)) (HS.out.alloc _) H.out HV.out.1.1.1 HV.out.1.1.2 HV.out.1.2.1 (by have := HV.out.2.2.2; omega) (by have := HV.out.2.2.2; omega) (Int.not_le.1 hR)
        have HW2 : Hid (Calls Tryz.prog 32 #[.pointer (some ⟨s, 0, none⟩), .int .i64 x.a, .int .i64 x.l] (wr.alloc (.cells #[.int .i64 x.a, .int .i64 x.l, .int .i64 x.f, .int .i64 x.b, .int .i64 x.m] 61)) fun e w' => e = .returned (.tuple #[.int .i64 0, .bool false]) ∧ StAt w' s n t R (pas n t R (sst n t R xs k).1 (sst n t R xs k).2 x.a) (lat1 (sst n t R xs k).2 x.a) ∧ Oth (· = s) (wr.alloc (.cells #[.int .i64 x.a, .int .i64 x.l, .int .i64 x.f, .int .i64 x.b, .int .i64 x.m] 61)) w') := HWN
        clear HWN hR
        go_wp2_with fail
        refine HW2.out.mono ?_
        rintro e w2 ⟨rfl, hs2, ho2⟩
        have hb2 : Below w.heap.size w w2 := (hb.trans hbA).trans (hoB ho2 (by simp; have := hb.size; omega))
        clear hs2 c0 c1 c2 c3 c4
        go_wp2
        go_ret2
        refine ⟨Or.inr ⟨rfl, fun hg => ?_⟩, hb2⟩
        have := (hg k x (by have := HMM.out; omega) HX.out).1
        have := HR.out
        omega
    · obtain rfl : k = m := by omega
      go_wp2
      go_ret2
      refine ⟨Or.inl ⟨u8, rfl, ?_, ?_⟩, hb⟩
      · rw [HMM.out]; exact HG.out
      · rw [HMM.out]
        refine ⟨HO.out.1, ?_⟩
        rcases HO.out.2 with h2 | ⟨g, cp, cur, hv, hg, r⟩
        · exact Or.inl h2
        · exact Or.inr ⟨g, cp, cur, hv, by have := hB.size; omega, r⟩
end Go.Proofs.YtnppmigncjakeaaGreatDoor
