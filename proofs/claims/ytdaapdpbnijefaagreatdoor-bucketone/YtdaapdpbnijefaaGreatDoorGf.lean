/-
  Rows of ints in memory. Nothing is claimed here by itself.
  bucket.each[int]: of packets that lie in memory it returns, in new memory, what the function that is handed to it returns of each, in order. Conditions: at most 100 packets; the function returns (its contract is a premise) and writes blocks of S alone, among which none holds the packets.
  bucket.openBoth: the errors; else two full buckets; nothing that was there before is otherwise. Conditions: errors.errorType holds its handle; the packets lie in memory.
-/
import Derived.Test.YtdaapdpbnijefaaGreatDoorBk1
import Derived.Test.YtdaapdpbnijefaaGreatDoorBk3
import Derived.Maps.AppendAt
namespace Go.Proofs.YtdaapdpbnijefaaGreatDoor
open Go.RowKit Go.Extern.Stop Go.Stop Go.Extern

theorem infoI : (Tryz.prog.info? 3).map (fun i => (i.zero, i.size, i.bytes)) = some (some (.int .i64 0), 1, 8) := by kernel_rfl

/-- What each returned, up to k. -/
def toldI (r : Nat → Int) (k : Nat) : List Value := (List.range k).map fun j => .int .i64 (r j)
theorem toldI_succ (r : Nat → Int) (k : Nat) : toldI r (k + 1) = toldI r k ++ [.int .i64 (r k)] := by simp [toldI, List.range_succ]
theorem toldI_at (r : Nat → Int) (k j : Nat) (h : j < k) : (toldI r k)[j]? = some (.int .i64 (r j)) := by simp [toldI, h]

/-- A row of ints in memory. -/
def RowI (w : World) (g : Nat) (n : Nat) (r : Nat → Int) : Prop := ∀ j, j < n → w.cell? ⟨g, j, none⟩ = some (.int .i64 (r j))
theorem RowI.kept {w w' : World} {g n : Nat} {r : Nat → Int} {S : Nat → Prop} (h : RowI w g n r) (ho : Oth S w w') (hs : ¬ S g) : RowI w' g n r := fun j hj => by
  rw [ho.cell (p := ⟨g, j, none⟩) (lt_of_cell (h j hj)) hs]; exact h j hj
theorem rowI_of_owns {w : World} {B g n cap : Nat} {r : Nat → Int} (h : w.ownsRow B 3 1 (.slice (some ⟨g, 0, none⟩) n cap) n (toldI r n)) : RowI w g n r := by
  intro j hj
  rcases h.2 with ⟨hc, _⟩ | ⟨g', cap', cur, hv, hg, hh, hn, _, hs, ht⟩
  · simp at hc
  · simp only [Value.slice.injEq, Option.some.injEq, Addr.mk.injEq, and_true, true_and] at hv
    obtain ⟨rfl, rfl⟩ := hv
    have hsz : j < cur.size := by omega
    have h1 : cur.toList[j]? = some (.int .i64 (r j)) := by
      have := toldI_at r n j hj
      rw [← ht, List.getElem?_take, if_pos (by omega)] at this
      exact this
    simp only [World.cell?, hh]
    simpa using h1
end Go.Proofs.YtdaapdpbnijefaaGreatDoor
namespace Go.Proofs.YtdaapdpbnijefaaGreatDoor
open Go.RowKit Go.Extern.Stop Go.Stop Go.Extern

set_option maxRecDepth 20000 in
set_option maxHeartbeats 2000000 in
theorem eachI_any (cf : Nat) (caps : Array Value) (x0 : Option Addr) (cap : Nat) (xs : List It) (r : Nat → Int) (J : Nat → World → Prop) (S : Nat → Prop) (w : World)
    (hI : ItemsAt w x0 xs) (hS : ∀ k, S k → k < w.heap.size) (hSx : ∀ b off, x0 = some ⟨b, off, none⟩ → xs ≠ [] → ¬ S b) (h100 : xs.length ≤ 100) (hent : ∀ (args : Array Value) (W : World), (callFunc cf args).run Tryz.prog W = .ok (.enter cf args) W) (hJ0 : J 0 w) (hJ : ∀ k W W', J k W → Below w.heap.size W W' → J k W')
    (hstep : ∀ (k : Nat) (x : It) (W : World), xs[k]? = some x → J k W → Calls Tryz.prog cf (#[.agg #[.int .i64 x.a, .int .i64 x.l, .int .i64 x.f, .int .i64 x.b, .int .i64 x.m]] ++ caps) W fun e W' => e = .returned (.int .i64 (r k)) ∧ J (k + 1) W' ∧ Oth S W W') :
    Calls Tryz.prog 43 #[.slice x0 xs.length cap, .func (.func cf) #[] caps] w fun e w' => ∃ g, e = .returned (.slice (some ⟨g, 0, none⟩) xs.length xs.length) ∧ w.heap.size ≤ g ∧ RowI w' g xs.length r ∧ J xs.length w' ∧ Oth S w w' := by
  obtain ⟨i0, hi, hz0, hz1, hz2⟩ := info_parts infoI
  have HI : Hid (ItemsAt w x0 xs) := hI
  have HS : Hid (∀ k, S k → k < w.heap.size) := hS
  have HSX : Hid (∀ b off, x0 = some ⟨b, off, none⟩ → xs ≠ [] → ¬ S b) := hSx
  have HJ0 : Hid (J 0 w) := hJ0
  have HJ : Hid (∀ k W W', J k W → Below w.heap.size W W' → J k W') := hJ
  have HST : Hid (∀ (k : Nat) (x : It) (W : World), xs[k]? = some x → J k W → Calls Tryz.prog cf (#[.agg #[.int .i64 x.a, .int .i64 x.l, .int .i64 x.f, .int .i64 x.b, .int .i64 x.m]] ++ caps) W fun e W' => e = .returned (.int .i64 (r k)) ∧ J (k + 1) W' ∧ Oth S W W') := hstep
  clear hI hS hSx hJ0 hJ hstep
  generalize hn : xs.length = n at *
  have HN : Hid (xs.length = n) := hn
  clear hn
  go_enter Tryz.func43, Tryz.ntmps43
  go_wp2_with (at_make; refine wpList_make_own _ rfl _ _ 43 rfl w.heap.size 3 i0 (.int .i64 0) 1 Tryz.underlying43 hi hz0 hz1 _ _ _ n rfl rfl (by omega) (by rw [hz2]; omega) (by unfold maxLen; omega) (Nat.le_refl _) ?_; intro w1 hown1 hgrow1)
  go_loopw [5, 13] (fun o i wr => ∃ k : Nat, k ≤ n ∧ i = .int .i64 k ∧ o = .slice (some ⟨w.heap.size, 0, none⟩) k n ∧ wr.ownsRow w.heap.size 3 1 (.slice (some ⟨w.heap.size, 0, none⟩) k n) k (toldI r k) ∧ J k wr ∧ Oth S w wr) (fun _ i _ => n - (intOf i).toNat)
  case atStart =>
    have hb : Below w.heap.size w w1 := (Below.refl _ _).grown hgrow1 (Nat.le_refl _) (by simp)
    exact ⟨0, Nat.zero_le _, rfl, rfl, hown1, HJ.out 0 w w1 HJ0.out hb, Oth.of_below hb⟩
  case round =>
    clear hown1 hgrow1
    obtain ⟨k, hk, rfl, rfl, hown, hj, hoth⟩ := hrel
    have HJK : Hid (J k wr) := hj
    clear hj
    by_cases hlt : k < n
    · obtain ⟨x, hx⟩ : ∃ x, xs[k]? = some x := ⟨_, List.getElem?_eq_getElem (by have := HN.out; omega)⟩
      have HX : Hid (xs[k]? = some x) := hx
      rcases HI.out with he | ⟨b, off, rfl, hI⟩
      · exfalso; rw [he] at hx; simp at hx
      obtain ⟨d0, d1, d2, d3, d4⟩ := hI k x hx
      have hnS := HSX.out b off rfl (by rintro rfl; simp at hx)
      have c0 : wr.cell? ⟨b, off + k * 5, none⟩ = some (.int .i64 x.a) := by rw [hoth.cell (lt_of_cell d0) hnS]; exact d0
      have c1 : wr.cell? ⟨b, off + k * 5 + 1, none⟩ = some (.int .i64 x.l) := by rw [hoth.cell (lt_of_cell d1) hnS]; exact d1
      have c2 : wr.cell? ⟨b, off + k * 5 + 2, none⟩ = some (.int .i64 x.f) := by rw [hoth.cell (lt_of_cell d2) hnS]; exact d2
      have c3 : wr.cell? ⟨b, off + k * 5 + 3, none⟩ = some (.int .i64 x.b) := by rw [hoth.cell (lt_of_cell d3) hnS]; exact d3
      have c4 : wr.cell? ⟨b, off + k * 5 + 4, none⟩ = some (.int .i64 x.m) := by rw [hoth.cell (lt_of_cell d4) hnS]; exact d4
      clear hx d0 d1 d2 d3 d4 hI hnS
      have HO : Hid (wr.ownsRow w.heap.size 3 1 (.slice (some ⟨w.heap.size, 0, none⟩) k n) k (toldI r k)) := hown
      have HOT : Hid (Oth S w wr) := hoth
      clear hown hoth
      go_wp2_with fail
      have hbA : Below w.heap.size wr (wr.alloc (.cells #[.int .i64 x.a, .int .i64 x.l, .int .i64 x.f, .int .i64 x.b, .int .i64 x.m] 61)) := (Below.refl _ _).alloc HOT.out.size _
      refine (HST.out k x _ HX.out (HJ.out k _ _ HJK.out hbA)).mono ?_
      rintro e w1 ⟨rfl, hj1, ho1⟩
      have HJ1 : Hid (J (k + 1) w1) := hj1
      have ho01 : Oth S wr w1 := ((Oth.refl S wr).alloc _).trans ho1
      have hnSg : ¬ S w.heap.size := fun h => by have := HS.out _ h; omega
      have hgl : w.heap.size < wr.heap.size := by have := (HO.out.lt w.heap.size rfl).2; exact this
      have hown1 : w1.ownsRow w.heap.size 3 1 (.slice (some ⟨w.heap.size, 0, none⟩) k n) k (toldI r k) := by
        refine ⟨HO.out.1, ?_⟩
        rcases HO.out.2 with h | ⟨g, cp, cur, hv, hg, hh, rest⟩
        · exact Or.inl h
        · simp only [Value.slice.injEq, Option.some.injEq, Addr.mk.injEq, and_true, true_and] at hv
          obtain ⟨rfl, rfl⟩ := hv
          exact Or.inr ⟨_, _, cur, rfl, hg, by rw [ho01.block _ hgl hnSg]; exact hh, rest⟩
      clear hj1 ho1 c0 c1 c2 c3 c4 hbA
      go_wp2_with (at_builtin; refine wpList_append_fits _ rfl _ _ 43 rfl w.heap.size 3 i0 1 Tryz.underlying43 hi hz1 w.heap.size k n _ rfl (hown1.alloc _) ⟨w1.heap.size, 0, none⟩ 1 1 [.int .i64 (r k)] rfl rfl (cell_one_new _ _ _) (by simp [Value.oneCell']) (by omega) ?_; intro w2 hown2 hgrow2)
      go_roundw
      case rel =>
        have hb2 : Below w.heap.size w1 w2 := ((Below.refl _ _).alloc (by have := ho01.size; omega) _).grown hgrow2 (by simp; have := ho01.size; omega) (fun k e => by cases e; exact Nat.le_refl _)
        refine ⟨k + 1, by omega, by go_num, rfl, by rw [toldI_succ]; exact hown2, HJ.out _ _ _ HJ1.out hb2, (HOT.out.trans ho01).then_below hb2⟩
      case measure => simp [intOf]; omega
    · obtain rfl : k = n := by omega
      have HO : Hid (wr.ownsRow w.heap.size 3 1 (.slice (some ⟨w.heap.size, 0, none⟩) k k) k (toldI r k)) := hown
      have HOT : Hid (Oth S w wr) := hoth
      clear hown hoth
      go_wp2
      go_ret
      exact ⟨_, rfl, Nat.le_refl _, rowI_of_owns HO.out, HJK.out, HOT.out⟩
end Go.Proofs.YtdaapdpbnijefaaGreatDoor
namespace Go.Proofs.YtdaapdpbnijefaaGreatDoor
open Go.RowKit Go.Extern.Stop Go.Stop Go.Extern

theorem both_nob (n t R n2 t2 R2 : Int) (l : Value) (w : World) (h : ¬ okB n t R) :
    Calls Tryz.prog 42 #[.agg #[.int .i64 n, .int .i64 t, .int .i64 R], .agg #[.int .i64 n2, .int .i64 t2, .int .i64 R2], l] w fun e w' => e = .returned (.tuple #[.pointer none, .pointer none, .iface 28 (.int .i64 2)]) ∧ Below w.heap.size w w' := by
  have H : Hid (¬ okB n t R) := h
  clear h
  go_enter Tryz.func42, Tryz.ntmps42
  go_wp2_with (go_at_call 51; refine (new_no _ _ _ _ H.out).mono ?_; rintro e w1 ⟨rfl, hb1⟩)
  go_ret3
  have hB0 : Below w.heap.size w (w.alloc (.cells #[.int .i64 n, .int .i64 t, .int .i64 R] 25)) := (Below.refl _ _).alloc (Nat.le_refl _) _
  exact ⟨rfl, (hB0.alloc (by simp) _).trans (hb1.mono (by simp; omega))⟩
theorem both_nob2 (n t R n2 t2 R2 : Int) (l : Value) (w : World) (h : okB n t R) (h2 : ¬ okB n2 t2 R2) :
    Calls Tryz.prog 42 #[.agg #[.int .i64 n, .int .i64 t, .int .i64 R], .agg #[.int .i64 n2, .int .i64 t2, .int .i64 R2], l] w fun e w' => e = .returned (.tuple #[.pointer none, .pointer none, .iface 28 (.int .i64 2)]) ∧ Below w.heap.size w w' := by
  have H : Hid (okB n t R) := h
  have H2 : Hid (¬ okB n2 t2 R2) := h2
  clear h h2
  have hB0 : Below w.heap.size w (w.alloc (.cells #[.int .i64 n, .int .i64 t, .int .i64 R] 25)) := (Below.refl _ _).alloc (Nat.le_refl _) _
  go_enter Tryz.func42, Tryz.ntmps42
  go_wp2_with fail
  refine (new_yes _ _ _ _ H.out).mono ?_
  rintro e w1 ⟨s, rfl, hs, hst, hb1⟩
  have hB1 : Below w.heap.size w w1 := (hB0.alloc (by simp) _).trans (hb1.mono (by simp; omega))
  have c0 : w1.cell? ⟨w.heap.size + 1, 0, none⟩ = some (.int .i64 n2) := by rw [hb1.cell (by simp)]; simp
  have c1 : w1.cell? ⟨w.heap.size + 1, 1, none⟩ = some (.int .i64 t2) := by rw [hb1.cell (by simp)]; simp
  have c2 : w1.cell? ⟨w.heap.size + 1, 2, none⟩ = some (.int .i64 R2) := by rw [hb1.cell (by simp)]; simp
  clear hst
  go_wp2_with (go_at_call 26; refine (open_nob _ _ _ _ _ H2.out).mono ?_; rintro e w2 ⟨rfl, hb2⟩)
  go_ret3
  exact ⟨rfl, hB1.trans (hb2.mono hB1.size)⟩
theorem both_nol (n t R n2 t2 R2 : Int) (x : Option Addr) (cap : Nat) (xs : List It) (w : World) (h : okB n t R) (h2 : okB n2 t2 R2) (hl : ¬ okL xs) (hL : Laid w) (hI : ItemsAt w x xs) (hm : xs.length ≤ maxLen) :
    Calls Tryz.prog 42 #[.agg #[.int .i64 n, .int .i64 t, .int .i64 R], .agg #[.int .i64 n2, .int .i64 t2, .int .i64 R2], .slice x xs.length cap] w fun e w' => ∃ t' u', e = .returned (.tuple #[.pointer none, .pointer none, .iface t' u']) ∧ ErrIs w' (.iface t' u') (listE xs).1 (listE xs).2 ∧ Below w.heap.size w w' := by
  have H : Hid (okB n t R) := h
  have H2 : Hid (okB n2 t2 R2) := h2
  have HN : Hid (¬ okL xs) := hl
  have HM : Hid (xs.length ≤ maxLen) := hm
  have HL : Hid (Laid w) := hL
  have HI : Hid (ItemsAt w x xs) := hI
  clear h h2 hl hm hL hI
  have hB0 : Below w.heap.size w (w.alloc (.cells #[.int .i64 n, .int .i64 t, .int .i64 R] 25)) := (Below.refl _ _).alloc (Nat.le_refl _) _
  go_enter Tryz.func42, Tryz.ntmps42
  go_wp2_with fail
  refine (new_yes _ _ _ _ H.out).mono ?_
  rintro e w1 ⟨s, rfl, hs, hst, hb1⟩
  have hB1 : Below w.heap.size w w1 := (hB0.alloc (by simp) _).trans (hb1.mono (by simp; omega))
  have c0 : w1.cell? ⟨w.heap.size + 1, 0, none⟩ = some (.int .i64 n2) := by rw [hb1.cell (by simp)]; simp
  have c1 : w1.cell? ⟨w.heap.size + 1, 1, none⟩ = some (.int .i64 t2) := by rw [hb1.cell (by simp)]; simp
  have c2 : w1.cell? ⟨w.heap.size + 1, 2, none⟩ = some (.int .i64 R2) := by rw [hb1.cell (by simp)]; simp
  clear hst
  go_wp2_with (go_at_call 26; refine (open_nol _ _ _ _ _ _ _ H2.out HN.out (HL.out.below hB1) (HI.out.below hB1) HM.out).mono ?_; rintro e w2 ⟨v, rfl, he, hb2⟩; obtain ⟨t', u', rfl⟩ := he.iface HN.out; have HE : Hid (ErrIs w2 (.iface t' u') (listE xs).1 (listE xs).2) := he; clear he)
  go_ret3
  exact ⟨_, _, rfl, HE.out, hB1.trans (hb2.mono hB1.size)⟩
theorem both_yes (n t R n2 t2 R2 : Int) (x : Option Addr) (cap : Nat) (xs : List It) (w : World) (h : okB n t R) (h2 : okB n2 t2 R2) (hl : okL xs) (hL : Laid w) (hI : ItemsAt w x xs) (hm : xs.length ≤ maxLen) :
    Calls Tryz.prog 42 #[.agg #[.int .i64 n, .int .i64 t, .int .i64 R], .agg #[.int .i64 n2, .int .i64 t2, .int .i64 R2], .slice x xs.length cap] w fun e w' => ∃ s s2, e = .returned (.tuple #[.pointer (some ⟨s, 0, none⟩), .pointer (some ⟨s2, 0, none⟩), .nilIface]) ∧ w.heap.size ≤ s ∧ w.heap.size ≤ s2 ∧ ¬ s = s2 ∧ StAt w' s n t R (R * t) 0 ∧ StAt w' s2 n2 t2 R2 (R2 * t2) 0 ∧ Below w.heap.size w w' := by
  have H : Hid (okB n t R) := h
  have H2 : Hid (okB n2 t2 R2) := h2
  have HN : Hid (okL xs) := hl
  have HM : Hid (xs.length ≤ maxLen) := hm
  have HL : Hid (Laid w) := hL
  have HI : Hid (ItemsAt w x xs) := hI
  clear h h2 hl hm hL hI
  have hB0 : Below w.heap.size w (w.alloc (.cells #[.int .i64 n, .int .i64 t, .int .i64 R] 25)) := (Below.refl _ _).alloc (Nat.le_refl _) _
  go_enter Tryz.func42, Tryz.ntmps42
  go_wp2_with fail
  refine (new_yes _ _ _ _ H.out).mono ?_
  rintro e w1 ⟨s, rfl, hs, hst, hb1⟩
  have hB1 : Below w.heap.size w w1 := (hB0.alloc (by simp) _).trans (hb1.mono (by simp; omega))
  have c0 : w1.cell? ⟨w.heap.size + 1, 0, none⟩ = some (.int .i64 n2) := by rw [hb1.cell (by simp)]; simp
  have c1 : w1.cell? ⟨w.heap.size + 1, 1, none⟩ = some (.int .i64 t2) := by rw [hb1.cell (by simp)]; simp
  have c2 : w1.cell? ⟨w.heap.size + 1, 2, none⟩ = some (.int .i64 R2) := by rw [hb1.cell (by simp)]; simp
  have HST : Hid (StAt w1 s n t R (R * t) 0) := hst
  clear hst
  go_wp2_with (go_at_call 26; refine (open_yes _ _ _ _ _ _ _ H2.out HN.out (HL.out.below hB1) (HI.out.below hB1) HM.out).mono ?_; rintro e w2 ⟨s2, rfl, hs2, hst2, hb2⟩; have HS2 : Hid (StAt w2 s2 n2 t2 R2 (R2 * t2) 0) := hst2; clear hst2)
  go_ret3
  have := HST.out.lt
  have := hB1.size
  exact ⟨s, s2, rfl, by simp at hs; omega, by omega, by omega, HST.out.kept (S := fun _ => False) (Oth.of_below hb2) id, HS2.out, hB1.trans (hb2.mono hB1.size)⟩
end Go.Proofs.YtdaapdpbnijefaaGreatDoor
