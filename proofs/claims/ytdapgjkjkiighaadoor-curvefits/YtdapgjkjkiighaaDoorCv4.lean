/-
  curve.Behind, slices.IndexFunc over a curve, curve.Delay: of curves that may not be the error; else what may come out, in new memory; the longest wait, or that there is none; nothing that was there before is otherwise. Conditions: the numbers lie in memory, and a slice is no longer than its room.
-/
import Derived.Test.YtdapgjkjkiighaaDoorCv3
namespace Go.Proofs.YtdapgjkjkiighaaDoor
open Go.RowKit Go.Extern.Stop Go.Stop Go.Extern

set_option maxHeartbeats 1000000 in
theorem behind1_any (t N : Nat) (cn ca cb : Nat) (x y : Option Addr) (cx cy lx ly : Nat) (f g : Nat → Int) (w : World) (hcn : w.cell? ⟨cn, 0, none⟩ = some (.int .i64 N)) (hca : w.cell? ⟨ca, 0, none⟩ = some (.slice x lx cx)) (hcb : w.cell? ⟨cb, 0, none⟩ = some (.slice y ly cy)) (hx : Row w x N f) (hy : Row w y N g) (h1 : Mild N f) (h2 : Mild N g) (ht : t < N) (b0 : N ≤ 1000) (b1 : N ≤ lx) (b2 : N ≤ ly) (b3 : lx ≤ cx) (b4 : cx ≤ maxLen) :
    Calls Tryd.prog 35 #[.int .i64 t, .pointer (some ⟨cn, 0, none⟩), .pointer (some ⟨ca, 0, none⟩), .pointer (some ⟨cb, 0, none⟩)] w fun e w' => e = .returned (.int .i64 (bhd N f g t)) ∧ ∃ q, w' = w.drewN q := by
  unfold maxLen at b4
  obtain ⟨b, off, rfl⟩ := hx.some (by omega)
  have HX : Hid (Row w (some ⟨b, off + t, none⟩) (N - t) (fun i => f (t + i))) := hx.drop t
  have HY : Hid (Row w y (N - t) g) := hy.take (by omega)
  have H1 : Hid (Mild (N - t) (fun i => f (t + i))) := fun i hi => h1 (t + i) (by omega)
  have H2 : Hid (Mild (N - t) g) := h2.take (by omega)
  have hne : ¬ cx = t := by omega
  have hl : t ≤ lx := by omega
  have hli : (t : Int) ≤ lx := by omega
  have e0 : IntKind.i64.wrap ((N : Int) - t) = (N : Int) - t := by rw [IntKind.wrap_i64]; omega
  clear hx hy h1 h2
  go_enter Tryd.func35, Tryd.ntmps35
  go_wp2
  go_quiet ((go_at_call 36; exact Calls.quiet_of (excess_int _ _ _ _ _ (N - t) _ _ (by omega) _ _ _ (HX.out.drewN _) (HY.out.drewN _) H1.out H2.out (by omega) (by omega) (by omega))))
  go_wp2
  go_ret
  exact ⟨rfl, _, rfl⟩
set_option maxHeartbeats 1000000 in
theorem behind_no (x y : Option Addr) (cx cy n m : Nat) (f g : Nat → Int) (w : World) (hn : n ≤ maxLen) (hm : m ≤ maxLen) (hx : Row w x n f) (hy : Row w y m g) (h : ¬ (okC n f ∧ okC m g)) :
    Calls Tryd.prog 20 #[.slice x n cx, .slice y m cy] w fun e w' => e = .returned (.tuple #[.slice none 0 0, .iface 28 (.int .i64 (pairE n f m g))]) ∧ Below w.heap.size w w' := by
  have hB0 : Below w.heap.size w ((w.alloc (.cells #[.slice x n cx] 27)).alloc (.cells #[.slice y m cy] 27)) := ((Below.refl _ _).alloc (Nat.le_refl _) _).alloc (by simp) _
  have HC : Hid (Calls Tryd.prog 31 #[.slice x n cx, .slice y m cy] ((w.alloc (.cells #[.slice x n cx] 27)).alloc (.cells #[.slice y m cy] 27)) fun e w' => e = .returned (.tuple #[.int .i64 0, .iface 28 (.int .i64 (pairE n f m g))]) ∧ w' = ((w.alloc (.cells #[.slice x n cx] 27)).alloc (.cells #[.slice y m cy] 27))) := reach_no x y cx cy n m f g _ hn hm (hx.below hB0) (hy.below hB0) h
  clear hn hm hx hy h
  go_enter Tryd.func20, Tryd.ntmps20
  go_wp2_with fail
  refine HC.out.mono ?_
  rintro e w' ⟨rfl, rfl⟩
  go_wp2
  go_ret2
  refine ⟨rfl, ?_⟩
  exact hB0.alloc (by simp <;> omega) _
set_option maxHeartbeats 1000000 in
theorem behind_ok (x y : Option Addr) (cx cy n m : Nat) (f g : Nat → Int) (w : World) (hx : Row w x n f) (hy : Row w y m g) (h1 : okC n f) (h2 : okC m g) (hc : n ≤ cx) (hc2 : cx ≤ maxLen) :
    Calls Tryd.prog 20 #[.slice x n cx, .slice y m cy] w fun e w' => ∃ s, e = .returned (.tuple #[.slice (some ⟨s, 0, none⟩) ((min n m + 1) / 2) ((min n m + 1) / 2), .nilIface]) ∧ Row w' (some ⟨s, 0, none⟩) ((min n m + 1) / 2) (bhd (min n m) f g) ∧ Below w.heap.size w w' := by
  have hB0 : Below w.heap.size w ((w.alloc (.cells #[.slice x n cx] 27)).alloc (.cells #[.slice y m cy] 27)) := ((Below.refl _ _).alloc (Nat.le_refl _) _).alloc (by simp) _
  have HX : Hid (Row w x n f) := hx
  have HY : Hid (Row w y m g) := hy
  have H1 : Hid (okC n f) := h1
  have H2 : Hid (okC m g) := h2
  have HC : Hid (n ≤ cx) := hc
  have HC2 : Hid (cx ≤ maxLen) := hc2
  have b1 := h1.len
  have hmf := run_makeFunc
  clear hx hy h1 h2 hc hc2
  go_enter Tryd.func20, Tryd.ntmps20
  go_wp2_with fail
  refine (reach_ok _ _ _ _ _ _ _ _ _ (HX.out.below hB0) (HY.out.below hB0) H1.out H2.out).mono ?_
  rintro e w' ⟨rfl, rfl⟩
  go_wp2_with fail
  have hB1 : Below w.heap.size w (((w.alloc (.cells #[.slice x n cx] 27)).alloc (.cells #[.slice y m cy] 27)).alloc (.cells #[.int .i64 (min n m : Nat)] 3)) := hB0.alloc (by simp <;> omega) _
  refine (draw_int _ 35 #[.pointer (some ⟨w.heap.size + 1 + 1, 0, none⟩), .pointer (some ⟨w.heap.size, 0, none⟩), .pointer (some ⟨w.heap.size + 1, 0, none⟩)] ((min n m + 1) / 2) (by omega) (bhd (min n m) f g) _ (by omega) entersBehind ?_).mono ?_
  · intro k W hk hb
    have hB : Below w.heap.size w W := hB1.trans (hb.mono (by simp <;> omega))
    refine (behind1_any k (min n m) (w.heap.size + 1 + 1) w.heap.size (w.heap.size + 1) x y cx cy n m f g W ?_ ?_ ?_ ((HX.out.take (by omega)).below hB) ((HY.out.take (by omega)).below hB) (H1.out.mild.take (by omega)) (H2.out.mild.take (by omega)) (by omega) (by omega) (by omega) (by omega) HC.out HC2.out).mono ?_
    · rw [hb.cell (by simp <;> omega)]; exact cell_newest (by simp)
    · rw [hb.cell (by simp <;> omega), cell_elder (by simp <;> omega), cell_elder (by simp <;> omega)]; exact cell_newest (by simp)
    · rw [hb.cell (by simp <;> omega), cell_elder (by simp <;> omega)]; exact cell_newest (by simp)
    · rintro e W' ⟨rfl, hq⟩
      exact ⟨rfl, below_of_drew hq⟩
  rintro e w1 ⟨s, rfl, hrow, hb1⟩
  have HR : Hid (Row w1 (some ⟨s, 0, none⟩) ((min n m + 1) / 2) (bhd (min n m) f g)) := hrow
  clear hrow
  go_wp2
  go_ret2
  exact ⟨s, rfl, HR.out, hB1.trans (hb1.mono (by simp <;> omega))⟩

/-- What IndexFunc tells. -/
def idx (p : Nat → Bool) (n : Nat) : Int := if ff p n < n then (ff p n : Int) else -1
theorem index_any (cf : Nat) (caps : Array Value) (x : Option Addr) (cap n : Nat) (f : Nat → Int) (p : Nat → Bool) (w : World) (hx : Row w x n f) (b0 : n ≤ 1000) (hent : ∀ (args : Array Value) (W : World), (callFunc cf args).run Tryd.prog W = .ok (.enter cf args) W)
    (hstep : ∀ k, k < n → Calls Tryd.prog cf (#[.int .i64 (f k)] ++ caps) w fun e w' => e = .returned (.bool (p k)) ∧ w' = w) :
    Calls Tryd.prog 37 #[.slice x n cap, .func (.func cf) #[] caps] w fun e w' => e = .returned (.int .i64 (idx p n)) ∧ w' = w := by
  have HX : Hid (Row w x n f) := hx
  have HST : Hid (∀ k, k < n → Calls Tryd.prog cf (#[.int .i64 (f k)] ++ caps) w fun e w' => e = .returned (.bool (p k)) ∧ w' = w) := hstep
  clear hx hstep
  go_enter Tryd.func37, Tryd.ntmps37
  go_wp2
  go_loop [8] (fun i => ∃ k : Nat, k ≤ n ∧ i = .int .i64 k ∧ Hid (∀ j, j < k → p j = false)) (fun i => n - (intOf i).toNat)
  case atStart => exact ⟨0, Nat.zero_le _, rfl, fun j hj => by omega⟩
  case round =>
    obtain ⟨k, hk, rfl, HF⟩ := hrel
    by_cases hlt : k < n
    · obtain ⟨b, off, rfl⟩ := HX.out.some (by omega)
      have c0 := HX.out.at hlt
      have HS := HST.out k hlt
      have HS' : Hid (Calls Tryd.prog cf (#[.int .i64 (f k)] ++ caps) w fun e w' => e = .returned (.bool (p k)) ∧ w' = w) := HS
      clear HS
      go_wp2_with fail
      refine HS'.out.mono ?_
      rintro e w' ⟨rfl, rfl⟩
      cases hp : p k with
      | true =>
        have HE : Hid (idx p n = k) := by
          show idx p n = k
          unfold idx
          rw [ff_eq hlt hp HF.out, if_pos hlt]
        clear hp
        go_wp2
        go_ret
        exact ⟨by rw [HE.out]; rfl, rfl⟩
      | false =>
        have HF' : Hid (∀ j, j < k + 1 → p j = false) := fun j hj => by
          by_cases e : j = k
          · subst e; exact hp
          · exact HF.out j (by omega)
        clear hp
        go_wp2
        go_round
        case rel => exact ⟨k + 1, by omega, by go_num, HF'⟩
        case measure => simp [intOf]; omega
    · obtain rfl : k = n := by omega
      have HE : Hid (idx p k = -1) := by
        show idx p k = -1
        unfold idx
        rw [ff_none HF.out, if_neg (by omega)]
      go_wp2
      go_ret
      exact ⟨by rw [HE.out]; rfl, rfl⟩
theorem delay1_any (v u : Int) (c : Nat) (w : World) (h : w.cell? ⟨c, 0, none⟩ = some (.int .i64 u)) :
    Calls Tryd.prog 38 #[.int .i64 v, .pointer (some ⟨c, 0, none⟩)] w fun e w' => e = .returned (.bool (decide (u ≤ v))) ∧ w' = w := by
  go_enter Tryd.func38, Tryd.ntmps38
  go_wp2
  go_ret
  exact ⟨rfl, rfl⟩
theorem delay_no (x y : Option Addr) (cx cy n m : Nat) (f g : Nat → Int) (w : World) (hn : n ≤ maxLen) (hm : m ≤ maxLen) (hx : Row w x n f) (hy : Row w y m g) (h : ¬ (okC n f ∧ okC m g)) :
    Calls Tryd.prog 23 #[.slice x n cx, .slice y m cy] w fun e w' => e = .returned (.tuple #[.int .i64 0, .iface 28 (.int .i64 (pairE n f m g))]) ∧ w' = w := by
  have HC : Hid (Calls Tryd.prog 31 #[.slice x n cx, .slice y m cy] w fun e w' => e = .returned (.tuple #[.int .i64 0, .iface 28 (.int .i64 (pairE n f m g))]) ∧ w' = w) := reach_no x y cx cy n m f g w hn hm hx hy h
  clear hn hm hx hy h
  go_enter Tryd.func23, Tryd.ntmps23
  go_wp2_with fail
  refine HC.out.mono ?_
  rintro e w' ⟨rfl, rfl⟩
  go_wp2
  go_ret2
  exact ⟨rfl, rfl⟩
set_option maxHeartbeats 1000000 in
theorem delay_any (x y : Option Addr) (cx cy n m : Nat) (f g : Nat → Int) (w : World) (hx : Row w x n f) (hy : Row w y m g) (h1 : okC n f) (h2 : okC m g) (hc : m ≤ cy) :
    Calls Tryd.prog 23 #[.slice x n cx, .slice y m cy] w fun e w' => ((dlyOk n f m g ∧ e = .returned (.tuple #[.int .i64 (dlyV n f m g), .nilIface])) ∨ (¬ dlyOk n f m g ∧ e = .returned (.tuple #[.int .i64 0, .iface 28 (.int .i64 8)]))) ∧ Below w.heap.size w w' := by
  have HX : Hid (Row w x n f) := hx
  have HY : Hid (Row w y m g) := hy
  have H1 : Hid (okC n f) := h1
  have H2 : Hid (okC m g) := h2
  have b1 := h1.len
  have b2 := h2.len
  have hmf := run_makeFunc
  obtain ⟨b, off, rfl⟩ := hx.some h1.pos
  obtain ⟨b', off', rfl⟩ := hy.some h2.pos
  clear hx hy h1 h2
  go_enter Tryd.func23, Tryd.ntmps23
  go_wp2_with fail
  refine (reach_ok _ _ _ _ _ _ _ _ _ HX.out HY.out H1.out H2.out).mono ?_
  rintro e w' ⟨rfl, rfl⟩
  go_wp2
  go_loopw [8, 24] (fun l i wr => ∃ k : Nat, k ≤ n ∧ i = .int .i64 k ∧ l = .int .i64 (dlyV k f m g) ∧ Hid (dlyOk k f m g) ∧ Below w'.heap.size w' wr) (fun _ i _ => n - (intOf i).toNat)
  case atStart => exact ⟨0, Nat.zero_le _, rfl, rfl, fun t ht => by omega, Below.refl _ _⟩
  case round =>
    obtain ⟨k, hk, rfl, rfl, HD, hb⟩ := hrel
    have HB : Hid (Below w'.heap.size w' wr) := hb
    by_cases hlt : k < n
    · have c0 := (HX.out.below hb).at hlt
      have HA : Hid (Below w'.heap.size w' (wr.alloc (.cells #[.int .i64 (f k)] 3))) := hb.alloc hb.size _
      clear hb
      by_cases hkm : k < m
      · have hne : ¬ cy = k := by omega
        have hle : k ≤ m := by omega
        have hli : (k : Int) ≤ m := by omega
        have HI := index_any 38 #[.pointer (some ⟨wr.heap.size, 0, none⟩)] (some ⟨b', off' + k, none⟩) (cy - k) (m - k) (fun i => g (k + i)) (fun i => decide (f k ≤ g (k + i))) (wr.alloc (.cells #[.int .i64 (f k)] 3)) ((HY.out.below HA.out).drop k) (by omega) entersDelay (fun i hi => delay1_any (g (k + i)) (f k) wr.heap.size _ (cell_newest rfl))
        by_cases hd : dly f m g k < m - k
        · have he : idx (fun i => decide (f k ≤ g (k + i))) (m - k) = dly f m g k := if_pos hd
          rw [he] at HI
          have HI' : Hid (Calls Tryd.prog 37 #[.slice (some ⟨b', off' + k, none⟩) (m - k) (cy - k), .func (.func 38) #[] #[.pointer (some ⟨wr.heap.size, 0, none⟩)]] (wr.alloc (.cells #[.int .i64 (f k)] 3)) fun e w' => e = .returned (.int .i64 (dly f m g k)) ∧ w' = wr.alloc (.cells #[.int .i64 (f k)] 3)) := HI
          have HD' : Hid (dlyOk (k + 1) f m g) := fun t ht => by
            by_cases e : t = k
            · subst e; exact hd
            · exact HD.out t (by omega)
          have HP : Hid (dlyV (k + 1) f m g = max (dlyV k f m g) (dly f m g k)) := rfl
          clear HI he hd
          generalize dlyV k f m g = p at *
          generalize dly f m g k = d at *
          by_cases hmx : p < d
          · have HM : Hid (p < d) := hmx
            go_wp2_with fail
            refine HI'.out.mono ?_
            rintro e w1 ⟨rfl, rfl⟩
            go_wp2
            go_roundw
            case rel => exact ⟨k + 1, by omega, by go_num, by rw [HP.out]; have := HM.out; congr 1; omega, HD', HA.out⟩
            case measure => simp [intOf]; omega
          · have HM : Hid ((d : Int) ≤ p) := Int.not_lt.1 hmx
            go_wp2_with fail
            refine HI'.out.mono ?_
            rintro e w1 ⟨rfl, rfl⟩
            go_wp2
            go_roundw
            case rel => exact ⟨k + 1, by omega, by go_num, by rw [HP.out]; have := HM.out; congr 1; omega, HD', HA.out⟩
            case measure => simp [intOf]; omega
        · have he : idx (fun i => decide (f k ≤ g (k + i))) (m - k) = -1 := if_neg hd
          rw [he] at HI
          have HI' : Hid (Calls Tryd.prog 37 #[.slice (some ⟨b', off' + k, none⟩) (m - k) (cy - k), .func (.func 38) #[] #[.pointer (some ⟨wr.heap.size, 0, none⟩)]] (wr.alloc (.cells #[.int .i64 (f k)] 3)) fun e w' => e = .returned (.int .i64 (-1)) ∧ w' = wr.alloc (.cells #[.int .i64 (f k)] 3)) := HI
          have HN : Hid (¬ dlyOk n f m g) := fun h => hd (h k hlt)
          clear HI he hd
          go_wp2_with fail
          refine HI'.out.mono ?_
          rintro e w1 ⟨rfl, rfl⟩
          go_wp2
          go_ret2
          exact ⟨Or.inr ⟨HN.out, rfl⟩, HA.out⟩
      · have hge : m ≤ k := by omega
        have HI : Hid (∀ X C, Calls Tryd.prog 37 #[.slice X 0 C, .func (.func 38) #[] #[.pointer (some ⟨wr.heap.size, 0, none⟩)]] (wr.alloc (.cells #[.int .i64 (f k)] 3)) fun e w' => e = .returned (.int .i64 (-1)) ∧ w' = wr.alloc (.cells #[.int .i64 (f k)] 3)) := fun X C => index_any 38 #[.pointer (some ⟨wr.heap.size, 0, none⟩)] X C 0 (fun i => g (k + i)) (fun i => decide (f k ≤ g (k + i))) (wr.alloc (.cells #[.int .i64 (f k)] 3)) (Or.inl rfl) (by omega) entersDelay (fun i hi => by omega)
        have HN : Hid (¬ dlyOk n f m g) := fun h => by have := h k hlt; omega
        go_wp2_with fail
        all_goals
          refine (HI.out _ _).mono ?_
          rintro e w1 ⟨rfl, rfl⟩
          go_wp2
          go_ret2
          exact ⟨Or.inr ⟨HN.out, rfl⟩, HA.out⟩
    · obtain rfl : k = n := by omega
      go_wp2
      go_ret2
      exact ⟨Or.inl ⟨HD.out, rfl⟩, HB.out⟩
end Go.Proofs.YtdapgjkjkiighaaDoor
