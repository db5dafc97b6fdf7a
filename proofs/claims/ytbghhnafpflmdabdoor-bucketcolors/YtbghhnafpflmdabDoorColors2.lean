/-
  millracekeep.BucketColors is true where the bucket and the packets may be, and so at every two buckets, every excess and every packets; nothing that was there before is otherwise. Conditions: errors.errorType holds its handle; the packets lie in memory.
-/
import Derived.Test.YtbghhnafpflmdabDoorColors
namespace Go.Proofs.YtbghhnafpflmdabDoor
open Go.RowKit Go.Extern.Stop Go.Stop Go.Extern

set_option maxRecDepth 50000 in
set_option maxHeartbeats 2000000 in
theorem colors_yes (n t R n2 t2 R2 ex : Int) (x : Option Addr) (cap : Nat) (xs : List It) (w : World) (h : okB n t R) (hl : okL xs) (hL : Laid w) (hI : ItemsAt w x xs) (hm : xs.length ≤ maxLen) :
    Calls Tryd.prog 6 #[.agg #[.int .i64 n, .int .i64 t, .int .i64 R], .agg #[.int .i64 n2, .int .i64 t2, .int .i64 R2], .int .i64 ex, .slice x xs.length cap] w fun e w' => e = .returned (.bool true) ∧ Below w.heap.size w w' := by
  obtain ⟨hF, h100⟩ := hl.fine
  have HL : Hid (Laid w) := hL
  have HI : Hid (ItemsAt w x xs) := hI
  have H : Hid (okB n t R) := h
  have HN : Hid (okL xs) := hl
  have HG : Hid (∀ (E : Int) k, k < xs.length → (col n t R E xs k = 1 ↔ bok n t R xs k = true)) := fun E k hk => col_green hk
  have HZ : Hid (∀ k, k < xs.length → col n t R 0 xs k ≠ 2) := fun k hk => col_none hF h.2.1.1 hk
  have HD : Hid (∀ k, k < xs.length → (twc n t R n2 t2 R2 xs k ≠ 3 ↔ bok n2 t2 R2 xs k = true)) := fun k hk => twc_red hk
  have hp := pckN_lt ex 1000000 (by omega)
  have hPK := pickM_any ex
  have hB00 : Below w.heap.size w (w.alloc (.cells #[.int .i64 n, .int .i64 t, .int .i64 R] 25)) := (Below.refl _ _).alloc (Nat.le_refl _) _
  have hB0 : Below w.heap.size w ((w.alloc (.cells #[.int .i64 n, .int .i64 t, .int .i64 R] 25)).alloc (.cells #[.int .i64 n2, .int .i64 t2, .int .i64 R2] 25)) := hB00.alloc hB00.size _
  generalize pckN ex 1000000 = E at *
  have HE0 : Hid (okB n t 0) := ⟨h.1, h.2.1, by omega, by omega⟩
  have HEE : Hid (okB n t E) := ⟨h.1, h.2.1, hp.1, by omega⟩
  have HPK : Hid (∀ w : World, Calls Tryd.prog 12 #[.int .i64 ex, .int .i64 1000000] w fun e w' => e = .returned (.int .i64 E) ∧ w' = w) := hPK
  have HM : Hid (xs.length ≤ maxLen) := hm
  -- the second half, of a bucket that may not be
  have hT : ¬ okB n2 t2 R2 → ∀ W : World, Calls Tryd.prog 14 #[.agg #[.int .i64 n, .int .i64 t, .int .i64 R], .agg #[.int .i64 n2, .int .i64 t2, .int .i64 R2], .slice x xs.length cap] W fun e w' => e = .returned (.tuple #[.slice none 0 0, .iface 57 (.int .i64 2)]) ∧ Below W.heap.size W w' := fun hb W => two_nob2 _ _ _ _ _ _ _ W h hb
  have HT : Hid (¬ okB n2 t2 R2 → ∀ W : World, Calls Tryd.prog 14 #[.agg #[.int .i64 n, .int .i64 t, .int .i64 R], .agg #[.int .i64 n2, .int .i64 t2, .int .i64 R2], .slice x xs.length cap] W fun e w' => e = .returned (.tuple #[.slice none 0 0, .iface 57 (.int .i64 2)]) ∧ Below W.heap.size W w') := hT
  clear hp hPK hL hI h hl hF hm hT
  go_enter Tryd.func6, Tryd.ntmps6
  go_wp2_with (go_at_call 12; refine (HPK.out _).mono ?_; rintro e w' ⟨rfl, rfl⟩)
  refine (conform_yes n t R x cap xs _ H.out HN.out (HL.out.below hB0) (HI.out.below hB0)).mono ?_
  rintro e w1 ⟨g1, rfl, hg1, hr1, hb1⟩
  have HR1 : Hid (RowB w1 g1 xs.length (bok n t R xs)) := hr1
  have c0 : w1.cell? ⟨w.heap.size, 0, none⟩ = some (.int .i64 n) := by rw [hb1.cell (by simp; omega), World.cell?_alloc_lt _ _ ⟨w.heap.size, 0, none⟩ (by simp)]; simp
  have c1 : w1.cell? ⟨w.heap.size, 1, none⟩ = some (.int .i64 t) := by rw [hb1.cell (by simp; omega), World.cell?_alloc_lt _ _ ⟨w.heap.size, 1, none⟩ (by simp)]; simp
  have c2 : w1.cell? ⟨w.heap.size, 2, none⟩ = some (.int .i64 R) := by rw [hb1.cell (by simp; omega), World.cell?_alloc_lt _ _ ⟨w.heap.size, 2, none⟩ (by simp)]; simp
  have e0 : w1.cell? ⟨w.heap.size + 1, 0, none⟩ = some (.int .i64 n2) := by rw [hb1.cell (by simp)]; simp
  have e1 : w1.cell? ⟨w.heap.size + 1, 1, none⟩ = some (.int .i64 t2) := by rw [hb1.cell (by simp)]; simp
  have e2 : w1.cell? ⟨w.heap.size + 1, 2, none⟩ = some (.int .i64 R2) := by rw [hb1.cell (by simp)]; simp
  have HK1 : Hid (w1.cell? ⟨w.heap.size, 0, none⟩ = some (.int .i64 n) ∧ w1.cell? ⟨w.heap.size, 1, none⟩ = some (.int .i64 t) ∧ w1.cell? ⟨w.heap.size, 2, none⟩ = some (.int .i64 R) ∧ w1.cell? ⟨w.heap.size + 1, 0, none⟩ = some (.int .i64 n2) ∧ w1.cell? ⟨w.heap.size + 1, 1, none⟩ = some (.int .i64 t2) ∧ w1.cell? ⟨w.heap.size + 1, 2, none⟩ = some (.int .i64 R2)) := ⟨c0, c1, c2, e0, e1, e2⟩
  have hk : ∀ {a b : World} {p o : Nat} {v : Value}, Below a.heap.size a b → a.cell? ⟨p, o, none⟩ = some v → b.cell? ⟨p, o, none⟩ = some v := fun hb hc => (hb.cell (lt_of_cell hc)).trans hc
  have hB1 : Below w.heap.size w w1 := hB0.trans (hb1.mono (by simp; omega))
  clear hr1 hg1 hb1 e0 e1 e2
  go_wp2_with fail
  refine (one_yes n t R 0 x cap xs _ H.out HE0.out HN.out (HL.out.below hB1) (HI.out.below hB1)).mono ?_
  rintro e w2 ⟨g2, rfl, hg2, hr2, hb2⟩
  have HR2 : Hid (RowI w2 g2 xs.length (col n t R 0 xs)) := hr2
  have hB2 : Below w.heap.size w w2 := hB1.trans (hb2.mono hB1.size)
  have d0 := hk hb2 c0
  have d1 := hk hb2 c1
  have d2 := hk hb2 c2
  clear c0 c1 c2 hr2 hg2
  go_wp2_with fail
  refine (one_yes n t R E x cap xs _ H.out HEE.out HN.out (HL.out.below hB2) (HI.out.below hB2)).mono ?_
  rintro e w3 ⟨g3, rfl, hg3, hr3, hb3⟩
  have HR3 : Hid (RowI w3 g3 xs.length (col n t R E xs)) := hr3
  have hB3 : Below w.heap.size w w3 := hB2.trans (hb3.mono hB2.size)
  clear d0 d1 d2 hr3 hg3
  go_wp2_with fail
  refine (poured_true _).mono ?_
  rintro e w4 ⟨rfl, hb4⟩
  have hB4 : Below w.heap.size w w4 := hB3.trans (hb4.mono hB3.size)
  have HA1 : Hid (RowB w4 g1 xs.length (bok n t R xs)) := ((HR1.out.kept (S := fun _ => False) (Oth.of_below hb2) id).kept (S := fun _ => False) (Oth.of_below hb3) id).kept (S := fun _ => False) (Oth.of_below hb4) id
  have HA2 : Hid (RowI w4 g2 xs.length (col n t R 0 xs)) := (HR2.out.kept (S := fun _ => False) (Oth.of_below hb3) id).kept (S := fun _ => False) (Oth.of_below hb4) id
  have HA3 : Hid (RowI w4 g3 xs.length (col n t R E xs)) := HR3.out.kept (S := fun _ => False) (Oth.of_below hb4) id
  have HK4 : Hid (w4.cell? ⟨w.heap.size, 0, none⟩ = some (.int .i64 n) ∧ w4.cell? ⟨w.heap.size, 1, none⟩ = some (.int .i64 t) ∧ w4.cell? ⟨w.heap.size, 2, none⟩ = some (.int .i64 R) ∧ w4.cell? ⟨w.heap.size + 1, 0, none⟩ = some (.int .i64 n2) ∧ w4.cell? ⟨w.heap.size + 1, 1, none⟩ = some (.int .i64 t2) ∧ w4.cell? ⟨w.heap.size + 1, 2, none⟩ = some (.int .i64 R2)) :=
    ⟨hk hb4 (hk hb3 (hk hb2 HK1.out.1)), hk hb4 (hk hb3 (hk hb2 HK1.out.2.1)), hk hb4 (hk hb3 (hk hb2 HK1.out.2.2.1)), hk hb4 (hk hb3 (hk hb2 HK1.out.2.2.2.1)), hk hb4 (hk hb3 (hk hb2 HK1.out.2.2.2.2.1)), hk hb4 (hk hb3 (hk hb2 HK1.out.2.2.2.2.2))⟩
  clear hb2 hb3 hb4 hB0 hB00
  go_wp2
  go_loopw [15] (fun i wr => ∃ k : Nat, k ≤ xs.length ∧ i = .int .i64 k ∧ ∃ q, wr = w4.drewN q) (fun i _ => xs.length - (intOf i).toNat)
  case atStart => exact ⟨0, Nat.zero_le _, rfl, 0, rfl⟩
  case round =>
    obtain ⟨k, hk', rfl, q, rfl⟩ := hrel
    by_cases hlt : k < xs.length
    · have a0 := HA1.out k hlt
      have b0 := HA2.out k hlt
      have c0 := HA3.out k hlt
      have g0 := HG.out 0 k hlt
      have gE := HG.out E k hlt
      have z0 := HZ.out k hlt
      generalize col n t R 0 xs k = p1 at *
      generalize col n t R E xs k = p2 at *
      generalize bok n t R xs k = r1 at *
      cases r1 with
      | true =>
        obtain rfl : p1 = 1 := g0.2 rfl
        obtain rfl : p2 = 1 := gE.2 rfl
        clear g0 gE z0
        go_wp2
        go_quiet (fail)
        go_wp2
        go_roundw
        case rel => exact ⟨k + 1, by omega, by go_num, _, rfl⟩
        case measure => simp [intOf]; omega
      | false =>
        have h1 : (p1 == 1) = false := by
          simp only [beq_eq_false_iff_ne]; exact fun e => by have := g0.1 e; simp at this
        have h2 : (p2 == 1) = false := by
          simp only [beq_eq_false_iff_ne]; exact fun e => by have := gE.1 e; simp at this
        have h3 : (p1 == 2) = false := by
          simp only [beq_eq_false_iff_ne]; exact z0
        clear g0 gE z0
        go_wp2
        go_quiet (fail)
        go_wp2
        go_roundw
        case rel => exact ⟨k + 1, by omega, by go_num, _, rfl⟩
        case measure => simp [intOf]; omega
    · obtain ⟨c0, c1, c2, e0, e1, e2⟩ := HK4.out
      have hB5 : Below w.heap.size w (w4.drewN q) := below_drewN hB4 _
      have HKQ : Hid (w4.cell? ⟨w.heap.size + 1, 0, none⟩ = some (.int .i64 n2) ∧ w4.cell? ⟨w.heap.size + 1, 1, none⟩ = some (.int .i64 t2) ∧ w4.cell? ⟨w.heap.size + 1, 2, none⟩ = some (.int .i64 R2)) := ⟨e0, e1, e2⟩
      by_cases hb2 : okB n2 t2 R2
      · have H2 : Hid (okB n2 t2 R2) := hb2
        clear hb2
        go_wp2_with fail
        refine (two_yes n t R n2 t2 R2 x cap xs _ H.out H2.out HN.out (HL.out.below hB5) (HI.out.below hB5)).mono ?_
        rintro e w5 ⟨g5, rfl, hg5, hr5, hb5⟩
        have HR5 : Hid (RowI w5 g5 xs.length (twc n t R n2 t2 R2 xs)) := hr5
        have hB6 : Below w.heap.size w w5 := hB5.trans (hb5.mono hB5.size)
        have f0 := hk (a := w4.drewN q) hb5 e0
        have f1 := hk (a := w4.drewN q) hb5 e1
        have f2 := hk (a := w4.drewN q) hb5 e2
        clear hr5 hg5 c0 c1 c2 e0 e1 e2
        go_wp2_with fail
        refine (conform_yes n2 t2 R2 x cap xs _ H2.out HN.out (HL.out.below hB6) (HI.out.below hB6)).mono ?_
        rintro e w6 ⟨g6, rfl, hg6, hr6, hb6⟩
        have hB7 : Below w.heap.size w w6 := hB6.trans (hb6.mono hB6.size)
        have HA5 : Hid (RowI w6 g5 xs.length (twc n t R n2 t2 R2 xs)) := HR5.out.kept (S := fun _ => False) (Oth.of_below hb6) id
        have HA6 : Hid (RowB w6 g6 xs.length (bok n2 t2 R2 xs)) := hr6
        clear hr6 hg6 f0 f1 f2
        go_wp2
        go_loopw [20] (fun i wr => ∃ k : Nat, k ≤ xs.length ∧ i = .int .i64 k ∧ ∃ q, wr = w6.drewN q) (fun i _ => xs.length - (intOf i).toNat)
        case atStart => exact ⟨0, Nat.zero_le _, rfl, 0, rfl⟩
        case round =>
          obtain ⟨k, hk', rfl, q, rfl⟩ := hrel
          by_cases hlt : k < xs.length
          · have a0 := HA6.out k hlt
            have b0 := HA5.out k hlt
            have g0 := HD.out k hlt
            generalize twc n t R n2 t2 R2 xs k = p1 at *
            generalize bok n2 t2 R2 xs k = r1 at *
            cases r1 with
            | true =>
              have h1 : (p1 != 3) = true := by
                simp only [bne_iff_ne]; exact g0.2 rfl
              clear g0
              go_wp2
              go_quiet (fail)
              go_wp2
              go_roundw
              case rel => exact ⟨k + 1, by omega, by go_num, _, rfl⟩
              case measure => simp [intOf]; omega
            | false =>
              obtain rfl : p1 = 3 := by
                by_cases h : p1 = 3
                · exact h
                · have := g0.1 h; simp at this
              clear g0
              go_wp2
              go_quiet (fail)
              go_wp2
              go_roundw
              case rel => exact ⟨k + 1, by omega, by go_num, _, rfl⟩
              case measure => simp [intOf]; omega
          · go_wp2
            go_ret
            exact ⟨rfl, below_drewN hB7 _⟩
      · have H2 : Hid (¬ okB n2 t2 R2) := hb2
        clear hb2
        go_wp2_with fail
        refine (HT.out H2.out _).mono ?_
        rintro e w5 ⟨rfl, hb5⟩
        have hB6 : Below w.heap.size w w5 := hB5.trans (hb5.mono hB5.size)
        have f0 := hk (a := w4.drewN q) hb5 e0
        have f1 := hk (a := w4.drewN q) hb5 e1
        have f2 := hk (a := w4.drewN q) hb5 e2
        clear c0 c1 c2 e0 e1 e2
        go_wp2_with fail
        refine (conform_nob n2 t2 R2 _ _ H2.out).mono ?_
        rintro e w6 ⟨rfl, hb6⟩
        go_wp2
        go_ret
        exact ⟨rfl, hB6.trans (hb6.mono hB6.size)⟩

theorem colors_any (n t R n2 t2 R2 ex : Int) (x : Option Addr) (cap : Nat) (xs : List It) (w : World) (hL : Laid w) (hI : ItemsAt w x xs) (hm : xs.length ≤ maxLen) :
    Calls Tryd.prog 6 #[.agg #[.int .i64 n, .int .i64 t, .int .i64 R], .agg #[.int .i64 n2, .int .i64 t2, .int .i64 R2], .int .i64 ex, .slice x xs.length cap] w fun e w' => e = .returned (.bool true) ∧ Below w.heap.size w w' := by
  by_cases h : okB n t R ∧ okL xs
  · exact colors_yes n t R n2 t2 R2 ex x cap xs w h.1 h.2 hL hI hm
  · exact colors_err n t R n2 t2 R2 ex x cap xs w h hL hI hm
end Go.Proofs.YtbghhnafpflmdabDoor
