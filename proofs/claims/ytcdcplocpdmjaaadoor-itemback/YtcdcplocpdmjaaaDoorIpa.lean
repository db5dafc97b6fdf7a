/-
  The law ItemParses, walked: any text is read, or refused with the place, as the reference tells. Conditions: what strconv, bytealg and millraceref.Fine lay is laid; errors.errorType holds its handle.
-/
import Derived.Test.YtcdcplocpdmjaaaDoorIp9
namespace Go.Proofs.YtcdcplocpdmjaaaDoor
open Go.RowKit Go.Shelf Go.Extern.Stop Go.Stop Go.Extern

theorem plc_len : ∀ (xs : List (List UInt8)) (p : Nat), (plc p xs).length ≤ xs.length
  | [], _ => by simp [plc]
  | x :: xs, p => by
    have ih := plc_len xs (p + x.length + 1)
    rw [plc, List.length_append, List.length_cons]
    split
    · simp; omega
    · simp; omega
theorem parseI_len {t : List UInt8} {l : List It} (h : parseI t = .ok l) : l.length ≤ t.length + 1 := by
  have h1 := readL_len _ _ _ h
  have h2 := plc_len (cutL 10 t) 0
  have h3 := (cutL_many 10 t).1
  unfold linesL at h1
  simp at h1
  omega
theorem same_any {u v : Value} {l : List It} (w : World) (h1 : Seg w 39 5 u l.length (flt itC l)) (h2 : Seg w 39 5 v l.length (flt itC l)) (hm : l.length ≤ 20001) : Calls Tryd.prog 8 #[u, v] w fun e w' => e = .returned (.bool true) ∧ Below w.heap.size w w' := by
  have f1 : ∃ x c, u = .slice x l.length c ∧ (0 < l.length → ∃ b o, x = some ⟨b, o, none⟩) := by
    rcases h1.form with ⟨e, h0, _⟩ | ⟨b, o, c, e, _⟩
    · exact ⟨_, _, by rw [e, h0], fun h => by omega⟩
    · exact ⟨_, _, e, fun _ => ⟨b, o, rfl⟩⟩
  have f2 : ∃ x c, v = .slice x l.length c ∧ (0 < l.length → ∃ b o, x = some ⟨b, o, none⟩) := by
    rcases h2.form with ⟨e, h0, _⟩ | ⟨b, o, c, e, _⟩
    · exact ⟨_, _, by rw [e, h0], fun h => by omega⟩
    · exact ⟨_, _, e, fun _ => ⟨b, o, rfl⟩⟩
  obtain ⟨x, c, rfl, hx⟩ := f1
  obtain ⟨y, d, rfl, hy⟩ := f2
  by_cases h0 : 0 < l.length
  · obtain ⟨a, o, rfl⟩ := hx h0
    obtain ⟨b, q, rfl⟩ := hy h0
    exact same_some a o b q c d l w (seg_items h1) (seg_items h2) hm
  · rw [show l.length = 0 by omega]
    exact same_nil x y c d w
set_option maxRecDepth 100000 in
set_option maxHeartbeats 4000000 in
theorem parses_by (s : ByteArray) (w : World) (hL : Laid w) (E P : Int) (l : List It) (hm : l.length ≤ 20001) (hz : s.size ≤ 3000 ∨ 20000 < s.size ∧ s.size ≤ 30000)
    (hr : Calls Tryd.prog 5 #[.string s] w fun e w' => ∃ u, e = .returned (.tuple #[u, .agg #[.int .i64 E, .int .i64 P]]) ∧ Seg w' 39 5 u l.length (flt itC l) ∧ Below w.heap.size w w')
    (hp : ∀ w1, Below w.heap.size w w1 → Calls Tryd.prog 6 #[.string s] w1 fun e w' => ∃ u v, e = .returned (.tuple #[u, v]) ∧ ErrIs w' v E P ∧ Seg w' 39 5 u l.length (flt itC l) ∧ Below w1.heap.size w1 w') :
    Calls Tryd.prog 3 #[.string s] w fun e w' => e = .returned (.bool true) ∧ Below w.heap.size w w' := by
  have HR := hid_of hr
  have HP := hid_of hp
  have HLL : Hid (∀ W, Below w.heap.size w W → Laid W) := fun W h => hL.below h
  have HM := hid_of hm
  clear hr hp hL hm
  have d2 : (decide ((3000 : Int) < (s.size : Int)) && decide ((s.size : Int) ≤ 20000)) = false := by simp; omega
  have d3 : decide ((30000 : Int) < (s.size : Int)) = false := by simp; omega
  have hcase : (decide ((3000 : Int) < (s.size : Int)) = false) ∨ (decide ((3000 : Int) < (s.size : Int)) = true ∧ decide ((s.size : Int) ≤ 20000) = false) := by
    rcases hz with h | h
    · exact Or.inl (by simp; omega)
    · exact Or.inr ⟨by simp; omega, by simp; omega⟩
  clear d2 hz
  go_enter Tryd.func3, Tryd.ntmps3
  rcases hcase with a1 | ⟨a1, a2⟩
  all_goals
    go_wp2_with fail
    refine HR.out.mono ?_
    rintro e w1 ⟨u, rfl, hs1, hb1⟩
    have HB1 := hid_of (below_alloc_ hb1 (.cells #[.int .i64 E, .int .i64 P] 25))
    have HS1 := hid_of (hs1.below (below_alloc_ (Below.refl _ _) (.cells #[.int .i64 E, .int .i64 P] 25)))
    clear hs1 hb1
    go_wp2_with fail
    refine (HP.out _ HB1.out).mono ?_
    rintro e w2 ⟨u2, v2, rfl, hv2, hs2, hb2⟩
    have kf : w2.heap[w1.heap.size]? = some (.cells #[.int .i64 E, .int .i64 P] 25 (0, 0)) := (hb2.block w1.heap.size (by simp)).trans (new_block _ _)
    obtain ⟨f0, f1, -, -⟩ := cells2r kf
    have HB2 := hid_of (HB1.out.trans (hb2.mono HB1.out.size))
    have HAT := hid_of (at_true w2 hv2 (HLL.out w2 HB2.out))
    have HSA : Hid (∀ w3, Below w2.heap.size w2 w3 → Calls Tryd.prog 8 #[u2, u] w3 fun e w' => e = .returned (.bool true) ∧ Below w3.heap.size w3 w') := fun w3 h => same_any w3 (hs2.below h) ((HS1.out.below hb2).below h) HM.out
    clear hb2 kf hs2 hv2
    go_wp2_with fail
    refine HAT.out.mono ?_
    rintro e w3 ⟨rfl, hb3⟩
    have HB3 := hid_of hb3
    clear hb3
    go_wp2_with fail
    refine (HSA.out w3 HB3.out).mono ?_
    rintro e w4 ⟨rfl, hb4⟩
    go_wp2
    go_ret
    exact ⟨rfl, HB2.out.trans ((HB3.out.trans (hb4.mono HB3.out.size)).mono HB2.out.size)⟩
theorem itemParsesLaw_any (s : ByteArray) (w : World) (hG : GlobM w) (hF : FineLaid w) (hL : Laid w) (hs0 : s.size ≤ maxLen) :
    Calls Tryd.prog 3 #[.string s] w fun e w' => e = .returned (.bool true) ∧ Below w.heap.size w w' := by
  unfold maxLen at hs0
  have hsz : s.data.toList.length = s.size := Array.length_toList
  by_cases h3 : s.size ≤ 3000
  · cases hR : parseI s.data.toList with
    | ok l =>
      have hl := parseI_len hR
      refine parses_by s w hL 0 (-1) l (by omega) (Or.inl h3) ((riparse_any s w (by omega) hG hF).mono ?_) (fun w1 h1 => (iparse_any s w1 (by omega) (hG.below h1) (hL.below h1)).mono ?_)
      · rintro e w' ⟨hb, ⟨l', u, h, rfl, hs, _⟩ | ⟨ec, ep, h, _⟩⟩
        · obtain rfl : l = l' := Except.ok.inj (hR.symm.trans h)
          exact ⟨u, rfl, hs, hb⟩
        · rw [hR] at h; cases h
      · rintro e w' ⟨hb, ⟨l', u, h, rfl, hs, _⟩ | ⟨ec, ep, a, h, _⟩⟩
        · obtain rfl : l = l' := Except.ok.inj (hR.symm.trans h)
          exact ⟨u, _, rfl, Or.inl ⟨rfl, rfl, rfl⟩, hs, hb⟩
        · rw [hR] at h; cases h
    | error c =>
      obtain ⟨ec, ep⟩ := c
      refine parses_by s w hL ec ep [] (by simp) (Or.inl h3) ((riparse_any s w (by omega) hG hF).mono ?_) (fun w1 h1 => (iparse_any s w1 (by omega) (hG.below h1) (hL.below h1)).mono ?_)
      · rintro e w' ⟨hb, ⟨l', u, h, _⟩ | ⟨ec', ep', h, hc, rfl⟩⟩
        · rw [hR] at h; cases h
        · obtain ⟨rfl, rfl⟩ : ec = ec' ∧ ep = ep' := by rw [hR] at h; simpa using h
          exact ⟨_, rfl, Seg.nil _ _ _, hb⟩
      · rintro e w' ⟨hb, ⟨l', u, h, _⟩ | ⟨ec', ep', a, h, hc, rfl, q0, q1⟩⟩
        · rw [hR] at h; cases h
        · obtain ⟨rfl, rfl⟩ : ec = ec' ∧ ep = ep' := by rw [hR] at h; simpa using h
          exact ⟨_, _, rfl, Or.inr (Or.inr ⟨a, rfl, q0, q1, hc, by omega⟩), Seg.nil _ _ _, hb⟩
  · by_cases h20 : 20000 < s.size ∧ s.size ≤ 30000
    · refine parses_by s w hL 4 (-1) [] (by simp) (Or.inr h20) ((riparse_long s w h20.1).mono ?_) (fun w1 h1 => (iparse_long s w1 h20.1).mono ?_)
      · rintro e w' ⟨hb, rfl⟩
        exact ⟨_, rfl, Seg.nil _ _ _, hb⟩
      · rintro e w' ⟨hb, rfl⟩
        exact ⟨_, _, rfl, Or.inr (Or.inl ⟨rfl, by decide, rfl⟩), Seg.nil _ _ _, hb⟩
    · have a1 : decide ((3000 : Int) < (s.size : Int)) = true := by simp; omega
      by_cases h2 : s.size ≤ 20000
      · have a2 : decide ((s.size : Int) ≤ 20000) = true := by simp; omega
        go_enter Tryd.func3, Tryd.ntmps3
        go_wp2
        go_ret
        exact ⟨rfl, Below.refl _ _⟩
      · have a2 : decide ((s.size : Int) ≤ 20000) = false := by simp; omega
        have a3 : decide ((30000 : Int) < (s.size : Int)) = true := by simp; omega
        go_enter Tryd.func3, Tryd.ntmps3
        go_wp2
        go_ret
        exact ⟨rfl, Below.refl _ _⟩
end Go.Proofs.YtcdcplocpdmjaaaDoor
