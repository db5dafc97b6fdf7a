/-
  The law ItemBack, walked: what Text writes of packets that may be, Parse reads again. Conditions: what strconv and bytealg lay is laid; errors.errorType holds its handle; the packets lie in memory.
-/
import Derived.Test.YtcdcplocpdmjaaaDoorIb0
import Derived.Test.YtcdcplocpdmjaaaDoorIp6
import Derived.Test.YtcdcplocpdmjaaaDoorListed
namespace Go.Proofs.YtcdcplocpdmjaaaDoor
open Go.RowKit Go.Shelf Go.Extern.Stop Go.Stop Go.Extern

theorem seg_itemsAt {w : World} {v : Value} {l : List It} (h : Seg w 39 5 v l.length (flt itC l)) : ∃ y c, v = .slice y l.length c ∧ ItemsAt w y l := by
  have h0 := h
  rcases h.form with ⟨e, e0, _⟩ | ⟨b, o, c, e, _⟩
  · exact ⟨none, 0, by rw [e, e0], Or.inl (List.length_eq_zero_iff.1 e0)⟩
  · subst e
    exact ⟨_, _, rfl, Or.inr ⟨b, o, rfl, seg_items h0⟩⟩
theorem err_iface {w : World} {v : Value} {E P : Int} (h : ErrIs w v E P) (hE : E ≠ 0) : ∃ t u, v = .iface t u := by
  rcases h with ⟨_, h, _⟩ | ⟨h, _⟩ | ⟨a, h, _⟩
  · exact absurd h hE
  · exact ⟨_, _, h⟩
  · exact ⟨_, _, h⟩
set_option maxRecDepth 100000 in
set_option maxHeartbeats 4000000 in
theorem itemBackLaw_any (x : Option Addr) (cap : Nat) (xs : List It) (w : World) (hG : GlobM w) (hL : Laid w) (hI : ItemsAt w x xs) (hm : xs.length ≤ maxLen) :
    Calls Tryd.prog 4 #[.slice x xs.length cap] w fun e w' => e = .returned (.bool true) ∧ Below w.heap.size w w' := by
  unfold maxLen at hm
  by_cases h120 : 120 < xs.length
  · go_enter Tryd.func4, Tryd.ntmps4
    go_wp2
    go_ret
    exact ⟨rfl, Below.refl _ _⟩
  have HL : Hid (∀ w', Below w.heap.size w w' → Laid w') := fun w' h => hL.below h
  have HG : Hid (∀ w', Below w.heap.size w w' → GlobM w') := fun w' h => hG.below h
  have HI : Hid (∀ w', Below w.heap.size w w' → ItemsAt w' x xs) := fun w' h => hI.below h
  have HLS : Hid (∀ w', Below w.heap.size w w' → Calls Tryd.prog 10 #[.slice x xs.length cap] w' fun e w2 => ∃ v, e = .returned v ∧ ErrIs w2 v (listE xs).1 (listE xs).2 ∧ Below w.heap.size w w2) := fun w' h => (list_any x cap xs w' (HL.out w' h) (HI.out w' h) (by unfold maxLen; omega)).mono fun e w2 ⟨v, a, b, c⟩ => ⟨v, a, b, h.trans (c.mono h.size)⟩
  have HLT : Hid (∀ w', Below w.heap.size w w' → Calls Tryd.prog 9 #[] w' fun e w2 => e = .returned (.bool true) ∧ Below w.heap.size w w2) := fun w' h => (listed_true w' (HL.out w' h)).mono fun e w2 ⟨a, c⟩ => ⟨a, h.trans (c.mono h.size)⟩
  clear hG hL hI
  by_cases hE : (listE xs).1 = 0
  · have HX : Hid (∀ y ∈ xs, ItOk y) := items_ok hE
    have HP : Hid (parseI (textOf xs) = .ok xs) := parse_text HX.out hE
    have HL100 : xs.length ≤ 100 := (listE_zero hE).1
    have HT : Hid ((textOf xs).length ≤ 20000) := by have := text_len (xs := xs) fun y hy => (HX.out y hy).wf; show _ ≤ _; omega
    have HLN : Hid (∀ w', Below w.heap.size w w' → Calls Tryd.prog 10 #[.slice x xs.length cap] w' fun e w2 => e = .returned .nilIface ∧ Below w.heap.size w w2) := fun w' h => (HLS.out w' h).mono fun e w2 ⟨v, a, b, c⟩ => by
      rw [hE] at b
      exact ⟨by rw [a, b.nil], c⟩
    have HTX : Hid (∀ w' y c, Below w.heap.size w w' → ItemsAt w' y xs → Calls Tryd.prog 11 #[.slice y xs.length c] w' fun e w2 => e = .returned (.string ⟨(textOf xs).toArray⟩) ∧ Below w'.heap.size w' w2) := fun w' y c h hi => text_any y c xs w' (HG.out w' h).1.1 hi (fun z hz => (HX.out z hz).wf) (by omega)
    have HPA : Hid (∀ w', Below w.heap.size w w' → Calls Tryd.prog 6 #[.string ⟨(textOf xs).toArray⟩] w' fun e w2 => ∃ y c, e = .returned (.tuple #[.slice y xs.length c, .nilIface]) ∧ ItemsAt w2 y xs ∧ Below w'.heap.size w' w2) := by
      intro w' h
      refine (iparse_any ⟨(textOf xs).toArray⟩ w' (by show (textOf xs).toArray.size ≤ 20000; rw [List.size_toArray]; exact HT.out) (HG.out w' h) (HL.out w' h)).mono ?_
      have ed : (⟨(textOf xs).toArray⟩ : ByteArray).data.toList = textOf xs := List.toList_toArray
      rw [ed, HP.out]
      rintro e w2 ⟨hb, ⟨l, lv, h1, rfl, hs, _⟩ | ⟨ec, ep, a, h1, _⟩⟩
      · obtain rfl : xs = l := Except.ok.inj h1
        obtain ⟨y, c, rfl, hi⟩ := seg_itemsAt hs
        exact ⟨y, c, rfl, hi, hb⟩
      · cases h1
    clear hE HLS
    go_enter Tryd.func4, Tryd.ntmps4
    go_wp2_with fail
    refine (HLT.out w (Below.refl _ _)).mono ?_
    rintro e w1 ⟨rfl, hb1⟩
    go_wp2_with fail
    refine (HLN.out w1 hb1).mono ?_
    rintro e w2 ⟨rfl, hb2⟩
    clear hb1
    go_wp2_with fail
    refine (HTX.out w2 x cap hb2 (HI.out w2 hb2)).mono ?_
    rintro e w3 ⟨rfl, hb3⟩
    have HB3 : Hid (Below w.heap.size w w3) := hb2.trans (hb3.mono hb2.size)
    clear hb2 hb3
    go_wp2_with fail
    refine (HPA.out w3 HB3.out).mono ?_
    rintro e w4 ⟨y, c, rfl, hy, hb4⟩
    have HB4 : Hid (Below w.heap.size w w4) := HB3.out.trans (hb4.mono HB3.out.size)
    have HY : Hid (∀ w', Below w4.heap.size w4 w' → ItemsAt w' y xs) := fun w' h => hy.below h
    have HX4 : Hid (∀ w', Below w4.heap.size w4 w' → ItemsAt w' x xs) := fun w' h => HI.out w' (HB4.out.trans (h.mono HB4.out.size))
    clear hb4 hy
    go_wp2
    go_loopg [5] xs.length (fun g v5 wx => ∃ i : Nat, i + g = xs.length ∧ v5 = .int .i64 i ∧ Hid (Below w4.heap.size w4 wx))
    case atStart => exact ⟨0, by omega, rfl, Below.refl _ _⟩
    case round =>
      obtain ⟨i, hig, rfl, HB⟩ := hrel
      by_cases hi : i < xs.length
      · obtain ⟨z, hz⟩ : ∃ z, xs[i]? = some z := ⟨_, List.getElem?_eq_getElem hi⟩
        have h1 := HX4.out _ HB.out
        have h2 := HY.out _ HB.out
        rcases h1 with h1 | ⟨b1, o1, rfl, h1⟩
        · rw [h1] at hz; simp at hz
        rcases h2 with h2 | ⟨b2, o2, rfl, h2⟩
        · rw [h2] at hz; simp at hz
        obtain ⟨c0, c1, c2, c3, c4⟩ := h1 i z hz
        obtain ⟨e0, e1, e2, e3, e4⟩ := h2 i z hz
        have hi1 : (i : Int) < xs.length := by omega
        clear hz h1 h2
        go_wp2
        go_region
        all_goals go_wp2
        all_goals go_roundg (gk - 1)
        case measure => omega
        case rel => exact ⟨i + 1, by omega, by go_num, HB.out.drew⟩
      · obtain rfl : i = xs.length := by omega
        have HB5 : Hid (Below w.heap.size w wr) := HB4.out.trans (HB.out.mono HB4.out.size)
        go_wp2_with fail
        refine (HTX.out wr y c HB5.out (HY.out wr HB.out)).mono ?_
        rintro e w6 ⟨rfl, hb6⟩
        have HB6 : Hid (Below w4.heap.size w4 w6) := HB.out.trans (hb6.mono HB.out.size)
        clear hb6
        go_wp2_with fail
        refine (HTX.out w6 x cap (HB4.out.trans (HB6.out.mono HB4.out.size)) (HX4.out w6 HB6.out)).mono ?_
        rintro e w7 ⟨rfl, hb7⟩
        go_wp2
        go_ret
        exact ⟨rfl, HB4.out.trans ((HB6.out.trans (hb7.mono HB6.out.size)).mono HB4.out.size)⟩
  · have HLN : Hid (∀ w', Below w.heap.size w w' → Calls Tryd.prog 10 #[.slice x xs.length cap] w' fun e w2 => ∃ t u, e = .returned (.iface t u) ∧ Below w.heap.size w w2) := fun w' h => (HLS.out w' h).mono fun e w2 ⟨v, a, b, c⟩ => by
      obtain ⟨t, u, rfl⟩ := err_iface b hE
      exact ⟨t, u, a, c⟩
    clear hE HLS
    go_enter Tryd.func4, Tryd.ntmps4
    go_wp2_with fail
    refine (HLT.out w (Below.refl _ _)).mono ?_
    rintro e w1 ⟨rfl, hb1⟩
    go_wp2_with fail
    refine (HLN.out w1 hb1).mono ?_
    rintro e w2 ⟨t, u, rfl, hb2⟩
    clear hb1
    go_wp2_with fail
    refine (HLT.out w2 hb2).mono ?_
    rintro e w3 ⟨rfl, hb3⟩
    go_wp2
    go_ret
    exact ⟨rfl, hb3⟩
end Go.Proofs.YtcdcplocpdmjaaaDoor
