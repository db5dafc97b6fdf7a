/-
  millracelaw.flows: the flows as the document's own answer takes them. Conditions: the flows lie in memory, and their list takes at most 2^47 bytes.
-/
import Derived.Test.YtnaooocmggnojaaDoorSd9
import Derived.Test.YtnaooocmggnojaaDoorLwErr
namespace Go.Proofs.YtnaooocmggnojaaDoor
open Go.RowKit Go.Extern.Stop Go.Stop Go.Extern

/-- Flows that were handed in. -/
def FlArg (w : World) (x : Option Addr) (m : Nat) (F : Nat → Flw) : Prop := m = 0 ∨ ∃ b off, x = some ⟨b, off, none⟩ ∧ FlsAt w b off m F
theorem FlArg.below {w w' : World} {x : Option Addr} {m : Nat} {F : Nat → Flw} (h : FlArg w x m F) (hb : Below w.heap.size w w') : FlArg w' x m F := by
  rcases h with h | ⟨b, off, e, h⟩
  · exact Or.inl h
  · exact Or.inr ⟨b, off, e, h.below hb⟩
theorem checkA (x : Option Addr) (cap m : Nat) (F : Nat → Flw) (w : World) (hm : m ≤ maxLen) (hA : FlArg w x m F) :
    Calls Tryd.prog 9 #[.slice x m cap] w fun e w' => e = .returned (errV (scedE m F)) ∧ Below w.heap.size w w' := by
  rcases hA with h | ⟨b, off, rfl, h⟩
  · exact scheck_long x cap m F w hm (by omega)
  · exact scheck_any b off cap m F w hm h
/-- A flow's cells. -/
def Flw.cs (f : Flw) : List Value := [.slice f.x f.n f.cx, .slice f.y f.m f.cy]
theorem Flw.cs_len (f : Flw) : f.cs.length = 2 := rfl
def flC (F : Nat → Flw) (k : Nat) : List Value := flt Flw.cs ((List.range k).map F)
theorem flC_succ (F : Nat → Flw) (k : Nat) : flC F (k + 1) = flC F k ++ (F k).cs := by
  unfold flC
  rw [List.range_succ, List.map_append, flt_append]
  simp [flt]
theorem flC_at (F : Nat → Flw) {k i j : Nat} (hi : i < k) (hj : j < 2) : (flC F k)[i * 2 + j]? = (F i).cs[j]? := flt_at Flw.cs 2 Flw.cs_len (by simp [hi]) hj
theorem infoRFlow : (Tryd.prog.info? 38).map (fun i => (i.zero, i.size, i.bytes)) = some (some (.agg #[.slice none 0 0, .slice none 0 0]), 2, 48) := by kernel_rfl
/-- What flows holds while it goes. -/
structure FlwR (w : World) (m : Nat) (F : Nat → Flw) (out s i : Value) (wr : World) : Prop where
  ex : ∃ (k : Nat) (z : Int), k ≤ m ∧ i = .int .i64 k ∧ s = .int .i64 z ∧ Seg wr 38 2 out k (flC F k)
  ov : ∀ b, out.ownBlock = some b → w.heap.size ≤ b
  bel : Below w.heap.size w wr
theorem fl_of_seg {w : World} {v : Value} {m : Nat} {F : Nat → Flw} (h : Seg w 38 2 v m (flC F m)) (hF : ∀ i, i < m → FlwAt w (F i)) : ∃ x cap, v = .slice x m cap ∧ FlArg w x m F := by
  rcases h.form with ⟨rfl, rfl, _⟩ | ⟨b, off, cap, rfl, _, _, _, hc⟩
  · exact ⟨none, 0, rfl, Or.inl rfl⟩
  · refine ⟨_, cap, rfl, Or.inr ⟨b, off, rfl, fun i hi => ?_⟩⟩
    have h0 := hc (i * 2 + 0) (.slice (F i).x (F i).n (F i).cx) (by rw [flC_at F hi (by omega)]; rfl)
    have h1 := hc (i * 2 + 1) (.slice (F i).y (F i).m (F i).cy) (by rw [flC_at F hi (by omega)]; rfl)
    exact ⟨h0, by rw [Nat.add_assoc]; exact h1, hF i hi⟩
set_option maxRecDepth 20000 in
set_option maxHeartbeats 2000000 in
theorem lflows_any (x : Option Addr) (cap m : Nat) (F : Nat → Flw) (w : World) (hm : m ≤ maxLen) (hs : m * 48 ≤ 140737488355328) (hA : FlArg w x m F) :
    Calls Tryd.prog 5 #[.slice x m cap] w fun e w' => ∃ (y : Option Addr) (cy : Nat) (ok : Bool), e = .returned (.tuple #[.slice y m cy, .bool ok]) ∧ FlArg w' y m F ∧ (ok = true → m ≤ 20) ∧ Below w.heap.size w w' := by
  have HA : Hid (FlArg w x m F) := hA
  obtain ⟨i0, hi, hz0, hz1, hz2⟩ := info_parts infoRFlow
  have HFW : Hid (∀ W, Below w.heap.size w W → ∀ i, i < m → FlwAt W (F i)) := fun W hW i hi => by
    rcases hA with h | ⟨b, off, _, h⟩
    · omega
    · exact (h i hi).2.2.below hW
  unfold maxLen at hm
  clear hA
  go_enter Tryd.func5, Tryd.ntmps5
  go_wp2
  go_loopw [4, 5, 6] (fun out s i wr => FlwR w m F out s i wr) (fun _ _ i _ => m - (intOf i).toNat)
  case atStart => exact ⟨⟨0, 0, Nat.zero_le _, rfl, rfl, Seg.nil _ _ _⟩, fun b e => by simp [Value.ownBlock] at e, Below.refl _ _⟩
  case round =>
    obtain ⟨⟨k, z, hk, rfl, rfl, hseg⟩, hov, hbel⟩ := hrel
    have HSEG : Hid (Seg wr 38 2 u4 k (flC F k)) := hseg
    have HOV : Hid (∀ b, u4.ownBlock = some b → w.heap.size ≤ b) := hov
    have HB : Hid (Below w.heap.size w wr) := hbel
    obtain ⟨ux, uc, rfl⟩ := hseg.slc
    clear hseg hov hbel
    by_cases hlt : k < m
    · obtain ⟨b, off, rfl, hF⟩ : ∃ b off, x = some ⟨b, off, none⟩ ∧ FlsAt w b off m F := by
        rcases HA.out with h | h
        · omega
        · exact h
      obtain ⟨c0, c1, hw0⟩ := hF.below HB.out k hlt
      have hbl := World.block_lt_of_cell? wr _ c0
      have HC : Hid ((F k).cs = [.slice (F k).x (F k).n (F k).cx, .slice (F k).y (F k).m (F k).cy]) := rfl
      clear hF hw0
      generalize (F k).x = fx at *
      generalize (F k).cx = fcx at *
      generalize (F k).n = fn at *
      generalize (F k).y = fy at *
      generalize (F k).cy = fcy at *
      generalize (F k).m = fm at *
      go_wp2
      go_cut [4] (fun out wx => ∃ ux uc, out = .slice ux (k + 1) uc ∧ Seg wx 38 2 out (k + 1) (flC F (k + 1)) ∧ (∀ b, out.ownBlock = some b → w.heap.size ≤ b) ∧ Below w.heap.size w wx ∧ wx.cell? ⟨b, off + k * 2, none⟩ = some (.slice fx fn fcx) ∧ wx.cell? ⟨b, off + k * 2 + 1, none⟩ = some (.slice fy fm fcy))
      case first =>
        go_region_law (refine step_append_seg _ (by rfl) (.tmp 13) (.tmp 25) 23 (by rfl) 38 i0 _ 2 48 Tryd.underlying23 hi hz0 hz1 hz2 rfl (by decide) (.slice ux k uc) k (flC F k) (by rfl) (HSEG.out.below (by repeat' (first | with_reducible exact Below.refl _ _ | with_reducible refine Below.drew ?_ | with_reducible refine below_alloc_ ?_ _))) ⟨wr.heap.size, 0, none⟩ 1 1 [.slice fx fn fcx, .slice fy fm fcy] (by rfl) rfl (news_of (new_block_ (by simp))) (by simp [Value.oneCell']) (by decide) (by unfold maxLen; omega) (by omega) _ rfl ?_; intro g1 off1 cap1 w5 hs5 hg5 ha5 hl5)
        all_goals
          go_wp2_with fail
          go_meet
          case rel =>
            rw [← HC.out, ← flC_succ] at hs5
            have hbw : Below w.heap.size w w5 := by
              refine Below.grown (w := wr.drew.alloc (.cells #[.slice fx fn fcx, .slice fy fm fcy] 38)) (below_alloc_ HB.out.drew _) hg5 (by simp; have := HB.out.size; omega) (fun b e => HOV.out b e)
            have hblk : ∀ o, w5.cell? ⟨b, o, none⟩ = w.cell? ⟨b, o, none⟩ := fun o => hbw.cell (p := ⟨b, o, none⟩) (by
              rcases HA.out with h | ⟨b', off', e, h⟩
              · omega
              · simp only [Option.some.injEq, Addr.mk.injEq, and_true] at e
                obtain ⟨rfl, rfl⟩ := e
                exact (show b < w.heap.size from World.block_lt_of_cell? w ⟨b, off + k * 2, none⟩ (h k hlt).1))
            have hblk2 : ∀ o, wr.cell? ⟨b, o, none⟩ = w.cell? ⟨b, o, none⟩ := fun o => HB.out.cell (p := ⟨b, o, none⟩) (by
              rcases HA.out with h | ⟨b', off', e, h⟩
              · omega
              · simp only [Option.some.injEq, Addr.mk.injEq, and_true] at e
                obtain ⟨rfl, rfl⟩ := e
                exact (show b < w.heap.size from World.block_lt_of_cell? w ⟨b, off + k * 2, none⟩ (h k hlt).1))
            refine ⟨_, _, rfl, hs5, fun b' e => ?_, hbw, by rw [hblk, ← hblk2]; exact c0, by rw [hblk, ← hblk2]; exact c1⟩
            simp only [Value.ownBlock, Option.some.injEq] at e
            subst e
            rcases ha5 with e | e
            · exact HOV.out _ e
            · have := HB.out.size; simp at e; omega
      case rest =>
      obtain ⟨vx, vc, rfl, hsg, hov, hbl5, d0, d1⟩ := hcut
      have HSG : Hid (Seg wc 38 2 (.slice vx (k + 1) vc) (k + 1) (flC F (k + 1))) := hsg
      have HOV' : Hid (∀ b, Value.ownBlock (.slice vx (k + 1) vc) = some b → w.heap.size ≤ b) := hov
      have HB5 : Hid (Below w.heap.size w wc) := hbl5
      have hbc := World.block_lt_of_cell? wc _ d0
      clear hsg hov hbl5 c0 c1
      go_wp2
      go_quiet (fail)
      go_wp2
      go_roundw
      case rel => exact ⟨⟨k + 1, _, by omega, by go_num, rfl, HSG.out.drewN _⟩, HOV'.out, below_drewN' HB5.out _⟩
      case measure => simp [intOf]; omega
    · obtain rfl : k = m := by omega
      by_cases hz : z ≤ 700
      · go_wp2
        go_ret2
        obtain ⟨y, cy, e, hfa⟩ := fl_of_seg HSEG.out (HFW.out wr HB.out)
        cases e
        exact ⟨_, _, _, rfl, hfa, fun h => by have := of_decide_eq_true h; omega, HB.out⟩
      · go_wp2
        go_ret2
        obtain ⟨y, cy, e, hfa⟩ := fl_of_seg HSEG.out (HFW.out wr HB.out)
        cases e
        exact ⟨_, _, Or.inl ⟨rfl, hfa, HB.out⟩⟩
end Go.Proofs.YtnaooocmggnojaaDoor
