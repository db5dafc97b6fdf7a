/-
  link.Delays: in new memory how long each packet was there, the last time that it was sent, or -1; and the law LinkDelays. Conditions: at most 150 packets, and 150 that were sent, that lie in memory.
-/
import Derived.Test.YticplgdfgckicaaGreatDoorSg
import Derived.Deep.OwnRows
namespace Go.Proofs.YticplgdfgckicaaGreatDoor
open Go.RowKit Go.Extern.Stop Go.Stop Go.Extern

theorem infoIntD : (Tryz.prog.info? 3).map (fun i => (i.zero, i.size, i.bytes)) = some (some (.int .i64 0), 1, 8) := by kernel_rfl
theorem drewD {B : Nat} {a w : World} (h : Below B a w) (n : Nat) : Below B a (w.drewN n) := h.trans ⟨rfl, rfl, rfl, Nat.le_refl _, fun _ _ => rfl⟩
theorem drewE {B : Nat} {a w : World} (h : Below B a w) : Below B a w.drew := h.trans ⟨rfl, rfl, rfl, Nat.le_refl _, fun _ _ => rfl⟩
/-- An own row holds ints. -/
def OwnD (w : World) (s n : Nat) (f : Nat → Int) : Prop := w.rowIs s 3 n (fun i => .int .i64 (f i))
theorem OwnD.lt {w : World} {s n : Nat} {f : Nat → Int} (h : OwnD w s n f) : s < w.heap.size := World.rowIs.lt h
theorem OwnD.below {w w' : World} {s n : Nat} {f : Nat → Int} (h : OwnD w s n f) (hb : Below w.heap.size w w') : OwnD w' s n f := World.rowIs.of_block h (hb.block s h.lt)
theorem OwnD.drewN {w : World} {s n : Nat} {f : Nat → Int} (h : OwnD w s n f) (q : Nat) : OwnD (w.drewN q) s n f := h
theorem OwnD.made (w : World) (n : Nat) : OwnD (w.alloc (.cells (madeCells #[.int .i64 0] n) 3)) w.heap.size n (fun _ => 0) := World.rowIs_made w (.int .i64 0) n 3
theorem OwnD.set {w : World} {s n : Nat} {f : Nat → Int} (h : OwnD w s n f) (i : Nat) (v : Int) {F : Nat → Int} (hF : ∀ j, j < n → F j = if j = i then v else f j) : OwnD (w.setCell ⟨s, i, none⟩ (.int .i64 v)) s n F := by
  refine (World.rowIs.set h i _).congr fun j hj => ?_
  rw [hF j hj]
  by_cases e : j = i
  · rw [if_pos e, if_pos e]
  · rw [if_neg e, if_neg e]
theorem OwnD.congr {w : World} {s n : Nat} {f F : Nat → Int} (h : OwnD w s n f) (hF : ∀ j, j < n → f j = F j) : OwnD w s n F := World.rowIs.congr h fun i hi => by rw [hF i hi]
theorem make_intsD (n : Nat) (h : n ≤ 1000) (w : World) : (Instr.makeSlice 26 (.int .i64 (n : Int)) (.int .i64 (n : Int))).run Tryz.prog w = .ok (.slice (some ⟨w.heap.size, 0, none⟩) n n) (w.alloc (.cells (madeCells #[.int .i64 0] n) 3)) :=
  run_make_row' (P := Tryz.prog) 26 3 (.int .i64 0) 8 Tryz.underlying26 infoIntD rfl .i64 .i64 n (by omega) (by omega) w
/-- Packets lie in memory: when each comes. -/
def ComeD (w : World) (x : Option Addr) (n : Nat) (a : Nat → Int) : Prop := n = 0 ∨ ∃ b off, x = some ⟨b, off, none⟩ ∧ b < w.heap.size ∧ ∀ i, i < n → w.cell? ⟨b, off + i * 5, none⟩ = some (.int .i64 (a i))
theorem ComeD.below {w w' : World} {x : Option Addr} {n : Nat} {a : Nat → Int} (h : ComeD w x n a) (hb : Below w.heap.size w w') : ComeD w' x n a := by
  rcases h with h | ⟨b, off, e, hl, h⟩
  · exact Or.inl h
  · exact Or.inr ⟨b, off, e, Nat.lt_of_lt_of_le hl hb.size, fun i hi => by rw [hb.cell (p := ⟨b, off + i * 5, none⟩) hl]; exact h i hi⟩
theorem ComeD.some {w : World} {x : Option Addr} {n : Nat} {a : Nat → Int} (h : ComeD w x n a) {i : Nat} (hi : i < n) : ∃ b off, x = some ⟨b, off, none⟩ ∧ b < w.heap.size ∧ ∀ i, i < n → w.cell? ⟨b, off + i * 5, none⟩ = some (.int .i64 (a i)) := by
  rcases h with h | h
  · omega
  · exact h
/-- What was sent lies in memory: number, from, to, mark. -/
def SentD (w : World) (x : Option Addr) (m : Nat) (s0 s1 s2 s3 : Nat → Int) : Prop := m = 0 ∨ ∃ b off, x = some ⟨b, off, none⟩ ∧ b < w.heap.size ∧ ∀ i, i < m → w.cell? ⟨b, off + i * 4, none⟩ = some (.int .i64 (s0 i)) ∧ w.cell? ⟨b, off + i * 4 + 1, none⟩ = some (.int .i64 (s1 i)) ∧ w.cell? ⟨b, off + i * 4 + 2, none⟩ = some (.int .i64 (s2 i)) ∧ w.cell? ⟨b, off + i * 4 + 3, none⟩ = some (.int .i64 (s3 i))
theorem SentD.below {w w' : World} {x : Option Addr} {n : Nat} {s0 s1 s2 s3 : Nat → Int} (h : SentD w x n s0 s1 s2 s3) (hb : Below w.heap.size w w') : SentD w' x n s0 s1 s2 s3 := by
  rcases h with h | ⟨b, off, e, hl, h⟩
  · exact Or.inl h
  · refine Or.inr ⟨b, off, e, Nat.lt_of_lt_of_le hl hb.size, fun i hi => ?_⟩
    obtain ⟨h0, h1, h2, h3⟩ := h i hi
    exact ⟨(hb.cell (p := ⟨b, _, none⟩) hl).trans h0, (hb.cell (p := ⟨b, _, none⟩) hl).trans h1, (hb.cell (p := ⟨b, _, none⟩) hl).trans h2, (hb.cell (p := ⟨b, _, none⟩) hl).trans h3⟩
theorem SentD.some {w : World} {x : Option Addr} {n : Nat} {s0 s1 s2 s3 : Nat → Int} (h : SentD w x n s0 s1 s2 s3) {i : Nat} (hi : i < n) : ∃ b off, x = some ⟨b, off, none⟩ ∧ b < w.heap.size ∧ w.cell? ⟨b, off + i * 4, none⟩ = some (.int .i64 (s0 i)) ∧ w.cell? ⟨b, off + i * 4 + 1, none⟩ = some (.int .i64 (s1 i)) ∧ w.cell? ⟨b, off + i * 4 + 2, none⟩ = some (.int .i64 (s2 i)) ∧ w.cell? ⟨b, off + i * 4 + 3, none⟩ = some (.int .i64 (s3 i)) := by
  rcases h with h | ⟨b, off, e, hl, h⟩
  · omega
  · exact ⟨b, off, e, hl, h i hi⟩
/-- How long packet i was there, by the first k that were sent. -/
def dlK (a num too : Nat → Int) : Nat → Nat → Int
  | 0, _ => -1
  | k + 1, i => if num k = (i : Int) then wrap64 (too k - a i) else dlK a num too k i
set_option maxRecDepth 20000 in
set_option maxHeartbeats 2000000 in
theorem delays_any (x : Option Addr) (cap n : Nat) (a : Nat → Int) (y : Option Addr) (ycap m : Nat) (s0 s1 s2 s3 : Nat → Int) (z : Option Addr) (zn zcap : Nat) (wt ms : Int) (w : World)
    (hx : ComeD w x n a) (hy : SentD w y m s0 s1 s2 s3) (hn : n ≤ 150) (hm : m ≤ 150) :
    Calls Tryz.prog 11 #[.slice x n cap, .agg #[.slice y m ycap, .slice z zn zcap, .int .i64 wt, .int .i64 ms]] w fun e w' => ∃ g, e = .returned (.slice (some ⟨g, 0, none⟩) n n) ∧ w.heap.size ≤ g ∧ OwnD w' g n (dlK a s0 s2 m) ∧ Below w.heap.size w w' := by
  have HX : Hid (ComeD w x n a) := hx
  have HY : Hid (SentD w y m s0 s1 s2 s3) := hy
  clear hx hy
  have hmk := make_intsD n (by omega)
  go_enter Tryz.func11, Tryz.ntmps11
  go_wp2
  have HB0 : Hid (Below w.heap.size w (w.alloc (.cells #[.slice y m ycap, .slice z zn zcap, .int .i64 wt, .int .i64 ms] 28))) := below_alloc_ (Below.refl _ _) _
  have HC0 : Hid ((w.alloc (.cells #[.slice y m ycap, .slice z zn zcap, .int .i64 wt, .int .i64 ms] 28)).heap[w.heap.size]? = some (.cells #[.slice y m ycap, .slice z zn zcap, .int .i64 wt, .int .i64 ms] 28)) := new_block _ _
  have HS0 : Hid ((w.alloc (.cells #[.slice y m ycap, .slice z zn zcap, .int .i64 wt, .int .i64 ms] 28)).heap.size = w.heap.size + 1) := by show _ = _; simp
  generalize w.alloc (.cells #[.slice y m ycap, .slice z zn zcap, .int .i64 wt, .int .i64 ms] 28) = w0 at *
  go_loopw [14] (fun i wr => ∃ k : Nat, k ≤ n ∧ i = .int .i64 k ∧ OwnD wr (w.heap.size + 1) n (fun j => if j < k then -1 else 0) ∧ Below w0.heap.size w0 wr) (fun i _ => n - (intOf i).toNat)
  case atStart => exact ⟨0, Nat.zero_le _, rfl, by have h := OwnD.made w0 n; rw [HS0.out] at h; exact h.congr fun j _ => by simp, (Below.refl _ _).alloc (Nat.le_refl _) _⟩
  case round =>
    obtain ⟨k, hk, rfl, hown, hbel⟩ := hrel
    have HO : Hid (OwnD wr (w.heap.size + 1) n (fun j => if j < k then -1 else 0)) := hown
    have HB : Hid (Below w0.heap.size w0 wr) := hbel
    by_cases hlt : k < n
    · have c1 : wr.cell? ⟨w.heap.size + 1, k, none⟩ = some (.int .i64 0) := by
        have := World.rowIs.cell hown (i := k) (by omega)
        simpa using this
      have c2 := World.rowIs.frozen hown k
      clear hown hbel
      go_wp2
      go_roundw
      case rel =>
        refine ⟨k + 1, by omega, by go_num, HO.out.set k _ fun j hj => ?_, HB.out.setCell (by have := HS0.out; show _ ≤ w.heap.size + 1; omega) _⟩
        by_cases e : j = k
        · subst e; simp
        · by_cases e2 : j < k
          · rw [if_pos (by omega), if_neg e, if_pos e2]
          · rw [if_neg (by omega), if_neg e, if_neg e2]
      case measure => simp [intOf]; omega
    · obtain rfl : k = n := by omega
      have HO1 : Hid (OwnD wr (w.heap.size + 1) k (dlK a s0 s2 0)) := HO.out.congr fun j hj => by simp [hj, dlK]
      have c0 : wr.cell? ⟨w.heap.size, 0, none⟩ = some (.slice y m ycap) := by
        have h0 : wr.heap[w.heap.size]? = _ := (hbel.block w.heap.size (by have := HS0.out; omega)).trans HC0.out
        simp [World.cell?, h0]
      clear hown hbel HO
      go_wp2
      clear c0
      go_loopw [24] (fun i wx => ∃ j : Nat, j ≤ m ∧ i = .int .i64 j ∧ OwnD wx (w.heap.size + 1) k (dlK a s0 s2 j) ∧ Below w0.heap.size w0 wx) (fun i _ => m - (intOf i).toNat)
      case atStart => exact ⟨0, Nat.zero_le _, rfl, HO1.out, HB.out⟩
      case round =>
        clear HO1 HB
        rename_i wq
        obtain ⟨j, hj, rfl, hown, hbel⟩ := hrel
        have HO : Hid (OwnD _ (w.heap.size + 1) k (dlK a s0 s2 j)) := hown
        have HB : Hid (Below w0.heap.size w0 _) := hbel
        have HBw : Hid (Below w.heap.size w _) := HB0.out.trans (hbel.mono HB0.out.size)
        by_cases hlt : j < m
        · obtain ⟨b, off, rfl, hbl, d0, d1, d2, d3⟩ := (HY.out.below HBw.out).some hlt
          have hne : b < w0.heap.size := by
            obtain ⟨b', off', e, hl', _⟩ := HY.out.some hlt
            simp only [Option.some.injEq, Addr.mk.injEq, and_true] at e
            obtain ⟨rfl, rfl⟩ := e
            have := HS0.out; omega
          have HLT : Hid (w.heap.size + 1 < wr.heap.size) := hown.lt
          have HD : Hid (∀ i, dlK a s0 s2 (j + 1) i = if s0 j = (i : Int) then wrap64 (s2 j - a i) else dlK a s0 s2 j i) := fun i => rfl
          clear hown hbel
          generalize s0 j = num at *
          generalize s1 j = frm at *
          generalize s2 j = too at *
          generalize s3 j = mrk at *
          by_cases hr : 0 ≤ num ∧ num < (k : Int)
          · obtain ⟨p, hp⟩ : ∃ p : Nat, num = p := ⟨num.toNat, by omega⟩
            subst hp
            have hpk : p < k := by omega
            obtain ⟨xb, xoff, rfl, hxl, hxc⟩ := (HX.out.below HBw.out).some hpk
            have e0 := hxc p hpk
            have HXL : Hid (xb < wr.heap.size) := hxl
            have c1 : wr.cell? ⟨w.heap.size + 1, p, none⟩ = some (.int .i64 (dlK a s0 s2 j p)) := World.rowIs.cell HO.out (i := p) hpk
            have c2 : wr.frozen? ⟨w.heap.size + 1, p, none⟩ = false := World.rowIs.frozen HO.out p
            clear hxc
            have HDP : Hid (∀ i, i < k → dlK a s0 s2 (j + 1) i = if i = p then wrap64 (too - a p) else dlK a s0 s2 j i) := fun i _ => by
              rw [HD.out i]
              by_cases e : i = p
              · subst e; simp
              · rw [if_neg e, if_neg (by omega)]
            generalize dlK a s0 s2 j p = old at *
            generalize a p = ap at *
            have hlt2 := HLT.out
            go_wp2
            go_region
            all_goals
              go_wp2
              go_roundw
              case rel =>
                refine ⟨j + 1, by omega, by go_num, ?_, ?_⟩
                · have h1 := OwnD.set HO.out p (wrap64 (too - ap)) HDP.out
                  have h2 := OwnD.below h1 (below_alloc_ (Below.refl _ _) (.cells #[Value.int IntKind.i64 ↑p, Value.int IntKind.i64 frm, Value.int IntKind.i64 too, Value.int IntKind.i64 mrk] 35))
                  exact h2
                · exact drewE ((HB.out.setCell (p := ⟨w.heap.size + 1, p, none⟩) (by have := HS0.out; show _ ≤ w.heap.size + 1; omega) _).alloc (by simp only [World.size_setCell]; exact HB.out.size) _)
              case measure => simp [intOf]; omega
          · have HDN : Hid (∀ i, i < k → dlK a s0 s2 j i = dlK a s0 s2 (j + 1) i) := fun i hi => by
              rw [HD.out i, if_neg (by omega)]
            by_cases hr0 : 0 ≤ num
            · have hr1 : ¬ num < (k : Int) := fun h => hr ⟨hr0, h⟩
              clear hr
              go_wp2
              go_roundw
              case rel => exact ⟨j + 1, by omega, by go_num, (OwnD.below HO.out (below_alloc_ (Below.refl _ _) _)).congr HDN.out, HB.out.alloc HB.out.size _⟩
              case measure => simp [intOf]; omega
            · clear hr
              go_wp2
              go_roundw
              case rel => exact ⟨j + 1, by omega, by go_num, (OwnD.below HO.out (below_alloc_ (Below.refl _ _) _)).congr HDN.out, HB.out.alloc HB.out.size _⟩
              case measure => simp [intOf]; omega
        · obtain rfl : j = m := by omega
          go_wp2
          go_ret
          exact ⟨_, rfl, by omega, HO.out, HBw.out⟩
end Go.Proofs.YticplgdfgckicaaGreatDoor
