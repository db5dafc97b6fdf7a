/-
  The reference's FilterParse. Conditions: what the reference lays is laid; the text has 2000 bytes at most.
-/
import Derived.Test.YtibecinojkkjpaaGreatDoorRp9
import Derived.Test.YtibecinojkkjpaaGreatDoorRp2
namespace Go.Proofs.YtibecinojkkjpaaGreatDoor
open Go.RowKit Go.Extern.Stop Go.Stop Go.Extern

theorem signF_ne (al : List UInt8) : ∀ (f : Nat) (l : List UInt8) (p : Nat), ∀ y ∈ signF al f l p, y.1 ≠ []
  | 0, l, p => by simp [signF]
  | f + 1, [], p => by simp [signF]
  | f + 1, b :: l, p => by
    have hb := lenL_bd (al := al) (l := b :: l) (by simp)
    intro y hy
    rw [signF] at hy
    rcases List.mem_append.1 hy with hy | hy
    · split at hy
      · cases hy
      · obtain rfl := List.mem_singleton.1 hy
        intro e
        have := congrArg List.length e
        simp only [List.length_take, List.length_nil] at this
        simp only [List.length_cons] at hb this
        omega
    · exact signF_ne al f _ _ y hy
theorem cells2r {w : World} {b : Nat} {u v : Value} {T : TypeId} (hb : w.heap[b]? = some (.cells #[u, v] T (0, 0))) : w.cell? ⟨b, 0, none⟩ = some u ∧ w.cell? ⟨b, 1, none⟩ = some v ∧ w.frozen? ⟨b, 0, none⟩ = false ∧ w.frozen? ⟨b, 1, none⟩ = false := by
  refine ⟨?_, ?_, ?_, ?_⟩
  all_goals simp [World.cell?, World.frozen?, hb]
theorem results_tmp_cell {fn : Func} {p u : Tmp} {ty : TypeId} (h : fn.results = #[.tmp u, .cell p ty]) (tmps : Array Value) (P : Program) (w : World) :
    (results fn tmps).run P w = ((asAddr (tmps.getD p undef)).run P w).andThen fun a w₁ => ((loadVar ty a).run P w₁).andThen fun v w₂ => .ok (.tuple #[tmps.getD u undef, v]) w₂ := by
  simp only [results, h]
  simp [Sem.run_bind, Result.andThen]
theorem below_drew_ (n : Nat) (w : World) : Below n w w.drew := (Below.refl n w).drew
set_option maxHeartbeats 4000000 in
theorem rparse_any (s : ByteArray) (w : World) (hs : s.size ≤ 2000) (hG : GlobR w) (hF : ∀ w', Below w.heap.size w w' → GFine w') :
    Calls Tryz.prog 5 #[.string s] w fun e w' => Below w.heap.size w w' ∧ ((∃ t tb, parseG s.data.toList = .ok t ∧ e = .returned (.tuple #[.pointer (some ⟨tb, 0, none⟩), .agg #[.int .i64 0, .int .i64 (-1)]]) ∧ RfAt w' (fun k => w.heap.size ≤ k) 20 t tb) ∨ (∃ (c : Int) (q : Nat) (x : Option Addr), parseG s.data.toList = .error (c, q) ∧ c ≠ 0 ∧ e = .returned (.tuple #[.pointer x, .agg #[.int .i64 c, .int .i64 q]]))) := by
  have hsz : s.data.toList.length = s.size := Array.length_toList
  have HPG : Hid (parseG s.data.toList = match readF s.size 20 (signsL mkA s.data.toList 0) with | .ok (t, R) => if hdW R == [] then .ok t else .error (3, hdP s.size R) | .error e => .error e) := by show _ = _; unfold parseG; rw [hsz]; rfl
  have HSG : Hid (∀ W, Below w.heap.size w W → Calls Tryz.prog 12 #[.string s, .string ⟨#[40, 41]⟩] W fun e w' => ∃ rv, e = .returned (.pointer (some ⟨W.heap.size, 0, none⟩)) ∧ PsAt w' W.heap.size s.size 0 (-1) rv (signsL mkA s.data.toList 0) ∧ (∀ b, rv.ownBlock = some b → W.heap.size + 1 ≤ b) ∧ Below W.heap.size W w') := fun W hW => rsigns_any s W hs (hF W hW)
  have hb1 : (signsL mkA s.data.toList 0).length ≤ 2000 := by have := (signF_bd mkA s.data.toList.length s.data.toList 0).1; have h3 : (signsL mkA s.data.toList 0).length ≤ s.data.toList.length := this; omega
  have hb2 : shortL (signsL mkA s.data.toList 0) := fun y hy => by have := (signF_bd mkA s.data.toList.length s.data.toList 0).2 y hy; omega
  have HNE : Hid (∀ y ∈ signsL mkA s.data.toList 0, y.1 ≠ []) := signF_ne mkA _ _ _
  generalize signsL mkA s.data.toList 0 = L at *
  have HQ : Hid (∀ w1 b v, w.heap.size ≤ b → Below w.heap.size w w1 → PsAt w1 b s.size 0 (-1) v L → Calls Tryz.prog 13 #[.pointer (some ⟨b, 0, none⟩), .int .i64 0] w1 fun e w' => RpP w1 w' b s.size (-1) v L 20 (readF s.size 20 L) e) := by
    intro w1 b v hb hw hr
    refine filterRC 20 0 w1 hr (fun w' h' => hG.below ?_) hb2 hb1 (by decide) (by decide)
    exact hw.trans (h'.below hw.size (fun k hk => by omega))
  have a1 : decide ((2000 : Int) < (s.size : Int)) = false := by simp; omega
  clear hG hb1 hb2 hF hsz
  go_enter Tryz.func5, Tryz.ntmps5
  go_wp2_with fail
  refine (HSG.out _ (below_alloc_ (Below.refl _ _) _)).mono ?_
  rintro e w1 ⟨rv, rfl, hps, hown, hbe⟩
  have hrb : w1.heap[w.heap.size]? = some (.cells #[.int .i64 0, .int .i64 0] 25 (0, 0)) := (hbe.block w.heap.size (by simp)).trans (new_block _ _)
  have HB1 : Hid (Below w.heap.size w w1) := (below_alloc_ (Below.refl _ _) _).trans (hbe.mono (by simp))
  have HP1 : Hid (PsAt w1 (w.heap.size + 1) s.size 0 (-1) rv L) := by show PsAt _ _ _ _ _ _ _; simpa using hps
  have HR1 : Hid (w1.heap[w.heap.size]? = some (.cells #[.int .i64 0, .int .i64 0] 25 (0, 0))) := hrb
  clear hps hown hbe hrb HSG
  go_wp2_with fail
  refine (HQ.out w1 (w.heap.size + 1) rv (by omega) HB1.out HP1.out).mono ?_
  rintro e w2 ⟨er, p, v2, L2, hp2, hv2, ho2, hsub, hcase⟩
  have HP2 : Hid (PsAt w2 (w.heap.size + 1) s.size er p v2 L2) := hp2
  have HR2 : Hid (w2.heap[w.heap.size]? = some (.cells #[.int .i64 0, .int .i64 0] 25 (0, 0))) := (ho2.block w.heap.size (lt_of_block HR1.out) (by omega)).trans HR1.out
  have HB2 : Hid (Below w.heap.size w w2) := HB1.out.trans (ho2.below HB1.out.size (fun k hk => by omega))
  have HZ : Hid (w.heap.size + 1 < w1.heap.size) := HP1.out.lt
  clear hp2 hv2 ho2 HQ HR1 HB1 HP1
  rcases hcase with ⟨t, tb, hres, rfl, rfl, rfl, hrf⟩ | ⟨c, q, x, hres, rfl, rfl, hcn, rfl⟩
  · have HRF : Hid (RfAt w2 (fun k => w1.heap.size ≤ k) 20 t tb) := hrf
    clear hrf
    rcases L2 with _ | ⟨y, L3⟩
    · have HRS : Hid (parseG s.data.toList = .ok t) := by show _ = _; rw [HPG.out, hres]; rfl
      obtain ⟨sx, cap, rfl⟩ : ∃ x cap, v2 = .slice x 0 cap := by rcases HP2.out.row.form with ⟨h, _⟩ | ⟨b, o, c, h, _⟩ <;> exact ⟨_, _, h⟩
      clear hres HPG
      obtain ⟨c0, c1, c2, c3, f0, f2, f3⟩ := HP2.out.cells
      have hpl := HP2.out.lt
      obtain ⟨r0, r1, r2, r3⟩ := cells2r HR2.out
      have hrl := lt_of_block HR2.out
      go_wp2
      go_region
      all_goals
        go_wp2
        (try simp only [Exit.inBlock, Exit.then])
        refine bodyPost_ret (v := .tuple #[.pointer (some ⟨tb, 0, none⟩), .agg #[.int .i64 0, .int .i64 (-1)]]) ?_ rfl ⟨?_, Or.inl ⟨t, tb, HRS.out, rfl, (HRF.out.kept fun k hk hk2 => ⟨(heap_setCell_other (w2.setCell ⟨w.heap.size, 0, none⟩ (.int .i64 0)) ⟨w.heap.size, 1, none⟩ k (.int .i64 (-1)) (by have := HZ.out; show k ≠ w.heap.size; omega)).trans (heap_setCell_other w2 ⟨w.heap.size, 0, none⟩ k (.int .i64 0) (by have := HZ.out; show k ≠ w.heap.size; omega)), by have := HZ.out; omega⟩)⟩⟩
        · rw [results_tmp_cell rfl]
          go_simp
          try rfl
        · exact ((HB2.out.trans (below_drew_ _ _)).setCell (Nat.le_refl _) _).setCell (Nat.le_refl _) _
    · have hy : y.1 ≠ [] := HNE.out y (hsub y (by simp))
      have HRS : Hid (parseG s.data.toList = .error (3, y.2)) := by show _ = _; rw [HPG.out, hres]; show (if y.1 == [] then _ else _) = _; rw [if_neg (by simpa using hy)]; rfl
      obtain ⟨g, off, cap, rfl, hn, hx, hlt, hcs⟩ := HP2.out.row.some (by simp)
      have hl : (0 : Int) < ((L3.length + 1 : Nat) : Int) := by omega
      obtain ⟨c0, c1, c2, c3, f0, f2, f3⟩ := HP2.out.cells
      clear hcs hres HPG
      go_wp2_with fail
      refine (fail_any (-1) w2 HP2.out 3).mono ?_
      rintro e w3 ⟨rfl, hp3, ho3⟩
      have HP3 : Hid (PsAt w3 (w.heap.size + 1) s.size 3 ((y.2 : Nat) : Int) (.slice (some ⟨g, off, none⟩) (L3.length + 1) cap) (y :: L3)) := hp3
      have HR3 : Hid (w3.heap[w.heap.size]? = some (.cells #[.int .i64 0, .int .i64 0] 25 (0, 0))) := (ho3.block w.heap.size (lt_of_block HR2.out) (by omega)).trans HR2.out
      have HB3 : Hid (Below w.heap.size w w3) := HB2.out.trans (ho3.below HB2.out.size (fun k hk => by omega))
      clear hp3 ho3 c0 c1 c2 c3 f0 f2 f3
      obtain ⟨c0, c1, c2, c3, f0, f2, f3⟩ := HP3.out.cells
      have hpl := HP3.out.lt
      obtain ⟨r0, r1, r2, r3⟩ := cells2r HR3.out
      have hrl := lt_of_block HR3.out
      go_wp2
      go_region
      all_goals
        go_wp2
        (try simp only [Exit.inBlock, Exit.then])
        refine bodyPost_ret (v := .tuple #[.pointer (some ⟨tb, 0, none⟩), .agg #[.int .i64 3, .int .i64 ((y.2 : Nat) : Int)]]) ?_ rfl ⟨?_, Or.inr ⟨3, y.2, _, HRS.out, by decide, rfl⟩⟩
        · rw [results_tmp_cell rfl]
          go_simp
          try rfl
        · exact ((HB3.out.trans (below_drew_ _ _)).setCell (Nat.le_refl _) _).setCell (Nat.le_refl _) _
  · have HRS : Hid (parseG s.data.toList = .error (er, q)) := by show _ = _; rw [HPG.out, hres]
    have HCN : Hid (er ≠ 0) := hcn
    clear hres hcn HPG
    rcases L2 with _ | ⟨y, L3⟩
    · obtain ⟨sx, cap, rfl⟩ : ∃ x cap, v2 = .slice x 0 cap := by rcases HP2.out.row.form with ⟨h, _⟩ | ⟨b, o, c, h, _⟩ <;> exact ⟨_, _, h⟩
      obtain ⟨c0, c1, c2, c3, f0, f2, f3⟩ := HP2.out.cells
      have hpl := HP2.out.lt
      obtain ⟨r0, r1, r2, r3⟩ := cells2r HR2.out
      have hrl := lt_of_block HR2.out
      go_wp2
      go_region
      all_goals
        go_wp2
        (try simp only [Exit.inBlock, Exit.then])
        refine bodyPost_ret (v := .tuple #[.pointer x, .agg #[.int .i64 er, .int .i64 ((q : Nat) : Int)]]) ?_ rfl ⟨?_, Or.inr ⟨er, q, _, HRS.out, HCN.out, rfl⟩⟩
        · rw [results_tmp_cell rfl]
          go_simp
          try rfl
        · exact ((HB2.out.trans (below_drew_ _ _)).setCell (Nat.le_refl _) _).setCell (Nat.le_refl _) _
    · obtain ⟨g, off, cap, rfl, hn, hx, hlt, hcs⟩ := HP2.out.row.some (by simp)
      have hl : (0 : Int) < ((L3.length + 1 : Nat) : Int) := by omega
      obtain ⟨c0, c1, c2, c3, f0, f2, f3⟩ := HP2.out.cells
      clear hcs
      go_wp2_with fail
      refine (fail_done w2 HP2.out HCN.out 3).mono ?_
      rintro e w3 ⟨rfl, rfl⟩
      clear c0 c1 c2 c3 f0 f2 f3
      obtain ⟨c0, c1, c2, c3, f0, f2, f3⟩ := HP2.out.cells
      have hpl := HP2.out.lt
      obtain ⟨r0, r1, r2, r3⟩ := cells2r HR2.out
      have hrl := lt_of_block HR2.out
      go_wp2
      go_region
      all_goals
        go_wp2
        (try simp only [Exit.inBlock, Exit.then])
        refine bodyPost_ret (v := .tuple #[.pointer x, .agg #[.int .i64 er, .int .i64 ((q : Nat) : Int)]]) ?_ rfl ⟨?_, Or.inr ⟨er, q, _, HRS.out, HCN.out, rfl⟩⟩
        · rw [results_tmp_cell rfl]
          go_simp
          try rfl
        · exact ((HB2.out.trans (below_drew_ _ _)).setCell (Nat.le_refl _) _).setCell (Nat.le_refl _) _
end Go.Proofs.YtibecinojkkjpaaGreatDoor
