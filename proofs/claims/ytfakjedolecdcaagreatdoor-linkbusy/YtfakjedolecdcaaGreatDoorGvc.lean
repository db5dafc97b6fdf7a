/-
  plant.Parse of a text whose queue lets go at once and loses nothing: five texts. Conditions: what strconv lays is laid.
  The law's run over a wire with whatever queue that lets go at once. Conditions: the rate and the packets may be; what errors and strconv have laid.
  LinkBusy's spans: when the wire is busy; and sameInts of equal rows. Conditions: what was sent lies in memory.
-/
import Derived.Test.YtfakjedolecdcaaGreatDoorGvb
import Derived.Deep.RegionLaw
namespace Go.Proofs.YtfakjedolecdcaaGreatDoor
open Go.RowKit Go.Extern.Stop Go.Stop Go.Extern

set_option maxHeartbeats 4000000 in
/-- plant.Parse, where the queue is read by the text's signs alone. -/
theorem parse_gen {L : List (List UInt8 × Nat)} (s : ByteArray) (w : World) (hG : Glob w) (hs : s.size ≤ 2000) (hL : signsL [32, 40, 41, 44] s.data.toList 0 = L) (hne : 0 < L.length) (k1 : Int) (ty : TypeId)
    (hq : ∀ w1 b v, RdAt w1 b 65 s.size [.slice none 0 0, .int .i64 0] v L → (∀ w', Ot (fun k => k = b) w1 w' → Glob w') → Calls Tryz.prog 19 #[.pointer (some ⟨b, 0, none⟩), .int .i64 0] w1 fun e w' => ∃ q, e = .returned (.tuple #[.iface ty (.pointer (some ⟨q, 0, none⟩)), .nilIface]) ∧ QdR w1 w' b s.size [.slice none 0 0, .int .i64 k1] v [] (.returned (.tuple #[.iface ty (.pointer (some ⟨q, 0, none⟩)), .nilIface]))) :
    Calls Tryz.prog 7 #[.string s, .slice none 0 0] w fun e w' => Qd w w' e ∧ Below w.heap.size w w' := by
  have HRD : Hid (Calls Tryz.prog 18 #[.string s, .string ⟨#[40, 41, 44]⟩] w fun e w' => ∃ rv, e = .returned (.agg #[rv, .string ⟨#[]⟩, .int .i64 s.size]) ∧ Seg w' 60 2 rv L.length (flt sgc L) ∧ (∀ b, rv.ownBlock = some b → w.heap.size ≤ b) ∧ Below w.heap.size w w') := by
    refine (read_any s ⟨#[40, 41, 44]⟩ w hs (by decide) (by decide) ?_).mono ?_
    · intro j b hj
      match j with
      | 0 => simp at hj; subst hj; decide
      | 1 => simp at hj; subst hj; decide
      | 2 => simp at hj; subst hj; decide
      | j + 3 => simp at hj
    · rintro e w' ⟨rv, rfl, hsg, hn, hb⟩
      rw [show (32 :: (⟨#[40, 41, 44]⟩ : ByteArray).data.toList) = [32, 40, 41, 44] from rfl, hL] at hsg
      exact ⟨rv, rfl, hsg, hn, hb⟩
  have HQ : Hid (∀ w1 b v, w.heap.size ≤ b → Below w.heap.size w w1 → RdAt w1 b 65 s.size [.slice none 0 0, .int .i64 0] v L → Calls Tryz.prog 19 #[.pointer (some ⟨b, 0, none⟩), .int .i64 0] w1 fun e w' => ∃ q, e = .returned (.tuple #[.iface ty (.pointer (some ⟨q, 0, none⟩)), .nilIface]) ∧ QdR w1 w' b s.size [.slice none 0 0, .int .i64 k1] v [] (.returned (.tuple #[.iface ty (.pointer (some ⟨q, 0, none⟩)), .nilIface]))) := by
    intro w1 b v hb hw hr
    refine hq w1 b v hr (fun w' h' => hG.below ?_)
    exact hw.trans (h'.below hw.size (fun k hk => by omega))
  have a1 : decide ((2000 : Int) < (s.size : Int)) = false := by simp; omega
  generalize hm : L.length = m at *
  clear hG hs hL hq
  go_enter Tryz.func7, Tryz.ntmps7
  go_wp2_with (go_at_call 18; refine HRD.out.mono ?_; rintro e w1 ⟨rv, rfl, hsg, hn, hb1⟩; obtain ⟨rg, roff, rcap, rfl, _, _, _, _⟩ := hsg.some hne)
  have hrd : RdAt (w1.alloc (.cells #[.slice (some ⟨rg, roff, none⟩) m rcap, .string ⟨#[]⟩, .int .i64 s.size, .slice none 0 0, .int .i64 0] 65)) w1.heap.size 65 s.size [.slice none 0 0, .int .i64 0] (.slice (some ⟨rg, roff, none⟩) m rcap) L :=
    ⟨new_block _ _, by rw [hm]; exact hsg.alloc _, fun e => by have := hsg.lt e; omega⟩
  refine (HQ.out _ _ _ hb1.size (hb1.alloc hb1.size _) hrd).mono ?_
  rintro e w2 ⟨q, rfl, v', hqd, hr2, hv2, ho2⟩
  have hbl := hr2.lt
  have HNX : Hid (Calls Tryz.prog 20 #[.pointer (some ⟨w1.heap.size, 0, none⟩)] w2 fun e w' => e = .returned (.agg #[.string ⟨#[]⟩, .int .i64 s.size]) ∧ Ot (fun k => k = w1.heap.size) w2 w') := by
    refine (sgnext_any w2 hr2).mono ?_
    rintro e w' ⟨rfl, _, _, _, h⟩
    exact ⟨rfl, h⟩
  have HB2 : Hid (Below w.heap.size w w2) := (hb1.alloc hb1.size _).trans (ho2.below (by simp; have := hb1.size; omega) (fun k hk => by have := hb1.size; omega))
  have HQD : Hid (Qd (w1.alloc (.cells #[.slice (some ⟨rg, roff, none⟩) m rcap, .string ⟨#[]⟩, .int .i64 s.size, .slice none 0 0, .int .i64 0] 65)) w2 (.returned (.tuple #[.iface ty (.pointer (some ⟨q, 0, none⟩)), .nilIface]))) := hqd
  have hw1 := hb1.size
  clear hrd hsg hn hb1 hqd hr2 hv2 ho2 HQ HRD hm hne
  go_wp2_with (first | (go_at_call 20; refine HNX.out.mono ?_; rintro e w3 ⟨rfl, ho3⟩) | (go_at_call 21; refine (end_any ([], s.size) _).mono ?_; rintro e w4 ⟨rfl, hb4⟩))
  go_ret2
  have hb3 : Below w.heap.size w2 w3 := ho3.below HB2.out.size (fun k hk => by omega)
  refine ⟨?_, (HB2.out.trans hb3).trans ?_⟩
  · obtain ⟨M, cont, s0, F, he, hM, hP, hi, hc, ha, hF⟩ := HQD.out
    refine ⟨M, cont, s0, F, he, hM, hP, hi, hc, hM.kept ha fun k hk => ?_, fun k hk => ?_⟩
    · have h1 := hF k hk
      have h2 := hM.low ha k hk
      simp at h1
      refine (hb4.block k ?_).trans ((Below.heap_alloc _ _ _ ?_).trans (ho3.block k h2 (by omega)))
      · have := ho3.size; simp; omega
      · have := ho3.size; omega
    · have h1 := hF k hk
      simp at h1
      omega
  · exact ((Below.refl _ _).alloc (HB2.out.trans hb3).size _).trans (hb4.mono (by simp; have := (HB2.out.trans hb3).size; omega))
theorem fifo_qd {w0 w' : World} {q : Nat} {hd : Bool} (h : LAt w' q 110 (frest 1000 1000000 hd []) (.slice none 0 0) []) (hq : w0.heap.size ≤ q) : Qd w0 w' (.returned (.tuple #[.iface 86 (.pointer (some ⟨q, 0, none⟩)), .nilIface])) :=
  ⟨FifoM q 1000 1000000 hd, (fun L => L), ([] : List Hd), (· = q), rfl, fifoM_fine q 1000 1000000 hd (by decide) (by decide) (by decide), fifo_prompt q hd, fifo_inv00 _ _ _ _, rfl, fifo_at0 _ _ _ _ h, fun k hk => by have : k = q := hk; omega⟩
/-- head 1000 1000000 -/
def textH : ByteArray := ⟨#[104, 101, 97, 100, 32, 49, 48, 48, 48, 32, 49, 48, 48, 48, 48, 48, 48]⟩
theorem signsH : signsL [32, 40, 41, 44] textH.data.toList 0 = [(headB, 0), ([49, 48, 48, 48], 5), ([49, 48, 48, 48, 48, 48, 48], 10)] := by rfl
theorem parseH (w : World) (hG : Glob w) : Calls Tryz.prog 7 #[.string textH, .slice none 0 0] w fun e w' => Qd w w' e ∧ Below w.heap.size w w' := by
  refine (parse_fifo (f := (headB, 0)) textH 1000 1000000 w hG (by decide) signsH (Or.inr ⟨rfl, rfl⟩) num1000 num1e6 (by decide) (by decide) (by decide) (by decide)).mono ?_
  rintro e w' ⟨q, rfl, h1, h2, h3⟩
  exact ⟨fifo_qd h2 h1, h3⟩
/-- hashed 7 3 1000 -/
def textS : ByteArray := ⟨#[104, 97, 115, 104, 101, 100, 32, 55, 32, 51, 32, 49, 48, 48, 48]⟩
theorem signsS : signsL [32, 40, 41, 44] textS.data.toList 0 = [(hashedB, 0), ([55], 7), ([51], 9), ([49, 48, 48, 48], 11)] := by rfl
theorem num7 : numL [55] = some 7 := by kernel_rfl
theorem num3 : numL [51] = some 3 := by kernel_rfl
theorem parseS (w : World) (hG : Glob w) : Calls Tryz.prog 7 #[.string textS, .slice none 0 0] w fun e w' => Qd w w' e ∧ Below w.heap.size w w' := by
  refine parse_gen textS w hG (by decide) signsS (by decide) 1 122 (fun w1 b v hr hB => ?_)
  exact queue_hashed' ⟨7, 3, 1000⟩ w1 hr hB rfl num7 num3 num1000 (by decide) (by decide) (by decide) (by decide) (by decide) (by decide) (by decide) (by decide)
/-- rounds 1000 (900 500 2000) -/
def textR : ByteArray := ⟨#[114, 111, 117, 110, 100, 115, 32, 49, 48, 48, 48, 32, 40, 57, 48, 48, 32, 53, 48, 48, 32, 50, 48, 48, 48, 41]⟩
def quantR : List (List UInt8 × Nat) := [([57, 48, 48], 13), ([53, 48, 48], 17), ([50, 48, 48, 48], 21)]
theorem signsR : signsL [32, 40, 41, 44] textR.data.toList 0 = (roundsB, 0) :: ([49, 48, 48, 48], 7) :: ([40], 12) :: (quantR ++ ([41], 25) :: []) := by rfl
theorem num900 : numL [57, 48, 48] = some 900 := by kernel_rfl
theorem num500 : numL [53, 48, 48] = some 500 := by kernel_rfl
theorem num2000 : numL [50, 48, 48, 48] = some 2000 := by kernel_rfl
theorem numsR : numsL quantR = [900, 500, 2000] := by
  simp only [numsL, quantR, List.map, num900, num500, num2000, Option.getD]
theorem parseR (w : World) (hG : Glob w) : Calls Tryz.prog 7 #[.string textR, .slice none 0 0] w fun e w' => Qd w w' e ∧ Below w.heap.size w w' := by
  refine parse_gen textR w hG (by decide) signsR (by decide) 1 126 (fun w1 b v hr hB => ?_)
  refine queue_rounds' (L := quantR) w1 hr hB rfl num1000 (by decide) rfl rfl ?_ (by decide) (by decide) ?_ (by decide) (by decide)
  · intro x hx
    simp only [quantR, List.mem_cons, List.not_mem_nil, or_false] at hx
    rcases hx with rfl | rfl | rfl
    · exact ⟨by rw [num900]; rfl, by decide, by decide⟩
    · exact ⟨by rw [num500]; rfl, by decide, by decide⟩
    · exact ⟨by rw [num2000]; rfl, by decide, by decide⟩
  · rw [numsR]
    decide
/-- bands (fifo 1000 1000000, fifo 1000 1000000, fifo 1000 1000000) -/
def textB3 : ByteArray := ⟨#[98, 97, 110, 100, 115, 32, 40, 102, 105, 102, 111, 32, 49, 48, 48, 48, 32, 49, 48, 48, 48, 48, 48, 48, 44, 32, 102, 105, 102, 111, 32, 49, 48, 48, 48, 32, 49, 48, 48, 48, 48, 48, 48, 44, 32, 102, 105, 102, 111, 32, 49, 48, 48, 48, 32, 49, 48, 48, 48, 48, 48, 48, 41]⟩
def spB : List FSp := [⟨(fifoB, 7), ([49, 48, 48, 48], 12), ([49, 48, 48, 48, 48, 48, 48], 17), ([44], 24), 1000, 1000000⟩, ⟨(fifoB, 26), ([49, 48, 48, 48], 31), ([49, 48, 48, 48, 48, 48, 48], 36), ([44], 43), 1000, 1000000⟩, ⟨(fifoB, 45), ([49, 48, 48, 48], 50), ([49, 48, 48, 48, 48, 48, 48], 55), ([41], 62), 1000, 1000000⟩]
theorem signsB3 : signsL [32, 40, 41, 44] textB3.data.toList 0 = (bandsB, 0) :: ([40], 6) :: bsigns spB := by rfl
theorem fitsB : Fits spB 3 := by
  refine ⟨rfl, by decide, by decide, fun i s h => ?_⟩
  match i with
  | 0 => simp [spB] at h; subst h; exact ⟨⟨Or.inl rfl, num1000, num1e6, by decide, by decide, by decide, by decide⟩, rfl, rfl⟩
  | 1 => simp [spB] at h; subst h; exact ⟨⟨Or.inl rfl, num1000, num1e6, by decide, by decide, by decide, by decide⟩, rfl, rfl⟩
  | 2 => simp [spB] at h; subst h; exact ⟨⟨Or.inl rfl, num1000, num1e6, by decide, by decide, by decide, by decide⟩, rfl, rfl⟩
  | i + 3 => simp [spB] at h
theorem parseB3 (w : World) (hG : Glob w) : Calls Tryz.prog 7 #[.string textB3, .slice none 0 0] w fun e w' => Qd w w' e ∧ Below w.heap.size w w' := by
  refine (parse_bands textB3 w hG (by decide) signsB3 rfl rfl fitsB).mono ?_
  rintro e w' ⟨B, g, goff, gcap, bs, rfl, hba, hft, hb⟩
  have hS := FQs_small spB bs (N := 3) rfl (by decide) (by decide) (fun i s h => (fitsB.each i s h).1)
  refine ⟨⟨BandsM (FQs spB bs) 3 B g goff gcap, contB (fun i (L : (FQs spB bs i).σ) => (L : List Hd)) 3, (fun _ => ([] : List Hd)), foot 3 B g (fun i k => k = bs i), rfl, bandsM_fine hS, bands_prompt spB bs (by decide) ?_, fun i _ => ⟨Nat.le_refl _, by simp⟩, rfl, ⟨_, hba, fun k => Iff.rfl⟩, hft⟩, hb⟩
  intro i hi
  match i, hi with
  | 0, _ => exact ⟨rfl, rfl⟩
  | 1, _ => exact ⟨rfl, rfl⟩
  | 2, _ => exact ⟨rfl, rfl⟩
end Go.Proofs.YtfakjedolecdcaaGreatDoor
namespace Go.Proofs.YtfakjedolecdcaaGreatDoor
open Go.RowKit Go.Extern.Stop Go.Stop Go.Extern

/-- What the run gives. -/
def RunG (items : List It) (n t u : Int) (w w' : World) (sv lv : Value) : Prop := ∃ (sent : List Snt) (sx lx : Option Addr) (sc lc : Nat), sv = .slice sx sent.length sc ∧ lv = .slice lx 0 lc ∧ Seg w' 49 4 sv sent.length (flt Snt.cs sent) ∧ (∀ b, sv.ownBlock = some b → w.heap.size ≤ b) ∧ sent.length ≤ items.length ∧ (frA items n t items.length ≤ u → sent.length = items.length ∧ spn sent = spC items n t items.length) ∧ Below w.heap.size w w'
/-- A run's end, laid by itself. -/
def RunE (items : List It) (n t u : Int) (F0 : Nat → Prop) (w : World) (sv lv : Value) (w' : World) : Prop := ∃ sent : List Snt, Seg w' 49 4 sv sent.length (flt Snt.cs sent) ∧ Ins w' lv [] ∧ sent.length ≤ items.length ∧ (frA items n t items.length ≤ u → sent.length = items.length ∧ spn sent = spC items n t items.length) ∧ (∀ b, sv.ownBlock = some b → w.heap.size ≤ b) ∧ (∀ b, lv.ownBlock = some b → w.heap.size ≤ b) ∧ Ot F0 w w'
set_option maxHeartbeats 4000000 in
theorem runG_yes (tx : ByteArray) (n t : Int) (x : Option Addr) (cap : Nat) (items : List It) (u : Int) (w : World)
    (hP : ∀ w1, Below w.heap.size w w1 → Calls Tryz.prog 7 #[.string tx, .slice none 0 0] w1 fun e w' => Qd w1 w' e ∧ Below w1.heap.size w1 w')
    (hL : Laid w) (hr : okRate n t = true) (hl : okL items) (hit : ItemsAt w x items) (hm : items.length ≤ 60) (hu0 : 0 ≤ u) (hu1 : u ≤ 10000000) :
    Calls Tryz.prog 11 #[.string tx, .agg #[.int .i64 n, .int .i64 t], .slice x items.length cap, .int .i64 u] w fun e w' => ∃ sv lv wt ms, e = .returned (.tuple #[.agg #[sv, lv, .int .i64 wt, .int .i64 ms], .bool true]) ∧ RunG items n t u w w' sv lv := by
  have HPF : Hid (∀ w1, Below w.heap.size w w1 → Calls Tryz.prog 7 #[.string tx, .slice none 0 0] w1 fun e w' => Qd w1 w' e ∧ Below w1.heap.size w1 w') := hP
  have HRN : Hid (∀ w1 (M : QM) (cont : M.σ → List Hd) (s0 : M.σ) (F : Nat → Prop), M.Fine → M.Prompt cont 60 → M.inv 0 0 s0 → cont s0 = [] → M.At w1 F s0 → Below w.heap.size w w1 → (∀ k, F k → w.heap.size ≤ k) → Calls Tryz.prog 26 #[.iface M.ty M.rv, .agg #[.int .i64 n, .int .i64 t], .slice x items.length cap, .int .i64 u] w1 fun e w' => ∃ sv lv wt ms, e = .returned (.tuple #[.agg #[sv, lv, .int .i64 wt, .int .i64 ms], .nilIface]) ∧ RunE items n t u F w1 sv lv w') := by
    intro w1 M cont s0 F hM hPr hi hc ha h1 hF
    refine (run_yes hM F s0 n t x cap items u w1 ha hi hr hl (hL.below h1) (hit.below h1) ?_ (by unfold maxLen; omega) hu0 hu1).mono ?_
    · intro a ha hne e
      rcases hit with h | ⟨b, off, h, hc⟩
      · exact hne h
      · rw [h] at ha
        obtain rfl := Option.some.inj ha
        obtain ⟨y, r, hy⟩ : ∃ y r, items = y :: r := by cases hxs : items with | nil => exact absurd hxs hne | cons y r => exact ⟨y, r, rfl⟩
        have hlt := lt_of_cell (hc 0 y (by rw [hy]; rfl)).1
        have hlt' : b < w.heap.size := hlt
        have := hF b e
        omega
    · rintro e w' ⟨k, sv, lv, F', rfl, hR⟩
      obtain ⟨e1, e2, e3⟩ := wb_end hM hPr hi hc hl hm hr hu1 hR.on hR.off
      exact ⟨sv, lv, _, _, rfl, _, hR.sent, by have := hR.lost; rw [e1] at this; exact this, e2, e3, hR.sn, hR.ln, hR.ot⟩
  clear hP hL hr hl hit hm hu0 hu1
  go_enter Tryz.func11, Tryz.ntmps11
  go_wp2_with (go_at_call 7; fail)
  have hb0 : Below w.heap.size w ((w.alloc (.cells #[.int .i64 n, .int .i64 t] 37)).alloc (.cells #[.slice none 0 0, .slice none 0 0, .int .i64 0, .int .i64 0] 41)) := below_alloc_ (below_alloc_ (Below.refl _ _) _) _
  have hx0 : ((w.alloc (.cells #[.int .i64 n, .int .i64 t] 37)).alloc (.cells #[.slice none 0 0, .slice none 0 0, .int .i64 0, .int .i64 0] 41)).heap[w.heap.size]? = some (.cells #[.int .i64 n, .int .i64 t] 37 (0, 0)) := (Below.heap_alloc _ _ _ (by simp)).trans (new_block _ _)
  have hx1 : ((w.alloc (.cells #[.int .i64 n, .int .i64 t] 37)).alloc (.cells #[.slice none 0 0, .slice none 0 0, .int .i64 0, .int .i64 0] 41)).heap[w.heap.size + 1]? = some (.cells #[.slice none 0 0, .slice none 0 0, .int .i64 0, .int .i64 0] 41 (0, 0)) := new_block_ (by simp)
  have hs0 : ((w.alloc (.cells #[.int .i64 n, .int .i64 t] 37)).alloc (.cells #[.slice none 0 0, .slice none 0 0, .int .i64 0, .int .i64 0] 41)).heap.size = w.heap.size + 2 := by simp
  generalize (w.alloc (.cells #[.int .i64 n, .int .i64 t] 37)).alloc (.cells #[.slice none 0 0, .slice none 0 0, .int .i64 0, .int .i64 0] 41) = w0 at *
  refine (HPF.out w0 hb0).mono ?_
  rintro e w1 ⟨⟨M, cont, s0, F, rfl, hM, hPr, hi, hc, ha, hF⟩, hb1⟩
  have hb01 : Below w.heap.size w w1 := hb0.trans (hb1.mono hb0.size)
  have hx01 := (hb1.block w.heap.size (by omega)).trans hx0
  have hx11 := (hb1.block (w.heap.size + 1) (by omega)).trans hx1
  have r0 : w1.cell? ⟨w.heap.size, 0, none⟩ = some (.int .i64 n) := by simp [World.cell?, hx01]
  have r1 : w1.cell? ⟨w.heap.size, 1, none⟩ = some (.int .i64 t) := by simp [World.cell?, hx01]
  have HB01 : Hid (Below w.heap.size w w1) := hb01
  have HX11 : Hid (w1.heap[w.heap.size + 1]? = some (.cells #[.slice none 0 0, .slice none 0 0, .int .i64 0, .int .i64 0] 41 (0, 0))) := hx11
  have HFF : Hid (∀ k, F k → w.heap.size + 2 ≤ k) := fun k hk => by have := hF k hk; omega
  have HR1 := HRN.out w1 M cont s0 F hM hPr hi hc ha hb01 (fun k hk => by have := hF k hk; omega)
  have hs1 := hb1.size
  clear hb0 hx0 hx1 hb1 hb01 hx01 hx11 HPF hM hPr hi hc ha hF HRN
  go_wp2_with (go_at_call 26; fail)
  refine HR1.mono ?_
  rintro e w2 ⟨sv, lv, wt, ms, rfl, sent, hsent, hlost, hlen, hall, hsn, hln, hot⟩
  have hx2 : w2.heap[w.heap.size + 1]? = some (.cells #[.slice none 0 0, .slice none 0 0, .int .i64 0, .int .i64 0] 41 (0, 0)) := (hot.block (w.heap.size + 1) (by omega) (fun h => by have := HFF.out _ h; omega)).trans HX11.out
  have hs2 := hot.size
  have HB02 : Hid (Below w.heap.size w w2) := HB01.out.trans (hot.below HB01.out.size (fun j hj => by have := HFF.out j hj; omega))
  obtain ⟨sx, sc, rfl⟩ : ∃ x c, sv = .slice x sent.length c := by
    rcases Seg.form hsent with ⟨h, h0⟩ | ⟨b, o, c, h, _⟩
    · exact ⟨none, 0, by rw [h, h0.1]⟩
    · exact ⟨_, _, h⟩
  obtain ⟨lx, lc, rfl⟩ : ∃ x c, lv = .slice x 0 c := by
    rcases Seg.form hlost with ⟨h, _⟩ | ⟨b, o, c, h, _⟩
    · exact ⟨none, 0, h⟩
    · exact ⟨_, _, h⟩
  obtain ⟨sn, HSNL⟩ : ∃ sn, Hid (sent.length = sn) := ⟨_, rfl⟩
  rw [HSNL.out] at hsn hsent ⊢
  have HSE : Hid (Seg w2 49 4 (.slice sx sn sc) sn (flt Snt.cs sent)) := hsent
  have HLO : Hid (Ins w2 (.slice lx 0 lc) []) := hlost
  have HLE : Hid (sent.length ≤ items.length ∧ (frA items n t items.length ≤ u → sent.length = items.length ∧ spn sent = spC items n t items.length)) := ⟨hlen, hall⟩
  have HSN : Hid (∀ b, (Value.slice sx sn sc).ownBlock = some b → w.heap.size + 2 ≤ b) := fun b hb => by have := hsn b hb; omega
  have HLN : Hid (∀ b, (Value.slice lx 0 lc).ownBlock = some b → w.heap.size + 2 ≤ b) := fun b hb => by have := hln b hb; omega
  have HX2 : Hid (w2.heap[w.heap.size + 1]? = some (.cells #[.slice none 0 0, .slice none 0 0, .int .i64 0, .int .i64 0] 41 (0, 0))) := hx2
  have z0 : w2.cell? ⟨w.heap.size + 1, 0, none⟩ = some (.slice none 0 0) := by simp [World.cell?, hx2]
  have z1 : w2.cell? ⟨w.heap.size + 1, 1, none⟩ = some (.slice none 0 0) := by simp [World.cell?, hx2]
  have z2 : w2.cell? ⟨w.heap.size + 1, 2, none⟩ = some (.int .i64 0) := by simp [World.cell?, hx2]
  have z3 : w2.cell? ⟨w.heap.size + 1, 3, none⟩ = some (.int .i64 0) := by simp [World.cell?, hx2]
  have y0 : w2.frozen? ⟨w.heap.size + 1, 0, none⟩ = false := by simp [World.frozen?, hx2]
  have y1 : w2.frozen? ⟨w.heap.size + 1, 1, none⟩ = false := by simp [World.frozen?, hx2]
  have y2 : w2.frozen? ⟨w.heap.size + 1, 2, none⟩ = false := by simp [World.frozen?, hx2]
  have y3 : w2.frozen? ⟨w.heap.size + 1, 3, none⟩ = false := by simp [World.frozen?, hx2]
  have hbl2 := lt_of_block hx2
  clear hx2 r0 r1 HR1 hsent hlost hlen hall hsn hln hot
  go_wp2_with fail
  go_region
  all_goals go_wp2
  all_goals (try simp only [Exit.inBlock, Exit.then])
  have hz : (((((w2.setCell ⟨w.heap.size + 1, 0, none⟩ (.slice sx sn sc)).setCell ⟨w.heap.size + 1, 1, none⟩ (.slice lx 0 lc)).setCell ⟨w.heap.size + 1, 2, none⟩ (.int .i64 wt)).setCell ⟨w.heap.size + 1, 3, none⟩ (.int .i64 ms)).alloc (.cells #[.slice sx sn sc, .slice lx 0 lc, .int .i64 wt, .int .i64 ms] 41)).drew.heap[w.heap.size + 1]? = some (.cells #[.slice sx sn sc, .slice lx 0 lc, .int .i64 wt, .int .i64 ms] 41 (0, 0)) := by
    refine (Below.heap_alloc _ _ _ (by simp; omega)).trans ?_
    rw [heap_setCell_here (heap_setCell_here (heap_setCell_here (heap_setCell_here HX2.out _) _) _) _]
    simp
  have hot : Ot (fun k => k = w.heap.size + 1) w2 (((((w2.setCell ⟨w.heap.size + 1, 0, none⟩ (.slice sx sn sc)).setCell ⟨w.heap.size + 1, 1, none⟩ (.slice lx 0 lc)).setCell ⟨w.heap.size + 1, 2, none⟩ (.int .i64 wt)).setCell ⟨w.heap.size + 1, 3, none⟩ (.int .i64 ms)).alloc (.cells #[.slice sx sn sc, .slice lx 0 lc, .int .i64 wt, .int .i64 ms] 41)).drew := by
    repeat' (first | with_reducible exact Ot.refl _ _ | with_reducible refine Ot.drew ?_ | with_reducible refine Ot.setCell ?_ (by simp) _ | with_reducible refine Ot.alloc ?_ _)
  refine bodyPost_ret (v := .tuple #[.agg #[.slice sx sn sc, .slice lx 0 lc, .int .i64 wt, .int .i64 ms], .bool true]) ?_ rfl ⟨.slice sx sn sc, .slice lx 0 lc, wt, ms, rfl, sent, sx, lx, sc, lc, by rw [HSNL.out], rfl, ?_, ?_, HLE.out.1, HLE.out.2, ?_⟩
  · rw [results_cell_tmp rfl]
    simp [asAddr, Result.andThen, load_log hz]
  · rw [HSNL.out]; exact HSE.out.oth hot (fun b hb e => by have := HSN.out b hb; omega)
  · exact fun b hb => by have := HSN.out b hb; omega
  · exact HB02.out.trans (hot.below HB02.out.size (fun k hk => by omega))
end Go.Proofs.YtfakjedolecdcaaGreatDoor
namespace Go.Proofs.YtfakjedolecdcaaGreatDoor
open Go.RowKit Go.Extern.Stop Go.Stop Go.Extern

theorem owns_sliceW {w : World} {base n k : Nat} {e : TypeId} {v : Value} {xs : List Value} (h : w.ownsRow base e k v n xs) : ∃ x c, v = .slice x n c := by
  rcases h.2 with ⟨rfl, rfl⟩ | ⟨g, cap, cur, rfl, _⟩
  · exact ⟨_, _, rfl⟩
  · exact ⟨_, _, rfl⟩
theorem own_someW {w : World} {B : Nat} {e : TypeId} {v : Value} {n : Nat} {xs : List Value} (h : w.ownsRow B e 1 v n xs) (hn : 0 < n) : ∃ g cap cur, v = .slice (some ⟨g, 0, none⟩) n cap ∧ B ≤ g ∧ w.heap[g]? = some (.cells cur e (0, 0)) ∧ n ≤ cap ∧ cap ≤ maxLen ∧ cur.size = cap ∧ cur.toList.take n = xs := by
  rcases h.2 with ⟨_, h0⟩ | ⟨g, cap, cur, h1, h2, h3, h4, h5, h6, h7⟩
  · omega
  · exact ⟨g, cap, cur, h1, h2, h3, h4, h5, by omega, by simpa using h7⟩
theorem ownW_kept {w w' : World} {B : Nat} {e : TypeId} {v : Value} {n k : Nat} {xs : List Value} (h : w.ownsRow B e k v n xs) (hk : ∀ j, v.ownBlock = some j → w'.heap[j]? = w.heap[j]?) : w'.ownsRow B e k v n xs := by
  refine ⟨h.1, ?_⟩
  rcases h.2 with h1 | ⟨g, cap, cur, h1, h2, h3, h4⟩
  · exact Or.inl h1
  · exact Or.inr ⟨g, cap, cur, h1, h2, (hk g (by rw [h1]; rfl)).trans h3, h4⟩
theorem ownW_lt {w : World} {B : Nat} {e : TypeId} {v : Value} {n k : Nat} {xs : List Value} (h : w.ownsRow B e k v n xs) {j : Nat} (hj : v.ownBlock = some j) : B ≤ j ∧ j < w.heap.size ∧ ∃ cur, w.heap[j]? = some (.cells cur e (0, 0)) := by
  rcases h.2 with ⟨h1, _⟩ | ⟨g, cap, cur, h1, h2, h3, h4⟩
  · rw [h1] at hj; cases hj
  · rw [h1] at hj
    cases hj
    exact ⟨h2, lt_of_block h3, cur, h3⟩
theorem ownW_below {w w' : World} {B : Nat} {e : TypeId} {v : Value} {n k : Nat} {xs : List Value} (h : w.ownsRow B e k v n xs) (hb : Below w.heap.size w w') : w'.ownsRow B e k v n xs := ownW_kept h fun j hj => hb.block j (ownW_lt h hj).2.1
theorem ownW_alloc {w : World} {B : Nat} {e : TypeId} {v : Value} {n k : Nat} {xs : List Value} (h : w.ownsRow B e k v n xs) (o : Obj) : (w.alloc o).ownsRow B e k v n xs := ownW_kept h fun _ hj => Below.heap_alloc _ _ _ (ownW_lt h hj).2.1
theorem ownW_drew {w : World} {B : Nat} {e : TypeId} {v : Value} {n k : Nat} {xs : List Value} (h : w.ownsRow B e k v n xs) : w.drew.ownsRow B e k v n xs := h
/-- A cell of a row of one's own is written. -/
theorem ownW_set {w : World} {B g n c p : Nat} {e : TypeId} {xs : List Value} (h : w.ownsRow B e 1 (.slice (some ⟨g, 0, none⟩) n c) n xs) (u : Value) : (w.setCell ⟨g, p, none⟩ u).ownsRow B e 1 (.slice (some ⟨g, 0, none⟩) n c) n (xs.set p u) := by
  refine ⟨by rw [List.length_set]; exact h.1, ?_⟩
  rcases h.2 with ⟨h1, _⟩ | ⟨g', cap, cur, h1, h2, h3, h4, h5, h6, h7⟩
  · cases h1
  · simp only [Value.slice.injEq, Option.some.injEq, Addr.mk.injEq, and_true, true_and] at h1
    obtain ⟨rfl, rfl⟩ := h1
    refine Or.inr ⟨g, c, cur.setIfInBounds p u, rfl, h2, heap_setCell_here h3 u, h4, h5, by simpa using h6, ?_⟩
    rw [Array.toList_setIfInBounds, ← h7, List.take_set]
theorem step_append_owns {P : Program} {ops : Array Oper} {o : Oper} {a : Act} {w : World} {K : Act → World → Prop} {Q : Exit → Act → World → Prop} {E : Prop}
    (hg : o.guard = none) (s x : Operand) (t : TypeId) (hop : o.op = Op.call { callee := Callee.builtin Builtin.append, args := #[s, x], argTypes := #[t, t] })
    (base : Nat) (e : TypeId) (i : TypeInfo) (z : Value) (size bytes : Nat) (h1 : P.underlying t = some (.slice e)) (h2 : P.info? e = some i) (h3 : i.zero = some z) (h4 : i.size = size) (h5 : i.bytes = bytes) (h6 : z.cells.size = size) (h7 : 0 < size)
    (v : Value) (n : Nat) (xs : List Value) (hs : a.eval s = v) (hown : w.ownsRow base e size v n xs)
    (ad : Addr) (m c : Nat) (news : List Value) (hx : a.eval x = .slice (some ad) m c) (hn : news.length = m * size) (hc : ∀ j u, news[j]? = some u → w.cell? (ad.add j) = some u) (h1c : ∀ u ∈ news, u.oneCell' = true)
    (b1 : n + m ≤ maxLen) (b2 : (n + m) * bytes ≤ 140737488355328) (hbase : base ≤ w.heap.size)
    (hK : ∀ v' w', w'.ownsRow base e size v' (n + m) (xs ++ news) → w.grownBy w' v.ownBlock → K (a.put o.dst v') w') :
    if Region.wanted o (yielded ops a.tmps) = true then Oper.wp P o a w K Q else E := by
  have hw : Region.wanted o (yielded ops a.tmps) = true := by simp [Region.wanted, hg]
  rw [if_pos hw]
  obtain ⟨v', w', hrun, r1, r2, _⟩ := run_append_own (P := P) w base t o.type e i z size bytes h1 h2 h3 h4 h5 h6 h7 v n xs hown ad m c news hn hc h1c b1 b2 hbase
  unfold Oper.wp
  simp [execOp, hop, resolve, invoke, builtin, hs, hx, hrun, Result.andThen]
  exact hK v' w' r1 r2
theorem two_at {w : World} {p : Nat} {v u : Value} (h0 : w.cell? ⟨p, 0, none⟩ = some v) (h1 : w.cell? ⟨p, 1, none⟩ = some u) : ∀ (j : Nat) (x : Value), [v, u][j]? = some x → w.cell? ((⟨p, 0, none⟩ : Addr).add j) = some x := by
  intro j x hj
  match j, hj with
  | 0, hj => simp at hj; subst hj; simpa [Addr.add] using h0
  | 1, hj => simp at hj; subst hj; simpa [Addr.add] using h1
theorem ownW_cell {w : World} {B g n c : Nat} {e : TypeId} {xs : List Value} (h : w.ownsRow B e 1 (.slice (some ⟨g, 0, none⟩) n c) n xs) {j : Nat} {u : Value} (hj : xs[j]? = some u) : w.cell? ⟨g, j, none⟩ = some u ∧ w.frozen? ⟨g, j, none⟩ = false := by
  rcases h.2 with ⟨h1, _⟩ | ⟨g', cap, cur, h1, h2, h3, h4, h5, h6, h7⟩
  · cases h1
  · simp only [Value.slice.injEq, Option.some.injEq, Addr.mk.injEq, and_true, true_and] at h1
    obtain ⟨rfl, rfl⟩ := h1
    constructor
    · simp only [World.cell?, h3]
      rw [← h7, List.getElem?_take] at hj
      split at hj
      · simpa using hj
      · simp at hj
    · simp [World.frozen?, h3]
/-- What was sent lies in memory: from when, and until when. -/
theorem sent_at {w : World} {x : Option Addr} {m c : Nat} {l : List Snt} (h : Seg w 49 4 (.slice x m c) m (flt Snt.cs l)) {i : Nat} {s : Snt} (hs : l[i]? = some s) (hm : i < m) : ∃ b off, x = some ⟨b, off, none⟩ ∧ b < w.heap.size ∧ w.cell? ⟨b, off + i * 4 + 1, none⟩ = some (.int .i64 s.f) ∧ w.cell? ⟨b, off + i * 4 + 2, none⟩ = some (.int .i64 s.t) := by
  obtain ⟨b, off, cap, he, _, _, hb, hc⟩ := h.some (by omega)
  simp only [Value.slice.injEq, true_and] at he
  have hat : ∀ j, j < 4 → (flt Snt.cs l)[i * 4 + j]? = (Snt.cs s)[j]? := fun j hj => flt_at Snt.cs 4 Snt.len hs hj
  exact ⟨b, off, he.1, hb, by rw [Nat.add_assoc]; exact hc (i * 4 + 1) _ ((hat 1 (by omega)).trans rfl), by rw [Nat.add_assoc]; exact hc (i * 4 + 2) _ ((hat 2 (by omega)).trans rfl)⟩
theorem spn_len (l : List Snt) : (spn l).length ≤ 2 * l.length := by
  refine snoc_indW (P := fun l => (spn l).length ≤ 2 * l.length) (Nat.le_refl _) (fun l s ih => ?_) l
  rw [spn_snoc]
  unfold psh
  split
  · simp only [List.length_append, List.length_dropLast, List.length_cons, List.length_nil]; omega
  · simp only [List.length_append, List.length_cons, List.length_nil]; omega
theorem infoIntW : (Tryz.prog.info? 3).map (fun i => (i.zero, i.size, i.bytes)) = some (some (.int .i64 0), 1, 8) := by kernel_rfl
theorem bel_grW {w W W' : World} {r : Option Nat} (h : Below w.heap.size w W) (hg : W.grownBy W' r) (hr : ∀ k, r = some k → w.heap.size ≤ k) : Below w.heap.size w W' := h.grown hg h.size hr
theorem bel_sizeW {w W : World} (h : Below w.heap.size w W) : w.heap.size ≤ W.heap.size := h.size
end Go.Proofs.YtfakjedolecdcaaGreatDoor
