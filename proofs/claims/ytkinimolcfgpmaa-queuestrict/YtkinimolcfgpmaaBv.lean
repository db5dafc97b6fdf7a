/-
  millracekeep.QueueStrict: it returns true at every number of bands and for all steps; nothing that was there before is otherwise. Conditions: the steps lie in memory.
-/
import Derived.Test.YtkinimolcfgpmaaBu
namespace Go.Proofs.Ytkinimolcfgpmaa
open Go.RowKit Go.Extern.Stop Go.Stop Go.Extern

/-- How many bands, less one. -/
def pk (a : Int) : Nat := ((a % 18446744073709551616) % 8).toNat
theorem pk_lt (a : Int) : pk a < 8 := by unfold pk; omega
theorem pick_any (a : Int) (w : World) : Calls Try.prog 9 #[.int .i64 a, .int .i64 8] w fun e w' => e = .returned (.int .i64 (pk a)) ∧ w' = w := by
  have h1 : ((8 : Int) == 0) = false := by decide
  have hz : wrap64 ((IntKind.u64.wrap a).tmod 8) = (pk a : Int) := by
    rw [IntKind.wrap_u64, Int.tmod_eq_emod_of_nonneg (by omega)]
    unfold pk wrap64
    omega
  have HZ : Hid (wrap64 ((IntKind.u64.wrap a).tmod 8) = (pk a : Int)) := hz
  clear hz
  go_enter Try.func9, Try.ntmps9
  go_wp2
  go_ret
  exact ⟨by show Ending.returned (.int .i64 (wrap64 ((IntKind.u64.wrap a).tmod 8))) = _; rw [HZ.out], rfl⟩
/-- Fifos that were made one behind the other: in which block each lies. -/
structure MadeR (w : World) (k : Nat) (v : Value) (wr : World) (bs : Nat → Nat) : Prop where
  row : Seg wr 54 1 v k (qcells k (fun i => (23, .pointer (some ⟨bs i, 0, none⟩))))
  each : ∀ i, i < k → LAt wr (bs i) 52 (frest 20 1000000 false []) (.slice none 0 0) []
  dis : ∀ i j, i < k → j < k → bs i = bs j → i = j
  new : ∀ i, i < k → w.heap.size ≤ bs i ∧ v.ownBlock ≠ some (bs i)
  own : ∀ b, v.ownBlock = some b → w.heap.size ≤ b
  below : Below w.heap.size w wr
theorem qcells_succ (k : Nat) (Q : Nat → TypeId × Value) : qcells (k + 1) Q = qcells k Q ++ [.iface (Q k).1 (Q k).2] := by simp [qcells, List.range_succ]
theorem qcells_congr {k : Nat} {Q Q' : Nat → TypeId × Value} (h : ∀ i, i < k → Q i = Q' i) : qcells k Q = qcells k Q' := by
  unfold qcells
  exact List.map_congr_left fun i hi => by rw [h i (List.mem_range.1 hi)]
theorem made_next {w wr w1 w4 : World} {k : Nat} {v v' : Value} {bs : Nat → Nat} (h : MadeR w k v wr bs) {o1 o2 : Obj} (hl1 : LAt w1 wr.heap.size 52 (frest 20 1000000 false []) (.slice none 0 0) []) (hw1 : w1 = wr.alloc o1)
    (hg : (w1.alloc o2).grownBy w4 v.ownBlock) (hs : Seg w4 54 1 v' (k + 1) (qcells k (fun i => (23, .pointer (some ⟨bs i, 0, none⟩))) ++ [.iface 23 (.pointer (some ⟨wr.heap.size, 0, none⟩))])) (ha : ∀ b, v'.ownBlock = some b → v.ownBlock = some b ∨ w1.heap.size ≤ b) :
    MadeR w (k + 1) v' w4 (fun i => if i = k then wr.heap.size else bs i) := by
  subst hw1
  have hsz : (wr.alloc o1).heap.size = wr.heap.size + 1 := by simp
  have hvl : ∀ b, v.ownBlock = some b → b < wr.heap.size := fun b hb => h.row.lt hb
  have hbl : ∀ i, i < k → bs i < wr.heap.size := fun i hi => (h.each i hi).lt
  have hkeep : ∀ b, b < wr.heap.size + 1 → v.ownBlock ≠ some b → w4.heap[b]? = (wr.alloc o1).heap[b]? := fun b hb hne => (hg.block b (by simp; omega) (fun e => hne e.symm)).trans (Below.heap_alloc _ _ _ (by simp; omega))
  have hws := h.below.size
  refine ⟨?_, fun i hi => ?_, fun i j hi hj => ?_, fun i hi => ?_, fun b hb => ?_, ?_⟩
  · rw [qcells_succ]
    have e1 : qcells k (fun i => ((23 : TypeId), Value.pointer (some ⟨if i = k then wr.heap.size else bs i, 0, none⟩))) = qcells k (fun i => (23, .pointer (some ⟨bs i, 0, none⟩))) := qcells_congr fun i hi => by rw [if_neg (by omega)]
    rw [e1]
    simpa using hs
  · by_cases e : i = k
    · simp only [if_pos e]
      exact hl1.kept (hkeep _ (by omega) (fun e => by have := hvl _ e; omega)) (fun b hb => by simp [Value.ownBlock] at hb)
    · simp only [if_neg e]
      have hi' : i < k := by omega
      refine (h.each i hi').kept ((hkeep _ (by have := hbl i hi'; omega) (h.new i hi').2).trans (Below.heap_alloc _ _ _ (hbl i hi'))) (fun b hb => by simp [Value.ownBlock] at hb)
  · intro e
    by_cases ei : i = k
    · by_cases ej : j = k
      · rw [ei, ej]
      · simp only [if_pos ei, if_neg ej] at e
        have := hbl j (by omega); omega
    · by_cases ej : j = k
      · simp only [if_neg ei, if_pos ej] at e
        have := hbl i (by omega); omega
      · simp only [if_neg ei, if_neg ej] at e
        exact h.dis i j (by omega) (by omega) e
  · by_cases e : i = k
    · simp only [if_pos e]
      refine ⟨hws, fun e' => ?_⟩
      rcases ha _ e' with h' | h'
      · have := hvl _ h'; omega
      · omega
    · simp only [if_neg e]
      have hi' : i < k := by omega
      refine ⟨(h.new i hi').1, fun e' => ?_⟩
      rcases ha _ e' with h' | h'
      · exact (h.new i hi').2 h'
      · have := hbl i hi'; omega
  · rcases ha b hb with h' | h'
    · exact h.own b h'
    · omega
  · exact below_grown_ (below_alloc_ (below_alloc_ h.below _) _) hg h.own
theorem ptrNe (b : Nat) (w : World) : (binOp .eql 23 (.pointer (some ⟨b, 0, none⟩)) (.pointer none)).run Try.prog w = .ok (.bool false) w := by kernel_rfl
/-- Bands of Fifos that were just made. -/
theorem made_bands {w wr w2 : World} {N B g goff gcap : Nat} {v : Value} {bs : Nat → Nat} (h : MadeR w N v wr bs) (hb : Below wr.heap.size wr w2) (hblk : w2.heap[B]? = some (.cells #[.slice (some ⟨g, goff, none⟩) N gcap] 70 (0, 0))) (hrow : QRowAt w2 g goff N (fun i => (23, .pointer (some ⟨bs i, 0, none⟩)))) (hg : wr.heap.size ≤ g) (hgB : g < B) :
    BAt (FQ bs) N B g goff gcap w2 (fun i k => k = bs i) (fun _ => ([] : List Hd)) := by
  have hbl : ∀ i, i < N → bs i < wr.heap.size := fun i hi => (h.each i hi).lt
  refine ⟨hblk, hrow, by have := lt_of_block hblk; omega, fun i hi => newFifo_at _ _ _ _ ((h.each i hi).below hb), fun i j k hi hj e1 e2 => h.dis i j hi hj (e1.symm.trans e2), fun i hi => ?_⟩
  have := hbl i hi
  omega
theorem FQ_keeps (bs : Nat → Nat) (i : Nat) : (FQ bs i).Keeps (fun (L : List Hd) => L) := fifo_keeps (bs i) 20 1000000 false
theorem contB_nil (bs : Nat → Nat) (N : Nat) : contB (Q := FQ bs) (fun _ (L : List Hd) => L) N (fun _ => ([] : List Hd)) = [] := by
  unfold contB
  rw [List.flatMap_eq_nil_iff]
  intro i _
  rfl
theorem Ins.kept' {w w' : World} {v : Value} {l : List Int} (h : Ins w v l) (hb : Below w.heap.size w w') : Ins w' v l := Seg.below h hb
/-- A round of the second loop. -/
structure StrR (w6 : World) (bv : Value) (wr : World) (bd : List Int) : Prop where
  row : Ins wr bv bd
  own : ∀ b, bv.ownBlock = some b → w6.heap.size ≤ b
  below : Below w6.heap.size w6 wr
theorem StrR.set {w6 wr : World} {b off cap : Nat} {bd : List Int} (h : StrR w6 (.slice (some ⟨b, off, none⟩) bd.length cap) wr bd) (k : Nat) (hk : k < bd.length) : StrR w6 (.slice (some ⟨b, off, none⟩) bd.length cap) (wr.setCell ⟨b, off + k, none⟩ (.int .i64 (-1))) (bd.set k (-1)) :=
  ⟨h.row.set k hk (-1), h.own, below_set_ h.below (h.own b rfl) _⟩
theorem StrR.drewN {w6 wr : World} {bv : Value} {bd : List Int} (h : StrR w6 bv wr bd) (n : Nat) : StrR w6 bv (wr.drewN n) bd := ⟨h.row, h.own, below_drewN_ h.below n⟩
theorem Ins.lenle {w : World} {v : Value} {l : List Int} (h : Ins w v l) : l.length ≤ 9223372036854775807 := by
  rcases h.form with ⟨_, h0, _⟩ | ⟨_, _, _, _, h1, h2, _⟩
  · omega
  · unfold maxLen at h2; omega
theorem lostB_take {b l : List Int} {j : Nat} {k : Int} (h : l[j]? = some k) : lostB b (l.take (j + 1)) = (lostB b (l.take j)).set k.toNat (-1) := by
  rw [List.take_add_one, h]
  exact lostB_snoc b _ k
set_option maxRecDepth 20000 in
set_option maxHeartbeats 4000000 in
theorem strict_any (bands : Int) (x : Option Addr) (cap : Nat) (xs : List Stp) (w : World) (hl : Lies w x (flt Stp.cs xs)) (hm : xs.length ≤ maxLen) :
    Calls Try.prog 4 #[.int .i64 bands, .slice x xs.length cap] w fun e w' => e = .returned (.bool true) ∧ Below w.heap.size w w' := by
  have HL : Hid (Lies w x (flt Stp.cs xs)) := hl
  clear hl
  unfold maxLen at hm
  obtain ⟨q, hq⟩ : ∃ q, xs.length = q := ⟨_, rfl⟩
  have HN : Hid (xs.length = q) := hq
  rw [hq] at hm ⊢
  clear hq
  by_cases hlen : 120 < q
  · go_enter Try.func4, Try.ntmps4
    go_wp2
    go_ret
    exact ⟨rfl, Below.refl _ _⟩
  · have hq1 : q ≤ 120 := by omega
    clear hm hlen
    obtain ⟨i0, hi, hz0, hz1, hz2⟩ := info_parts infoQueue
    have hp8 := pk_lt bands
    obtain ⟨p, hp⟩ : ∃ p, pk bands = p := ⟨_, rfl⟩
    have HPK : Hid (pk bands = p) := hp
    rw [hp] at hp8
    clear hp
    go_enter Try.func4, Try.ntmps4
    go_wp2
    go_loopw [5, 6] (fun v i wr => ∃ (k : Nat) (bs : Nat → Nat), k ≤ p + 1 ∧ i = .int .i64 k ∧ MadeR w k v wr bs) (fun _ i _ => p + 1 - (intOf i).toNat)
    case atStart => exact ⟨0, fun _ => 0, Nat.zero_le _, rfl, Seg.nil _ _ _, fun i hi => by omega, fun i j hi => by omega, fun i hi => by omega, fun b hb => by simp [Value.ownBlock] at hb, Below.refl _ _⟩
    case round =>
      obtain ⟨k, bs, hk, rfl, hr⟩ := hrel
      have HR : Hid (MadeR w k u5 wr bs) := hr
      clear hr
      by_cases hlt : k < p + 1
      · have hle : decide ((k : Int) ≤ (p : Int)) = true := by simp; omega
        have hpn := ptrNe
        go_wp2_with (first | (go_at_call 9; refine (pick_any bands _).mono ?_; rintro e w1 ⟨he1, hw1⟩; rw [HPK.out] at he1; subst he1 hw1) | (go_at_call 5; refine (newFifo_yes 20 1000000 false _ (by decide) (by decide) (by decide) (by decide)).mono ?_; rintro e w2 ⟨rfl, hl2, hw2⟩; subst hw2) | (at_builtin; refine wpList_append_seg _ rfl (.tmp 37) (.tmp 40) 36 rfl 54 i0 _ 1 16 Try.underlying36 hi hz0 hz1 hz2 rfl (by decide) u5 k _ rfl (HR.out.row.below (below_alloc_ (below_alloc_ (Below.refl _ _) _) _)) _ 1 1 _ rfl rfl (news_of (new_block_ (by simp))) (by simp [Value.oneCell']) (by decide) (by unfold maxLen; omega) (by omega) _ rfl ?_; intro g goff gcap w4 hs4 hg4 ha4 hl4))
        go_roundw
        case rel =>
          refine ⟨k + 1, _, by omega, by go_num, made_next HR.out hl2 rfl hg4 hs4 (fun b hb => ?_)⟩
          simp only [Value.ownBlock, Option.some.injEq] at hb
          subst hb
          rcases ha4 with h | h
          · exact Or.inl h
          · right; simp at h ⊢; omega
        case measure => simp [intOf]; omega
      · obtain rfl : k = p + 1 := by omega
        have hle : decide (((p : Int) + 1) ≤ (p : Int)) = false := by simp; omega
        obtain ⟨b, off, ocap, hu5, _, _, hbl, hbc⟩ := HR.out.row.some (by omega)
        subst hu5
        have hqr : QRowAt wr b off (p + 1) (fun i => (23, .pointer (some ⟨bs i, 0, none⟩))) := fun i hi => hbc i _ (qcells_get hi)
        have HQR : Hid (QRowAt wr b off (p + 1) (fun i => (23, .pointer (some ⟨bs i, 0, none⟩)))) := hqr
        have hc1 : ((p + 1 : Nat) : Int) = (p : Int) + 1 := by omega
        clear hqr hbc
        go_wp2_with (first | (go_at_call 9; refine (pick_any bands _).mono ?_; rintro e w1 ⟨he1, hw1⟩; rw [HPK.out] at he1; subst he1 hw1) | (go_at_call 10; refine (newBands_yes _ HQR.out (by omega) (by omega) hbl).mono ?_; rintro e w2 ⟨B, g, goff, gcap, rfl, hB2, hr2, hg2, hgB2, hb2⟩) | (go_at_call 6; refine (first_all _).mono ?_; rintro e w3 ⟨rfl, hb3⟩) | (go_at_call 7; fail))
        have hS := FQ_small bs (N := p + 1) (by omega) (by omega)
        have hws := HR.out.below.size
        have hb02 : Below w.heap.size w w2 := HR.out.below.trans (hb2.mono hws)
        have hb03 : Below w.heap.size w w3 := hb02.trans (hb3.mono hb02.size)
        have hBA := (made_bands HR.out hb2 hB2 hr2 hg2 hgB2).below hS.fine hb3
        have hF0 : ∀ k, foot (p + 1) B g (fun i k => k = bs i) k → w.heap.size ≤ k := by
          rintro k (h | h | ⟨i, hi, h⟩)
          · omega
          · omega
          · rw [h]; exact (HR.out.new i hi).1
        have HP := play_any (BandsM (FQ bs) (p + 1) B g goff gcap) (bandsM_fine hS) (foot (p + 1) B g (fun i k => k = bs i)) (fun _ => ([] : List Hd)) x cap xs w3 (HL.out.below hb03) (by rw [HN.out]; omega) ⟨_, hBA, fun k => Iff.rfl⟩ (fun i hi => fifo_inv0 _ _ _ _)
        rw [HN.out] at HP
        refine HP.mono ?_
        rintro e w4 ⟨u, us, F, rfl, hsn, hot⟩
        obtain ⟨G, G2, hG0, hG⟩ := play_keeps (M := BandsM (FQ bs) (p + 1) B g goff gcap) (bands_keeps (fun _ (L : List Hd) => L) (fun i _ => FQ_keeps bs i) (by omega)) (s0 := fun _ => ([] : List Hd)) (contB_nil bs (p + 1)) (timesL 0 xs)
        have hord := strict_all (bs := bs) (N := p + 1) (B := B) (ob := g) (oo := goff) (oc := gcap) (by omega) xs (fun _ => ([] : List Hd)) (fun _ => rfl)
        have hsl : (playFrom (BandsM (FQ bs) (p + 1) B g goff gcap) (fun _ => ([] : List Hd)) 0 (timesL 0 xs)).length = q := by
          have := playFrom_length (BandsM (FQ bs) (p + 1) B g goff gcap) (fun _ => ([] : List Hd)) 0 (timesL 0 xs)
          rw [timesL_length, HN.out] at this
          exact this
        have hb4 : Below w.heap.size w w4 := hb03.trans (hot.below hb03.size hF0)
        generalize playFrom (BandsM (FQ bs) (p + 1) B g goff gcap) (fun _ => ([] : List Hd)) 0 (timesL 0 xs) = ss at *
        have hk := kept_any xs ss us G G2 x cap u _ F w4 (HL.out.below hb4) (by rw [HN.out]; omega) hsn (by rw [hsl, HN.out]) hG0 hG
        rw [HN.out] at hk
        have HSN : Hid (Sns w4 w3.heap.size F u ss us) := hsn
        have HB4 : Hid (Below w.heap.size w w4) := hb4
        have HORD : Hid (∀ i t sn, (timesL 0 xs)[i]? = some t → ss[i]? = some sn → StrOk (p + 1) (bdAt (p + 1) (timesL 0 xs) ss i) t sn ∧ (bdAt (p + 1) (timesL 0 xs) ss i).length ≤ i) := hord
        have HSL : Hid (ss.length = q) := hsl
        obtain ⟨sx, scap, hu, _⟩ := hsn.lies
        rw [hsl] at hu
        subst hu
        clear hsn hot hord hG0 hG hsl hb4 HP hb02 hb03 hBA hF0 hb2 hb3 hB2 hr2 hS
        go_wp2_with (go_at_call 8; refine hk.mono ?_; rintro e w5 ⟨rfl, hb5⟩)
        have hb05 : Below w.heap.size w w5 := HB4.out.trans (hb5.mono HB4.out.size)
        have HT := times_any x cap xs w5 (HL.out.below hb05) (by rw [HN.out]; omega)
        rw [HN.out] at HT
        go_wp2_with (go_at_call 11; refine HT.mono ?_; rintro e w6 ⟨tv, rfl, ht6, hn6, hb6⟩)
        have HB6 : Hid (Below w.heap.size w w6) := hb05.trans (hb6.mono hb05.size)
        have HS6 : Hid (Sns w6 w3.heap.size F (.slice sx q scap) ss us) := (HSN.out.ot (F' := F) (Ot.of_below (S := fun _ => False) hb5) (fun _ _ _ _ h => h) (fun _ _ h => h)).ot (F' := F) (Ot.of_below (S := fun _ => False) hb6) (fun _ _ _ _ h => h) (fun _ _ h => h)
        have HT6 : Hid (Sts w6 tv (timesL 0 xs)) := ht6
        obtain ⟨tx, tcap, htv, _⟩ := ht6.lies
        rw [timesL_length, HN.out] at htv
        subst htv
        clear HT hk hb5 hb05 hb6 ht6 hn6 HSN
        obtain ⟨j0, hj, hy0, hy1, hy2⟩ := info_parts infoInt1
        go_wp2_with fail
        go_loopw [13, 14] (fun bv i wq => ∃ m : Nat, m ≤ q ∧ i = .int .i64 m ∧ StrR w6 bv wq (bdAt (p + 1) (timesL 0 xs) ss m)) (fun _ i _ => q - (intOf i).toNat)
        case atStart => exact ⟨0, Nat.zero_le _, rfl, Ins.nil _, fun b hb => by simp [Value.ownBlock] at hb, Below.refl _ _⟩
        case round =>
          obtain ⟨m, hm, rfl, hr⟩ := hrel
          have HRR : Hid (StrR w6 u13 wr (bdAt (p + 1) (timesL 0 xs) ss m)) := hr
          clear hr
          by_cases hmq : m < q
          · obtain ⟨t, ht⟩ : ∃ t, (timesL 0 xs)[m]? = some t := ⟨_, List.getElem?_eq_getElem (by rw [timesL_length, HN.out]; exact hmq)⟩
            obtain ⟨sn, hsn⟩ : ∃ sn, ss[m]? = some sn := ⟨_, List.getElem?_eq_getElem (by rw [HSL.out]; exact hmq)⟩
            obtain ⟨uu, huu⟩ : ∃ uu, us[m]? = some uu := ⟨_, List.getElem?_eq_getElem (by rw [HS6.out.len, HSL.out]; exact hmq)⟩
            obtain ⟨hok, hbdl⟩ := HORD.out m t sn ht hsn
            have hnx := bdAt_succ (N := p + 1) ht hsn
            obtain ⟨bd, hbd⟩ : ∃ bd, bdAt (p + 1) (timesL 0 xs) ss m = bd := ⟨_, rfl⟩
            rw [hbd] at hok hbdl hnx HRR
            have HOK : Hid (StrOk (p + 1) bd t sn) := hok
            have HNX : Hid (bdAt (p + 1) (timesL 0 xs) ss (m + 1) = strS (p + 1) bd t sn) := hnx
            have hbw := HRR.out.below
            have HW6 : Hid (∀ {W : World}, Below w6.heap.size w6 W → Sns W w3.heap.size F (.slice sx q scap) ss us) := fun {W} hb => HS6.out.ot (F' := F) (Ot.of_below (S := fun _ => False) hb) (fun _ _ _ _ h => h) (fun _ _ h => h)
            obtain ⟨tx', tcap', he, hlt'⟩ := (Seg.below HT6.out hbw).lies
            simp only [timesL_length, HN.out, Value.slice.injEq, true_and] at he
            obtain ⟨rfl, rfl⟩ := he
            obtain ⟨bt, ot, rfl, hbtl, t0, t1, t2, t3, t4, t5, t6⟩ := hlt'.seven ht
            have HCT : Hid (∀ {W : World}, Below w6.heap.size w6 W → ∃ sb so, sx = some ⟨sb, so, none⟩ ∧ sb < W.heap.size ∧ W.cell? ⟨sb, so + m * 6, none⟩ = some (.int .i64 sn.taken) ∧ W.cell? ⟨sb, so + m * 6 + 5, none⟩ = some uu ∧ Ins W uu sn.lost) := by
              intro W hb
              have h1 := HW6.out hb
              obtain ⟨sx', scap', he, hlies⟩ := h1.lies
              simp only [HSL.out, Value.slice.injEq, true_and] at he
              obtain ⟨rfl, rfl⟩ := he
              obtain ⟨sb, so, e, hl, c0, _, _, _, _, c5⟩ := hlies.seen (zip_at hsn huu)
              exact ⟨sb, so, e, hl, c0, c5, (h1.lost m sn uu hsn huu).1⟩
            clear hlt' ht hsn huu hok hnx hbd
            obtain ⟨nb, hnb⟩ : ∃ nb, bd.length = nb := ⟨_, rfl⟩
            have HNB : Hid (bd.length = nb) := hnb
            rw [hnb] at hbdl
            have HROW : Hid (Seg wr 3 1 u13 nb (bd.map (Value.int .i64))) := by have := HRR.out.row; unfold Ins at this; rw [hnb] at this; exact this
            clear hnb
            go_upto_if 78 with (fail)
            go_cut [13] (fun bv wx => StrR w6 bv wx (addB (p + 1) bd t))
            case first =>
              by_cases hw : t.what = 0
              · have hw2 : (t.what == 0) = true := by simpa using hw
                have HADD : Hid (addB (p + 1) bd t = bd ++ [min t.b (p : Int)]) := by
                  show _ = _
                  rw [addB, if_pos hw]
                  congr 2
                  omega
                clear hw
                go_wp2_with (at_builtin; refine wpList_append_seg _ rfl (.tmp 79) (.tmp 90) 32 rfl 3 j0 _ 1 8 Try.underlying32 hj hy0 hy1 hy2 rfl (by decide) u13 nb _ rfl (HROW.out.below (below_alloc_ (Below.refl _ _) _)) _ 1 1 _ rfl rfl (news_of (new_block_ (by simp))) (by simp [Value.oneCell']) (by decide) (by unfold maxLen; omega) (by omega) _ rfl ?_; intro g' goff' gcap' w7 hs7 hg7 ha7 hl7)
                all_goals
                  go_meet
                  case rel =>
                    rw [HADD.out]
                    refine ⟨?_, fun b hb => ?_, below_grown_ (below_alloc_ HRR.out.below _) hg7 HRR.out.own⟩
                    · unfold Ins
                      rw [List.length_append, HNB.out, List.map_append]
                      first | (rw [show min t.b (p : Int) = (if (p : Int) < t.b then (p : Int) else t.b) by split <;> omega]; exact hs7) | (rw [show min t.b (p : Int) = t.b by omega]; exact hs7) | (rw [show min t.b (p : Int) = (p : Int) by omega]; exact hs7)
                    · simp only [Value.ownBlock, Option.some.injEq] at hb
                      subst hb
                      rcases ha7 with h | h
                      · exact HRR.out.own _ h
                      · have := HRR.out.below.size; simp at h; omega
              · have hw2 : (t.what == 0) = false := by simpa using hw
                have HADD : Hid (addB (p + 1) bd t = bd) := by show _ = _; rw [addB, if_neg hw]
                clear hw
                go_wp2
                go_meet
                case rel => rw [HADD.out]; exact HRR.out
            case rest =>
            have HC : Hid (StrR w6 u13 wc (addB (p + 1) bd t)) := hcut
            have HLOST : Hid (∀ k ∈ sn.lost, 0 ≤ k ∧ k < (addB (p + 1) bd t).length) := HOK.out.lost
            have HTAK : Hid (0 ≤ sn.taken → sn.taken < (addB (p + 1) bd t).length ∧ ∃ bt, (lostB (addB (p + 1) bd t) sn.lost)[sn.taken.toNat]? = some bt ∧ ∀ (j : Nat) v, (lostB (addB (p + 1) bd t) sn.lost)[j]? = some v → 0 ≤ v → ¬ v < bt ∧ ¬ (v = bt ∧ (j : Int) < sn.taken)) := HOK.out.taken
            have HSS : Hid (strS (p + 1) bd t sn = takB (lostB (addB (p + 1) bd t) sn.lost) sn.taken) := rfl
            have hal : (addB (p + 1) bd t).length ≤ nb + 1 := by unfold addB; split <;> simp [HNB.out]
            clear hcut HROW
            generalize addB (p + 1) bd t = b1 at *
            obtain ⟨n1, hn1⟩ : ∃ n1, b1.length = n1 := ⟨_, rfl⟩
            have HN1 : Hid (b1.length = n1) := hn1
            obtain ⟨ux, ucap, hu13⟩ := HC.out.row.slice
            subst hu13
            rw [hn1] at HC HLOST HTAK hal ⊢
            clear hn1
            obtain ⟨nl, hnl⟩ : ∃ nl, sn.lost.length = nl := ⟨_, rfl⟩
            have HNL : Hid (sn.lost.length = nl) := hnl
            clear hnl
            go_wp2_with fail
            go_loopw [15] (fun i wq => ∃ j : Nat, j ≤ nl ∧ i = .int .i64 j ∧ StrR w6 (.slice ux n1 ucap) wq (lostB b1 (sn.lost.take j))) (fun i _ => nl - (intOf i).toNat)
            case atStart => exact ⟨0, Nat.zero_le _, rfl, HC.out⟩
            case round =>
              obtain ⟨j, hjl, rfl, hr⟩ := hrel
              obtain ⟨sb, so, rfl, hsb, c0, c5, hin⟩ := HCT.out hr.below
              obtain ⟨vx, vcap, huv⟩ := hin.slice
              subst huv
              have hnlm := hin.lenle
              rw [HNL.out] at c5 hin hnlm
              have HRJ : Hid (StrR w6 (.slice ux n1 ucap) wr (lostB b1 (sn.lost.take j))) := hr
              clear hr
              by_cases hjn : j < nl
              · obtain ⟨kk, hkk⟩ : ∃ kk, sn.lost[j]? = some kk := ⟨_, List.getElem?_eq_getElem (by rw [HNL.out]; exact hjn)⟩
                obtain ⟨hk0, hk1⟩ := HLOST.out kk (List.mem_of_getElem? hkk)
                obtain ⟨kn, rfl⟩ : ∃ kn : Nat, kk = (kn : Int) := ⟨kk.toNat, by omega⟩
                have HNXJ : Hid (lostB b1 (sn.lost.take (j + 1)) = (lostB b1 (sn.lost.take j)).set kn (-1)) := by
                  show _ = _
                  rw [lostB_take hkk, Int.toNat_natCast]
                have hll : (lostB b1 (sn.lost.take j)).length = n1 := by rw [lostB_length, HN1.out]
                have hk2 : kn < n1 := by omega
                obtain ⟨vv, hvv⟩ : ∃ vv, (lostB b1 (sn.lost.take j))[kn]? = some vv := ⟨_, List.getElem?_eq_getElem (by omega)⟩
                obtain ⟨bb, bo, bc, hbe, hbb, kc, kf⟩ := HRJ.out.row.at hvv
                obtain ⟨vb, vo, vc, hve, hvb, lc, lf⟩ := hin.at hkk
                simp only [hll, HNL.out, Value.slice.injEq, true_and] at hbe hve
                obtain ⟨rfl, rfl⟩ := hbe
                obtain ⟨rfl, rfl⟩ := hve
                clear hin hvv hkk
                go_wp2
                go_roundw
                case rel =>
                  refine ⟨j + 1, by omega, by go_num, ?_⟩
                  rw [HNXJ.out]
                  have h1 := HRJ.out
                  rw [← hll] at h1 ⊢
                  exact h1.set kn (by omega)
                case measure => simp [intOf]; omega
              · obtain rfl : j = nl := by omega
                have HR2 : Hid (StrR w6 (.slice ux n1 ucap) wr (lostB b1 sn.lost)) := by have := HRJ.out; rw [← HNL.out, List.take_of_length_le (Nat.le_refl _)] at this; exact this
                clear HRJ
                by_cases htk : 0 ≤ sn.taken
                · obtain ⟨tk, htk2⟩ : ∃ tk : Nat, sn.taken = (tk : Int) := ⟨sn.taken.toNat, by omega⟩
                  obtain ⟨ht1, btv, ht2, ht3⟩ := HTAK.out htk
                  rw [htk2] at ht1 ht2 ht3 c0 HSS
                  rw [Int.toNat_natCast] at ht2
                  have HT3 : Hid (∀ (j : Nat) v, (lostB b1 sn.lost)[j]? = some v → 0 ≤ v → ¬ v < btv ∧ ¬ (v = btv ∧ (j : Int) < (tk : Int))) := fun j v h1 h2 => by have := ht3 j v h1 h2; omega
                  have HT2 : Hid ((lostB b1 sn.lost)[tk]? = some btv) := ht2
                  have hll : (lostB b1 sn.lost).length = n1 := by rw [lostB_length, HN1.out]
                  have HLL : Hid ((lostB b1 sn.lost).length = n1) := hll
                  have HTB : Hid (takB (lostB b1 sn.lost) (tk : Int) = (lostB b1 sn.lost).set tk (-1)) := by show _ = _; rw [takB, if_pos (by omega), Int.toNat_natCast]
                  have htn : tk < n1 := by omega
                  obtain ⟨bb, bo, bc, hbe, hbb, kc, kf⟩ := HR2.out.row.at ht2
                  simp only [hll, Value.slice.injEq, true_and] at hbe
                  obtain ⟨rfl, rfl⟩ := hbe
                  clear ht2 ht3 hin htk htk2 hll
                  go_wp2_with fail
                  go_loopw [17] (fun i wq => ∃ (j d : Nat), j ≤ n1 ∧ i = .int .i64 j ∧ wq = wr.drewN d) (fun i _ => n1 - (intOf i).toNat)
                  case atStart => exact ⟨0, 0, Nat.zero_le _, rfl, rfl⟩
                  case round =>
                    obtain ⟨j2, d, hj2, rfl, rfl⟩ := hrel
                    by_cases hjn2 : j2 < n1
                    · obtain ⟨vv, hvv⟩ : ∃ vv, (lostB b1 sn.lost)[j2]? = some vv := ⟨_, List.getElem?_eq_getElem (by rw [HLL.out]; exact hjn2)⟩
                      have hT := HT3.out j2 vv hvv
                      obtain ⟨bb', bo', bc', hbe, hbb', lc, lf⟩ := HR2.out.row.at hvv
                      simp only [HLL.out, Value.slice.injEq, true_and, Option.some.injEq, Addr.mk.injEq, and_true] at hbe
                      obtain ⟨⟨rfl, rfl⟩, rfl⟩ := hbe
                      clear hvv
                      by_cases hv0 : 0 ≤ vv
                      · obtain ⟨hq1', hq2'⟩ := hT hv0
                        have z1 : decide (0 ≤ vv) = true := by simpa using hv0
                        have z2 : decide (vv < btv) = false := by simpa using hq1'
                        by_cases hveq : vv = btv
                        · have z3 : (vv == btv) = true := by simpa using hveq
                          have z4 : decide ((j2 : Int) < (tk : Int)) = false := by simp; have := fun h => hq2' ⟨hveq, h⟩; omega
                          have z5 : decide (j2 < tk) = false := by simp; have := fun h => hq2' ⟨hveq, h⟩; omega
                          clear hveq hq1' hq2' hT hv0
                          go_wp2
                          go_quiet (fail)
                          go_wp2
                          go_roundw
                          case rel => exact ⟨j2 + 1, _, by omega, by go_num, rfl⟩
                          case measure => simp [intOf]; omega
                        · have z3 : (vv == btv) = false := by simpa using hveq
                          clear hveq hq1' hq2' hT hv0
                          go_wp2
                          go_quiet (fail)
                          go_wp2
                          go_roundw
                          case rel => exact ⟨j2 + 1, _, by omega, by go_num, rfl⟩
                          case measure => simp [intOf]; omega
                      · have z1 : decide (0 ≤ vv) = false := by simpa using hv0
                        clear hv0 hT
                        go_wp2
                        go_quiet (fail)
                        go_wp2
                        go_roundw
                        case rel => exact ⟨j2 + 1, _, by omega, by go_num, rfl⟩
                        case measure => simp [intOf]; omega
                    · obtain rfl : j2 = n1 := by omega
                      go_wp2
                      go_roundw
                      case rel =>
                        refine ⟨m + 1, by omega, by go_num, ?_⟩
                        rw [HNX.out, HSS.out, HTB.out]
                        have h1 := HR2.out.drewN d
                        rw [← HLL.out] at h1 ⊢
                        exact h1.set tk (by rw [HLL.out]; exact htn)
                      case measure => simp [intOf]; omega
                · have z1 : decide (0 ≤ sn.taken) = false := by simpa using htk
                  have HTB : Hid (takB (lostB b1 sn.lost) sn.taken = lostB b1 sn.lost) := by show _ = _; rw [takB, if_neg htk]
                  clear htk
                  go_wp2
                  go_roundw
                  case rel =>
                    refine ⟨m + 1, by omega, by go_num, ?_⟩
                    rw [HNX.out, HSS.out, HTB.out]
                    exact HR2.out
                  case measure => simp [intOf]; omega
          · obtain rfl : m = q := by omega
            go_wp2
            go_ret
            exact ⟨rfl, HB6.out.trans (HRR.out.below.mono HB6.out.size)⟩
end Go.Proofs.Ytkinimolcfgpmaa
