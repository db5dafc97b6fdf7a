/-
  package plant: Fifos in parentheses. Conditions: each is a Fifo that may be; eight at most, and not too many have begun.
  package plant: Fifos in parentheses are read. Conditions: as in Pn5.
  plant.Parse of a text that tells one Fifo. Conditions: the text is ASCII; its signs are three, and may be.
  plant.Parse of a text that tells bands of Fifos. Conditions: the text is ASCII; its signs are those of bands of Fifos that may be.
-/
import Derived.Test.YtfakjedolecdcaaGreatDoorU37
import Derived.Test.YtfakjedolecdcaaGreatDoorU16
namespace Go.Proofs.YtfakjedolecdcaaGreatDoor
open Go.RowKit Go.Extern.Stop Go.Stop Go.Extern

/-- A Fifo as it is written: its word, its two numbers, the sign behind it; and its room. -/
structure FSp where
  f : List UInt8 × Nat
  x1 : List UInt8 × Nat
  x2 : List UInt8 × Nat
  sep : List UInt8 × Nat
  P : Int
  R : Int
structure FSp.ok (s : FSp) : Prop where
  hf : (s.f.1 == fifoB) = true ∨ (s.f.1 == fifoB) = false ∧ (s.f.1 == headB) = true
  h1 : numL s.x1.1 = some s.P
  h2 : numL s.x2.1 = some s.R
  l1 : s.x1.1.length ≤ 2000
  l2 : s.x2.1.length ≤ 2000
  hP : 0 ≤ s.P ∧ s.P ≤ 1000000
  hR : 0 ≤ s.R ∧ s.R ≤ 1000000
def bsigns (fs : List FSp) : List (List UInt8 × Nat) := fs.flatMap fun s => [s.f, s.x1, s.x2, s.sep]
theorem bsigns_cons (s : FSp) (fs : List FSp) : bsigns (s :: fs) = s.f :: s.x1 :: s.x2 :: s.sep :: bsigns fs := rfl
def ptrsF (bs : Nat → Nat) : Nat → TypeId × Value := fun i => (86, .pointer (some ⟨bs i, 0, none⟩))
/-- So many are read. -/
structure BqR (w : World) (b : Nat) (fs : List FSp) (j : Nat) (vv : Value) (bs : Nat → Nat) (wr : World) : Prop where
  row : Seg wr 26 1 vv j (qcells j (ptrsF bs))
  each : ∀ i s, fs[i]? = some s → i < j → LAt wr (bs i) 110 (frest s.P s.R (s.f.1 == headB) []) (.slice none 0 0) []
  dis : ∀ i i', i < j → i' < j → bs i = bs i' → i = i'
  new : ∀ i, i < j → w.heap.size ≤ bs i ∧ vv.ownBlock ≠ some (bs i) ∧ bs i < wr.heap.size
  own : ∀ g, vv.ownBlock = some g → w.heap.size ≤ g
  ot : Ot (fun k => k = b) w wr
def putB (bs : Nat → Nat) (j q : Nat) : Nat → Nat := fun i => if i = j then q else bs i
theorem qcells_put (bs : Nat → Nat) (j q : Nat) : qcells (j + 1) (ptrsF (putB bs j q)) = qcells j (ptrsF bs) ++ [.iface 86 (.pointer (some ⟨q, 0, none⟩))] := by
  unfold qcells
  rw [List.range_succ, List.map_append]
  congr 1
  · apply List.map_congr_left
    intro i hi
    have : i ≠ j := by have := List.mem_range.1 hi; omega
    simp [ptrsF, putB, this]
  · simp [ptrsF, putB]
section
variable {w wr w1 w3 : World} {b : Nat} {fs : List FSp} {j : Nat} {vv : Value} {bs : Nat → Nat}
theorem BqR.ots (h : BqR w b fs j vv bs wr) (hb : b < w.heap.size) (ho : Ot (fun k => k = b) wr w1) : BqR w b fs j vv bs w1 :=
  ⟨h.row.oth ho (fun g hg e => by have := h.own g hg; omega), fun i s hs hi => (h.each i s hs hi).ot ho (by have := (h.new i hi).1; omega) (fun k hk => by simp [Value.ownBlock] at hk), h.dis, fun i hi => ⟨(h.new i hi).1, (h.new i hi).2.1, by have := (h.new i hi).2.2; have := ho.size; omega⟩, h.own, h.ot.trans ho⟩
theorem BqR.step (h : BqR w b fs j vv bs wr) (hb : b < w.heap.size) {q g goff gcap : Nat} {s : FSp} {o : Obj} (hq : wr.heap.size ≤ q) (hs : fs[j]? = some s) (hl : LAt w1 q 110 (frest s.P s.R (s.f.1 == headB) []) (.slice none 0 0) []) (ho : Ot (fun k => k = b) wr w1)
    (hsg : Seg w3 26 1 (.slice (some ⟨g, goff, none⟩) (j + 1) gcap) (j + 1) (qcells j (ptrsF bs) ++ [.iface 86 (.pointer (some ⟨q, 0, none⟩))])) (hg : (w1.alloc o).grownBy w3 vv.ownBlock) (ha : vv.ownBlock = some g ∨ (w1.alloc o).heap.size ≤ g) :
    BqR w b fs (j + 1) (.slice (some ⟨g, goff, none⟩) (j + 1) gcap) (putB bs j q) w3 := by
  have h1 := h.ots hb ho
  have hql := hl.lt
  have hsz : w1.heap.size + 1 ≤ w3.heap.size := by have := hg.size; simpa using this
  have hvq : vv.ownBlock ≠ some q := fun e => by have := h.row.lt e; omega
  have hgq : g ≠ q := by
    rcases ha with ha | ha
    · exact fun e => hvq (e ▸ ha)
    · simp at ha; omega
  have hgn : w.heap.size ≤ g := by
    rcases ha with ha | ha
    · exact h.own g ha
    · simp at ha; have := h1.ot.size; omega
  have kept : ∀ k, k < w1.heap.size → vv.ownBlock ≠ some k → w3.heap[k]? = w1.heap[k]? := fun k hk hv => (hg.block k (by simp; omega) (fun e => hv e.symm)).trans (Below.heap_alloc _ _ _ hk)
  refine ⟨by rw [qcells_put]; exact hsg, ?_, ?_, ?_, ?_, (h1.ot.alloc _).grown hg (fun k hk => Or.inr (h.own k hk))⟩
  · intro i s' hs' hi
    by_cases e : i = j
    · subst e
      obtain rfl : s = s' := by rw [hs] at hs'; exact Option.some.inj hs'
      have : putB bs i q i = q := by simp [putB]
      rw [this]
      exact hl.kept (kept q hql hvq) (fun k hk => by simp [Value.ownBlock] at hk)
    · have hi' : i < j := by omega
      have : putB bs j q i = bs i := by simp [putB, e]
      rw [this]
      exact (h1.each i s' hs' hi').kept (kept _ (h1.new i hi').2.2 (h1.new i hi').2.1) (fun k hk => by simp [Value.ownBlock] at hk)
  · intro i i' hi hi' e
    by_cases ei : i = j
    · by_cases ei' : i' = j
      · omega
      · have := (h.new i' (by omega)).2.2
        simp [putB, ei, ei'] at e
        omega
    · by_cases ei' : i' = j
      · have := (h.new i (by omega)).2.2
        simp [putB, ei, ei'] at e
        omega
      · simp [putB, ei, ei'] at e
        exact h.dis i i' (by omega) (by omega) e
  · intro i hi
    by_cases e : i = j
    · have : putB bs j q i = q := by simp [putB, e]
      rw [this]
      have := h.ot.size
      exact ⟨by omega, by simp [Value.ownBlock]; exact hgq, by omega⟩
    · have hi' : i < j := by omega
      have : putB bs j q i = bs i := by simp [putB, e]
      rw [this]
      obtain ⟨n1, n2, n3⟩ := h1.new i hi'
      refine ⟨n1, ?_, by omega⟩
      simp only [Value.ownBlock, ne_eq, Option.some.injEq]
      rcases ha with ha | ha
      · exact fun e => n2 (e ▸ ha)
      · simp at ha; omega
  · intro k hk
    simp only [Value.ownBlock, Option.some.injEq] at hk
    omega
end
end Go.Proofs.YtfakjedolecdcaaGreatDoor
namespace Go.Proofs.YtfakjedolecdcaaGreatDoor
open Go.RowKit Go.Extern.Stop Go.Stop Go.Extern

def lenV : Value → Nat
  | .slice _ n _ => n
  | _ => 0
theorem infoQueueP : (Tryz.prog.info? 26).map (fun i => (i.zero, i.size, i.bytes)) = some (some .nilIface, 1, 16) := by kernel_rfl
theorem opens_yes {b n : Nat} {rest : List Value} {v : Value} {o : List UInt8 × Nat} {R : List (List UInt8 × Nat)} (w : World) (h : RdAt w b 65 n rest v (o :: R)) (ho : (o.1 == [40]) = true) :
    Calls Tryz.prog 66 #[.pointer (some ⟨b, 0, none⟩)] w fun e w' => e = .returned .nilIface ∧ ∃ v', RdAt w' b 65 n rest v' R ∧ v'.ownBlock = v.ownBlock ∧ Ot (fun k => k = b) w w' := by
  have HNX : Hid (Calls Tryz.prog 20 #[.pointer (some ⟨b, 0, none⟩)] w fun e w' => e = .returned (.agg #[.string ⟨o.1.toArray⟩, .int .i64 o.2]) ∧ ∃ v2, RdAt w' b 65 n rest v2 R ∧ v2.ownBlock = v.ownBlock ∧ Ot (fun k => k = b) w w') := by
    refine (sgnext_any w h).mono ?_
    rintro e w' ⟨rfl, v2, h1, h2, h3⟩
    exact ⟨rfl, v2, h1, h2, h3⟩
  clear h
  go_enter Tryz.func66, Tryz.ntmps66
  go_wp2_with (go_at_call 20; refine HNX.out.mono ?_; rintro e w1 ⟨rfl, v2, hr1, hv1, ho1⟩)
  go_ret
  exact ⟨rfl, v2, hr1.below (below_alloc_ (Below.refl _ _) _), hv1, ho1.alloc _⟩
set_option maxRecDepth 20000 in
set_option maxHeartbeats 4000000 in
theorem queues_yes {b n : Nat} {tv : Value} {k ar : Int} {v : Value} {o : List UInt8 × Nat} {fs : List FSp} {N : Nat} {R : List (List UInt8 × Nat)} (w : World) (h : RdAt w b 65 n [tv, .int .i64 k] v (o :: (bsigns fs ++ R))) (hB : ∀ w', Ot (fun k => k = b) w w' → Glob w') (ho : (o.1 == [40]) = true) (hN : fs.length = N) (hN1 : 1 ≤ N) (hN8 : N ≤ 8) (hk : 0 ≤ k ∧ k + N ≤ 20) (ha : 0 ≤ ar ∧ ar ≤ 7) (hok : ∀ i s, fs[i]? = some s → s.ok ∧ (s.sep.1 == [41]) = decide (i + 1 = N) ∧ (s.sep.1 == [44]) = decide (i + 1 < N)) :
    Calls Tryz.prog 53 #[.pointer (some ⟨b, 0, none⟩), .int .i64 ar] w fun e w' => ∃ vv bs v', e = .returned (.tuple #[vv, .nilIface]) ∧ BqR w b fs N vv bs w' ∧ RdAt w' b 65 n [tv, .int .i64 (k + N)] v' R ∧ v'.ownBlock = v.ownBlock := by
  have HOP : Hid (Calls Tryz.prog 66 #[.pointer (some ⟨b, 0, none⟩)] w fun e w' => e = .returned .nilIface ∧ ∃ v', RdAt w' b 65 n [tv, .int .i64 k] v' (bsigns fs ++ R) ∧ v'.ownBlock = v.ownBlock ∧ Ot (fun k => k = b) w w') := opens_yes w h ho
  have hb := h.lt
  have HVL : Hid (∀ j, v.ownBlock = some j → j < w.heap.size) := fun j hj => by have h := h.row.lt hj; exact h
  have HOK : Hid (∀ i s, fs[i]? = some s → s.ok ∧ (s.sep.1 == [41]) = decide (i + 1 = N) ∧ (s.sep.1 == [44]) = decide (i + 1 < N)) := hok
  have HG : Hid (∀ w', Ot (fun k => k = b) w w' → Glob w') := hB
  have HN : Hid (fs.length = N) := hN
  obtain ⟨i0, hi, hz0, hz1, hz2⟩ := info_parts infoQueueP
  clear h hB hok ho hN
  go_enter Tryz.func53, Tryz.ntmps53
  go_wp2_with (go_at_call 66; refine HOP.out.mono ?_; rintro e w1 ⟨rfl, v1, hr1, hv1, ho1⟩)
  go_loopw [7] (fun vv wr => ∃ (j : Nat) (bs : Nat → Nat) (v' : Value), j < N ∧ BqR w b fs j vv bs wr ∧ RdAt wr b 65 n [tv, .int .i64 (k + j)] v' (bsigns (fs.drop j) ++ R) ∧ v'.ownBlock = v.ownBlock) (fun vv _ => N - lenV vv)
  case atStart => exact ⟨0, fun _ => 0, v1, by omega, ⟨Seg.nil _ _ _, fun i s _ hi => by omega, fun i i' hi => by omega, fun i hi => by omega, fun g hg => by simp [Value.ownBlock] at hg, ho1⟩, by simpa using hr1, hv1⟩
  case round =>
    clear hr1 hv1 ho1
    obtain ⟨j, bs, v', hj, hbq, hrd, hvo⟩ := hrel
    obtain ⟨s, hs⟩ : ∃ s, fs[j]? = some s := ⟨_, List.getElem?_eq_getElem (by have := HN.out; omega)⟩
    have hdr : fs.drop j = s :: fs.drop (j + 1) := by
      obtain ⟨h1, h2⟩ := List.getElem?_eq_some_iff.1 hs
      rw [← h2]; exact List.drop_eq_getElem_cons h1
    obtain ⟨hso, hs1, hs2⟩ := HOK.out j s hs
    rw [hdr, bsigns_cons] at hrd
    have HQ : Hid (Calls Tryz.prog 19 #[.pointer (some ⟨b, 0, none⟩), .int .i64 ar] wr fun e w' => FifoT wr w' b n [tv, .int .i64 (k + j + 1)] v' s.P s.R (s.f.1 == headB) (s.sep :: (bsigns (fs.drop (j + 1)) ++ R)) e) :=
      queue_fifo s.P s.R wr hrd (fun w' h' => HG.out w' (hbq.ot.trans h')) hso.hf hso.h1 hso.h2 hso.l1 hso.l2 hso.hP hso.hR (by omega) ha
    have HBQ : Hid (BqR w b fs j u7 bs wr) := hbq
    have HV : Hid (v'.ownBlock = v.ownBlock) := hvo
    have HS : Hid (fs[j]? = some s) := hs
    have hws := hbq.ot.size
    have HLV : Hid (lenV u7 = j) := by
      show _ = _
      rcases hbq.row.form with ⟨h, h0, _⟩ | ⟨_, _, _, h, _⟩ <;> rw [h] <;> simp [lenV, *]
    clear hbq hvo hs hdr hso hrd
    by_cases hlast : j + 1 = N
    · have o1 : (s.sep.1 == [41]) = true := by rw [hs1]; simpa using hlast
      clear hs1 hs2
      go_wp2_with (first
      | (go_at_call 19; refine HQ.out.mono ?_; rintro e w2 ⟨q, v2, rfl, hq2, hl2, hr2, hv2, ho2⟩; have HS2 : Hid (Seg w2 26 1 u7 j (qcells j (ptrsF bs))) := (HBQ.out.ots hb ho2).row; have HL2 : Hid (LAt w2 q 110 (frest s.P s.R (s.f.1 == headB) []) (.slice none 0 0) []) := hl2; have HR2 : Hid (RdAt w2 b 65 n [tv, .int .i64 (k + j + 1)] v2 (s.sep :: (bsigns (fs.drop (j + 1)) ++ R))) := hr2; have HV2 : Hid (v2.ownBlock = v.ownBlock) := hv2.trans HV.out; have HO2 : Hid (Ot (fun k => k = b) wr w2) := ho2; clear hl2 hr2 hv2 ho2)
      | (at_builtin; refine wpList_append_seg _ rfl (.tmp 25) (.tmp 27) 134 rfl 26 i0 _ 1 16 Tryz.underlying134 hi hz0 hz1 hz2 rfl (by decide) _ _ _ rfl (HS2.out.below (by repeat' (first | with_reducible exact Below.refl _ _ | with_reducible refine Below.drew ?_ | with_reducible refine below_alloc_ ?_ _))) _ 1 1 _ rfl rfl (news_of (new_block_ (by simp))) (by simp [Value.oneCell']) (by decide) (by unfold maxLen; omega) (by omega) _ rfl ?_; intro g goff gcap w3 hs3 hg3 ha3 hl3; have HB3 : Hid (BqR w b fs (j + 1) (.slice (some ⟨g, goff, none⟩) (j + 1) gcap) (putB bs j q) w3) := HBQ.out.step hb hq2 HS.out HL2.out HO2.out hs3 hg3 ha3; have HR3 : Hid (RdAt w3 b 65 n [tv, .int .i64 (k + j + 1)] v2 (s.sep :: (bsigns (fs.drop (j + 1)) ++ R))) := (HR2.out.below (below_alloc_ (Below.refl _ _) _)).kept (hg3.block b (by simp; have := HR2.out.lt; omega) (fun e => by have := HBQ.out.own b e.symm; omega)) (fun i hi => hg3.block i (by simp; have := HR2.out.row.lt hi; omega) (fun e => by have h1 := HBQ.out.own i e.symm; rw [HV2.out] at hi; have h2 := HVL.out i hi; omega)); clear hs3 hg3 ha3)
      | (go_at_call 20; refine (sgnext_any w3 HR3.out).mono ?_; rintro e w4 ⟨he4, v4, hr4, hv4, ho4⟩; rw [show sgV ((s.sep :: (bsigns (fs.drop (j + 1)) ++ R)).headD (endS n)) = .agg #[.string ⟨s.sep.1.toArray⟩, .int .i64 s.sep.2] from rfl] at he4; subst he4; have HB4 : Hid (BqR w b fs (j + 1) (.slice (some ⟨g, goff, none⟩) (j + 1) gcap) (putB bs j q) w4) := HB3.out.ots hb ho4; have HR4 : Hid (RdAt w4 b 65 n [tv, .int .i64 (k + j + 1)] v4 (bsigns (fs.drop (j + 1)) ++ R)) := hr4; have HV4 : Hid (v4.ownBlock = v.ownBlock) := hv4.trans HV2.out; clear hr4 hv4 ho4))
      (try simp only [Exit.inBlock, Exit.then])
      go_ret2
      have e1 : fs.drop (j + 1) = [] := by rw [List.drop_eq_nil_iff]; have := HN.out; omega
      have hr := HR4.out
      rw [e1, show bsigns [] = [] from rfl, List.nil_append] at hr
      have e2 : k + (j : Int) + 1 = k + (N : Int) := by omega
      rw [e2] at hr
      have hbq := HB4.out.ots hb ((Ot.refl _ _).alloc (.cells #[.string ⟨s.sep.1.toArray⟩, .int .i64 s.sep.2] 60))
      rw [hlast] at hbq
      exact ⟨_, putB bs j q, v4, rfl, hbq, hr.below (below_alloc_ (Below.refl _ _) _), HV4.out⟩
    · have o1 : (s.sep.1 == [41]) = false := by rw [hs1]; simpa using hlast
      have o2 : (s.sep.1 == [44]) = true := by rw [hs2]; simp; omega
      clear hs1 hs2
      go_wp2_with (first
      | (go_at_call 19; refine HQ.out.mono ?_; rintro e w2 ⟨q, v2, rfl, hq2, hl2, hr2, hv2, ho2⟩; have HS2 : Hid (Seg w2 26 1 u7 j (qcells j (ptrsF bs))) := (HBQ.out.ots hb ho2).row; have HL2 : Hid (LAt w2 q 110 (frest s.P s.R (s.f.1 == headB) []) (.slice none 0 0) []) := hl2; have HR2 : Hid (RdAt w2 b 65 n [tv, .int .i64 (k + j + 1)] v2 (s.sep :: (bsigns (fs.drop (j + 1)) ++ R))) := hr2; have HV2 : Hid (v2.ownBlock = v.ownBlock) := hv2.trans HV.out; have HO2 : Hid (Ot (fun k => k = b) wr w2) := ho2; clear hl2 hr2 hv2 ho2)
      | (at_builtin; refine wpList_append_seg _ rfl (.tmp 25) (.tmp 27) 134 rfl 26 i0 _ 1 16 Tryz.underlying134 hi hz0 hz1 hz2 rfl (by decide) _ _ _ rfl (HS2.out.below (by repeat' (first | with_reducible exact Below.refl _ _ | with_reducible refine Below.drew ?_ | with_reducible refine below_alloc_ ?_ _))) _ 1 1 _ rfl rfl (news_of (new_block_ (by simp))) (by simp [Value.oneCell']) (by decide) (by unfold maxLen; omega) (by omega) _ rfl ?_; intro g goff gcap w3 hs3 hg3 ha3 hl3; have HB3 : Hid (BqR w b fs (j + 1) (.slice (some ⟨g, goff, none⟩) (j + 1) gcap) (putB bs j q) w3) := HBQ.out.step hb hq2 HS.out HL2.out HO2.out hs3 hg3 ha3; have HR3 : Hid (RdAt w3 b 65 n [tv, .int .i64 (k + j + 1)] v2 (s.sep :: (bsigns (fs.drop (j + 1)) ++ R))) := (HR2.out.below (below_alloc_ (Below.refl _ _) _)).kept (hg3.block b (by simp; have := HR2.out.lt; omega) (fun e => by have := HBQ.out.own b e.symm; omega)) (fun i hi => hg3.block i (by simp; have := HR2.out.row.lt hi; omega) (fun e => by have h1 := HBQ.out.own i e.symm; rw [HV2.out] at hi; have h2 := HVL.out i hi; omega)); clear hs3 hg3 ha3)
      | (go_at_call 20; refine (sgnext_any w3 HR3.out).mono ?_; rintro e w4 ⟨he4, v4, hr4, hv4, ho4⟩; rw [show sgV ((s.sep :: (bsigns (fs.drop (j + 1)) ++ R)).headD (endS n)) = .agg #[.string ⟨s.sep.1.toArray⟩, .int .i64 s.sep.2] from rfl] at he4; subst he4; have HB4 : Hid (BqR w b fs (j + 1) (.slice (some ⟨g, goff, none⟩) (j + 1) gcap) (putB bs j q) w4) := HB3.out.ots hb ho4; have HR4 : Hid (RdAt w4 b 65 n [tv, .int .i64 (k + j + 1)] v4 (bsigns (fs.drop (j + 1)) ++ R)) := hr4; have HV4 : Hid (v4.ownBlock = v.ownBlock) := hv4.trans HV2.out; clear hr4 hv4 ho4))
      go_roundw
      case rel =>
        refine ⟨j + 1, putB bs j q, v4, by omega, HB4.out.ots hb ((Ot.refl _ _).alloc _), ?_, HV4.out⟩
        have hr := HR4.out.below (below_alloc_ (Below.refl _ _) (.cells #[.string ⟨s.sep.1.toArray⟩, .int .i64 s.sep.2] 60))
        have e2 : k + (j : Int) + 1 = k + ((j + 1 : Nat) : Int) := by omega
        rw [e2] at hr
        exact hr
      case measure =>
        show N - (j + 1) < N - lenV u7
        rw [HLV.out]; omega
end Go.Proofs.YtfakjedolecdcaaGreatDoor
namespace Go.Proofs.YtfakjedolecdcaaGreatDoor
open Go.RowKit Go.Extern.Stop Go.Stop Go.Extern

set_option maxHeartbeats 4000000 in
theorem parse_fifo {f x1 x2 : List UInt8 × Nat} (s : ByteArray) (P Rm : Int) (w : World) (hG : Glob w) (hs : s.size ≤ 2000) (hL : signsL [32, 40, 41, 44] s.data.toList 0 = [f, x1, x2]) (hf : (f.1 == fifoB) = true ∨ (f.1 == fifoB) = false ∧ (f.1 == headB) = true) (h1 : numL x1.1 = some P) (h2 : numL x2.1 = some Rm) (hl1 : x1.1.length ≤ 2000) (hl2 : x2.1.length ≤ 2000) (hP : 0 ≤ P ∧ P ≤ 1000000) (hR : 0 ≤ Rm ∧ Rm ≤ 1000000) :
    Calls Tryz.prog 7 #[.string s, .slice none 0 0] w fun e w' => ∃ q, e = .returned (.tuple #[.iface 86 (.pointer (some ⟨q, 0, none⟩)), .nilIface]) ∧ w.heap.size ≤ q ∧ LAt w' q 110 (frest P Rm (f.1 == headB) []) (.slice none 0 0) [] ∧ Below w.heap.size w w' := by
  have HRD : Hid (Calls Tryz.prog 18 #[.string s, .string ⟨#[40, 41, 44]⟩] w fun e w' => ∃ rv, e = .returned (.agg #[rv, .string ⟨#[]⟩, .int .i64 s.size]) ∧ Seg w' 60 2 rv 3 (flt sgc [f, x1, x2]) ∧ (∀ b, rv.ownBlock = some b → w.heap.size ≤ b) ∧ Below w.heap.size w w') := by
    refine (read_any s ⟨#[40, 41, 44]⟩ w hs (by decide) (by decide) ?_).mono ?_
    · intro j b hj
      match j with
      | 0 => simp at hj; subst hj; decide
      | 1 => simp at hj; subst hj; decide
      | 2 => simp at hj; subst hj; decide
      | j + 3 => simp at hj
    · rintro e w' ⟨rv, rfl, hsg, hn, hb⟩
      rw [show (32 :: (⟨#[40, 41, 44]⟩ : ByteArray).data.toList) = [32, 40, 41, 44] from rfl, hL] at hsg
      exact ⟨rv, rfl, hsg, hn, hb⟩
  have HQ : Hid (∀ w1 b v, w.heap.size ≤ b → Below w.heap.size w w1 → RdAt w1 b 65 s.size [.slice none 0 0, .int .i64 0] v [f, x1, x2] → Calls Tryz.prog 19 #[.pointer (some ⟨b, 0, none⟩), .int .i64 0] w1 fun e w' => FifoT w1 w' b s.size [.slice none 0 0, .int .i64 1] v P Rm (f.1 == headB) [] e) := by
    intro w1 b v hb hw hr
    refine queue_fifo P Rm w1 hr (fun w' h' => hG.below ?_) hf h1 h2 hl1 hl2 hP hR (by decide) (by decide)
    exact hw.trans (h'.below hw.size (fun k hk => by omega))
  have a1 : decide ((2000 : Int) < (s.size : Int)) = false := by simp; omega
  clear hG hs hL hf h1 h2 hl1 hl2 hP hR
  go_enter Tryz.func7, Tryz.ntmps7
  go_wp2_with (go_at_call 18; refine HRD.out.mono ?_; rintro e w1 ⟨rv, rfl, hsg, hn, hb1⟩; obtain ⟨rg, roff, rcap, rfl, _, _, _, _⟩ := hsg.some (by decide))
  have hrd : RdAt (w1.alloc (.cells #[.slice (some ⟨rg, roff, none⟩) 3 rcap, .string ⟨#[]⟩, .int .i64 s.size, .slice none 0 0, .int .i64 0] 65)) w1.heap.size 65 s.size [.slice none 0 0, .int .i64 0] (.slice (some ⟨rg, roff, none⟩) 3 rcap) [f, x1, x2] :=
    ⟨new_block _ _, hsg.alloc _, fun e => by have := hsg.lt e; omega⟩
  refine (HQ.out _ _ _ hb1.size (hb1.alloc hb1.size _) hrd).mono ?_
  rintro e w2 ⟨q, v', rfl, hq, hl2, hr2, hv2, ho2⟩
  have hbl := hr2.lt
  have HL2 : Hid (LAt w2 q 110 (frest P Rm (f.1 == headB) []) (.slice none 0 0) []) := hl2
  have HNX : Hid (Calls Tryz.prog 20 #[.pointer (some ⟨w1.heap.size, 0, none⟩)] w2 fun e w' => e = .returned (.agg #[.string ⟨#[]⟩, .int .i64 s.size]) ∧ Ot (fun k => k = w1.heap.size) w2 w') := by
    refine (sgnext_any w2 hr2).mono ?_
    rintro e w' ⟨rfl, _, _, _, h⟩
    exact ⟨rfl, h⟩
  have HB2 : Hid (Below w.heap.size w w2) := (hb1.alloc hb1.size _).trans (ho2.below (by simp; have := hb1.size; omega) (fun k hk => by have := hb1.size; omega))
  have hqn : w.heap.size ≤ q ∧ w1.heap.size < q := by have := hb1.size; simp at hq; omega
  have hw1 := hb1.size
  clear hrd hsg hn hb1 hl2 hr2 hv2 ho2 HQ HRD
  go_wp2_with (first | (go_at_call 20; refine HNX.out.mono ?_; rintro e w3 ⟨rfl, ho3⟩) | (go_at_call 21; refine (end_any ([], s.size) _).mono ?_; rintro e w4 ⟨rfl, hb4⟩))
  go_ret2
  have hb3 : Below w.heap.size w2 w3 := ho3.below HB2.out.size (fun k hk => by omega)
  refine ⟨q, rfl, hqn.1, ((HL2.out.ot ho3 (by omega) (fun k hk => by simp [Value.ownBlock] at hk)).below (below_alloc_ (Below.refl _ _) _)).below hb4, (HB2.out.trans hb3).trans ?_⟩
  exact ((Below.refl _ _).alloc (HB2.out.trans hb3).size _).trans (hb4.mono (by simp; have := (HB2.out.trans hb3).size; omega))
end Go.Proofs.YtfakjedolecdcaaGreatDoor
namespace Go.Proofs.YtfakjedolecdcaaGreatDoor
open Go.RowKit Go.Extern.Stop Go.Stop Go.Extern

def noSp : FSp := ⟨([], 0), ([], 0), ([], 0), ([], 0), 0, 0⟩
/-- Fifos side by side. -/
def FQs (fs : List FSp) (bs : Nat → Nat) (i : Nat) : QM := FifoM (bs i) (fs.getD i noSp).P (fs.getD i noSp).R ((fs.getD i noSp).f.1 == headB)
theorem getD_sp {fs : List FSp} {i : Nat} (h : i < fs.length) : fs[i]? = some (fs.getD i noSp) := by
  rw [List.getD_eq_getElem?_getD, List.getElem?_eq_getElem h]; rfl
theorem FQs_small (fs : List FSp) (bs : Nat → Nat) {N : Nat} (hN : fs.length = N) (h1 : 1 ≤ N) (h8 : N ≤ 8) (hok : ∀ (i : Nat) (s : FSp), fs[i]? = some s → s.ok) : Small (FQs fs bs) N where
  fine := fun i hi => by
    have h := hok i _ (getD_sp (by omega))
    exact fifoM_fine _ _ _ _ h.hP.1 h.hR.1 h.hR.2
  mono := by
    intro i _ t t' n n' s h _ hn
    exact ⟨Nat.le_trans h.1 hn, h.2⟩
  len := by
    intro i _ t n s h hn
    have hf := fit_of (n := n) h (by omega)
    have h2 := Fit.sum hf.2
    have h3 := h.1
    have e1 : (FQs fs bs i).len s = (List.length (α := Hd) s : Int) := rfl
    have e2 : (FQs fs bs i).bytes s = sumL s := rfl
    rw [e1, e2]
    omega
  few := by
    intro i _ t n s now _ _
    exact Nat.zero_le _
  one := h1
  eight := h8
/-- What bands of Fifos by their text are. -/
def BandT (w w' : World) (b n : Nat) (rest : List Value) (v : Value) (fs : List FSp) (N : Nat) (R : List (List UInt8 × Nat)) (e : Ending) : Prop :=
  ∃ B g goff gcap bs v', e = .returned (.tuple #[.iface 137 (.pointer (some ⟨B, 0, none⟩)), .nilIface]) ∧ BAt (FQs fs bs) N B g goff gcap w' (fun i k => k = bs i) (fun _ => ([] : List Hd)) ∧ (∀ k, foot N B g (fun i k => k = bs i) k → w.heap.size ≤ k) ∧ RdAt w' b 65 n rest v' R ∧ v'.ownBlock = v.ownBlock ∧ Ot (fun k => k = b) w w'
theorem BqR.at {w w1 w2 : World} {b : Nat} {fs : List FSp} {N B g goff gcap : Nat} {vv : Value} {bs : Nat → Nat} (h : BqR w b fs N vv bs w1) (hN : fs.length = N) (hb : Below w1.heap.size w1 w2) (hblk : w2.heap[B]? = some (.cells #[.slice (some ⟨g, goff, none⟩) N gcap] 176 (0, 0))) (hrow : QRowAt w2 g goff N (ptrsF bs)) (hg : w1.heap.size ≤ g) (hgB : g < B) :
    BAt (FQs fs bs) N B g goff gcap w2 (fun i k => k = bs i) (fun _ => ([] : List Hd)) := by
  refine ⟨hblk, hrow, by have := lt_of_block hblk; omega, fun i hi => ?_, fun i j k hi hj e1 e2 => h.dis i j hi hj (e1.symm.trans e2), fun i hi => ?_⟩
  · exact ⟨.slice none 0 0, (h.each i _ (getD_sp (by omega)) hi).below hb, fun k => by simp [Value.ownBlock]⟩
  · have := (h.new i hi).2.2
    omega
set_option maxHeartbeats 2000000 in
theorem bands_yes {b n : Nat} {tv : Value} {k ar : Int} {v : Value} {o : List UInt8 × Nat} {fs : List FSp} {N : Nat} {R : List (List UInt8 × Nat)} (f : List UInt8 × Nat) (w : World) (h : RdAt w b 65 n [tv, .int .i64 k] v (o :: (bsigns fs ++ R))) (hB : ∀ w', Ot (fun k => k = b) w w' → Glob w') (ho : (o.1 == [40]) = true) (hN : fs.length = N) (hN1 : 1 ≤ N) (hN8 : N ≤ 8) (hk : 0 ≤ k ∧ k + N ≤ 20) (ha : 0 ≤ ar ∧ ar ≤ 7) (hok : ∀ i s, fs[i]? = some s → s.ok ∧ (s.sep.1 == [41]) = decide (i + 1 = N) ∧ (s.sep.1 == [44]) = decide (i + 1 < N)) :
    Calls Tryz.prog 37 #[.pointer (some ⟨b, 0, none⟩), .agg #[.string ⟨f.1.toArray⟩, .int .i64 f.2], .int .i64 ar] w fun e w' => BandT w w' b n [tv, .int .i64 (k + N)] v fs N R e := by
  have hb := h.lt
  have HQS : Hid (∀ w1, Below w.heap.size w w1 → Calls Tryz.prog 53 #[.pointer (some ⟨b, 0, none⟩), .int .i64 ar] w1 fun e w' => ∃ vv bs v', e = .returned (.tuple #[vv, .nilIface]) ∧ BqR w1 b fs N vv bs w' ∧ RdAt w' b 65 n [tv, .int .i64 (k + N)] v' R ∧ v'.ownBlock = v.ownBlock) := fun w1 h1 => queues_yes w1 (h.below h1) (fun w' h' => hB w' ((Ot.of_below h1).trans h')) ho hN hN1 hN8 hk ha hok
  have HN : Hid (fs.length = N) := hN
  clear h hB ho hok hN
  go_enter Tryz.func37, Tryz.ntmps37
  go_wp2_with (first
    | (go_at_call 53; refine (HQS.out _ ?_).mono ?_; exact below_alloc_ (Below.refl _ _) _; rintro e w1 ⟨vv, bs, v1, rfl, hq1, hr1, hv1⟩; have hws1 := hq1.ot.size; have hbx : w1.heap[w.heap.size]? = some (.cells #[.string ⟨f.1.toArray⟩, .int .i64 f.2] 60 (0, 0)) := (hq1.ot.block w.heap.size (by simp) (by omega)).trans (new_block _ _); have HBX : Hid (w1.heap[w.heap.size]? = some (.cells #[.string ⟨f.1.toArray⟩, .int .i64 f.2] 60 (0, 0))) := hbx; obtain ⟨g1, go1, gc1, rfl, _, _, hgl1, hgc1⟩ := hq1.row.some (by omega); have HRW : Hid (QRowAt w1 g1 go1 N (ptrsF bs)) := (fun i hi => hgc1 i _ (qcells_get hi)); have HQ1 : Hid (BqR (w.alloc (.cells #[.string ⟨f.1.toArray⟩, .int .i64 f.2] 60)) b fs N (.slice (some ⟨g1, go1, none⟩) N gc1) bs w1) := hq1; have HR1 : Hid (RdAt w1 b 65 n [tv, .int .i64 (k + N)] v1 R) := hr1; have HV1 : Hid (v1.ownBlock = v.ownBlock) := hv1; clear hbx hq1 hr1 hv1 hgc1)
    | (go_at_call 54; refine (newBands_yes w1 HRW.out hN1 hN8 hgl1).mono ?_; rintro e w2 ⟨B, g, goff, gcap, rfl, hblk, hrow, hg2, hgB, hb2⟩; have HBA : Hid (BAt (FQs fs bs) N B g goff gcap w2 (fun i k => k = bs i) (fun _ => ([] : List Hd))) := HQ1.out.at HN.out hb2 hblk hrow hg2 hgB; have HB2 : Hid (Below w1.heap.size w1 w2) := hb2; have hws2 := hb2.size; have hbx2 : w2.heap[w.heap.size]? = some (.cells #[.string ⟨f.1.toArray⟩, .int .i64 f.2] 60 (0, 0)) := (hb2.block w.heap.size (by simp at hws1; omega)).trans HBX.out; have b0 : w2.cell? ⟨w.heap.size, 0, none⟩ = some (.string ⟨f.1.toArray⟩) := (by simp [World.cell?, hbx2]); have b1 : w2.cell? ⟨w.heap.size, 1, none⟩ = some (.int .i64 f.2) := (by simp [World.cell?, hbx2]); have hbl2 := lt_of_block hbx2; clear hblk hrow hb2 hbx2)
    | (go_at_call 46; refine (made_yes f _ _).mono ?_; rintro e w3 ⟨rfl, hb3⟩))
  go_ret2
  refine ⟨B, g, goff, gcap, bs, v1, rfl, ?_, ?_, (HR1.out.below HB2.out).below hb3, HV1.out, ?_⟩
  · refine ⟨(hb3.block B (lt_of_block HBA.out.blk)).trans HBA.out.blk, fun i hi => ?_, by have := HBA.out.obl; have := hb3.size; omega, fun i hi => ?_, HBA.out.dis, HBA.out.nB⟩
    · rw [hb3.cell (p := ⟨g, goff + i, none⟩) HBA.out.obl]
      exact HBA.out.row i hi
    · exact ⟨.slice none 0 0, (((HQ1.out.each i _ (getD_sp (by have := HN.out; omega)) hi).below HB2.out).below hb3), fun k => by simp [Value.ownBlock]⟩
  · rintro k (rfl | rfl | ⟨i, hi, rfl⟩)
    · simp at hws1; omega
    · simp at hws1; omega
    · have := (HQ1.out.new i hi).1
      simp at this; omega
  · exact ((((Ot.refl _ _).alloc _).trans HQ1.out.ot).trans (Ot.of_below HB2.out)).trans (Ot.of_below hb3)
end Go.Proofs.YtfakjedolecdcaaGreatDoor
