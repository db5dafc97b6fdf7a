/-
  package plant: queues of any kind in parentheses are read, or an error. Conditions: the reader of one queue leaves an error, or some queue (a premise); signs are not too long, and none is the word of rounds.
  item.Check, item.Speed, item.Takes, item.placed: what each returns at every argument, and that nothing that was there before is otherwise. Conditions: integers are of 64 bits; placed: errors.errorType holds its handle.
  item.List: of any packets the error, and its place, that the document tells: more than 100; the first that may not be; the first that is out of order; nothing that was there before is otherwise. Conditions: errors.errorType holds its handle; the packets lie in memory.
-/
import Derived.Test.YtfakjedolecdcaaGreatDoorU20
import Derived.Test.YtfakjedolecdcaaGreatDoorU6
import Derived.Test.YtfakjedolecdcaaGreatDoorU0
import Derived.Test.YtfakjedolecdcaaGreatDoorU1
namespace Go.Proofs.YtfakjedolecdcaaGreatDoor
open Go.RowKit Go.Extern.Stop Go.Stop Go.Extern
variable {E : Prop}

/-- What is so of the world, whatever is done with the reader. -/
def EnvB (b : Nat) (px : Option Addr) (m : Nat) (fn : Nat → Int) (w : World) : Prop := ∀ w', Ot (fun k => k = b) w w' → Glob w' ∧ Laid w' ∧ IRow w' px m fn
theorem EnvB.ot {b : Nat} {px : Option Addr} {m : Nat} {fn : Nat → Int} {w w1 : World} (h : EnvB b px m fn w) (ho : Ot (fun k => k = b) w w1) : EnvB b px m fn w1 := fun w' h' => h w' (ho.trans h')
def shapeB : List UInt8 := [115, 104, 97, 112, 101]
def LsOk (E : Prop) (L : List (List UInt8 × Nat)) : Prop := ∀ x ∈ L, x.1.length ≤ 2000 ∧ x.1 ≠ roundsB ∧ (E → x.1 ≠ shapeB)
theorem LsOk.sub {L L' : List (List UInt8 × Nat)} (h : LsOk E L) (hs : ∀ y ∈ L', y ∈ L) : LsOk E L' := fun x hx => h x (hs x hx)
/-- What the reader of a queue leaves, where k have begun ahead of it: an error, or some queue of m, that have begun, too. -/
def QkB (E : Prop) (w w' : World) (b n : Nat) (tv : Value) (k : Nat) (v : Value) (L : List (List UInt8 × Nat)) (e : Ending) : Prop := ∃ (m : Nat) (L' : List (List UInt8 × Nat)) (v' : Value), Qk E m w w' e ∧ 1 ≤ m ∧ (k + m ≤ 20 ∨ ∃ B, e = .returned (.tuple #[.nilIface, errV B])) ∧ RdAt w' b 65 n [tv, .int .i64 ((k + m : Nat) : Int)] v' L' ∧ v'.ownBlock = v.ownBlock ∧ (∀ y ∈ L', y ∈ L) ∧ Ot (fun k => k = b) w w'
def QueueC (E : Prop) (b n : Nat) (px : Option Addr) (m pcap : Nat) (fn : Nat → Int) (ar : Int) : Prop := ∀ (k : Nat) (v : Value) (L : List (List UInt8 × Nat)) (w : World), RdAt w b 65 n [.slice px m pcap, .int .i64 (k : Int)] v L → EnvB b px m fn w → LsOk E L → k ≤ 20 → Calls Tryz.prog 19 #[.pointer (some ⟨b, 0, none⟩), .int .i64 ar] w fun e w' => QkB E w w' b n (.slice px m pcap) k v L e
/-- What the reader of queues in parentheses leaves. -/
def QsB (E : Prop) (w w' : World) (b n : Nat) (tv : Value) (k : Nat) (v : Value) (L : List (List UInt8 × Nat)) (vv ev : Value) : Prop := ∃ (k1 : Nat) (L' : List (List UInt8 × Nat)) (v' : Value), RdAt w' b 65 n [tv, .int .i64 (k1 : Int)] v' L' ∧ v'.ownBlock = v.ownBlock ∧ (∀ y ∈ L', y ∈ L) ∧ Ot (fun k => k = b) w w' ∧ k + 1 ≤ k1 ∧ ((∃ B, vv = .slice none 0 0 ∧ ev = errV B) ∨ (ev = .nilIface ∧ ∃ qs, GqR E w b qs vv w' ∧ k1 = k + 1 + aqK qs ∧ k1 ≤ 20 ∧ 1 ≤ qs.length))
/-- Queues of which so many are read, and a reader. -/
structure GqL (E : Prop) (w : World) (b n : Nat) (tv : Value) (k : Nat) (v : Value) (L : List (List UInt8 × Nat)) (qs : List AQ) (vv v' : Value) (L' : List (List UInt8 × Nat)) (wr : World) : Prop where
  all : GqR E w b qs vv wr
  rd : RdAt wr b 65 n [tv, .int .i64 ((k + 1 + aqK qs : Nat) : Int)] v' L'
  ow : v'.ownBlock = v.ownBlock
  sub : ∀ y ∈ L', y ∈ L
  few : k + 1 + aqK qs ≤ 20
set_option maxRecDepth 20000 in
set_option maxHeartbeats 4000000 in
theorem queues_gen {b n : Nat} {px : Option Addr} {m pcap : Nat} {fn : Nat → Int} {ar : Int} {k : Nat} {v : Value} {L : List (List UInt8 × Nat)} (w : World) (hQ : QueueC E b n px m pcap fn ar) (h : RdAt w b 65 n [.slice px m pcap, .int .i64 ((k + 1 : Nat) : Int)] v L) (hE : EnvB b px m fn w) (hL : LsOk E L) (hk : k + 1 ≤ 20) :
    Calls Tryz.prog 53 #[.pointer (some ⟨b, 0, none⟩), .int .i64 ar] w fun e w' => ∃ vv ev, e = .returned (.tuple #[vv, ev]) ∧ QsB E w w' b n (.slice px m pcap) k v L vv ev := by
  have HOP : Hid (Calls Tryz.prog 66 #[.pointer (some ⟨b, 0, none⟩)] w fun e w' => ∃ ev, e = .returned ev ∧ RdL w w' b n [.slice px m pcap, .int .i64 ((k + 1 : Nat) : Int)] v L L.tail ∧ (ev = .nilIface ∨ ∃ B, ev = errV B)) := opens_gen w h
  have hb := h.lt
  have HVL : Hid (∀ j, v.ownBlock = some j → j < w.heap.size) := fun j hj => by have h := h.row.lt hj; exact h
  have HQ : Hid (QueueC E b n px m pcap fn ar) := hQ
  have HE : Hid (EnvB b px m fn w) := hE
  have HLS : Hid (LsOk E L) := hL
  have HKK : Hid (k + 1 ≤ 20) := hk
  obtain ⟨i0, hi, hz0, hz1, hz2⟩ := info_parts infoQueueP
  obtain ⟨tv, htv⟩ : ∃ tv, Value.slice px m pcap = tv := ⟨_, rfl⟩
  rw [htv] at HOP ⊢
  have HTV : Hid (Value.slice px m pcap = tv) := htv
  clear h hE hL hQ hk htv
  go_enter Tryz.func53, Tryz.ntmps53
  go_wp2_with fail
  refine HOP.out.mono ?_
  rintro e w1 ⟨ev, rfl, hr1, hev⟩
  rcases hev with rfl | ⟨B, rfl⟩
  rotate_left
  · unfold errV
    go_wp2
    (try simp only [Exit.inBlock, Exit.then])
    go_ret2
    obtain ⟨v1, h1, h2, h3, h4⟩ := hr1
    exact ⟨_, _, rfl, k + 1, L.tail, v1, h1, h2, h3, h4, Nat.le_refl _, Or.inl ⟨B, rfl, rfl⟩⟩
  have HR1 : Hid (RdL w w1 b n [tv, .int .i64 ((k + 1 : Nat) : Int)] v L L.tail) := hr1
  clear hr1
  go_wp2
  go_loopw [7] (fun vv wr => ∃ (qs : List AQ) (v' : Value) (L' : List (List UInt8 × Nat)), GqL E w b n tv k v L qs vv v' L' wr) (fun vv _ => 21 - lenV vv)
  case atStart =>
    obtain ⟨v1, h1, h2, h3, h4⟩ := HR1.out
    exact ⟨[], v1, L.tail, ⟨⟨Seg.nil _ _ _, fun q hq => by simp at hq, fun q hq => by simp at hq, fun q hq => by simp at hq, fun i i' q q' k hq => by simp at hq, fun g hg => by simp [Value.ownBlock] at hg, h4⟩, h1, h2, h3, HKK.out⟩⟩
  case round =>
    obtain ⟨qs, v', L', hgl⟩ := hrel
    have HGL : Hid (GqL E w b n tv k v L qs u7 v' L' wr) := hgl
    have hws := hgl.all.ot.size
    obtain ⟨j, hj⟩ : ∃ j, qs.length = j := ⟨_, rfl⟩
    have HJ : Hid (qs.length = j) := hj
    have hj20 : j ≤ 20 := by
      have h1 := aqK_ge (qs := qs) (fun q hq => (hgl.all.ok q hq).one)
      have h2 := hgl.few
      omega
    have HLV : Hid (lenV u7 = j) := by
      show _ = _
      rcases hgl.all.row.form with ⟨h, h0, _⟩ | ⟨_, _, _, h, _⟩ <;> rw [h] <;> simp [lenV] <;> omega
    have HCQ : Hid (Calls Tryz.prog 19 #[.pointer (some ⟨b, 0, none⟩), .int .i64 ar] wr fun e w' => QkB E wr w' b n tv (k + 1 + aqK qs) v' L' e) := by
      have h1 := hgl.rd
      rw [← HTV.out] at h1 ⊢
      exact HQ.out _ v' L' wr h1 (HE.out.ot hgl.all.ot) (HLS.out.sub hgl.sub) hgl.few
    have HSG : Hid (Seg wr 26 1 u7 j (qs.map aqC)) := by
      have := hgl.all.row
      rw [hj] at this
      exact this
    clear hgl hj
    go_wp2_with fail
    refine HCQ.out.mono ?_
    rintro e w2 ⟨m1, L2, v2, hqk, hm1, hk2, hr2, hv2, hin2, ho2⟩
    have HO2 : Hid (Ot (fun k => k = b) wr w2) := ho2
    have HR2 : Hid (RdAt w2 b 65 n [tv, .int .i64 ((k + 1 + aqK qs + m1 : Nat) : Int)] v2 L2) := hr2
    have HV2 : Hid (v2.ownBlock = v.ownBlock) := hv2.trans HGL.out.ow
    have HI2 : Hid (∀ y ∈ L2, y ∈ L) := fun y hy => HGL.out.sub y (hin2 y hy)
    have HM1 : Hid (1 ≤ m1) := hm1
    have HK2 : Hid (k + 1 + aqK qs + m1 ≤ 20 ∨ ∃ B, e = .returned (.tuple #[.nilIface, errV B])) := hk2
    clear ho2 hr2 hv2 hin2 hm1 hk2
    rcases hqk with ⟨B, rfl⟩ | ⟨M, cont, s0, F, rfl, hM, hK, hT, hinv, hc, hat, hF⟩
    · unfold errV
      clear HK2
      go_wp2
      (try simp only [Exit.inBlock, Exit.then])
      go_ret2
      exact ⟨_, _, rfl, _, L2, v2, HR2.out, HV2.out, HI2.out, HGL.out.all.ot.trans HO2.out, by have := HM1.out; omega, Or.inl ⟨B, rfl, rfl⟩⟩
    · have HK3 : Hid (k + 1 + aqK qs + m1 ≤ 20) := by
        rcases HK2.out with h | ⟨B, h⟩
        · exact h
        · simp [errV] at h
      have HOK : Hid (AQ.Ok ⟨M, cont, m1, s0, F⟩ E) := ⟨hM, hK, hT, hinv, hc, HM1.out⟩
      have HAT : Hid (M.At w2 F s0) := hat
      have HF : Hid (∀ k, F k → wr.heap.size ≤ k) := hF
      have HS2 : Hid (Seg w2 26 1 u7 j (qs.map aqC)) := HSG.out.oth HO2.out (fun g hg e => by have := HGL.out.all.own g hg; omega)
      obtain ⟨x, hx⟩ : ∃ x, L2.headD (endS n) = x := ⟨_, rfl⟩
      have HNX : Hid (∀ w3 v3, v3 = v2 → RdAt w3 b 65 n [tv, .int .i64 ((k + 1 + aqK qs + m1 : Nat) : Int)] v3 L2 → Calls Tryz.prog 20 #[.pointer (some ⟨b, 0, none⟩)] w3 fun e w' => e = .returned (.agg #[.string ⟨x.1.toArray⟩, .int .i64 x.2]) ∧ ∃ v4, RdAt w' b 65 n [tv, .int .i64 ((k + 1 + aqK qs + m1 : Nat) : Int)] v4 L2.tail ∧ v4.ownBlock = v.ownBlock ∧ Ot (fun k => k = b) w3 w') := by
        rintro w3 v3 rfl hr
        refine (sgnext_any w3 hr).mono ?_
        rw [hx]
        rintro e w' ⟨rfl, v4, h1, h2, h3⟩
        exact ⟨rfl, v4, h1, h2.trans HV2.out, h3⟩
      have HIT : Hid (∀ y ∈ L2.tail, y ∈ L) := fun y hy => HI2.out y (List.mem_of_mem_tail hy)
      have HKQ : Hid (k + 1 + aqK (qs ++ [⟨M, cont, m1, s0, F⟩]) = k + 1 + aqK qs + m1) := by
        show _ = _
        rw [aqK_snoc]; show _ + (_ + m1) = _; omega
      clear hM hK hT hinv hc hat hF hx HK2 HCQ HSG
      cases o1 : (x.1 == [41]) with
      | true =>
        go_wp2_with (first | (at_builtin; refine wpList_append_seg _ rfl (.tmp 25) (.tmp 27) 134 rfl 26 i0 _ 1 16 Tryz.underlying134 hi hz0 hz1 hz2 rfl (by decide) _ _ _ rfl (HS2.out.below (by repeat' (first | with_reducible exact Below.refl _ _ | with_reducible refine Below.drew ?_ | with_reducible refine below_alloc_ ?_ _))) _ 1 1 _ rfl rfl (news_of (new_block_ (by simp))) (by simp [Value.oneCell']) (by decide) (by unfold maxLen; omega) (by omega) _ rfl ?_; intro g goff gcap w3 hs3 hg3 ha3 hl3; have HB3 : Hid (GqR E w b (qs ++ [⟨M, cont, m1, s0, F⟩]) (.slice (some ⟨g, goff, none⟩) (j + 1) gcap) w3) := (by have hh := HGL.out.all.step hb (q := ⟨M, cont, m1, s0, F⟩) HOK.out HAT.out HF.out HO2.out (by rw [HJ.out]; exact hs3) hg3 ha3; rw [HJ.out] at hh; exact hh); have HR3 : Hid (RdAt w3 b 65 n [tv, .int .i64 ((k + 1 + aqK qs + m1 : Nat) : Int)] v2 L2) := (HR2.out.below (below_alloc_ (Below.refl _ _) _)).kept (hg3.block b (by simp; have := HR2.out.lt; omega) (fun e => by have := HGL.out.all.own b e.symm; omega)) (fun i hi => hg3.block i (by simp; have := HR2.out.row.lt hi; omega) (fun e => by have h1 := HGL.out.all.own i e.symm; rw [HV2.out] at hi; have h2 := HVL.out i hi; omega)); clear hs3 hg3 ha3) | (go_at_call 20; refine (HNX.out w3 v2 rfl HR3.out).mono ?_; rintro e w4 ⟨rfl, v4, hr4, hv4, ho4⟩; have HB4 : Hid (GqR E w b (qs ++ [⟨M, cont, m1, s0, F⟩]) (.slice (some ⟨g, goff, none⟩) (j + 1) gcap) w4) := HB3.out.ots hb ho4; have HR4 : Hid (RdAt w4 b 65 n [tv, .int .i64 ((k + 1 + aqK qs + m1 : Nat) : Int)] v4 L2.tail) := hr4; have HV4 : Hid (v4.ownBlock = v.ownBlock) := hv4; clear hr4 hv4 ho4))
        (try simp only [Exit.inBlock, Exit.then])
        go_ret2
        have hr := HR4.out.below (below_alloc_ (Below.refl _ _) (.cells #[.string ⟨x.1.toArray⟩, .int .i64 x.2] 60))
        have hbq := HB4.out.ots hb ((Ot.refl _ _).alloc (.cells #[.string ⟨x.1.toArray⟩, .int .i64 x.2] 60))
        exact ⟨_, _, rfl, _, L2.tail, v4, hr, HV4.out, HIT.out, hbq.ot, by omega, Or.inr ⟨rfl, qs ++ [⟨M, cont, m1, s0, F⟩], hbq, HKQ.out.symm, HK3.out, by simp⟩⟩
      | false =>
        cases o2 : (x.1 == [44]) with
        | true =>
          go_wp2_with (first | (at_builtin; refine wpList_append_seg _ rfl (.tmp 25) (.tmp 27) 134 rfl 26 i0 _ 1 16 Tryz.underlying134 hi hz0 hz1 hz2 rfl (by decide) _ _ _ rfl (HS2.out.below (by repeat' (first | with_reducible exact Below.refl _ _ | with_reducible refine Below.drew ?_ | with_reducible refine below_alloc_ ?_ _))) _ 1 1 _ rfl rfl (news_of (new_block_ (by simp))) (by simp [Value.oneCell']) (by decide) (by unfold maxLen; omega) (by omega) _ rfl ?_; intro g goff gcap w3 hs3 hg3 ha3 hl3; have HB3 : Hid (GqR E w b (qs ++ [⟨M, cont, m1, s0, F⟩]) (.slice (some ⟨g, goff, none⟩) (j + 1) gcap) w3) := (by have hh := HGL.out.all.step hb (q := ⟨M, cont, m1, s0, F⟩) HOK.out HAT.out HF.out HO2.out (by rw [HJ.out]; exact hs3) hg3 ha3; rw [HJ.out] at hh; exact hh); have HR3 : Hid (RdAt w3 b 65 n [tv, .int .i64 ((k + 1 + aqK qs + m1 : Nat) : Int)] v2 L2) := (HR2.out.below (below_alloc_ (Below.refl _ _) _)).kept (hg3.block b (by simp; have := HR2.out.lt; omega) (fun e => by have := HGL.out.all.own b e.symm; omega)) (fun i hi => hg3.block i (by simp; have := HR2.out.row.lt hi; omega) (fun e => by have h1 := HGL.out.all.own i e.symm; rw [HV2.out] at hi; have h2 := HVL.out i hi; omega)); clear hs3 hg3 ha3) | (go_at_call 20; refine (HNX.out w3 v2 rfl HR3.out).mono ?_; rintro e w4 ⟨rfl, v4, hr4, hv4, ho4⟩; have HB4 : Hid (GqR E w b (qs ++ [⟨M, cont, m1, s0, F⟩]) (.slice (some ⟨g, goff, none⟩) (j + 1) gcap) w4) := HB3.out.ots hb ho4; have HR4 : Hid (RdAt w4 b 65 n [tv, .int .i64 ((k + 1 + aqK qs + m1 : Nat) : Int)] v4 L2.tail) := hr4; have HV4 : Hid (v4.ownBlock = v.ownBlock) := hv4; clear hr4 hv4 ho4))
          go_roundw
          case rel =>
            refine ⟨qs ++ [⟨M, cont, m1, s0, F⟩], v4, L2.tail, ⟨HB4.out.ots hb ((Ot.refl _ _).alloc _), ?_, HV4.out, HIT.out, by rw [HKQ.out]; exact HK3.out⟩⟩
            rw [HKQ.out]
            exact HR4.out.below (below_alloc_ (Below.refl _ _) (.cells #[.string ⟨x.1.toArray⟩, .int .i64 x.2] 60))
          case measure =>
            show 21 - (j + 1) < 21 - lenV u7
            rw [HLV.out]; omega
        | false =>
          go_wp2_with (first | (at_builtin; refine wpList_append_seg _ rfl (.tmp 25) (.tmp 27) 134 rfl 26 i0 _ 1 16 Tryz.underlying134 hi hz0 hz1 hz2 rfl (by decide) _ _ _ rfl (HS2.out.below (by repeat' (first | with_reducible exact Below.refl _ _ | with_reducible refine Below.drew ?_ | with_reducible refine below_alloc_ ?_ _))) _ 1 1 _ rfl rfl (news_of (new_block_ (by simp))) (by simp [Value.oneCell']) (by decide) (by unfold maxLen; omega) (by omega) _ rfl ?_; intro g goff gcap w3 hs3 hg3 ha3 hl3; have HB3 : Hid (GqR E w b (qs ++ [⟨M, cont, m1, s0, F⟩]) (.slice (some ⟨g, goff, none⟩) (j + 1) gcap) w3) := (by have hh := HGL.out.all.step hb (q := ⟨M, cont, m1, s0, F⟩) HOK.out HAT.out HF.out HO2.out (by rw [HJ.out]; exact hs3) hg3 ha3; rw [HJ.out] at hh; exact hh); have HR3 : Hid (RdAt w3 b 65 n [tv, .int .i64 ((k + 1 + aqK qs + m1 : Nat) : Int)] v2 L2) := (HR2.out.below (below_alloc_ (Below.refl _ _) _)).kept (hg3.block b (by simp; have := HR2.out.lt; omega) (fun e => by have := HGL.out.all.own b e.symm; omega)) (fun i hi => hg3.block i (by simp; have := HR2.out.row.lt hi; omega) (fun e => by have h1 := HGL.out.all.own i e.symm; rw [HV2.out] at hi; have h2 := HVL.out i hi; omega)); clear hs3 hg3 ha3) | (go_at_call 20; refine (HNX.out w3 v2 rfl HR3.out).mono ?_; rintro e w4 ⟨rfl, v4, hr4, hv4, ho4⟩; have HB4 : Hid (GqR E w b (qs ++ [⟨M, cont, m1, s0, F⟩]) (.slice (some ⟨g, goff, none⟩) (j + 1) gcap) w4) := HB3.out.ots hb ho4; have HR4 : Hid (RdAt w4 b 65 n [tv, .int .i64 ((k + 1 + aqK qs + m1 : Nat) : Int)] v4 L2.tail) := hr4; have HV4 : Hid (v4.ownBlock = v.ownBlock) := hv4; clear hr4 hv4 ho4) | (go_at_call 22; refine (wrongS_any _ _ _ _).mono ?_; rintro e w5 ⟨B, rfl, hb5⟩))
          (try simp only [Exit.inBlock, Exit.then])
          go_ret2
          have hr := (HR4.out.below (below_alloc_ (Below.refl _ _) (.cells #[.string ⟨x.1.toArray⟩, .int .i64 x.2] 60))).below hb5
          exact ⟨_, _, rfl, _, L2.tail, v4, hr, HV4.out, HIT.out, ((HB4.out.ot.alloc (.cells #[.string ⟨x.1.toArray⟩, .int .i64 x.2] 60))).trans (Ot.of_below hb5), by omega, Or.inl ⟨B, rfl, rfl⟩⟩
end Go.Proofs.YtfakjedolecdcaaGreatDoor
namespace Go.Proofs.YtfakjedolecdcaaGreatDoor
open Go.RowKit Go.Extern.Stop Go.Stop Go.Extern

/-- A rate that may be. -/
def okRate (n t : Int) : Bool := wth n 1 1000000 && wth t 1 1000000

theorem speed_yes (n t : Int) (w : World) (h : okRate n t = true) :
    Calls Tryz.prog 28 #[.agg #[.int .i64 n, .int .i64 t]] w fun e w' => e = .returned .nilIface ∧ w' = w.alloc (.cells #[.int .i64 n, .int .i64 t] 37) := by
  simp only [okRate, Bool.and_eq_true] at h
  obtain ⟨h1, h2⟩ := h
  go_enter Tryz.func28, Tryz.ntmps28
  go_wp2_with (go_at_call 29; refine (within_any _ _ _ _).mono ?_; rintro e w' ⟨rfl, rfl⟩)
  go_ret
  exact ⟨rfl, rfl⟩
theorem speed_no (n t : Int) (w : World) (h : okRate n t = false) :
    Calls Tryz.prog 28 #[.agg #[.int .i64 n, .int .i64 t]] w fun e w' => e = .returned (.iface 57 (.int .i64 2)) ∧ w' = w.alloc (.cells #[.int .i64 n, .int .i64 t] 37) := by
  cases h1 : wth n 1 1000000 with
  | false =>
    clear h
    go_enter Tryz.func28, Tryz.ntmps28
    go_wp2_with (go_at_call 29; refine (within_any _ _ _ _).mono ?_; rintro e w' ⟨rfl, rfl⟩)
    go_ret
    exact ⟨rfl, rfl⟩
  | true =>
    cases h2 : wth t 1 1000000 with
    | false =>
      clear h
      go_enter Tryz.func28, Tryz.ntmps28
      go_wp2_with (go_at_call 29; refine (within_any _ _ _ _).mono ?_; rintro e w' ⟨rfl, rfl⟩)
      go_ret
      exact ⟨rfl, rfl⟩
    | true => simp [okRate, h1, h2] at h

set_option maxHeartbeats 1000000 in
theorem placed_errno (n p : Int) (w : World) (hL : Laid w) : Calls Tryz.prog 73 #[.iface 57 (.int .i64 n), .int .i64 p] w fun e w' =>
    ∃ a, e = .returned (.iface 97 (.pointer (some ⟨a, 0, none⟩))) ∧ w.heap.size ≤ a ∧ w'.cell? ⟨a, 0, none⟩ = some (.int .i64 n) ∧ w'.cell? ⟨a, 0 + 1, none⟩ = some (.int .i64 p) ∧ Below w.heap.size w w' := by
  go_enter Tryz.func73, Tryz.ntmps73
  go_wp2_with (go_at_call 63; refine (tell_errno n _ hL).mono ?_; rintro e w1 ⟨rfl, hb⟩)
  go_ret
  exact ⟨_, rfl, hb.size, by simp, by simp, hb.alloc hb.size _⟩
end Go.Proofs.YtfakjedolecdcaaGreatDoor
namespace Go.Proofs.YtfakjedolecdcaaGreatDoor
open Go.RowKit Go.Extern.Stop Go.Stop Go.Extern

/-- What is wrong with packet i behind those ahead (0: nothing). -/
def faultAt (xs : List It) (i : Nat) : Int :=
  match xs[i]? with
  | none => 0
  | some x => if x.ok = false then 2 else if i = 0 then 0 else match xs[i - 1]? with
    | none => 0
    | some y => if x.a < y.a then 10 else 0
def firstBad (xs : List It) : Option Nat := (List.range xs.length).find? fun i => faultAt xs i != 0
/-- The error of a list, and its place. -/
def listE (xs : List It) : Int × Int := if 100 < xs.length then (4, -1) else match firstBad xs with | none => (0, -1) | some i => (faultAt xs i, i)

theorem faultAt_val (xs : List It) (i : Nat) : faultAt xs i = 0 ∨ faultAt xs i = 2 ∨ faultAt xs i = 10 := by
  unfold faultAt
  repeat' split
  all_goals simp
theorem firstBad_none {xs : List It} (h : ∀ j, j < xs.length → faultAt xs j = 0) : firstBad xs = none := by
  unfold firstBad; simp; exact h
theorem firstBad_some {xs : List It} {i : Nat} (hi : i < xs.length) (h : ∀ j, j < i → faultAt xs j = 0) (hb : faultAt xs i ≠ 0) : firstBad xs = some i := by
  unfold firstBad
  rw [List.find?_range_eq_some]
  exact ⟨by simpa using hb, by simpa using hi, fun j hj => by simpa using h j hj⟩
theorem listE_long {xs : List It} (h : 100 < xs.length) : listE xs = (4, -1) := by simp [listE, h]
theorem listE_fine {xs : List It} (h : ¬ 100 < xs.length) (hb : ∀ j, j < xs.length → faultAt xs j = 0) : listE xs = (0, -1) := by simp [listE, h, firstBad_none hb]
theorem listE_bad {xs : List It} {i : Nat} (h : ¬ 100 < xs.length) (hi : i < xs.length) (hj : ∀ j, j < i → faultAt xs j = 0) (hb : faultAt xs i ≠ 0) : listE xs = (faultAt xs i, (i : Int)) := by
  simp [listE, h, firstBad_some hi hj hb]
theorem fault_range {xs : List It} {i : Nat} {x : It} (hx : xs[i]? = some x) (h : x.ok = false) : faultAt xs i = 2 := by simp [faultAt, hx, h]
theorem fault_first {xs : List It} {x : It} (hx : xs[0]? = some x) (h : x.ok = true) : faultAt xs 0 = 0 := by simp [faultAt, hx, h]
theorem fault_order {xs : List It} {i : Nat} {x y : It} (hx : xs[i + 1]? = some x) (hy : xs[i]? = some y) (h : x.ok = true) (ho : x.a < y.a) : faultAt xs (i + 1) = 10 := by simp [faultAt, hx, hy, h, ho]
theorem fault_none {xs : List It} {i : Nat} {x y : It} (hx : xs[i + 1]? = some x) (hy : xs[i]? = some y) (h : x.ok = true) (ho : ¬ x.a < y.a) : faultAt xs (i + 1) = 0 := by simp [faultAt, hx, hy, h, ho]

/-- An error value, its number and its place. -/
def ErrIs (w : World) (v : Value) (E P : Int) : Prop :=
  (v = .nilIface ∧ E = 0 ∧ P = -1) ∨ (v = .iface 57 (.int .i64 E) ∧ E ≠ 0 ∧ P = -1) ∨
  ∃ a, v = .iface 97 (.pointer (some ⟨a, 0, none⟩)) ∧ w.cell? ⟨a, 0, none⟩ = some (.int .i64 E) ∧ w.cell? ⟨a, 0 + 1, none⟩ = some (.int .i64 P) ∧ E ≠ 0 ∧ 0 ≤ P

theorem ErrIs.below {w w' : World} {v : Value} {E P : Int} (h : ErrIs w v E P) (hb : Below w.heap.size w w') : ErrIs w' v E P := by
  rcases h with h | h | ⟨a, h1, h2, h3, h4⟩
  · exact Or.inl h
  · exact Or.inr (Or.inl h)
  · exact Or.inr (Or.inr ⟨a, h1, by rw [hb.cell (lt_of_cell h2)]; exact h2, by rw [hb.cell (lt_of_cell h3)]; exact h3, h4⟩)

theorem tell_any {v : Value} {E P : Int} (w : World) (h : ErrIs w v E P) (hL : Laid w) : Calls Tryz.prog 63 #[v] w fun e w' => e = .returned (.int .i64 E) ∧ Below w.heap.size w w' := by
  rcases h with ⟨rfl, rfl, _⟩ | ⟨rfl, _⟩ | ⟨a, rfl, h2, _⟩
  · exact (tell_nil w).mono (by rintro e w' ⟨rfl, rfl⟩; exact ⟨rfl, Below.refl _ _⟩)
  · exact tell_errno E w hL
  · exact tell_at a 0 E w h2 hL

/-- Packets lie in memory, one behind the other. -/
def Items (w : World) (b off : Nat) (xs : List It) : Prop := ∀ i x, xs[i]? = some x →
  w.cell? ⟨b, off + i * 5, none⟩ = some (.int .i64 x.a) ∧ w.cell? ⟨b, off + i * 5 + 1, none⟩ = some (.int .i64 x.l) ∧ w.cell? ⟨b, off + i * 5 + 2, none⟩ = some (.int .i64 x.f) ∧ w.cell? ⟨b, off + i * 5 + 3, none⟩ = some (.int .i64 x.b) ∧ w.cell? ⟨b, off + i * 5 + 4, none⟩ = some (.int .i64 x.m)

theorem Items.below {w w' : World} {b off : Nat} {xs : List It} (h : Items w b off xs) (hb : Below w.heap.size w w') : Items w' b off xs := by
  intro i x hx
  obtain ⟨h1, h2, h3, h4, h5⟩ := h i x hx
  have hl := lt_of_cell h1
  refine ⟨?_, ?_, ?_, ?_, ?_⟩
  · rw [hb.cell hl]; exact h1
  · rw [hb.cell (lt_of_cell h2)]; exact h2
  · rw [hb.cell (lt_of_cell h3)]; exact h3
  · rw [hb.cell (lt_of_cell h4)]; exact h4
  · rw [hb.cell (lt_of_cell h5)]; exact h5

theorem list_nil (x : Option Addr) (cap : Nat) (w : World) : Calls Tryz.prog 55 #[.slice x 0 cap] w fun e w' => e = .returned .nilIface ∧ w' = w := by
  go_enter Tryz.func55, Tryz.ntmps55
  go_wp2
  refine wp_loop_rounds 1 ?_
  rw [rounds_succ]
  go_wp2
  go_ret
  exact ⟨rfl, rfl⟩

theorem list_long (x : Option Addr) (n cap : Nat) (w : World) (h : 100 < n) (hm : n ≤ maxLen) : Calls Tryz.prog 55 #[.slice x n cap] w fun e w' => e = .returned (.iface 57 (.int .i64 4)) ∧ w' = w := by
  unfold maxLen at hm
  go_enter Tryz.func55, Tryz.ntmps55
  go_wp2
  go_ret
  exact ⟨rfl, rfl⟩

set_option maxHeartbeats 2000000 in
theorem list_some (b off cap : Nat) (xs : List It) (w : World) (hL : Laid w) (hI : Items w b off xs) (h0 : 0 < xs.length) (h1 : xs.length ≤ 100) :
    Calls Tryz.prog 55 #[.slice (some ⟨b, off, none⟩) xs.length cap] w fun e w' => ∃ v, e = .returned v ∧ ErrIs w' v (listE xs).1 (listE xs).2 ∧ Below w.heap.size w w' := by
  have hnl : ¬ 100 < xs.length := by omega
  generalize hn : xs.length = n at *
  have HN : Hid (xs.length = n) := hn
  clear hn
  go_enter Tryz.func55, Tryz.ntmps55
  go_wp2
  go_loopw [12] (fun i wr => ∃ k : Nat, k ≤ n ∧ i = .int .i64 k ∧ (∀ j, j < k → faultAt xs j = 0) ∧ Below w.heap.size w wr) (fun i _ => n - (intOf i).toNat)
  case atStart => exact ⟨0, Nat.zero_le _, rfl, fun j hj => absurd hj (Nat.not_lt_zero j), Below.refl _ _⟩
  case round =>
    obtain ⟨k, hk, rfl, hz, hb⟩ := hrel
    have HZ : Hid (∀ j, j < k → faultAt xs j = 0) := hz
    clear hz
    by_cases hlt : k < n
    · obtain ⟨x, hx⟩ : ∃ x, xs[k]? = some x := ⟨_, List.getElem?_eq_getElem (by have := HN.out; omega)⟩
      have HX : Hid (xs[k]? = some x) := hx
      obtain ⟨c0, c1, c2, c3, c4⟩ := (hI.below hb) k x hx
      clear hx
      have hLr : Laid wr := hL.below hb
      have HI : Hid (Items wr b off xs) := hI.below hb
      have HI0 : Hid (Items w b off xs) := hI
      clear hI
      cases hok : x.ok with
      | false =>
        have HK : Hid (x.ok = false) := hok
        clear hok
        go_wp2_with (first | (go_at_call 38; refine (check_no _ _ _ _ _ _ HK.out).mono ?_; rintro e w1 ⟨rfl, rfl⟩) | (go_at_call 73; refine (placed_errno 2 _ _ ((hLr.alloc _).alloc _)).mono ?_; rintro e w1 ⟨a, rfl, ha, ha0, ha1, hb1⟩))
        go_ret
        have he := listE_bad (xs := xs) (i := k) (by rw [HN.out]; exact hnl) (by rw [HN.out]; exact hlt) HZ.out (by rw [fault_range HX.out HK.out]; decide)
        rw [fault_range HX.out HK.out] at he
        refine ⟨_, rfl, Or.inr (Or.inr ⟨a, rfl, by rw [he]; exact ha0, by rw [he]; exact ha1, by rw [he]; simp, by rw [he]; simp⟩), ?_⟩
        exact ((hb.alloc hb.size _).alloc (by simp; have := hb.size; omega) _).trans (hb1.mono (by simp; have := hb.size; omega))
      | true =>
        have HK : Hid (x.ok = true) := hok
        clear hok
        by_cases hk0 : k = 0
        · have hd : decide (0 < k) = false := by simp; omega
          have HK0 : Hid (k = 0) := hk0
          clear hk0
          go_wp2_with (go_at_call 38; refine (check_yes _ _ _ _ _ _ HK.out).mono ?_; rintro e w1 ⟨rfl, rfl⟩)
          go_quiet (fail)
          go_wp2
          go_roundw
          case rel =>
            refine ⟨k + 1, by omega, by go_num, ?_, below_drewN ((hb.alloc hb.size _).alloc (by simp; have := hb.size; omega) _) _⟩
            intro j hj
            obtain rfl : j = 0 := by have := HK0.out; omega
            exact fault_first (by have := HX.out; rw [HK0.out] at this; exact this) HK.out
          case measure => simp [intOf]; omega
        · obtain ⟨k1, hk1⟩ : ∃ k1, k = k1 + 1 := ⟨k - 1, by omega⟩
          have HK1 : Hid (k = k1 + 1) := hk1
          obtain ⟨y, hy⟩ : ∃ y, xs[k1]? = some y := ⟨_, List.getElem?_eq_getElem (by have := HN.out; omega)⟩
          have HY : Hid (xs[k1]? = some y) := hy
          obtain ⟨d0, _⟩ := HI.out k1 y hy
          have hbl : b < wr.heap.size := lt_of_cell d0
          have d1 : ((wr.alloc (.cells #[.int .i64 x.a, .int .i64 x.l, .int .i64 x.f, .int .i64 x.b, .int .i64 x.m] 46)).alloc (.cells #[.int .i64 x.a, .int .i64 x.l, .int .i64 x.f, .int .i64 x.b, .int .i64 x.m] 46)).cell? ⟨b, off + k1 * 5, none⟩ = some (.int .i64 y.a) := by
            rw [World.cell?_alloc_lt _ _ ⟨b, off + k1 * 5, none⟩ (by simp; omega), World.cell?_alloc_lt _ _ ⟨b, off + k1 * 5, none⟩ hbl]; exact d0
          have hd : decide (0 < k) = true := by simp; omega
          have hk2 : (k1 : Int) < (n : Int) := by omega
          have hwk : IntKind.i64.wrap ((k : Int) - 1) = (k1 : Int) := by
            rw [hk1, show (((k1 + 1 : Nat) : Int) - 1) = (k1 : Int) by omega]; rw [IntKind.wrap_i64]; omega
          clear hy hk1
          go_wp2_with (go_at_call 38; refine (check_yes _ _ _ _ _ _ HK.out).mono ?_; rintro e w1 ⟨rfl, rfl⟩)
          go_quiet (fail)
          by_cases ho : x.a < y.a
          · go_wp2_with (go_at_call 73; refine (placed_errno 10 _ _ (((hLr.alloc _).alloc _).below (below_drewN (Below.refl _ _) _))).mono ?_; rintro e w1 ⟨a, rfl, ha, ha0, ha1, hb1⟩)
            go_ret
            have hf : faultAt xs k = 10 := by rw [HK1.out]; exact fault_order (by rw [← HK1.out]; exact HX.out) HY.out HK.out ho
            have he := listE_bad (xs := xs) (i := k) (by rw [HN.out]; exact hnl) (by rw [HN.out]; exact hlt) HZ.out (by rw [hf]; decide)
            rw [hf] at he
            refine ⟨_, rfl, Or.inr (Or.inr ⟨a, rfl, by rw [he]; exact ha0, by rw [he]; exact ha1, by rw [he]; simp, by rw [he]; simp⟩), ?_⟩
            exact (below_drewN ((hb.alloc hb.size _).alloc (by simp; have := hb.size; omega) _) _).trans (hb1.mono (by simp; have := hb.size; omega))
          · go_wp2
            go_roundw
            case rel =>
              refine ⟨k + 1, by omega, by go_num, ?_, below_drewN ((hb.alloc hb.size _).alloc (by simp; have := hb.size; omega) _) _⟩
              intro j hj
              by_cases hjk : j < k
              · exact HZ.out j hjk
              · obtain rfl : j = k := by omega
                rw [HK1.out]; exact fault_none (by rw [← HK1.out]; exact HX.out) HY.out HK.out ho
            case measure => simp [intOf]; omega
    · go_wp2
      go_ret
      have hkn : k = n := by omega
      have he := listE_fine (xs := xs) (by rw [HN.out]; exact hnl) (by rw [HN.out, ← hkn]; exact HZ.out)
      exact ⟨_, rfl, Or.inl ⟨rfl, by rw [he], by rw [he]⟩, hb⟩
end Go.Proofs.YtfakjedolecdcaaGreatDoor
