/-
  plant.Parse, whatever the text: an error, or some queue, where its reader of a queue leaves either. Conditions: the text and the tape are not too long.
  package plant: which reader the first word of a queue calls; the errors of what is too deep, too many, or no such word. Conditions: none.
-/
import Derived.Test.YtfakjedolecdcaaGreatDoorU15
import Derived.Test.YtfakjedolecdcaaGreatDoorU6
import Derived.Test.YtfakjedolecdcaaGreatDoorU20
namespace Go.Proofs.YtfakjedolecdcaaGreatDoor
open Go.RowKit Go.Extern.Stop Go.Stop Go.Extern
variable {E : Prop}

/-- What the reader of a queue leaves: so many queues have begun by then. -/
def QkQ (E : Prop) (w w' : World) (b n : Nat) (tv : Value) (v : Value) (L : List (List UInt8 × Nat)) (e : Ending) : Prop := Qk E 20 w w' e ∧ ∃ k1 L', ∃ v', RdAt w' b 65 n [tv, .int .i64 k1] v' L' ∧ v'.ownBlock = v.ownBlock ∧ (∀ y ∈ L', y ∈ L) ∧ Ot (fun k => k = b) w w'
set_option maxRecDepth 20000 in
set_option maxHeartbeats 4000000 in
theorem parse_of (s : ByteArray) {px : Option Addr} {m pcap : Nat} (w : World) (hs : s.size ≤ 2000) (hm : m ≤ 1000)
    (hq : ∀ w1 b v, w.heap.size ≤ b → Below w.heap.size w w1 → RdAt w1 b 65 s.size [.slice px m pcap, .int .i64 0] v (signsL [32, 40, 41, 44] s.data.toList 0) → Calls Tryz.prog 19 #[.pointer (some ⟨b, 0, none⟩), .int .i64 0] w1 fun e w' => QkQ E w1 w' b s.size (.slice px m pcap) v (signsL [32, 40, 41, 44] s.data.toList 0) e) :
    Calls Tryz.prog 7 #[.string s, .slice px m pcap] w fun e w' => Qk E 20 w w' e ∧ Below w.heap.size w w' := by
  obtain ⟨L, hL⟩ : ∃ L, signsL [32, 40, 41, 44] s.data.toList 0 = L := ⟨_, rfl⟩
  rw [hL] at hq
  have HRD : Hid (Calls Tryz.prog 18 #[.string s, .string ⟨#[40, 41, 44]⟩] w fun e w' => ∃ rv, e = .returned (.agg #[rv, .string ⟨#[]⟩, .int .i64 s.size]) ∧ Seg w' 60 2 rv L.length (flt sgc L) ∧ (∀ b, rv.ownBlock = some b → w.heap.size ≤ b) ∧ Below w.heap.size w w') := by
    refine (read_any s ⟨#[40, 41, 44]⟩ w hs (by decide) (by decide) ?_).mono ?_
    · intro j b hj
      match j with
      | 0 => simp at hj; subst hj; decide
      | 1 => simp at hj; subst hj; decide
      | 2 => simp at hj; subst hj; decide
      | j + 3 => simp at hj
    · rintro e w' ⟨rv, rfl, hsg, hn, hb⟩
      rw [show (32 :: (⟨#[40, 41, 44]⟩ : ByteArray).data.toList) = [32, 40, 41, 44] from rfl, hL] at hsg
      exact ⟨rv, rfl, hsg, hn, hb⟩
  have HQ : Hid (∀ w1 b v, w.heap.size ≤ b → Below w.heap.size w w1 → RdAt w1 b 65 s.size [.slice px m pcap, .int .i64 0] v L → Calls Tryz.prog 19 #[.pointer (some ⟨b, 0, none⟩), .int .i64 0] w1 fun e w' => QkQ E w1 w' b s.size (.slice px m pcap) v L e) := hq
  have a1 : decide ((2000 : Int) < (s.size : Int)) = false := by simp; omega
  have a2 : decide ((1000 : Int) < (m : Int)) = false := by simp; omega
  clear hs hL hq hm
  go_enter Tryz.func7, Tryz.ntmps7
  go_wp2_with (go_at_call 18; refine HRD.out.mono ?_; rintro e w1 ⟨rv, rfl, hsg, hn, hb1⟩; obtain ⟨rx, rl, rcap, rfl⟩ : ∃ x l c, rv = .slice x l c := by rcases hsg.form with ⟨h, _⟩ | ⟨b, o, c, h, _⟩ <;> exact ⟨_, _, _, h⟩)
  have hrd : RdAt (w1.alloc (.cells #[.slice rx rl rcap, .string ⟨#[]⟩, .int .i64 s.size, .slice px m pcap, .int .i64 0] 65)) w1.heap.size 65 s.size [.slice px m pcap, .int .i64 0] (.slice rx rl rcap) L :=
    ⟨new_block _ _, hsg.alloc _, fun e => by have := hsg.lt e; omega⟩
  refine (HQ.out _ _ _ hb1.size (hb1.alloc hb1.size _) hrd).mono ?_
  rintro e w2 ⟨hqk, k1, L', v', hr2, hv2, hin2, ho2⟩
  have hbl := hr2.lt
  obtain ⟨x, hx⟩ : ∃ x, L'.headD (endS s.size) = x := ⟨_, rfl⟩
  have HNX : Hid (Calls Tryz.prog 20 #[.pointer (some ⟨w1.heap.size, 0, none⟩)] w2 fun e w' => e = .returned (.agg #[.string ⟨x.1.toArray⟩, .int .i64 x.2]) ∧ Ot (fun k => k = w1.heap.size) w2 w') := by
    refine (sgnext_any w2 hr2).mono ?_
    rw [hx]
    rintro e w' ⟨rfl, _, _, _, h⟩
    exact ⟨rfl, h⟩
  have HB2 : Hid (Below w.heap.size w w2) := (hb1.alloc hb1.size _).trans (ho2.below (by simp; have := hb1.size; omega) (fun k hk => by have := hb1.size; omega))
  have HQK : Hid (Qk E 20 (w1.alloc (.cells #[.slice rx rl rcap, .string ⟨#[]⟩, .int .i64 s.size, .slice px m pcap, .int .i64 0] 65)) w2 e) := hqk
  have hw1 := hb1.size
  have hw2 : w1.heap.size + 1 ≤ w2.heap.size := by have := ho2.size; simp at this; omega
  clear hrd hsg hn hb1 hr2 hv2 ho2 hin2 HQ HRD hx
  rcases hqk with ⟨B, rfl⟩ | ⟨M, cont, s0, F, rfl, -⟩
  · unfold errV
    clear HQK
    go_wp2
    (try simp only [Exit.inBlock, Exit.then])
    go_ret2
    exact ⟨Or.inl ⟨B, rfl⟩, HB2.out⟩
  · have HEN : Hid (∀ w3, Calls Tryz.prog 21 #[.agg #[.string ⟨x.1.toArray⟩, .int .i64 x.2]] w3 fun e w' => e = .returned (.bool (x.1 == [])) ∧ Below w3.heap.size w3 w') := fun w3 => end_any x w3
    cases hxe : (x.1 == []) with
    | true =>
      rw [hxe] at HEN
      go_wp2_with (first | (go_at_call 20; refine HNX.out.mono ?_; rintro e w3 ⟨rfl, ho3⟩) | (go_at_call 21; refine (HEN.out _).mono ?_; rintro e w4 ⟨rfl, hb4⟩))
      go_ret2
      have hb3 : Below w.heap.size w2 w3 := ho3.below HB2.out.size (fun k hk => by omega)
      have hq4 := (HQK.out.ot ho3 (fun k h1 _ hk => by simp at h1; omega)).ot (S := fun _ => False) (((Ot.refl _ _).alloc _).trans (Ot.of_below hb4)) (fun _ _ _ h => h)
      exact ⟨hq4.mono (by simp; omega), (HB2.out.trans hb3).trans (((Below.refl _ _).alloc (HB2.out.trans hb3).size _).trans (hb4.mono (by simp; have := (HB2.out.trans hb3).size; omega)))⟩
    | false =>
      rw [hxe] at HEN
      go_wp2_with (first | (go_at_call 20; refine HNX.out.mono ?_; rintro e w3 ⟨rfl, ho3⟩) | (go_at_call 21; refine (HEN.out _).mono ?_; rintro e w4 ⟨rfl, hb4⟩; have hx4 : w4.heap[w3.heap.size]? = some (.cells #[.string ⟨x.1.toArray⟩, .int .i64 x.2] 60 (0, 0)) := (hb4.block _ (by simp)).trans (new_block _ _); have x0 : w4.cell? ⟨w3.heap.size, 0, none⟩ = some (.string ⟨x.1.toArray⟩) := (by simp [World.cell?, hx4]); have x1 : w4.cell? ⟨w3.heap.size, 1, none⟩ = some (.int .i64 x.2) := (by simp [World.cell?, hx4]); clear hx4) | (go_at_call 22; refine (wrongS_any _ _ _ _).mono ?_; rintro e w5 ⟨B, rfl, hb5⟩))
      go_ret2
      have hb3 : Below w.heap.size w2 w3 := ho3.below HB2.out.size (fun k hk => by omega)
      have hb6 := (HB2.out.trans hb3).trans (((Below.refl _ _).alloc (HB2.out.trans hb3).size _).trans (hb4.mono (by simp; have := (HB2.out.trans hb3).size; omega)))
      exact ⟨Or.inl ⟨B, rfl⟩, hb6.trans (hb5.mono hb6.size)⟩
end Go.Proofs.YtfakjedolecdcaaGreatDoor
namespace Go.Proofs.YtfakjedolecdcaaGreatDoor
open Go.RowKit Go.Extern.Stop Go.Stop Go.Extern

set_option maxHeartbeats 4000000 in
theorem queue_to_fifo {b : Nat} {n : Nat} {tv : Value} {k ar : Int} {v : Value} {L : List (List UInt8 × Nat)} {P : Value → Value → World → Prop} (w : World) (h : RdAt w b 65 n [tv, .int .i64 k] v L) (hf : (L.headD (endS n)).1 = [102, 105, 102, 111]) (hk : 0 ≤ k ∧ k ≤ 19) (ha : 0 ≤ ar ∧ ar ≤ 7)
    (hP : ∀ w1 v2, Ot (fun k => k = b) w w1 → RdAt w1 b 65 n [tv, .int .i64 (k + 1)] v2 L.tail → v2.ownBlock = v.ownBlock → Calls Tryz.prog 31 #[.pointer (some ⟨b, 0, none⟩), .agg #[.string ⟨(L.headD (endS n)).1.toArray⟩, .int .i64 (L.headD (endS n)).2]] w1 fun e w' => ∃ a c, e = .returned (.tuple #[a, c]) ∧ P a c w') :
    Calls Tryz.prog 19 #[.pointer (some ⟨b, 0, none⟩), .int .i64 ar] w fun e w' => ∃ a c, e = .returned (.tuple #[a, c]) ∧ P a c w' := by
  obtain ⟨f, hx⟩ : ∃ f, L.headD (endS n) = f := ⟨_, rfl⟩
  have HNX : Hid (Calls Tryz.prog 20 #[.pointer (some ⟨b, 0, none⟩)] w fun e w' => e = .returned (.agg #[.string ⟨f.1.toArray⟩, .int .i64 f.2]) ∧ ∃ v2, RdAt w' b 65 n [tv, .int .i64 k] v2 L.tail ∧ v2.ownBlock = v.ownBlock ∧ Ot (fun k => k = b) w w') := by
    refine (sgnext_any w h).mono ?_
    rw [hx]
    rintro e w' ⟨rfl, v2, h1, h2, h3⟩
    exact ⟨rfl, v2, h1, h2, h3⟩
  rw [hx] at hf hP
  have HP : Hid (∀ w1 v2, Ot (fun k => k = b) w w1 → RdAt w1 b 65 n [tv, .int .i64 (k + 1)] v2 L.tail → v2.ownBlock = v.ownBlock → Calls Tryz.prog 31 #[.pointer (some ⟨b, 0, none⟩), .agg #[.string ⟨f.1.toArray⟩, .int .i64 f.2]] w1 fun e w' => ∃ a c, e = .returned (.tuple #[a, c]) ∧ P a c w') := hP
  have hb := h.lt
  have a1 : decide ((7 : Int) < ar) = false := by simp; omega
  have a2 : decide ((20 : Int) < k + 1) = false := by simp; omega
  have a3 : IntKind.i64.wrap (k + 1) = k + 1 := by rw [IntKind.wrap_i64]; omega
  have o0 : (f.1 == [102, 105, 102, 111]) = true := by rw [hf]; rfl
  clear h hf hP hk ha hx
  go_enter Tryz.func19, Tryz.ntmps19
  go_wp2_with (go_at_call 20; refine HNX.out.mono ?_; rintro e w1 ⟨rfl, v2, hr1, hv1, ho1⟩; have HR1 : Hid (RdAt w1 b 65 n [tv, .int .i64 k] v2 L.tail) := hr1; have HV1 : Hid (v2.ownBlock = v.ownBlock) := hv1; have HO1 : Hid (Ot (fun k => k = b) w w1) := ho1; obtain ⟨r4, f4⟩ := hr1.begun; have hl1 := hr1.lt; clear hr1 hv1 ho1)
  refine (HP.out _ v2 ((HO1.out.setCell (p := ⟨b, 4, none⟩) (Or.inl rfl) _).alloc _) ((HR1.out.begin_ (k + 1)).below (below_alloc_ (Below.refl _ _) _)) HV1.out).mono ?_
  rintro e w2 ⟨a, c, rfl, hr⟩
  go_wp2
  go_ret2
  exact ⟨a, c, rfl, hr⟩
set_option maxHeartbeats 4000000 in
theorem queue_to_head {b : Nat} {n : Nat} {tv : Value} {k ar : Int} {v : Value} {L : List (List UInt8 × Nat)} {P : Value → Value → World → Prop} (w : World) (h : RdAt w b 65 n [tv, .int .i64 k] v L) (hf : (L.headD (endS n)).1 = [104, 101, 97, 100]) (hk : 0 ≤ k ∧ k ≤ 19) (ha : 0 ≤ ar ∧ ar ≤ 7)
    (hP : ∀ w1 v2, Ot (fun k => k = b) w w1 → RdAt w1 b 65 n [tv, .int .i64 (k + 1)] v2 L.tail → v2.ownBlock = v.ownBlock → Calls Tryz.prog 31 #[.pointer (some ⟨b, 0, none⟩), .agg #[.string ⟨(L.headD (endS n)).1.toArray⟩, .int .i64 (L.headD (endS n)).2]] w1 fun e w' => ∃ a c, e = .returned (.tuple #[a, c]) ∧ P a c w') :
    Calls Tryz.prog 19 #[.pointer (some ⟨b, 0, none⟩), .int .i64 ar] w fun e w' => ∃ a c, e = .returned (.tuple #[a, c]) ∧ P a c w' := by
  obtain ⟨f, hx⟩ : ∃ f, L.headD (endS n) = f := ⟨_, rfl⟩
  have HNX : Hid (Calls Tryz.prog 20 #[.pointer (some ⟨b, 0, none⟩)] w fun e w' => e = .returned (.agg #[.string ⟨f.1.toArray⟩, .int .i64 f.2]) ∧ ∃ v2, RdAt w' b 65 n [tv, .int .i64 k] v2 L.tail ∧ v2.ownBlock = v.ownBlock ∧ Ot (fun k => k = b) w w') := by
    refine (sgnext_any w h).mono ?_
    rw [hx]
    rintro e w' ⟨rfl, v2, h1, h2, h3⟩
    exact ⟨rfl, v2, h1, h2, h3⟩
  rw [hx] at hf hP
  have HP : Hid (∀ w1 v2, Ot (fun k => k = b) w w1 → RdAt w1 b 65 n [tv, .int .i64 (k + 1)] v2 L.tail → v2.ownBlock = v.ownBlock → Calls Tryz.prog 31 #[.pointer (some ⟨b, 0, none⟩), .agg #[.string ⟨f.1.toArray⟩, .int .i64 f.2]] w1 fun e w' => ∃ a c, e = .returned (.tuple #[a, c]) ∧ P a c w') := hP
  have hb := h.lt
  have a1 : decide ((7 : Int) < ar) = false := by simp; omega
  have a2 : decide ((20 : Int) < k + 1) = false := by simp; omega
  have a3 : IntKind.i64.wrap (k + 1) = k + 1 := by rw [IntKind.wrap_i64]; omega
  have o0 : (f.1 == [102, 105, 102, 111]) = false := by rw [hf]; rfl
  have o1 : (f.1 == [104, 101, 97, 100]) = true := by rw [hf]; rfl
  clear h hf hP hk ha hx
  go_enter Tryz.func19, Tryz.ntmps19
  go_wp2_with (go_at_call 20; refine HNX.out.mono ?_; rintro e w1 ⟨rfl, v2, hr1, hv1, ho1⟩; have HR1 : Hid (RdAt w1 b 65 n [tv, .int .i64 k] v2 L.tail) := hr1; have HV1 : Hid (v2.ownBlock = v.ownBlock) := hv1; have HO1 : Hid (Ot (fun k => k = b) w w1) := ho1; obtain ⟨r4, f4⟩ := hr1.begun; have hl1 := hr1.lt; clear hr1 hv1 ho1)
  refine (HP.out _ v2 ((HO1.out.setCell (p := ⟨b, 4, none⟩) (Or.inl rfl) _).alloc _) ((HR1.out.begin_ (k + 1)).below (below_alloc_ (Below.refl _ _) _)) HV1.out).mono ?_
  rintro e w2 ⟨a, c, rfl, hr⟩
  go_wp2
  go_ret2
  exact ⟨a, c, rfl, hr⟩
set_option maxHeartbeats 4000000 in
theorem queue_to_red {b : Nat} {n : Nat} {tv : Value} {k ar : Int} {v : Value} {L : List (List UInt8 × Nat)} {P : Value → Value → World → Prop} (w : World) (h : RdAt w b 65 n [tv, .int .i64 k] v L) (hf : (L.headD (endS n)).1 = [114, 101, 100]) (hk : 0 ≤ k ∧ k ≤ 19) (ha : 0 ≤ ar ∧ ar ≤ 7)
    (hP : ∀ w1 v2, Ot (fun k => k = b) w w1 → RdAt w1 b 65 n [tv, .int .i64 (k + 1)] v2 L.tail → v2.ownBlock = v.ownBlock → Calls Tryz.prog 32 #[.pointer (some ⟨b, 0, none⟩), .agg #[.string ⟨(L.headD (endS n)).1.toArray⟩, .int .i64 (L.headD (endS n)).2]] w1 fun e w' => ∃ a c, e = .returned (.tuple #[a, c]) ∧ P a c w') :
    Calls Tryz.prog 19 #[.pointer (some ⟨b, 0, none⟩), .int .i64 ar] w fun e w' => ∃ a c, e = .returned (.tuple #[a, c]) ∧ P a c w' := by
  obtain ⟨f, hx⟩ : ∃ f, L.headD (endS n) = f := ⟨_, rfl⟩
  have HNX : Hid (Calls Tryz.prog 20 #[.pointer (some ⟨b, 0, none⟩)] w fun e w' => e = .returned (.agg #[.string ⟨f.1.toArray⟩, .int .i64 f.2]) ∧ ∃ v2, RdAt w' b 65 n [tv, .int .i64 k] v2 L.tail ∧ v2.ownBlock = v.ownBlock ∧ Ot (fun k => k = b) w w') := by
    refine (sgnext_any w h).mono ?_
    rw [hx]
    rintro e w' ⟨rfl, v2, h1, h2, h3⟩
    exact ⟨rfl, v2, h1, h2, h3⟩
  rw [hx] at hf hP
  have HP : Hid (∀ w1 v2, Ot (fun k => k = b) w w1 → RdAt w1 b 65 n [tv, .int .i64 (k + 1)] v2 L.tail → v2.ownBlock = v.ownBlock → Calls Tryz.prog 32 #[.pointer (some ⟨b, 0, none⟩), .agg #[.string ⟨f.1.toArray⟩, .int .i64 f.2]] w1 fun e w' => ∃ a c, e = .returned (.tuple #[a, c]) ∧ P a c w') := hP
  have hb := h.lt
  have a1 : decide ((7 : Int) < ar) = false := by simp; omega
  have a2 : decide ((20 : Int) < k + 1) = false := by simp; omega
  have a3 : IntKind.i64.wrap (k + 1) = k + 1 := by rw [IntKind.wrap_i64]; omega
  have o0 : (f.1 == [102, 105, 102, 111]) = false := by rw [hf]; rfl
  have o1 : (f.1 == [104, 101, 97, 100]) = false := by rw [hf]; rfl
  have o2 : (f.1 == [114, 101, 100]) = true := by rw [hf]; rfl
  clear h hf hP hk ha hx
  go_enter Tryz.func19, Tryz.ntmps19
  go_wp2_with (go_at_call 20; refine HNX.out.mono ?_; rintro e w1 ⟨rfl, v2, hr1, hv1, ho1⟩; have HR1 : Hid (RdAt w1 b 65 n [tv, .int .i64 k] v2 L.tail) := hr1; have HV1 : Hid (v2.ownBlock = v.ownBlock) := hv1; have HO1 : Hid (Ot (fun k => k = b) w w1) := ho1; obtain ⟨r4, f4⟩ := hr1.begun; have hl1 := hr1.lt; clear hr1 hv1 ho1)
  refine (HP.out _ v2 ((HO1.out.setCell (p := ⟨b, 4, none⟩) (Or.inl rfl) _).alloc _) ((HR1.out.begin_ (k + 1)).below (below_alloc_ (Below.refl _ _) _)) HV1.out).mono ?_
  rintro e w2 ⟨a, c, rfl, hr⟩
  go_wp2
  go_ret2
  exact ⟨a, c, rfl, hr⟩
set_option maxHeartbeats 4000000 in
theorem queue_to_mark {b : Nat} {n : Nat} {tv : Value} {k ar : Int} {v : Value} {L : List (List UInt8 × Nat)} {P : Value → Value → World → Prop} (w : World) (h : RdAt w b 65 n [tv, .int .i64 k] v L) (hf : (L.headD (endS n)).1 = [109, 97, 114, 107]) (hk : 0 ≤ k ∧ k ≤ 19) (ha : 0 ≤ ar ∧ ar ≤ 7)
    (hP : ∀ w1 v2, Ot (fun k => k = b) w w1 → RdAt w1 b 65 n [tv, .int .i64 (k + 1)] v2 L.tail → v2.ownBlock = v.ownBlock → Calls Tryz.prog 32 #[.pointer (some ⟨b, 0, none⟩), .agg #[.string ⟨(L.headD (endS n)).1.toArray⟩, .int .i64 (L.headD (endS n)).2]] w1 fun e w' => ∃ a c, e = .returned (.tuple #[a, c]) ∧ P a c w') :
    Calls Tryz.prog 19 #[.pointer (some ⟨b, 0, none⟩), .int .i64 ar] w fun e w' => ∃ a c, e = .returned (.tuple #[a, c]) ∧ P a c w' := by
  obtain ⟨f, hx⟩ : ∃ f, L.headD (endS n) = f := ⟨_, rfl⟩
  have HNX : Hid (Calls Tryz.prog 20 #[.pointer (some ⟨b, 0, none⟩)] w fun e w' => e = .returned (.agg #[.string ⟨f.1.toArray⟩, .int .i64 f.2]) ∧ ∃ v2, RdAt w' b 65 n [tv, .int .i64 k] v2 L.tail ∧ v2.ownBlock = v.ownBlock ∧ Ot (fun k => k = b) w w') := by
    refine (sgnext_any w h).mono ?_
    rw [hx]
    rintro e w' ⟨rfl, v2, h1, h2, h3⟩
    exact ⟨rfl, v2, h1, h2, h3⟩
  rw [hx] at hf hP
  have HP : Hid (∀ w1 v2, Ot (fun k => k = b) w w1 → RdAt w1 b 65 n [tv, .int .i64 (k + 1)] v2 L.tail → v2.ownBlock = v.ownBlock → Calls Tryz.prog 32 #[.pointer (some ⟨b, 0, none⟩), .agg #[.string ⟨f.1.toArray⟩, .int .i64 f.2]] w1 fun e w' => ∃ a c, e = .returned (.tuple #[a, c]) ∧ P a c w') := hP
  have hb := h.lt
  have a1 : decide ((7 : Int) < ar) = false := by simp; omega
  have a2 : decide ((20 : Int) < k + 1) = false := by simp; omega
  have a3 : IntKind.i64.wrap (k + 1) = k + 1 := by rw [IntKind.wrap_i64]; omega
  have o0 : (f.1 == [102, 105, 102, 111]) = false := by rw [hf]; rfl
  have o1 : (f.1 == [104, 101, 97, 100]) = false := by rw [hf]; rfl
  have o2 : (f.1 == [114, 101, 100]) = false := by rw [hf]; rfl
  have o3 : (f.1 == [109, 97, 114, 107]) = true := by rw [hf]; rfl
  clear h hf hP hk ha hx
  go_enter Tryz.func19, Tryz.ntmps19
  go_wp2_with (go_at_call 20; refine HNX.out.mono ?_; rintro e w1 ⟨rfl, v2, hr1, hv1, ho1⟩; have HR1 : Hid (RdAt w1 b 65 n [tv, .int .i64 k] v2 L.tail) := hr1; have HV1 : Hid (v2.ownBlock = v.ownBlock) := hv1; have HO1 : Hid (Ot (fun k => k = b) w w1) := ho1; obtain ⟨r4, f4⟩ := hr1.begun; have hl1 := hr1.lt; clear hr1 hv1 ho1)
  refine (HP.out _ v2 ((HO1.out.setCell (p := ⟨b, 4, none⟩) (Or.inl rfl) _).alloc _) ((HR1.out.begin_ (k + 1)).below (below_alloc_ (Below.refl _ _) _)) HV1.out).mono ?_
  rintro e w2 ⟨a, c, rfl, hr⟩
  go_wp2
  go_ret2
  exact ⟨a, c, rfl, hr⟩
set_option maxHeartbeats 4000000 in
theorem queue_to_delay {b : Nat} {n : Nat} {tv : Value} {k ar : Int} {v : Value} {L : List (List UInt8 × Nat)} {P : Value → Value → World → Prop} (w : World) (h : RdAt w b 65 n [tv, .int .i64 k] v L) (hf : (L.headD (endS n)).1 = [100, 101, 108, 97, 121]) (hk : 0 ≤ k ∧ k ≤ 19) (ha : 0 ≤ ar ∧ ar ≤ 7)
    (hP : ∀ w1 v2, Ot (fun k => k = b) w w1 → RdAt w1 b 65 n [tv, .int .i64 (k + 1)] v2 L.tail → v2.ownBlock = v.ownBlock → Calls Tryz.prog 33 #[.pointer (some ⟨b, 0, none⟩), .agg #[.string ⟨(L.headD (endS n)).1.toArray⟩, .int .i64 (L.headD (endS n)).2]] w1 fun e w' => ∃ a c, e = .returned (.tuple #[a, c]) ∧ P a c w') :
    Calls Tryz.prog 19 #[.pointer (some ⟨b, 0, none⟩), .int .i64 ar] w fun e w' => ∃ a c, e = .returned (.tuple #[a, c]) ∧ P a c w' := by
  obtain ⟨f, hx⟩ : ∃ f, L.headD (endS n) = f := ⟨_, rfl⟩
  have HNX : Hid (Calls Tryz.prog 20 #[.pointer (some ⟨b, 0, none⟩)] w fun e w' => e = .returned (.agg #[.string ⟨f.1.toArray⟩, .int .i64 f.2]) ∧ ∃ v2, RdAt w' b 65 n [tv, .int .i64 k] v2 L.tail ∧ v2.ownBlock = v.ownBlock ∧ Ot (fun k => k = b) w w') := by
    refine (sgnext_any w h).mono ?_
    rw [hx]
    rintro e w' ⟨rfl, v2, h1, h2, h3⟩
    exact ⟨rfl, v2, h1, h2, h3⟩
  rw [hx] at hf hP
  have HP : Hid (∀ w1 v2, Ot (fun k => k = b) w w1 → RdAt w1 b 65 n [tv, .int .i64 (k + 1)] v2 L.tail → v2.ownBlock = v.ownBlock → Calls Tryz.prog 33 #[.pointer (some ⟨b, 0, none⟩), .agg #[.string ⟨f.1.toArray⟩, .int .i64 f.2]] w1 fun e w' => ∃ a c, e = .returned (.tuple #[a, c]) ∧ P a c w') := hP
  have hb := h.lt
  have a1 : decide ((7 : Int) < ar) = false := by simp; omega
  have a2 : decide ((20 : Int) < k + 1) = false := by simp; omega
  have a3 : IntKind.i64.wrap (k + 1) = k + 1 := by rw [IntKind.wrap_i64]; omega
  have o0 : (f.1 == [102, 105, 102, 111]) = false := by rw [hf]; rfl
  have o1 : (f.1 == [104, 101, 97, 100]) = false := by rw [hf]; rfl
  have o2 : (f.1 == [114, 101, 100]) = false := by rw [hf]; rfl
  have o3 : (f.1 == [109, 97, 114, 107]) = false := by rw [hf]; rfl
  have o4 : (f.1 == [100, 101, 108, 97, 121]) = true := by rw [hf]; rfl
  clear h hf hP hk ha hx
  go_enter Tryz.func19, Tryz.ntmps19
  go_wp2_with (go_at_call 20; refine HNX.out.mono ?_; rintro e w1 ⟨rfl, v2, hr1, hv1, ho1⟩; have HR1 : Hid (RdAt w1 b 65 n [tv, .int .i64 k] v2 L.tail) := hr1; have HV1 : Hid (v2.ownBlock = v.ownBlock) := hv1; have HO1 : Hid (Ot (fun k => k = b) w w1) := ho1; obtain ⟨r4, f4⟩ := hr1.begun; have hl1 := hr1.lt; clear hr1 hv1 ho1)
  refine (HP.out _ v2 ((HO1.out.setCell (p := ⟨b, 4, none⟩) (Or.inl rfl) _).alloc _) ((HR1.out.begin_ (k + 1)).below (below_alloc_ (Below.refl _ _) _)) HV1.out).mono ?_
  rintro e w2 ⟨a, c, rfl, hr⟩
  go_wp2
  go_ret2
  exact ⟨a, c, rfl, hr⟩
set_option maxHeartbeats 4000000 in
theorem queue_to_hashed {b : Nat} {n : Nat} {tv : Value} {k ar : Int} {v : Value} {L : List (List UInt8 × Nat)} {P : Value → Value → World → Prop} (w : World) (h : RdAt w b 65 n [tv, .int .i64 k] v L) (hf : (L.headD (endS n)).1 = [104, 97, 115, 104, 101, 100]) (hk : 0 ≤ k ∧ k ≤ 19) (ha : 0 ≤ ar ∧ ar ≤ 7)
    (hP : ∀ w1 v2, Ot (fun k => k = b) w w1 → RdAt w1 b 65 n [tv, .int .i64 (k + 1)] v2 L.tail → v2.ownBlock = v.ownBlock → Calls Tryz.prog 34 #[.pointer (some ⟨b, 0, none⟩), .agg #[.string ⟨(L.headD (endS n)).1.toArray⟩, .int .i64 (L.headD (endS n)).2]] w1 fun e w' => ∃ a c, e = .returned (.tuple #[a, c]) ∧ P a c w') :
    Calls Tryz.prog 19 #[.pointer (some ⟨b, 0, none⟩), .int .i64 ar] w fun e w' => ∃ a c, e = .returned (.tuple #[a, c]) ∧ P a c w' := by
  obtain ⟨f, hx⟩ : ∃ f, L.headD (endS n) = f := ⟨_, rfl⟩
  have HNX : Hid (Calls Tryz.prog 20 #[.pointer (some ⟨b, 0, none⟩)] w fun e w' => e = .returned (.agg #[.string ⟨f.1.toArray⟩, .int .i64 f.2]) ∧ ∃ v2, RdAt w' b 65 n [tv, .int .i64 k] v2 L.tail ∧ v2.ownBlock = v.ownBlock ∧ Ot (fun k => k = b) w w') := by
    refine (sgnext_any w h).mono ?_
    rw [hx]
    rintro e w' ⟨rfl, v2, h1, h2, h3⟩
    exact ⟨rfl, v2, h1, h2, h3⟩
  rw [hx] at hf hP
  have HP : Hid (∀ w1 v2, Ot (fun k => k = b) w w1 → RdAt w1 b 65 n [tv, .int .i64 (k + 1)] v2 L.tail → v2.ownBlock = v.ownBlock → Calls Tryz.prog 34 #[.pointer (some ⟨b, 0, none⟩), .agg #[.string ⟨f.1.toArray⟩, .int .i64 f.2]] w1 fun e w' => ∃ a c, e = .returned (.tuple #[a, c]) ∧ P a c w') := hP
  have hb := h.lt
  have a1 : decide ((7 : Int) < ar) = false := by simp; omega
  have a2 : decide ((20 : Int) < k + 1) = false := by simp; omega
  have a3 : IntKind.i64.wrap (k + 1) = k + 1 := by rw [IntKind.wrap_i64]; omega
  have o0 : (f.1 == [102, 105, 102, 111]) = false := by rw [hf]; rfl
  have o1 : (f.1 == [104, 101, 97, 100]) = false := by rw [hf]; rfl
  have o2 : (f.1 == [114, 101, 100]) = false := by rw [hf]; rfl
  have o3 : (f.1 == [109, 97, 114, 107]) = false := by rw [hf]; rfl
  have o4 : (f.1 == [100, 101, 108, 97, 121]) = false := by rw [hf]; rfl
  have o5 : (f.1 == [104, 97, 115, 104, 101, 100]) = true := by rw [hf]; rfl
  clear h hf hP hk ha hx
  go_enter Tryz.func19, Tryz.ntmps19
  go_wp2_with (go_at_call 20; refine HNX.out.mono ?_; rintro e w1 ⟨rfl, v2, hr1, hv1, ho1⟩; have HR1 : Hid (RdAt w1 b 65 n [tv, .int .i64 k] v2 L.tail) := hr1; have HV1 : Hid (v2.ownBlock = v.ownBlock) := hv1; have HO1 : Hid (Ot (fun k => k = b) w w1) := ho1; obtain ⟨r4, f4⟩ := hr1.begun; have hl1 := hr1.lt; clear hr1 hv1 ho1)
  refine (HP.out _ v2 ((HO1.out.setCell (p := ⟨b, 4, none⟩) (Or.inl rfl) _).alloc _) ((HR1.out.begin_ (k + 1)).below (below_alloc_ (Below.refl _ _) _)) HV1.out).mono ?_
  rintro e w2 ⟨a, c, rfl, hr⟩
  go_wp2
  go_ret2
  exact ⟨a, c, rfl, hr⟩
set_option maxHeartbeats 4000000 in
theorem queue_to_shape {b : Nat} {n : Nat} {tv : Value} {k ar : Int} {v : Value} {L : List (List UInt8 × Nat)} {P : Value → Value → World → Prop} (w : World) (h : RdAt w b 65 n [tv, .int .i64 k] v L) (hf : (L.headD (endS n)).1 = [115, 104, 97, 112, 101]) (hk : 0 ≤ k ∧ k ≤ 19) (ha : 0 ≤ ar ∧ ar ≤ 7)
    (hP : ∀ w1 v2, Ot (fun k => k = b) w w1 → RdAt w1 b 65 n [tv, .int .i64 (k + 1)] v2 L.tail → v2.ownBlock = v.ownBlock → Calls Tryz.prog 36 #[.pointer (some ⟨b, 0, none⟩), .agg #[.string ⟨(L.headD (endS n)).1.toArray⟩, .int .i64 (L.headD (endS n)).2], .int .i64 (ar + 1)] w1 fun e w' => ∃ a c, e = .returned (.tuple #[a, c]) ∧ P a c w') :
    Calls Tryz.prog 19 #[.pointer (some ⟨b, 0, none⟩), .int .i64 ar] w fun e w' => ∃ a c, e = .returned (.tuple #[a, c]) ∧ P a c w' := by
  obtain ⟨f, hx⟩ : ∃ f, L.headD (endS n) = f := ⟨_, rfl⟩
  have HNX : Hid (Calls Tryz.prog 20 #[.pointer (some ⟨b, 0, none⟩)] w fun e w' => e = .returned (.agg #[.string ⟨f.1.toArray⟩, .int .i64 f.2]) ∧ ∃ v2, RdAt w' b 65 n [tv, .int .i64 k] v2 L.tail ∧ v2.ownBlock = v.ownBlock ∧ Ot (fun k => k = b) w w') := by
    refine (sgnext_any w h).mono ?_
    rw [hx]
    rintro e w' ⟨rfl, v2, h1, h2, h3⟩
    exact ⟨rfl, v2, h1, h2, h3⟩
  rw [hx] at hf hP
  have HP : Hid (∀ w1 v2, Ot (fun k => k = b) w w1 → RdAt w1 b 65 n [tv, .int .i64 (k + 1)] v2 L.tail → v2.ownBlock = v.ownBlock → Calls Tryz.prog 36 #[.pointer (some ⟨b, 0, none⟩), .agg #[.string ⟨f.1.toArray⟩, .int .i64 f.2], .int .i64 (ar + 1)] w1 fun e w' => ∃ a c, e = .returned (.tuple #[a, c]) ∧ P a c w') := hP
  have hb := h.lt
  have a1 : decide ((7 : Int) < ar) = false := by simp; omega
  have a2 : decide ((20 : Int) < k + 1) = false := by simp; omega
  have a3 : IntKind.i64.wrap (k + 1) = k + 1 := by rw [IntKind.wrap_i64]; omega
  have a4 : IntKind.i64.wrap (ar + 1) = ar + 1 := by rw [IntKind.wrap_i64]; omega
  have o0 : (f.1 == [102, 105, 102, 111]) = false := by rw [hf]; rfl
  have o1 : (f.1 == [104, 101, 97, 100]) = false := by rw [hf]; rfl
  have o2 : (f.1 == [114, 101, 100]) = false := by rw [hf]; rfl
  have o3 : (f.1 == [109, 97, 114, 107]) = false := by rw [hf]; rfl
  have o4 : (f.1 == [100, 101, 108, 97, 121]) = false := by rw [hf]; rfl
  have o5 : (f.1 == [104, 97, 115, 104, 101, 100]) = false := by rw [hf]; rfl
  have o6 : (f.1 == [114, 111, 117, 110, 100, 115]) = false := by rw [hf]; rfl
  have o7 : (f.1 == [115, 104, 97, 112, 101]) = true := by rw [hf]; rfl
  clear h hf hP hk ha hx
  go_enter Tryz.func19, Tryz.ntmps19
  go_wp2_with (go_at_call 20; refine HNX.out.mono ?_; rintro e w1 ⟨rfl, v2, hr1, hv1, ho1⟩; have HR1 : Hid (RdAt w1 b 65 n [tv, .int .i64 k] v2 L.tail) := hr1; have HV1 : Hid (v2.ownBlock = v.ownBlock) := hv1; have HO1 : Hid (Ot (fun k => k = b) w w1) := ho1; obtain ⟨r4, f4⟩ := hr1.begun; have hl1 := hr1.lt; clear hr1 hv1 ho1)
  refine (HP.out _ v2 ((HO1.out.setCell (p := ⟨b, 4, none⟩) (Or.inl rfl) _).alloc _) ((HR1.out.begin_ (k + 1)).below (below_alloc_ (Below.refl _ _) _)) HV1.out).mono ?_
  rintro e w2 ⟨a, c, rfl, hr⟩
  go_wp2
  go_ret2
  exact ⟨a, c, rfl, hr⟩
set_option maxHeartbeats 4000000 in
theorem queue_to_bands {b : Nat} {n : Nat} {tv : Value} {k ar : Int} {v : Value} {L : List (List UInt8 × Nat)} {P : Value → Value → World → Prop} (w : World) (h : RdAt w b 65 n [tv, .int .i64 k] v L) (hf : (L.headD (endS n)).1 = [98, 97, 110, 100, 115]) (hk : 0 ≤ k ∧ k ≤ 19) (ha : 0 ≤ ar ∧ ar ≤ 7)
    (hP : ∀ w1 v2, Ot (fun k => k = b) w w1 → RdAt w1 b 65 n [tv, .int .i64 (k + 1)] v2 L.tail → v2.ownBlock = v.ownBlock → Calls Tryz.prog 37 #[.pointer (some ⟨b, 0, none⟩), .agg #[.string ⟨(L.headD (endS n)).1.toArray⟩, .int .i64 (L.headD (endS n)).2], .int .i64 (ar + 1)] w1 fun e w' => ∃ a c, e = .returned (.tuple #[a, c]) ∧ P a c w') :
    Calls Tryz.prog 19 #[.pointer (some ⟨b, 0, none⟩), .int .i64 ar] w fun e w' => ∃ a c, e = .returned (.tuple #[a, c]) ∧ P a c w' := by
  obtain ⟨f, hx⟩ : ∃ f, L.headD (endS n) = f := ⟨_, rfl⟩
  have HNX : Hid (Calls Tryz.prog 20 #[.pointer (some ⟨b, 0, none⟩)] w fun e w' => e = .returned (.agg #[.string ⟨f.1.toArray⟩, .int .i64 f.2]) ∧ ∃ v2, RdAt w' b 65 n [tv, .int .i64 k] v2 L.tail ∧ v2.ownBlock = v.ownBlock ∧ Ot (fun k => k = b) w w') := by
    refine (sgnext_any w h).mono ?_
    rw [hx]
    rintro e w' ⟨rfl, v2, h1, h2, h3⟩
    exact ⟨rfl, v2, h1, h2, h3⟩
  rw [hx] at hf hP
  have HP : Hid (∀ w1 v2, Ot (fun k => k = b) w w1 → RdAt w1 b 65 n [tv, .int .i64 (k + 1)] v2 L.tail → v2.ownBlock = v.ownBlock → Calls Tryz.prog 37 #[.pointer (some ⟨b, 0, none⟩), .agg #[.string ⟨f.1.toArray⟩, .int .i64 f.2], .int .i64 (ar + 1)] w1 fun e w' => ∃ a c, e = .returned (.tuple #[a, c]) ∧ P a c w') := hP
  have hb := h.lt
  have a1 : decide ((7 : Int) < ar) = false := by simp; omega
  have a2 : decide ((20 : Int) < k + 1) = false := by simp; omega
  have a3 : IntKind.i64.wrap (k + 1) = k + 1 := by rw [IntKind.wrap_i64]; omega
  have a4 : IntKind.i64.wrap (ar + 1) = ar + 1 := by rw [IntKind.wrap_i64]; omega
  have o0 : (f.1 == [102, 105, 102, 111]) = false := by rw [hf]; rfl
  have o1 : (f.1 == [104, 101, 97, 100]) = false := by rw [hf]; rfl
  have o2 : (f.1 == [114, 101, 100]) = false := by rw [hf]; rfl
  have o3 : (f.1 == [109, 97, 114, 107]) = false := by rw [hf]; rfl
  have o4 : (f.1 == [100, 101, 108, 97, 121]) = false := by rw [hf]; rfl
  have o5 : (f.1 == [104, 97, 115, 104, 101, 100]) = false := by rw [hf]; rfl
  have o6 : (f.1 == [114, 111, 117, 110, 100, 115]) = false := by rw [hf]; rfl
  have o7 : (f.1 == [115, 104, 97, 112, 101]) = false := by rw [hf]; rfl
  have o8 : (f.1 == [98, 97, 110, 100, 115]) = true := by rw [hf]; rfl
  clear h hf hP hk ha hx
  go_enter Tryz.func19, Tryz.ntmps19
  go_wp2_with (go_at_call 20; refine HNX.out.mono ?_; rintro e w1 ⟨rfl, v2, hr1, hv1, ho1⟩; have HR1 : Hid (RdAt w1 b 65 n [tv, .int .i64 k] v2 L.tail) := hr1; have HV1 : Hid (v2.ownBlock = v.ownBlock) := hv1; have HO1 : Hid (Ot (fun k => k = b) w w1) := ho1; obtain ⟨r4, f4⟩ := hr1.begun; have hl1 := hr1.lt; clear hr1 hv1 ho1)
  refine (HP.out _ v2 ((HO1.out.setCell (p := ⟨b, 4, none⟩) (Or.inl rfl) _).alloc _) ((HR1.out.begin_ (k + 1)).below (below_alloc_ (Below.refl _ _) _)) HV1.out).mono ?_
  rintro e w2 ⟨a, c, rfl, hr⟩
  go_wp2
  go_ret2
  exact ⟨a, c, rfl, hr⟩
end Go.Proofs.YtfakjedolecdcaaGreatDoor
