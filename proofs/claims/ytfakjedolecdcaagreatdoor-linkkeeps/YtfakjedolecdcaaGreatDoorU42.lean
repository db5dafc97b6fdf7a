/-
  package plant: which reader the first word of a queue calls; the errors of what is too deep, too many, or no such word. Conditions: none.
  package plant: the errors of a queue's reader: too deep, too many, no such word. Conditions: none.
-/
import Derived.Test.YtfakjedolecdcaaGreatDoorRnd
import Derived.Test.YtfakjedolecdcaaGreatDoorU37
namespace Go.Proofs.YtfakjedolecdcaaGreatDoor
open Go.RowKit Go.Extern.Stop Go.Stop Go.Extern

set_option maxHeartbeats 4000000 in
theorem queue_to_fifo {b : Nat} {n : Nat} {tv : Value} {k ar : Int} {v : Value} {L : List (List UInt8 × Nat)} {P : Value → Value → World → Prop} (w : World) (h : RdAt w b 65 n [tv, .int .i64 k] v L) (hf : (L.headD (endS n)).1 = [102, 105, 102, 111]) (hk : 0 ≤ k ∧ k ≤ 19) (ha : 0 ≤ ar ∧ ar ≤ 7)
    (hP : ∀ w1 v2, Ot (fun k => k = b) w w1 → RdAt w1 b 65 n [tv, .int .i64 (k + 1)] v2 L.tail → v2.ownBlock = v.ownBlock → Calls Tryz.prog 31 #[.pointer (some ⟨b, 0, none⟩), .agg #[.string ⟨(L.headD (endS n)).1.toArray⟩, .int .i64 (L.headD (endS n)).2]] w1 fun e w' => ∃ a c, e = .returned (.tuple #[a, c]) ∧ P a c w') :
    Calls Tryz.prog 19 #[.pointer (some ⟨b, 0, none⟩), .int .i64 ar] w fun e w' => ∃ a c, e = .returned (.tuple #[a, c]) ∧ P a c w' := by
  obtain ⟨f, hx⟩ : ∃ f, L.headD (endS n) = f := ⟨_, rfl⟩
  have HNX : Hid (Calls Tryz.prog 20 #[.pointer (some ⟨b, 0, none⟩)] w fun e w' => e = .returned (.agg #[.string ⟨f.1.toArray⟩, .int .i64 f.2]) ∧ ∃ v2, RdAt w' b 65 n [tv, .int .i64 k] v2 L.tail ∧ v2.ownBlock = v.ownBlock ∧ Ot (fun k => k = b) w w') := by
    refine (sgnext_any w h).mono ?_
    rw [hx]
    rintro e w' ⟨rfl, v2, h1, h2, h3⟩
    exact ⟨rfl, v2, h1, h2, h3⟩
  rw [hx] at hf hP
  have HP : Hid (∀ w1 v2, Ot (fun k => k = b) w w1 → RdAt w1 b 65 n [tv, .int .i64 (k + 1)] v2 L.tail → v2.ownBlock = v.ownBlock → Calls Tryz.prog 31 #[.pointer (some ⟨b, 0, none⟩), .agg #[.string ⟨f.1.toArray⟩, .int .i64 f.2]] w1 fun e w' => ∃ a c, e = .returned (.tuple #[a, c]) ∧ P a c w') := hP
  have hb := h.lt
  have a1 : decide ((7 : Int) < ar) = false := by simp; omega
  have a2 : decide ((20 : Int) < k + 1) = false := by simp; omega
  have a3 : IntKind.i64.wrap (k + 1) = k + 1 := by rw [IntKind.wrap_i64]; omega
  have o0 : (f.1 == [102, 105, 102, 111]) = true := by rw [hf]; rfl
  clear h hf hP hk ha hx
  go_enter Tryz.func19, Tryz.ntmps19
  go_wp2_with (go_at_call 20; refine HNX.out.mono ?_; rintro e w1 ⟨rfl, v2, hr1, hv1, ho1⟩; have HR1 : Hid (RdAt w1 b 65 n [tv, .int .i64 k] v2 L.tail) := hr1; have HV1 : Hid (v2.ownBlock = v.ownBlock) := hv1; have HO1 : Hid (Ot (fun k => k = b) w w1) := ho1; obtain ⟨r4, f4⟩ := hr1.begun; have hl1 := hr1.lt; clear hr1 hv1 ho1)
  refine (HP.out _ v2 ((HO1.out.setCell (p := ⟨b, 4, none⟩) (Or.inl rfl) _).alloc _) ((HR1.out.begin_ (k + 1)).below (below_alloc_ (Below.refl _ _) _)) HV1.out).mono ?_
  rintro e w2 ⟨a, c, rfl, hr⟩
  go_wp2
  go_ret2
  exact ⟨a, c, rfl, hr⟩
set_option maxHeartbeats 4000000 in
theorem queue_to_head {b : Nat} {n : Nat} {tv : Value} {k ar : Int} {v : Value} {L : List (List UInt8 × Nat)} {P : Value → Value → World → Prop} (w : World) (h : RdAt w b 65 n [tv, .int .i64 k] v L) (hf : (L.headD (endS n)).1 = [104, 101, 97, 100]) (hk : 0 ≤ k ∧ k ≤ 19) (ha : 0 ≤ ar ∧ ar ≤ 7)
    (hP : ∀ w1 v2, Ot (fun k => k = b) w w1 → RdAt w1 b 65 n [tv, .int .i64 (k + 1)] v2 L.tail → v2.ownBlock = v.ownBlock → Calls Tryz.prog 31 #[.pointer (some ⟨b, 0, none⟩), .agg #[.string ⟨(L.headD (endS n)).1.toArray⟩, .int .i64 (L.headD (endS n)).2]] w1 fun e w' => ∃ a c, e = .returned (.tuple #[a, c]) ∧ P a c w') :
    Calls Tryz.prog 19 #[.pointer (some ⟨b, 0, none⟩), .int .i64 ar] w fun e w' => ∃ a c, e = .returned (.tuple #[a, c]) ∧ P a c w' := by
  obtain ⟨f, hx⟩ : ∃ f, L.headD (endS n) = f := ⟨_, rfl⟩
  have HNX : Hid (Calls Tryz.prog 20 #[.pointer (some ⟨b, 0, none⟩)] w fun e w' => e = .returned (.agg #[.string ⟨f.1.toArray⟩, .int .i64 f.2]) ∧ ∃ v2, RdAt w' b 65 n [tv, .int .i64 k] v2 L.tail ∧ v2.ownBlock = v.ownBlock ∧ Ot (fun k => k = b) w w') := by
    refine (sgnext_any w h).mono ?_
    rw [hx]
    rintro e w' ⟨rfl, v2, h1, h2, h3⟩
    exact ⟨rfl, v2, h1, h2, h3⟩
  rw [hx] at hf hP
  have HP : Hid (∀ w1 v2, Ot (fun k => k = b) w w1 → RdAt w1 b 65 n [tv, .int .i64 (k + 1)] v2 L.tail → v2.ownBlock = v.ownBlock → Calls Tryz.prog 31 #[.pointer (some ⟨b, 0, none⟩), .agg #[.string ⟨f.1.toArray⟩, .int .i64 f.2]] w1 fun e w' => ∃ a c, e = .returned (.tuple #[a, c]) ∧ P a c w') := hP
  have hb := h.lt
  have a1 : decide ((7 : Int) < ar) = false := by simp; omega
  have a2 : decide ((20 : Int) < k + 1) = false := by simp; omega
  have a3 : IntKind.i64.wrap (k + 1) = k + 1 := by rw [IntKind.wrap_i64]; omega
  have o0 : (f.1 == [102, 105, 102, 111]) = false := by rw [hf]; rfl
  have o1 : (f.1 == [104, 101, 97, 100]) = true := by rw [hf]; rfl
  clear h hf hP hk ha hx
  go_enter Tryz.func19, Tryz.ntmps19
  go_wp2_with (go_at_call 20; refine HNX.out.mono ?_; rintro e w1 ⟨rfl, v2, hr1, hv1, ho1⟩; have HR1 : Hid (RdAt w1 b 65 n [tv, .int .i64 k] v2 L.tail) := hr1; have HV1 : Hid (v2.ownBlock = v.ownBlock) := hv1; have HO1 : Hid (Ot (fun k => k = b) w w1) := ho1; obtain ⟨r4, f4⟩ := hr1.begun; have hl1 := hr1.lt; clear hr1 hv1 ho1)
  refine (HP.out _ v2 ((HO1.out.setCell (p := ⟨b, 4, none⟩) (Or.inl rfl) _).alloc _) ((HR1.out.begin_ (k + 1)).below (below_alloc_ (Below.refl _ _) _)) HV1.out).mono ?_
  rintro e w2 ⟨a, c, rfl, hr⟩
  go_wp2
  go_ret2
  exact ⟨a, c, rfl, hr⟩
set_option maxHeartbeats 4000000 in
theorem queue_to_red {b : Nat} {n : Nat} {tv : Value} {k ar : Int} {v : Value} {L : List (List UInt8 × Nat)} {P : Value → Value → World → Prop} (w : World) (h : RdAt w b 65 n [tv, .int .i64 k] v L) (hf : (L.headD (endS n)).1 = [114, 101, 100]) (hk : 0 ≤ k ∧ k ≤ 19) (ha : 0 ≤ ar ∧ ar ≤ 7)
    (hP : ∀ w1 v2, Ot (fun k => k = b) w w1 → RdAt w1 b 65 n [tv, .int .i64 (k + 1)] v2 L.tail → v2.ownBlock = v.ownBlock → Calls Tryz.prog 32 #[.pointer (some ⟨b, 0, none⟩), .agg #[.string ⟨(L.headD (endS n)).1.toArray⟩, .int .i64 (L.headD (endS n)).2]] w1 fun e w' => ∃ a c, e = .returned (.tuple #[a, c]) ∧ P a c w') :
    Calls Tryz.prog 19 #[.pointer (some ⟨b, 0, none⟩), .int .i64 ar] w fun e w' => ∃ a c, e = .returned (.tuple #[a, c]) ∧ P a c w' := by
  obtain ⟨f, hx⟩ : ∃ f, L.headD (endS n) = f := ⟨_, rfl⟩
  have HNX : Hid (Calls Tryz.prog 20 #[.pointer (some ⟨b, 0, none⟩)] w fun e w' => e = .returned (.agg #[.string ⟨f.1.toArray⟩, .int .i64 f.2]) ∧ ∃ v2, RdAt w' b 65 n [tv, .int .i64 k] v2 L.tail ∧ v2.ownBlock = v.ownBlock ∧ Ot (fun k => k = b) w w') := by
    refine (sgnext_any w h).mono ?_
    rw [hx]
    rintro e w' ⟨rfl, v2, h1, h2, h3⟩
    exact ⟨rfl, v2, h1, h2, h3⟩
  rw [hx] at hf hP
  have HP : Hid (∀ w1 v2, Ot (fun k => k = b) w w1 → RdAt w1 b 65 n [tv, .int .i64 (k + 1)] v2 L.tail → v2.ownBlock = v.ownBlock → Calls Tryz.prog 32 #[.pointer (some ⟨b, 0, none⟩), .agg #[.string ⟨f.1.toArray⟩, .int .i64 f.2]] w1 fun e w' => ∃ a c, e = .returned (.tuple #[a, c]) ∧ P a c w') := hP
  have hb := h.lt
  have a1 : decide ((7 : Int) < ar) = false := by simp; omega
  have a2 : decide ((20 : Int) < k + 1) = false := by simp; omega
  have a3 : IntKind.i64.wrap (k + 1) = k + 1 := by rw [IntKind.wrap_i64]; omega
  have o0 : (f.1 == [102, 105, 102, 111]) = false := by rw [hf]; rfl
  have o1 : (f.1 == [104, 101, 97, 100]) = false := by rw [hf]; rfl
  have o2 : (f.1 == [114, 101, 100]) = true := by rw [hf]; rfl
  clear h hf hP hk ha hx
  go_enter Tryz.func19, Tryz.ntmps19
  go_wp2_with (go_at_call 20; refine HNX.out.mono ?_; rintro e w1 ⟨rfl, v2, hr1, hv1, ho1⟩; have HR1 : Hid (RdAt w1 b 65 n [tv, .int .i64 k] v2 L.tail) := hr1; have HV1 : Hid (v2.ownBlock = v.ownBlock) := hv1; have HO1 : Hid (Ot (fun k => k = b) w w1) := ho1; obtain ⟨r4, f4⟩ := hr1.begun; have hl1 := hr1.lt; clear hr1 hv1 ho1)
  refine (HP.out _ v2 ((HO1.out.setCell (p := ⟨b, 4, none⟩) (Or.inl rfl) _).alloc _) ((HR1.out.begin_ (k + 1)).below (below_alloc_ (Below.refl _ _) _)) HV1.out).mono ?_
  rintro e w2 ⟨a, c, rfl, hr⟩
  go_wp2
  go_ret2
  exact ⟨a, c, rfl, hr⟩
set_option maxHeartbeats 4000000 in
theorem queue_to_mark {b : Nat} {n : Nat} {tv : Value} {k ar : Int} {v : Value} {L : List (List UInt8 × Nat)} {P : Value → Value → World → Prop} (w : World) (h : RdAt w b 65 n [tv, .int .i64 k] v L) (hf : (L.headD (endS n)).1 = [109, 97, 114, 107]) (hk : 0 ≤ k ∧ k ≤ 19) (ha : 0 ≤ ar ∧ ar ≤ 7)
    (hP : ∀ w1 v2, Ot (fun k => k = b) w w1 → RdAt w1 b 65 n [tv, .int .i64 (k + 1)] v2 L.tail → v2.ownBlock = v.ownBlock → Calls Tryz.prog 32 #[.pointer (some ⟨b, 0, none⟩), .agg #[.string ⟨(L.headD (endS n)).1.toArray⟩, .int .i64 (L.headD (endS n)).2]] w1 fun e w' => ∃ a c, e = .returned (.tuple #[a, c]) ∧ P a c w') :
    Calls Tryz.prog 19 #[.pointer (some ⟨b, 0, none⟩), .int .i64 ar] w fun e w' => ∃ a c, e = .returned (.tuple #[a, c]) ∧ P a c w' := by
  obtain ⟨f, hx⟩ : ∃ f, L.headD (endS n) = f := ⟨_, rfl⟩
  have HNX : Hid (Calls Tryz.prog 20 #[.pointer (some ⟨b, 0, none⟩)] w fun e w' => e = .returned (.agg #[.string ⟨f.1.toArray⟩, .int .i64 f.2]) ∧ ∃ v2, RdAt w' b 65 n [tv, .int .i64 k] v2 L.tail ∧ v2.ownBlock = v.ownBlock ∧ Ot (fun k => k = b) w w') := by
    refine (sgnext_any w h).mono ?_
    rw [hx]
    rintro e w' ⟨rfl, v2, h1, h2, h3⟩
    exact ⟨rfl, v2, h1, h2, h3⟩
  rw [hx] at hf hP
  have HP : Hid (∀ w1 v2, Ot (fun k => k = b) w w1 → RdAt w1 b 65 n [tv, .int .i64 (k + 1)] v2 L.tail → v2.ownBlock = v.ownBlock → Calls Tryz.prog 32 #[.pointer (some ⟨b, 0, none⟩), .agg #[.string ⟨f.1.toArray⟩, .int .i64 f.2]] w1 fun e w' => ∃ a c, e = .returned (.tuple #[a, c]) ∧ P a c w') := hP
  have hb := h.lt
  have a1 : decide ((7 : Int) < ar) = false := by simp; omega
  have a2 : decide ((20 : Int) < k + 1) = false := by simp; omega
  have a3 : IntKind.i64.wrap (k + 1) = k + 1 := by rw [IntKind.wrap_i64]; omega
  have o0 : (f.1 == [102, 105, 102, 111]) = false := by rw [hf]; rfl
  have o1 : (f.1 == [104, 101, 97, 100]) = false := by rw [hf]; rfl
  have o2 : (f.1 == [114, 101, 100]) = false := by rw [hf]; rfl
  have o3 : (f.1 == [109, 97, 114, 107]) = true := by rw [hf]; rfl
  clear h hf hP hk ha hx
  go_enter Tryz.func19, Tryz.ntmps19
  go_wp2_with (go_at_call 20; refine HNX.out.mono ?_; rintro e w1 ⟨rfl, v2, hr1, hv1, ho1⟩; have HR1 : Hid (RdAt w1 b 65 n [tv, .int .i64 k] v2 L.tail) := hr1; have HV1 : Hid (v2.ownBlock = v.ownBlock) := hv1; have HO1 : Hid (Ot (fun k => k = b) w w1) := ho1; obtain ⟨r4, f4⟩ := hr1.begun; have hl1 := hr1.lt; clear hr1 hv1 ho1)
  refine (HP.out _ v2 ((HO1.out.setCell (p := ⟨b, 4, none⟩) (Or.inl rfl) _).alloc _) ((HR1.out.begin_ (k + 1)).below (below_alloc_ (Below.refl _ _) _)) HV1.out).mono ?_
  rintro e w2 ⟨a, c, rfl, hr⟩
  go_wp2
  go_ret2
  exact ⟨a, c, rfl, hr⟩
set_option maxHeartbeats 4000000 in
theorem queue_to_delay {b : Nat} {n : Nat} {tv : Value} {k ar : Int} {v : Value} {L : List (List UInt8 × Nat)} {P : Value → Value → World → Prop} (w : World) (h : RdAt w b 65 n [tv, .int .i64 k] v L) (hf : (L.headD (endS n)).1 = [100, 101, 108, 97, 121]) (hk : 0 ≤ k ∧ k ≤ 19) (ha : 0 ≤ ar ∧ ar ≤ 7)
    (hP : ∀ w1 v2, Ot (fun k => k = b) w w1 → RdAt w1 b 65 n [tv, .int .i64 (k + 1)] v2 L.tail → v2.ownBlock = v.ownBlock → Calls Tryz.prog 33 #[.pointer (some ⟨b, 0, none⟩), .agg #[.string ⟨(L.headD (endS n)).1.toArray⟩, .int .i64 (L.headD (endS n)).2]] w1 fun e w' => ∃ a c, e = .returned (.tuple #[a, c]) ∧ P a c w') :
    Calls Tryz.prog 19 #[.pointer (some ⟨b, 0, none⟩), .int .i64 ar] w fun e w' => ∃ a c, e = .returned (.tuple #[a, c]) ∧ P a c w' := by
  obtain ⟨f, hx⟩ : ∃ f, L.headD (endS n) = f := ⟨_, rfl⟩
  have HNX : Hid (Calls Tryz.prog 20 #[.pointer (some ⟨b, 0, none⟩)] w fun e w' => e = .returned (.agg #[.string ⟨f.1.toArray⟩, .int .i64 f.2]) ∧ ∃ v2, RdAt w' b 65 n [tv, .int .i64 k] v2 L.tail ∧ v2.ownBlock = v.ownBlock ∧ Ot (fun k => k = b) w w') := by
    refine (sgnext_any w h).mono ?_
    rw [hx]
    rintro e w' ⟨rfl, v2, h1, h2, h3⟩
    exact ⟨rfl, v2, h1, h2, h3⟩
  rw [hx] at hf hP
  have HP : Hid (∀ w1 v2, Ot (fun k => k = b) w w1 → RdAt w1 b 65 n [tv, .int .i64 (k + 1)] v2 L.tail → v2.ownBlock = v.ownBlock → Calls Tryz.prog 33 #[.pointer (some ⟨b, 0, none⟩), .agg #[.string ⟨f.1.toArray⟩, .int .i64 f.2]] w1 fun e w' => ∃ a c, e = .returned (.tuple #[a, c]) ∧ P a c w') := hP
  have hb := h.lt
  have a1 : decide ((7 : Int) < ar) = false := by simp; omega
  have a2 : decide ((20 : Int) < k + 1) = false := by simp; omega
  have a3 : IntKind.i64.wrap (k + 1) = k + 1 := by rw [IntKind.wrap_i64]; omega
  have o0 : (f.1 == [102, 105, 102, 111]) = false := by rw [hf]; rfl
  have o1 : (f.1 == [104, 101, 97, 100]) = false := by rw [hf]; rfl
  have o2 : (f.1 == [114, 101, 100]) = false := by rw [hf]; rfl
  have o3 : (f.1 == [109, 97, 114, 107]) = false := by rw [hf]; rfl
  have o4 : (f.1 == [100, 101, 108, 97, 121]) = true := by rw [hf]; rfl
  clear h hf hP hk ha hx
  go_enter Tryz.func19, Tryz.ntmps19
  go_wp2_with (go_at_call 20; refine HNX.out.mono ?_; rintro e w1 ⟨rfl, v2, hr1, hv1, ho1⟩; have HR1 : Hid (RdAt w1 b 65 n [tv, .int .i64 k] v2 L.tail) := hr1; have HV1 : Hid (v2.ownBlock = v.ownBlock) := hv1; have HO1 : Hid (Ot (fun k => k = b) w w1) := ho1; obtain ⟨r4, f4⟩ := hr1.begun; have hl1 := hr1.lt; clear hr1 hv1 ho1)
  refine (HP.out _ v2 ((HO1.out.setCell (p := ⟨b, 4, none⟩) (Or.inl rfl) _).alloc _) ((HR1.out.begin_ (k + 1)).below (below_alloc_ (Below.refl _ _) _)) HV1.out).mono ?_
  rintro e w2 ⟨a, c, rfl, hr⟩
  go_wp2
  go_ret2
  exact ⟨a, c, rfl, hr⟩
set_option maxHeartbeats 4000000 in
theorem queue_to_hashed {b : Nat} {n : Nat} {tv : Value} {k ar : Int} {v : Value} {L : List (List UInt8 × Nat)} {P : Value → Value → World → Prop} (w : World) (h : RdAt w b 65 n [tv, .int .i64 k] v L) (hf : (L.headD (endS n)).1 = [104, 97, 115, 104, 101, 100]) (hk : 0 ≤ k ∧ k ≤ 19) (ha : 0 ≤ ar ∧ ar ≤ 7)
    (hP : ∀ w1 v2, Ot (fun k => k = b) w w1 → RdAt w1 b 65 n [tv, .int .i64 (k + 1)] v2 L.tail → v2.ownBlock = v.ownBlock → Calls Tryz.prog 34 #[.pointer (some ⟨b, 0, none⟩), .agg #[.string ⟨(L.headD (endS n)).1.toArray⟩, .int .i64 (L.headD (endS n)).2]] w1 fun e w' => ∃ a c, e = .returned (.tuple #[a, c]) ∧ P a c w') :
    Calls Tryz.prog 19 #[.pointer (some ⟨b, 0, none⟩), .int .i64 ar] w fun e w' => ∃ a c, e = .returned (.tuple #[a, c]) ∧ P a c w' := by
  obtain ⟨f, hx⟩ : ∃ f, L.headD (endS n) = f := ⟨_, rfl⟩
  have HNX : Hid (Calls Tryz.prog 20 #[.pointer (some ⟨b, 0, none⟩)] w fun e w' => e = .returned (.agg #[.string ⟨f.1.toArray⟩, .int .i64 f.2]) ∧ ∃ v2, RdAt w' b 65 n [tv, .int .i64 k] v2 L.tail ∧ v2.ownBlock = v.ownBlock ∧ Ot (fun k => k = b) w w') := by
    refine (sgnext_any w h).mono ?_
    rw [hx]
    rintro e w' ⟨rfl, v2, h1, h2, h3⟩
    exact ⟨rfl, v2, h1, h2, h3⟩
  rw [hx] at hf hP
  have HP : Hid (∀ w1 v2, Ot (fun k => k = b) w w1 → RdAt w1 b 65 n [tv, .int .i64 (k + 1)] v2 L.tail → v2.ownBlock = v.ownBlock → Calls Tryz.prog 34 #[.pointer (some ⟨b, 0, none⟩), .agg #[.string ⟨f.1.toArray⟩, .int .i64 f.2]] w1 fun e w' => ∃ a c, e = .returned (.tuple #[a, c]) ∧ P a c w') := hP
  have hb := h.lt
  have a1 : decide ((7 : Int) < ar) = false := by simp; omega
  have a2 : decide ((20 : Int) < k + 1) = false := by simp; omega
  have a3 : IntKind.i64.wrap (k + 1) = k + 1 := by rw [IntKind.wrap_i64]; omega
  have o0 : (f.1 == [102, 105, 102, 111]) = false := by rw [hf]; rfl
  have o1 : (f.1 == [104, 101, 97, 100]) = false := by rw [hf]; rfl
  have o2 : (f.1 == [114, 101, 100]) = false := by rw [hf]; rfl
  have o3 : (f.1 == [109, 97, 114, 107]) = false := by rw [hf]; rfl
  have o4 : (f.1 == [100, 101, 108, 97, 121]) = false := by rw [hf]; rfl
  have o5 : (f.1 == [104, 97, 115, 104, 101, 100]) = true := by rw [hf]; rfl
  clear h hf hP hk ha hx
  go_enter Tryz.func19, Tryz.ntmps19
  go_wp2_with (go_at_call 20; refine HNX.out.mono ?_; rintro e w1 ⟨rfl, v2, hr1, hv1, ho1⟩; have HR1 : Hid (RdAt w1 b 65 n [tv, .int .i64 k] v2 L.tail) := hr1; have HV1 : Hid (v2.ownBlock = v.ownBlock) := hv1; have HO1 : Hid (Ot (fun k => k = b) w w1) := ho1; obtain ⟨r4, f4⟩ := hr1.begun; have hl1 := hr1.lt; clear hr1 hv1 ho1)
  refine (HP.out _ v2 ((HO1.out.setCell (p := ⟨b, 4, none⟩) (Or.inl rfl) _).alloc _) ((HR1.out.begin_ (k + 1)).below (below_alloc_ (Below.refl _ _) _)) HV1.out).mono ?_
  rintro e w2 ⟨a, c, rfl, hr⟩
  go_wp2
  go_ret2
  exact ⟨a, c, rfl, hr⟩
set_option maxHeartbeats 4000000 in
theorem queue_to_shape {b : Nat} {n : Nat} {tv : Value} {k ar : Int} {v : Value} {L : List (List UInt8 × Nat)} {P : Value → Value → World → Prop} (w : World) (h : RdAt w b 65 n [tv, .int .i64 k] v L) (hf : (L.headD (endS n)).1 = [115, 104, 97, 112, 101]) (hk : 0 ≤ k ∧ k ≤ 19) (ha : 0 ≤ ar ∧ ar ≤ 7)
    (hP : ∀ w1 v2, Ot (fun k => k = b) w w1 → RdAt w1 b 65 n [tv, .int .i64 (k + 1)] v2 L.tail → v2.ownBlock = v.ownBlock → Calls Tryz.prog 36 #[.pointer (some ⟨b, 0, none⟩), .agg #[.string ⟨(L.headD (endS n)).1.toArray⟩, .int .i64 (L.headD (endS n)).2], .int .i64 (ar + 1)] w1 fun e w' => ∃ a c, e = .returned (.tuple #[a, c]) ∧ P a c w') :
    Calls Tryz.prog 19 #[.pointer (some ⟨b, 0, none⟩), .int .i64 ar] w fun e w' => ∃ a c, e = .returned (.tuple #[a, c]) ∧ P a c w' := by
  obtain ⟨f, hx⟩ : ∃ f, L.headD (endS n) = f := ⟨_, rfl⟩
  have HNX : Hid (Calls Tryz.prog 20 #[.pointer (some ⟨b, 0, none⟩)] w fun e w' => e = .returned (.agg #[.string ⟨f.1.toArray⟩, .int .i64 f.2]) ∧ ∃ v2, RdAt w' b 65 n [tv, .int .i64 k] v2 L.tail ∧ v2.ownBlock = v.ownBlock ∧ Ot (fun k => k = b) w w') := by
    refine (sgnext_any w h).mono ?_
    rw [hx]
    rintro e w' ⟨rfl, v2, h1, h2, h3⟩
    exact ⟨rfl, v2, h1, h2, h3⟩
  rw [hx] at hf hP
  have HP : Hid (∀ w1 v2, Ot (fun k => k = b) w w1 → RdAt w1 b 65 n [tv, .int .i64 (k + 1)] v2 L.tail → v2.ownBlock = v.ownBlock → Calls Tryz.prog 36 #[.pointer (some ⟨b, 0, none⟩), .agg #[.string ⟨f.1.toArray⟩, .int .i64 f.2], .int .i64 (ar + 1)] w1 fun e w' => ∃ a c, e = .returned (.tuple #[a, c]) ∧ P a c w') := hP
  have hb := h.lt
  have a1 : decide ((7 : Int) < ar) = false := by simp; omega
  have a2 : decide ((20 : Int) < k + 1) = false := by simp; omega
  have a3 : IntKind.i64.wrap (k + 1) = k + 1 := by rw [IntKind.wrap_i64]; omega
  have a4 : IntKind.i64.wrap (ar + 1) = ar + 1 := by rw [IntKind.wrap_i64]; omega
  have o0 : (f.1 == [102, 105, 102, 111]) = false := by rw [hf]; rfl
  have o1 : (f.1 == [104, 101, 97, 100]) = false := by rw [hf]; rfl
  have o2 : (f.1 == [114, 101, 100]) = false := by rw [hf]; rfl
  have o3 : (f.1 == [109, 97, 114, 107]) = false := by rw [hf]; rfl
  have o4 : (f.1 == [100, 101, 108, 97, 121]) = false := by rw [hf]; rfl
  have o5 : (f.1 == [104, 97, 115, 104, 101, 100]) = false := by rw [hf]; rfl
  have o6 : (f.1 == [114, 111, 117, 110, 100, 115]) = false := by rw [hf]; rfl
  have o7 : (f.1 == [115, 104, 97, 112, 101]) = true := by rw [hf]; rfl
  clear h hf hP hk ha hx
  go_enter Tryz.func19, Tryz.ntmps19
  go_wp2_with (go_at_call 20; refine HNX.out.mono ?_; rintro e w1 ⟨rfl, v2, hr1, hv1, ho1⟩; have HR1 : Hid (RdAt w1 b 65 n [tv, .int .i64 k] v2 L.tail) := hr1; have HV1 : Hid (v2.ownBlock = v.ownBlock) := hv1; have HO1 : Hid (Ot (fun k => k = b) w w1) := ho1; obtain ⟨r4, f4⟩ := hr1.begun; have hl1 := hr1.lt; clear hr1 hv1 ho1)
  refine (HP.out _ v2 ((HO1.out.setCell (p := ⟨b, 4, none⟩) (Or.inl rfl) _).alloc _) ((HR1.out.begin_ (k + 1)).below (below_alloc_ (Below.refl _ _) _)) HV1.out).mono ?_
  rintro e w2 ⟨a, c, rfl, hr⟩
  go_wp2
  go_ret2
  exact ⟨a, c, rfl, hr⟩
set_option maxHeartbeats 4000000 in
theorem queue_to_bands {b : Nat} {n : Nat} {tv : Value} {k ar : Int} {v : Value} {L : List (List UInt8 × Nat)} {P : Value → Value → World → Prop} (w : World) (h : RdAt w b 65 n [tv, .int .i64 k] v L) (hf : (L.headD (endS n)).1 = [98, 97, 110, 100, 115]) (hk : 0 ≤ k ∧ k ≤ 19) (ha : 0 ≤ ar ∧ ar ≤ 7)
    (hP : ∀ w1 v2, Ot (fun k => k = b) w w1 → RdAt w1 b 65 n [tv, .int .i64 (k + 1)] v2 L.tail → v2.ownBlock = v.ownBlock → Calls Tryz.prog 37 #[.pointer (some ⟨b, 0, none⟩), .agg #[.string ⟨(L.headD (endS n)).1.toArray⟩, .int .i64 (L.headD (endS n)).2], .int .i64 (ar + 1)] w1 fun e w' => ∃ a c, e = .returned (.tuple #[a, c]) ∧ P a c w') :
    Calls Tryz.prog 19 #[.pointer (some ⟨b, 0, none⟩), .int .i64 ar] w fun e w' => ∃ a c, e = .returned (.tuple #[a, c]) ∧ P a c w' := by
  obtain ⟨f, hx⟩ : ∃ f, L.headD (endS n) = f := ⟨_, rfl⟩
  have HNX : Hid (Calls Tryz.prog 20 #[.pointer (some ⟨b, 0, none⟩)] w fun e w' => e = .returned (.agg #[.string ⟨f.1.toArray⟩, .int .i64 f.2]) ∧ ∃ v2, RdAt w' b 65 n [tv, .int .i64 k] v2 L.tail ∧ v2.ownBlock = v.ownBlock ∧ Ot (fun k => k = b) w w') := by
    refine (sgnext_any w h).mono ?_
    rw [hx]
    rintro e w' ⟨rfl, v2, h1, h2, h3⟩
    exact ⟨rfl, v2, h1, h2, h3⟩
  rw [hx] at hf hP
  have HP : Hid (∀ w1 v2, Ot (fun k => k = b) w w1 → RdAt w1 b 65 n [tv, .int .i64 (k + 1)] v2 L.tail → v2.ownBlock = v.ownBlock → Calls Tryz.prog 37 #[.pointer (some ⟨b, 0, none⟩), .agg #[.string ⟨f.1.toArray⟩, .int .i64 f.2], .int .i64 (ar + 1)] w1 fun e w' => ∃ a c, e = .returned (.tuple #[a, c]) ∧ P a c w') := hP
  have hb := h.lt
  have a1 : decide ((7 : Int) < ar) = false := by simp; omega
  have a2 : decide ((20 : Int) < k + 1) = false := by simp; omega
  have a3 : IntKind.i64.wrap (k + 1) = k + 1 := by rw [IntKind.wrap_i64]; omega
  have a4 : IntKind.i64.wrap (ar + 1) = ar + 1 := by rw [IntKind.wrap_i64]; omega
  have o0 : (f.1 == [102, 105, 102, 111]) = false := by rw [hf]; rfl
  have o1 : (f.1 == [104, 101, 97, 100]) = false := by rw [hf]; rfl
  have o2 : (f.1 == [114, 101, 100]) = false := by rw [hf]; rfl
  have o3 : (f.1 == [109, 97, 114, 107]) = false := by rw [hf]; rfl
  have o4 : (f.1 == [100, 101, 108, 97, 121]) = false := by rw [hf]; rfl
  have o5 : (f.1 == [104, 97, 115, 104, 101, 100]) = false := by rw [hf]; rfl
  have o6 : (f.1 == [114, 111, 117, 110, 100, 115]) = false := by rw [hf]; rfl
  have o7 : (f.1 == [115, 104, 97, 112, 101]) = false := by rw [hf]; rfl
  have o8 : (f.1 == [98, 97, 110, 100, 115]) = true := by rw [hf]; rfl
  clear h hf hP hk ha hx
  go_enter Tryz.func19, Tryz.ntmps19
  go_wp2_with (go_at_call 20; refine HNX.out.mono ?_; rintro e w1 ⟨rfl, v2, hr1, hv1, ho1⟩; have HR1 : Hid (RdAt w1 b 65 n [tv, .int .i64 k] v2 L.tail) := hr1; have HV1 : Hid (v2.ownBlock = v.ownBlock) := hv1; have HO1 : Hid (Ot (fun k => k = b) w w1) := ho1; obtain ⟨r4, f4⟩ := hr1.begun; have hl1 := hr1.lt; clear hr1 hv1 ho1)
  refine (HP.out _ v2 ((HO1.out.setCell (p := ⟨b, 4, none⟩) (Or.inl rfl) _).alloc _) ((HR1.out.begin_ (k + 1)).below (below_alloc_ (Below.refl _ _) _)) HV1.out).mono ?_
  rintro e w2 ⟨a, c, rfl, hr⟩
  go_wp2
  go_ret2
  exact ⟨a, c, rfl, hr⟩
end Go.Proofs.YtfakjedolecdcaaGreatDoor
namespace Go.Proofs.YtfakjedolecdcaaGreatDoor
open Go.RowKit Go.Extern.Stop Go.Stop Go.Extern

set_option maxHeartbeats 4000000 in
theorem queue_deep {b : Nat} {n : Nat} {tv : Value} {k ar : Int} {v : Value} {L : List (List UInt8 × Nat)} (w : World) (h : RdAt w b 65 n [tv, .int .i64 k] v L) (hk : 0 ≤ k ∧ k ≤ 100) (ha : 7 < ar ∧ ar ≤ 100) :
    Calls Tryz.prog 19 #[.pointer (some ⟨b, 0, none⟩), .int .i64 ar] w fun e w' => ∃ B v', e = .returned (.tuple #[.nilIface, errV B]) ∧ RdAt w' b 65 n [tv, .int .i64 (k + 1)] v' L.tail ∧ v'.ownBlock = v.ownBlock ∧ Ot (fun k => k = b) w w' := by
  obtain ⟨f, hx⟩ : ∃ f, L.headD (endS n) = f := ⟨_, rfl⟩
  have HNX : Hid (Calls Tryz.prog 20 #[.pointer (some ⟨b, 0, none⟩)] w fun e w' => e = .returned (.agg #[.string ⟨f.1.toArray⟩, .int .i64 f.2]) ∧ ∃ v2, RdAt w' b 65 n [tv, .int .i64 k] v2 L.tail ∧ v2.ownBlock = v.ownBlock ∧ Ot (fun k => k = b) w w') := by
    refine (sgnext_any w h).mono ?_
    rw [hx]
    rintro e w' ⟨rfl, v2, h1, h2, h3⟩
    exact ⟨rfl, v2, h1, h2, h3⟩
  have hb := h.lt
  have a3 : IntKind.i64.wrap (k + 1) = k + 1 := by rw [IntKind.wrap_i64]; omega
  have a1 : decide ((7 : Int) < ar) = true := by simp; omega
  clear h hk ha hx
  go_enter Tryz.func19, Tryz.ntmps19
  go_wp2_with (go_at_call 20; refine HNX.out.mono ?_; rintro e w1 ⟨rfl, v2, hr1, hv1, ho1⟩; have HR1 : Hid (RdAt w1 b 65 n [tv, .int .i64 k] v2 L.tail) := hr1; have HV1 : Hid (v2.ownBlock = v.ownBlock) := hv1; have HO1 : Hid (Ot (fun k => k = b) w w1) := ho1; obtain ⟨r4, f4⟩ := hr1.begun; have hl1 := hr1.lt; clear hr1 hv1 ho1)
  refine (wrongS_any _ _ _ _).mono ?_
  rintro e w2 ⟨B, rfl, hb2⟩
  go_wp2
  go_ret2
  exact ⟨B, v2, rfl, ((HR1.out.begin_ (k + 1)).below (below_alloc_ (Below.refl _ _) _)).below hb2, HV1.out, ((HO1.out.setCell (p := ⟨b, 4, none⟩) (Or.inl rfl) _).alloc _).trans (Ot.of_below hb2)⟩
set_option maxHeartbeats 4000000 in
theorem queue_many {b : Nat} {n : Nat} {tv : Value} {k ar : Int} {v : Value} {L : List (List UInt8 × Nat)} (w : World) (h : RdAt w b 65 n [tv, .int .i64 k] v L) (hk : 20 ≤ k ∧ k ≤ 100) (ha : 0 ≤ ar ∧ ar ≤ 7) :
    Calls Tryz.prog 19 #[.pointer (some ⟨b, 0, none⟩), .int .i64 ar] w fun e w' => ∃ B v', e = .returned (.tuple #[.nilIface, errV B]) ∧ RdAt w' b 65 n [tv, .int .i64 (k + 1)] v' L.tail ∧ v'.ownBlock = v.ownBlock ∧ Ot (fun k => k = b) w w' := by
  obtain ⟨f, hx⟩ : ∃ f, L.headD (endS n) = f := ⟨_, rfl⟩
  have HNX : Hid (Calls Tryz.prog 20 #[.pointer (some ⟨b, 0, none⟩)] w fun e w' => e = .returned (.agg #[.string ⟨f.1.toArray⟩, .int .i64 f.2]) ∧ ∃ v2, RdAt w' b 65 n [tv, .int .i64 k] v2 L.tail ∧ v2.ownBlock = v.ownBlock ∧ Ot (fun k => k = b) w w') := by
    refine (sgnext_any w h).mono ?_
    rw [hx]
    rintro e w' ⟨rfl, v2, h1, h2, h3⟩
    exact ⟨rfl, v2, h1, h2, h3⟩
  have hb := h.lt
  have a3 : IntKind.i64.wrap (k + 1) = k + 1 := by rw [IntKind.wrap_i64]; omega
  have a1 : decide ((7 : Int) < ar) = false := by simp; omega
  have a2 : decide ((20 : Int) < k + 1) = true := by simp; omega
  clear h hk ha hx
  go_enter Tryz.func19, Tryz.ntmps19
  go_wp2_with (go_at_call 20; refine HNX.out.mono ?_; rintro e w1 ⟨rfl, v2, hr1, hv1, ho1⟩; have HR1 : Hid (RdAt w1 b 65 n [tv, .int .i64 k] v2 L.tail) := hr1; have HV1 : Hid (v2.ownBlock = v.ownBlock) := hv1; have HO1 : Hid (Ot (fun k => k = b) w w1) := ho1; obtain ⟨r4, f4⟩ := hr1.begun; have hl1 := hr1.lt; clear hr1 hv1 ho1)
  refine (wrongS_any _ _ _ _).mono ?_
  rintro e w2 ⟨B, rfl, hb2⟩
  go_wp2
  go_ret2
  exact ⟨B, v2, rfl, ((HR1.out.begin_ (k + 1)).below (below_alloc_ (Below.refl _ _) _)).below hb2, HV1.out, ((HO1.out.setCell (p := ⟨b, 4, none⟩) (Or.inl rfl) _).alloc _).trans (Ot.of_below hb2)⟩
set_option maxHeartbeats 4000000 in
theorem queue_none {b : Nat} {n : Nat} {tv : Value} {k ar : Int} {v : Value} {L : List (List UInt8 × Nat)} (w : World) (h : RdAt w b 65 n [tv, .int .i64 k] v L) (hk : 0 ≤ k ∧ k ≤ 19) (ha : 0 ≤ ar ∧ ar ≤ 7) (hw : (L.headD (endS n)).1 ≠ [102, 105, 102, 111] ∧ (L.headD (endS n)).1 ≠ [104, 101, 97, 100] ∧ (L.headD (endS n)).1 ≠ [114, 101, 100] ∧ (L.headD (endS n)).1 ≠ [109, 97, 114, 107] ∧ (L.headD (endS n)).1 ≠ [100, 101, 108, 97, 121] ∧ (L.headD (endS n)).1 ≠ [104, 97, 115, 104, 101, 100] ∧ (L.headD (endS n)).1 ≠ [114, 111, 117, 110, 100, 115] ∧ (L.headD (endS n)).1 ≠ [115, 104, 97, 112, 101] ∧ (L.headD (endS n)).1 ≠ [98, 97, 110, 100, 115]) :
    Calls Tryz.prog 19 #[.pointer (some ⟨b, 0, none⟩), .int .i64 ar] w fun e w' => ∃ B v', e = .returned (.tuple #[.nilIface, errV B]) ∧ RdAt w' b 65 n [tv, .int .i64 (k + 1)] v' L.tail ∧ v'.ownBlock = v.ownBlock ∧ Ot (fun k => k = b) w w' := by
  obtain ⟨f, hx⟩ : ∃ f, L.headD (endS n) = f := ⟨_, rfl⟩
  have HNX : Hid (Calls Tryz.prog 20 #[.pointer (some ⟨b, 0, none⟩)] w fun e w' => e = .returned (.agg #[.string ⟨f.1.toArray⟩, .int .i64 f.2]) ∧ ∃ v2, RdAt w' b 65 n [tv, .int .i64 k] v2 L.tail ∧ v2.ownBlock = v.ownBlock ∧ Ot (fun k => k = b) w w') := by
    refine (sgnext_any w h).mono ?_
    rw [hx]
    rintro e w' ⟨rfl, v2, h1, h2, h3⟩
    exact ⟨rfl, v2, h1, h2, h3⟩
  have hb := h.lt
  have a3 : IntKind.i64.wrap (k + 1) = k + 1 := by rw [IntKind.wrap_i64]; omega
  have a1 : decide ((7 : Int) < ar) = false := by simp; omega
  have a2 : decide ((20 : Int) < k + 1) = false := by simp; omega
  rw [hx] at hw
  obtain ⟨h0, h1, h2, h3, h4, h5, h6, h7, h8⟩ := hw
  have o0 : (f.1 == [102, 105, 102, 111]) = false := by simpa using h0
  have o1 : (f.1 == [104, 101, 97, 100]) = false := by simpa using h1
  have o2 : (f.1 == [114, 101, 100]) = false := by simpa using h2
  have o3 : (f.1 == [109, 97, 114, 107]) = false := by simpa using h3
  have o4 : (f.1 == [100, 101, 108, 97, 121]) = false := by simpa using h4
  have o5 : (f.1 == [104, 97, 115, 104, 101, 100]) = false := by simpa using h5
  have o6 : (f.1 == [114, 111, 117, 110, 100, 115]) = false := by simpa using h6
  have o7 : (f.1 == [115, 104, 97, 112, 101]) = false := by simpa using h7
  have o8 : (f.1 == [98, 97, 110, 100, 115]) = false := by simpa using h8
  clear h0 h1 h2 h3 h4 h5 h6 h7 h8
  clear h hk ha hx
  go_enter Tryz.func19, Tryz.ntmps19
  go_wp2_with (go_at_call 20; refine HNX.out.mono ?_; rintro e w1 ⟨rfl, v2, hr1, hv1, ho1⟩; have HR1 : Hid (RdAt w1 b 65 n [tv, .int .i64 k] v2 L.tail) := hr1; have HV1 : Hid (v2.ownBlock = v.ownBlock) := hv1; have HO1 : Hid (Ot (fun k => k = b) w w1) := ho1; obtain ⟨r4, f4⟩ := hr1.begun; have hl1 := hr1.lt; clear hr1 hv1 ho1)
  refine (wrongS_any _ _ _ _).mono ?_
  rintro e w2 ⟨B, rfl, hb2⟩
  go_wp2
  go_ret2
  exact ⟨B, v2, rfl, ((HR1.out.begin_ (k + 1)).below (below_alloc_ (Below.refl _ _) _)).below hb2, HV1.out, ((HO1.out.setCell (p := ⟨b, 4, none⟩) (Or.inl rfl) _).alloc _).trans (Ot.of_below hb2)⟩
end Go.Proofs.YtfakjedolecdcaaGreatDoor
