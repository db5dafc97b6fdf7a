/-
  package plant: the reader of a queue, whatever stands there, at any depth: an error, or some queue; and Parse. Conditions: no sign is the word of rounds; what strconv and errors lay is laid; the tape lies in memory.
  millracekeep.busy: a text in which no sign is the word of rounds. Conditions: none.
  plant.Parse of a text that tells bands of Fifos. Conditions: as in Pn7.
  The law's fact that a text makes bands. Conditions: strconv's table and errors are laid.
  planted is true. Conditions: strconv's table and errors are laid.
-/
import Derived.Test.YtfakjedolecdcaaGreatDoorU40
import Derived.Test.YtfakjedolecdcaaGreatDoorU41
import Derived.Test.YtfakjedolecdcaaGreatDoorU42
import Derived.Test.YtfakjedolecdcaaGreatDoorU38
import Derived.Test.YtfakjedolecdcaaGreatDoorU34
namespace Go.Proofs.YtfakjedolecdcaaGreatDoor
open Go.RowKit Go.Extern.Stop Go.Stop Go.Extern
variable {E : Prop}

theorem Qk.form {m : Nat} {w w' : World} {e : Ending} (h : Qk E m w w' e) : ∃ a c, e = .returned (.tuple #[a, c]) := by
  rcases h with ⟨B, rfl⟩ | ⟨M, cont, s0, F, rfl, -⟩
  · exact ⟨_, _, rfl⟩
  · exact ⟨_, _, rfl⟩
theorem QkB.after {w w1 w' : World} {b n k : Nat} {tv v v1 : Value} {L L1 : List (List UInt8 × Nat)} {e : Ending} (h : QkB E w1 w' b n tv k v1 L1 e) (ho : Ot (fun k => k = b) w w1) (hv : v1.ownBlock = v.ownBlock) (hs : ∀ y ∈ L1, y ∈ L) : QkB E w w' b n tv k v L e := by
  obtain ⟨m, L', v', h1, h2, h3, h4, h5, h6, h7⟩ := h
  exact ⟨m, L', v', h1.mono ho.size, h2, h3, h4, h5.trans hv, fun y hy => hs y (h6 y hy), ho.trans h7⟩
theorem QkB.form {w w' : World} {b n k : Nat} {tv v : Value} {L : List (List UInt8 × Nat)} {e : Ending} (h : QkB E w w' b n tv k v L e) : ∃ a c, e = .returned (.tuple #[a, c]) ∧ QkB E w w' b n tv k v L (.returned (.tuple #[a, c])) := by
  obtain ⟨m, L', v', h1, hr⟩ := h
  obtain ⟨a, c, rfl⟩ := h1.form
  exact ⟨a, c, rfl, m, L', v', h1, hr⟩
theorem QkR.qkB {w w' : World} {b n k : Nat} {tv v : Value} {L : List (List UInt8 × Nat)} {e : Ending} (h : QkR E 1 w w' b n [tv, .int .i64 ((k + 1 : Nat) : Int)] v L e) (hk : k + 1 ≤ 20) : QkB E w w' b n tv k v L e := by
  obtain ⟨h1, L', v', h2, h3, h4, h5⟩ := h
  exact ⟨1, L', v', h1, Nat.le_refl _, Or.inl hk, h2, h3, h4, h5⟩
theorem QkB.err {w w' : World} {b n k : Nat} {tv v v' : Value} {L : List (List UInt8 × Nat)} {B : Nat} (hr : RdAt w' b 65 n [tv, .int .i64 ((k : Int) + 1)] v' L.tail) (hv : v'.ownBlock = v.ownBlock) (ho : Ot (fun k => k = b) w w') : QkB E w w' b n tv k v L (.returned (.tuple #[.nilIface, errV B])) :=
  ⟨1, L.tail, v', Or.inl ⟨B, rfl⟩, Nat.le_refl _, Or.inr ⟨B, rfl⟩, hr, hv, fun _ hy => List.mem_of_mem_tail hy, ho⟩
theorem queueC_all {b n : Nat} {px : Option Addr} {m pcap : Nat} {fn : Nat → Int} (hpn : px = none → m = 0 ∧ pcap = 0) (hm : m ≤ 1000) : ∀ (d : Nat) (ar : Int), 0 ≤ ar → ar ≤ 8 → 8 ≤ ar + d → QueueC E b n px m pcap fn ar := by
  have deep : QueueC E b n px m pcap fn 8 := by
    intro k v L w h hE hL hk
    refine (queue_deep w h (by omega) (by omega)).mono ?_
    rintro e w' ⟨B, v', rfl, h1, h2, h3⟩
    exact QkB.err h1 h2 h3
  intro d
  induction d with
  | zero =>
    intro ar h0 h8 hd
    obtain rfl : ar = 8 := by omega
    exact deep
  | succ d ih =>
    intro ar h0 h8 hd
    by_cases ha : ar = 8
    · subst ha; exact deep
    · have hQ := ih (ar + 1) (by omega) (by omega) (by omega)
      intro k v L w h hE hL hk
      by_cases hk20 : k = 20
      · refine (queue_many w h (by omega) (by omega)).mono ?_
        rintro e w' ⟨B, v', rfl, h1, h2, h3⟩
        exact QkB.err h1 h2 h3
      · have hk1 : k + 1 ≤ 20 := by omega
        have hkk : (0 : Int) ≤ k ∧ (k : Int) ≤ 19 := by omega
        have haa : 0 ≤ ar ∧ ar ≤ 7 := by omega
        have hT : ∀ y ∈ L.tail, y ∈ L := fun _ hy => List.mem_of_mem_tail hy
        have hLt : ∀ x ∈ L.tail, x.1.length ≤ 2000 := fun x hx => (hL x (hT x hx)).1
        have fin : ∀ {w1 w' : World} {v2 : Value} {e : Ending}, Ot (fun k => k = b) w w1 → v2.ownBlock = v.ownBlock → QkB E w1 w' b n (.slice px m pcap) k v2 L.tail e → ∃ a c, e = .returned (.tuple #[a, c]) ∧ QkB E w w' b n (.slice px m pcap) k v L (.returned (.tuple #[a, c])) := fun ho hv hq => (hq.after ho hv hT).form
        have done : ∀ {e : Ending} {w' : World}, (∃ a c, e = .returned (.tuple #[a, c]) ∧ QkB E w w' b n (.slice px m pcap) k v L (.returned (.tuple #[a, c]))) → QkB E w w' b n (.slice px m pcap) k v L e := by
          rintro e w' ⟨a, c, rfl, h⟩
          exact h
        by_cases e1 : (L.headD (endS n)).1 = [102, 105, 102, 111]
        · refine (queue_to_fifo (P := fun a c w' => QkB E w w' b n (.slice px m pcap) k v L (.returned (.tuple #[a, c]))) w h e1 hkk haa (fun w1 v2 ho hr hv => ?_)).mono (fun _ _ => done)
          exact (fifo_gen _ w1 (rest := [.slice px m pcap, .int .i64 ((k + 1 : Nat) : Int)]) hr (fun w' h' => ⟨(hE w' (ho.trans h')).1, (hE w' (ho.trans h')).2.1⟩) hLt).mono (fun _ _ hq => fin ho hv (QkR.qkB hq hk1))
        by_cases e2 : (L.headD (endS n)).1 = [104, 101, 97, 100]
        · refine (queue_to_head (P := fun a c w' => QkB E w w' b n (.slice px m pcap) k v L (.returned (.tuple #[a, c]))) w h e2 hkk haa (fun w1 v2 ho hr hv => ?_)).mono (fun _ _ => done)
          exact (fifo_gen _ w1 (rest := [.slice px m pcap, .int .i64 ((k + 1 : Nat) : Int)]) hr (fun w' h' => ⟨(hE w' (ho.trans h')).1, (hE w' (ho.trans h')).2.1⟩) hLt).mono (fun _ _ hq => fin ho hv (QkR.qkB hq hk1))
        by_cases e3 : (L.headD (endS n)).1 = [114, 101, 100]
        · refine (queue_to_red (P := fun a c w' => QkB E w w' b n (.slice px m pcap) k v L (.returned (.tuple #[a, c]))) w h e3 hkk haa (fun w1 v2 ho hr hv => ?_)).mono (fun _ _ => done)
          exact (red_gen (k0 := ((k + 1 : Nat) : Int)) _ w1 hr (fun w' h' => ⟨(hE w' (ho.trans h')).1, (hE w' (ho.trans h')).2.1⟩) hLt (fun w' h' => (hE w' (ho.trans h')).2.2) hpn hm).mono (fun _ _ hq => fin ho hv (QkR.qkB hq hk1))
        by_cases e4 : (L.headD (endS n)).1 = [109, 97, 114, 107]
        · refine (queue_to_mark (P := fun a c w' => QkB E w w' b n (.slice px m pcap) k v L (.returned (.tuple #[a, c]))) w h e4 hkk haa (fun w1 v2 ho hr hv => ?_)).mono (fun _ _ => done)
          exact (red_gen (k0 := ((k + 1 : Nat) : Int)) _ w1 hr (fun w' h' => ⟨(hE w' (ho.trans h')).1, (hE w' (ho.trans h')).2.1⟩) hLt (fun w' h' => (hE w' (ho.trans h')).2.2) hpn hm).mono (fun _ _ hq => fin ho hv (QkR.qkB hq hk1))
        by_cases e5 : (L.headD (endS n)).1 = [100, 101, 108, 97, 121]
        · refine (queue_to_delay (P := fun a c w' => QkB E w w' b n (.slice px m pcap) k v L (.returned (.tuple #[a, c]))) w h e5 hkk haa (fun w1 v2 ho hr hv => ?_)).mono (fun _ _ => done)
          exact (delay_gen _ w1 (rest := [.slice px m pcap, .int .i64 ((k + 1 : Nat) : Int)]) hr (fun w' h' => ⟨(hE w' (ho.trans h')).1, (hE w' (ho.trans h')).2.1⟩) hLt).mono (fun _ _ hq => fin ho hv (QkR.qkB hq hk1))
        by_cases e6 : (L.headD (endS n)).1 = [104, 97, 115, 104, 101, 100]
        · refine (queue_to_hashed (P := fun a c w' => QkB E w w' b n (.slice px m pcap) k v L (.returned (.tuple #[a, c]))) w h e6 hkk haa (fun w1 v2 ho hr hv => ?_)).mono (fun _ _ => done)
          exact (hashed_gen _ w1 (rest := [.slice px m pcap, .int .i64 ((k + 1 : Nat) : Int)]) hr (fun w' h' => ⟨(hE w' (ho.trans h')).1, (hE w' (ho.trans h')).2.1⟩) hLt).mono (fun _ _ hq => fin ho hv (QkR.qkB hq hk1))
        have e7 : (L.headD (endS n)).1 ≠ [114, 111, 117, 110, 100, 115] := by
          cases L with
          | nil => exact fun e => by simp [endS] at e
          | cons x R => exact (hL x (by simp)).2.1
        by_cases e8 : (L.headD (endS n)).1 = [115, 104, 97, 112, 101]
        · refine (queue_to_shape (P := fun a c w' => QkB E w w' b n (.slice px m pcap) k v L (.returned (.tuple #[a, c]))) w h e8 hkk haa (fun w1 v2 ho hr hv => ?_)).mono (fun _ _ => done)
          have hne : ¬ E := by
            cases L with
            | nil => exact fun _ => by simp [endS] at e8
            | cons x R => exact fun e => (hL x (by simp)).2.2 e e8
          exact (shape_gen _ w1 hQ hr (hE.ot ho) (hL.sub hT) hk1 hne).mono (fun _ _ hq => fin ho hv hq)
        by_cases e9 : (L.headD (endS n)).1 = [98, 97, 110, 100, 115]
        · refine (queue_to_bands (P := fun a c w' => QkB E w w' b n (.slice px m pcap) k v L (.returned (.tuple #[a, c]))) w h e9 hkk haa (fun w1 v2 ho hr hv => ?_)).mono (fun _ _ => done)
          exact (bands_gen _ w1 hQ hr (hE.ot ho) (hL.sub hT) hk1).mono (fun _ _ hq => fin ho hv hq)
        · refine (queue_none w h hkk haa ⟨e1, e2, e3, e4, e5, e6, e7, e8, e9⟩).mono ?_
          rintro e w' ⟨B, v', rfl, h1, h2, h3⟩
          exact QkB.err h1 h2 h3
theorem Qk.le {m m' : Nat} {w w' : World} {e : Ending} (h : Qk E m w w' e) (hm : m ≤ m') : Qk E m' w w' e := by
  rcases h with h | ⟨M, cont, s0, F, he, hM, hK, hT, hr⟩
  · exact Or.inl h
  · exact Or.inr ⟨M, cont, s0, F, he, hM, hK, hT.le hm, hr⟩
/-- Parse of any text in which no sign is the word of rounds. -/
theorem parse_all (s : ByteArray) {px : Option Addr} {m pcap : Nat} {fn : Nat → Int} (w : World) (hs : s.size ≤ 2000) (hm : m ≤ 1000) (hpn : px = none → m = 0 ∧ pcap = 0) (hE : ∀ w', Below w.heap.size w w' → Glob w' ∧ Laid w' ∧ IRow w' px m fn) (hL : LsOk E (signsL [32, 40, 41, 44] s.data.toList 0)) :
    Calls Tryz.prog 7 #[.string s, .slice px m pcap] w fun e w' => Qk E 20 w w' e ∧ Below w.heap.size w w' := by
  refine parse_of s w hs hm (fun w1 b v hb hbl hr => ?_)
  have hC := queueC_all (E := E) (b := b) (n := s.size) (fn := fn) hpn hm 8 0 (by omega) (by omega) (by omega)
  refine (hC 0 v _ w1 hr (fun w' h' => hE w' (hbl.trans (h'.below hbl.size (fun k hk => by omega)))) hL (by omega)).mono ?_
  rintro e w' ⟨m1, L', v', h1, h2, h3, h4, h5, h6, h7⟩
  refine ⟨?_, _, L', v', h4, h5, h6, h7⟩
  rcases h3 with h3 | ⟨B, rfl⟩
  · exact h1.le (by omega)
  · exact Or.inl ⟨B, rfl⟩
end Go.Proofs.YtfakjedolecdcaaGreatDoor
namespace Go.Proofs.YtfakjedolecdcaaGreatDoor
open Go.RowKit Go.Extern.Stop Go.Stop Go.Extern
variable {E : Prop}

theorem signF_infix (al : List UInt8) : ∀ (f : Nat) (l : List UInt8) (p : Nat) (x : List UInt8 × Nat), x ∈ signF al f l p → x.1 <:+: l := by
  intro f
  induction f with
  | zero => intro l p x h; simp [signF] at h
  | succ f ih =>
    intro l p x h
    cases l with
    | nil => simp [signF] at h
    | cons b l =>
      simp only [signF, List.mem_append] at h
      rcases h with h | h
      · split at h
        · simp at h
        · simp only [List.mem_singleton] at h
          subst h
          exact (List.take_prefix _ _).isInfix
      · exact (ih _ _ _ h).trans (List.drop_suffix _ _).isInfix
theorem infix_at {b l : List UInt8} (h : b <:+: l) : ∃ j, j + b.length ≤ l.length ∧ (l.drop j).take b.length = b := by
  obtain ⟨s, t, rfl⟩ := h
  refine ⟨s.length, by simp, ?_⟩
  rw [List.append_assoc, List.drop_left, List.take_left]
theorem lsOk_of {E : Prop} {s : ByteArray} (hs : s.size ≤ 2000) (h : ∀ j, j + 6 ≤ s.size → ¬ (s.extract j (j + 6)).toList = roundsB) (h5 : E → ∀ j, j + 5 ≤ s.size → ¬ (s.extract j (j + 5)).toList = shapeB) : LsOk E (signsL [32, 40, 41, 44] s.data.toList 0) := by
  intro x hx
  have hi := signF_infix _ _ _ _ _ hx
  have hsz : s.data.toList.length = s.size := Array.length_toList
  refine ⟨by have := hi.length_le; omega, fun e => ?_, fun hE e => ?_⟩
  · rw [e] at hi
    obtain ⟨j, h1, h2⟩ := infix_at hi
    have h1' : j + 6 ≤ s.data.toList.length := h1
    refine h j (by omega) ?_
    rw [toList_data, ext_list]
    exact h2
  · rw [e] at hi
    obtain ⟨j, h1, h2⟩ := infix_at hi
    have h1' : j + 5 ≤ s.data.toList.length := h1
    refine h5 hE j (by omega) ?_
    rw [toList_data, ext_list]
    exact h2
theorem busy_text (s : ByteArray) (w : World) (hs : s.size ≤ 600) :
    Calls Tryz.prog 6 #[.string s] w fun e w' => (e = .returned (.bool true) ∨ e = .returned (.bool false) ∧ ∀ j, j + 6 ≤ s.size → ¬ (s.extract j (j + 6)).toList = roundsB) ∧ Below w.heap.size w w' := by
  go_enter Tryz.func6, Tryz.ntmps6
  go_wp2
  go_loopw [3] (fun pv wr => ∃ i : Nat, i ≤ s.size ∧ pv = .int .i64 i ∧ wr = w ∧ ∀ j, j < i → j + 6 ≤ s.size → ¬ (s.extract j (j + 6)).toList = roundsB) (fun pv _ => s.size + 1 - (intOf pv).toNat)
  case atStart => exact ⟨0, Nat.zero_le _, rfl, rfl, fun j hj => absurd hj (by omega)⟩
  case round =>
    obtain ⟨i, hi, rfl, rfl, hall⟩ := hrel
    have HALL : Hid (∀ j, j < i → j + 6 ≤ s.size → ¬ (s.extract j (j + 6)).toList = roundsB) := hall
    clear hall
    by_cases h6 : i + 6 ≤ s.size
    · have hj1 : (i : Int) ≤ (i : Int) + 6 := by omega
      have hj2 : (i : Int) + 6 ≤ (s.size : Int) := by omega
      have hj3 : ((i : Int) + 6).toNat = i + 6 := by omega
      by_cases hr : (s.extract i (i + 6)).toList = roundsB
      · have o1 : ((s.extract i (i + 6)).toList == [114, 111, 117, 110, 100, 115]) = true := by rw [hr]; rfl
        clear hr
        go_wp2
        go_ret
        exact ⟨Or.inl rfl, Below.refl _ _⟩
      · have o1 : ((s.extract i (i + 6)).toList == [114, 111, 117, 110, 100, 115]) = false := by simpa [roundsB] using hr
        have HR : Hid (¬ (s.extract i (i + 6)).toList = roundsB) := hr
        clear hr
        go_wp2
        go_roundw
        case rel =>
          refine ⟨i + 1, by omega, by go_num, trivial, fun j hj h => ?_⟩
          by_cases e : j = i
          · subst e; exact HR.out
          · exact HALL.out j (by omega) h
        case measure => simp [intOf]; omega
    · have hj2 : ¬ (i : Int) + 6 ≤ (s.size : Int) := by omega
      go_wp2
      go_ret
      exact ⟨Or.inr ⟨rfl, fun j hj => HALL.out j (by omega) hj⟩, Below.refl _ _⟩
end Go.Proofs.YtfakjedolecdcaaGreatDoor
namespace Go.Proofs.YtfakjedolecdcaaGreatDoor
open Go.RowKit Go.Extern.Stop Go.Stop Go.Extern

def bandsB : List UInt8 := [98, 97, 110, 100, 115]
structure Fits (fs : List FSp) (N : Nat) : Prop where
  len : fs.length = N
  one : 1 ≤ N
  eight : N ≤ 8
  each : ∀ (i : Nat) (s : FSp), fs[i]? = some s → s.ok ∧ (s.sep.1 == [41]) = decide (i + 1 = N) ∧ (s.sep.1 == [44]) = decide (i + 1 < N)
set_option maxHeartbeats 4000000 in
theorem queue_bands {b n : Nat} {tv : Value} {k ar : Int} {v : Value} {f o : List UInt8 × Nat} {fs : List FSp} {N : Nat} {R : List (List UInt8 × Nat)} (w : World) (h : RdAt w b 65 n [tv, .int .i64 k] v (f :: o :: (bsigns fs ++ R))) (hB : ∀ w', Ot (fun k => k = b) w w' → Glob w') (hf : f.1 = bandsB) (ho : (o.1 == [40]) = true) (hF : Fits fs N) (hk : 0 ≤ k ∧ k + 1 + N ≤ 20) (ha : 0 ≤ ar ∧ ar ≤ 6) :
    Calls Tryz.prog 19 #[.pointer (some ⟨b, 0, none⟩), .int .i64 ar] w fun e w' => BandT w w' b n [tv, .int .i64 (k + 1 + N)] v fs N R e := by
  have HNX : Hid (Calls Tryz.prog 20 #[.pointer (some ⟨b, 0, none⟩)] w fun e w' => e = .returned (.agg #[.string ⟨f.1.toArray⟩, .int .i64 f.2]) ∧ ∃ v2, RdAt w' b 65 n [tv, .int .i64 k] v2 (o :: (bsigns fs ++ R)) ∧ v2.ownBlock = v.ownBlock ∧ Ot (fun k => k = b) w w') := by
    refine (sgnext_any w h).mono ?_
    rintro e w' ⟨rfl, v2, h1, h2, h3⟩
    exact ⟨rfl, v2, h1, h2, h3⟩
  have HFF : Hid (∀ w1 v2, Ot (fun k => k = b) w w1 → RdAt w1 b 65 n [tv, .int .i64 (k + 1)] v2 (o :: (bsigns fs ++ R)) → v2.ownBlock = v.ownBlock → Calls Tryz.prog 37 #[.pointer (some ⟨b, 0, none⟩), .agg #[.string ⟨f.1.toArray⟩, .int .i64 f.2], .int .i64 (ar + 1)] w1 fun e w' => BandT w w' b n [tv, .int .i64 (k + 1 + N)] v fs N R e) := by
    intro w1 v2 ho' hr hv
    refine (bands_yes f w1 hr (fun w' h' => hB w' (ho'.trans h')) ho hF.len hF.one hF.eight (by omega) (by omega) hF.each).mono ?_
    rintro e w' ⟨B, g, goff, gcap, bs, v', rfl, h1, h2, h3, h4, h5⟩
    exact ⟨B, g, goff, gcap, bs, v', rfl, h1, fun k hk => Nat.le_trans ho'.size (h2 k hk), h3, h4.trans hv, ho'.trans h5⟩
  have hb := h.lt
  have a1 : decide ((7 : Int) < ar) = false := by simp; omega
  have a2 : decide ((20 : Int) < k + 1) = false := by simp; omega
  have a3 : IntKind.i64.wrap (k + 1) = k + 1 := by rw [IntKind.wrap_i64]; omega
  have a4 : IntKind.i64.wrap (ar + 1) = ar + 1 := by rw [IntKind.wrap_i64]; omega
  have o1 : (f.1 == [102, 105, 102, 111]) = false := by rw [hf]; rfl
  have o2 : (f.1 == [104, 101, 97, 100]) = false := by rw [hf]; rfl
  have o3 : (f.1 == [114, 101, 100]) = false := by rw [hf]; rfl
  have o4 : (f.1 == [109, 97, 114, 107]) = false := by rw [hf]; rfl
  have o5 : (f.1 == [100, 101, 108, 97, 121]) = false := by rw [hf]; rfl
  have o6 : (f.1 == [104, 97, 115, 104, 101, 100]) = false := by rw [hf]; rfl
  have o7 : (f.1 == [114, 111, 117, 110, 100, 115]) = false := by rw [hf]; rfl
  have o8 : (f.1 == [115, 104, 97, 112, 101]) = false := by rw [hf]; rfl
  have o9 : (f.1 == [98, 97, 110, 100, 115]) = true := by rw [hf]; rfl
  clear h hB hf ho hF
  go_enter Tryz.func19, Tryz.ntmps19
  go_wp2_with (go_at_call 20; refine HNX.out.mono ?_; rintro e w1 ⟨rfl, v2, hr1, hv1, ho1⟩; have HR1 : Hid (RdAt w1 b 65 n [tv, .int .i64 k] v2 (o :: (bsigns fs ++ R))) := hr1; have HV1 : Hid (v2.ownBlock = v.ownBlock) := hv1; have HO1 : Hid (Ot (fun k => k = b) w w1) := ho1; obtain ⟨r4, f4⟩ := hr1.begun; have hl1 := hr1.lt; clear hr1 hv1 ho1)
  refine (HFF.out _ v2 ((HO1.out.setCell (p := ⟨b, 4, none⟩) (Or.inl rfl) _).alloc _) ((HR1.out.begin_ (k + 1)).below (below_alloc_ (Below.refl _ _) _)) HV1.out).mono ?_
  rintro e w2 ⟨B, g, goff, gcap, bs, v', rfl, hr⟩
  go_wp2
  go_ret2
  exact ⟨B, g, goff, gcap, bs, v', rfl, hr⟩
set_option maxHeartbeats 4000000 in
theorem parse_bands {f o : List UInt8 × Nat} {fs : List FSp} {N : Nat} (s : ByteArray) (w : World) (hG : Glob w) (hs : s.size ≤ 2000) (hL : signsL [32, 40, 41, 44] s.data.toList 0 = f :: o :: bsigns fs) (hf : f.1 = bandsB) (ho : (o.1 == [40]) = true) (hF : Fits fs N) :
    Calls Tryz.prog 7 #[.string s, .slice none 0 0] w fun e w' => ∃ B g goff gcap bs, e = .returned (.tuple #[.iface 137 (.pointer (some ⟨B, 0, none⟩)), .nilIface]) ∧ BAt (FQs fs bs) N B g goff gcap w' (fun i k => k = bs i) (fun _ => ([] : List Hd)) ∧ (∀ k, foot N B g (fun i k => k = bs i) k → w.heap.size ≤ k) ∧ Below w.heap.size w w' := by
  have hpos : 0 < (f :: o :: bsigns fs).length := by simp
  have HRD : Hid (Calls Tryz.prog 18 #[.string s, .string ⟨#[40, 41, 44]⟩] w fun e w' => ∃ rv, e = .returned (.agg #[rv, .string ⟨#[]⟩, .int .i64 s.size]) ∧ Seg w' 60 2 rv (f :: o :: bsigns fs).length (flt sgc (f :: o :: bsigns fs)) ∧ (∀ b, rv.ownBlock = some b → w.heap.size ≤ b) ∧ Below w.heap.size w w') := by
    refine (read_any s ⟨#[40, 41, 44]⟩ w hs (by decide) (by decide) ?_).mono ?_
    · intro j b hj
      match j with
      | 0 => simp at hj; subst hj; decide
      | 1 => simp at hj; subst hj; decide
      | 2 => simp at hj; subst hj; decide
      | j + 3 => simp at hj
    · rintro e w' ⟨rv, rfl, hsg, hn, hb⟩
      rw [show (32 :: (⟨#[40, 41, 44]⟩ : ByteArray).data.toList) = [32, 40, 41, 44] from rfl, hL] at hsg
      exact ⟨rv, rfl, hsg, hn, hb⟩
  have HQ : Hid (∀ w1 b v, w.heap.size ≤ b → Below w.heap.size w w1 → RdAt w1 b 65 s.size [.slice none 0 0, .int .i64 0] v (f :: o :: bsigns fs) → Calls Tryz.prog 19 #[.pointer (some ⟨b, 0, none⟩), .int .i64 0] w1 fun e w' => BandT w1 w' b s.size [.slice none 0 0, .int .i64 (0 + 1 + N)] v fs N [] e) := by
    intro w1 b v hb hw hr
    refine queue_bands w1 (by rw [List.append_nil]; exact hr) (fun w' h' => hG.below ?_) hf ho hF (by have := hF.eight; omega) (by decide)
    exact hw.trans (h'.below hw.size (fun k hk => by omega))
  have a1 : decide ((2000 : Int) < (s.size : Int)) = false := by simp; omega
  generalize hm : (f :: o :: bsigns fs).length = m at *
  have hF2 := hF
  clear hG hs hL hf ho hF
  go_enter Tryz.func7, Tryz.ntmps7
  go_wp2_with (go_at_call 18; refine HRD.out.mono ?_; rintro e w1 ⟨rv, rfl, hsg, hn, hb1⟩; obtain ⟨rg, roff, rcap, rfl, _, _, _, _⟩ := hsg.some hpos)
  have hrd : RdAt (w1.alloc (.cells #[.slice (some ⟨rg, roff, none⟩) m rcap, .string ⟨#[]⟩, .int .i64 s.size, .slice none 0 0, .int .i64 0] 65)) w1.heap.size 65 s.size [.slice none 0 0, .int .i64 0] (.slice (some ⟨rg, roff, none⟩) m rcap) (f :: o :: bsigns fs) :=
    ⟨new_block _ _, by rw [hm]; exact hsg.alloc _, fun e => by have := hsg.lt e; omega⟩
  refine (HQ.out _ _ _ hb1.size (hb1.alloc hb1.size _) hrd).mono ?_
  rintro e w2 ⟨B, g, goff, gcap, bs, v', rfl, hba, hft, hr2, hv2, ho2⟩
  have hbl := hr2.lt
  have HBA : Hid (BAt (FQs fs bs) N B g goff gcap w2 (fun i k => k = bs i) (fun _ => ([] : List Hd))) := hba
  have HNX : Hid (Calls Tryz.prog 20 #[.pointer (some ⟨w1.heap.size, 0, none⟩)] w2 fun e w' => e = .returned (.agg #[.string ⟨#[]⟩, .int .i64 s.size]) ∧ Ot (fun k => k = w1.heap.size) w2 w') := by
    refine (sgnext_any w2 hr2).mono ?_
    rintro e w' ⟨rfl, _, _, _, h⟩
    exact ⟨rfl, h⟩
  have HB2 : Hid (Below w.heap.size w w2) := (hb1.alloc hb1.size _).trans (ho2.below (by simp; have := hb1.size; omega) (fun k hk => by have := hb1.size; omega))
  have HFT : Hid (∀ k, foot N B g (fun i k => k = bs i) k → w.heap.size ≤ k ∧ w1.heap.size < k) := fun k hk => by have h1 := hft k hk; have := hb1.size; simp at h1; omega
  have hw1 := hb1.size
  have HF2 : Hid (Fits fs N) := hF2
  clear hrd hsg hn hb1 hba hft hr2 hv2 ho2 HQ HRD hF2 hm
  go_wp2_with (first | (go_at_call 20; refine HNX.out.mono ?_; rintro e w3 ⟨rfl, ho3⟩) | (go_at_call 21; refine (end_any ([], s.size) _).mono ?_; rintro e w4 ⟨rfl, hb4⟩))
  go_ret2
  have hb3 : Below w.heap.size w2 w3 := ho3.below HB2.out.size (fun k hk => by omega)
  refine ⟨B, g, goff, gcap, bs, rfl, ?_, fun k hk => (HFT.out k hk).1, (HB2.out.trans hb3).trans ?_⟩
  · have hS := FQs_small fs bs HF2.out.len HF2.out.one HF2.out.eight (fun i s h => (HF2.out.each i s h).1)
    refine BAt.kept hS.fine HBA.out (fun k hk => ?_)
    have hk2 : k < w2.heap.size := by
      rcases hk with rfl | rfl | ⟨i, hi, rfl⟩
      · exact lt_of_block HBA.out.blk
      · exact HBA.out.obl
      · obtain ⟨v, h, _⟩ := HBA.out.each i hi
        exact h.lt
    have hk3 := (HFT.out k hk).2
    have hs3 := ho3.size
    rw [hb4.block k (by simp; omega), Below.heap_alloc _ _ _ (by omega), ho3.block k hk2 (by omega)]
  · exact ((Below.refl _ _).alloc (HB2.out.trans hb3).size _).trans (hb4.mono (by simp; have := (HB2.out.trans hb3).size; omega))
end Go.Proofs.YtfakjedolecdcaaGreatDoor
namespace Go.Proofs.YtfakjedolecdcaaGreatDoor
open Go.RowKit Go.Extern.Stop Go.Stop Go.Extern

def textP : ByteArray := ⟨#[98, 97, 110, 100, 115, 32, 40, 102, 105, 102, 111, 32, 49, 32, 49, 48, 44, 32, 104, 101, 97, 100, 32, 50, 32, 50, 48, 41]⟩
def spP : List FSp := [⟨(fifoB, 7), ([49], 12), ([49, 48], 14), ([44], 16), 1, 10⟩, ⟨(headB, 18), ([50], 23), ([50, 48], 25), ([41], 27), 2, 20⟩]
theorem signsP : signsL [32, 40, 41, 44] textP.data.toList 0 = (bandsB, 0) :: ([40], 6) :: bsigns spP := by rfl
theorem num1 : numL [49] = some 1 := by kernel_rfl
theorem num10 : numL [49, 48] = some 10 := by kernel_rfl
theorem num2 : numL [50] = some 2 := by kernel_rfl
theorem num20 : numL [50, 48] = some 20 := by kernel_rfl
theorem num1000 : numL [49, 48, 48, 48] = some 1000 := by kernel_rfl
theorem num1e6 : numL [49, 48, 48, 48, 48, 48, 48] = some 1000000 := by kernel_rfl
theorem fitsP : Fits spP 2 := by
  refine ⟨rfl, by decide, by decide, ?_⟩
  intro i s hs
  match i with
  | 0 =>
    simp [spP] at hs
    subst hs
    exact ⟨⟨Or.inl rfl, num1, num10, by decide, by decide, by decide, by decide⟩, by decide, by decide⟩
  | 1 =>
    simp [spP] at hs
    subst hs
    exact ⟨⟨Or.inr ⟨rfl, rfl⟩, num2, num20, by decide, by decide, by decide, by decide⟩, by decide, by decide⟩
  | i + 2 => simp [spP] at hs
theorem asciiP : ascii textP.data.toList := by
  intro j b hj
  have h := List.mem_of_getElem? hj
  revert h
  revert b
  show ∀ b, _ → b ∈ textP.data.toList → _
  intro b _ h
  simp [textP] at h
  rcases h with rfl | rfl | rfl | rfl | rfl | rfl | rfl | rfl | rfl | rfl | rfl | rfl | rfl | rfl | rfl | rfl | rfl | rfl | rfl | rfl | rfl | rfl | rfl | rfl | rfl | rfl | rfl | rfl <;> decide
def stepsP : List Stp := [⟨0, 0, 0, 5, 0, 3, 0⟩, ⟨0, 0, 0, 5, 0, 0, 0⟩, ⟨1, 0, 0, 0, 0, 0, 0⟩]
theorem playP (bs : Nat → Nat) (B g goff gcap : Nat) : ∃ a b c d e, playFrom (BandsM (FQs spP bs) 2 B g goff gcap) (fun _ => ([] : List Hd)) 0 (timesL 0 stepsP) = [a, b, ⟨1, c, d, 1, e, []⟩] := ⟨_, _, _, _, _, by rfl⟩
end Go.Proofs.YtfakjedolecdcaaGreatDoor
namespace Go.Proofs.YtfakjedolecdcaaGreatDoor
open Go.RowKit Go.Extern.Stop Go.Stop Go.Extern

set_option maxHeartbeats 2000000 in
theorem planted_true (w : World) (hG : Glob w) : Calls Tryz.prog 8 #[] w fun e w' => e = .returned (.bool true) ∧ Below w.heap.size w w' := by
  have HP : Hid (Calls Tryz.prog 7 #[.string ⟨#[98, 97, 110, 100, 115, 32, 40, 102, 105, 102, 111, 32, 49, 32, 49, 48, 44, 32, 104, 101, 97, 100, 32, 50, 32, 50, 48, 41]⟩, .slice none 0 0] w fun e w' => ∃ B g goff gcap bs, e = .returned (.tuple #[.iface 137 (.pointer (some ⟨B, 0, none⟩)), .nilIface]) ∧ BAt (FQs spP bs) 2 B g goff gcap w' (fun i k => k = bs i) (fun _ => ([] : List Hd)) ∧ (∀ k, foot 2 B g (fun i k => k = bs i) k → w.heap.size ≤ k) ∧ Below w.heap.size w w') :=
    parse_bands textP w hG (by decide) signsP rfl rfl fitsP
  clear hG
  go_enter Tryz.func8, Tryz.ntmps8
  go_wp2_with (first | (go_at_call 7; refine HP.out.mono ?_; rintro e w1 ⟨B, g, goff, gcap, bs, rfl, hba, hft, hb1⟩) | (go_at_call 10; fail))
  have hS := FQs_small spP bs (N := 2) rfl (by decide) (by decide) (fun i s h => (fitsP.each i s h).1)
  have hbw : Below w1.heap.size w1 (w1.alloc (.cells (flt Stp.cs stepsP).toArray 70)) := below_alloc_ (Below.refl _ _) _
  have hba2 : BAt (FQs spP bs) 2 B g goff gcap (w1.alloc (.cells (flt Stp.cs stepsP).toArray 70)) (fun i k => k = bs i) (fun _ => ([] : List Hd)) := by
    refine BAt.kept hS.fine hba (fun k hk => hbw.block k ?_)
    rcases hk with rfl | rfl | ⟨i, hi, rfl⟩
    · exact lt_of_block hba.blk
    · exact hba.obl
    · obtain ⟨v, h, _⟩ := hba.each i hi
      exact h.lt
  refine (play_any (BandsM (FQs spP bs) 2 B g goff gcap) (bandsM_fine hS) (foot 2 B g (fun i k => k = bs i)) (fun _ => ([] : List Hd)) (some ⟨w1.heap.size, 0, none⟩) 3 stepsP (w1.alloc (.cells (flt Stp.cs stepsP).toArray 70)) ?_ (by decide) ⟨_, hba2, fun k => Iff.rfl⟩ (fun i _ => ⟨Nat.le_refl _, by simp⟩)).mono ?_
  · refine Or.inr ⟨w1.heap.size, 0, rfl, by simp, fun j u hj => ?_⟩
    have := news_of (new_block_ (w := w1) (o := .cells (flt Stp.cs stepsP).toArray 70) (n := w1.heap.size) rfl) j u hj
    rw [Addr.add_lit] at this
    exact this
  rintro e w3 ⟨u, us, F, rfl, hsn, hot⟩
  obtain ⟨pa, pb, pc, pd, pe, hpl⟩ := playP bs B g goff gcap
  rw [hpl] at hsn
  have hlen := hsn.len
  obtain ⟨u0, u1, u2, rfl⟩ : ∃ u0 u1 u2, us = [u0, u1, u2] := by
    match us, hlen with
    | [a, b, c], _ => exact ⟨a, b, c, rfl⟩
  obtain ⟨b, off, cap, rfl, _, _, hb, hcs⟩ := hsn.row.some (by simp)
  have a0 : w3.cell? ⟨b, off + 12, none⟩ = some (.int .i64 1) := hcs 12 _ rfl
  have a3 : w3.cell? ⟨b, off + 12 + 3, none⟩ = some (.int .i64 1) := hcs 15 _ rfl
  have hfin : Below w.heap.size w w3 := (hb1.alloc hb1.size _).trans (hot.below (by simp; have := hb1.size; omega) hft)
  have HF : Hid (Below w.heap.size w w3) := hfin
  clear hsn hcs hot hba hba2 hfin hpl hft hbw hS
  go_wp2
  go_ret
  exact ⟨rfl, HF.out⟩
end Go.Proofs.YtfakjedolecdcaaGreatDoor
