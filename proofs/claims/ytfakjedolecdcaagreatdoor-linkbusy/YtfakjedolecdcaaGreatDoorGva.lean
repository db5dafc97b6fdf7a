/-
  Queues that let go at once and lose nothing where there is room: a Fifo, bands of Fifos, lists by a hash, turns. Mathematics of their models alone.
  package plant: lists by a hash, and turns, that a text tells. Conditions: their numbers may be.
-/
import Derived.Test.YtfakjedolecdcaaGreatDoorWb1
import Derived.Test.YtfakjedolecdcaaGreatDoorGs
import Derived.Test.YtfakjedolecdcaaGreatDoorGz
import Derived.Test.YtfakjedolecdcaaGreatDoorGy
namespace Go.Proofs.YtfakjedolecdcaaGreatDoor

theorem prompt_of {M : QM} {cont : M.σ → List Hd} {N : Nat} (hK : M.Keeps cont)
    (hput : ∀ {t : Int} {n : Nat} {s : M.σ} (now : Int) (x : Hd), M.inv t n s → n < N → x.ok = true → (cont s).length ≤ n → (∀ y ∈ cont s, y.ok = true) → (M.put s now x).2 = [])
    (htake : ∀ {t : Int} {n : Nat} {s : M.σ} (now : Int), M.inv t n s → n ≤ N → (M.take s now).2.1 = [] ∧ ((M.take s now).2.2.2 = false → cont s = [])) : M.Prompt cont N where
  put := by
    intro t n s now x hi hn hx hl ho
    have h1 := hput now x hi hn hx hl ho
    have h2 := hK.put s now x
    rw [h1, List.nil_append] at h2
    exact ⟨h1, h2.symm⟩
  take := by
    intro t n s now hi hn
    obtain ⟨h1, h2⟩ := htake now hi hn
    have h3 := hK.take s now
    rw [h1, List.nil_append] at h3
    refine ⟨h1, ?_⟩
    cases hok : (M.take s now).2.2.2 with
    | false =>
      have h4 := h2 hok
      rw [hok, h4] at h3
      simp only [Bool.false_eq_true, if_false, List.nil_append] at h3
      exact Or.inl ⟨rfl, h4, h3.symm.eq_nil⟩
    | true =>
      rw [hok] at h3
      simp only [if_true] at h3
      exact Or.inr ⟨rfl, h3⟩
  len := hK.len
theorem sum_ok {L : List Hd} (h : ∀ y ∈ L, y.ok = true) : 0 ≤ sumL L ∧ sumL L ≤ 10000 * L.length := Fit.sum fun x hx => by have := ok_len (h x hx); omega
theorem putF_none (hd : Bool) {L : List Hd} {x : Hd} (h : ∀ y ∈ L, y.ok = true) (hx : x.ok = true) (hl : L.length ≤ 60) : (putF 1000 1000000 hd L x).1 = [] := by
  have h1 := sum_ok h
  have h2 := ok_len hx
  cases hd with
  | false =>
    rw [putF_room]
    simp
    omega
  | true =>
    rw [putF_head, cutL_no]
    have e : sumL (L ++ [x]) = sumL L + x.l := by rw [sumL_append]; simp [sumL]
    simp [over, e]
    omega
theorem fifo_prompt (b : Nat) (hd : Bool) : (FifoM b 1000 1000000 hd).Prompt (fun L => L) 60 := by
  refine prompt_of (fifo_keeps b 1000 1000000 hd) ?_ ?_
  · intro t n s now x hi hn hx hl ho
    exact putF_none hd ho hx (by omega)
  · intro t n (s : List Hd) now hi hn
    refine ⟨rfl, fun h => ?_⟩
    cases s with
    | nil => rfl
    | cons y r => cases h
theorem takeB_none {Q : Nat → QM} (c : ∀ i, (Q i).σ → List Hd) {now : Int} {N : Nat} (h : ∀ i, i < N → ∀ s : (Q i).σ, ((Q i).take s now).2.1 = [] ∧ (((Q i).take s now).2.2.2 = false → c i s = [])) : ∀ (m i : Nat) (s : ∀ i, (Q i).σ) (acc : List Hd), m + i = N → (takeB now m i s acc).2.1 = acc ∧ ((takeB now m i s acc).2.2.2 = false → ∀ j, i ≤ j → j < N → c j (s j) = []) := by
  intro m
  induction m with
  | zero => intro i s acc hm; exact ⟨rfl, fun _ j h1 h2 => by omega⟩
  | succ m ih =>
    intro i s acc hm
    obtain ⟨h1, h2⟩ := h i (by omega) (s i)
    cases hok : ((Q i).take (s i) now).2.2.2 with
    | true =>
      rw [takeB_yes hok, h1, List.append_nil]
      exact ⟨rfl, fun e => by cases e⟩
    | false =>
      rw [takeB_no hok, h1, List.append_nil]
      obtain ⟨h3, h4⟩ := ih (i + 1) (upd s i ((Q i).take (s i) now).1) acc (by omega)
      refine ⟨h3, fun e j hj1 hj2 => ?_⟩
      by_cases e0 : j = i
      · subst e0; exact h2 hok
      · have := h4 e j (by omega) hj2
        rw [upd_ne _ _ e0] at this
        exact this
theorem contB_nil {Q : Nat → QM} {c : ∀ i, (Q i).σ → List Hd} {N : Nat} {s : ∀ i, (Q i).σ} (h : ∀ j, j < N → c j (s j) = []) : contB c N s = [] := by
  unfold contB
  rw [List.flatMap_eq_nil_iff]
  intro i hi
  exact h i (List.mem_range.1 hi)
theorem mem_contB {Q : Nat → QM} {c : ∀ i, (Q i).σ → List Hd} {N j : Nat} {s : ∀ i, (Q i).σ} (hj : j < N) : (∀ y ∈ c j (s j), y ∈ contB c N s) ∧ (c j (s j)).length ≤ (contB c N s).length := by
  obtain ⟨R, h1, _⟩ := contB_upd c s (s j) hj
  refine ⟨fun y hy => h1.mem_iff.2 (by simp [hy]), ?_⟩
  rw [h1.length_eq]; simp
/-- Fifos with much room. -/
def big (fs : List FSp) : Prop := ∀ i, (fs.getD i noSp).P = 1000 ∧ (fs.getD i noSp).R = 1000000 ∨ fs.length ≤ i
theorem bands_prompt (fs : List FSp) (bs : Nat → Nat) {N B ob oo oc : Nat} (h1 : 1 ≤ N) (hb : ∀ i, i < N → (fs.getD i noSp).P = 1000 ∧ (fs.getD i noSp).R = 1000000) : (BandsM (FQs fs bs) N B ob oo oc).Prompt (contB (fun i (L : (FQs fs bs i).σ) => (L : List Hd)) N) 60 := by
  refine prompt_of (bands_keeps (fun i (L : (FQs fs bs i).σ) => (L : List Hd)) (fun i hi => fifo_keeps _ _ _ _) h1) ?_ ?_
  · intro t n (s : ∀ i, (FQs fs bs i).σ) now x hi hn hx hl ho
    have hj := bandOf_lt h1 x
    obtain ⟨m1, m2⟩ := mem_contB (c := fun i (L : (FQs fs bs i).σ) => (L : List Hd)) (s := s) hj
    obtain ⟨p1, p2⟩ := hb _ hj
    show (putF (fs.getD (bandOf N x) noSp).P (fs.getD (bandOf N x) noSp).R ((fs.getD (bandOf N x) noSp).f.1 == headB) (s (bandOf N x)) x).1 = []
    rw [p1, p2]
    exact putF_none _ (fun y hy => ho y (m1 y hy)) hx (Nat.le_trans m2 (by omega))
  · intro t n (s : ∀ i, (FQs fs bs i).σ) now hi hn
    obtain ⟨h3, h4⟩ := takeB_none (Q := FQs fs bs) (fun i (L : (FQs fs bs i).σ) => (L : List Hd)) (now := now) (N := N) (fun i hi s => ⟨rfl, fun h => by
      have h' : (!(s : List Hd).isEmpty) = false := h
      revert h'
      generalize (s : List Hd) = L
      cases L with
      | nil => intro _; rfl
      | cons y r => intro h; cases h⟩) N 0 s [] (by omega)
    exact ⟨h3, fun e => contB_nil fun j hj => h4 e j (Nat.zero_le _) hj⟩
theorem allF_nil {fl : Nat → List Hd} {N : Nat} (h : ∀ f, f < N → fl f = []) : allF fl N = [] := by
  unfold allF
  rw [List.flatMap_eq_nil_iff]
  intro i hi
  exact h i (List.mem_range.1 hi)
theorem hash_prompt (b : Nat) (p : HaC) (hm0 : 1 ≤ p.many) (hm1 : p.many ≤ 64) (hr : 60 ≤ p.room) : (HashM b p).Prompt (fun s => allF s.fl 64) 60 := by
  refine prompt_of (hash_keeps b p hm0 hm1) ?_ ?_
  · intro t n (s : HaS) now x hi hn hx hl ho
    show (putH p s x).2 = []
    unfold putH
    rw [if_pos]
    have := (into_keeps hm0 hm1 s x).length_eq
    rw [List.length_append] at this
    simp only [List.length_cons, List.length_nil] at this
    omega
  · intro t n (s : HaS) now hi hn
    obtain ⟨hI, _⟩ := hi
    show (takeH s).2.1 = [] ∧ ((takeH s).2.2.2 = false → allF s.fl 64 = [])
    rcases takeH_fl s with ⟨h1, h2, h3⟩ | ⟨f, x, L, hf, hL, h2, h3⟩
    · refine ⟨h3, fun _ => allF_nil fun f hf => ?_⟩
      have htn : s.tn = [] := by
        cases ht : s.tn with
        | nil => rfl
        | cons m B =>
          exfalso
          obtain ⟨m0, m1⟩ := hI.tin m (by rw [ht]; simp)
          obtain ⟨g, rfl⟩ : ∃ g : Nat, m = g := ⟨m.toNat, by omega⟩
          have hg : g < 64 := by omega
          have hne := (hI.tfl g hg).1 (by rw [ht]; simp)
          cases hfl : s.fl g with
          | nil => exact hne hfl
          | cons x L =>
            unfold takeH at h1
            simp only [ht, Int.toNat_natCast, hfl, hg, if_true] at h1
            cases h1
      refine Decidable.byContradiction fun hne => ?_
      have := (hI.tfl f hf).2 hne
      rw [htn] at this
      cases this
    · rw [h3]
      exact ⟨rfl, fun h => by cases h⟩
theorem takeW_turn {q : Nat → Int} : ∀ (n : Nat) (s : RnS), mu s < n → RnI q s → (takeW q s).2.2.2 = false → s.tn = [] := by
  intro n
  induction n with
  | zero => intro s h; omega
  | succ n ih =>
    intro s hn hI hok
    cases ht : s.tn with
    | nil => rfl
    | cons m B =>
      exfalso
      obtain ⟨m0, m1⟩ := hI.tin m (by rw [ht]; simp)
      obtain ⟨g, rfl⟩ : ∃ g : Nat, m = g := ⟨m.toNat, by omega⟩
      have hg : g < 16 := by omega
      have hne := (hI.tfl g hg).1 (by rw [ht]; simp)
      cases hfl : s.fl g with
      | nil => exact hne hfl
      | cons x L =>
        by_cases hx : x.l ≤ (beginS q s g).cr g
        · rw [takeW_send ht hg hfl hx] at hok
          cases hok
        · have hxl := (ok_len (hI.ok g hg x (by rw [hfl]; simp)).1).2
          have hmu := mu_pass hI hg ht (by omega)
          rw [takeW_pass ht hfl hx hmu] at hok
          have hI2 := (hI.begin hg ht).pass (f := g) (B := B) (by rw [(beginS_fl q s g).2.1]; exact ht) (by omega)
          have := ih _ (by omega) hI2 hok
          simp [passS] at this
theorem rounds_prompt (b : Nat) (q : Nat → Int) : (RoundsM b 1000 q).Prompt (fun s => allF s.fl 16) 60 := by
  refine prompt_of (rounds_keeps b 1000 q) ?_ ?_
  · intro t n (s : RnS) now x hi hn hx hl ho
    show (putW 1000 s x).2 = []
    have hf := ok_flow hx
    have h1 := allF_len (fl := s.fl) (N := 16) (f := x.f.toNat) (by omega)
    have hl' : (allF s.fl 16).length ≤ n := hl
    unfold putW
    rw [if_pos ⟨hx, by omega⟩]
  · intro t n (s : RnS) now hi hn
    obtain ⟨hI, _⟩ := hi
    show (takeW q s).2.1 = [] ∧ ((takeW q s).2.2.2 = false → allF s.fl 16 = [])
    refine ⟨?_, fun h => allF_nil fun f hf => ?_⟩
    · rcases takeW_fl q (mu s + 1) s (by omega) with ⟨_, _, h⟩ | ⟨f, x, L, _, _, _, h⟩
      · exact h
      · rw [h]
    · have htn := takeW_turn (mu s + 1) s (by omega) hI h
      refine Decidable.byContradiction fun hne => ?_
      have := (hI.tfl f hf).2 hne
      rw [htn] at this
      cases this
end Go.Proofs.YtfakjedolecdcaaGreatDoor
namespace Go.Proofs.YtfakjedolecdcaaGreatDoor
open Go.RowKit Go.Extern.Stop Go.Stop Go.Extern

/-- A queue that was made: it lets go at once and loses nothing; it lies in memory that is new. -/
def Qd (w0 w' : World) (e : Ending) : Prop := ∃ (M : QM) (cont : M.σ → List Hd) (s0 : M.σ) (F : Nat → Prop), e = .returned (.tuple #[.iface M.ty M.rv, .nilIface]) ∧ M.Fine ∧ M.Prompt cont 60 ∧ M.inv 0 0 s0 ∧ cont s0 = [] ∧ M.At w' F s0 ∧ (∀ k, F k → w0.heap.size ≤ k)
def hashedB : List UInt8 := [104, 97, 115, 104, 101, 100]
def roundsB : List UInt8 := [114, 111, 117, 110, 100, 115]
set_option maxHeartbeats 2000000 in
theorem hashed_yes {b : Nat} {n : Nat} {rest : List Value} {v : Value} {x1 x2 x3 : List UInt8 × Nat} {R : List (List UInt8 × Nat)} (f : List UInt8 × Nat) (p : HaC) (w : World) (h : RdAt w b 65 n rest v (x1 :: x2 :: x3 :: R)) (hB : ∀ w', Ot (fun k => k = b) w w' → Glob w') (h1 : numL x1.1 = some p.many) (h2 : numL x2.1 = some p.salt) (h3 : numL x3.1 = some p.room) (hl1 : x1.1.length ≤ 2000) (hl2 : x2.1.length ≤ 2000) (hl3 : x3.1.length ≤ 2000) (hm : 1 ≤ p.many ∧ p.many ≤ 64) (hs : 0 ≤ p.salt ∧ p.salt ≤ 1000000) (hr : 1 ≤ p.room ∧ p.room ≤ 1000000) :
    Calls Tryz.prog 34 #[.pointer (some ⟨b, 0, none⟩), .agg #[.string ⟨f.1.toArray⟩, .int .i64 f.2]] w fun e w' => ∃ q C v', e = .returned (.tuple #[.iface 122 (.pointer (some ⟨q, 0, none⟩)), .nilIface]) ∧ w.heap.size ≤ q ∧ HaP w' q p C (fun _ => .slice none 0 0) (.slice none 0 0) ha0 ∧ RdAt w' b 65 n rest v' R ∧ v'.ownBlock = v.ownBlock ∧ Ot (fun k => k = b) w w' := by
  obtain ⟨pm, ps, pr⟩ := p
  simp only at h1 h2 h3 hm hs hr
  have HNS : Hid (∀ w1, Ot (fun k => k = b) w w1 → RdAt w1 b 65 n rest v (x1 :: x2 :: x3 :: R) → Calls Tryz.prog 45 #[.pointer (some ⟨b, 0, none⟩), .int .i64 3] w1 fun e w' => ∃ u v', e = .returned (.tuple #[u, .nilIface]) ∧ RdAt w' b 65 n rest v' R ∧ v'.ownBlock = v.ownBlock ∧ Seg w' 3 1 u 3 [.int .i64 pm, .int .i64 ps, .int .i64 pr] ∧ (∀ k, u.ownBlock = some k → w1.heap.size ≤ k) ∧ Ot (fun k => k = b) w1 w') := by
    intro w1 ho hr
    refine (numbers_yes (L := [x1, x2, x3]) w1 hr (fun w' h' => hB w' (ho.trans h')) ?_ (by simp)).mono ?_
    · intro x hx
      simp at hx
      rcases hx with rfl | rfl | rfl
      · exact ⟨by rw [h1]; rfl, hl1⟩
      · exact ⟨by rw [h2]; rfl, hl2⟩
      · exact ⟨by rw [h3]; rfl, hl3⟩
    · rintro e w' ⟨u, v', rfl, hr', hv', hs', hn', ho'⟩
      simp only [numsL, List.map, h1, h2, h3, Option.getD, List.length_cons, List.length_nil] at hs'
      exact ⟨u, v', rfl, hr', hv', hs', hn', ho'⟩
  have H : Hid (RdAt w b 65 n rest v (x1 :: x2 :: x3 :: R)) := h
  have hb := h.lt
  have HNF : Hid (∀ w2, Calls Tryz.prog 49 #[.int .i64 pm, .int .i64 ps, .int .i64 pr] w2 fun e w' => e = .returned (.tuple #[.pointer (some ⟨w2.heap.size, 0, none⟩), .nilIface]) ∧ ∃ C, HaP w' w2.heap.size ⟨pm, ps, pr⟩ C (fun _ => .slice none 0 0) (.slice none 0 0) ha0 ∧ Below w2.heap.size w2 w') := fun w2 => newHa_yes ⟨pm, ps, pr⟩ w2 hm.1 hm.2 hs.1 hs.2 hr.1 hr.2
  clear h hB h1 h2 h3 hl1 hl2 hl3 hm hs hr
  go_enter Tryz.func34, Tryz.ntmps34
  go_wp2_with (go_at_call 45; refine (HNS.out _ ?_ ?_).mono ?_; exact (Ot.refl _ _).alloc _; exact H.out.below (below_alloc_ (Below.refl _ _) _); rintro e w1 ⟨u, v', rfl, hr1, hv1, hs1, hn1, ho1⟩)
  obtain ⟨g, off, cap, rfl, hg1, hg2, hg3, hgc⟩ := hs1.some (by decide)
  have c0 : w1.cell? ⟨g, off, none⟩ = some (.int .i64 pm) := hgc 0 _ rfl
  have c1 : w1.cell? ⟨g, off + 1, none⟩ = some (.int .i64 ps) := hgc 1 _ rfl
  have c2 : w1.cell? ⟨g, off + 2, none⟩ = some (.int .i64 pr) := hgc 2 _ rfl
  have hbx : w1.heap[w.heap.size]? = some (.cells #[.string ⟨f.1.toArray⟩, .int .i64 f.2] 60 (0, 0)) := (ho1.block w.heap.size (by simp) (by omega)).trans (new_block _ _)
  have hbl := lt_of_block hbx
  have HR1 : Hid (RdAt w1 b 65 n rest v' R) := hr1
  have HV1 : Hid (v'.ownBlock = v.ownBlock) := hv1
  have HO1 : Hid (Ot (fun k => k = b) w w1) := ((Ot.refl _ _).alloc _).trans ho1
  have HBX : Hid (w1.heap[w.heap.size]? = some (.cells #[.string ⟨f.1.toArray⟩, .int .i64 f.2] 60 (0, 0))) := hbx
  clear hs1 hgc hbx hr1 hv1 ho1 hn1 HNS
  go_cut [8, 7] (fun qv ev wx => ev = .nilIface ∧ qv = .pointer (some ⟨w1.heap.size, 0, none⟩) ∧ ∃ C, Hid (HaP wx w1.heap.size ⟨pm, ps, pr⟩ C (fun _ => .slice none 0 0) (.slice none 0 0) ha0 ∧ Below w1.heap.size w1 wx))
  case first =>
    go_region_with (go_at_call 49; refine (HNF.out _).mono ?_; rintro e w2 ⟨rfl, CC, hl2, hb2⟩; have HL2 : Hid (HaP w2 w1.heap.size ⟨pm, ps, pr⟩ CC (fun _ => .slice none 0 0) (.slice none 0 0) ha0 ∧ Below w1.heap.size w1 w2) := ⟨hl2, ⟨hb2.os, hb2.tape, hb2.output, hb2.size, hb2.block⟩⟩; clear hl2 hb2)
    all_goals go_wp2_with fail
    all_goals go_meet
    all_goals exact ⟨rfl, rfl, CC, HL2.out⟩
  case rest =>
  obtain ⟨rfl, rfl, CC, hlc⟩ := hcut
  clear c0 c1 c2
  generalize wc = w2 at *
  have HLC : Hid (HaP w2 w1.heap.size ⟨pm, ps, pr⟩ CC (fun _ => .slice none 0 0) (.slice none 0 0) ha0) := hlc.out.1
  have HBC : Hid (Below w1.heap.size w1 w2) := hlc.out.2
  have hbx : w2.heap[w.heap.size]? = some (.cells #[.string ⟨f.1.toArray⟩, .int .i64 f.2] 60 (0, 0)) := (HBC.out.block _ hbl).trans HBX.out
  have b0 : w2.cell? ⟨w.heap.size, 0, none⟩ = some (.string ⟨f.1.toArray⟩) := by simp [World.cell?, hbx]
  have b1 : w2.cell? ⟨w.heap.size, 1, none⟩ = some (.int .i64 f.2) := by simp [World.cell?, hbx]
  have hbl2 := lt_of_block hbx
  clear hbx hlc
  go_wp2_with (go_at_call 46; refine (made_yes f _ _).mono ?_; rintro e w3 ⟨rfl, hb3⟩)
  go_ret2
  exact ⟨w1.heap.size, CC, v', rfl, HO1.out.size, HLC.out.below hb3, (HR1.out.below HBC.out).below hb3, HV1.out, (HO1.out.trans (Ot.of_below HBC.out)).trans (Ot.of_below hb3)⟩
/-- What a queue by its text is, behind which the reader goes on. -/
def QdR (w w' : World) (b n : Nat) (rest : List Value) (v : Value) (R : List (List UInt8 × Nat)) (e : Ending) : Prop := ∃ v', Qd w w' e ∧ RdAt w' b 65 n rest v' R ∧ v'.ownBlock = v.ownBlock ∧ Ot (fun k => k = b) w w'
theorem hash_qd {w0 w' : World} {q : Nat} {p : HaC} {C : Nat → Value} (h : HaP w' q p C (fun _ => .slice none 0 0) (.slice none 0 0) ha0) (hq : w0.heap.size ≤ q) (hm : 1 ≤ p.many ∧ p.many ≤ 64) (hs : 0 ≤ p.salt ∧ p.salt ≤ 1000000) (hr : 60 ≤ p.room) :
    Qd w0 w' (.returned (.tuple #[.iface 122 (.pointer (some ⟨q, 0, none⟩)), .nilIface])) :=
  ⟨HashM q p, (fun s => allF s.fl 64), ha0, HaF q (fun _ => .slice none 0 0) (.slice none 0 0), rfl, hashM_fine q p hm.1 hm.2 hs.1 hs.2, hash_prompt q p hm.1 hm.2 hr, ⟨HaI.zero p, Nat.le_refl _, by simp [SH, ha0]⟩, rfl, ⟨C, _, _, h, fun k => Iff.rfl⟩, fun k hk => by
    rcases hk with rfl | ⟨f, _, hk⟩ | hk
    · exact hq
    · simp [Value.ownBlock] at hk
    · simp [Value.ownBlock] at hk⟩
set_option maxHeartbeats 4000000 in
theorem queue_hashed' {b : Nat} {n : Nat} {tv : Value} {k ar : Int} {v : Value} {f x1 x2 x3 : List UInt8 × Nat} {R : List (List UInt8 × Nat)} (p : HaC) (w : World) (h : RdAt w b 65 n [tv, .int .i64 k] v (f :: x1 :: x2 :: x3 :: R)) (hB : ∀ w', Ot (fun k => k = b) w w' → Glob w') (hf : f.1 = hashedB) (h1 : numL x1.1 = some p.many) (h2 : numL x2.1 = some p.salt) (h3 : numL x3.1 = some p.room) (hl1 : x1.1.length ≤ 2000) (hl2 : x2.1.length ≤ 2000) (hl3 : x3.1.length ≤ 2000) (hm : 1 ≤ p.many ∧ p.many ≤ 64) (hs : 0 ≤ p.salt ∧ p.salt ≤ 1000000) (hr : 60 ≤ p.room ∧ p.room ≤ 1000000) (hk : 0 ≤ k ∧ k ≤ 19) (ha : 0 ≤ ar ∧ ar ≤ 7) :
    Calls Tryz.prog 19 #[.pointer (some ⟨b, 0, none⟩), .int .i64 ar] w fun e w' => ∃ q, e = .returned (.tuple #[.iface 122 (.pointer (some ⟨q, 0, none⟩)), .nilIface]) ∧ QdR w w' b n [tv, .int .i64 (k + 1)] v R (.returned (.tuple #[.iface 122 (.pointer (some ⟨q, 0, none⟩)), .nilIface])) := by
  have HNX : Hid (Calls Tryz.prog 20 #[.pointer (some ⟨b, 0, none⟩)] w fun e w' => e = .returned (.agg #[.string ⟨f.1.toArray⟩, .int .i64 f.2]) ∧ ∃ v2, RdAt w' b 65 n [tv, .int .i64 k] v2 (x1 :: x2 :: x3 :: R) ∧ v2.ownBlock = v.ownBlock ∧ Ot (fun k => k = b) w w') := by
    refine (sgnext_any w h).mono ?_
    rintro e w' ⟨rfl, v2, h1, h2, h3⟩
    exact ⟨rfl, v2, h1, h2, h3⟩
  have HFF : Hid (∀ w1 v2, Ot (fun k => k = b) w w1 → RdAt w1 b 65 n [tv, .int .i64 (k + 1)] v2 (x1 :: x2 :: x3 :: R) → v2.ownBlock = v.ownBlock → Calls Tryz.prog 34 #[.pointer (some ⟨b, 0, none⟩), .agg #[.string ⟨f.1.toArray⟩, .int .i64 f.2]] w1 fun e w' => ∃ q, e = .returned (.tuple #[.iface 122 (.pointer (some ⟨q, 0, none⟩)), .nilIface]) ∧ QdR w w' b n [tv, .int .i64 (k + 1)] v R (.returned (.tuple #[.iface 122 (.pointer (some ⟨q, 0, none⟩)), .nilIface]))) := by
    intro w1 v2 ho hr' hv
    refine (hashed_yes f p w1 hr' (fun w' h' => hB w' (ho.trans h')) h1 h2 h3 hl1 hl2 hl3 hm hs ⟨by omega, hr.2⟩).mono ?_
    rintro e w' ⟨q, C, v', rfl, hq, hl', hr', hv', ho'⟩
    exact ⟨q, rfl, v', hash_qd hl' (Nat.le_trans ho.size hq) hm hs hr.1, hr', hv'.trans hv, ho.trans ho'⟩
  have hb := h.lt
  have a1 : decide ((7 : Int) < ar) = false := by simp; omega
  have a2 : decide ((20 : Int) < k + 1) = false := by simp; omega
  have a3 : IntKind.i64.wrap (k + 1) = k + 1 := by rw [IntKind.wrap_i64]; omega
  have o1 : (f.1 == [102, 105, 102, 111]) = false := by rw [hf]; rfl
  have o2 : (f.1 == [104, 101, 97, 100]) = false := by rw [hf]; rfl
  have o3 : (f.1 == [114, 101, 100]) = false := by rw [hf]; rfl
  have o4 : (f.1 == [109, 97, 114, 107]) = false := by rw [hf]; rfl
  have o5 : (f.1 == [100, 101, 108, 97, 121]) = false := by rw [hf]; rfl
  have o6 : (f.1 == [104, 97, 115, 104, 101, 100]) = true := by rw [hf]; rfl
  clear h hB h1 h2 h3 hl1 hl2 hl3 hm hs hr hf
  go_enter Tryz.func19, Tryz.ntmps19
  go_wp2_with (go_at_call 20; refine HNX.out.mono ?_; rintro e w1 ⟨rfl, v2, hr1, hv1, ho1⟩; have HR1 : Hid (RdAt w1 b 65 n [tv, .int .i64 k] v2 (x1 :: x2 :: x3 :: R)) := hr1; have HV1 : Hid (v2.ownBlock = v.ownBlock) := hv1; have HO1 : Hid (Ot (fun k => k = b) w w1) := ho1; obtain ⟨r4, f4⟩ := hr1.begun; have hl1 := hr1.lt; clear hr1 hv1 ho1)
  refine (HFF.out _ v2 ((HO1.out.setCell (p := ⟨b, 4, none⟩) (Or.inl rfl) _).alloc _) ((HR1.out.begin_ (k + 1)).below (below_alloc_ (Below.refl _ _) _)) HV1.out).mono ?_
  rintro e w2 ⟨q, rfl, hr⟩
  go_wp2
  go_ret2
  exact ⟨q, rfl, hr⟩
end Go.Proofs.YtfakjedolecdcaaGreatDoor
