/-
  millracebig.div of a number of three words or more by one word; nothing that was there before is otherwise.
-/
import Derived.Test.YtbghpepojonegaaGreatDoorBig12
namespace Go.Proofs.YtbghpepojonegaaGreatDoor
open Go.RowKit Go.Deep

theorem words_one (b : Nat) (w : World) (u : Nat) (hc0 : w.cell? ⟨b, 0, none⟩ = some (.int .u32 (u : Int))) : WordsAt w (.slice (some ⟨b, 0, none⟩) 1 1) [u] := by
  refine ⟨_, _, rfl, by simp, by decide, Or.inr ⟨b, 0, rfl, ?_⟩⟩
  intro i v hv
  match i, hv with
  | 0, hv => simp at hv; subst hv; simpa using hc0
set_option maxHeartbeats 4000000 in
set_option maxRecDepth 100000 in
theorem div_word {v1 v2 : Value} {n m : Nat} (w : World) (h1 : NatAt w v1 n) (h2 : NatAt w v2 m) (hm : 0 < m) (hm1 : m < 4294967296) (hn : 18446744073709551616 ≤ n) (hn1 : n < 4294967296 ^ 100) :
    Calls Tryz.prog 104 #[v1, v2] w fun e w' => ∃ q r, e = .returned (.tuple #[q, r]) ∧ NatAt w' q (n / m) ∧ NatAt w' r (n % m) ∧ Below w.heap.size w w' := by
  have H1 : Hid (NatAt w v1 n) := h1
  have H2 : Hid (NatAt w v2 m) := h2
  obtain ⟨xs, ⟨x, c, rfl, _, _, hx⟩, cx, ex, lx⟩ := h1
  obtain ⟨ys, ⟨y, d, rfl, _, _, hy⟩, cy, ey, ly⟩ := h2
  have hk2 : ¬ xs.length ≤ 2 := by
    intro h
    have h1 := val_lt cx.1
    have h2 : 4294967296 ^ xs.length ≤ 4294967296 ^ 2 := Nat.pow_le_pow_right (by omega) h
    omega
  have hl1 : ys = [m] := by
    rcases canon_two cy (by omega) with ⟨rfl, hv⟩ | ⟨u, rfl, hu0, hu1, hv⟩ | ⟨u, q, rfl, hu1, hq0, hq1, hv⟩
    · omega
    · have : u = m := by omega
      rw [this]
    · omega
  subst hl1
  rcases hy with hy | ⟨b, o, rfl, hy⟩
  · cases hy
  have c0 := hy 0 m rfl
  rw [Nat.add_zero] at c0
  have C0 : Hid (w.cell? ⟨b, o, none⟩ = some (.int .u32 (m : Int))) := c0
  have hlx := len_le cx (by rw [ex]; exact hn1)
  generalize xs.length = k at *
  have hk3 : ¬ ((k : Int) ≤ 2) := by omega
  have HM : Hid (0 < m ∧ m < 4294967296 ∧ 0 < n) := ⟨hm, hm1, by omega⟩
  have hcm : decide (cmpOf n m < 0) = false := by unfold cmpOf; rw [if_neg (by omega)]; split <;> simp
  clear hx cx ex lx hy cy ey ly hm hm1 hn hn1 c0
  simp only [List.length_cons, List.length_nil, Nat.zero_add] at *
  go_enter Tryz.func104, Tryz.ntmps104
  go_wp2_with fail
  refine (cmp_any _ H1.out H2.out).mono ?_
  rintro e w1 ⟨rfl, hb1⟩
  generalize cmpOf n m = cm at *
  have H1' : Hid (NatAt w1 (.slice x k c) n) := H1.out.below hb1
  have c1 : w1.cell? ⟨b, o, none⟩ = some (.int .u32 (m : Int)) := cell_below' hb1 C0.out
  have B1 : Hid (Below w.heap.size w w1) := hb1
  clear hb1
  go_wp2_with fail
  refine (small_any _ H1'.out HM.out.2.2 HM.out.1 HM.out.2.1).mono ?_
  rintro e w2 ⟨q, rfl, hq, hb2⟩
  have HQ : Hid (NatAt w2 q (n / m) ∧ Below w1.heap.size w1 w2) := ⟨hq, hb2⟩
  clear hq hb2
  have HR : Hid (n % m < 4294967296) := Nat.lt_trans (Nat.mod_lt _ HM.out.1) HM.out.2.1
  generalize hre : n % m = r at *
  have HE : Hid (n % m = r) := hre
  clear hre
  go_wp2_with fail
  refine (trim_any _ (words_one w2.heap.size _ r (by simp)) (by intro u hu; rw [List.mem_singleton.1 hu]; exact HR.out) (by simp)).mono ?_
  rintro e w3 ⟨v, rfl, hv, rfl⟩
  have hb3 : Below w2.heap.size w2 (w2.alloc (.cells #[.int .u32 (r : Int)] 141)) := (Below.refl _ _).alloc (Nat.le_refl _) _
  have HF : Hid (NatAt (w2.alloc (.cells #[.int .u32 (r : Int)] 141)) q (n / m) ∧ NatAt (w2.alloc (.cells #[.int .u32 (r : Int)] 141)) v r ∧ Below w.heap.size w (w2.alloc (.cells #[.int .u32 (r : Int)] 141))) := by
    refine ⟨HQ.out.1.below hb3, ?_, (B1.out.trans (HQ.out.2.mono B1.out.size)).trans (hb3.mono (Nat.le_trans B1.out.size HQ.out.2.size))⟩
    have : val [r] = r := by simp [val]
    rw [this] at hv
    exact hv
  clear hv
  go_wp2
  go_ret2
  exact ⟨_, _, rfl, HF.out.1, by rw [HE.out]; exact HF.out.2.1, HF.out.2.2⟩
end Go.Proofs.YtbghpepojonegaaGreatDoor
