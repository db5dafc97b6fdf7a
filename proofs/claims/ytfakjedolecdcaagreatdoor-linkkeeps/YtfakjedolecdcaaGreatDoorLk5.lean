/-
  link.Run with whatever queue: its rounds. Conditions: the queue's methods do what a model of it tells (a premise); the packets lie in memory that the queue does not write.
-/
import Derived.Test.YtfakjedolecdcaaGreatDoorU10
namespace Go.Proofs.YtfakjedolecdcaaGreatDoor
open Go.RowKit Go.Extern.Stop Go.Stop Go.Extern

theorem ItemsAt.lies {w : World} {x : Option Addr} {xs : List It} (h : ItemsAt w x xs) : Lies w x (flt itc xs) := by
  rcases h with rfl | ⟨b, off, rfl, h⟩
  · exact Or.inl rfl
  · cases hxs : xs with
    | nil => exact Or.inl rfl
    | cons y r =>
      rw [← hxs]
      have h0 := (h 0 y (by rw [hxs]; rfl)).1
      refine Or.inr ⟨b, off, rfl, lt_of_cell h0, fun j u hj => ?_⟩
      have hjl := (List.getElem?_eq_some_iff.1 hj).1
      rw [flt_length itc 5 itc_len] at hjl
      obtain ⟨z, hz⟩ : ∃ z, xs[j / 5]? = some z := ⟨_, List.getElem?_eq_getElem (by omega)⟩
      have e : (flt itc xs)[j / 5 * 5 + j % 5]? = (itc z)[j % 5]? := flt_at itc 5 itc_len hz (Nat.mod_lt _ (by omega))
      have ej : j / 5 * 5 + j % 5 = j := by omega
      rw [ej, hj] at e
      obtain ⟨d0, d1, d2, d3, d4⟩ := h _ z hz
      have hm : j % 5 < 5 := Nat.mod_lt _ (by omega)
      have eo : off + j = off + j / 5 * 5 + j % 5 := by omega
      rw [eo]
      generalize j % 5 = m at *
      match m, hm with
      | 0, _ => simp [itc] at e; rw [e]; exact d0
      | 1, _ => simp [itc] at e; rw [e]; exact d1
      | 2, _ => simp [itc] at e; rw [e]; exact d2
      | 3, _ => simp [itc] at e; rw [e]; exact d3
      | 4, _ => simp [itc] at e; rw [e]; exact d4
theorem lkcheck_rate (ty : TypeId) (rv : Value) (n t : Int) (x : Option Addr) (len cap : Nat) (u : Int) (w : World) (h : okRate n t = false) :
    Calls Tryz.prog 39 #[.iface ty rv, .agg #[.int .i64 n, .int .i64 t], .slice x len cap, .int .i64 u] w fun e w' => e = .returned (.iface 57 (.int .i64 2)) ∧ Below w.heap.size w w' := by
  have H : Hid (okRate n t = false) := h
  clear h
  go_enter Tryz.func39, Tryz.ntmps39
  go_wp2_with (go_at_call 28; refine (speed_no _ _ _ H.out).mono ?_; rintro e w1 ⟨rfl, rfl⟩)
  go_ret
  exact ⟨rfl, below_alloc_ (below_alloc_ (Below.refl _ _) _) _⟩
theorem lkcheck_list (ty : TypeId) (rv : Value) (n t : Int) (x : Option Addr) (cap : Nat) (xs : List It) (u : Int) (w : World) (h : okRate n t = true) (hl : ¬ okL xs) (hL : Laid w) (hI : ItemsAt w x xs) (hm : xs.length ≤ maxLen) :
    Calls Tryz.prog 39 #[.iface ty rv, .agg #[.int .i64 n, .int .i64 t], .slice x xs.length cap, .int .i64 u] w fun e w' => ∃ ey ev, e = .returned (.iface ey ev) ∧ Below w.heap.size w w' := by
  have H : Hid (okRate n t = true) := h
  have HN : Hid (¬ okL xs) := hl
  have HL : Hid (Laid w) := hL
  have HI : Hid (ItemsAt w x xs) := hI
  have HMM : Hid (xs.length ≤ maxLen) := hm
  clear h hl hL hI hm
  go_enter Tryz.func39, Tryz.ntmps39
  go_wp2_with (go_at_call 28; refine (speed_yes _ _ _ H.out).mono ?_; rintro e w1 ⟨rfl, rfl⟩)
  have hB0 : Below w.heap.size w ((w.alloc (.cells #[.int .i64 n, .int .i64 t] 37)).alloc (.cells #[.int .i64 n, .int .i64 t] 37)) := below_alloc_ (below_alloc_ (Below.refl _ _) _) _
  generalize (w.alloc (.cells #[.int .i64 n, .int .i64 t] 37)).alloc (.cells #[.int .i64 n, .int .i64 t] 37) = w0 at *
  refine (list_any x cap xs w0 (HL.out.below hB0) (HI.out.below hB0) HMM.out).mono ?_
  rintro e w1 ⟨v, rfl, hv, hb1⟩
  have hne : ∃ ey ev, v = .iface ey ev := by
    rcases hv with ⟨_, he, _⟩ | ⟨rfl, _⟩ | ⟨a, rfl, _⟩
    · exact absurd he HN.out
    · exact ⟨_, _, rfl⟩
    · exact ⟨_, _, rfl⟩
  obtain ⟨ey, ev, rfl⟩ := hne
  have HB : Hid (Below w.heap.size w w1) := hB0.trans (hb1.mono hB0.size)
  clear hv hb1 hB0
  go_wp2
  go_ret
  exact ⟨_, _, rfl, HB.out⟩
theorem lkcheck_yes (ty : TypeId) (rv : Value) (n t : Int) (x : Option Addr) (cap : Nat) (xs : List It) (u : Int) (w : World) (h : okRate n t = true) (hl : okL xs) (hL : Laid w) (hI : ItemsAt w x xs) (hm : xs.length ≤ maxLen) (hu0 : 0 ≤ u) (hu1 : u ≤ 10000000) :
    Calls Tryz.prog 39 #[.iface ty rv, .agg #[.int .i64 n, .int .i64 t], .slice x xs.length cap, .int .i64 u] w fun e w' => e = .returned .nilIface ∧ Below w.heap.size w w' := by
  have H : Hid (okRate n t = true) := h
  have HN : Hid (okL xs) := hl
  have HL : Hid (Laid w) := hL
  have HI : Hid (ItemsAt w x xs) := hI
  have HMM : Hid (xs.length ≤ maxLen) := hm
  clear h hl hL hI hm
  go_enter Tryz.func39, Tryz.ntmps39
  go_wp2_with (go_at_call 28; refine (speed_yes _ _ _ H.out).mono ?_; rintro e w1 ⟨rfl, rfl⟩)
  have hB0 : Below w.heap.size w ((w.alloc (.cells #[.int .i64 n, .int .i64 t] 37)).alloc (.cells #[.int .i64 n, .int .i64 t] 37)) := below_alloc_ (below_alloc_ (Below.refl _ _) _) _
  generalize (w.alloc (.cells #[.int .i64 n, .int .i64 t] 37)).alloc (.cells #[.int .i64 n, .int .i64 t] 37) = w0 at *
  refine (list_any x cap xs w0 (HL.out.below hB0) (HI.out.below hB0) HMM.out).mono ?_
  rintro e w1 ⟨v, rfl, hv, hb1⟩
  obtain rfl := HN.out.nil hv
  have HB : Hid (Below w.heap.size w w1) := hB0.trans (hb1.mono hB0.size)
  clear hv hb1 hB0
  go_wp2
  go_ret
  exact ⟨rfl, HB.out⟩
/-- What was sent, and the most that waited, are written. -/
theorem LkAt.logd {M : QM} (hM : M.Fine) {C : LkC} {S S' : LkS M.σ} {w w' : World} {F : Nat → Prop} {sv sv' lv : Value} (h : LkAt M C S w F sv lv) (hg : LgB w' C.bg sv' lv 0 S'.most) (hs : Seg w' 49 4 sv' S'.sent.length (flt Snt.cs S'.sent)) (ho : Ot (fun k => k = C.bg ∨ sv.ownBlock = some k) w w') (hn : ∀ k, sv'.ownBlock = some k → sv.ownBlock = some k ∨ w.heap.size ≤ k) (e0 : S'.s = S.s) (e1 : S'.put = S.put) (e2 : S'.free = S.free) (e3 : S'.lost = S.lost) : LkAt M C S' w' F sv' lv := by
  have hw := lt_of_block h.wire
  have hgl := lt_of_block h.log
  have hlow := hM.low h.que
  refine ⟨?_, hg, ?_, hs, ?_, h.fw, h.fg, h.wg, h.wb, h.gb, ?_, h.ln, h.fnew, ?_⟩
  · rw [ho.block _ hw (fun e => by rcases e with e | e; exact h.wg e; exact (h.sn _ e).2.2.1 rfl), h.wire, e1, e2]
  · rw [e0]; exact hM.kept h.que (fun k hk => ho.block k (hlow k hk) (fun e => by rcases e with e | e; exact h.fg (e ▸ hk); exact (h.sn _ e).2.1 hk))
  · rw [e3]; exact Seg.oth h.lost ho (fun b hb e => by rcases e with e | e; exact (h.ln b hb).2.2.2 e; exact (h.sn b e).2.2.2.2 hb)
  · intro b hb
    rcases hn b hb with h1 | h1
    · exact h.sn b h1
    · have := h.ot.size
      exact ⟨by omega, fun hf => by have := hlow b hf; omega, by omega, by omega, fun e => by have := Seg.lt h.lost e; omega⟩
  · refine h.ot.trans' ho (fun i hi hlt => ?_)
    rcases hi with e | e
    · have := h.gb; omega
    · have := (h.sn i e).1; omega
def mostS (M : QM) (S : LkS M.σ) : LkS M.σ := { S with most := max S.most (M.bytes S.s) }
def sentS {σ : Type} (r : LkS σ × Option Snt) : LkS σ := { r.1 with sent := r.1.sent ++ r.2.toList }
/-- One time that is looked at. -/
def roundS (M : QM) (items : List It) (n t : Int) (now : Int) (S : LkS M.σ) : LkS M.σ × Int × Bool :=
  nextS M items now (sentS (sendS M n t now (mostS M (comeS M items now S))))
/-- The k-th time, and whether there is one. -/
def itL (M : QM) (items : List It) (n t : Int) (s0 : M.σ) : Nat → LkS M.σ × Int × Bool
  | 0 => (⟨s0, 0, 0, [], [], 0⟩, 0, true)
  | k + 1 => roundS M items n t (itL M items n t s0 k).2.1 (itL M items n t s0 k).1
def goesOn {σ : Type} (u : Int) (r : LkS σ × Int × Bool) : Prop := r.2.2 = true ∧ r.2.1 ≤ u
structure LkI (M : QM) (items : List It) (S : LkS M.σ) (now : Int) (more : Bool) : Prop where
  put : S.put ≤ items.length
  inv : ∃ tI, 0 ≤ tI ∧ (more = true → tI ≤ now) ∧ M.inv tI S.put S.s
  n0 : more = true → 0 ≤ now
  coming : more = true → ∀ j x, S.put ≤ j → items[j]? = some x → now ≤ x.a
  lost : more = true → S.lost.length ≤ 1000000 * (S.put + now.toNat)
  sent : more = true → S.sent.length ≤ now.toNat
theorem sendS_keeps {M : QM} (hM : M.Fine) {n t now : Int} {S : LkS M.σ} (hI : ∃ tI, 0 ≤ tI ∧ tI ≤ now ∧ M.inv tI S.put S.s) (h2 : now ≤ 10000000) (hp : S.put ≤ 1000) :
    (sendS M n t now S).1.put = S.put ∧ (sendS M n t now S).1.sent = S.sent ∧ (sendS M n t now S).1.most = S.most ∧ (sendS M n t now S).1.lost.length ≤ S.lost.length + 1000000 ∧ ∃ tI, 0 ≤ tI ∧ tI ≤ now ∧ M.inv tI (sendS M n t now S).1.put (sendS M n t now S).1.s := by
  obtain ⟨tI, t0, t1, hinv⟩ := hI
  obtain ⟨i1, i2⟩ := hM.iT now hinv t0 t1 (by omega) hp
  unfold sendS
  split
  · exact ⟨rfl, rfl, rfl, by show S.lost.length ≤ S.lost.length + 1000000; omega, tI, t0, t1, hinv⟩
  · split
    · refine ⟨rfl, rfl, rfl, ?_, now, by omega, Int.le_refl _, i1⟩
      show (S.lost ++ _).length ≤ _
      rw [List.length_append, List.length_map]
      omega
    · refine ⟨rfl, rfl, rfl, ?_, now, by omega, Int.le_refl _, i1⟩
      show (S.lost ++ _).length ≤ _
      rw [List.length_append, List.length_map]
      omega
theorem goesS_keeps {M : QM} (hM : M.Fine) {now : Int} {S : LkS M.σ} (hI : ∃ tI, 0 ≤ tI ∧ tI ≤ now ∧ M.inv tI S.put S.s) (h2 : now ≤ 10000000) (hp : S.put ≤ 1000) :
    (goesS M now S).1.put = S.put ∧ (goesS M now S).1.sent = S.sent ∧ (goesS M now S).1.lost = S.lost ∧ (goesS M now S).1.most = S.most ∧ (∃ tI, 0 ≤ tI ∧ tI ≤ now + 1 ∧ M.inv tI (goesS M now S).1.put (goesS M now S).1.s) ∧ ((goesS M now S).2.2 = true → now + 1 ≤ (goesS M now S).2.1) := by
  obtain ⟨tI, t0, t1, hinv⟩ := hI
  have i1 := hM.iW (now + 1) hinv t0 (by omega) (by omega) hp
  unfold goesS
  split
  · exact ⟨rfl, rfl, rfl, rfl, ⟨tI, t0, by omega, hinv⟩, fun h => by simp at h⟩
  · split
    · exact ⟨rfl, rfl, rfl, rfl, ⟨tI, t0, by omega, hinv⟩, fun _ => by show now + 1 ≤ S.free; omega⟩
    · exact ⟨rfl, rfl, rfl, rfl, ⟨now + 1, by omega, Int.le_refl _, i1⟩, fun _ => by show now + 1 ≤ max _ _; omega⟩
theorem nextS_keeps {M : QM} (hM : M.Fine) {items : List It} {now : Int} {S : LkS M.σ} (hI : ∃ tI, 0 ≤ tI ∧ tI ≤ now ∧ M.inv tI S.put S.s) (h2 : now ≤ 10000000) (hp : S.put ≤ 1000) (hc : ∀ x, items[S.put]? = some x → now < x.a) (hord : (items.map It.a).Pairwise (· ≤ ·)) :
    (nextS M items now S).1.put = S.put ∧ (nextS M items now S).1.sent = S.sent ∧ (nextS M items now S).1.lost = S.lost ∧ (∃ tI, 0 ≤ tI ∧ tI ≤ now + 1 ∧ M.inv tI (nextS M items now S).1.put (nextS M items now S).1.s) ∧ ((nextS M items now S).2.2 = true → now + 1 ≤ (nextS M items now S).2.1 ∧ ∀ j x, S.put ≤ j → items[j]? = some x → (nextS M items now S).2.1 ≤ x.a) := by
  obtain ⟨g1, g2, g3, _, g4, g5⟩ := goesS_keeps hM hI h2 hp
  unfold nextS
  cases hx : items[S.put]? with
  | none =>
    refine ⟨g1, g2, g3, g4, fun h => ⟨g5 h, fun j x hj hjx => ?_⟩⟩
    have h1 := List.getElem?_eq_none_iff.1 hx
    have h3 := (List.getElem?_eq_some_iff.1 hjx).1
    omega
  | some x =>
    have h1 := hc x hx
    refine ⟨g1, g2, g3, g4, fun _ => ?_⟩
    have hall : ∀ j y, S.put ≤ j → items[j]? = some y → x.a ≤ y.a := by
      intro j y hj hy
      by_cases e : j = S.put
      · subst e; rw [hx] at hy; obtain rfl := Option.some.inj hy; exact Int.le_refl _
      · obtain ⟨k1, rfl⟩ := List.getElem?_eq_some_iff.1 hx
        obtain ⟨k2, rfl⟩ := List.getElem?_eq_some_iff.1 hy
        rw [List.pairwise_iff_getElem] at hord
        have := hord S.put j (by simpa using k1) (by simpa using k2) (by omega)
        simpa using this
    simp only
    split
    · rename_i hk
      have := g5 hk
      exact ⟨by omega, fun j y hj hy => by have := hall j y hj hy; omega⟩
    · exact ⟨by omega, hall⟩
end Go.Proofs.YtfakjedolecdcaaGreatDoor
