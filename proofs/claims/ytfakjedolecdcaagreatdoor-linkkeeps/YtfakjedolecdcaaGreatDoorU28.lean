/-
  fair.Rounds: what send does. Conditions: they lie in memory; numbers within bounds; the flow has its turn and a packet.
  fair.Rounds: what is taken, as a function of what waits; how long it may take. Mathematics alone.
  fair.Rounds: what Take does. Conditions: they lie in memory; numbers within bounds.
-/
import Derived.Test.YtfakjedolecdcaaGreatDoorU27
import Derived.Test.YtfakjedolecdcaaGreatDoorU8
namespace Go.Proofs.YtfakjedolecdcaaGreatDoor
open Go.RowKit Go.Extern.Stop Go.Stop Go.Extern

theorem ret_held1 {fn : Func} {p : Tmp} (h : fn.results = #[.cell p 76]) {tmps : Array Value} {w : World} {r : Nat} {x : Hd} {t : TypeId} {fr : Nat × Nat} (hp : tmps.getD p undef = .pointer (some ⟨r, 0, none⟩)) (hx : w.heap[r]? = some (.cells #[.int .i64 x.a, .int .i64 x.l, .int .i64 x.f, .int .i64 x.b, .int .i64 x.m, .int .i64 x.n] t fr)) :
    (results fn tmps).run Tryz.prog w = .ok x.val w := by
  rw [Array.getD_eq_getD_getElem?] at hp
  simp only [results, h]
  simp [hp, asAddr, load_held hx]
/-- One is sent. -/
def fsendS (s : RnS) (f : Nat) (x : Hd) (L : List Hd) : RnS := { fl := updF s.fl f L, cr := updF s.cr f (s.cr f - x.l), tn := if L.isEmpty then s.tn.tail else s.tn, bg := if L.isEmpty then false else s.bg }
theorem updF_twice {α : Type} (g : Nat → α) (i : Nat) (x y : α) : updF (updF g i x) i y = updF g i y := by
  funext j
  unfold updF
  split <;> rfl
set_option maxRecDepth 20000 in
set_option maxHeartbeats 4000000 in
theorem fsend_any {b : Nat} {room : Int} {q : Nat → Int} {C : Nat → Value} {vs : Nat → Value} {tv : Value} {s : RnS} (f : Nat) (x : Hd) (L : List Hd) (B : List Int) (w : World) (h : RnP w b room q C vs tv s) (hf : f < 16) (hL : s.fl f = x :: L) (ht : s.tn = (f : Int) :: B) (hB : (f : Int) ∉ B) (hl : s.tn.length ≤ 1000) (hF : Fit (x :: L)) (hc0 : 0 ≤ s.cr f) (hc1 : s.cr f ≤ 4000000) :
    Calls Tryz.prog 184 #[.pointer (some ⟨b, 0, none⟩), .int .i64 f] w fun e w' => e = .returned x.val ∧ ∃ C' vs' tv', RnO w b room q vs tv (fsendS s f x L) w' C' vs' tv' := by
  have H : Hid (RnP w b room q C vs tv s) := h
  have hb := h.blk.lt
  have hV := Hd.val_eq
  have hx := hF.2 x (by simp)
  have HNX : Hid (∀ W : World, Below w.heap.size w W → Calls Tryz.prog 145 #[.pointer (some ⟨b, 33 + f * 2, none⟩)] W fun e w' => e = .returned (.tuple #[x.val, .bool true]) ∧ ∃ v', LO w' b 67 164 (updL C (33 + f * 2) v' L) (33 + f * 2) v' L ∧ v'.ownBlock = (vs f).ownBlock ∧ Ot (· = b) W w') := by
    intro W hW
    have hl := ((h.below hW).list hf)
    rw [hL] at hl
    exact nextO_any W hl hF
  have HW : Hid (IntKind.i64.wrap (s.cr f - x.l) = s.cr f - x.l) := by show _ = _; rw [IntKind.wrap_i64]; omega
  clear h
  go_enter Tryz.func184, Tryz.ntmps184
  go_wp2_with (go_at_call 145; fail)
  refine (HNX.out _ (below_alloc_ (Below.refl _ _) _)).mono ?_
  rintro e w1 ⟨rfl, v1, hl1, hk1, ho1⟩
  obtain ⟨hs1, hz⟩ := after_ot ho1 (by omega)
  have hR1 : RnO w b room q vs tv { s with fl := updF s.fl f L } w1 (updL C (33 + f * 2) v1 L) (updF vs f v1) tv := by
    have h1 := rno_listed (H.out.al _) hf hl1 (fun k hk => Or.inl (by rw [← hk1]; exact hk)) (ho1.mono (fun k _ e => Or.inl e))
    exact ⟨h1.pos, fun k hk => by rcases h1.own k hk with h | h; exact Or.inl h; exact Or.inr (by simp at h; omega), (Ot.alloc (Ot.refl _ w) _).trans h1.ot⟩
  have HR1 : Hid (RnO w b room q vs tv { s with fl := updF s.fl f L } w1 (updL C (33 + f * 2) v1 L) (updF vs f v1) tv) := hR1
  obtain ⟨⟨z0, z1, z2, z3, z4, z5⟩, y0, y1, y2, y3, y4, y5⟩ := six hz
  obtain ⟨d0, d1, d2⟩ := hR1.pos.flow hf
  obtain ⟨⟨c0, c65, c66⟩, f65, f66⟩ := hR1.pos.cells
  have hbs := hR1.pos.blk.lt
  have hw := HW.out
  have hbn1 : ¬ b = w1.heap.size := by omega
  have hbn2 : ¬ w1.heap.size = b := by omega
  have hwn1 : ¬ w.heap.size = w1.heap.size := by omega
  simp only at d1 c66
  have HOLD : Hid (∀ k, RnF b (updF vs f v1) tv k → RnF b vs tv k) := by
    intro k hk
    rcases hk with h | ⟨g, hg, hv⟩ | h
    · exact Or.inl h
    · by_cases e : g = f
      · subst e
        rw [updF_same, hk1] at hv
        exact Or.inr (Or.inl ⟨g, hg, hv⟩)
      · rw [updF_ne e] at hv
        exact Or.inr (Or.inl ⟨g, hg, hv⟩)
    · exact Or.inr (Or.inr h)
  have HLOW : Hid (∀ k, RnF b (updF vs f v1) tv k → k < w.heap.size) := fun k hk => H.out.low (HOLD.out k hk)
  clear hR1 hl1 ho1 hk1
  go_wp2
  all_goals go_region
  all_goals go_wp2_with (go_at_call 139; fail)
  obtain ⟨W2, hW2⟩ : ∃ W2, ((w1.setCell ⟨b, 17 + f, none⟩ (.int .i64 (s.cr f - x.l))).alloc (.cells #[.int .i64 x.a, .int .i64 x.l, .int .i64 x.f, .int .i64 x.b, .int .i64 x.m, .int .i64 x.n] 76)).drew = W2 := ⟨_, rfl⟩
  have HP2 : Hid (RnP W2 b room q (updC (updL C (33 + f * 2) v1 L) (17 + f) (.int .i64 (s.cr f - x.l))) (updF vs f v1) tv { s with fl := updF s.fl f L, cr := updF s.cr f (s.cr f - x.l) }) := by
    show RnP _ _ _ _ _ _ _ _
    rw [← hW2]
    exact (((HR1.out.pos.setC hf _).al _).drewN 1)
  have HO2 : Hid (Ot (RnF b vs tv) w W2) := by
    show Ot _ _ _
    rw [← hW2]
    exact (Ot.alloc (Ot.setCell HR1.out.ot (Or.inl (Or.inl rfl)) _) _).drew
  have hs2 : W2.heap.size = w1.heap.size + 1 := by rw [← hW2]; simp
  have hx2 : W2.heap[w1.heap.size]? = some (.cells #[.int .i64 x.a, .int .i64 x.l, .int .i64 x.f, .int .i64 x.b, .int .i64 x.m, .int .i64 x.n] 76 (0, 0)) := by rw [← hW2]; exact new_block_ (by simp)
  have hr2 : W2.heap[w.heap.size]? = some (.cells #[.int .i64 0, .int .i64 0, .int .i64 0, .int .i64 0, .int .i64 0, .int .i64 0] 76 (0, 0)) := by
    rw [← hW2]
    exact (Below.heap_alloc _ _ _ (by simpa using hs1)).trans (heap_other (by omega) hz)
  rw [hW2]
  clear hW2 z0 z1 z2 z3 z4 z5 y0 y1 y2 y3 y4 y5 d0 d1 d2 c0 c65 c66 f65 f66 hz hbs hw
  have HLN := lenO_any W2 (HP2.out.list hf)
  simp only [updF_same] at HLN
  obtain ⟨⟨z0, z1, z2, z3, z4, z5⟩, y0, y1, y2, y3, y4, y5⟩ := six hx2
  obtain ⟨⟨r0, r1, r2, r3, r4, r5⟩, t0, t1, t2, t3, t4, t5⟩ := six hr2
  have hb2 : b < W2.heap.size := by omega
  have hw2 : w.heap.size < W2.heap.size := by omega
  have hw12 : w1.heap.size < W2.heap.size := by omega
  refine HLN.mono ?_
  rintro e w3 ⟨rfl, hw3⟩
  subst hw3
  have hlw := HLOW.out
  cases L with
  | nil =>
    have HS : Hid (fsendS s f x [] = { fl := updF s.fl f [], cr := updF s.cr f (s.cr f - x.l), tn := B, bg := false }) := by show _ = _; rw [fsendS, ht]; rfl
    have hT : TO w3 b 67 164 (updC (updL C (33 + f * 2) v1 []) (17 + f) (.int .i64 (s.cr f - x.l))) 65 tv ([] ++ (f : Int) :: B) := by
      have := HP2.out.turns
      simp only [ht] at this
      exact this
    have HLV := leave_any [] B (f : Int) w3 hT (by simp) hB (by rw [ht] at hl; simpa using hl)
    have htl : ∀ k, tv.ownBlock = some k → k < w.heap.size := fun k hk => hlw k (Or.inr (Or.inr hk))
    clear hT
    go_wp2_with (go_at_call 171; fail)
    refine HLV.mono ?_
    rintro e w4 ⟨rfl, tv4, hp4⟩
    have hO4 := hp4.ot
    have hR4 := rno_turned HP2.out hp4
    have hx4 : w4.heap[w1.heap.size]? = _ := (hO4.block _ hw12 (by rintro (e | e); omega; have := htl _ e; omega)).trans hx2
    have hr4 : w4.heap[w.heap.size]? = _ := (hO4.block _ hw2 (by rintro (e | e); omega; have := htl _ e; omega)).trans hr2
    obtain ⟨⟨z0', z1', z2', z3', z4', z5'⟩, y0', y1', y2', y3', y4', y5'⟩ := six hx4
    obtain ⟨⟨r0', r1', r2', r3', r4', r5'⟩, t0', t1', t2', t3', t4', t5'⟩ := six hr4
    obtain ⟨⟨c0, c65, c66⟩, f65, f66⟩ := hR4.pos.cells
    have hb4 := hR4.pos.blk.lt
    have hw4 := lt_of_block hr4
    have hw14 := lt_of_block hx4
    have HR4 : Hid (RnO w3 b room q (updF vs f v1) tv { fl := updF s.fl f [], cr := updF s.cr f (s.cr f - x.l), tn := [] ++ B, bg := s.bg } w4 (updC (updC (updL C (33 + f * 2) v1 []) (17 + f) (.int .i64 (s.cr f - x.l))) 65 tv4) (updF vs f v1) tv4) := hR4
    clear hR4 hp4 hO4 HLV
    go_wp2
    (try simp only [Exit.inBlock, Exit.then])
    refine bodyPost_ret (v := x.val) (ret_held1 rfl rfl (six_set (heap_other (by omega) hr4) _ _ _ _ _ _)) rfl ⟨rfl, updC (updC (updC (updL C (33 + f * 2) v1 []) (17 + f) (.int .i64 (s.cr f - x.l))) 65 tv4) 66 (.bool false), updF vs f v1, tv4, ?_⟩
    rw [HS.out]
    have hnr : ¬ RnF b (updF vs f v1) tv4 w.heap.size := by
      intro hk
      rcases HR4.out.own _ hk with h | h
      · have := hlw _ h; omega
      · omega
    have hQ : RnP (w4.setCell ⟨b, 66, none⟩ (.bool false)) b room q (updC (updC (updC (updL C (33 + f * 2) v1 []) (17 + f) (.int .i64 (s.cr f - x.l))) 65 tv4) 66 (.bool false)) (updF vs f v1) tv4 { fl := updF s.fl f [], cr := updF s.cr f (s.cr f - x.l), tn := B, bg := false } := HR4.out.pos.setB false
    refine ⟨(((((hQ.setO hnr _).setO hnr _).setO hnr _).setO hnr _).setO hnr _).setO hnr _, fun k hk => ?_, ?_⟩
    · rcases HR4.out.own k hk with h | h
      · exact Or.inl (HOLD.out k h)
      · exact Or.inr (by omega)
    · have hO : Ot (RnF b vs tv) w w4 := HO2.out.trans' HR4.out.ot (fun j hj _ => HOLD.out j hj)
      repeat' (first | with_reducible exact hO | with_reducible refine Ot.setCell ?_ (Or.inr (Nat.le_refl _)) _ | refine Ot.setCell ?_ (Or.inl (Or.inl rfl)) _)
  | cons y L' =>
    have HS : Hid (fsendS s f x (y :: L') = { fl := updF s.fl f (y :: L'), cr := updF s.cr f (s.cr f - x.l), tn := s.tn, bg := s.bg }) := by show _ = _; rfl
    have hne : (((y :: L').length : Int) == 0) = false := by simp; omega
    go_wp2
    (try simp only [Exit.inBlock, Exit.then])
    refine bodyPost_ret (v := x.val) (ret_held1 rfl rfl (six_set hr2 _ _ _ _ _ _)) rfl ⟨rfl, updC (updL C (33 + f * 2) v1 (y :: L')) (17 + f) (.int .i64 (s.cr f - x.l)), updF vs f v1, tv, ?_⟩
    rw [HS.out]
    have hnr : ¬ RnF b (updF vs f v1) tv w.heap.size := by
      intro hk
      have := hlw _ hk; omega
    refine ⟨(((((HP2.out.setO hnr _).setO hnr _).setO hnr _).setO hnr _).setO hnr _).setO hnr _, fun k hk => Or.inl (HOLD.out k hk), ?_⟩
    have hO := HO2.out
    repeat' (first | with_reducible exact hO | with_reducible refine Ot.setCell ?_ (Or.inr (Nat.le_refl _)) _)
end Go.Proofs.YtfakjedolecdcaaGreatDoor
namespace Go.Proofs.YtfakjedolecdcaaGreatDoor
open Go.RowKit Go.Extern.Stop Go.Stop Go.Extern

/-- It comes behind all others. -/
def passS (s : RnS) (m : Int) : RnS := { s with tn := s.tn.tail ++ [m], bg := false }
def mu (s : RnS) : Nat := (s.tn.map (fun m => 2 * (10001 - s.cr m.toNat).toNat)).sum + (if s.bg then 1 else 0)
def takeW (q : Nat → Int) (s : RnS) : RnS × List Hd × Hd × Bool :=
  match s.tn with
  | [] => (s, [], hd0, false)
  | m :: _ =>
    match s.fl m.toNat with
    | [] => (s, [], hd0, false)
    | x :: L =>
      if x.l ≤ (beginS q s m.toNat).cr m.toNat ∧ m.toNat < 16 then (fsendS (beginS q s m.toNat) m.toNat x L, [], x, true)
      else if _h : mu (passS (beginS q s m.toNat) m) < mu s then takeW q (passS (beginS q s m.toNat) m) else (s, [], hd0, false)
termination_by mu s
theorem takeW_nil {q : Nat → Int} {s : RnS} (h : s.tn = []) : takeW q s = (s, [], hd0, false) := by
  rw [takeW]; simp only [h]
theorem takeW_send {q : Nat → Int} {s : RnS} {f : Nat} {B : List Int} {x : Hd} {L : List Hd} (h : s.tn = (f : Int) :: B) (hf : f < 16) (hL : s.fl f = x :: L) (hx : x.l ≤ (beginS q s f).cr f) : takeW q s = (fsendS (beginS q s f) f x L, [], x, true) := by
  rw [takeW]
  simp only [h, Int.toNat_natCast, hL]
  rw [if_pos ⟨hx, hf⟩]
theorem takeW_pass {q : Nat → Int} {s : RnS} {f : Nat} {B : List Int} {x : Hd} {L : List Hd} (h : s.tn = (f : Int) :: B) (hL : s.fl f = x :: L) (hx : ¬ x.l ≤ (beginS q s f).cr f) (hm : mu (passS (beginS q s f) f) < mu s) : takeW q s = takeW q (passS (beginS q s f) f) := by
  rw [takeW]
  simp only [h, Int.toNat_natCast, hL]
  rw [if_neg (fun e => hx e.1), dif_pos hm]
/-- What holds of Rounds. -/
structure RnI (q : Nat → Int) (s : RnS) : Prop where
  tin : ∀ m ∈ s.tn, 0 ≤ m ∧ m < 16
  tnd : s.tn.Nodup
  tfl : ∀ f : Nat, f < 16 → ((f : Int) ∈ s.tn ↔ s.fl f ≠ [])
  len : ∀ f, f < 16 → (s.fl f).length ≤ 1001
  ok : ∀ f, f < 16 → ∀ x ∈ s.fl f, x.ok = true ∧ x.f = (f : Int)
  cr0 : ∀ f, f < 16 → 0 ≤ s.cr f ∧ s.cr f ≤ 1010000
  crt : ∀ m ∈ s.tn, (s.bg = false ∨ s.tn.head? ≠ some m) → s.cr m.toNat ≤ 10000
  qs : ∀ f, f < 16 → 1 ≤ q f ∧ q f ≤ 1000000
theorem nodup_lt : ∀ (n : Nat) (l : List Nat), l.Nodup → (∀ x ∈ l, x < n) → l.length ≤ n := by
  intro n
  induction n with
  | zero =>
    intro l _ h
    cases l with
    | nil => exact Nat.le_refl _
    | cons a l => have := h a (by simp); omega
  | succ n ih =>
    intro l hn h
    by_cases hm : n ∈ l
    · have h1 := ih (l.erase n) (hn.erase n) (fun x hx => by
        have h2 := h x (List.mem_of_mem_erase hx)
        have h3 : x ≠ n := fun e => hn.not_mem_erase (e ▸ hx)
        omega)
      rw [List.length_erase_of_mem hm] at h1
      omega
    · have h1 := ih l hn (fun x hx => by
        have h2 := h x hx
        have h3 : x ≠ n := fun e => hm (e ▸ hx)
        omega)
      omega
theorem nodup_le {l : List Int} (h : ∀ m ∈ l, 0 ≤ m ∧ m < 16) (hn : l.Nodup) : l.length ≤ 16 := by
  have h1 : (l.map Int.toNat).Nodup := by
    rw [List.nodup_iff_pairwise_ne, List.pairwise_map]
    refine List.Pairwise.imp_of_mem ?_ hn
    intro a b ha hb hab e
    have := h a ha
    have := h b hb
    omega
  have h3 := nodup_lt 16 _ h1 (fun x hx => by
    obtain ⟨m, hm, rfl⟩ := List.mem_map.1 hx
    have := h m hm
    omega)
  simpa using h3
theorem RnI.few {q : Nat → Int} {s : RnS} (h : RnI q s) : s.tn.length ≤ 1000 := Nat.le_trans (nodup_le h.tin h.tnd) (by omega)
theorem RnI.fit {q : Nat → Int} {s : RnS} (h : RnI q s) {f : Nat} (hf : f < 16) : Fit (s.fl f) := ⟨by have := h.len f hf; omega, fun x hx => by have := ok_len (h.ok f hf x hx).1; omega⟩
theorem beginS_fl (q : Nat → Int) (s : RnS) (f : Nat) : (beginS q s f).fl = s.fl ∧ (beginS q s f).tn = s.tn ∧ (beginS q s f).bg = true := by
  unfold beginS
  split
  · rename_i h; exact ⟨rfl, rfl, h⟩
  · exact ⟨rfl, rfl, rfl⟩
theorem beginS_cr {q : Nat → Int} {s : RnS} {f g : Nat} (h : g ≠ f) : (beginS q s f).cr g = s.cr g := by
  unfold beginS
  split
  · rfl
  · exact updF_ne h
theorem beginS_cr0 {q : Nat → Int} {s : RnS} {f : Nat} {B : List Int} (h : RnI q s) (hf : f < 16) (ht : s.tn = (f : Int) :: B) : 0 ≤ (beginS q s f).cr f ∧ (beginS q s f).cr f ≤ 1010000 := by
  have h1 := h.cr0 f hf
  have h2 := h.qs f hf
  unfold beginS
  cases hb : s.bg with
  | true => simpa using h1
  | false =>
    have h3 := h.crt (f : Int) (by rw [ht]; simp) (Or.inl hb)
    rw [Int.toNat_natCast] at h3
    simp only [Bool.false_eq_true, if_false, updF_same]
    omega
theorem not_in_tail {q : Nat → Int} {s : RnS} {m : Int} {B : List Int} (h : RnI q s) (ht : s.tn = m :: B) : m ∉ B := by
  have := h.tnd
  rw [ht, List.nodup_cons] at this
  exact this.1
theorem RnI.begin {q : Nat → Int} {s : RnS} {f : Nat} {B : List Int} (h : RnI q s) (hf : f < 16) (ht : s.tn = (f : Int) :: B) : RnI q (beginS q s f) := by
  obtain ⟨e1, e2, e3⟩ := beginS_fl q s f
  refine ⟨by rw [e2]; exact h.tin, by rw [e2]; exact h.tnd, by rw [e2, e1]; exact h.tfl, by rw [e1]; exact h.len, by rw [e1]; exact h.ok, fun g hg => ?_, fun m hm hd => ?_, h.qs⟩
  · by_cases e : g = f
    · subst e; exact beginS_cr0 h hg ht
    · rw [beginS_cr e]; exact h.cr0 g hg
  · rw [e2] at hm hd
    rw [e3, ht] at hd
    have hmf : m ≠ (f : Int) := by
      rcases hd with hd | hd
      · cases hd
      · intro e; exact hd (by simp [e])
    have hm0 := h.tin m hm
    rw [beginS_cr (by omega)]
    exact h.crt m hm (Or.inr (by rw [ht]; simp; exact fun e => hmf e.symm))
theorem RnI.pass {q : Nat → Int} {s : RnS} {f : Nat} {B : List Int} (h : RnI q s) (ht : s.tn = (f : Int) :: B) (hc : s.cr f ≤ 10000) : RnI q (passS s f) := by
  have hB := not_in_tail h ht
  have hmem : ∀ m, m ∈ (passS s f).tn ↔ m ∈ s.tn := by
    intro m
    show m ∈ s.tn.tail ++ [(f : Int)] ↔ _
    rw [ht]
    simp [or_comm]
  refine ⟨fun m hm => h.tin m ((hmem m).1 hm), ?_, fun g hg => by rw [hmem]; exact h.tfl g hg, h.len, h.ok, h.cr0, fun m hm _ => ?_, h.qs⟩
  · show (s.tn.tail ++ [(f : Int)]).Nodup
    have := h.tnd
    rw [ht, List.nodup_cons] at this
    rw [ht, List.tail_cons, List.nodup_append]
    exact ⟨this.2, by simp, fun a ha b hb e => by simp at hb; subst hb; subst e; exact hB ha⟩
  · have hm' := (hmem m).1 hm
    show s.cr m.toNat ≤ 10000
    by_cases e : m = (f : Int)
    · subst e; rw [Int.toNat_natCast]; exact hc
    · exact h.crt m hm' (Or.inr (by rw [ht]; simp; exact fun e' => e e'.symm))
theorem RnI.send {q : Nat → Int} {s : RnS} {f : Nat} {B : List Int} {x : Hd} {L : List Hd} (h : RnI q s) (hf : f < 16) (ht : s.tn = (f : Int) :: B) (hL : s.fl f = x :: L) (hx : x.l ≤ s.cr f) (hbg : s.bg = true) : RnI q (fsendS s f x L) := by
  have hB := not_in_tail h ht
  have hxl := ok_len (h.ok f hf x (by rw [hL]; simp)).1
  have hcr := h.cr0 f hf
  have hnd := h.tnd
  rw [ht, List.nodup_cons] at hnd
  have hcr' : ∀ g, g < 16 → 0 ≤ (fsendS s f x L).cr g ∧ (fsendS s f x L).cr g ≤ 1010000 := by
    intro g hg
    show 0 ≤ updF s.cr f (s.cr f - x.l) g ∧ updF s.cr f (s.cr f - x.l) g ≤ 1010000
    by_cases e : g = f
    · subst e; rw [updF_same]; omega
    · rw [updF_ne e]; exact h.cr0 g hg
  have hlen' : ∀ g, g < 16 → ((fsendS s f x L).fl g).length ≤ 1001 := by
    intro g hg
    show (updF s.fl f L g).length ≤ 1001
    by_cases e : g = f
    · subst e; rw [updF_same]; have := h.len g hg; rw [hL] at this; simp at this; omega
    · rw [updF_ne e]; exact h.len g hg
  have hok' : ∀ g, g < 16 → ∀ y ∈ (fsendS s f x L).fl g, y.ok = true ∧ y.f = (g : Int) := by
    intro g hg y hy
    have hy' : y ∈ updF s.fl f L g := hy
    by_cases e : g = f
    · subst e; rw [updF_same] at hy'; exact h.ok g hg y (by rw [hL]; simp [hy'])
    · rw [updF_ne e] at hy'; exact h.ok g hg y hy'
  cases L with
  | nil =>
    have e1 : (fsendS s f x []).tn = B := by show s.tn.tail = _; rw [ht]; rfl
    refine ⟨fun m hm => h.tin m (by rw [e1] at hm; rw [ht]; simp [hm]), by rw [e1]; exact hnd.2, fun g hg => ?_, hlen', hok', hcr', fun m hm _ => ?_, h.qs⟩
    · rw [e1]
      show _ ↔ updF s.fl f [] g ≠ []
      by_cases e : g = f
      · subst e; rw [updF_same]; simp [hB]
      · rw [updF_ne e, ← h.tfl g hg, ht]
        simp; omega
    · rw [e1] at hm
      have hmf : m ≠ (f : Int) := fun e => hB (e ▸ hm)
      have hm0 := h.tin m (by rw [ht]; simp [hm])
      show updF s.cr f (s.cr f - x.l) m.toNat ≤ 10000
      rw [updF_ne (by omega)]
      exact h.crt m (by rw [ht]; simp [hm]) (Or.inr (by rw [ht]; simp; exact fun e => hmf e.symm))
  | cons y L' =>
    have e1 : (fsendS s f x (y :: L')).tn = s.tn := rfl
    have e2 : (fsendS s f x (y :: L')).bg = true := hbg
    refine ⟨by rw [e1]; exact h.tin, by rw [e1]; exact h.tnd, fun g hg => ?_, hlen', hok', hcr', fun m hm hd => ?_, h.qs⟩
    · rw [e1]
      show _ ↔ updF s.fl f (y :: L') g ≠ []
      by_cases e : g = f
      · subst e; rw [updF_same, ht]; simp
      · rw [updF_ne e]; exact h.tfl g hg
    · rw [e1] at hm hd
      rw [e2] at hd
      have hmf : m ≠ (f : Int) := by
        rcases hd with hd | hd
        · cases hd
        · intro e; exact hd (by rw [ht]; simp [e])
      have hm0 := h.tin m hm
      show updF s.cr f (s.cr f - x.l) m.toNat ≤ 10000
      rw [updF_ne (by omega)]
      exact h.crt m hm (Or.inr (by rw [ht]; simp; exact fun e => hmf e.symm))
theorem mu_pass {q : Nat → Int} {s : RnS} {f : Nat} {B : List Int} (h : RnI q s) (hf : f < 16) (ht : s.tn = (f : Int) :: B) (hx : (beginS q s f).cr f < 10000) : mu (passS (beginS q s f) f) < mu s := by
  obtain ⟨e1, e2, e3⟩ := beginS_fl q s f
  have hB := not_in_tail h ht
  have hq := h.qs f hf
  have hsame : B.map (fun m => 2 * (10001 - (beginS q s f).cr m.toNat).toNat) = B.map (fun m => 2 * (10001 - s.cr m.toNat).toNat) := by
    refine List.map_congr_left (fun m hm => ?_)
    have hm0 := h.tin m (by rw [ht]; simp [hm])
    have hmf : m ≠ (f : Int) := fun e => hB (e ▸ hm)
    rw [beginS_cr (by omega)]
  have e4 : (passS (beginS q s f) f).tn = B ++ [(f : Int)] := by show (beginS q s f).tn.tail ++ _ = _; rw [e2, ht]; rfl
  have e5 : mu (passS (beginS q s f) f) = (B.map (fun m => 2 * (10001 - s.cr m.toNat).toNat)).sum + 2 * (10001 - (beginS q s f).cr f).toNat := by
    unfold mu
    rw [e4, List.map_append, List.sum_append]
    show (B.map (fun m => 2 * (10001 - (beginS q s f).cr m.toNat).toNat)).sum + _ + 0 = _
    rw [hsame]
    simp
    rfl
  rw [e5]
  unfold mu
  rw [ht, List.map_cons, List.sum_cons, Int.toNat_natCast]
  unfold beginS at hx ⊢
  cases hb : s.bg with
  | true =>
    rw [hb] at hx
    simp only [if_true] at hx ⊢
    omega
  | false =>
    rw [hb] at hx
    simp only [Bool.false_eq_true, if_false, updF_same] at hx ⊢
    omega
end Go.Proofs.YtfakjedolecdcaaGreatDoor
namespace Go.Proofs.YtfakjedolecdcaaGreatDoor
open Go.RowKit Go.Extern.Stop Go.Stop Go.Extern

theorem rno_refl {w : World} {b : Nat} {room : Int} {q : Nat → Int} {C : Nat → Value} {vs : Nat → Value} {tv : Value} {s : RnS} (h : RnP w b room q C vs tv s) : RnO w b room q vs tv s w C vs tv := ⟨h, fun _ hk => Or.inl hk, Ot.refl _ _⟩
theorem rno_below {w w1 w2 : World} {b : Nat} {room : Int} {q : Nat → Int} {C : Nat → Value} {vs vs1 : Nat → Value} {tv tv1 : Value} {s : RnS} (h : RnO w b room q vs tv s w1 C vs1 tv1) (hb : Below w1.heap.size w1 w2) : RnO w b room q vs tv s w2 C vs1 tv1 := ⟨h.pos.below hb, h.own, h.ot.trans (Ot.of_below hb)⟩
theorem rno_b {w w' : World} {b : Nat} {room : Int} {q : Nat → Int} {C' : Nat → Value} {vs : Nat → Value} {tv : Value} {s' : RnS} (h' : RnP w' b room q C' vs tv s') (ho : Ot (· = b) w w') : RnO w b room q vs tv s' w' C' vs tv := ⟨h', fun _ hk => Or.inl hk, ho.mono (fun _ _ e => Or.inl e)⟩
/-- A round of Take. -/
structure TkR (q : Nat → Int) (s : RnS) (w : World) (b : Nat) (room : Int) (vs : Nat → Value) (tv : Value) (s1 : RnS) (C1 : Nat → Value) (vs1 : Nat → Value) (tv1 : Value) (r : Nat) (wr : World) : Prop where
  same : takeW q s1 = takeW q s
  inv : RnI q s1
  pos : RnO w b room q vs tv s1 wr C1 vs1 tv1
  res : wr.heap[r]? = some (.cells #[.int .i64 0, .int .i64 0, .int .i64 0, .int .i64 0, .int .i64 0, .int .i64 0] 76 (0, 0))
set_option maxRecDepth 20000 in
set_option maxHeartbeats 8000000 in
theorem rtk_any {b : Nat} {room : Int} {q : Nat → Int} {C : Nat → Value} {vs : Nat → Value} {tv : Value} {s : RnS} (now : Int) (w : World) (h : RnP w b room q C vs tv s) (hI : RnI q s) :
    Calls Tryz.prog 181 #[.pointer (some ⟨b, 0, none⟩), .int .i64 now] w fun e w' => e = .returned (.tuple #[(takeW q s).2.2.1.val, .slice none 0 0, .bool (takeW q s).2.2.2]) ∧ ∃ C' vs' tv', RnO w b room q vs tv (takeW q s).1 w' C' vs' tv' := by
  have H : Hid (RnP w b room q C vs tv s) := h
  have hb := h.blk.lt
  have hV := Hd.val_eq
  have HI : Hid (RnI q s) := hI
  have HLW : Hid (∀ k, RnF b vs tv k → k < w.heap.size) := fun k hk => h.low hk
  clear h hI
  obtain ⟨W0, hW0⟩ : ∃ W0, w.alloc (.cells #[.int .i64 0, .int .i64 0, .int .i64 0, .int .i64 0, .int .i64 0, .int .i64 0] 76) = W0 := ⟨_, rfl⟩
  have HP0 : Hid (RnP W0 b room q C vs tv s) := by show RnP _ _ _ _ _ _ _ _; rw [← hW0]; exact H.out.al _
  have hs0 : W0.heap.size = w.heap.size + 1 := by rw [← hW0]; simp
  have HZ0 : Hid (W0.heap[w.heap.size]? = some (.cells #[.int .i64 0, .int .i64 0, .int .i64 0, .int .i64 0, .int .i64 0, .int .i64 0] 76 (0, 0))) := by show _ = _; rw [← hW0]; exact new_block w _
  have HO0 : Hid (Ot (RnF b vs tv) w W0) := by show Ot _ _ _; rw [← hW0]; exact Ot.alloc (Ot.refl _ _) _
  have HEND : Hid (∀ (s' : RnS) (W : World) (C1 : Nat → Value) (vs1 : Nat → Value) (tv1 : Value) (a0 a1 a2 a3 a4 a5 : Value), RnO W0 b room q vs tv s' W C1 vs1 tv1 → RnO w b room q vs tv s' ((((((W.setCell ⟨w.heap.size, 0, none⟩ a0).setCell ⟨w.heap.size, 1, none⟩ a1).setCell ⟨w.heap.size, 2, none⟩ a2).setCell ⟨w.heap.size, 3, none⟩ a3).setCell ⟨w.heap.size, 4, none⟩ a4).setCell ⟨w.heap.size, 5, none⟩ a5) C1 vs1 tv1) := by
    intro s' W C1 vs1 tv1 a0 a1 a2 a3 a4 a5 hR
    have hnr : ¬ RnF b vs1 tv1 w.heap.size := by
      intro hk
      rcases hR.own _ hk with h | h
      · have := HLW.out _ h; omega
      · omega
    refine ⟨(((((hR.pos.setO hnr _).setO hnr _).setO hnr _).setO hnr _).setO hnr _).setO hnr _, fun k hk => ?_, ?_⟩
    · rcases hR.own k hk with h | h
      · exact Or.inl h
      · exact Or.inr (by omega)
    · have hO : Ot (RnF b vs tv) w W := HO0.out.trans hR.ot
      repeat' (first | with_reducible exact hO | with_reducible refine Ot.setCell ?_ (Or.inr (Nat.le_refl _)) _)
  go_enter Tryz.func181, Tryz.ntmps181
  go_wp2
  clear hW0
  go_loopg [7] (mu s + 1) (fun k _ wr => ∃ s1 C1 vs1 tv1, mu s1 < k ∧ TkR q s W0 b room vs tv s1 C1 vs1 tv1 w.heap.size wr)
  case atStart => exact ⟨s, C, vs, tv, Nat.lt_succ_self _, rfl, HI.out, rno_refl HP0.out, HZ0.out⟩
  case round =>
    obtain ⟨s1, C1, vs1, tv1, hmu, hr⟩ := hrel
    have HR : Hid (TkR q s W0 b room vs tv s1 C1 vs1 tv1 w.heap.size wr) := hr
    obtain ⟨⟨c0, c65, c66⟩, f65, f66⟩ := hr.pos.pos.cells
    obtain ⟨⟨z0, z1, z2, z3, z4, z5⟩, y0, y1, y2, y3, y4, y5⟩ := six hr.res
    have hbr := hr.pos.pos.blk.lt
    have hwr := lt_of_block hr.res
    have HFI := tfirst_any wr hr.pos.pos.trow
    clear hr
    cases ht : s1.tn with
    | nil =>
      rw [ht] at HFI
      have HT : Hid (takeW q s = (s1, [], hd0, false)) := by show _ = _; rw [← HR.out.same, takeW_nil ht]
      go_wp2_with (go_at_call 170; refine HFI.mono ?_; rintro e w2 ⟨rfl, hw2⟩; subst hw2)
      (try simp only [Exit.inBlock, Exit.then])
      rw [HT.out]
      refine bodyPost_ret (v := .tuple #[hd0.val, .slice none 0 0, .bool false]) (ret_held2 rfl rfl (six_set HR.out.res _ _ _ _ _ _) rfl rfl) rfl ⟨rfl, C1, vs1, tv1, HEND.out _ _ _ _ _ _ _ _ _ _ _ HR.out.pos⟩
    | cons m B =>
      rw [ht] at HFI
      have hm := HR.out.inv.tin m (by rw [ht]; simp)
      obtain ⟨f, hf⟩ : ∃ f : Nat, m = f := ⟨m.toNat, by omega⟩
      subst hf
      have hf : f < 16 := by omega
      have HTN : Hid (s1.tn = (f : Int) :: B) := ht
      have hne : s1.fl f ≠ [] := (HR.out.inv.tfl f hf).1 (by rw [ht]; simp)
      obtain ⟨x, L, hL⟩ : ∃ x L, s1.fl f = x :: L := by
        cases hL : s1.fl f with
        | nil => exact absurd hL hne
        | cons x L => exact ⟨x, L, rfl⟩
      have HL : Hid (s1.fl f = x :: L) := hL
      have HBG : Hid (RnI q (beginS q s1 f)) := HR.out.inv.begin hf ht
      have hcb := HR.out.inv.cr0 f hf
      have hqb := HR.out.inv.qs f hf
      have HBE := rbegin_any f wr HR.out.pos.pos hf hcb.1 (by omega) hqb.1 hqb.2
      obtain ⟨e1, e2, e3⟩ := beginS_fl q s1 f
      have HFL : Hid ((beginS q s1 f).fl f = x :: L) := by show _ = _; rw [e1, hL]
      have HTB : Hid ((beginS q s1 f).tn = (f : Int) :: B) := by show _ = _; rw [e2, ht]
      have HB3 : Hid ((beginS q s1 f).bg = true) := e3
      have hxl := ok_len (HR.out.inv.ok f hf x (by rw [hL]; simp)).1
      have hcr := beginS_cr0 HR.out.inv hf ht
      obtain ⟨s2, hs2⟩ : ∃ s2, beginS q s1 f = s2 := ⟨_, rfl⟩
      have HS2 : Hid (beginS q s1 f = s2) := hs2
      have HNS : Hid (x.l ≤ s2.cr f → takeW q s = (fsendS s2 f x L, [], x, true)) := by
        intro hx
        rw [← HR.out.same, ← hs2]
        exact takeW_send ht hf hL (by rw [hs2]; exact hx)
      have HNP : Hid (s2.cr f < x.l → takeW q (passS s2 f) = takeW q s ∧ mu (passS s2 f) < mu s1) := by
        intro hx
        have hmp : mu (passS (beginS q s1 f) f) < mu s1 := mu_pass HR.out.inv hf ht (by rw [hs2]; omega)
        rw [← HR.out.same, ← hs2]
        exact ⟨(takeW_pass ht hL (by rw [hs2]; omega) hmp).symm, hmp⟩
      rw [hs2] at HBE HBG HFL HTB HB3 hcr
      have hB := not_in_tail HBG.out HTB.out
      clear hs2 e1 e2 e3 hne hL ht
      go_wp2_with (first | (go_at_call 170; refine HFI.mono ?_; rintro e w2 ⟨rfl, hw2⟩; subst hw2) | (go_at_call 183; fail))
      refine HBE.mono ?_
      rintro e w3 ⟨rfl, C3, hp3, ho3⟩
      have hR3 : RnO W0 b room q vs tv s2 w3 C3 vs1 tv1 := HR.out.pos.trans (rno_b hp3 ho3)
      have hres3 : w3.heap[w.heap.size]? = _ := (ho3.block _ hwr (by omega)).trans HR.out.res
      have HFS : Hid (∀ W : World, Below w3.heap.size w3 W → Calls Tryz.prog 146 #[.pointer (some ⟨b, 33 + f * 2, none⟩)] W fun e w' => e = .returned (.tuple #[x.val, .bool true]) ∧ Below W.heap.size W w') := by
        intro W hW
        have h1 := firstO_any W ((hp3.below hW).list hf)
        rw [HFL.out] at h1
        exact h1
      have HR3 : Hid (RnO W0 b room q vs tv s2 w3 C3 vs1 tv1) := hR3
      have hb3 := hp3.blk.lt
      clear hp3 ho3 hR3 c0 c65 c66 f65 f66 z0 z1 z2 z3 z4 z5 y0 y1 y2 y3 y4 y5 HBE HFI
      go_wp2_with (go_at_call 146; fail)
      refine (HFS.out _ (Below.refl _ _)).mono ?_
      rintro e w4 ⟨rfl, hb4⟩
      have hR4 := rno_below HR3.out hb4
      have hres4 : w4.heap[w.heap.size]? = _ := (hb4.block _ (lt_of_block hres3)).trans hres3
      have HR4 : Hid (RnO W0 b room q vs tv s2 w4 C3 vs1 tv1) := hR4
      have HZ4 : Hid (w4.heap[w.heap.size]? = some (.cells #[.int .i64 0, .int .i64 0, .int .i64 0, .int .i64 0, .int .i64 0, .int .i64 0] 76 (0, 0))) := hres4
      obtain ⟨d0, d1, d2⟩ := hR4.pos.flow hf
      obtain ⟨⟨z0, z1, z2, z3, z4, z5⟩, y0, y1, y2, y3, y4, y5⟩ := six hres4
      have hbw4 := hR4.pos.blk.lt
      have hww4 := lt_of_block hres4
      have hn1 : ¬ b = w4.heap.size := by omega
      have hn2 : ¬ w4.heap.size = b := by omega
      have HA4 : Hid (∀ (o : Obj) (n : Nat), RnP ((w4.alloc o).drewN n) b room q C3 vs1 tv1 s2) := fun o n => (hR4.pos.al o).drewN n
      have HO4 : Hid (∀ (o : Obj) (n : Nat), RnO W0 b room q vs tv s2 ((w4.alloc o).drewN n) C3 vs1 tv1) := fun o n => ⟨(HR4.out.pos.al o).drewN n, HR4.out.own, (HR4.out.ot.alloc o).drewN n⟩
      clear hR4 hb4 HFS hres3 hres4
      by_cases hx : x.l ≤ s2.cr f
      · have HT : Hid (takeW q s = (fsendS s2 f x L, [], x, true)) := HNS.out hx
        have HSE : Hid (∀ (o : Obj) (n : Nat), Calls Tryz.prog 184 #[.pointer (some ⟨b, 0, none⟩), .int .i64 f] ((w4.alloc o).drewN n) fun e w' => e = .returned x.val ∧ ∃ C' vs' tv', RnO ((w4.alloc o).drewN n) b room q vs1 tv1 (fsendS s2 f x L) w' C' vs' tv') := fun o n => fsend_any f x L B _ (HA4.out o n) hf HFL.out HTB.out hB HBG.out.few (by have := HBG.out.fit hf; rw [HFL.out] at this; exact this) hcr.1 (by omega)
        go_wp2
        go_quiet (fail)
        go_wp2_with (go_at_call 184; fail)
        refine (HSE.out _ _).mono ?_
        rintro e w5 ⟨rfl, C5, vs5, tv5, hR5⟩
        have hR6 := (HO4.out _ _).trans hR5
        have hnr : ¬ RnF b vs1 tv1 w.heap.size := by
          intro hk
          rcases HR4.out.own _ hk with h | h
          · have := HLW.out _ h; omega
          · omega
        have hres5 : w5.heap[w.heap.size]? = _ := (hR5.ot.block _ (by simp; omega) hnr).trans ((Below.heap_alloc _ _ _ hww4).trans HZ4.out)
        obtain ⟨⟨z0', z1', z2', z3', z4', z5'⟩, y0', y1', y2', y3', y4', y5'⟩ := six hres5
        have hww5 := lt_of_block hres5
        go_wp2
        (try simp only [Exit.inBlock, Exit.then])
        rw [HT.out]
        refine bodyPost_ret (v := .tuple #[x.val, .slice none 0 0, .bool true]) (ret_held2 rfl rfl (six_set hres5 _ _ _ _ _ _) rfl rfl) rfl ⟨rfl, C5, vs5, tv5, HEND.out _ _ _ _ _ _ _ _ _ _ _ hR6⟩
      · obtain ⟨k1, k2⟩ := HNP.out (by omega)
        have HK1 : Hid (takeW q (passS s2 f) = takeW q s) := k1
        have HK2 : Hid (mu (passS s2 f) < mu s1) := k2
        have HPI : Hid (RnI q (passS s2 f)) := HBG.out.pass HTB.out (by omega)
        have HPA : Hid (∀ (o : Obj) (n : Nat), Calls Tryz.prog 172 #[.pointer (some ⟨b, 65, none⟩), .int .i64 f] ((w4.alloc o).drewN n) fun e w' => e = .returned (.tuple #[]) ∧ ∃ tv', TPost ((w4.alloc o).drewN n) b 67 164 C3 65 tv1 (([] ++ B) ++ [(f : Int)]) w' tv') := fun o n => by
          have hT : TO ((w4.alloc o).drewN n) b 67 164 C3 65 tv1 ([] ++ (f : Int) :: B) := by
            have := (HA4.out o n).turns
            rw [HTB.out] at this
            exact this
          exact fpass_any [] B (f : Int) _ hT (by simp) hB (by have := HBG.out.few; rw [HTB.out] at this; exact this)
        have hxd : decide (x.l ≤ s2.cr f) = false := decide_eq_false hx
        clear k1 k2
        go_wp2
        go_quiet (fail)
        go_wp2_with (go_at_call 172; fail)
        refine (HPA.out _ _).mono ?_
        rintro e w5 ⟨rfl, tv5, hp5⟩
        have hR5 := (HO4.out _ _).trans (rno_turned (HA4.out _ _) hp5)
        have hnr : ¬ RnF b vs1 tv1 w.heap.size := by
          intro hk
          rcases HR4.out.own _ hk with h | h
          · have := HLW.out _ h; omega
          · omega
        have hres5 : w5.heap[w.heap.size]? = _ := (hp5.ot.block _ (by simp; omega) (by rintro (e | e); exact hnr (Or.inl e); exact hnr (Or.inr (Or.inr e)))).trans ((Below.heap_alloc _ _ _ hww4).trans HZ4.out)
        have HR5 : Hid (RnO W0 b room q vs tv { s2 with tn := ([] ++ B) ++ [(f : Int)] } w5 (updC C3 65 tv5) vs1 tv5) := hR5
        have HZ5 : Hid (w5.heap[w.heap.size]? = some (.cells #[.int .i64 0, .int .i64 0, .int .i64 0, .int .i64 0, .int .i64 0, .int .i64 0] 76 (0, 0))) := hres5
        obtain ⟨⟨c0, c65, c66⟩, f65, f66⟩ := hR5.pos.cells
        have hb5 := hR5.pos.blk.lt
        clear hp5 hR5 hres5
        go_wp2
        go_roundg (mu s1)
        case measure => exact hmu
        case rel =>
          have e : passS s2 f = { s2 with tn := ([] ++ B) ++ [(f : Int)], bg := false } := by rw [passS, HTB.out]; rfl
          refine ⟨passS s2 f, updC (updC C3 65 tv5) 66 (.bool false), vs1, tv5, HK2.out, HK1.out, HPI.out, ?_, heap_other (by omega) HZ5.out⟩
          rw [e]
          exact ⟨HR5.out.pos.setB false, HR5.out.own, Ot.setCell HR5.out.ot (Or.inl (Or.inl rfl)) _⟩
end Go.Proofs.YtfakjedolecdcaaGreatDoor
