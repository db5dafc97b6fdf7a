/-
  fair.Rounds: what send does. Conditions: they lie in memory; numbers within bounds; the flow has its turn and a packet.
  fair.Rounds: what is taken, as a function of what waits; how long it may take. Mathematics alone.
-/
import Derived.Test.YtfakjedolecdcaaGreatDoorU30
import Derived.Test.YtfakjedolecdcaaGreatDoorU10
namespace Go.Proofs.YtfakjedolecdcaaGreatDoor
open Go.RowKit Go.Extern.Stop Go.Stop Go.Extern

theorem ret_held1 {fn : Func} {p : Tmp} (h : fn.results = #[.cell p 76]) {tmps : Array Value} {w : World} {r : Nat} {x : Hd} {t : TypeId} {fr : Nat × Nat} (hp : tmps.getD p undef = .pointer (some ⟨r, 0, none⟩)) (hx : w.heap[r]? = some (.cells #[.int .i64 x.a, .int .i64 x.l, .int .i64 x.f, .int .i64 x.b, .int .i64 x.m, .int .i64 x.n] t fr)) :
    (results fn tmps).run Tryz.prog w = .ok x.val w := by
  rw [Array.getD_eq_getD_getElem?] at hp
  simp only [results, h]
  simp [hp, asAddr, load_held hx]
/-- One is sent. -/
def fsendS (s : RnS) (f : Nat) (x : Hd) (L : List Hd) : RnS := { fl := updF s.fl f L, cr := updF s.cr f (s.cr f - x.l), tn := if L.isEmpty then s.tn.tail else s.tn, bg := if L.isEmpty then false else s.bg }
theorem updF_twice {α : Type} (g : Nat → α) (i : Nat) (x y : α) : updF (updF g i x) i y = updF g i y := by
  funext j
  unfold updF
  split <;> rfl
set_option maxRecDepth 20000 in
set_option maxHeartbeats 4000000 in
theorem fsend_any {b : Nat} {room : Int} {q : Nat → Int} {C : Nat → Value} {vs : Nat → Value} {tv : Value} {s : RnS} (f : Nat) (x : Hd) (L : List Hd) (B : List Int) (w : World) (h : RnP w b room q C vs tv s) (hf : f < 16) (hL : s.fl f = x :: L) (ht : s.tn = (f : Int) :: B) (hB : (f : Int) ∉ B) (hl : s.tn.length ≤ 1000) (hF : Fit (x :: L)) (hc0 : 0 ≤ s.cr f) (hc1 : s.cr f ≤ 4000000) :
    Calls Tryz.prog 184 #[.pointer (some ⟨b, 0, none⟩), .int .i64 f] w fun e w' => e = .returned x.val ∧ ∃ C' vs' tv', RnO w b room q vs tv (fsendS s f x L) w' C' vs' tv' := by
  have H : Hid (RnP w b room q C vs tv s) := h
  have hb := h.blk.lt
  have hV := Hd.val_eq
  have hx := hF.2 x (by simp)
  have HNX : Hid (∀ W : World, Below w.heap.size w W → Calls Tryz.prog 145 #[.pointer (some ⟨b, 33 + f * 2, none⟩)] W fun e w' => e = .returned (.tuple #[x.val, .bool true]) ∧ ∃ v', LO w' b 67 164 (updL C (33 + f * 2) v' L) (33 + f * 2) v' L ∧ v'.ownBlock = (vs f).ownBlock ∧ Ot (· = b) W w') := by
    intro W hW
    have hl := ((h.below hW).list hf)
    rw [hL] at hl
    exact nextO_any W hl hF
  have HW : Hid (IntKind.i64.wrap (s.cr f - x.l) = s.cr f - x.l) := by show _ = _; rw [IntKind.wrap_i64]; omega
  clear h
  go_enter Tryz.func184, Tryz.ntmps184
  go_wp2_with (go_at_call 145; fail)
  refine (HNX.out _ (below_alloc_ (Below.refl _ _) _)).mono ?_
  rintro e w1 ⟨rfl, v1, hl1, hk1, ho1⟩
  obtain ⟨hs1, hz⟩ := after_ot ho1 (by omega)
  have hR1 : RnO w b room q vs tv { s with fl := updF s.fl f L } w1 (updL C (33 + f * 2) v1 L) (updF vs f v1) tv := by
    have h1 := rno_listed (H.out.al _) hf hl1 (fun k hk => Or.inl (by rw [← hk1]; exact hk)) (ho1.mono (fun k _ e => Or.inl e))
    exact ⟨h1.pos, fun k hk => by rcases h1.own k hk with h | h; exact Or.inl h; exact Or.inr (by simp at h; omega), (Ot.alloc (Ot.refl _ w) _).trans h1.ot⟩
  have HR1 : Hid (RnO w b room q vs tv { s with fl := updF s.fl f L } w1 (updL C (33 + f * 2) v1 L) (updF vs f v1) tv) := hR1
  obtain ⟨⟨z0, z1, z2, z3, z4, z5⟩, y0, y1, y2, y3, y4, y5⟩ := six hz
  obtain ⟨d0, d1, d2⟩ := hR1.pos.flow hf
  obtain ⟨⟨c0, c65, c66⟩, f65, f66⟩ := hR1.pos.cells
  have hbs := hR1.pos.blk.lt
  have hw := HW.out
  have hbn1 : ¬ b = w1.heap.size := by omega
  have hbn2 : ¬ w1.heap.size = b := by omega
  have hwn1 : ¬ w.heap.size = w1.heap.size := by omega
  simp only at d1 c66
  have HOLD : Hid (∀ k, RnF b (updF vs f v1) tv k → RnF b vs tv k) := by
    intro k hk
    rcases hk with h | ⟨g, hg, hv⟩ | h
    · exact Or.inl h
    · by_cases e : g = f
      · subst e
        rw [updF_same, hk1] at hv
        exact Or.inr (Or.inl ⟨g, hg, hv⟩)
      · rw [updF_ne e] at hv
        exact Or.inr (Or.inl ⟨g, hg, hv⟩)
    · exact Or.inr (Or.inr h)
  have HLOW : Hid (∀ k, RnF b (updF vs f v1) tv k → k < w.heap.size) := fun k hk => H.out.low (HOLD.out k hk)
  clear hR1 hl1 ho1 hk1
  go_wp2
  all_goals go_region
  all_goals go_wp2_with (go_at_call 139; fail)
  obtain ⟨W2, hW2⟩ : ∃ W2, ((w1.setCell ⟨b, 17 + f, none⟩ (.int .i64 (s.cr f - x.l))).alloc (.cells #[.int .i64 x.a, .int .i64 x.l, .int .i64 x.f, .int .i64 x.b, .int .i64 x.m, .int .i64 x.n] 76)).drew = W2 := ⟨_, rfl⟩
  have HP2 : Hid (RnP W2 b room q (updC (updL C (33 + f * 2) v1 L) (17 + f) (.int .i64 (s.cr f - x.l))) (updF vs f v1) tv { s with fl := updF s.fl f L, cr := updF s.cr f (s.cr f - x.l) }) := by
    show RnP _ _ _ _ _ _ _ _
    rw [← hW2]
    exact (((HR1.out.pos.setC hf _).al _).drewN 1)
  have HO2 : Hid (Ot (RnF b vs tv) w W2) := by
    show Ot _ _ _
    rw [← hW2]
    exact (Ot.alloc (Ot.setCell HR1.out.ot (Or.inl (Or.inl rfl)) _) _).drew
  have hs2 : W2.heap.size = w1.heap.size + 1 := by rw [← hW2]; simp
  have hx2 : W2.heap[w1.heap.size]? = some (.cells #[.int .i64 x.a, .int .i64 x.l, .int .i64 x.f, .int .i64 x.b, .int .i64 x.m, .int .i64 x.n] 76 (0, 0)) := by rw [← hW2]; exact new_block_ (by simp)
  have hr2 : W2.heap[w.heap.size]? = some (.cells #[.int .i64 0, .int .i64 0, .int .i64 0, .int .i64 0, .int .i64 0, .int .i64 0] 76 (0, 0)) := by
    rw [← hW2]
    exact (Below.heap_alloc _ _ _ (by simpa using hs1)).trans (heap_other (by omega) hz)
  rw [hW2]
  clear hW2 z0 z1 z2 z3 z4 z5 y0 y1 y2 y3 y4 y5 d0 d1 d2 c0 c65 c66 f65 f66 hz hbs hw
  have HLN := lenO_any W2 (HP2.out.list hf)
  simp only [updF_same] at HLN
  obtain ⟨⟨z0, z1, z2, z3, z4, z5⟩, y0, y1, y2, y3, y4, y5⟩ := six hx2
  obtain ⟨⟨r0, r1, r2, r3, r4, r5⟩, t0, t1, t2, t3, t4, t5⟩ := six hr2
  have hb2 : b < W2.heap.size := by omega
  have hw2 : w.heap.size < W2.heap.size := by omega
  have hw12 : w1.heap.size < W2.heap.size := by omega
  refine HLN.mono ?_
  rintro e w3 ⟨rfl, hw3⟩
  subst hw3
  have hlw := HLOW.out
  cases L with
  | nil =>
    have HS : Hid (fsendS s f x [] = { fl := updF s.fl f [], cr := updF s.cr f (s.cr f - x.l), tn := B, bg := false }) := by show _ = _; rw [fsendS, ht]; rfl
    have hT : TO w3 b 67 164 (updC (updL C (33 + f * 2) v1 []) (17 + f) (.int .i64 (s.cr f - x.l))) 65 tv ([] ++ (f : Int) :: B) := by
      have := HP2.out.turns
      simp only [ht] at this
      exact this
    have HLV := leave_any [] B (f : Int) w3 hT (by simp) hB (by rw [ht] at hl; simpa using hl)
    have htl : ∀ k, tv.ownBlock = some k → k < w.heap.size := fun k hk => hlw k (Or.inr (Or.inr hk))
    clear hT
    go_wp2_with (go_at_call 171; fail)
    refine HLV.mono ?_
    rintro e w4 ⟨rfl, tv4, hp4⟩
    have hO4 := hp4.ot
    have hR4 := rno_turned HP2.out hp4
    have hx4 : w4.heap[w1.heap.size]? = _ := (hO4.block _ hw12 (by rintro (e | e); omega; have := htl _ e; omega)).trans hx2
    have hr4 : w4.heap[w.heap.size]? = _ := (hO4.block _ hw2 (by rintro (e | e); omega; have := htl _ e; omega)).trans hr2
    obtain ⟨⟨z0', z1', z2', z3', z4', z5'⟩, y0', y1', y2', y3', y4', y5'⟩ := six hx4
    obtain ⟨⟨r0', r1', r2', r3', r4', r5'⟩, t0', t1', t2', t3', t4', t5'⟩ := six hr4
    obtain ⟨⟨c0, c65, c66⟩, f65, f66⟩ := hR4.pos.cells
    have hb4 := hR4.pos.blk.lt
    have hw4 := lt_of_block hr4
    have hw14 := lt_of_block hx4
    have HR4 : Hid (RnO w3 b room q (updF vs f v1) tv { fl := updF s.fl f [], cr := updF s.cr f (s.cr f - x.l), tn := [] ++ B, bg := s.bg } w4 (updC (updC (updL C (33 + f * 2) v1 []) (17 + f) (.int .i64 (s.cr f - x.l))) 65 tv4) (updF vs f v1) tv4) := hR4
    clear hR4 hp4 hO4 HLV
    go_wp2
    (try simp only [Exit.inBlock, Exit.then])
    refine bodyPost_ret (v := x.val) (ret_held1 rfl rfl (six_set (heap_other (by omega) hr4) _ _ _ _ _ _)) rfl ⟨rfl, updC (updC (updC (updL C (33 + f * 2) v1 []) (17 + f) (.int .i64 (s.cr f - x.l))) 65 tv4) 66 (.bool false), updF vs f v1, tv4, ?_⟩
    rw [HS.out]
    have hnr : ¬ RnF b (updF vs f v1) tv4 w.heap.size := by
      intro hk
      rcases HR4.out.own _ hk with h | h
      · have := hlw _ h; omega
      · omega
    have hQ : RnP (w4.setCell ⟨b, 66, none⟩ (.bool false)) b room q (updC (updC (updC (updL C (33 + f * 2) v1 []) (17 + f) (.int .i64 (s.cr f - x.l))) 65 tv4) 66 (.bool false)) (updF vs f v1) tv4 { fl := updF s.fl f [], cr := updF s.cr f (s.cr f - x.l), tn := B, bg := false } := HR4.out.pos.setB false
    refine ⟨(((((hQ.setO hnr _).setO hnr _).setO hnr _).setO hnr _).setO hnr _).setO hnr _, fun k hk => ?_, ?_⟩
    · rcases HR4.out.own k hk with h | h
      · exact Or.inl (HOLD.out k h)
      · exact Or.inr (by omega)
    · have hO : Ot (RnF b vs tv) w w4 := HO2.out.trans' HR4.out.ot (fun j hj _ => HOLD.out j hj)
      repeat' (first | with_reducible exact hO | with_reducible refine Ot.setCell ?_ (Or.inr (Nat.le_refl _)) _ | refine Ot.setCell ?_ (Or.inl (Or.inl rfl)) _)
  | cons y L' =>
    have HS : Hid (fsendS s f x (y :: L') = { fl := updF s.fl f (y :: L'), cr := updF s.cr f (s.cr f - x.l), tn := s.tn, bg := s.bg }) := by show _ = _; rfl
    have hne : (((y :: L').length : Int) == 0) = false := by simp; omega
    go_wp2
    (try simp only [Exit.inBlock, Exit.then])
    refine bodyPost_ret (v := x.val) (ret_held1 rfl rfl (six_set hr2 _ _ _ _ _ _)) rfl ⟨rfl, updC (updL C (33 + f * 2) v1 (y :: L')) (17 + f) (.int .i64 (s.cr f - x.l)), updF vs f v1, tv, ?_⟩
    rw [HS.out]
    have hnr : ¬ RnF b (updF vs f v1) tv w.heap.size := by
      intro hk
      have := hlw _ hk; omega
    refine ⟨(((((HP2.out.setO hnr _).setO hnr _).setO hnr _).setO hnr _).setO hnr _).setO hnr _, fun k hk => Or.inl (HOLD.out k hk), ?_⟩
    have hO := HO2.out
    repeat' (first | with_reducible exact hO | with_reducible refine Ot.setCell ?_ (Or.inr (Nat.le_refl _)) _)
end Go.Proofs.YtfakjedolecdcaaGreatDoor
namespace Go.Proofs.YtfakjedolecdcaaGreatDoor
open Go.RowKit Go.Extern.Stop Go.Stop Go.Extern

/-- It comes behind all others. -/
def passS (s : RnS) (m : Int) : RnS := { s with tn := s.tn.tail ++ [m], bg := false }
def mu (s : RnS) : Nat := (s.tn.map (fun m => 2 * (10001 - s.cr m.toNat).toNat)).sum + (if s.bg then 1 else 0)
def takeW (q : Nat → Int) (s : RnS) : RnS × List Hd × Hd × Bool :=
  match s.tn with
  | [] => (s, [], hd0, false)
  | m :: _ =>
    match s.fl m.toNat with
    | [] => (s, [], hd0, false)
    | x :: L =>
      if x.l ≤ (beginS q s m.toNat).cr m.toNat ∧ m.toNat < 16 then (fsendS (beginS q s m.toNat) m.toNat x L, [], x, true)
      else if _h : mu (passS (beginS q s m.toNat) m) < mu s then takeW q (passS (beginS q s m.toNat) m) else (s, [], hd0, false)
termination_by mu s
theorem takeW_nil {q : Nat → Int} {s : RnS} (h : s.tn = []) : takeW q s = (s, [], hd0, false) := by
  rw [takeW]; simp only [h]
theorem takeW_send {q : Nat → Int} {s : RnS} {f : Nat} {B : List Int} {x : Hd} {L : List Hd} (h : s.tn = (f : Int) :: B) (hf : f < 16) (hL : s.fl f = x :: L) (hx : x.l ≤ (beginS q s f).cr f) : takeW q s = (fsendS (beginS q s f) f x L, [], x, true) := by
  rw [takeW]
  simp only [h, Int.toNat_natCast, hL]
  rw [if_pos ⟨hx, hf⟩]
theorem takeW_pass {q : Nat → Int} {s : RnS} {f : Nat} {B : List Int} {x : Hd} {L : List Hd} (h : s.tn = (f : Int) :: B) (hL : s.fl f = x :: L) (hx : ¬ x.l ≤ (beginS q s f).cr f) (hm : mu (passS (beginS q s f) f) < mu s) : takeW q s = takeW q (passS (beginS q s f) f) := by
  rw [takeW]
  simp only [h, Int.toNat_natCast, hL]
  rw [if_neg (fun e => hx e.1), dif_pos hm]
/-- What holds of Rounds. -/
structure RnI (q : Nat → Int) (s : RnS) : Prop where
  tin : ∀ m ∈ s.tn, 0 ≤ m ∧ m < 16
  tnd : s.tn.Nodup
  tfl : ∀ f : Nat, f < 16 → ((f : Int) ∈ s.tn ↔ s.fl f ≠ [])
  len : ∀ f, f < 16 → (s.fl f).length ≤ 1001
  ok : ∀ f, f < 16 → ∀ x ∈ s.fl f, x.ok = true ∧ x.f = (f : Int)
  cr0 : ∀ f, f < 16 → 0 ≤ s.cr f ∧ s.cr f ≤ 1010000
  crt : ∀ m ∈ s.tn, (s.bg = false ∨ s.tn.head? ≠ some m) → s.cr m.toNat ≤ 10000
  qs : ∀ f, f < 16 → 1 ≤ q f ∧ q f ≤ 1000000
theorem nodup_lt : ∀ (n : Nat) (l : List Nat), l.Nodup → (∀ x ∈ l, x < n) → l.length ≤ n := by
  intro n
  induction n with
  | zero =>
    intro l _ h
    cases l with
    | nil => exact Nat.le_refl _
    | cons a l => have := h a (by simp); omega
  | succ n ih =>
    intro l hn h
    by_cases hm : n ∈ l
    · have h1 := ih (l.erase n) (hn.erase n) (fun x hx => by
        have h2 := h x (List.mem_of_mem_erase hx)
        have h3 : x ≠ n := fun e => hn.not_mem_erase (e ▸ hx)
        omega)
      rw [List.length_erase_of_mem hm] at h1
      omega
    · have h1 := ih l hn (fun x hx => by
        have h2 := h x hx
        have h3 : x ≠ n := fun e => hm (e ▸ hx)
        omega)
      omega
theorem nodup_le {l : List Int} (h : ∀ m ∈ l, 0 ≤ m ∧ m < 16) (hn : l.Nodup) : l.length ≤ 16 := by
  have h1 : (l.map Int.toNat).Nodup := by
    rw [List.nodup_iff_pairwise_ne, List.pairwise_map]
    refine List.Pairwise.imp_of_mem ?_ hn
    intro a b ha hb hab e
    have := h a ha
    have := h b hb
    omega
  have h3 := nodup_lt 16 _ h1 (fun x hx => by
    obtain ⟨m, hm, rfl⟩ := List.mem_map.1 hx
    have := h m hm
    omega)
  simpa using h3
theorem RnI.few {q : Nat → Int} {s : RnS} (h : RnI q s) : s.tn.length ≤ 1000 := Nat.le_trans (nodup_le h.tin h.tnd) (by omega)
theorem RnI.fit {q : Nat → Int} {s : RnS} (h : RnI q s) {f : Nat} (hf : f < 16) : Fit (s.fl f) := ⟨by have := h.len f hf; omega, fun x hx => by have := ok_len (h.ok f hf x hx).1; omega⟩
theorem beginS_fl (q : Nat → Int) (s : RnS) (f : Nat) : (beginS q s f).fl = s.fl ∧ (beginS q s f).tn = s.tn ∧ (beginS q s f).bg = true := by
  unfold beginS
  split
  · rename_i h; exact ⟨rfl, rfl, h⟩
  · exact ⟨rfl, rfl, rfl⟩
theorem beginS_cr {q : Nat → Int} {s : RnS} {f g : Nat} (h : g ≠ f) : (beginS q s f).cr g = s.cr g := by
  unfold beginS
  split
  · rfl
  · exact updF_ne h
theorem beginS_cr0 {q : Nat → Int} {s : RnS} {f : Nat} {B : List Int} (h : RnI q s) (hf : f < 16) (ht : s.tn = (f : Int) :: B) : 0 ≤ (beginS q s f).cr f ∧ (beginS q s f).cr f ≤ 1010000 := by
  have h1 := h.cr0 f hf
  have h2 := h.qs f hf
  unfold beginS
  cases hb : s.bg with
  | true => simpa using h1
  | false =>
    have h3 := h.crt (f : Int) (by rw [ht]; simp) (Or.inl hb)
    rw [Int.toNat_natCast] at h3
    simp only [Bool.false_eq_true, if_false, updF_same]
    omega
theorem not_in_tail {q : Nat → Int} {s : RnS} {m : Int} {B : List Int} (h : RnI q s) (ht : s.tn = m :: B) : m ∉ B := by
  have := h.tnd
  rw [ht, List.nodup_cons] at this
  exact this.1
theorem RnI.begin {q : Nat → Int} {s : RnS} {f : Nat} {B : List Int} (h : RnI q s) (hf : f < 16) (ht : s.tn = (f : Int) :: B) : RnI q (beginS q s f) := by
  obtain ⟨e1, e2, e3⟩ := beginS_fl q s f
  refine ⟨by rw [e2]; exact h.tin, by rw [e2]; exact h.tnd, by rw [e2, e1]; exact h.tfl, by rw [e1]; exact h.len, by rw [e1]; exact h.ok, fun g hg => ?_, fun m hm hd => ?_, h.qs⟩
  · by_cases e : g = f
    · subst e; exact beginS_cr0 h hg ht
    · rw [beginS_cr e]; exact h.cr0 g hg
  · rw [e2] at hm hd
    rw [e3, ht] at hd
    have hmf : m ≠ (f : Int) := by
      rcases hd with hd | hd
      · cases hd
      · intro e; exact hd (by simp [e])
    have hm0 := h.tin m hm
    rw [beginS_cr (by omega)]
    exact h.crt m hm (Or.inr (by rw [ht]; simp; exact fun e => hmf e.symm))
theorem RnI.pass {q : Nat → Int} {s : RnS} {f : Nat} {B : List Int} (h : RnI q s) (ht : s.tn = (f : Int) :: B) (hc : s.cr f ≤ 10000) : RnI q (passS s f) := by
  have hB := not_in_tail h ht
  have hmem : ∀ m, m ∈ (passS s f).tn ↔ m ∈ s.tn := by
    intro m
    show m ∈ s.tn.tail ++ [(f : Int)] ↔ _
    rw [ht]
    simp [or_comm]
  refine ⟨fun m hm => h.tin m ((hmem m).1 hm), ?_, fun g hg => by rw [hmem]; exact h.tfl g hg, h.len, h.ok, h.cr0, fun m hm _ => ?_, h.qs⟩
  · show (s.tn.tail ++ [(f : Int)]).Nodup
    have := h.tnd
    rw [ht, List.nodup_cons] at this
    rw [ht, List.tail_cons, List.nodup_append]
    exact ⟨this.2, by simp, fun a ha b hb e => by simp at hb; subst hb; subst e; exact hB ha⟩
  · have hm' := (hmem m).1 hm
    show s.cr m.toNat ≤ 10000
    by_cases e : m = (f : Int)
    · subst e; rw [Int.toNat_natCast]; exact hc
    · exact h.crt m hm' (Or.inr (by rw [ht]; simp; exact fun e' => e e'.symm))
theorem RnI.send {q : Nat → Int} {s : RnS} {f : Nat} {B : List Int} {x : Hd} {L : List Hd} (h : RnI q s) (hf : f < 16) (ht : s.tn = (f : Int) :: B) (hL : s.fl f = x :: L) (hx : x.l ≤ s.cr f) (hbg : s.bg = true) : RnI q (fsendS s f x L) := by
  have hB := not_in_tail h ht
  have hxl := ok_len (h.ok f hf x (by rw [hL]; simp)).1
  have hcr := h.cr0 f hf
  have hnd := h.tnd
  rw [ht, List.nodup_cons] at hnd
  have hcr' : ∀ g, g < 16 → 0 ≤ (fsendS s f x L).cr g ∧ (fsendS s f x L).cr g ≤ 1010000 := by
    intro g hg
    show 0 ≤ updF s.cr f (s.cr f - x.l) g ∧ updF s.cr f (s.cr f - x.l) g ≤ 1010000
    by_cases e : g = f
    · subst e; rw [updF_same]; omega
    · rw [updF_ne e]; exact h.cr0 g hg
  have hlen' : ∀ g, g < 16 → ((fsendS s f x L).fl g).length ≤ 1001 := by
    intro g hg
    show (updF s.fl f L g).length ≤ 1001
    by_cases e : g = f
    · subst e; rw [updF_same]; have := h.len g hg; rw [hL] at this; simp at this; omega
    · rw [updF_ne e]; exact h.len g hg
  have hok' : ∀ g, g < 16 → ∀ y ∈ (fsendS s f x L).fl g, y.ok = true ∧ y.f = (g : Int) := by
    intro g hg y hy
    have hy' : y ∈ updF s.fl f L g := hy
    by_cases e : g = f
    · subst e; rw [updF_same] at hy'; exact h.ok g hg y (by rw [hL]; simp [hy'])
    · rw [updF_ne e] at hy'; exact h.ok g hg y hy'
  cases L with
  | nil =>
    have e1 : (fsendS s f x []).tn = B := by show s.tn.tail = _; rw [ht]; rfl
    refine ⟨fun m hm => h.tin m (by rw [e1] at hm; rw [ht]; simp [hm]), by rw [e1]; exact hnd.2, fun g hg => ?_, hlen', hok', hcr', fun m hm _ => ?_, h.qs⟩
    · rw [e1]
      show _ ↔ updF s.fl f [] g ≠ []
      by_cases e : g = f
      · subst e; rw [updF_same]; simp [hB]
      · rw [updF_ne e, ← h.tfl g hg, ht]
        simp; omega
    · rw [e1] at hm
      have hmf : m ≠ (f : Int) := fun e => hB (e ▸ hm)
      have hm0 := h.tin m (by rw [ht]; simp [hm])
      show updF s.cr f (s.cr f - x.l) m.toNat ≤ 10000
      rw [updF_ne (by omega)]
      exact h.crt m (by rw [ht]; simp [hm]) (Or.inr (by rw [ht]; simp; exact fun e => hmf e.symm))
  | cons y L' =>
    have e1 : (fsendS s f x (y :: L')).tn = s.tn := rfl
    have e2 : (fsendS s f x (y :: L')).bg = true := hbg
    refine ⟨by rw [e1]; exact h.tin, by rw [e1]; exact h.tnd, fun g hg => ?_, hlen', hok', hcr', fun m hm hd => ?_, h.qs⟩
    · rw [e1]
      show _ ↔ updF s.fl f (y :: L') g ≠ []
      by_cases e : g = f
      · subst e; rw [updF_same, ht]; simp
      · rw [updF_ne e]; exact h.tfl g hg
    · rw [e1] at hm hd
      rw [e2] at hd
      have hmf : m ≠ (f : Int) := by
        rcases hd with hd | hd
        · cases hd
        · intro e; exact hd (by rw [ht]; simp [e])
      have hm0 := h.tin m hm
      show updF s.cr f (s.cr f - x.l) m.toNat ≤ 10000
      rw [updF_ne (by omega)]
      exact h.crt m hm (Or.inr (by rw [ht]; simp; exact fun e => hmf e.symm))
theorem mu_pass {q : Nat → Int} {s : RnS} {f : Nat} {B : List Int} (h : RnI q s) (hf : f < 16) (ht : s.tn = (f : Int) :: B) (hx : (beginS q s f).cr f < 10000) : mu (passS (beginS q s f) f) < mu s := by
  obtain ⟨e1, e2, e3⟩ := beginS_fl q s f
  have hB := not_in_tail h ht
  have hq := h.qs f hf
  have hsame : B.map (fun m => 2 * (10001 - (beginS q s f).cr m.toNat).toNat) = B.map (fun m => 2 * (10001 - s.cr m.toNat).toNat) := by
    refine List.map_congr_left (fun m hm => ?_)
    have hm0 := h.tin m (by rw [ht]; simp [hm])
    have hmf : m ≠ (f : Int) := fun e => hB (e ▸ hm)
    rw [beginS_cr (by omega)]
  have e4 : (passS (beginS q s f) f).tn = B ++ [(f : Int)] := by show (beginS q s f).tn.tail ++ _ = _; rw [e2, ht]; rfl
  have e5 : mu (passS (beginS q s f) f) = (B.map (fun m => 2 * (10001 - s.cr m.toNat).toNat)).sum + 2 * (10001 - (beginS q s f).cr f).toNat := by
    unfold mu
    rw [e4, List.map_append, List.sum_append]
    show (B.map (fun m => 2 * (10001 - (beginS q s f).cr m.toNat).toNat)).sum + _ + 0 = _
    rw [hsame]
    simp
    rfl
  rw [e5]
  unfold mu
  rw [ht, List.map_cons, List.sum_cons, Int.toNat_natCast]
  unfold beginS at hx ⊢
  cases hb : s.bg with
  | true =>
    rw [hb] at hx
    simp only [if_true] at hx ⊢
    omega
  | false =>
    rw [hb] at hx
    simp only [Bool.false_eq_true, if_false, updF_same] at hx ⊢
    omega
end Go.Proofs.YtfakjedolecdcaaGreatDoor
