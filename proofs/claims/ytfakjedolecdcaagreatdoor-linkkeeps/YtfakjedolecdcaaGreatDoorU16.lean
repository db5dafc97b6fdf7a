/-
  queue.Bands over whatever queues: what Take returns, and what it leaves. Conditions: the queues' methods do what models of them tell (a premise); one band at least, eight at most.
  queue.NewBands: bands of queues; and bands as a queue as plain.Play asks it: their model. Conditions: one queue at least, eight at most; the queues' methods do what models of them tell (a premise).
  queue.NewBands: bands of queues, in memory of the call's own. Conditions: one queue at least, eight at most, none of them nil, which lie in memory.
-/
import Derived.Test.YtfakjedolecdcaaGreatDoorBp
import Derived.Test.YtfakjedolecdcaaGreatDoorQf
namespace Go.Proofs.YtfakjedolecdcaaGreatDoor
open Go.RowKit Go.Extern.Stop Go.Stop Go.Extern

/-- One behind the other, until one gives. -/
def takeB {Q : Nat → QM} (now : Int) : Nat → Nat → (∀ i, (Q i).σ) → List Hd → (∀ i, (Q i).σ) × List Hd × Hd × Bool
  | 0, _, s, acc => (s, acc, hd0, false)
  | m + 1, i, s, acc => if ((Q i).take (s i) now).2.2.2 = true then (upd s i ((Q i).take (s i) now).1, acc ++ ((Q i).take (s i) now).2.1, ((Q i).take (s i) now).2.2.1, true) else takeB now m (i + 1) (upd s i ((Q i).take (s i) now).1) (acc ++ ((Q i).take (s i) now).2.1)
/-- Nothing is appended. -/
theorem wpList_append_empty {P : Program} (w : World) {ops : Array Oper} {rest : List Oper} {o : Oper} {a : Act} {Q : Exit → Act → World → Prop} (hgd : o.guard = none) (s x : Operand) (t : TypeId)
    (ho : o.op = .call { callee := .builtin .append, args := #[s, x], argTypes := #[t, t] })
    (e : TypeId) (i : TypeInfo) (ht : P.underlying t = some (.slice e)) (hi : P.info? e = some i)
    (ad : Option Addr) (n cap : Nat) (hs : a.eval s = .slice ad n cap) (hle : n ≤ cap) (xa : Option Addr) (xc : Nat) (hx : a.eval x = .slice xa 0 xc)
    (h : wpList P ops Q rest (a.put o.dst (.slice ad n cap)) w) : wpList P ops Q (o :: rest) a w := by
  refine wpList_plain hgd fun K hK => ?_
  have hr : (Builtin.append_ #[t, t] o.type #[.slice ad n cap, .slice xa 0 xc]).run P w = .ok (.slice ad n cap) w := by
    cases ad <;> cases xa <;> simp [Builtin.append_, Builtin.lenOf, Builtin.firstCells, run_underlying ht, sizeOf, typeInfo, hi, hle, storeCells, loadCells, loadCellsFrom]
  unfold Oper.wp execOp
  simp only [ho, resolve, invoke, builtin, Sem.run_bind, Sem.run_pure, Result.andThen_ok, List.map_toArray, List.map_cons, List.map_nil, hs, hx, hr]
  exact hK _ _ h
/-- A round of Take. -/
structure TakeR (Q : Nat → QM) (N B ob oo oc : Nat) (w : World) (Fs0 : Nat → Nat → Prop) (s0 : ∀ i, (Q i).σ) (now : Int) (k : Nat) (u : Value) (wr : World) (Fs : Nat → Nat → Prop) (s : ∀ i, (Q i).σ) (acc : List Hd) : Prop where
  eq : takeB now N 0 s0 [] = takeB now (N - k) k s acc
  same : ∀ i, k ≤ i → s i = s0 i
  pos : BAt Q N B ob oo oc wr Fs s
  ft : ∀ j, foot N B ob Fs j → foot N B ob Fs0 j ∨ w.heap.size + 1 ≤ j
  lost : Hs wr u acc
  few : acc.length ≤ 100000 * k
  new : ∀ j, u.ownBlock = some j → w.heap.size + 1 ≤ j ∧ ¬ foot N B ob Fs j
  res : wr.heap[w.heap.size]? = some (.cells #[.int .i64 0, .int .i64 0, .int .i64 0, .int .i64 0, .int .i64 0, .int .i64 0] 76 (0, 0))
  ot : Ot (foot N B ob Fs0) w wr
/-- What Take leaves. -/
def TakeP (Q : Nat → QM) (N B ob oo oc : Nat) (Fs : Nat → Nat → Prop) (w : World) (r : (∀ i, (Q i).σ) × List Hd × Hd × Bool) (u : Value) (w' : World) : Prop :=
  ∃ Fs', Hs w' u r.2.1 ∧ BAt Q N B ob oo oc w' Fs' r.1 ∧ (∀ k, foot N B ob Fs' k → foot N B ob Fs k ∨ w.heap.size ≤ k) ∧ (∀ k, u.ownBlock = some k → foot N B ob Fs k ∨ w.heap.size ≤ k) ∧ Ot (foot N B ob Fs) w w'
theorem Hs.shape' {w : World} {v : Value} {L : List Hd} (h : Hs w v L) : ∃ x cap, v = .slice x L.length cap ∧ L.length ≤ cap := by
  rcases h.form with ⟨h, h0, _⟩ | ⟨b, off, cap, h, h1, _⟩
  · exact ⟨none, 0, by rw [h, h0], by omega⟩
  · exact ⟨_, _, h, h1⟩
/-- A band was asked; what it lost is behind what was lost. -/
theorem take_mid {Q : Nat → QM} {N B ob oo oc : Nat} {w : World} {Fs0 : Nat → Nat → Prop} {s0 : ∀ i, (Q i).σ} {now : Int} {k : Nat} {u u' : Value} {wr w2 w4 : World} {Fs : Nat → Nat → Prop} {s : ∀ i, (Q i).σ} {acc : List Hd} (hS : Small Q N) (h : TakeR Q N B ob oo oc w Fs0 s0 now k u wr Fs s acc) (hk : k < N)
    {F' : Nat → Prop} {x : (Q k).σ} {o : Obj} {l : List Hd} (ho : Ot (Fs k) wr w2) (ha : (Q k).At w2 F' x) (hf : ∀ j, F' j → Fs k j ∨ wr.heap.size ≤ j) (hl : l.length ≤ 100000)
    (hg : (w2.alloc o).grownBy w4 u.ownBlock) (hs4 : Hs w4 u' (acc ++ l)) (hu : ∀ j, u'.ownBlock = some j → u.ownBlock = some j ∨ w2.heap.size + 1 ≤ j) (hlow : ∀ j, foot N B ob Fs0 j → j < w.heap.size) :
    BAt Q N B ob oo oc w4 (updP Fs k F') (upd s k x) ∧ (∀ j, foot N B ob (updP Fs k F') j → foot N B ob Fs0 j ∨ w.heap.size + 1 ≤ j) ∧ Hs w4 u' (acc ++ l) ∧ (acc ++ l).length ≤ 100000 * (k + 1) ∧
    (∀ j, u'.ownBlock = some j → w.heap.size + 1 ≤ j ∧ ¬ foot N B ob (updP Fs k F') j) ∧ w4.heap[w.heap.size]? = some (.cells #[.int .i64 0, .int .i64 0, .int .i64 0, .int .i64 0, .int .i64 0, .int .i64 0] 76 (0, 0)) ∧ w4.heap[w2.heap.size]? = some o ∧ Ot (foot N B ob Fs0) w w4 ∧ w2.heap.size < w4.heap.size := by
  obtain ⟨h1, h2, h3⟩ := h.pos.step hS.fine hk ho ha hf
  have hres := lt_of_block h.res
  have hsz := ho.size
  have hul : ∀ j, u.ownBlock = some j → j < wr.heap.size := fun j hj => Seg.lt h.lost hj
  have hlow1 := h1.low hS.fine
  have hlow0 := h.pos.low hS.fine
  have hO : Ot (fun j => u.ownBlock = some j) w2 w4 := Ot.grown (row := u.ownBlock) (Ot.alloc (Ot.refl _ _) o) hg (fun j e => Or.inl e)
  have hdis : ∀ j, foot N B ob (updP Fs k F') j → ¬ u.ownBlock = some j := by
    intro j hj e
    rcases h2 j hj with h' | h'
    · exact (h.new j e).2 h'
    · have := hul j e; omega
  have hnr : ¬ foot N B ob Fs w.heap.size := by
    intro hj
    rcases h.ft _ hj with h' | h'
    · have := hlow _ h'; omega
    · omega
  have hrk : ¬ Fs k w.heap.size := fun hj => hnr (Or.inr (Or.inr ⟨k, hk, hj⟩))
  refine ⟨h1.ot hS.fine hO hdis, ?_, hs4, by rw [List.length_append]; have := h.few; omega, ?_, ?_, ?_, ?_, ?_⟩
  · intro j hj
    rcases h2 j hj with h' | h'
    · exact h.ft j h'
    · right; have := h.ot.size; omega
  · intro j hj
    rcases hu j hj with h' | h'
    · refine ⟨(h.new j h').1, fun hj' => hdis j hj' h'⟩
    · refine ⟨by have := h.ot.size; omega, fun hj' => ?_⟩
      have := hlow1 j hj'; omega
  · rw [hO.block _ (by omega) (fun e => by have := (h.new _ e).1; omega), ho.block _ hres hrk]
    exact h.res
  · rw [hg.block _ (by simp) (fun e => by have := hul _ e.symm; omega)]
    exact new_block _ _
  · refine (h.ot.trans' h3 (fun j hj hjl => ?_)).trans' hO (fun j hj hjl => ?_)
    · rcases h.ft j hj with h' | h'
      · exact h'
      · omega
    · have := (h.new j hj).1; omega
  · have := hg.size
    simp at this
    omega
theorem grownBy_same (w : World) (row : Option Nat) : w.grownBy w row := ⟨rfl, rfl, rfl, Nat.le_refl _, fun _ _ _ => rfl⟩
theorem Hs.app {w : World} {v : Value} {X Y : List Hd} {n : Nat} (h : Seg w 76 6 v n (flt Hd.cs X ++ flt Hd.cs Y)) (hn : n = (X ++ Y).length) : Hs w v (X ++ Y) := by
  unfold Hs
  rw [flt_append, ← hn]
  exact h
theorem flt_ones' {α : Type} (cs : α → List Value) (h : ∀ x, ∀ u ∈ cs x, u.oneCell' = true) (xs : List α) : ∀ u ∈ flt cs xs, u.oneCell' = true := by
  intro u hu
  simp only [flt, List.mem_flatMap] at hu
  obtain ⟨x, _, hx⟩ := hu
  exact h x u hx
/-- The end of Take: what is given lies where the result is read. -/
theorem take_end {Q : Nat → QM} {N B ob oo oc : Nat} {w : World} {Fs0 : Nat → Nat → Prop} {u' : Value} {w4 w5 : World} {Fs : Nat → Nat → Prop} {s : ∀ i, (Q i).σ} {acc : List Hd} {x : Hd} {ok : Bool} (hS : Small Q N)
    (h1 : BAt Q N B ob oo oc w4 Fs s) (h2 : ∀ j, foot N B ob Fs j → foot N B ob Fs0 j ∨ w.heap.size + 1 ≤ j) (h3 : Hs w4 u' acc) (h5 : ∀ j, u'.ownBlock = some j → w.heap.size + 1 ≤ j ∧ ¬ foot N B ob Fs j) (h8 : Ot (foot N B ob Fs0) w w4) (ho : Ot (· = w.heap.size) w4 w5) (hlow : ∀ j, foot N B ob Fs0 j → j < w.heap.size) : TakeP Q N B ob oo oc Fs0 w (s, acc, x, ok) u' w5 := by
  refine ⟨Fs, Seg.oth h3 ho (fun j hj e => by have := (h5 j hj).1; omega), h1.ot hS.fine ho (fun j hj e => ?_), fun j hj => ?_, fun j hj => Or.inr (by have := (h5 j hj).1; omega), h8.trans' ho (fun j e hj => by omega)⟩
  · rcases h2 j hj with h | h
    · have := hlow j h; omega
    · omega
  · rcases h2 j hj with h | h
    · exact Or.inl h
    · right; omega
set_option maxHeartbeats 2000000 in
theorem bands_take {Q : Nat → QM} {N B ob oo oc : Nat} {Fs : Nat → Nat → Prop} {s : ∀ i, (Q i).σ} {t : Int} {n : Nat} (now : Int) (hS : Small Q N) (w : World) (h : BAt Q N B ob oo oc w Fs s) (hI : ∀ i, i < N → (Q i).inv t n (s i)) (hn : n ≤ 1000) (ht0 : 0 ≤ t) (ht1 : t ≤ now) (ht2 : now ≤ 20000000) :
    Calls Tryz.prog 201 #[.pointer (some ⟨B, 0, none⟩), .int .i64 now] w fun e w' => ∃ u, e = .returned (.tuple #[(takeB now N 0 s []).2.2.1.val, u, .bool (takeB now N 0 s []).2.2.2]) ∧ TakeP Q N B ob oo oc Fs w (takeB now N 0 s []) u w' := by
  have HS : Hid (Small Q N) := hS
  have HB : Hid (BAt Q N B ob oo oc w Fs s) := h
  have HL : Hid (∀ k, foot N B ob Fs k → k < w.heap.size) := h.low hS.fine
  have HI : Hid (∀ i, i < N → (Q i).inv t n (s i)) := hI
  have hN8 := hS.eight
  have hc := h.cell
  have hl := lt_of_block h.blk
  obtain ⟨i0, hi, hz0, hz1, hz2⟩ := info_parts infoHeld
  clear h hI hS
  go_enter Tryz.func201, Tryz.ntmps201
  go_wp2
  go_loopw [5, 17] (fun u i wr => ∃ (k : Nat) (F1 : Nat → Nat → Prop) (s1 : ∀ i, (Q i).σ) (acc : List Hd), k ≤ N ∧ i = .int .i64 k ∧ TakeR Q N B ob oo oc w Fs s now k u wr F1 s1 acc) (fun _ i _ => N - (intOf i).toNat)
  case atStart =>
    have hb0 : Below w.heap.size w (w.alloc (.cells #[.int .i64 0, .int .i64 0, .int .i64 0, .int .i64 0, .int .i64 0, .int .i64 0] 76)) := below_alloc_ (Below.refl _ _) _
    exact ⟨0, Fs, s, [], Nat.zero_le _, rfl, rfl, fun _ _ => rfl, HB.out.below HS.out.fine hb0, fun j hj => Or.inl hj, Hs.nil _, by simp, fun j hj => by simp [Value.ownBlock] at hj, new_block _ _, Ot.of_below hb0⟩
  case round =>
    obtain ⟨k, F1, s1, acc, hk, rfl, hr⟩ := hrel
    have HR : Hid (TakeR Q N B ob oo oc w Fs s now k u5 wr F1 s1 acc) := hr
    clear hr
    by_cases hlt : k < N
    · have hrow := HR.out.pos.row k hlt
      have hM := HS.out.fine k hlt
      have hmT := hM.mT
      have heT := hM.eT
      have hinv : (Q k).inv t n (s1 k) := by rw [HR.out.same k (Nat.le_refl _)]; exact HI.out k hlt
      have HCT := hM.cT now (HR.out.pos.each k hlt) hinv ht0 ht1 ht2 hn
      have hfew := HS.out.few k hlt now hinv hn
      have HEQ : Hid (takeB now N 0 s [] = if ((Q k).take (s1 k) now).2.2.2 = true then (upd s1 k ((Q k).take (s1 k) now).1, acc ++ ((Q k).take (s1 k) now).2.1, ((Q k).take (s1 k) now).2.2.1, true) else takeB now (N - (k + 1)) (k + 1) (upd s1 k ((Q k).take (s1 k) now).1) (acc ++ ((Q k).take (s1 k) now).2.1)) := by
        show _ = _
        rw [HR.out.eq, show N - k = (N - (k + 1)) + 1 by omega]
        rfl
      obtain ⟨⟨s2, l2, x2, ok2⟩, hTk⟩ : ∃ T, (Q k).take (s1 k) now = T := ⟨_, rfl⟩
      rw [hTk] at HCT hfew HEQ
      clear hM hinv hTk
      obtain ⟨ux, ucap, hu5, huc⟩ := HR.out.lost.shape'
      subst hu5
      obtain ⟨na, hna⟩ : ∃ na, acc.length = na := ⟨_, rfl⟩
      have HNA : Hid (acc.length = na) := hna
      have hnak : na ≤ 100000 * k := by rw [← hna]; exact HR.out.few
      rw [hna] at HR huc ⊢
      clear hna
      have hwl := lt_of_block HR.out.res
      have hV := Hd.val_eq
      go_wp2_with fail
      refine HCT.mono ?_
      rintro e w2 ⟨u2, F2, rfl, hu2, ha2, hf2, hn2, ho2⟩
      have HU2 : Hid (Hs w2 u2 l2) := hu2
      have HA2 : Hid ((Q k).At w2 F2 s2) := ha2
      have HF2 : Hid (∀ j, F2 j → F1 k j ∨ wr.heap.size ≤ j) := hf2
      have HO2 : Hid (Ot (F1 k) wr w2) := ho2
      have hs2 := ho2.size
      clear hu2 ha2 hf2 ho2 hn2 HCT
      have HSG : Hid (Hs w2 (.slice ux na ucap) acc) := Seg.oth HR.out.lost HO2.out (fun j hj hj' => (HR.out.new j hj).2 (Or.inr (Or.inr ⟨k, hlt, hj'⟩)))
      cases l2 with
      | nil =>
        obtain ⟨xa, xc, hu2, _⟩ := HU2.out.shape'
        subst hu2
        cases ok2 with
        | true =>
          have HEQ2 : Hid (takeB now N 0 s [] = (upd s1 k s2, acc ++ [], x2, true)) := HEQ.out
          clear HEQ
          go_wp2_with (at_builtin; refine wpList_append_empty _ rfl (.tmp 28) (.tmp 29) 74 rfl 76 i0 Tryz.underlying74 hi ux na ucap rfl huc xa xc rfl ?_; obtain ⟨m1, m2, m3, m4, m5, m6, m7, m8, m9⟩ := take_mid HS.out HR.out hlt (o := .cells #[.int .i64 x2.a, .int .i64 x2.l, .int .i64 x2.f, .int .i64 x2.b, .int .i64 x2.m, .int .i64 x2.n] 76) HO2.out HA2.out HF2.out hfew (grownBy_same _ _) (by rw [List.append_nil]; exact Hs.below HSG.out (below_alloc_ (Below.refl _ _) _)) (fun j hj => Or.inl hj) HL.out; obtain ⟨⟨a0, a1, a2, a3, a4, a5⟩, e0, e1, e2, e3, e4, e5⟩ := six m6; obtain ⟨⟨b0, b1, b2, b3, b4, b5⟩, _, _, _, _, _, _⟩ := six m7)
          (try simp only [Exit.inBlock, Exit.then, Exit.noGoto_ret])
          refine bodyPost_ret (v := .tuple #[x2.val, (.slice ux na ucap), .bool true]) ?_ rfl ⟨(.slice ux na ucap), by rw [HEQ2.out], ?_⟩
          · rw [results_cell_tmp2 rfl]
            have hld := load_held (x := x2) (six_set m6 (.int .i64 x2.a) (.int .i64 x2.l) (.int .i64 x2.f) (.int .i64 x2.b) (.int .i64 x2.m) (.int .i64 x2.n))
            simp [asAddr, Result.andThen, hld]
          · rw [HEQ2.out]
            refine take_end HS.out m1 m2 m3 m5 m8 ?_ HL.out
            repeat' (first | with_reducible exact Ot.refl _ _ | with_reducible refine Ot.setCell ?_ (by simp) _)
        | false =>
          have HEQ2 : Hid (takeB now N 0 s [] = takeB now (N - (k + 1)) (k + 1) (upd s1 k s2) (acc ++ [])) := HEQ.out
          clear HEQ
          go_wp2_with (at_builtin; refine wpList_append_empty _ rfl (.tmp 28) (.tmp 29) 74 rfl 76 i0 Tryz.underlying74 hi ux na ucap rfl huc xa xc rfl ?_; obtain ⟨m1, m2, m3, m4, m5, m6, m7, m8, m9⟩ := take_mid HS.out HR.out hlt (o := .cells #[.int .i64 x2.a, .int .i64 x2.l, .int .i64 x2.f, .int .i64 x2.b, .int .i64 x2.m, .int .i64 x2.n] 76) HO2.out HA2.out HF2.out hfew (grownBy_same _ _) (by rw [List.append_nil]; exact Hs.below HSG.out (below_alloc_ (Below.refl _ _) _)) (fun j hj => Or.inl hj) HL.out; obtain ⟨⟨a0, a1, a2, a3, a4, a5⟩, e0, e1, e2, e3, e4, e5⟩ := six m6; obtain ⟨⟨b0, b1, b2, b3, b4, b5⟩, _, _, _, _, _, _⟩ := six m7)
          go_roundw
          case rel => exact ⟨k + 1, updP F1 k F2, upd s1 k s2, acc ++ [], by omega, by go_num, HEQ2.out, fun i hi => by rw [upd_ne _ _ (by omega)]; exact HR.out.same i (by omega), m1, m2, m3, m4, m5, m6, m8⟩
          case measure => simp [intOf]; omega
      | cons y l3 =>
        obtain ⟨bl, ol, cl, hu2, _, _, hbl, hcl⟩ := HU2.out.some (by simp)
        subst hu2
        obtain ⟨ml, hml⟩ : ∃ ml, (y :: l3).length = ml := ⟨_, rfl⟩
        have HML : Hid ((y :: l3).length = ml) := hml
        have HCL : Hid (∀ j u, (flt Hd.cs (y :: l3))[j]? = some u → w2.cell? ⟨bl, ol + j, none⟩ = some u) := hcl
        have hml0 : 0 < ml ∧ ml ≤ 100000 := by rw [← hml]; exact ⟨by simp, hfew⟩
        have HSG' : Hid (Seg w2 76 6 (.slice ux na ucap) na (flt Hd.cs acc)) := by have := HSG.out; unfold Hs at this; rw [HNA.out] at this; exact this
        rw [hml]
        clear hml hcl
        cases ok2 with
        | true =>
          have HEQ2 : Hid (takeB now N 0 s [] = (upd s1 k s2, acc ++ (y :: l3), x2, true)) := HEQ.out
          clear HEQ
          go_wp2_with (at_builtin; refine wpList_append_seg _ rfl (.tmp 28) (.tmp 29) 74 rfl 76 i0 _ 6 48 Tryz.underlying74 hi hz0 hz1 hz2 rfl (by decide) (.slice ux na ucap) na (flt Hd.cs acc) rfl (Seg.alloc HSG'.out _) ⟨bl, ol, none⟩ ml cl (flt Hd.cs (y :: l3)) rfl (by rw [flt_length Hd.cs 6 Hd.len, HML.out]) (fun j u hj => by rw [Addr.add_lit, World.cell?_alloc_lt _ _ _ (by exact hbl)]; exact HCL.out j u hj) (flt_ones' Hd.cs Hd.one _) (by omega) (by unfold maxLen; omega) (by omega) _ rfl ?_; intro g goff gcap w4 hs4 hg4 ha4 hl4; obtain ⟨m1, m2, m3, m4, m5, m6, m7, m8, m9⟩ := take_mid HS.out HR.out hlt HO2.out HA2.out HF2.out (l := y :: l3) hfew hg4 (Hs.app hs4 (by rw [List.length_append, HNA.out, HML.out])) (fun j hj => by simp only [Value.ownBlock, Option.some.injEq] at hj; subst hj; rcases ha4 with h | h; exact Or.inl h; right; simp at h; omega) HL.out; obtain ⟨⟨a0, a1, a2, a3, a4, a5⟩, e0, e1, e2, e3, e4, e5⟩ := six m6; obtain ⟨⟨b0, b1, b2, b3, b4, b5⟩, _, _, _, _, _, _⟩ := six m7)
          (try simp only [Exit.inBlock, Exit.then, Exit.noGoto_ret])
          refine bodyPost_ret (v := .tuple #[x2.val, (.slice (some ⟨g, goff, none⟩) (na + ml) gcap), .bool true]) ?_ rfl ⟨(.slice (some ⟨g, goff, none⟩) (na + ml) gcap), by rw [HEQ2.out], ?_⟩
          · rw [results_cell_tmp2 rfl]
            have hld := load_held (x := x2) (six_set m6 (.int .i64 x2.a) (.int .i64 x2.l) (.int .i64 x2.f) (.int .i64 x2.b) (.int .i64 x2.m) (.int .i64 x2.n))
            simp [asAddr, Result.andThen, hld]
          · rw [HEQ2.out]
            refine take_end HS.out m1 m2 m3 m5 m8 ?_ HL.out
            repeat' (first | with_reducible exact Ot.refl _ _ | with_reducible refine Ot.setCell ?_ (by simp) _)
        | false =>
          have HEQ2 : Hid (takeB now N 0 s [] = takeB now (N - (k + 1)) (k + 1) (upd s1 k s2) (acc ++ (y :: l3))) := HEQ.out
          clear HEQ
          go_wp2_with (at_builtin; refine wpList_append_seg _ rfl (.tmp 28) (.tmp 29) 74 rfl 76 i0 _ 6 48 Tryz.underlying74 hi hz0 hz1 hz2 rfl (by decide) (.slice ux na ucap) na (flt Hd.cs acc) rfl (Seg.alloc HSG'.out _) ⟨bl, ol, none⟩ ml cl (flt Hd.cs (y :: l3)) rfl (by rw [flt_length Hd.cs 6 Hd.len, HML.out]) (fun j u hj => by rw [Addr.add_lit, World.cell?_alloc_lt _ _ _ (by exact hbl)]; exact HCL.out j u hj) (flt_ones' Hd.cs Hd.one _) (by omega) (by unfold maxLen; omega) (by omega) _ rfl ?_; intro g goff gcap w4 hs4 hg4 ha4 hl4; obtain ⟨m1, m2, m3, m4, m5, m6, m7, m8, m9⟩ := take_mid HS.out HR.out hlt HO2.out HA2.out HF2.out (l := y :: l3) hfew hg4 (Hs.app hs4 (by rw [List.length_append, HNA.out, HML.out])) (fun j hj => by simp only [Value.ownBlock, Option.some.injEq] at hj; subst hj; rcases ha4 with h | h; exact Or.inl h; right; simp at h; omega) HL.out; obtain ⟨⟨a0, a1, a2, a3, a4, a5⟩, e0, e1, e2, e3, e4, e5⟩ := six m6; obtain ⟨⟨b0, b1, b2, b3, b4, b5⟩, _, _, _, _, _, _⟩ := six m7)
          go_roundw
          case rel => exact ⟨k + 1, updP F1 k F2, upd s1 k s2, acc ++ (y :: l3), by omega, by go_num, HEQ2.out, fun i hi => by rw [upd_ne _ _ (by omega)]; exact HR.out.same i (by omega), m1, m2, m3, m4, m5, m6, m8⟩
          case measure => simp [intOf]; omega
    · obtain rfl : k = N := by omega
      have hwl := lt_of_block HR.out.res
      obtain ⟨⟨a0, a1, a2, a3, a4, a5⟩, e0, e1, e2, e3, e4, e5⟩ := six HR.out.res
      have HEQ : Hid (takeB now k 0 s [] = (s1, acc, hd0, false)) := by
        show _ = _
        rw [HR.out.eq, Nat.sub_self]
        rfl
      go_wp2
      (try simp only [Exit.inBlock, Exit.then, Exit.noGoto_ret])
      refine bodyPost_ret (v := .tuple #[hd0.val, u5, .bool false]) ?_ rfl ⟨u5, by rw [HEQ.out], ?_⟩
      · rw [results_cell_tmp2 rfl]
        have hld := load_held (x := hd0) (six_set HR.out.res (.int .i64 0) (.int .i64 0) (.int .i64 0) (.int .i64 0) (.int .i64 0) (.int .i64 0))
        simp [asAddr, Result.andThen, hld]
      · rw [HEQ.out]
        refine take_end HS.out HR.out.pos HR.out.ft HR.out.lost HR.out.new HR.out.ot ?_ HL.out
        repeat' (first | with_reducible exact Ot.refl _ _ | with_reducible refine Ot.setCell ?_ (by simp) _)
end Go.Proofs.YtfakjedolecdcaaGreatDoor
namespace Go.Proofs.YtfakjedolecdcaaGreatDoor
open Go.RowKit Go.Extern.Stop Go.Stop Go.Extern

theorem mBandsP (a : Addr) (W : World) : (Go.method 395 137 (.pointer (some a)) "Put").run Tryz.prog W = .ok (200, .pointer (some a)) W := by kernel_rfl
theorem mBandsT (a : Addr) (W : World) : (Go.method 395 137 (.pointer (some a)) "Take").run Tryz.prog W = .ok (201, .pointer (some a)) W := by kernel_rfl
theorem mBandsW (a : Addr) (W : World) : (Go.method 395 137 (.pointer (some a)) "When").run Tryz.prog W = .ok (202, .pointer (some a)) W := by kernel_rfl
theorem mBandsL (a : Addr) (W : World) : (Go.method 395 137 (.pointer (some a)) "Len").run Tryz.prog W = .ok (199, .pointer (some a)) W := by kernel_rfl
theorem mBandsB (a : Addr) (W : World) : (Go.method 395 137 (.pointer (some a)) "Bytes").run Tryz.prog W = .ok (198, .pointer (some a)) W := by kernel_rfl
theorem eBandsP (args : Array Value) (W : World) : (callFunc 200 args).run Tryz.prog W = .ok (.enter 200 args) W := enters_of Tryz.func200 (by kernel_rfl) rfl args W
theorem eBandsT (args : Array Value) (W : World) : (callFunc 201 args).run Tryz.prog W = .ok (.enter 201 args) W := enters_of Tryz.func201 (by kernel_rfl) rfl args W
theorem eBandsW (args : Array Value) (W : World) : (callFunc 202 args).run Tryz.prog W = .ok (.enter 202 args) W := enters_of Tryz.func202 (by kernel_rfl) rfl args W
theorem eBandsL (args : Array Value) (W : World) : (callFunc 199 args).run Tryz.prog W = .ok (.enter 199 args) W := enters_of Tryz.func199 (by kernel_rfl) rfl args W
theorem eBandsB (args : Array Value) (W : World) : (callFunc 198 args).run Tryz.prog W = .ok (.enter 198 args) W := enters_of Tryz.func198 (by kernel_rfl) rfl args W

/-- Bands in block B of N queues. -/
def BandsM (Q : Nat → QM) (N B ob oo oc : Nat) : QM where
  σ := ∀ i, (Q i).σ
  ty := 137
  rv := .pointer (some ⟨B, 0, none⟩)
  fP := 200
  fT := 201
  fW := 202
  fL := 199
  fB := 198
  rP := .pointer (some ⟨B, 0, none⟩)
  rT := .pointer (some ⟨B, 0, none⟩)
  rW := .pointer (some ⟨B, 0, none⟩)
  rL := .pointer (some ⟨B, 0, none⟩)
  rB := .pointer (some ⟨B, 0, none⟩)
  At := fun w F s => ∃ Fs, BAt Q N B ob oo oc w Fs s ∧ ∀ k, F k ↔ foot N B ob Fs k
  put := fun s now x => (upd s (bandOf N x) ((Q (bandOf N x)).put (s (bandOf N x)) now x).1, ((Q (bandOf N x)).put (s (bandOf N x)) now x).2)
  take := fun s now => takeB now N 0 s []
  when := fun s now => whenTo s now N
  len := fun s => sumTo (fun i => (Q i).len (s i)) N
  bytes := fun s => sumTo (fun i => (Q i).bytes (s i)) N
  inv := fun t n s => ∀ i, i < N → (Q i).inv t n (s i)
theorem takeB_inv {Q : Nat → QM} {N : Nat} {t now : Int} {n : Nat} (hS : Small Q N) (h0 : 0 ≤ t) (h1 : t ≤ now) (h2 : now ≤ 20000000) (hn : n ≤ 1000) : ∀ (m i : Nat) (s : ∀ i, (Q i).σ) (acc : List Hd), m + i = N → (∀ j, j < i → (Q j).inv now n (s j)) → (∀ j, i ≤ j → j < N → (Q j).inv t n (s j)) → acc.length ≤ 100000 * i →
    (∀ j, j < N → (Q j).inv now n ((takeB now m i s acc).1 j)) ∧ (takeB now m i s acc).2.1.length ≤ 100000 * N := by
  intro m
  induction m with
  | zero =>
    intro i s acc hm hl _ ha
    obtain rfl : i = N := by omega
    exact ⟨hl, ha⟩
  | succ m ih =>
    intro i s acc hm hl hg ha
    have hi : i < N := by omega
    have hf := hS.few i hi now (hg i (Nat.le_refl _) hi) hn
    have hinv := (hS.fine i hi).iT now (hg i (Nat.le_refl _) hi) h0 h1 h2 hn
    have hlen : (acc ++ ((Q i).take (s i) now).2.1).length ≤ 100000 * (i + 1) := by rw [List.length_append]; omega
    have hl' : ∀ j, j < i + 1 → (Q j).inv now n (upd s i ((Q i).take (s i) now).1 j) := by
      intro j hj
      by_cases e : j = i
      · subst e; rw [upd_same]; exact hinv.1
      · rw [upd_ne _ _ e]; exact hl j (by omega)
    have hg' : ∀ j, i + 1 ≤ j → j < N → (Q j).inv t n (upd s i ((Q i).take (s i) now).1 j) := by
      intro j hj hjN
      rw [upd_ne _ _ (by omega)]; exact hg j (by omega) hjN
    simp only [takeB]
    split
    · refine ⟨fun j hj => ?_, Nat.le_trans hlen (by omega)⟩
      by_cases hji : j < i + 1
      · exact hl' j hji
      · exact hS.mono j hj (hg' j (by omega) hj) h1 (Nat.le_refl _)
    · exact ih (i + 1) _ _ (by omega) hl' hg' hlen
theorem bandsM_fine {Q : Nat → QM} {N B ob oo oc : Nat} (hS : Small Q N) : (BandsM Q N B ob oo oc).Fine where
  kept := by
    rintro w w' F s ⟨Fs, h, hF⟩ hk
    exact ⟨Fs, h.kept hS.fine (fun k hf => hk k ((hF k).2 hf)), hF⟩
  low := by
    rintro w F s ⟨Fs, h, hF⟩ k hk
    exact h.low hS.fine k ((hF k).1 hk)
  mP := mBandsP _
  mT := mBandsT _
  mW := mBandsW _
  mL := mBandsL _
  mB := mBandsB _
  eP := eBandsP
  eT := eBandsT
  eW := eBandsW
  eL := eBandsL
  eB := eBandsB
  cP := by
    rintro w F s t n now x ⟨Fs, h, hF⟩ hI ht0 ht1 ht2 hok hxa hxn hn
    refine (bands_put now x hS w h hI ht0 ht1 ht2 hok hxa hxn hn).mono ?_
    rintro e w' ⟨u, rfl, Fs', hu, hb, hf, hk, ho⟩
    exact ⟨u, foot N B ob Fs', rfl, hu, ⟨Fs', hb, fun k => Iff.rfl⟩, fun k hk => by rw [hF]; exact hf k hk, fun k hk' => by rw [hF]; exact hk k hk', ho.mono (fun k _ h => (hF k).2 h)⟩
  iP := by
    intro (s : ∀ i, (Q i).σ) t n now x hI ht0 ht1 ht2 hok hxa hxn hn
    have hj := bandOf_lt hS.one x
    have h1 := (hS.fine _ hj).iP now x (hI _ hj) ht0 ht1 ht2 hok hxa hxn hn
    refine ⟨fun i hi => ?_, h1.2⟩
    show (Q i).inv now (n + 1) (upd s (bandOf N x) ((Q (bandOf N x)).put (s (bandOf N x)) now x).1 i)
    by_cases e : i = bandOf N x
    · subst e; rw [upd_same]; exact h1.1
    · rw [upd_ne _ _ e]; exact hS.mono i hi (hI i hi) ht1 (Nat.le_succ _)
  cT := by
    rintro w F s t n now ⟨Fs, h, hF⟩ hI ht0 ht1 ht2 hn
    refine (bands_take now hS w h hI hn ht0 ht1 ht2).mono ?_
    rintro e w' ⟨u, rfl, Fs', hu, hb, hf, hk, ho⟩
    exact ⟨u, foot N B ob Fs', rfl, hu, ⟨Fs', hb, fun k => Iff.rfl⟩, fun k hk => by rw [hF]; exact hf k hk, fun k hk' => by rw [hF]; exact hk k hk', ho.mono (fun k _ h => (hF k).2 h)⟩
  iT := by
    intro (s : ∀ i, (Q i).σ) t n now hI ht0 ht1 ht2 hn
    have h1 := takeB_inv hS ht0 ht1 ht2 hn N 0 s [] (by omega) (fun j hj => by omega) (fun j _ hj => hI j hj) (by simp)
    have h8 := hS.eight
    exact ⟨h1.1, Nat.le_trans h1.2 (by omega)⟩
  cW := by
    rintro w F s t n now ⟨Fs, h, hF⟩ hI ht0 ht1 ht2 hn
    refine (bands_when now hS w h hI hn ht0 ht1 ht2).mono ?_
    rintro e w' ⟨Fs', rfl, hb, hf, ho⟩
    exact ⟨foot N B ob Fs', rfl, ⟨Fs', hb, fun k => Iff.rfl⟩, fun k hk => by rw [hF]; exact hf k hk, ho.mono (fun k _ h => (hF k).2 h)⟩
  iW := by
    intro (s : ∀ i, (Q i).σ) t n now hI ht0 ht1 ht2 hn i hi
    show (Q i).inv now n ((whenTo s now N).1 i)
    rw [whenTo_lt s now N hi]
    exact (hS.fine i hi).iW now (hI i hi) ht0 ht1 ht2 hn
  cL := by
    rintro w F s t n ⟨Fs, h, hF⟩ hI hn
    exact bands_len hS w h hI hn
  cB := by
    rintro w F s t n ⟨Fs, h, hF⟩ hI hn
    exact bands_bytes hS w h hI hn
end Go.Proofs.YtfakjedolecdcaaGreatDoor
namespace Go.Proofs.YtfakjedolecdcaaGreatDoor
open Go.RowKit Go.Extern.Stop Go.Stop Go.Extern

theorem infoQueue : (Tryz.prog.info? 26).map (fun i => (i.zero, i.size, i.bytes)) = some (some .nilIface, 1, 16) := by kernel_rfl
theorem eNilC (args : Array Value) (W : World) : (callFunc 71 args).run Tryz.prog W = .ok (.enter 71 args) W := enters_of Tryz.func71 (by kernel_rfl) rfl args W
theorem nilC_no (ty : TypeId) (rv : Value) (w : World) : Calls Tryz.prog 71 #[.iface ty rv] w fun e w' => e = .returned (.bool false) ∧ w' = w := by
  go_enter Tryz.func71, Tryz.ntmps71
  go_wp2
  go_ret
  exact ⟨rfl, rfl⟩
/-- Queues that lie in memory. -/
def QRowAt (w : World) (b off N : Nat) (Q : Nat → TypeId × Value) : Prop := ∀ i, i < N → w.cell? ⟨b, off + i, none⟩ = some (.iface (Q i).1 (Q i).2)
set_option maxHeartbeats 1000000 in
theorem index_none {b off N cap : Nat} {Q : Nat → TypeId × Value} (w : World) (h : QRowAt w b off N Q) (hN : N ≤ 8) :
    Calls Tryz.prog 84 #[.slice (some ⟨b, off, none⟩) N cap, .func (.func 71) #[] #[]] w fun e w' => e = .returned (.int .i64 (-1)) ∧ w' = w := by
  have H : Hid (QRowAt w b off N Q) := h
  clear h
  have hent := eNilC
  go_enter Tryz.func84, Tryz.ntmps84
  go_wp2
  go_loopw [8] (fun i wr => ∃ k : Nat, k ≤ N ∧ i = .int .i64 k ∧ wr = w) (fun i _ => N - (intOf i).toNat)
  case atStart => exact ⟨0, Nat.zero_le _, rfl, rfl⟩
  case round =>
    obtain ⟨k, hk, rfl, rfl⟩ := hrel
    by_cases hlt : k < N
    · have hc := H.out k hlt
      go_wp2_with (go_at_call 71; refine (nilC_no _ _ _).mono ?_; rintro e w1 ⟨rfl, rfl⟩)
      go_roundw
      case rel => exact ⟨k + 1, by omega, by go_num, by first | rfl | trivial⟩
      case measure => simp [intOf]; omega
    · obtain rfl : k = N := by omega
      go_wp2
      go_ret
      exact ⟨rfl, rfl⟩
theorem contains_none {b off N cap : Nat} {Q : Nat → TypeId × Value} (w : World) (h : QRowAt w b off N Q) (hN : N ≤ 8) :
    Calls Tryz.prog 70 #[.slice (some ⟨b, off, none⟩) N cap, .func (.func 71) #[] #[]] w fun e w' => e = .returned (.bool false) ∧ w' = w := by
  have HC := index_none (cap := cap) w h hN
  clear h
  go_enter Tryz.func70, Tryz.ntmps70
  go_wp2_with (go_at_call 84; refine HC.mono ?_; rintro e w1 ⟨rfl, rfl⟩)
  go_ret
  exact ⟨rfl, rfl⟩
theorem nilSomeQ (a : Addr) (n c : Nat) (w : World) : (binOp .eql 134 (.slice (some a) n c) (.slice none 0 0)).run Tryz.prog w = .ok (.bool false) w := by kernel_rfl
def qcells (N : Nat) (Q : Nat → TypeId × Value) : List Value := (List.range N).map (fun i => .iface (Q i).1 (Q i).2)
theorem qcells_get {N : Nat} {Q : Nat → TypeId × Value} {j : Nat} (h : j < N) : (qcells N Q)[j]? = some (.iface (Q j).1 (Q j).2) := by
  unfold qcells
  rw [List.getElem?_map, List.getElem?_range h]
  rfl
theorem qcells_at {N : Nat} {Q : Nat → TypeId × Value} {j : Nat} {u : Value} (h : (qcells N Q)[j]? = some u) : j < N ∧ u = .iface (Q j).1 (Q j).2 := by
  have hj : j < N := by
    have := (List.getElem?_eq_some_iff.1 h).1
    simpa [qcells] using this
  rw [qcells_get hj] at h
  exact ⟨hj, (Option.some.inj h).symm⟩
theorem qcells_one (N : Nat) (Q : Nat → TypeId × Value) : ∀ u ∈ qcells N Q, u.oneCell' = true := by
  intro u hu
  obtain ⟨i, _, rfl⟩ := List.mem_map.1 hu
  rfl
theorem seg_empty1 {w : World} {b : Nat} {e : TypeId} (h : w.heap[b]? = some (.cells #[] e (0, 0))) : Seg w e 1 (.slice (some ⟨b, 0, none⟩) 0 0) 0 [] := ⟨rfl, Or.inr ⟨b, 0, 0, #[], rfl, h, Nat.le_refl _, Nat.zero_le _, by simp, fun j u hj => by simp at hj⟩⟩
theorem clone_queues {b off N cap : Nat} {Q : Nat → TypeId × Value} (w : World) (h : QRowAt w b off N Q) (hN : N ≤ 8) (hN1 : 1 ≤ N) (hb : b < w.heap.size) :
    Calls Tryz.prog 72 #[.slice (some ⟨b, off, none⟩) N cap] w fun e w' => ∃ g goff gcap, e = .returned (.slice (some ⟨g, goff, none⟩) N gcap) ∧ QRowAt w' g goff N Q ∧ w.heap.size ≤ g ∧ g < w'.heap.size ∧ Below w.heap.size w w' := by
  have H : Hid (QRowAt w b off N Q) := h
  have hnS := nilSomeQ
  obtain ⟨i0, hi, hz0, hz1, hz2⟩ := info_parts infoQueue
  clear h
  go_enter Tryz.func72, Tryz.ntmps72
  go_wp2_with (at_builtin; refine wpList_append_seg _ rfl (.tmp 5) (.tmp 6) 134 rfl 26 i0 _ 1 16 Tryz.underlying134 hi hz0 hz1 hz2 rfl (by decide) (.slice (some ⟨w.heap.size, 0, none⟩) 0 0) 0 [] rfl (seg_empty1 (new_block_ rfl)) ⟨b, off, none⟩ N cap (qcells N Q) rfl (by simp [qcells]) (fun j u hj => by rw [Addr.add_lit, World.cell?_alloc_lt _ _ _ (by exact hb), (qcells_at hj).2]; exact H.out j (qcells_at hj).1) (qcells_one N Q) (by omega) (by unfold maxLen; omega) (by omega) _ rfl ?_; intro g goff gcap w1 hs1 hg1 ha1 hl1)
  go_ret
  have hgl : w.heap.size ≤ g := by
    rcases ha1 with h | h
    · simp only [Value.ownBlock, Option.some.injEq] at h; omega
    · simp at h; omega
  refine ⟨g, goff, gcap, by simp, fun i hi => ?_, hgl, hl1, below_grown_ (below_alloc_ (Below.refl _ _) _) hg1 (fun k e => by simp only [Value.ownBlock, Option.some.injEq] at e; omega)⟩
  rcases hs1.form with ⟨h1, _, _⟩ | ⟨b', off', cap', h1, _, _, _, hc⟩
  · simp at h1
  · simp only [Value.slice.injEq, Option.some.injEq, Addr.mk.injEq, and_true] at h1
    obtain ⟨⟨rfl, rfl⟩, _⟩ := h1
    exact hc i _ (by rw [List.nil_append]; exact qcells_get hi)
/-- NewBands. -/
theorem newBands_yes {b off N cap : Nat} {Q : Nat → TypeId × Value} (w : World) (h : QRowAt w b off N Q) (hN1 : 1 ≤ N) (hN : N ≤ 8) (hb : b < w.heap.size) :
    Calls Tryz.prog 54 #[.slice (some ⟨b, off, none⟩) N cap] w fun e w' => ∃ B g goff gcap, e = .returned (.tuple #[.pointer (some ⟨B, 0, none⟩), .nilIface]) ∧ w'.heap[B]? = some (.cells #[.slice (some ⟨g, goff, none⟩) N gcap] 176 (0, 0)) ∧ QRowAt w' g goff N Q ∧ w.heap.size ≤ g ∧ g < B ∧ Below w.heap.size w w' := by
  have HC := contains_none (cap := cap) w h hN
  have HD := clone_queues (cap := cap) w h hN hN1 hb
  clear h
  go_enter Tryz.func54, Tryz.ntmps54
  go_wp2_with (first | (go_at_call 70; refine HC.mono ?_; rintro e w1 ⟨rfl, hw1⟩; subst hw1) | (go_at_call 72; refine HD.mono ?_; rintro e w2 ⟨g, goff, gcap, rfl, hr2, hg2, hl2, hb2⟩))
  go_ret2
  refine ⟨w2.heap.size, g, goff, gcap, rfl, new_block _ _, fun i hi => ?_, hg2, hl2, below_alloc_ hb2 _⟩
  rw [World.cell?_alloc_lt _ _ _ (by exact hl2)]
  exact hr2 i hi
end Go.Proofs.YtfakjedolecdcaaGreatDoor
