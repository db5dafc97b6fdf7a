/-
  millracekeep.written: a book that was written, its entries as two rows beside it. Conditions: the arguments lie in memory; what strconv lays is laid.
-/
import Derived.Test.YtheadpemckoljaaGreatDoorJo
import Derived.Deep.RegionLaw
namespace Go.Proofs.YtheadpemckoljaaGreatDoor
open Go.RowKit Go.Extern.Stop Go.Stop Go.Extern Go.Maps Go.WideMaps

/-- An append to a row of one's own, as one step of a region that draws its order. -/
theorem step_append_owns {P : Program} {ops : Array Oper} {o : Oper} {a : Act} {w : World} {K : Act → World → Prop} {Q : Exit → Act → World → Prop} {E : Prop}
    (hg : o.guard = none) (s x : Operand) (t : TypeId) (hop : o.op = Op.call { callee := Callee.builtin Builtin.append, args := #[s, x], argTypes := #[t, t] })
    (base : Nat) (e : TypeId) (i : TypeInfo) (z : Value) (size bytes : Nat) (h1 : P.underlying t = some (.slice e)) (h2 : P.info? e = some i) (h3 : i.zero = some z) (h4 : i.size = size) (h5 : i.bytes = bytes) (h6 : z.cells.size = size) (h7 : 0 < size)
    (v : Value) (n : Nat) (xs : List Value) (hs : a.eval s = v) (hown : w.ownsRow base e size v n xs)
    (ad : Addr) (m c : Nat) (news : List Value) (hx : a.eval x = .slice (some ad) m c) (hn : news.length = m * size) (hc : ∀ j u, news[j]? = some u → w.cell? (ad.add j) = some u) (h1c : ∀ u ∈ news, u.oneCell' = true)
    (b1 : n + m ≤ maxLen) (b2 : (n + m) * bytes ≤ 140737488355328) (hbase : base ≤ w.heap.size)
    (hK : ∀ v' w', w'.ownsRow base e size v' (n + m) (xs ++ news) → w.grownBy w' v.ownBlock → K (a.put o.dst v') w') :
    if Region.wanted o (yielded ops a.tmps) = true then Oper.wp P o a w K Q else E := by
  have hw : Region.wanted o (yielded ops a.tmps) = true := by simp [Region.wanted, hg]
  rw [if_pos hw]
  obtain ⟨v', w', hrun, r1, r2, _⟩ := run_append_own (P := P) w base t o.type e i z size bytes h1 h2 h3 h4 h5 h6 h7 v n xs hown ad m c news hn hc h1c b1 b2 hbase
  unfold Oper.wp
  simp [execOp, hop, resolve, invoke, builtin, hs, hx, hrun, Result.andThen]
  exact hK v' w' r1 r2
theorem own_alloc {w : World} {B : Nat} {e : TypeId} {v : Value} {n k : Nat} {xs : List Value} (h : w.ownsRow B e k v n xs) (o : Obj) : (w.alloc o).ownsRow B e k v n xs := ownS_kept h fun _ hj => Below.heap_alloc _ _ _ (ownS_lt h hj).2
theorem own_drew {w : World} {B : Nat} {e : TypeId} {v : Value} {n k : Nat} {xs : List Value} (h : w.ownsRow B e k v n xs) : w.drew.ownsRow B e k v n xs := h
theorem one_at {w : World} {p : Nat} {v : Value} (h : w.cell? ⟨p, 0, none⟩ = some v) : ∀ (j : Nat) (u : Value), [v][j]? = some u → w.cell? ((⟨p, 0, none⟩ : Addr).add j) = some u := by
  intro j u hj
  match j, hj with
  | 0, hj => simp at hj; subst hj; simpa [Addr.add] using h
/-- A book's blocks are no row's of another kind. -/
theorem bks_not {W : World} {b : Nat} {cm : Option Nat} {jv : Value} {sure : Nat} {es : List Ent} (h : BkAt W b cm jv sure es) {B : Nat} {e : TypeId} {v : Value} {n k : Nat} {xs : List Value} (hr : W.ownsRow B e k v n xs) (h1 : e ≠ 28) (h2 : e ≠ 5) :
    ∀ j, BkS b cm jv j → some j ≠ v.ownBlock := by
  intro j hj e0
  obtain ⟨cur, hc⟩ := ownsRow_blk hr e0.symm
  rcases hj with rfl | hj | hj
  · rw [h.blk] at hc
    cases hc
    exact h1 rfl
  · rcases h.mp with ⟨rfl, _⟩ | ⟨m, L, rfl, h3, _⟩
    · cases hj
    · obtain rfl := Option.some.inj hj
      obtain ⟨es, clock, h4, _⟩ := h3.len
      rw [h4] at hc
      cases hc
  · obtain ⟨cur2, hc2⟩ := ownsRow_blk h.jr hj
    rw [hc2] at hc
    cases hc
    exact h2 rfl
/-- A book, and two rows beside it, in memory from block B on. -/
structure Inv (B : Nat) (w0 W : World) (b : Nat) (cm : Option Nat) (jv : Value) (sure : Nat) (es : List Ent) (lv nv : Value) (ln nn : Nat) (lx nx : List Value) : Prop where
  bk : BkAt W b cm jv sure es
  bs : ∀ k, BkS b cm jv k → B ≤ k
  ls : W.ownsRow B 9 1 lv ln lx
  ns : W.ownsRow B 3 1 nv nn nx
  bel : Below B w0 W
  low : B ≤ w0.heap.size
theorem Inv.low' {B : Nat} {w0 W : World} {b : Nat} {cm : Option Nat} {jv : Value} {sure : Nat} {es : List Ent} {lv nv : Value} {ln nn : Nat} {lx nx : List Value} (h : Inv B w0 W b cm jv sure es lv nv ln nn lx nx) : B ≤ W.heap.size := Nat.le_trans h.low h.bel.size
theorem Inv.drew {B : Nat} {w0 W : World} {b : Nat} {cm : Option Nat} {jv : Value} {sure : Nat} {es : List Ent} {lv nv : Value} {ln nn : Nat} {lx nx : List Value} (h : Inv B w0 W b cm jv sure es lv nv ln nn lx nx) : Inv B w0 W.drew b cm jv sure es lv nv ln nn lx nx :=
  ⟨h.bk.kept fun _ _ => rfl, h.bs, h.ls, h.ns, h.bel.drew, h.low⟩
theorem Inv.alloc {B : Nat} {w0 W : World} {b : Nat} {cm : Option Nat} {jv : Value} {sure : Nat} {es : List Ent} {lv nv : Value} {ln nn : Nat} {lx nx : List Value} (h : Inv B w0 W b cm jv sure es lv nv ln nn lx nx) (o : Obj) : Inv B w0 (W.alloc o) b cm jv sure es lv nv ln nn lx nx :=
  ⟨h.bk.kept fun _ hk => Below.heap_alloc _ _ _ (h.bk.lt hk), h.bs, own_alloc h.ls o, own_alloc h.ns o, h.bel.alloc h.low' o, h.low⟩
theorem Inv.below {B : Nat} {w0 W W' : World} {b : Nat} {cm : Option Nat} {jv : Value} {sure : Nat} {es : List Ent} {lv nv : Value} {ln nn : Nat} {lx nx : List Value} (h : Inv B w0 W b cm jv sure es lv nv ln nn lx nx) (hb : Below W.heap.size W W') : Inv B w0 W' b cm jv sure es lv nv ln nn lx nx :=
  ⟨h.bk.below hb, h.bs, ownS_below h.ls hb, ownS_below h.ns hb, h.bel.trans (hb.mono h.low'), h.low⟩
theorem rows_ne {W : World} {B : Nat} {e e' : TypeId} {v v' : Value} {n k n' k' : Nat} {xs xs' : List Value} (h : W.ownsRow B e k v n xs) (h' : W.ownsRow B e' k' v' n' xs') (hne : e ≠ e') : ∀ j, v.ownBlock = some j → some j ≠ v'.ownBlock := by
  intro j hj e0
  obtain ⟨c1, g1⟩ := ownsRow_blk h hj
  obtain ⟨c2, g2⟩ := ownsRow_blk h' e0.symm
  rw [g1] at g2
  cases g2
  exact hne rfl
theorem Inv.appL {B : Nat} {w0 W W' : World} {b : Nat} {cm : Option Nat} {jv : Value} {sure : Nat} {es : List Ent} {lv nv lv' : Value} {ln nn n' : Nat} {lx nx xs' : List Value} (h : Inv B w0 W b cm jv sure es lv nv ln nn lx nx) (ho : W'.ownsRow B 9 1 lv' n' xs') (hg : W.grownBy W' lv.ownBlock) : Inv B w0 W' b cm jv sure es lv' nv n' nn xs' nx :=
  ⟨h.bk.kept fun k hk => hg.block k (h.bk.lt hk) (bks_not h.bk h.ls (by decide) (by decide) k hk), h.bs, ho, ownS_kept h.ns fun j hj => hg.block j (ownS_lt h.ns hj).2 (rows_ne h.ns h.ls (by decide) j hj), h.bel.grown hg h.low' (fun j hj => (ownS_lt h.ls hj).1), h.low⟩
theorem Inv.appN {B : Nat} {w0 W W' : World} {b : Nat} {cm : Option Nat} {jv : Value} {sure : Nat} {es : List Ent} {lv nv nv' : Value} {ln nn n' : Nat} {lx nx xs' : List Value} (h : Inv B w0 W b cm jv sure es lv nv ln nn lx nx) (ho : W'.ownsRow B 3 1 nv' n' xs') (hg : W.grownBy W' nv.ownBlock) : Inv B w0 W' b cm jv sure es lv nv' ln n' lx xs' :=
  ⟨h.bk.kept fun k hk => hg.block k (h.bk.lt hk) (bks_not h.bk h.ns (by decide) (by decide) k hk), h.bs, ownS_kept h.ls fun j hj => hg.block j (ownS_lt h.ls hj).2 (rows_ne h.ls h.ns (by decide) j hj), ho, h.bel.grown hg h.low' (fun j hj => (ownS_lt h.ns hj).1), h.low⟩
theorem Inv.oth {B : Nat} {w0 W W' : World} {b : Nat} {cm cm' : Option Nat} {jv jv' : Value} {sure sure' : Nat} {es es' : List Ent} {lv nv : Value} {ln nn : Nat} {lx nx : List Value} (h : Inv B w0 W b cm jv sure es lv nv ln nn lx nx) (hbk : BkAt W' b cm' jv' sure' es') (ho : Ot (BkS b cm jv) W W') (hs : ∀ k, BkS b cm' jv' k → BkS b cm jv k ∨ W.heap.size ≤ k) : Inv B w0 W' b cm' jv' sure' es' lv nv ln nn lx nx := by
  have hB := h.low'
  exact ⟨hbk, fun k hk => (hs k hk).elim (h.bs k) (fun g => by omega), ownS_kept h.ls fun j hj => ho.block j (ownS_lt h.ls hj).2 (fun hk => bks_not h.bk h.ls (by decide) (by decide) j hk hj.symm), ownS_kept h.ns fun j hj => ho.block j (ownS_lt h.ns hj).2 (fun hk => bks_not h.bk h.ns (by decide) (by decide) j hk hj.symm), h.bel.trans (ho.below hB h.bs), h.low⟩
theorem inv_add {B : Nat} {w0 : World} {b : Nat} {cm : Option Nat} {jv : Value} {sure : Nat} {es : List Ent} {lv nv : Value} {ln nn : Nat} {lx nx : List Value} (s : List UInt8) (n : Int) (W : World) (h : Inv B w0 W b cm jv sure es lv nv ln nn lx nx) (hT : Tab W) (he : EntOk (s, n)) (hl : es.length < 500) :
    Calls Tryz.prog 8 #[.pointer (some ⟨b, 0, none⟩), .string ⟨s.toArray⟩, .int .i64 n] W fun e W' => e = .returned .nilIface ∧ ∃ cm' jv', Inv B w0 W' b cm' jv' sure (es ++ [(s, n)]) lv nv ln nn lx nx := by
  refine (add_yes b cm jv sure es s n W h.bk hT he hl).mono ?_
  rintro e W' ⟨a, cm', jv', k1, k2, k3⟩
  exact ⟨a, cm', jv', h.oth k1 k2 k3⟩
theorem inv_sync {B : Nat} {w0 : World} {b : Nat} {cm : Option Nat} {jv : Value} {sure : Nat} {es : List Ent} {lv nv : Value} {ln nn : Nat} {lx nx : List Value} (W : World) (h : Inv B w0 W b cm jv sure es lv nv ln nn lx nx) :
    Calls Tryz.prog 12 #[.pointer (some ⟨b, 0, none⟩)] W fun e W' => e = .returned (.tuple #[]) ∧ Inv B w0 W' b cm jv (jour es).length es lv nv ln nn lx nx := by
  refine (sync_any b cm jv sure es W h.bk).mono ?_
  rintro e W' ⟨a, k1, k2⟩
  exact ⟨a, h.oth k1 k2 (fun k hk => Or.inl hk)⟩
theorem infoInt : (Tryz.prog.info? 3).map (fun i => (i.zero, i.size, i.bytes)) = some (some (.int .i64 0), 1, 8) := by kernel_rfl
theorem bel_size {w W : World} (h : Below w.heap.size w W) : w.heap.size ≤ W.heap.size := h.size
theorem bel_gr {w W W' : World} {r : Option Nat} (h : Below w.heap.size w W) (hg : W.grownBy W' r) (hr : ∀ k, r = some k → w.heap.size ≤ k) : Below w.heap.size w W' := h.grown hg h.size hr
theorem own_gr {W W' : World} {B : Nat} {e : TypeId} {v : Value} {n k : Nat} {xs : List Value} {r : Option Nat} (h : W.ownsRow B e k v n xs) (hg : W.grownBy W' r) (hne : ∀ j, v.ownBlock = some j → some j ≠ r) : W'.ownsRow B e k v n xs := ownS_kept h fun j hj => hg.block j (ownS_lt h hj).2 (hne j hj)
def encS (es : List Ent) : List Value := es.map fun e => encStr e.1
def encN (es : List Ent) : List Value := es.map fun e => Value.int .i64 e.2
theorem encS_snoc (es : List Ent) (s : List UInt8) (n : Int) : encS es ++ [.string ⟨s.toArray⟩] = encS (es ++ [(s, n)]) := by simp [encS, encStr]
theorem encN_snoc (es : List Ent) (s : List UInt8) (n : Int) : encN es ++ [.int .i64 n] = encN (es ++ [(s, n)]) := by simp [encN]
theorem results_tmp4 {fn : Func} {t u v x : Tmp} (h : fn.results = #[.tmp t, .tmp u, .tmp v, .tmp x]) (tmps : Array Value) (P : Program) (w : World) :
    (results fn tmps).run P w = .ok (.tuple #[tmps.getD t undef, tmps.getD u undef, tmps.getD v undef, tmps.getD x undef]) w := by
  simp [results, h]
/-- What written leaves. -/
def WrP (w : World) (b : Nat) (es : List Ent) (q : Nat) (lv nv : Value) (W : World) : Prop := ∃ cm jv, q ≤ es.length ∧ es.length ≤ 60 ∧ Inv w.heap.size w W b cm jv (jour (es.take q)).length es lv nv es.length es.length (encS es) (encN es)
set_option maxRecDepth 100000 in
set_option maxHeartbeats 4000000 in
theorem written_any (nx mx bx : Option Addr) (nc mc bc : Nat) (ss : List (List UInt8)) (ns : List Int) (bs : List Bool) (w : World) (hT : Tab w)
    (h1 : SlV w nx (ss.map encStr)) (h2 : SlV w mx (ns.map (Value.int .i64))) (h3 : SlV w bx (bs.map Value.bool)) (hlen : ss.length ≤ 60) (hsz : ∀ s ∈ ss, s.length ≤ maxLen) :
    Calls Tryz.prog 23 #[.slice nx ss.length nc, .slice mx ns.length mc, .slice bx bs.length bc] w fun e w' => ∃ es q lx lc mx mc, e = .returned (.tuple #[.pointer (some ⟨w.heap.size, 0, none⟩), .slice lx es.length lc, .slice mx es.length mc, .int .i64 (q : Nat)]) ∧ WrP w w.heap.size es q (.slice lx es.length lc) (.slice mx es.length mc) w' := by
  have HT : Hid (∀ W, Below w.heap.size w W → Tab W) := fun W hb => hT.below hb
  have H1 : Hid (∀ W, Below w.heap.size w W → SlV W nx (ss.map encStr)) := fun W hb => h1.below hb
  have H2 : Hid (∀ W, Below w.heap.size w W → SlV W mx (ns.map (Value.int .i64))) := fun W hb => h2.below hb
  have H3 : Hid (∀ W, Below w.heap.size w W → SlV W bx (bs.map Value.bool)) := fun W hb => h3.below hb
  have HZ : Hid (∀ s ∈ ss, s.length ≤ maxLen) := hsz
  obtain ⟨i0, hi0, hz0, hz1, hz2⟩ := info3 infoStr
  obtain ⟨i1, hi1, hy0, hy1, hy2⟩ := info3 infoInt
  have HN0 : Hid (Inv w.heap.size w (w.alloc (.cells #[.map none, .slice none 0 0, .int .i64 0, .int .i64 0] 28)) w.heap.size none (.slice none 0 0) (jour (([] : List Ent).take 0)).length [] (.slice none 0 0) (.slice none 0 0) 0 0 (encS []) (encN [])) :=
    ⟨BkAt.new w, bks_new w.heap.size, World.ownsRow_nil _ _ _ _, World.ownsRow_nil _ _ _ _, below_alloc_ (Below.refl _ _) _, Nat.le_refl _⟩
  clear h1 h2 h3 hT hsz
  go_enter Tryz.func23, Tryz.ntmps23
  go_wp2
  go_loopg [11, 12, 13, 14] ss.length (fun g v11 v12 v13 v14 wx => ∃ (i q : Nat) (es : List Ent) (cm : Option Nat) (jv : Value), i + g = ss.length ∧ v13 = .int .i64 q ∧ v14 = .int .i64 i ∧ es.length ≤ i ∧ q ≤ es.length ∧ Hid (Inv w.heap.size w wx w.heap.size cm jv (jour (es.take q)).length es v11 v12 es.length es.length (encS es) (encN es)))
  case atStart => exact ⟨0, 0, [], none, .slice none 0 0, by omega, rfl, rfl, Nat.le_refl _, Nat.le_refl _, HN0.out⟩
  case round =>
    obtain ⟨i, q, es, cm, jv, hig, rfl, rfl, hli, hqe, HI⟩ := hrel
    obtain ⟨lx, lc, rfl⟩ := owns_slice HI.out.ls
    obtain ⟨kx, kc, rfl⟩ := owns_slice HI.out.ns
    by_cases hi : i < ss.length
    · have q1 : (i : Int) < ss.length := by omega
      by_cases hin : i < ns.length
      · have q2 : (i : Int) < ns.length := by omega
        obtain ⟨s, hs⟩ : ∃ s, ss[i]? = some s := ⟨_, List.getElem?_eq_getElem hi⟩
        obtain ⟨n, hn⟩ : ∃ n, ns[i]? = some n := ⟨_, List.getElem?_eq_getElem hin⟩
        have hsm : s.length ≤ maxLen := HZ.out s (List.mem_of_getElem? hs)
        have HC1 : Hid (∀ W, Below w.heap.size w W → ∃ b o, nx = some ⟨b, o, none⟩ ∧ W.cell? ⟨b, o + i, none⟩ = some (.string ⟨s.toArray⟩)) := fun W hb => H1.out W hb i _ (by rw [List.getElem?_map, hs]; rfl)
        have HC2 : Hid (∀ W, Below w.heap.size w W → ∃ b o, mx = some ⟨b, o, none⟩ ∧ W.cell? ⟨b, o + i, none⟩ = some (.int .i64 n)) := fun W hb => H2.out W hb i _ (by rw [List.getElem?_map, hn]; rfl)
        obtain ⟨nb, no, rfl, c1⟩ := HC1.out wr HI.out.bel
        obtain ⟨mb, mo, rfl, c2⟩ := HC2.out wr HI.out.bel
        have HN1 : Hid (∀ W, Below w.heap.size w W → W.cell? ⟨nb, no + i, none⟩ = some (.string ⟨s.toArray⟩)) := fun W hb => by
          obtain ⟨b, o, e, h⟩ := HC1.out W hb
          cases e
          exact h
        have HN2 : Hid (∀ W, Below w.heap.size w W → W.cell? ⟨mb, mo + i, none⟩ = some (.int .i64 n)) := fun W hb => by
          obtain ⟨b, o, e, h⟩ := HC2.out W hb
          cases e
          exact h
        clear hs hn c1 c2
        by_cases hae : addE es.length (s, n) = 0
        · obtain ⟨heo, _⟩ := addE_zero hae
          have HEO : Hid (EntOk (s, n)) := heo
          have HAD : Hid (Calls Tryz.prog 8 #[.pointer (some ⟨w.heap.size, 0, none⟩), .string ⟨s.toArray⟩, .int .i64 n] wr.drew fun e W' => e = .returned .nilIface ∧ ∃ cm' jv', Inv w.heap.size w W' w.heap.size cm' jv' (jour (es.take q)).length (es ++ [(s, n)]) (.slice lx es.length lc) (.slice kx es.length kc) es.length es.length (encS es) (encN es)) :=
            inv_add s n wr.drew HI.out.drew (HT.out _ HI.out.bel.drew) heo (by omega)
          clear hae heo
          have p1 : es.length + 1 ≤ maxLen := by unfold maxLen; omega
          have p2 : (es.length + 1) * 16 ≤ 140737488355328 := by omega
          have p3 : (es.length + 1) * 8 ≤ 140737488355328 := by omega
          go_upto_region 8 with (fail)
          go_cut [39] (fun v wx => v = .bool true ∧ ∃ cm' jv', Hid (Inv w.heap.size w wx w.heap.size cm' jv' (jour (es.take q)).length (es ++ [(s, n)]) (.slice lx es.length lc) (.slice kx es.length kc) es.length es.length (encS es) (encN es)))
          case first =>
            go_region_held3 (fun W => W.cell? ⟨nb, no + i, none⟩ = some (.string ⟨s.toArray⟩) ∧ W.cell? ⟨mb, mo + i, none⟩ = some (.int .i64 n)) (first | (with_reducible exact ⟨HN1.out _ HI4.out.bel, HN2.out _ HI4.out.bel⟩) | (with_reducible exact ⟨HN1.out _ HI.out.bel.drew, HN2.out _ HI.out.bel.drew⟩))
              ((go_at_call 8; refine HAD.out.mono ?_; rintro e W4 ⟨rfl, cm4, jv4, hi4⟩; have HI4 : Hid (Inv w.heap.size w W4 w.heap.size cm4 jv4 (jour (es.take q)).length (es ++ [(s, n)]) (.slice lx es.length lc) (.slice kx es.length kc) es.length es.length (encS es) (encN es)) := hi4; clear hi4))
            all_goals
              go_wp2
              go_meet
              case rel => exact ⟨rfl, cm4, jv4, HI4.out⟩
          case rest =>
          obtain ⟨rfl, cm4, jv4, HI4⟩ := hcut
          have HSS : Hid (∀ W, Below w.heap.size w W → W.cell? ⟨nb, no + i, none⟩ = some (.string ⟨s.toArray⟩) ∧ W.cell? ⟨mb, mo + i, none⟩ = some (.int .i64 n) ∧ Below w.heap.size w W) := fun W hb => ⟨HN1.out W hb, HN2.out W hb, hb⟩
          have HLO : Hid (∀ k, (Value.slice lx es.length lc).ownBlock = some k → w.heap.size ≤ k) := fun k hk => (ownS_lt HI4.out.ls hk).1
          have HKO : Hid (∀ k, (Value.slice kx es.length kc).ownBlock = some k → w.heap.size ≤ k) := fun k hk => (ownS_lt HI4.out.ns hk).1
          have HLL : Hid (∀ k, (Value.slice lx es.length lc).ownBlock = some k → k < wc.heap.size) := fun k hk => (ownS_lt HI4.out.ls hk).2
          have HKL : Hid (∀ k, (Value.slice kx es.length kc).ownBlock = some k → k < wc.heap.size) := fun k hk => (ownS_lt HI4.out.ns hk).2
          have HNE1 : Hid (∀ j, (Value.slice lx es.length lc).ownBlock = some j → some j ≠ (Value.slice kx es.length kc).ownBlock) := rows_ne HI4.out.ls HI4.out.ns (by decide)
          have HNE2 : Hid (∀ j, (Value.slice kx es.length kc).ownBlock = some j → some j ≠ (Value.slice lx es.length lc).ownBlock) := rows_ne HI4.out.ns HI4.out.ls (by decide)
          clear HAD
          go_upto_region 9 with (fail)
          go_cut [11, 12] (fun v1 v2 wx => Hid (Inv w.heap.size w wx w.heap.size cm4 jv4 (jour (es.take q)).length (es ++ [(s, n)]) v1 v2 (es.length + 1) (es.length + 1) (encS es ++ [.string ⟨s.toArray⟩]) (encN es ++ [.int .i64 n])))
          case first =>
            go_region_held3 (fun W => W.cell? ⟨nb, no + i, none⟩ = some (.string ⟨s.toArray⟩) ∧ W.cell? ⟨mb, mo + i, none⟩ = some (.int .i64 n) ∧ Below w.heap.size w W)
              ((refine HSS.out _ ?_; (repeat (first | (with_reducible exact HI4.out.bel) | assumption | (with_reducible refine Below.drew ?_) | (with_reducible refine below_alloc_ ?_ _) | (with_reducible refine bel_gr ?_ hgA HLO.out) | (with_reducible refine bel_gr ?_ hgB HKO.out)))))
              (first
                | (refine step_append_owns (by rfl) (.tmp 40) (.tmp 45) 22 (by rfl) w.heap.size 9 i0 (.string ⟨#[]⟩) 1 16 Tryz.underlying22 hi0 hz0 hz1 hz2 rfl (by decide) (.slice lx es.length lc) es.length (encS es) (by rfl) (by repeat (first | (with_reducible exact HI4.out.ls) | (with_reducible refine own_drew ?_) | (with_reducible refine own_alloc ?_ _) | (with_reducible refine own_gr ?_ hgB HNE1.out))) _ 1 1 [.string ⟨s.toArray⟩] (by rfl) rfl (one_at (by first | (simp; done) | exact hgB.cell (by simp) (fun e => absurd (HKL.out _ e.symm) (by simp)))) (by simp [Value.oneCell']) p1 p2 (by refine bel_size ?_; (repeat (first | (with_reducible exact HI4.out.bel) | assumption | (with_reducible refine Below.drew ?_) | (with_reducible refine below_alloc_ ?_ _) | (with_reducible refine bel_gr ?_ hgB HKO.out)))) ?_; intro va wA hoA hgA)
                | (refine step_append_owns (by rfl) (.tmp 47) (.tmp 52) 23 (by rfl) w.heap.size 3 i1 (.int .i64 0) 1 8 Tryz.underlying23 hi1 hy0 hy1 hy2 rfl (by decide) (.slice kx es.length kc) es.length (encN es) (by rfl) (by repeat (first | (with_reducible exact HI4.out.ns) | (with_reducible refine own_drew ?_) | (with_reducible refine own_alloc ?_ _) | (with_reducible refine own_gr ?_ hgA HNE2.out))) _ 1 1 [.int .i64 n] (by rfl) rfl (one_at (by first | (simp; done) | exact hgA.cell (by simp) (fun e => absurd (HLL.out _ e.symm) (by simp)))) (by simp [Value.oneCell']) p1 p3 (by refine bel_size ?_; (repeat (first | (with_reducible exact HI4.out.bel) | assumption | (with_reducible refine Below.drew ?_) | (with_reducible refine below_alloc_ ?_ _) | (with_reducible refine bel_gr ?_ hgA HLO.out)))) ?_; intro vb wB hoB hgB))
            all_goals
              go_wp2_with fail
              go_meet
              case rel =>
                show Inv _ _ _ _ _ _ _ _ _ _ _ _ _ _
                (repeat (first | (with_reducible exact HI4.out) | (with_reducible refine Inv.drew ?_) | (with_reducible refine Inv.alloc ?_ _) | (with_reducible refine Inv.appN (nv := .slice kx es.length kc) (nn := es.length) (nx := encN es) ?_ hoB hgB) | (with_reducible refine Inv.appL (lv := .slice lx es.length lc) (ln := es.length) (lx := encS es) ?_ hoA hgA)))
          case rest =>
          have e16 : (es ++ [(s, n)]).length = es.length + 1 := by simp
          have HI5 : Hid (Inv w.heap.size w wc w.heap.size cm4 jv4 (jour (es.take q)).length (es ++ [(s, n)]) u11 u12 (es.length + 1) (es.length + 1) (encS (es ++ [(s, n)])) (encN (es ++ [(s, n)]))) := by
            have := hcut
            rw [encS_snoc es s n, encN_snoc es s n] at this
            exact this
          have etk : (es ++ [(s, n)]).take q = es.take q := List.take_append_of_le_length hqe
          have HTK : Hid ((es ++ [(s, n)]).take q = es.take q) := etk
          have HTA : Hid ((es ++ [(s, n)]).take (es.length + 1) = es ++ [(s, n)]) := by rw [← e16]; exact List.take_length
          clear hcut etk HI HI4
          obtain ⟨lx5, lc5, rfl⟩ := owns_slice HI5.out.ls
          obtain ⟨kx5, kc5, rfl⟩ := owns_slice HI5.out.ns
          have HE16 : Hid ((es ++ [(s, n)]).length = es.length + 1) := e16
          clear e16
          by_cases hib : i < bs.length
          · obtain ⟨bv, hbv⟩ : ∃ b, bs[i]? = some b := ⟨_, List.getElem?_eq_getElem hib⟩
            obtain ⟨bb, bo, rfl, c3⟩ := H3.out wc HI5.out.bel i _ (by rw [List.getElem?_map, hbv]; rfl)
            have hib1 : (i : Int) < bs.length := by omega
            clear hbv
            cases bv with
            | false =>
              go_wp2
              go_roundg (gk - 1)
              case measure => omega
              case rel => exact ⟨i + 1, q, es ++ [(s, n)], _, _, by omega, rfl, by go_num, by rw [HE16.out]; omega, by rw [HE16.out]; omega, by show Inv _ _ _ _ _ _ _ _ _ _ _ _ _ _; rw [HTK.out, HE16.out]; exact HI5.out⟩
            | true =>
              have HSY := inv_sync wc HI5.out
              go_wp2_with fail
              refine HSY.mono ?_
              rintro e W9 ⟨rfl, hi9⟩
              have HI9 : Hid _ := hi9
              clear hi9 HSY
              go_wp2
              go_roundg (gk - 1)
              case measure => omega
              case rel => exact ⟨i + 1, es.length + 1, es ++ [(s, n)], _, _, by omega, rfl, by go_num, by rw [HE16.out]; omega, by rw [HE16.out]; exact Nat.le_refl _, by show Inv _ _ _ _ _ _ _ _ _ _ _ _ _ _; rw [HTA.out, HE16.out]; exact HI9.out⟩
          · have hib1 : ¬ (i : Int) < bs.length := by omega
            go_wp2
            go_roundg (gk - 1)
            case measure => omega
            case rel => exact ⟨i + 1, q, es ++ [(s, n)], _, _, by omega, rfl, by go_num, by rw [HE16.out]; omega, by rw [HE16.out]; omega, by show Inv _ _ _ _ _ _ _ _ _ _ _ _ _ _; rw [HTK.out, HE16.out]; exact HI5.out⟩
        · have HAD : Hid (Calls Tryz.prog 8 #[.pointer (some ⟨w.heap.size, 0, none⟩), .string ⟨s.toArray⟩, .int .i64 n] wr.drew fun e W' => e = .returned (.iface 37 (.int .i64 (addE es.length (s, n)))) ∧ Inv w.heap.size w W' w.heap.size cm jv (jour (es.take q)).length es (.slice lx es.length lc) (.slice kx es.length kc) es.length es.length (encS es) (encN es)) := by
            have hd := HI.out.drew
            exact (add_no w.heap.size cm jv _ es s n wr.drew hd.bk hsm hae).mono fun e w' ⟨a, b⟩ => ⟨a, hd.below b⟩
          clear hae
          go_upto_region 8 with (fail)
          go_cut [39] (fun v wx => v = .bool false ∧ Hid (Inv w.heap.size w wx w.heap.size cm jv (jour (es.take q)).length es (.slice lx es.length lc) (.slice kx es.length kc) es.length es.length (encS es) (encN es)))
          case first =>
            go_region_held3 (fun W => W.cell? ⟨nb, no + i, none⟩ = some (.string ⟨s.toArray⟩) ∧ W.cell? ⟨mb, mo + i, none⟩ = some (.int .i64 n)) (first | (with_reducible exact ⟨HN1.out _ HI4.out.bel, HN2.out _ HI4.out.bel⟩) | (with_reducible exact ⟨HN1.out _ HI.out.bel.drew, HN2.out _ HI.out.bel.drew⟩))
              ((go_at_call 8; refine HAD.out.mono ?_; rintro e W4 ⟨rfl, hi4⟩; have HI4 : Hid (Inv w.heap.size w W4 w.heap.size cm jv (jour (es.take q)).length es (.slice lx es.length lc) (.slice kx es.length kc) es.length es.length (encS es) (encN es)) := hi4; clear hi4))
            all_goals
              go_wp2
              go_meet
              case rel => exact ⟨rfl, HI4.out⟩
          case rest =>
          obtain ⟨rfl, HI5⟩ := hcut
          clear HAD
          have HTA : Hid (es.take es.length = es) := List.take_length
          clear HI
          by_cases hib : i < bs.length
          · obtain ⟨bv, hbv⟩ : ∃ b, bs[i]? = some b := ⟨_, List.getElem?_eq_getElem hib⟩
            obtain ⟨bb, bo, rfl, c3⟩ := H3.out wc HI5.out.bel i _ (by rw [List.getElem?_map, hbv]; rfl)
            have hib1 : (i : Int) < bs.length := by omega
            clear hbv
            cases bv with
            | false =>
              go_wp2
              go_roundg (gk - 1)
              case measure => omega
              case rel => exact ⟨i + 1, q, es, _, _, by omega, rfl, by go_num, by omega, hqe, HI5.out⟩
            | true =>
              have HSY := inv_sync wc HI5.out
              go_wp2_with fail
              refine HSY.mono ?_
              rintro e W9 ⟨rfl, hi9⟩
              have HI9 : Hid _ := hi9
              clear hi9 HSY
              go_wp2
              go_roundg (gk - 1)
              case measure => omega
              case rel => exact ⟨i + 1, es.length, es, _, _, by omega, rfl, by go_num, by omega, Nat.le_refl _, by show Inv _ _ _ _ _ _ _ _ _ _ _ _ _ _; rw [HTA.out]; exact HI9.out⟩
          · have hib1 : ¬ (i : Int) < bs.length := by omega
            go_wp2
            go_roundg (gk - 1)
            case measure => omega
            case rel => exact ⟨i + 1, q, es, _, _, by omega, rfl, by go_num, by omega, hqe, HI5.out⟩
      · have q2 : ¬ (i : Int) < ns.length := by omega
        go_wp2
        exact bodyPost_ret (results_tmp4 rfl _ _ _) rfl ⟨es, q, lx, lc, kx, kc, rfl, cm, jv, hqe, by omega, HI.out⟩
    · have q1 : ¬ (i : Int) < ss.length := by omega
      go_wp2
      exact bodyPost_ret (results_tmp4 rfl _ _ _) rfl ⟨es, q, lx, lc, kx, kc, rfl, cm, jv, hqe, by omega, HI.out⟩
end Go.Proofs.YtheadpemckoljaaGreatDoor
