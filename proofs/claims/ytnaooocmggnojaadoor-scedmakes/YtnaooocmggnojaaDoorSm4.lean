/-
  A trial: region 52 of millraceref.ScedMake by itself. Nothing is claimed here by itself.
-/
import Derived.Test.YtnaooocmggnojaaDoorSm1
import Derived.Test.YtnaooocmggnojaaDoorSm3
import Derived.Test.YtnaooocmggnojaaDoorOrd2
namespace Go.Proofs.YtnaooocmggnojaaDoor
open Go.RowKit Go.Extern.Stop Go.Stop Go.Extern

theorem cnq_le (fi : Nat → Nat) : ∀ q i, cnq fi q i ≤ q := by
  intro q
  induction q with
  | zero => intro i; exact Nat.le_refl _
  | succ q ih =>
    intro i
    simp only [cnq]
    have := ih i
    split <;> omega
theorem cnq_upd (fi : Nat → Nat) (q : Nat) : updN (cnq fi q) (fi q) (cnq fi q (fi q) + 1) = cnq fi (q + 1) := by
  funext j
  simp only [updN, cnq]
  by_cases e : j = fi q
  · subst e; simp
  · rw [if_neg e, if_neg (fun h => e h.symm)]
theorem one_at {w : World} {p : Nat} {v : Value} (h : w.cell? ⟨p, 0, none⟩ = some v) : ∀ (j : Nat) (u : Value), [v][j]? = some u → w.cell? ((⟨p, 0, none⟩ : Addr).add j) = some u := by
  intro j u hj
  match j, hj with
  | 0, hj => simp at hj; subst hj; simpa [Addr.add] using h
theorem cell_al {w : World} {a : Addr} {v : Value} (h : w.cell? a = some v) (o : Obj) : (w.alloc o).cell? a = some v := by rw [World.cell?_alloc_lt _ _ a (World.block_lt_of_cell? _ _ h)]; exact h
/-- What holds at every point of the drawing in which promised and through are written. -/
structure R52 (wr : World) (m b1 b2 f nn : Nat) (px tx : Int) (xs ys : List Value) (pv tv : Value) (l4 l5 l9 l14 l15 l16 l20 l21 l22 l27 l28 l29 l33 l34 l35 l36 l37 l38 l39 : Prop) (t192 t193 t197 t202 t203 t204 t208 t209 t210 t215 t216 t217 t221 t222 t223 t224 t225 : Value) (pA pB : Nat) (W0 W : World) : Prop where
  c15 : l15 → l14
  c16 : l16 → l15
  c21 : l21 → l20
  c22 : l22 → l16 ∧ l21
  c28 : l28 → l27
  c29 : l29 → l28
  c34 : l34 → l33
  c35 : l35 → l29 ∧ l34 ∧ l22
  c36 : l36 → l4 ∧ l9 ∧ l35
  c37 : l37 → l36
  c38 : l38 → l37 ∧ l5 ∧ l9
  c39 : l39 → l38
  f4 : l4 → t192 = .int .i64 f
  f5 : l5 → t193 = .slice (some ⟨b2, 0, none⟩) m m
  f9 : l9 → t197 = .int .i64 f
  f14 : l14 → t202 = .int .i64 f
  f15 : l15 → t203 = .pointer (some ⟨b1, f, none⟩)
  f16 : l16 → t204 = pv
  f20 : l20 → t208 = .int .i64 px
  f27 : l27 → t215 = .int .i64 f
  f28 : l28 → t216 = .pointer (some ⟨b2, f, none⟩)
  f29 : l29 → t217 = tv
  f33 : l33 → t221 = .int .i64 tx
  f36 : l36 → t224 = .pointer (some ⟨b1, f, none⟩)
  f38 : l38 → t225 = .pointer (some ⟨b2, f, none⟩)
  f21 : l21 → t209 = .slice (some ⟨pA, 0, none⟩) 1 1 ∧ wr.heap.size ≤ pA ∧ W0.cell? ⟨pA, 0, none⟩ = some (.int .i64 px)
  f34 : l34 → t222 = .slice (some ⟨pB, 0, none⟩) 1 1 ∧ wr.heap.size ≤ pB ∧ W0.cell? ⟨pB, 0, none⟩ = some (.int .i64 tx)
  f22 : l22 → Seg W0 3 1 t210 (nn + 1) (xs ++ [.int .i64 px]) ∧ ∀ k, t210.ownBlock = some k → pv.ownBlock = some k ∨ wr.heap.size ≤ k
  f35 : l35 → Seg W0 3 1 t223 (nn + 1) (ys ++ [.int .i64 tx]) ∧ (∀ k, t223.ownBlock = some k → tv.ownBlock = some k ∨ wr.heap.size ≤ k) ∧ ∀ k, t210.ownBlock = some k → t223.ownBlock ≠ some k
  s22 : ¬ l22 → Seg W0 3 1 pv nn xs
  s35 : ¬ l35 → Seg W0 3 1 tv nn ys
  ot : Ot (fun j => pv.ownBlock = some j ∨ tv.ownBlock = some j) wr W0
  w0 : ¬ l37 → W = W0
  w1 : l37 → ¬ l39 → W = W0.setCell ⟨b1, f, none⟩ t210
  w2 : l39 → W = (W0.setCell ⟨b1, f, none⟩ t210).setCell ⟨b2, f, none⟩ t223
set_option maxRecDepth 100000 in
set_option maxHeartbeats 16000000 in
theorem reg52 {Q : Exit → Act → World → Prop} {wr : World} {lo m b1 b2 cb f nn vb vo vc M q b off cap t : Nat} {cA px tx : Int} {PV TV : Nat → Value} {N : Nat → Nat} {P T : Nat → Nat → Int} (u8 u9 u10 u11 u12 u13 u14 u15 u16 u17 u18 u19 u20 u22 u23 u25 u33 u34 u35 u36 u37 u38 u39 u40 u41 u42 u43 u44 u45 u46 u47 u48 u49 u50 u51 u52 u53 u54 u55 u56 u57 u58 u59 u60 u61 u62 u63 u64 u65 u66 u67 u68 u69 u70 u71 u72 u73 u74 u75 u76 u77 u78 u79 u80 u81 u82 u83 u84 u85 u86 u87 u88 u89 u92 u93 u94 u95 u96 u97 u98 u99 u100 u101 u102 u103 u104 u105 u106 u107 u108 u109 u110 u111 u112 u113 u114 u115 u116 u117 u118 u119 u120 u121 u122 u123 u124 u125 u126 u127 u128 u129 u130 u131 u132 u133 u134 u135 u136 u137 u138 u139 u140 u141 u142 u143 u144 u145 u146 u147 u148 u149 u150 u151 u152 u153 u154 u155 u156 u157 u158 u159 u160 u161 u162 u163 u164 u165 u166 u167 u168 u169 u170 u171 u172 u173 u174 u175 u176 u177 u178 u179 u180 u181 u188 u189 u190 u191 u192 u193 u194 u195 u196 u197 u198 u199 u200 u201 u202 u203 u204 u205 u206 u207 u208 u209 u210 u211 u212 u213 u214 u215 u216 u217 u218 u219 u220 u221 u222 u223 u224 u225 u226 u227 u228 u229 : Value) (h : PT wr lo m b1 b2 PV TV N P T) (hf : f < m) (hN : N f = nn) (hnn : nn ≤ 100000) (hpx : P f nn = px) (htx : T f nn = tx) (hc : wr.heap[cb]? = some (.cells #[.int .i64 f, .int .i64 cA, .int .i64 px, .int .i64 tx] 66 (0, 0))) (hlo : lo ≤ wr.heap.size)
    (hpan : ∀ (e : _) (a : Act) (d : Tmp) (v : Value) (W : World), Q (.panic e) (a.put (some d) v) W → Q (.panic e) a W) (hQ : ∀ (t192 t193 t197 t202 t203 t204 t208 t209 t210 t215 t216 t217 t221 t222 t223 t224 t225 : Value) (W : World) (PV' TV' : Nat → Value), PT W lo m b1 b2 PV' TV' (updN N f (nn + 1)) P T → Ot (fun k => lo ≤ k) wr W → Q .normal { tmps := #[.slice (some ⟨b, off, none⟩) m cap, .int .i64 t, undef, undef, .slice none 0 0, .slice none 0 0, .slice none 0 0, .slice (some ⟨vb, vo, none⟩) M vc, u8, u9, u10, u11, u12, u13, u14, u15, u16, u17, u18, u19, u20, undef, u22, u23, undef, u25, .slice (some ⟨b1, 0, none⟩) m m, .slice (some ⟨b2, 0, none⟩) m m, undef, .pointer (some ⟨cb, 0, none⟩), .slice (some ⟨b, off, none⟩) m cap, .int .i64 m, .int .i64 m, u33, u34, u35, u36, u37, u38, u39, u40, u41, u42, u43, u44, u45, u46, u47, u48, u49, u50, u51, u52, u53, u54, u55, u56, u57, u58, u59, u60, u61, u62, u63, u64, u65, u66, u67, u68, u69, u70, u71, u72, u73, u74, u75, u76, u77, u78, u79, u80, u81, u82, u83, u84, u85, u86, u87, u88, u89, .int .i64 t, .int .i64 t, u92, u93, u94, u95, u96, u97, u98, u99, u100, u101, u102, u103, u104, u105, u106, u107, u108, u109, u110, u111, u112, u113, u114, u115, u116, u117, u118, u119, u120, u121, u122, u123, u124, u125, u126, u127, u128, u129, u130, u131, u132, u133, u134, u135, u136, u137, u138, u139, u140, u141, u142, u143, u144, u145, u146, u147, u148, u149, u150, u151, u152, u153, u154, u155, u156, u157, u158, u159, u160, u161, u162, u163, u164, u165, u166, u167, u168, u169, u170, u171, u172, u173, u174, u175, u176, u177, u178, u179, u180, u181, .slice (some ⟨vb, vo, none⟩) M vc, .int .i64 M, .int .i64 q, .bool true, .pointer (some ⟨vb, vo + q, none⟩), .pointer (some ⟨cb, 0, none⟩), .slice (some ⟨b1, 0, none⟩) m m, .pointer (some ⟨cb, 0, none⟩), .pointer (some ⟨cb, 0, none⟩), .pointer (some ⟨cb, 0, none⟩), t192, t193, .pointer (some ⟨cb, 0, none⟩), .pointer (some ⟨cb, 0, none⟩), .pointer (some ⟨cb, 0, none⟩), t197, .slice (some ⟨b1, 0, none⟩) m m, .pointer (some ⟨cb, 0, none⟩), .pointer (some ⟨cb, 0, none⟩), .pointer (some ⟨cb, 0, none⟩), t202, t203, t204, .pointer (some ⟨cb, 0, none⟩), .pointer (some ⟨cb, 0, none⟩), .pointer (some ⟨cb, 2, none⟩), t208, t209, t210, .slice (some ⟨b2, 0, none⟩) m m, .pointer (some ⟨cb, 0, none⟩), .pointer (some ⟨cb, 0, none⟩), .pointer (some ⟨cb, 0, none⟩), t215, t216, t217, .pointer (some ⟨cb, 0, none⟩), .pointer (some ⟨cb, 0, none⟩), .pointer (some ⟨cb, 3, none⟩), t221, t222, t223, t224, t225, u226, u227, u228, u229], defers := [] } W) :
    Code.wp Tryd.prog (Code.region 52 #[{ dst := some 188, op := Op.move (Operand.tmp 26), type := 39, pos := "plans.go:105", after := #[], guard := none }, { dst := some 189, op := Op.move (Operand.tmp 29), type := 64, pos := "plans.go:105", after := #[], guard := none }, { dst := some 190, op := Op.nilCheck (Operand.tmp 189), type := 0, pos := "plans.go:105", after := #[{ on := 1, ground := Ground.data }], guard := none }, { dst := some 191, op := Op.fieldAddr 66 (Operand.tmp 190) 0, type := 0, pos := "plans.go:105", after := #[{ on := 2, ground := Ground.data }], guard := none }, { dst := some 192, op := Op.load 3 (Operand.tmp 191), type := 3, pos := "plans.go:105", after := #[{ on := 3, ground := Ground.data }], guard := none }, { dst := some 193, op := Op.move (Operand.tmp 27), type := 39, pos := "plans.go:105", after := #[{ on := 37, ground := Ground.gcOnly Departure.lateStores }], guard := none }, { dst := some 194, op := Op.move (Operand.tmp 29), type := 64, pos := "plans.go:105", after := #[], guard := none }, { dst := some 195, op := Op.nilCheck (Operand.tmp 194), type := 0, pos := "plans.go:105", after := #[{ on := 6, ground := Ground.data }], guard := none }, { dst := some 196, op := Op.fieldAddr 66 (Operand.tmp 195) 0, type := 0, pos := "plans.go:105", after := #[{ on := 7, ground := Ground.data }], guard := none }, { dst := some 197, op := Op.load 3 (Operand.tmp 196), type := 3, pos := "plans.go:105", after := #[{ on := 8, ground := Ground.data }], guard := none }, { dst := some 198, op := Op.move (Operand.tmp 26), type := 39, pos := "plans.go:105", after := #[], guard := none }, { dst := some 199, op := Op.move (Operand.tmp 29), type := 64, pos := "plans.go:105", after := #[], guard := none }, { dst := some 200, op := Op.nilCheck (Operand.tmp 199), type := 0, pos := "plans.go:105", after := #[{ on := 11, ground := Ground.data }], guard := none }, { dst := some 201, op := Op.fieldAddr 66 (Operand.tmp 200) 0, type := 0, pos := "plans.go:105", after := #[{ on := 12, ground := Ground.data }], guard := none }, { dst := some 202, op := Op.load 3 (Operand.tmp 201), type := 3, pos := "plans.go:105", after := #[{ on := 13, ground := Ground.data }], guard := none }, { dst := some 203, op := Op.indexAddr 39 (Operand.tmp 198) (Operand.tmp 202), type := 0, pos := "plans.go:105", after := #[{ on := 10, ground := Ground.data }, { on := 14, ground := Ground.data }], guard := none }, { dst := some 204, op := Op.load 36 (Operand.tmp 203), type := 36, pos := "plans.go:105", after := #[{ on := 15, ground := Ground.data }], guard := none }, { dst := some 205, op := Op.move (Operand.tmp 29), type := 64, pos := "plans.go:105", after := #[], guard := none }, { dst := some 206, op := Op.nilCheck (Operand.tmp 205), type := 0, pos := "plans.go:105", after := #[{ on := 17, ground := Ground.data }], guard := none }, { dst := some 207, op := Op.fieldAddr 66 (Operand.tmp 206) 2, type := 0, pos := "plans.go:105", after := #[{ on := 18, ground := Ground.data }], guard := none }, { dst := some 208, op := Op.load 3 (Operand.tmp 207), type := 3, pos := "plans.go:105", after := #[{ on := 19, ground := Ground.data }], guard := none }, { dst := some 209, op := Op.buildSlice 36 1 #[(0, Operand.tmp 208)], type := 36, pos := "plans.go:105", after := #[{ on := 20, ground := Ground.data }], guard := none }, { dst := some 210, op := Op.call { callee := Callee.builtin Builtin.append, args := #[Operand.tmp 204, Operand.tmp 209], argTypes := #[36, 36] }, type := 36, pos := "plans.go:105", after := #[{ on := 16, ground := Ground.data }, { on := 21, ground := Ground.data }], guard := none }, { dst := some 211, op := Op.move (Operand.tmp 27), type := 39, pos := "plans.go:105", after := #[], guard := none }, { dst := some 212, op := Op.move (Operand.tmp 29), type := 64, pos := "plans.go:105", after := #[], guard := none }, { dst := some 213, op := Op.nilCheck (Operand.tmp 212), type := 0, pos := "plans.go:105", after := #[{ on := 24, ground := Ground.data }], guard := none }, { dst := some 214, op := Op.fieldAddr 66 (Operand.tmp 213) 0, type := 0, pos := "plans.go:105", after := #[{ on := 25, ground := Ground.data }], guard := none }, { dst := some 215, op := Op.load 3 (Operand.tmp 214), type := 3, pos := "plans.go:105", after := #[{ on := 26, ground := Ground.data }], guard := none }, { dst := some 216, op := Op.indexAddr 39 (Operand.tmp 211) (Operand.tmp 215), type := 0, pos := "plans.go:105", after := #[{ on := 23, ground := Ground.data }, { on := 27, ground := Ground.data }], guard := none }, { dst := some 217, op := Op.load 36 (Operand.tmp 216), type := 36, pos := "plans.go:105", after := #[{ on := 28, ground := Ground.data }], guard := none }, { dst := some 218, op := Op.move (Operand.tmp 29), type := 64, pos := "plans.go:105", after := #[], guard := none }, { dst := some 219, op := Op.nilCheck (Operand.tmp 218), type := 0, pos := "plans.go:105", after := #[{ on := 30, ground := Ground.data }], guard := none }, { dst := some 220, op := Op.fieldAddr 66 (Operand.tmp 219) 3, type := 0, pos := "plans.go:105", after := #[{ on := 31, ground := Ground.data }], guard := none }, { dst := some 221, op := Op.load 3 (Operand.tmp 220), type := 3, pos := "plans.go:105", after := #[{ on := 32, ground := Ground.data }], guard := none }, { dst := some 222, op := Op.buildSlice 36 1 #[(0, Operand.tmp 221)], type := 36, pos := "plans.go:105", after := #[{ on := 33, ground := Ground.data }], guard := none }, { dst := some 223, op := Op.call { callee := Callee.builtin Builtin.append, args := #[Operand.tmp 217, Operand.tmp 222], argTypes := #[36, 36] }, type := 36, pos := "plans.go:105", after := #[{ on := 29, ground := Ground.data }, { on := 34, ground := Ground.data }, { on := 22, ground := Ground.chain }], guard := none }, { dst := some 224, op := Op.indexAddr 39 (Operand.tmp 188) (Operand.tmp 192), type := 0, pos := "plans.go:105", after := #[{ on := 0, ground := Ground.data }, { on := 4, ground := Ground.data }, { on := 0, ground := Ground.phase }, { on := 1, ground := Ground.phase }, { on := 2, ground := Ground.phase }, { on := 3, ground := Ground.phase }, { on := 4, ground := Ground.phase }, { on := 5, ground := Ground.textOnly Departure.lateStores }, { on := 6, ground := Ground.textOnly Departure.lateStores }, { on := 7, ground := Ground.textOnly Departure.lateStoresUnsure }, { on := 8, ground := Ground.textOnly Departure.lateStoresUnsure }, { on := 9, ground := Ground.phase }, { on := 10, ground := Ground.phase }, { on := 11, ground := Ground.phase }, { on := 12, ground := Ground.phase }, { on := 13, ground := Ground.phase }, { on := 14, ground := Ground.phase }, { on := 15, ground := Ground.phase }, { on := 16, ground := Ground.phase }, { on := 17, ground := Ground.phase }, { on := 18, ground := Ground.phase }, { on := 19, ground := Ground.phase }, { on := 20, ground := Ground.phase }, { on := 21, ground := Ground.phase }, { on := 22, ground := Ground.phase }, { on := 23, ground := Ground.textOnly Departure.lateStores }, { on := 24, ground := Ground.textOnly Departure.lateStores }, { on := 25, ground := Ground.textOnly Departure.lateStoresUnsure }, { on := 26, ground := Ground.textOnly Departure.lateStoresUnsure }, { on := 27, ground := Ground.phase }, { on := 28, ground := Ground.textOnly Departure.lateStoresUnsure }, { on := 29, ground := Ground.phase }, { on := 30, ground := Ground.textOnly Departure.lateStores }, { on := 31, ground := Ground.textOnly Departure.lateStoresUnsure }, { on := 32, ground := Ground.textOnly Departure.lateStoresUnsure }, { on := 33, ground := Ground.phase }, { on := 34, ground := Ground.textOnly Departure.lateStoresUnsure }, { on := 35, ground := Ground.phase }], guard := none }, { dst := none, op := Op.store 36 (Operand.tmp 224) (Operand.tmp 210), type := 0, pos := "plans.go:105", after := #[{ on := 36, ground := Ground.data }, { on := 22, ground := Ground.data }, { on := 35, ground := Ground.chain }, { on := 0, ground := Ground.phase }, { on := 1, ground := Ground.phase }, { on := 2, ground := Ground.phase }, { on := 3, ground := Ground.phase }, { on := 4, ground := Ground.phase }, { on := 5, ground := Ground.textOnly Departure.lateStores }, { on := 6, ground := Ground.textOnly Departure.lateStores }, { on := 7, ground := Ground.textOnly Departure.lateStoresUnsure }, { on := 8, ground := Ground.textOnly Departure.lateStoresUnsure }, { on := 9, ground := Ground.phase }, { on := 10, ground := Ground.phase }, { on := 11, ground := Ground.phase }, { on := 12, ground := Ground.phase }, { on := 13, ground := Ground.phase }, { on := 14, ground := Ground.phase }, { on := 15, ground := Ground.phase }, { on := 16, ground := Ground.phase }, { on := 17, ground := Ground.phase }, { on := 18, ground := Ground.phase }, { on := 19, ground := Ground.phase }, { on := 20, ground := Ground.phase }, { on := 21, ground := Ground.phase }, { on := 22, ground := Ground.phase }, { on := 23, ground := Ground.textOnly Departure.lateStores }, { on := 24, ground := Ground.textOnly Departure.lateStores }, { on := 25, ground := Ground.textOnly Departure.lateStoresUnsure }, { on := 26, ground := Ground.textOnly Departure.lateStoresUnsure }, { on := 27, ground := Ground.phase }, { on := 28, ground := Ground.textOnly Departure.lateStoresUnsure }, { on := 29, ground := Ground.phase }, { on := 30, ground := Ground.textOnly Departure.lateStores }, { on := 31, ground := Ground.textOnly Departure.lateStoresUnsure }, { on := 32, ground := Ground.textOnly Departure.lateStoresUnsure }, { on := 33, ground := Ground.phase }, { on := 34, ground := Ground.textOnly Departure.lateStoresUnsure }, { on := 35, ground := Ground.phase }], guard := none }, { dst := some 225, op := Op.indexAddr 39 (Operand.tmp 193) (Operand.tmp 197), type := 0, pos := "plans.go:105", after := #[{ on := 5, ground := Ground.data }, { on := 9, ground := Ground.data }, { on := 0, ground := Ground.phase }, { on := 1, ground := Ground.phase }, { on := 2, ground := Ground.phase }, { on := 3, ground := Ground.phase }, { on := 4, ground := Ground.phase }, { on := 5, ground := Ground.phase }, { on := 6, ground := Ground.phase }, { on := 7, ground := Ground.phase }, { on := 8, ground := Ground.phase }, { on := 9, ground := Ground.phase }, { on := 10, ground := Ground.phase }, { on := 11, ground := Ground.phase }, { on := 12, ground := Ground.phase }, { on := 13, ground := Ground.phase }, { on := 14, ground := Ground.phase }, { on := 15, ground := Ground.phase }, { on := 16, ground := Ground.phase }, { on := 17, ground := Ground.phase }, { on := 18, ground := Ground.phase }, { on := 19, ground := Ground.phase }, { on := 20, ground := Ground.phase }, { on := 21, ground := Ground.phase }, { on := 22, ground := Ground.phase }, { on := 23, ground := Ground.phase }, { on := 24, ground := Ground.phase }, { on := 25, ground := Ground.phase }, { on := 26, ground := Ground.phase }, { on := 27, ground := Ground.phase }, { on := 28, ground := Ground.phase }, { on := 29, ground := Ground.phase }, { on := 30, ground := Ground.phase }, { on := 31, ground := Ground.phase }, { on := 32, ground := Ground.phase }, { on := 33, ground := Ground.phase }, { on := 34, ground := Ground.phase }, { on := 35, ground := Ground.phase }, { on := 36, ground := Ground.phase }, { on := 37, ground := Ground.phase }], guard := none }, { dst := none, op := Op.store 36 (Operand.tmp 225) (Operand.tmp 223), type := 0, pos := "plans.go:105", after := #[{ on := 38, ground := Ground.data }, { on := 35, ground := Ground.data }, { on := 37, ground := Ground.chain }, { on := 0, ground := Ground.phase }, { on := 1, ground := Ground.phase }, { on := 2, ground := Ground.phase }, { on := 3, ground := Ground.phase }, { on := 4, ground := Ground.phase }, { on := 5, ground := Ground.phase }, { on := 6, ground := Ground.phase }, { on := 7, ground := Ground.phase }, { on := 8, ground := Ground.phase }, { on := 9, ground := Ground.phase }, { on := 10, ground := Ground.phase }, { on := 11, ground := Ground.phase }, { on := 12, ground := Ground.phase }, { on := 13, ground := Ground.phase }, { on := 14, ground := Ground.phase }, { on := 15, ground := Ground.phase }, { on := 16, ground := Ground.phase }, { on := 17, ground := Ground.phase }, { on := 18, ground := Ground.phase }, { on := 19, ground := Ground.phase }, { on := 20, ground := Ground.phase }, { on := 21, ground := Ground.phase }, { on := 22, ground := Ground.phase }, { on := 23, ground := Ground.phase }, { on := 24, ground := Ground.phase }, { on := 25, ground := Ground.phase }, { on := 26, ground := Ground.phase }, { on := 27, ground := Ground.phase }, { on := 28, ground := Ground.phase }, { on := 29, ground := Ground.phase }, { on := 30, ground := Ground.phase }, { on := 31, ground := Ground.phase }, { on := 32, ground := Ground.phase }, { on := 33, ground := Ground.phase }, { on := 34, ground := Ground.phase }, { on := 35, ground := Ground.phase }, { on := 36, ground := Ground.phase }, { on := 37, ground := Ground.phase }], guard := none }] true) Q { tmps := #[.slice (some ⟨b, off, none⟩) m cap, .int .i64 t, undef, undef, .slice none 0 0, .slice none 0 0, .slice none 0 0, .slice (some ⟨vb, vo, none⟩) M vc, u8, u9, u10, u11, u12, u13, u14, u15, u16, u17, u18, u19, u20, undef, u22, u23, undef, u25, .slice (some ⟨b1, 0, none⟩) m m, .slice (some ⟨b2, 0, none⟩) m m, undef, .pointer (some ⟨cb, 0, none⟩), .slice (some ⟨b, off, none⟩) m cap, .int .i64 m, .int .i64 m, u33, u34, u35, u36, u37, u38, u39, u40, u41, u42, u43, u44, u45, u46, u47, u48, u49, u50, u51, u52, u53, u54, u55, u56, u57, u58, u59, u60, u61, u62, u63, u64, u65, u66, u67, u68, u69, u70, u71, u72, u73, u74, u75, u76, u77, u78, u79, u80, u81, u82, u83, u84, u85, u86, u87, u88, u89, .int .i64 t, .int .i64 t, u92, u93, u94, u95, u96, u97, u98, u99, u100, u101, u102, u103, u104, u105, u106, u107, u108, u109, u110, u111, u112, u113, u114, u115, u116, u117, u118, u119, u120, u121, u122, u123, u124, u125, u126, u127, u128, u129, u130, u131, u132, u133, u134, u135, u136, u137, u138, u139, u140, u141, u142, u143, u144, u145, u146, u147, u148, u149, u150, u151, u152, u153, u154, u155, u156, u157, u158, u159, u160, u161, u162, u163, u164, u165, u166, u167, u168, u169, u170, u171, u172, u173, u174, u175, u176, u177, u178, u179, u180, u181, .slice (some ⟨vb, vo, none⟩) M vc, .int .i64 M, .int .i64 q, .bool true, .pointer (some ⟨vb, vo + q, none⟩), .pointer (some ⟨cb, 0, none⟩), u188, u189, u190, u191, u192, u193, u194, u195, u196, u197, u198, u199, u200, u201, u202, u203, u204, u205, u206, u207, u208, u209, u210, u211, u212, u213, u214, u215, u216, u217, u218, u219, u220, u221, u222, u223, u224, u225, u226, u227, u228, u229], defers := [] } wr := by
  obtain ⟨pv, HPV⟩ : ∃ pv, Hid (PV f = pv) := ⟨_, rfl⟩
  obtain ⟨tv, HTV⟩ : ∃ tv, Hid (TV f = tv) := ⟨_, rfl⟩
  obtain ⟨xs, HXS⟩ : ∃ xs, Hid (vals (P f) nn = xs) := ⟨_, rfl⟩
  obtain ⟨ys, HYS⟩ : ∃ ys, Hid (vals (T f) nn = ys) := ⟨_, rfl⟩
  have hsp := h.pv f hf
  have hsq := h.tv f hf
  rw [HPV.out, hN, HXS.out] at hsp
  rw [HTV.out, hN, HYS.out] at hsq
  have HDQ : Hid (∀ k, pv.ownBlock = some k → tv.ownBlock ≠ some k) := fun k hk => by
    have := h.dq f f hf hf k (by rw [HPV.out]; exact hk)
    rw [HTV.out] at this
    exact this
  have HSP : Hid (∀ W, Ot (fun j => False) wr W → Seg W 3 1 pv nn xs) := fun W hW => hsp.oth hW (fun _ _ h => h)
  have HSQ : Hid (∀ W, Ot (fun j => False) wr W → Seg W 3 1 tv nn ys) := fun W hW => hsq.oth hW (fun _ _ h => h)
  have HNP : Hid (∀ k, wr.heap.size ≤ k → some k ≠ pv.ownBlock) := fun k hk e => by have := hsp.lt e.symm; omega
  have HNT : Hid (∀ k, wr.heap.size ≤ k → some k ≠ tv.ownBlock) := fun k hk e => by have := hsq.lt e.symm; omega
  have HNE : Hid (b2 ≠ b1) := fun e => h.ne e.symm
  have HSS : Hid (∀ W, Ot (fun j => pv.ownBlock = some j ∨ tv.ownBlock = some j) wr W → W.cell? ⟨cb, 0, none⟩ = some (.int .i64 f) ∧ W.cell? ⟨cb, 2, none⟩ = some (.int .i64 px) ∧ W.cell? ⟨cb, 3, none⟩ = some (.int .i64 tx) ∧ W.cell? ⟨b1, f, none⟩ = some pv ∧ W.cell? ⟨b2, f, none⟩ = some tv ∧ W.frozen? ⟨b1, f, none⟩ = false ∧ W.frozen? ⟨b2, f, none⟩ = false ∧ cb < W.heap.size) := by
    intro W hW
    have g0 : W.heap[cb]? = some (.cells #[.int .i64 f, .int .i64 cA, .int .i64 px, .int .i64 tx] 66 (0, 0)) := (hW.block cb (lt_of_block hc) (by rintro (e | e); exact hsp.ne hc (by decide) e; exact hsq.ne hc (by decide) e)).trans hc
    have g1 : W.heap[b1]? = some (.cells (arrV PV m) 36 (0, 0)) := (hW.block b1 (lt_of_block h.h1) (by rintro (e | e); exact hsp.ne h.h1 (by decide) e; exact hsq.ne h.h1 (by decide) e)).trans h.h1
    have g2 : W.heap[b2]? = some (.cells (arrV TV m) 36 (0, 0)) := (hW.block b2 (lt_of_block h.h2) (by rintro (e | e); exact hsp.ne h.h2 (by decide) e; exact hsq.ne h.h2 (by decide) e)).trans h.h2
    have a1 := arrV_at PV hf
    have a2 := arrV_at TV hf
    rw [HPV.out] at a1
    rw [HTV.out] at a2
    refine ⟨?_, ?_, ?_, ?_, ?_, ?_, ?_, lt_of_block g0⟩
    · simp [World.cell?, g0]
    · simp [World.cell?, g0]
    · simp [World.cell?, g0]
    · simp only [World.cell?, g1]; exact a1
    · simp only [World.cell?, g2]; exact a2
    · simp [World.frozen?, g1]
    · simp [World.frozen?, g2]
  have HFIN : Hid (∀ W0 t1 t2, Seg W0 3 1 t1 (nn + 1) (xs ++ [.int .i64 px]) → Seg W0 3 1 t2 (nn + 1) (ys ++ [.int .i64 tx]) → Ot (fun j => pv.ownBlock = some j ∨ tv.ownBlock = some j) wr W0 → (∀ k, t1.ownBlock = some k → pv.ownBlock = some k ∨ wr.heap.size ≤ k) → (∀ k, t2.ownBlock = some k → tv.ownBlock = some k ∨ wr.heap.size ≤ k) → (∀ k, t1.ownBlock = some k → t2.ownBlock ≠ some k) → ∃ PV' TV', PT ((W0.setCell ⟨b1, f, none⟩ t1).setCell ⟨b2, f, none⟩ t2) lo m b1 b2 PV' TV' (updN N f (nn + 1)) P T ∧ Ot (fun k => lo ≤ k) wr ((W0.setCell ⟨b1, f, none⟩ t1).setCell ⟨b2, f, none⟩ t2)) := by
    intro W0 t1 t2 q1 q2 q3 q4 q5 q6
    have v1 : vals (P f) (nn + 1) = xs ++ [.int .i64 px] := by rw [← HXS.out, ← hpx]; simp [vals, List.range_succ]
    have v2 : vals (T f) (nn + 1) = ys ++ [.int .i64 tx] := by rw [← HYS.out, ← htx]; simp [vals, List.range_succ]
    have := h.step hf (W0 := W0) (pv := t1) (tv := t2) (by rw [HPV.out, HTV.out]; exact q3) (by rw [hN, v1]; exact q1) (by rw [hN, v2]; exact q2) (by rw [HPV.out]; exact q4) (by rw [HTV.out]; exact q5) q6 hlo
    rw [hN] at this
    exact ⟨_, _, this⟩
  obtain ⟨i0, hi, hz0, hz1, hz2⟩ := info_parts infoInt
  clear h hsp hsq hc hpx htx hN HPV HTV HXS HYS
  refine wp_region_any (by kernel_rfl) ?_
  change wpAny _ _ _ _ _ _ _ (World.drew _)
  refine wpAny_take (i := 0) (v := ?_) rfl (by kernel_rfl) (by kernel_rfl) (by kernel_rfl) (fun c a w h => hpan c a _ _ w h) (Or.inl ⟨by rfl, ?_⟩) ?_
  rotate_left
  · intro w; go_simp; try with_reducible rfl
  simp only [Act.put, List.getElem_toArray, List.getElem_cons_zero, List.setIfInBounds_toArray, List.set_cons_zero, List.set_cons_succ]
  refine wpAny_take (i := 1) (v := ?_) rfl (by kernel_rfl) (by kernel_rfl) (by kernel_rfl) (fun c a w h => hpan c a _ _ w h) (Or.inl ⟨by rfl, ?_⟩) ?_
  rotate_left
  · intro w; go_simp; try with_reducible rfl
  simp only [Act.put, List.getElem_toArray, List.getElem_cons_zero, List.getElem_cons_succ, List.setIfInBounds_toArray, List.set_cons_zero, List.set_cons_succ]
  refine wpAny_take (i := 2) (v := ?_) rfl (by kernel_rfl) (by kernel_rfl) (by kernel_rfl) (fun c a w h => hpan c a _ _ w h) (Or.inl ⟨by rfl, ?_⟩) ?_
  rotate_left
  · intro w; go_simp; try with_reducible rfl
  simp only [Act.put, List.getElem_toArray, List.getElem_cons_zero, List.getElem_cons_succ, List.setIfInBounds_toArray, List.set_cons_zero, List.set_cons_succ]
  refine wpAny_take (i := 3) (v := ?_) rfl (by kernel_rfl) (by kernel_rfl) (by kernel_rfl) (fun c a w h => hpan c a _ _ w h) (Or.inl ⟨by rfl, ?_⟩) ?_
  rotate_left
  · intro w; go_simp; try with_reducible rfl
  simp only [Act.put, List.getElem_toArray, List.getElem_cons_zero, List.getElem_cons_succ, List.setIfInBounds_toArray, List.set_cons_zero, List.set_cons_succ]
  refine wpAny_take (i := 6) (v := ?_) rfl (by kernel_rfl) (by kernel_rfl) (by kernel_rfl) (fun c a w h => hpan c a _ _ w h) (Or.inl ⟨by rfl, ?_⟩) ?_
  rotate_left
  · intro w; go_simp; try with_reducible rfl
  simp only [Act.put, List.getElem_toArray, List.getElem_cons_zero, List.getElem_cons_succ, List.setIfInBounds_toArray, List.set_cons_zero, List.set_cons_succ]
  refine wpAny_take (i := 7) (v := ?_) rfl (by kernel_rfl) (by kernel_rfl) (by kernel_rfl) (fun c a w h => hpan c a _ _ w h) (Or.inl ⟨by rfl, ?_⟩) ?_
  rotate_left
  · intro w; go_simp; try with_reducible rfl
  simp only [Act.put, List.getElem_toArray, List.getElem_cons_zero, List.getElem_cons_succ, List.setIfInBounds_toArray, List.set_cons_zero, List.set_cons_succ]
  refine wpAny_take (i := 8) (v := ?_) rfl (by kernel_rfl) (by kernel_rfl) (by kernel_rfl) (fun c a w h => hpan c a _ _ w h) (Or.inl ⟨by rfl, ?_⟩) ?_
  rotate_left
  · intro w; go_simp; try with_reducible rfl
  simp only [Act.put, List.getElem_toArray, List.getElem_cons_zero, List.getElem_cons_succ, List.setIfInBounds_toArray, List.set_cons_zero, List.set_cons_succ]
  refine wpAny_take (i := 10) (v := ?_) rfl (by kernel_rfl) (by kernel_rfl) (by kernel_rfl) (fun c a w h => hpan c a _ _ w h) (Or.inl ⟨by rfl, ?_⟩) ?_
  rotate_left
  · intro w; go_simp; try with_reducible rfl
  simp only [Act.put, List.getElem_toArray, List.getElem_cons_zero, List.getElem_cons_succ, List.setIfInBounds_toArray, List.set_cons_zero, List.set_cons_succ]
  refine wpAny_take (i := 11) (v := ?_) rfl (by kernel_rfl) (by kernel_rfl) (by kernel_rfl) (fun c a w h => hpan c a _ _ w h) (Or.inl ⟨by rfl, ?_⟩) ?_
  rotate_left
  · intro w; go_simp; try with_reducible rfl
  simp only [Act.put, List.getElem_toArray, List.getElem_cons_zero, List.getElem_cons_succ, List.setIfInBounds_toArray, List.set_cons_zero, List.set_cons_succ]
  refine wpAny_take (i := 12) (v := ?_) rfl (by kernel_rfl) (by kernel_rfl) (by kernel_rfl) (fun c a w h => hpan c a _ _ w h) (Or.inl ⟨by rfl, ?_⟩) ?_
  rotate_left
  · intro w; go_simp; try with_reducible rfl
  simp only [Act.put, List.getElem_toArray, List.getElem_cons_zero, List.getElem_cons_succ, List.setIfInBounds_toArray, List.set_cons_zero, List.set_cons_succ]
  refine wpAny_take (i := 13) (v := ?_) rfl (by kernel_rfl) (by kernel_rfl) (by kernel_rfl) (fun c a w h => hpan c a _ _ w h) (Or.inl ⟨by rfl, ?_⟩) ?_
  rotate_left
  · intro w; go_simp; try with_reducible rfl
  simp only [Act.put, List.getElem_toArray, List.getElem_cons_zero, List.getElem_cons_succ, List.setIfInBounds_toArray, List.set_cons_zero, List.set_cons_succ]
  refine wpAny_take (i := 17) (v := ?_) rfl (by kernel_rfl) (by kernel_rfl) (by kernel_rfl) (fun c a w h => hpan c a _ _ w h) (Or.inl ⟨by rfl, ?_⟩) ?_
  rotate_left
  · intro w; go_simp; try with_reducible rfl
  simp only [Act.put, List.getElem_toArray, List.getElem_cons_zero, List.getElem_cons_succ, List.setIfInBounds_toArray, List.set_cons_zero, List.set_cons_succ]
  refine wpAny_take (i := 18) (v := ?_) rfl (by kernel_rfl) (by kernel_rfl) (by kernel_rfl) (fun c a w h => hpan c a _ _ w h) (Or.inl ⟨by rfl, ?_⟩) ?_
  rotate_left
  · intro w; go_simp; try with_reducible rfl
  simp only [Act.put, List.getElem_toArray, List.getElem_cons_zero, List.getElem_cons_succ, List.setIfInBounds_toArray, List.set_cons_zero, List.set_cons_succ]
  refine wpAny_take (i := 19) (v := ?_) rfl (by kernel_rfl) (by kernel_rfl) (by kernel_rfl) (fun c a w h => hpan c a _ _ w h) (Or.inl ⟨by rfl, ?_⟩) ?_
  rotate_left
  · intro w; go_simp; try with_reducible rfl
  simp only [Act.put, List.getElem_toArray, List.getElem_cons_zero, List.getElem_cons_succ, List.setIfInBounds_toArray, List.set_cons_zero, List.set_cons_succ]
  refine wpAny_take (i := 23) (v := ?_) rfl (by kernel_rfl) (by kernel_rfl) (by kernel_rfl) (fun c a w h => hpan c a _ _ w h) (Or.inl ⟨by rfl, ?_⟩) ?_
  rotate_left
  · intro w; go_simp; try with_reducible rfl
  simp only [Act.put, List.getElem_toArray, List.getElem_cons_zero, List.getElem_cons_succ, List.setIfInBounds_toArray, List.set_cons_zero, List.set_cons_succ]
  refine wpAny_take (i := 24) (v := ?_) rfl (by kernel_rfl) (by kernel_rfl) (by kernel_rfl) (fun c a w h => hpan c a _ _ w h) (Or.inl ⟨by rfl, ?_⟩) ?_
  rotate_left
  · intro w; go_simp; try with_reducible rfl
  simp only [Act.put, List.getElem_toArray, List.getElem_cons_zero, List.getElem_cons_succ, List.setIfInBounds_toArray, List.set_cons_zero, List.set_cons_succ]
  refine wpAny_take (i := 25) (v := ?_) rfl (by kernel_rfl) (by kernel_rfl) (by kernel_rfl) (fun c a w h => hpan c a _ _ w h) (Or.inl ⟨by rfl, ?_⟩) ?_
  rotate_left
  · intro w; go_simp; try with_reducible rfl
  simp only [Act.put, List.getElem_toArray, List.getElem_cons_zero, List.getElem_cons_succ, List.setIfInBounds_toArray, List.set_cons_zero, List.set_cons_succ]
  refine wpAny_take (i := 26) (v := ?_) rfl (by kernel_rfl) (by kernel_rfl) (by kernel_rfl) (fun c a w h => hpan c a _ _ w h) (Or.inl ⟨by rfl, ?_⟩) ?_
  rotate_left
  · intro w; go_simp; try with_reducible rfl
  simp only [Act.put, List.getElem_toArray, List.getElem_cons_zero, List.getElem_cons_succ, List.setIfInBounds_toArray, List.set_cons_zero, List.set_cons_succ]
  refine wpAny_take (i := 30) (v := ?_) rfl (by kernel_rfl) (by kernel_rfl) (by kernel_rfl) (fun c a w h => hpan c a _ _ w h) (Or.inl ⟨by rfl, ?_⟩) ?_
  rotate_left
  · intro w; go_simp; try with_reducible rfl
  simp only [Act.put, List.getElem_toArray, List.getElem_cons_zero, List.getElem_cons_succ, List.setIfInBounds_toArray, List.set_cons_zero, List.set_cons_succ]
  refine wpAny_take (i := 31) (v := ?_) rfl (by kernel_rfl) (by kernel_rfl) (by kernel_rfl) (fun c a w h => hpan c a _ _ w h) (Or.inl ⟨by rfl, ?_⟩) ?_
  rotate_left
  · intro w; go_simp; try with_reducible rfl
  simp only [Act.put, List.getElem_toArray, List.getElem_cons_zero, List.getElem_cons_succ, List.setIfInBounds_toArray, List.set_cons_zero, List.set_cons_succ]
  refine wpAny_take (i := 32) (v := ?_) rfl (by kernel_rfl) (by kernel_rfl) (by kernel_rfl) (fun c a w h => hpan c a _ _ w h) (Or.inl ⟨by rfl, ?_⟩) ?_
  rotate_left
  · intro w; go_simp; try with_reducible rfl
  simp only [Act.put, List.getElem_toArray, List.getElem_cons_zero, List.getElem_cons_succ, List.setIfInBounds_toArray, List.set_cons_zero, List.set_cons_succ]
  refine wpAny_byM (fun L a W => ∃ (t192 t193 t197 t202 t203 t204 t208 t209 t210 t215 t216 t217 t221 t222 t223 t224 t225 : Value) (pA pB : Nat) (W0 : World), a = { tmps := #[.slice (some ⟨b, off, none⟩) m cap, .int .i64 t, undef, undef, .slice none 0 0, .slice none 0 0, .slice none 0 0, .slice (some ⟨vb, vo, none⟩) M vc, u8, u9, u10, u11, u12, u13, u14, u15, u16, u17, u18, u19, u20, undef, u22, u23, undef, u25, .slice (some ⟨b1, 0, none⟩) m m, .slice (some ⟨b2, 0, none⟩) m m, undef, .pointer (some ⟨cb, 0, none⟩), .slice (some ⟨b, off, none⟩) m cap, .int .i64 m, .int .i64 m, u33, u34, u35, u36, u37, u38, u39, u40, u41, u42, u43, u44, u45, u46, u47, u48, u49, u50, u51, u52, u53, u54, u55, u56, u57, u58, u59, u60, u61, u62, u63, u64, u65, u66, u67, u68, u69, u70, u71, u72, u73, u74, u75, u76, u77, u78, u79, u80, u81, u82, u83, u84, u85, u86, u87, u88, u89, .int .i64 t, .int .i64 t, u92, u93, u94, u95, u96, u97, u98, u99, u100, u101, u102, u103, u104, u105, u106, u107, u108, u109, u110, u111, u112, u113, u114, u115, u116, u117, u118, u119, u120, u121, u122, u123, u124, u125, u126, u127, u128, u129, u130, u131, u132, u133, u134, u135, u136, u137, u138, u139, u140, u141, u142, u143, u144, u145, u146, u147, u148, u149, u150, u151, u152, u153, u154, u155, u156, u157, u158, u159, u160, u161, u162, u163, u164, u165, u166, u167, u168, u169, u170, u171, u172, u173, u174, u175, u176, u177, u178, u179, u180, u181, .slice (some ⟨vb, vo, none⟩) M vc, .int .i64 M, .int .i64 q, .bool true, .pointer (some ⟨vb, vo + q, none⟩), .pointer (some ⟨cb, 0, none⟩), .slice (some ⟨b1, 0, none⟩) m m, .pointer (some ⟨cb, 0, none⟩), .pointer (some ⟨cb, 0, none⟩), .pointer (some ⟨cb, 0, none⟩), t192, t193, .pointer (some ⟨cb, 0, none⟩), .pointer (some ⟨cb, 0, none⟩), .pointer (some ⟨cb, 0, none⟩), t197, .slice (some ⟨b1, 0, none⟩) m m, .pointer (some ⟨cb, 0, none⟩), .pointer (some ⟨cb, 0, none⟩), .pointer (some ⟨cb, 0, none⟩), t202, t203, t204, .pointer (some ⟨cb, 0, none⟩), .pointer (some ⟨cb, 0, none⟩), .pointer (some ⟨cb, 2, none⟩), t208, t209, t210, .slice (some ⟨b2, 0, none⟩) m m, .pointer (some ⟨cb, 0, none⟩), .pointer (some ⟨cb, 0, none⟩), .pointer (some ⟨cb, 0, none⟩), t215, t216, t217, .pointer (some ⟨cb, 0, none⟩), .pointer (some ⟨cb, 0, none⟩), .pointer (some ⟨cb, 3, none⟩), t221, t222, t223, t224, t225, u226, u227, u228, u229], defers := [] } ∧ R52 wr m b1 b2 f nn px tx xs ys pv tv (L 4) (L 5) (L 9) (L 14) (L 15) (L 16) (L 20) (L 21) (L 22) (L 27) (L 28) (L 29) (L 33) (L 34) (L 35) (L 36) (L 37) (L 38) (L 39) t192 t193 t197 t202 t203 t204 t208 t209 t210 t215 t216 t217 t221 t222 t223 t224 t225 pA pB W0 W) [4, 5, 9, 14, 15, 16, 20, 21, 22, 27, 28, 29, 33, 34, 35, 36, 37, 38, 39] (by kernel_rfl) (by kernel_rfl) (by decide) ?_ ?_ ?_
  · intro L hL
    have n : ∀ i, i ∈ [4, 5, 9, 14, 15, 16, 20, 21, 22, 27, 28, 29, 33, 34, 35, 36, 37, 38, 39] → L i → False := hL
    refine ⟨u192, u193, u197, u202, u203, u204, u208, u209, u210, u215, u216, u217, u221, u222, u223, u224, u225, 0, 0, wr.drew, rfl, ?_⟩
    exact ⟨fun h => (n 15 (by simp) h).elim, fun h => (n 16 (by simp) h).elim, fun h => (n 21 (by simp) h).elim, fun h => (n 22 (by simp) h).elim, fun h => (n 28 (by simp) h).elim, fun h => (n 29 (by simp) h).elim, fun h => (n 34 (by simp) h).elim, fun h => (n 35 (by simp) h).elim, fun h => (n 36 (by simp) h).elim, fun h => (n 37 (by simp) h).elim, fun h => (n 38 (by simp) h).elim, fun h => (n 39 (by simp) h).elim, fun h => (n 4 (by simp) h).elim, fun h => (n 5 (by simp) h).elim, fun h => (n 9 (by simp) h).elim, fun h => (n 14 (by simp) h).elim, fun h => (n 15 (by simp) h).elim, fun h => (n 16 (by simp) h).elim, fun h => (n 20 (by simp) h).elim, fun h => (n 27 (by simp) h).elim, fun h => (n 28 (by simp) h).elim, fun h => (n 29 (by simp) h).elim, fun h => (n 33 (by simp) h).elim, fun h => (n 36 (by simp) h).elim, fun h => (n 38 (by simp) h).elim, fun h => (n 21 (by simp) h).elim, fun h => (n 34 (by simp) h).elim, fun h => (n 22 (by simp) h).elim, fun h => (n 35 (by simp) h).elim, fun _ => HSP.out _ (Ot.refl _ _).drew, fun _ => HSQ.out _ (Ot.refl _ _).drew, (Ot.refl _ _).drew, fun _ => rfl, fun h => (n 37 (by simp) h).elim, fun h => (n 39 (by simp) h).elim⟩
  · rintro j L a W hj hn hd ⟨t192, t193, t197, t202, t203, t204, t208, t209, t210, t215, t216, t217, t221, t222, t223, t224, t225, pA, pB, W0, rfl, H⟩
    simp only [List.mem_cons, List.not_mem_nil, or_false] at hj
    have HH : Hid (R52 wr m b1 b2 f nn px tx xs ys pv tv (L 4) (L 5) (L 9) (L 14) (L 15) (L 16) (L 20) (L 21) (L 22) (L 27) (L 28) (L 29) (L 33) (L 34) (L 35) (L 36) (L 37) (L 38) (L 39) t192 t193 t197 t202 t203 t204 t208 t209 t210 t215 t216 t217 t221 t222 t223 t224 t225 pA pB W0 W) := H
    clear H
    rcases hj with rfl | rfl | rfl | rfl | rfl | rfl | rfl | rfl | rfl | rfl | rfl | rfl | rfl | rfl | rfl | rfl | rfl | rfl | rfl
    · clear hd
      have H := HH.out
      have n36 : ¬ L 36 := fun h => hn (H.c36 h).1
      have n37 : ¬ L 37 := fun h => n36 (H.c37 h)
      have n38 : ¬ L 38 := fun h => n37 (H.c38 h).1
      have n39 : ¬ L 39 := fun h => n38 (H.c39 h)
      have hw := H.w0 n37
      subst hw
      obtain ⟨s0, s2, s3, s4, s5, s6, s7, s8⟩ := HSS.out _ H.ot
      have HKn : Hid (¬ L 36 ∧ ¬ L 37 ∧ ¬ L 38 ∧ ¬ L 39) := ⟨n36, n37, n38, n39⟩
      clear H n36 n37 n38 n39
      refine wpOp_step rfl (fun K hK => ?_)
      go_simp
      refine hK _ _ ⟨_, t193, t197, t202, t203, t204, t208, t209, t210, t215, t216, t217, t221, t222, t223, t224, t225, pA, pB, W, rfl, ?_⟩
      simp only [Nat.reduceEqDiff, false_or, true_or]
      have H := HH.out
      obtain ⟨n36, n37, n38, n39⟩ := HKn.out
      exact ⟨H.c15, H.c16, H.c21, H.c22, H.c28, H.c29, H.c34, H.c35, fun h => (n36 h).elim, fun h => (n37 h).elim, fun h => (n38 h).elim, fun h => (n39 h).elim, fun _ => by first | rfl | simp, H.f5, H.f9, H.f14, H.f15, H.f16, H.f20, H.f27, H.f28, H.f29, H.f33, fun h => (n36 h).elim, fun h => (n38 h).elim, H.f21, H.f34, H.f22, H.f35, H.s22, H.s35, H.ot, H.w0, fun h => (n37 h).elim, fun h => (n39 h).elim⟩
    · clear hd
      have H := HH.out
      have n38 : ¬ L 38 := fun h => hn (H.c38 h).2.1
      have n39 : ¬ L 39 := fun h => n38 (H.c39 h)
      have HKn : Hid (¬ L 38 ∧ ¬ L 39) := ⟨n38, n39⟩
      clear H n38 n39
      refine wpOp_step rfl (fun K hK => ?_)
      go_simp
      refine hK _ _ ⟨t192, _, t197, t202, t203, t204, t208, t209, t210, t215, t216, t217, t221, t222, t223, t224, t225, pA, pB, W0, rfl, ?_⟩
      simp only [Nat.reduceEqDiff, false_or, true_or]
      have H := HH.out
      obtain ⟨n38, n39⟩ := HKn.out
      exact ⟨H.c15, H.c16, H.c21, H.c22, H.c28, H.c29, H.c34, H.c35, H.c36, H.c37, fun h => (n38 h).elim, fun h => (n39 h).elim, H.f4, fun _ => by first | rfl | simp, H.f9, H.f14, H.f15, H.f16, H.f20, H.f27, H.f28, H.f29, H.f33, H.f36, fun h => (n38 h).elim, H.f21, H.f34, H.f22, H.f35, H.s22, H.s35, H.ot, H.w0, H.w1, fun h => (n39 h).elim⟩
    · clear hd
      have H := HH.out
      have n36 : ¬ L 36 := fun h => hn (H.c36 h).2.1
      have n37 : ¬ L 37 := fun h => n36 (H.c37 h)
      have n38 : ¬ L 38 := fun h => n37 (H.c38 h).1
      have n39 : ¬ L 39 := fun h => n38 (H.c39 h)
      have hw := H.w0 n37
      subst hw
      obtain ⟨s0, s2, s3, s4, s5, s6, s7, s8⟩ := HSS.out _ H.ot
      have HKn : Hid (¬ L 36 ∧ ¬ L 37 ∧ ¬ L 38 ∧ ¬ L 39) := ⟨n36, n37, n38, n39⟩
      clear H n36 n37 n38 n39
      refine wpOp_step rfl (fun K hK => ?_)
      go_simp
      refine hK _ _ ⟨t192, t193, _, t202, t203, t204, t208, t209, t210, t215, t216, t217, t221, t222, t223, t224, t225, pA, pB, W, rfl, ?_⟩
      simp only [Nat.reduceEqDiff, false_or, true_or]
      have H := HH.out
      obtain ⟨n36, n37, n38, n39⟩ := HKn.out
      exact ⟨H.c15, H.c16, H.c21, H.c22, H.c28, H.c29, H.c34, H.c35, fun h => (n36 h).elim, fun h => (n37 h).elim, fun h => (n38 h).elim, fun h => (n39 h).elim, H.f4, H.f5, fun _ => by first | rfl | simp, H.f14, H.f15, H.f16, H.f20, H.f27, H.f28, H.f29, H.f33, fun h => (n36 h).elim, fun h => (n38 h).elim, H.f21, H.f34, H.f22, H.f35, H.s22, H.s35, H.ot, H.w0, fun h => (n37 h).elim, fun h => (n39 h).elim⟩
    · clear hd
      have H := HH.out
      have n15 : ¬ L 15 := fun h => hn (H.c15 h)
      have n16 : ¬ L 16 := fun h => n15 (H.c16 h)
      have n22 : ¬ L 22 := fun h => n16 (H.c22 h).1
      have n35 : ¬ L 35 := fun h => n22 (H.c35 h).2.2
      have n36 : ¬ L 36 := fun h => n35 (H.c36 h).2.2
      have n37 : ¬ L 37 := fun h => n36 (H.c37 h)
      have n38 : ¬ L 38 := fun h => n37 (H.c38 h).1
      have n39 : ¬ L 39 := fun h => n38 (H.c39 h)
      have hw := H.w0 n37
      subst hw
      obtain ⟨s0, s2, s3, s4, s5, s6, s7, s8⟩ := HSS.out _ H.ot
      have HKn : Hid (¬ L 15 ∧ ¬ L 16 ∧ ¬ L 22 ∧ ¬ L 35 ∧ ¬ L 36 ∧ ¬ L 37 ∧ ¬ L 38 ∧ ¬ L 39) := ⟨n15, n16, n22, n35, n36, n37, n38, n39⟩
      clear H n15 n16 n22 n35 n36 n37 n38 n39
      refine wpOp_step rfl (fun K hK => ?_)
      go_simp
      refine hK _ _ ⟨t192, t193, t197, _, t203, t204, t208, t209, t210, t215, t216, t217, t221, t222, t223, t224, t225, pA, pB, W, rfl, ?_⟩
      simp only [Nat.reduceEqDiff, false_or, true_or]
      have H := HH.out
      obtain ⟨n15, n16, n22, n35, n36, n37, n38, n39⟩ := HKn.out
      exact ⟨fun h => (n15 h).elim, fun h => (n16 h).elim, H.c21, fun h => (n22 h).elim, H.c28, H.c29, H.c34, fun h => (n35 h).elim, fun h => (n36 h).elim, fun h => (n37 h).elim, fun h => (n38 h).elim, fun h => (n39 h).elim, H.f4, H.f5, H.f9, fun _ => by first | rfl | simp, fun h => (n15 h).elim, fun h => (n16 h).elim, H.f20, H.f27, H.f28, H.f29, H.f33, fun h => (n36 h).elim, fun h => (n38 h).elim, H.f21, H.f34, fun h => (n22 h).elim, fun h => (n35 h).elim, H.s22, H.s35, H.ot, H.w0, fun h => (n37 h).elim, fun h => (n39 h).elim⟩
    · have l14 : L 14 := hd _ rfl ⟨14, .data⟩ (by simp) rfl
      clear hd
      have H := HH.out
      have n16 : ¬ L 16 := fun h => hn (H.c16 h)
      have n22 : ¬ L 22 := fun h => n16 (H.c22 h).1
      have n35 : ¬ L 35 := fun h => n22 (H.c35 h).2.2
      have n36 : ¬ L 36 := fun h => n35 (H.c36 h).2.2
      have n37 : ¬ L 37 := fun h => n36 (H.c37 h)
      have n38 : ¬ L 38 := fun h => n37 (H.c38 h).1
      have n39 : ¬ L 39 := fun h => n38 (H.c39 h)
      have e14 := H.f14 l14
      subst e14
      have hw := H.w0 n37
      subst hw
      obtain ⟨s0, s2, s3, s4, s5, s6, s7, s8⟩ := HSS.out _ H.ot
      have HKn : Hid (¬ L 16 ∧ ¬ L 22 ∧ ¬ L 35 ∧ ¬ L 36 ∧ ¬ L 37 ∧ ¬ L 38 ∧ ¬ L 39 ∧ L 14) := ⟨n16, n22, n35, n36, n37, n38, n39, l14⟩
      clear H n16 n22 n35 n36 n37 n38 n39 l14
      refine wpOp_step rfl (fun K hK => ?_)
      go_simp
      refine hK _ _ ⟨t192, t193, t197, _, _, t204, t208, t209, t210, t215, t216, t217, t221, t222, t223, t224, t225, pA, pB, W, rfl, ?_⟩
      simp only [Nat.reduceEqDiff, false_or, true_or]
      have H := HH.out
      obtain ⟨n16, n22, n35, n36, n37, n38, n39, l14⟩ := HKn.out
      exact ⟨fun _ => l14, fun h => (n16 h).elim, H.c21, fun h => (n22 h).elim, H.c28, H.c29, H.c34, fun h => (n35 h).elim, fun h => (n36 h).elim, fun h => (n37 h).elim, fun h => (n38 h).elim, fun h => (n39 h).elim, H.f4, H.f5, H.f9, H.f14, fun _ => by first | rfl | simp, fun h => (n16 h).elim, H.f20, H.f27, H.f28, H.f29, H.f33, fun h => (n36 h).elim, fun h => (n38 h).elim, H.f21, H.f34, fun h => (n22 h).elim, fun h => (n35 h).elim, H.s22, H.s35, H.ot, H.w0, fun h => (n37 h).elim, fun h => (n39 h).elim⟩
    · have l15 : L 15 := hd _ rfl ⟨15, .data⟩ (by simp) rfl
      clear hd
      have H := HH.out
      have n22 : ¬ L 22 := fun h => hn (H.c22 h).1
      have n35 : ¬ L 35 := fun h => n22 (H.c35 h).2.2
      have n36 : ¬ L 36 := fun h => n35 (H.c36 h).2.2
      have n37 : ¬ L 37 := fun h => n36 (H.c37 h)
      have n38 : ¬ L 38 := fun h => n37 (H.c38 h).1
      have n39 : ¬ L 39 := fun h => n38 (H.c39 h)
      have e15 := H.f15 l15
      subst e15
      have hw := H.w0 n37
      subst hw
      obtain ⟨s0, s2, s3, s4, s5, s6, s7, s8⟩ := HSS.out _ H.ot
      have HKn : Hid (¬ L 22 ∧ ¬ L 35 ∧ ¬ L 36 ∧ ¬ L 37 ∧ ¬ L 38 ∧ ¬ L 39 ∧ L 15) := ⟨n22, n35, n36, n37, n38, n39, l15⟩
      clear H n22 n35 n36 n37 n38 n39 l15
      refine wpOp_step rfl (fun K hK => ?_)
      go_simp
      refine hK _ _ ⟨t192, t193, t197, t202, _, _, t208, t209, t210, t215, t216, t217, t221, t222, t223, t224, t225, pA, pB, W, rfl, ?_⟩
      simp only [Nat.reduceEqDiff, false_or, true_or]
      have H := HH.out
      obtain ⟨n22, n35, n36, n37, n38, n39, l15⟩ := HKn.out
      exact ⟨H.c15, fun _ => l15, H.c21, fun h => (n22 h).elim, H.c28, H.c29, H.c34, fun h => (n35 h).elim, fun h => (n36 h).elim, fun h => (n37 h).elim, fun h => (n38 h).elim, fun h => (n39 h).elim, H.f4, H.f5, H.f9, H.f14, H.f15, fun _ => by first | rfl | simp, H.f20, H.f27, H.f28, H.f29, H.f33, fun h => (n36 h).elim, fun h => (n38 h).elim, H.f21, H.f34, fun h => (n22 h).elim, fun h => (n35 h).elim, H.s22, H.s35, H.ot, H.w0, fun h => (n37 h).elim, fun h => (n39 h).elim⟩
    · clear hd
      have H := HH.out
      have n21 : ¬ L 21 := fun h => hn (H.c21 h)
      have n22 : ¬ L 22 := fun h => n21 (H.c22 h).2
      have n35 : ¬ L 35 := fun h => n22 (H.c35 h).2.2
      have n36 : ¬ L 36 := fun h => n35 (H.c36 h).2.2
      have n37 : ¬ L 37 := fun h => n36 (H.c37 h)
      have n38 : ¬ L 38 := fun h => n37 (H.c38 h).1
      have n39 : ¬ L 39 := fun h => n38 (H.c39 h)
      have hw := H.w0 n37
      subst hw
      obtain ⟨s0, s2, s3, s4, s5, s6, s7, s8⟩ := HSS.out _ H.ot
      have HKn : Hid (¬ L 21 ∧ ¬ L 22 ∧ ¬ L 35 ∧ ¬ L 36 ∧ ¬ L 37 ∧ ¬ L 38 ∧ ¬ L 39) := ⟨n21, n22, n35, n36, n37, n38, n39⟩
      clear H n21 n22 n35 n36 n37 n38 n39
      refine wpOp_step rfl (fun K hK => ?_)
      go_simp
      refine hK _ _ ⟨t192, t193, t197, t202, t203, t204, _, t209, t210, t215, t216, t217, t221, t222, t223, t224, t225, pA, pB, W, rfl, ?_⟩
      simp only [Nat.reduceEqDiff, false_or, true_or]
      have H := HH.out
      obtain ⟨n21, n22, n35, n36, n37, n38, n39⟩ := HKn.out
      exact ⟨H.c15, H.c16, fun h => (n21 h).elim, fun h => (n22 h).elim, H.c28, H.c29, H.c34, fun h => (n35 h).elim, fun h => (n36 h).elim, fun h => (n37 h).elim, fun h => (n38 h).elim, fun h => (n39 h).elim, H.f4, H.f5, H.f9, H.f14, H.f15, H.f16, fun _ => by first | rfl | simp, H.f27, H.f28, H.f29, H.f33, fun h => (n36 h).elim, fun h => (n38 h).elim, fun h => (n21 h).elim, H.f34, fun h => (n22 h).elim, fun h => (n35 h).elim, H.s22, H.s35, H.ot, H.w0, fun h => (n37 h).elim, fun h => (n39 h).elim⟩
    · have l20 : L 20 := hd _ rfl ⟨20, .data⟩ (by simp) rfl
      clear hd
      have H := HH.out
      have n22 : ¬ L 22 := fun h => hn (H.c22 h).2
      have n35 : ¬ L 35 := fun h => n22 (H.c35 h).2.2
      have n36 : ¬ L 36 := fun h => n35 (H.c36 h).2.2
      have n37 : ¬ L 37 := fun h => n36 (H.c37 h)
      have n38 : ¬ L 38 := fun h => n37 (H.c38 h).1
      have n39 : ¬ L 39 := fun h => n38 (H.c39 h)
      have e20 := H.f20 l20
      subst e20
      have hw := H.w0 n37
      subst hw
      have HKn : Hid (¬ L 22 ∧ ¬ L 35 ∧ ¬ L 36 ∧ ¬ L 37 ∧ ¬ L 38 ∧ ¬ L 39 ∧ L 20) := ⟨n22, n35, n36, n37, n38, n39, l20⟩
      clear H n22 n35 n36 n37 n38 n39 l20
      refine wpOp_step rfl (fun K hK => ?_)
      go_simp
      refine hK _ _ ⟨t192, t193, t197, t202, t203, t204, _, .slice (some ⟨W.heap.size, 0, none⟩) 1 1, t210, t215, t216, t217, t221, t222, t223, t224, t225, W.heap.size, pB, W.alloc (.cells #[.int .i64 px] 3), rfl, ?_⟩
      simp only [Nat.reduceEqDiff, false_or, true_or]
      have H := HH.out
      obtain ⟨n22, n35, n36, n37, n38, n39, l20⟩ := HKn.out
      exact ⟨H.c15, H.c16, fun _ => l20, fun h => (n22 h).elim, H.c28, H.c29, H.c34, fun h => (n35 h).elim, fun h => (n36 h).elim, fun h => (n37 h).elim, fun h => (n38 h).elim, fun h => (n39 h).elim, H.f4, H.f5, H.f9, H.f14, H.f15, H.f16, H.f20, H.f27, H.f28, H.f29, H.f33, fun h => (n36 h).elim, fun h => (n38 h).elim, fun _ => ⟨rfl, H.ot.size, by simp⟩, fun h => ⟨(H.f34 h).1, (H.f34 h).2.1, cell_al (H.f34 h).2.2 _⟩, fun h => (n22 h).elim, fun h => (n35 h).elim, fun h => (H.s22 h).alloc _, fun h => (H.s35 h).alloc _, H.ot.alloc _, fun _ => rfl, fun h => (n37 h).elim, fun h => (n39 h).elim⟩
    · have l16 : L 16 := hd _ rfl ⟨16, .data⟩ (by simp) rfl
      have l21 : L 21 := hd _ rfl ⟨21, .data⟩ (by simp) rfl
      clear hd
      have H := HH.out
      have n35 : ¬ L 35 := fun h => hn (H.c35 h).2.2
      have n36 : ¬ L 36 := fun h => n35 (H.c36 h).2.2
      have n37 : ¬ L 37 := fun h => n36 (H.c37 h)
      have n38 : ¬ L 38 := fun h => n37 (H.c38 h).1
      have n39 : ¬ L 39 := fun h => n38 (H.c39 h)
      have e16 := (H.f16 l16).symm
      subst e16
      have hw := H.w0 n37
      subst hw
      obtain ⟨e21, g1, g2⟩ := H.f21 l21
      subst e21
      have hsz := H.ot.size
      have HKn : Hid (¬ L 35 ∧ ¬ L 36 ∧ ¬ L 37 ∧ ¬ L 38 ∧ ¬ L 39 ∧ L 16 ∧ L 21) := ⟨n35, n36, n37, n38, n39, l16, l21⟩
      clear H n35 n36 n37 n38 n39 l16 l21
      refine wpOp_step rfl (fun K hK => ?_)
      refine step_append_seg _ (by rfl) (.tmp 204) (.tmp 209) 36 (by rfl) 3 i0 (.int .i64 0) 1 8 Tryd.underlying36 hi hz0 hz1 hz2 rfl (by decide) _ nn _ (by rfl) (HH.out.s22 hn) ⟨pA, 0, none⟩ 1 1 [.int .i64 px] (by rfl) rfl (one_at g2) (by simp [Value.oneCell']) (by omega) (by unfold maxLen; omega) (by omega) _ rfl ?_
      intro g off' cp w' hs' hg ha hl'
      refine hK _ _ ⟨t192, t193, t197, t202, t203, _, t208, _, _, t215, t216, t217, t221, t222, t223, t224, t225, pA, pB, w', rfl, ?_⟩
      simp only [Nat.reduceEqDiff, false_or, true_or]
      have H := HH.out
      obtain ⟨n35, n36, n37, n38, n39, l16, l21⟩ := HKn.out
      exact ⟨H.c15, H.c16, H.c21, fun _ => ⟨l16, l21⟩, H.c28, H.c29, H.c34, fun h => (n35 h).elim, fun h => (n36 h).elim, fun h => (n37 h).elim, fun h => (n38 h).elim, fun h => (n39 h).elim, H.f4, H.f5, H.f9, H.f14, H.f15, fun _ => rfl, H.f20, H.f27, H.f28, H.f29, H.f33, fun h => (n36 h).elim, fun h => (n38 h).elim, fun _ => ⟨rfl, g1, hg.cell g2 (HNP.out pA g1)⟩, fun h => ⟨(H.f34 h).1, (H.f34 h).2.1, hg.cell (H.f34 h).2.2 (HNP.out pB (H.f34 h).2.1)⟩, fun _ => ⟨hs', fun k hk => by simp only [Value.ownBlock, Option.some.injEq] at hk; subst hk; rcases ha with h | h; exact Or.inl h; exact Or.inr (by omega)⟩, fun h => (n35 h).elim, fun h => (h trivial).elim, fun h => (H.s35 h).kept (fun b hb => hg.block b ((H.s35 h).lt hb) (fun e => HDQ.out b e.symm hb)), Ot.grown H.ot hg (fun k e => Or.inl (Or.inl e)), fun _ => rfl, fun h => (n37 h).elim, fun h => (n39 h).elim⟩
    · clear hd
      have H := HH.out
      have n28 : ¬ L 28 := fun h => hn (H.c28 h)
      have n29 : ¬ L 29 := fun h => n28 (H.c29 h)
      have n35 : ¬ L 35 := fun h => n29 (H.c35 h).1
      have n36 : ¬ L 36 := fun h => n35 (H.c36 h).2.2
      have n37 : ¬ L 37 := fun h => n36 (H.c37 h)
      have n38 : ¬ L 38 := fun h => n37 (H.c38 h).1
      have n39 : ¬ L 39 := fun h => n38 (H.c39 h)
      have hw := H.w0 n37
      subst hw
      obtain ⟨s0, s2, s3, s4, s5, s6, s7, s8⟩ := HSS.out _ H.ot
      have HKn : Hid (¬ L 28 ∧ ¬ L 29 ∧ ¬ L 35 ∧ ¬ L 36 ∧ ¬ L 37 ∧ ¬ L 38 ∧ ¬ L 39) := ⟨n28, n29, n35, n36, n37, n38, n39⟩
      clear H n28 n29 n35 n36 n37 n38 n39
      refine wpOp_step rfl (fun K hK => ?_)
      go_simp
      refine hK _ _ ⟨t192, t193, t197, t202, t203, t204, t208, t209, t210, _, t216, t217, t221, t222, t223, t224, t225, pA, pB, W, rfl, ?_⟩
      simp only [Nat.reduceEqDiff, false_or, true_or]
      have H := HH.out
      obtain ⟨n28, n29, n35, n36, n37, n38, n39⟩ := HKn.out
      exact ⟨H.c15, H.c16, H.c21, H.c22, fun h => (n28 h).elim, fun h => (n29 h).elim, H.c34, fun h => (n35 h).elim, fun h => (n36 h).elim, fun h => (n37 h).elim, fun h => (n38 h).elim, fun h => (n39 h).elim, H.f4, H.f5, H.f9, H.f14, H.f15, H.f16, H.f20, fun _ => by first | rfl | simp, fun h => (n28 h).elim, fun h => (n29 h).elim, H.f33, fun h => (n36 h).elim, fun h => (n38 h).elim, H.f21, H.f34, H.f22, fun h => (n35 h).elim, H.s22, H.s35, H.ot, H.w0, fun h => (n37 h).elim, fun h => (n39 h).elim⟩
    · have l27 : L 27 := hd _ rfl ⟨27, .data⟩ (by simp) rfl
      clear hd
      have H := HH.out
      have n29 : ¬ L 29 := fun h => hn (H.c29 h)
      have n35 : ¬ L 35 := fun h => n29 (H.c35 h).1
      have n36 : ¬ L 36 := fun h => n35 (H.c36 h).2.2
      have n37 : ¬ L 37 := fun h => n36 (H.c37 h)
      have n38 : ¬ L 38 := fun h => n37 (H.c38 h).1
      have n39 : ¬ L 39 := fun h => n38 (H.c39 h)
      have e27 := H.f27 l27
      subst e27
      have hw := H.w0 n37
      subst hw
      obtain ⟨s0, s2, s3, s4, s5, s6, s7, s8⟩ := HSS.out _ H.ot
      have HKn : Hid (¬ L 29 ∧ ¬ L 35 ∧ ¬ L 36 ∧ ¬ L 37 ∧ ¬ L 38 ∧ ¬ L 39 ∧ L 27) := ⟨n29, n35, n36, n37, n38, n39, l27⟩
      clear H n29 n35 n36 n37 n38 n39 l27
      refine wpOp_step rfl (fun K hK => ?_)
      go_simp
      refine hK _ _ ⟨t192, t193, t197, t202, t203, t204, t208, t209, t210, _, _, t217, t221, t222, t223, t224, t225, pA, pB, W, rfl, ?_⟩
      simp only [Nat.reduceEqDiff, false_or, true_or]
      have H := HH.out
      obtain ⟨n29, n35, n36, n37, n38, n39, l27⟩ := HKn.out
      exact ⟨H.c15, H.c16, H.c21, H.c22, fun _ => l27, fun h => (n29 h).elim, H.c34, fun h => (n35 h).elim, fun h => (n36 h).elim, fun h => (n37 h).elim, fun h => (n38 h).elim, fun h => (n39 h).elim, H.f4, H.f5, H.f9, H.f14, H.f15, H.f16, H.f20, H.f27, fun _ => by first | rfl | simp, fun h => (n29 h).elim, H.f33, fun h => (n36 h).elim, fun h => (n38 h).elim, H.f21, H.f34, H.f22, fun h => (n35 h).elim, H.s22, H.s35, H.ot, H.w0, fun h => (n37 h).elim, fun h => (n39 h).elim⟩
    · have l28 : L 28 := hd _ rfl ⟨28, .data⟩ (by simp) rfl
      clear hd
      have H := HH.out
      have n35 : ¬ L 35 := fun h => hn (H.c35 h).1
      have n36 : ¬ L 36 := fun h => n35 (H.c36 h).2.2
      have n37 : ¬ L 37 := fun h => n36 (H.c37 h)
      have n38 : ¬ L 38 := fun h => n37 (H.c38 h).1
      have n39 : ¬ L 39 := fun h => n38 (H.c39 h)
      have e28 := H.f28 l28
      subst e28
      have hw := H.w0 n37
      subst hw
      obtain ⟨s0, s2, s3, s4, s5, s6, s7, s8⟩ := HSS.out _ H.ot
      have HKn : Hid (¬ L 35 ∧ ¬ L 36 ∧ ¬ L 37 ∧ ¬ L 38 ∧ ¬ L 39 ∧ L 28) := ⟨n35, n36, n37, n38, n39, l28⟩
      clear H n35 n36 n37 n38 n39 l28
      refine wpOp_step rfl (fun K hK => ?_)
      go_simp
      refine hK _ _ ⟨t192, t193, t197, t202, t203, t204, t208, t209, t210, t215, _, _, t221, t222, t223, t224, t225, pA, pB, W, rfl, ?_⟩
      simp only [Nat.reduceEqDiff, false_or, true_or]
      have H := HH.out
      obtain ⟨n35, n36, n37, n38, n39, l28⟩ := HKn.out
      exact ⟨H.c15, H.c16, H.c21, H.c22, H.c28, fun _ => l28, H.c34, fun h => (n35 h).elim, fun h => (n36 h).elim, fun h => (n37 h).elim, fun h => (n38 h).elim, fun h => (n39 h).elim, H.f4, H.f5, H.f9, H.f14, H.f15, H.f16, H.f20, H.f27, H.f28, fun _ => by first | rfl | simp, H.f33, fun h => (n36 h).elim, fun h => (n38 h).elim, H.f21, H.f34, H.f22, fun h => (n35 h).elim, H.s22, H.s35, H.ot, H.w0, fun h => (n37 h).elim, fun h => (n39 h).elim⟩
    · clear hd
      have H := HH.out
      have n34 : ¬ L 34 := fun h => hn (H.c34 h)
      have n35 : ¬ L 35 := fun h => n34 (H.c35 h).2.1
      have n36 : ¬ L 36 := fun h => n35 (H.c36 h).2.2
      have n37 : ¬ L 37 := fun h => n36 (H.c37 h)
      have n38 : ¬ L 38 := fun h => n37 (H.c38 h).1
      have n39 : ¬ L 39 := fun h => n38 (H.c39 h)
      have hw := H.w0 n37
      subst hw
      obtain ⟨s0, s2, s3, s4, s5, s6, s7, s8⟩ := HSS.out _ H.ot
      have HKn : Hid (¬ L 34 ∧ ¬ L 35 ∧ ¬ L 36 ∧ ¬ L 37 ∧ ¬ L 38 ∧ ¬ L 39) := ⟨n34, n35, n36, n37, n38, n39⟩
      clear H n34 n35 n36 n37 n38 n39
      refine wpOp_step rfl (fun K hK => ?_)
      go_simp
      refine hK _ _ ⟨t192, t193, t197, t202, t203, t204, t208, t209, t210, t215, t216, t217, _, t222, t223, t224, t225, pA, pB, W, rfl, ?_⟩
      simp only [Nat.reduceEqDiff, false_or, true_or]
      have H := HH.out
      obtain ⟨n34, n35, n36, n37, n38, n39⟩ := HKn.out
      exact ⟨H.c15, H.c16, H.c21, H.c22, H.c28, H.c29, fun h => (n34 h).elim, fun h => (n35 h).elim, fun h => (n36 h).elim, fun h => (n37 h).elim, fun h => (n38 h).elim, fun h => (n39 h).elim, H.f4, H.f5, H.f9, H.f14, H.f15, H.f16, H.f20, H.f27, H.f28, H.f29, fun _ => by first | rfl | simp, fun h => (n36 h).elim, fun h => (n38 h).elim, H.f21, fun h => (n34 h).elim, H.f22, fun h => (n35 h).elim, H.s22, H.s35, H.ot, H.w0, fun h => (n37 h).elim, fun h => (n39 h).elim⟩
    · have l33 : L 33 := hd _ rfl ⟨33, .data⟩ (by simp) rfl
      clear hd
      have H := HH.out
      have n35 : ¬ L 35 := fun h => hn (H.c35 h).2.1
      have n36 : ¬ L 36 := fun h => n35 (H.c36 h).2.2
      have n37 : ¬ L 37 := fun h => n36 (H.c37 h)
      have n38 : ¬ L 38 := fun h => n37 (H.c38 h).1
      have n39 : ¬ L 39 := fun h => n38 (H.c39 h)
      have e33 := H.f33 l33
      subst e33
      have hw := H.w0 n37
      subst hw
      have HKn : Hid (¬ L 35 ∧ ¬ L 36 ∧ ¬ L 37 ∧ ¬ L 38 ∧ ¬ L 39 ∧ L 33) := ⟨n35, n36, n37, n38, n39, l33⟩
      clear H n35 n36 n37 n38 n39 l33
      refine wpOp_step rfl (fun K hK => ?_)
      go_simp
      refine hK _ _ ⟨t192, t193, t197, t202, t203, t204, t208, t209, t210, t215, t216, t217, _, .slice (some ⟨W.heap.size, 0, none⟩) 1 1, t223, t224, t225, pA, W.heap.size, W.alloc (.cells #[.int .i64 tx] 3), rfl, ?_⟩
      simp only [Nat.reduceEqDiff, false_or, true_or]
      have H := HH.out
      obtain ⟨n35, n36, n37, n38, n39, l33⟩ := HKn.out
      exact ⟨H.c15, H.c16, H.c21, H.c22, H.c28, H.c29, fun _ => l33, fun h => (n35 h).elim, fun h => (n36 h).elim, fun h => (n37 h).elim, fun h => (n38 h).elim, fun h => (n39 h).elim, H.f4, H.f5, H.f9, H.f14, H.f15, H.f16, H.f20, H.f27, H.f28, H.f29, H.f33, fun h => (n36 h).elim, fun h => (n38 h).elim, fun h => ⟨(H.f21 h).1, (H.f21 h).2.1, cell_al (H.f21 h).2.2 _⟩, fun _ => ⟨rfl, H.ot.size, by simp⟩, fun h => ⟨(H.f22 h).1.alloc _, (H.f22 h).2⟩, fun h => (n35 h).elim, fun h => (H.s22 h).alloc _, fun h => (H.s35 h).alloc _, H.ot.alloc _, fun _ => rfl, fun h => (n37 h).elim, fun h => (n39 h).elim⟩
    · have l29 : L 29 := hd _ rfl ⟨29, .data⟩ (by simp) rfl
      have l34 : L 34 := hd _ rfl ⟨34, .data⟩ (by simp) rfl
      have l22 : L 22 := hd _ rfl ⟨22, .chain⟩ (by simp) rfl
      clear hd
      have H := HH.out
      have n36 : ¬ L 36 := fun h => hn (H.c36 h).2.2
      have n37 : ¬ L 37 := fun h => n36 (H.c37 h)
      have n38 : ¬ L 38 := fun h => n37 (H.c38 h).1
      have n39 : ¬ L 39 := fun h => n38 (H.c39 h)
      have e29 := (H.f29 l29).symm
      subst e29
      have hw := H.w0 n37
      subst hw
      obtain ⟨e34, g1, g2⟩ := H.f34 l34
      subst e34
      obtain ⟨h22, k22⟩ := H.f22 l22
      have H22 : Hid (Seg W 3 1 t210 (nn + 1) (xs ++ [.int .i64 px]) ∧ ∀ k, t210.ownBlock = some k → pv.ownBlock = some k ∨ wr.heap.size ≤ k) := ⟨h22, k22⟩
      have hsz := H.ot.size
      clear h22 k22
      have HKn : Hid (¬ L 36 ∧ ¬ L 37 ∧ ¬ L 38 ∧ ¬ L 39 ∧ L 29 ∧ L 34 ∧ L 22) := ⟨n36, n37, n38, n39, l29, l34, l22⟩
      clear H n36 n37 n38 n39 l29 l34 l22
      refine wpOp_step rfl (fun K hK => ?_)
      refine step_append_seg _ (by rfl) (.tmp 217) (.tmp 222) 36 (by rfl) 3 i0 (.int .i64 0) 1 8 Tryd.underlying36 hi hz0 hz1 hz2 rfl (by decide) _ nn _ (by rfl) (HH.out.s35 hn) ⟨pB, 0, none⟩ 1 1 [.int .i64 tx] (by rfl) rfl (one_at g2) (by simp [Value.oneCell']) (by omega) (by unfold maxLen; omega) (by omega) _ rfl ?_
      intro g off' cp w' hs' hg ha hl'
      refine hK _ _ ⟨t192, t193, t197, t202, t203, t204, t208, t209, t210, t215, t216, _, t221, _, _, t224, t225, pA, pB, w', rfl, ?_⟩
      simp only [Nat.reduceEqDiff, false_or, true_or]
      have H := HH.out
      obtain ⟨n36, n37, n38, n39, l29, l34, l22⟩ := HKn.out
      have hz22 : ∀ k, t210.ownBlock = some k → some k ≠ tv.ownBlock := fun k hk e => by rcases H22.out.2 k hk with h' | h'; exact HDQ.out k h' e.symm; exact HNT.out k h' e
      exact ⟨H.c15, H.c16, H.c21, H.c22, H.c28, H.c29, H.c34, fun _ => ⟨l29, l34, l22⟩, fun h => (n36 h).elim, fun h => (n37 h).elim, fun h => (n38 h).elim, fun h => (n39 h).elim, H.f4, H.f5, H.f9, H.f14, H.f15, H.f16, H.f20, H.f27, H.f28, fun _ => rfl, H.f33, fun h => (n36 h).elim, fun h => (n38 h).elim, fun h => ⟨(H.f21 h).1, (H.f21 h).2.1, hg.cell (H.f21 h).2.2 (HNT.out pA (H.f21 h).2.1)⟩, fun _ => ⟨rfl, g1, hg.cell g2 (HNT.out pB g1)⟩, fun h => ⟨H22.out.1.kept (fun b hb => hg.block b (H22.out.1.lt hb) (hz22 b hb)), H22.out.2⟩, fun _ => ⟨hs', fun k hk => by simp only [Value.ownBlock, Option.some.injEq] at hk; subst hk; rcases ha with h | h; exact Or.inl h; exact Or.inr (by omega), fun k hk hk' => by simp only [Value.ownBlock, Option.some.injEq] at hk'; subst hk'; rcases ha with h' | h'; exact hz22 _ hk h'.symm; have := H22.out.1.lt hk; omega⟩, fun h => (h l22).elim, fun h => (h trivial).elim, Ot.grown H.ot hg (fun k e => Or.inl (Or.inr e)), fun _ => rfl, fun h => (n37 h).elim, fun h => (n39 h).elim⟩
    · have l4 : L 4 := hd _ rfl ⟨4, .data⟩ (by simp) rfl
      have l9 : L 9 := hd _ rfl ⟨9, .phase⟩ (by simp) rfl
      have l35 : L 35 := hd _ rfl ⟨35, .phase⟩ (by simp) rfl
      clear hd
      have H := HH.out
      have n37 : ¬ L 37 := fun h => hn (H.c37 h)
      have n38 : ¬ L 38 := fun h => n37 (H.c38 h).1
      have n39 : ¬ L 39 := fun h => n38 (H.c39 h)
      have e4 := H.f4 l4
      subst e4
      have e9 := H.f9 l9
      subst e9
      have hw := H.w0 n37
      subst hw
      obtain ⟨s0, s2, s3, s4, s5, s6, s7, s8⟩ := HSS.out _ H.ot
      have HKn : Hid (¬ L 37 ∧ ¬ L 38 ∧ ¬ L 39 ∧ L 4 ∧ L 9 ∧ L 35) := ⟨n37, n38, n39, l4, l9, l35⟩
      clear H n37 n38 n39 l4 l9 l35
      refine wpOp_step rfl (fun K hK => ?_)
      go_simp
      refine hK _ _ ⟨_, t193, _, t202, t203, t204, t208, t209, t210, t215, t216, t217, t221, t222, t223, _, t225, pA, pB, W, rfl, ?_⟩
      simp only [Nat.reduceEqDiff, false_or, true_or]
      have H := HH.out
      obtain ⟨n37, n38, n39, l4, l9, l35⟩ := HKn.out
      exact ⟨H.c15, H.c16, H.c21, H.c22, H.c28, H.c29, H.c34, H.c35, fun _ => ⟨l4, l9, l35⟩, fun h => (n37 h).elim, fun h => (n38 h).elim, fun h => (n39 h).elim, H.f4, H.f5, H.f9, H.f14, H.f15, H.f16, H.f20, H.f27, H.f28, H.f29, H.f33, fun _ => by first | rfl | simp, fun h => (n38 h).elim, H.f21, H.f34, H.f22, H.f35, H.s22, H.s35, H.ot, H.w0, fun h => (n37 h).elim, fun h => (n39 h).elim⟩
    · have l36 : L 36 := hd _ rfl ⟨36, .data⟩ (by simp) rfl
      clear hd
      have H := HH.out
      have n38 : ¬ L 38 := fun h => hn (H.c38 h).1
      have n39 : ¬ L 39 := fun h => n38 (H.c39 h)
      have e36 := H.f36 l36
      subst e36
      have l22 := (H.c35 (H.c36 l36).2.2).2.2
      have hw := H.w0 hn
      subst hw
      obtain ⟨s0, s2, s3, s4, s5, s6, s7, s8⟩ := HSS.out _ H.ot
      obtain ⟨g, go, gc, e2, _⟩ := (H.f22 l22).1.some (by omega)
      subst e2
      have HKn : Hid (¬ L 38 ∧ ¬ L 39 ∧ L 36) := ⟨n38, n39, l36⟩
      clear H l22 n38 n39 l36
      refine wpOp_step rfl (fun K hK => ?_)
      go_simp
      refine hK _ _ ⟨t192, t193, t197, t202, t203, t204, t208, t209, _, t215, t216, t217, t221, t222, t223, _, t225, pA, pB, W, rfl, ?_⟩
      simp only [Nat.reduceEqDiff, false_or, true_or]
      have H := HH.out
      obtain ⟨n38, n39, l36⟩ := HKn.out
      exact ⟨H.c15, H.c16, H.c21, H.c22, H.c28, H.c29, H.c34, H.c35, H.c36, fun _ => l36, fun h => (n38 h).elim, fun h => (n39 h).elim, H.f4, H.f5, H.f9, H.f14, H.f15, H.f16, H.f20, H.f27, H.f28, H.f29, H.f33, fun _ => rfl, fun h => (n38 h).elim, H.f21, H.f34, H.f22, H.f35, H.s22, H.s35, H.ot, fun h => (h trivial).elim, fun _ _ => rfl, fun h => (n39 h).elim⟩
    · have l37 : L 37 := hd _ rfl ⟨37, .phase⟩ (by simp) rfl
      have l5 : L 5 := hd _ rfl ⟨5, .data⟩ (by simp) rfl
      have l9 : L 9 := hd _ rfl ⟨9, .data⟩ (by simp) rfl
      clear hd
      have H := HH.out
      have n39 : ¬ L 39 := fun h => hn (H.c39 h)
      have e5 := H.f5 l5
      subst e5
      have e9 := H.f9 l9
      subst e9
      have HKn : Hid (¬ L 39 ∧ L 37 ∧ L 5 ∧ L 9) := ⟨n39, l37, l5, l9⟩
      clear H n39 l37 l5 l9
      refine wpOp_step rfl (fun K hK => ?_)
      go_simp
      refine hK _ _ ⟨t192, _, _, t202, t203, t204, t208, t209, t210, t215, t216, t217, t221, t222, t223, t224, _, pA, pB, W0, rfl, ?_⟩
      simp only [Nat.reduceEqDiff, false_or, true_or]
      have H := HH.out
      obtain ⟨n39, l37, l5, l9⟩ := HKn.out
      exact ⟨H.c15, H.c16, H.c21, H.c22, H.c28, H.c29, H.c34, H.c35, H.c36, H.c37, fun _ => ⟨l37, l5, l9⟩, fun h => (n39 h).elim, H.f4, H.f5, H.f9, H.f14, H.f15, H.f16, H.f20, H.f27, H.f28, H.f29, H.f33, H.f36, fun _ => by first | rfl | simp, H.f21, H.f34, H.f22, H.f35, H.s22, H.s35, H.ot, H.w0, H.w1, fun h => (n39 h).elim⟩
    · have l38 : L 38 := hd _ rfl ⟨38, .data⟩ (by simp) rfl
      clear hd
      have H := HH.out
      have e38 := H.f38 l38
      subst e38
      have l37 := (H.c38 l38).1
      have hw := H.w1 l37 hn
      subst hw
      obtain ⟨s0, s2, s3, s4, s5, s6, s7, s8⟩ := HSS.out _ H.ot
      have s9 : (W0.setCell ⟨b1, f, none⟩ t210).cell? ⟨b2, f, none⟩ = some tv := (World.cell?_of_block (w := W0) (a := ⟨b2, f, none⟩) (Below.heap_setCell _ _ _ _ HNE.out)).trans s5
      have hb2 : (W0.setCell ⟨b1, f, none⟩ t210).heap[b2]? = W0.heap[b2]? := Below.heap_setCell _ _ _ _ HNE.out
      have s10 : (W0.setCell ⟨b1, f, none⟩ t210).frozen? ⟨b2, f, none⟩ = false := by have e := s7; simp only [World.frozen?] at e ⊢; rw [hb2]; exact e
      obtain ⟨g, go, gc, e2, _⟩ := (H.f35 (H.c36 (H.c37 l37)).2.2).1.some (by omega)
      subst e2
      have HKn : Hid (L 38) := l38
      clear H l37 l38
      refine wpOp_step rfl (fun K hK => ?_)
      go_simp
      refine hK _ _ ⟨t192, t193, t197, t202, t203, t204, t208, t209, t210, t215, t216, t217, t221, t222, _, t224, _, pA, pB, W0, rfl, ?_⟩
      simp only [Nat.reduceEqDiff, false_or, true_or]
      have H := HH.out
      have l38 := HKn.out
      exact ⟨H.c15, H.c16, H.c21, H.c22, H.c28, H.c29, H.c34, H.c35, H.c36, H.c37, H.c38, fun _ => l38, H.f4, H.f5, H.f9, H.f14, H.f15, H.f16, H.f20, H.f27, H.f28, H.f29, H.f33, H.f36, fun _ => rfl, H.f21, H.f34, H.f22, H.f35, H.s22, H.s35, H.ot, fun h => (h (H.c38 l38).1).elim, fun _ h => (h trivial).elim, fun _ => rfl⟩
  · rintro L a W hL ⟨t192, t193, t197, t202, t203, t204, t208, t209, t210, t215, t216, t217, t221, t222, t223, t224, t225, pA, pB, W0, rfl, H⟩
    have hw := H.w2 (hL 39 (by simp))
    obtain ⟨h22, k22⟩ := H.f22 (hL 22 (by simp))
    obtain ⟨h35, k35, ne35⟩ := H.f35 (hL 35 (by simp))
    have hot := H.ot
    clear H hL
    subst hw
    obtain ⟨PV', TV', hp, ho⟩ := HFIN.out _ _ _ h22 h35 hot k22 k35 ne35
    exact hQ t192 t193 t197 t202 t203 t204 t208 t209 t210 t215 t216 t217 t221 t222 t223 t224 t225 _ _ _ hp ho
end Go.Proofs.YtnaooocmggnojaaDoor
