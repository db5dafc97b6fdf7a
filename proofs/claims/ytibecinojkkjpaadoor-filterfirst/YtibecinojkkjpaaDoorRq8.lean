/-
  The law FilterFirst, walked: the first of several filters that means a packet is what the reference tells. Conditions: what the program and the reference lay is laid.
-/
import Derived.Test.YtibecinojkkjpaaDoorRq6
import Derived.Test.YtibecinojkkjpaaDoorRq7
import Derived.BigQuiet
namespace Go.Proofs.YtibecinojkkjpaaDoor
open Go.RowKit Go.Extern.Stop Go.Stop Go.Extern

theorem below_drewN8 (B : Nat) (w : World) (n : Nat) : Below B w (w.drewN n) := ⟨rfl, rfl, rfl, Nat.le_refl _, fun _ _ => rfl⟩
theorem GrO.after {wA wr wc w3 : World} {pv : Value} {os : List (Option Ft)} {vs : List Value} (h : GrO wA pv os vs wr) (hbc : Below wr.heap.size wr wc) {g goff gcap : Nat} {y0 : Option Ft} {fv : Value} {o : Obj} (ht : (y0 = none ∧ fv = .nilIface) ∨ ∃ t, y0 = some t ∧ nd 20 t ≤ 100000 ∧ FAt wc (fun k => wr.heap.size ≤ k) 20 t fv)
    (hsg : Seg w3 31 1 (.slice (some ⟨g, goff, none⟩) (os.length + 1) gcap) (os.length + 1) (vs ++ [fv])) (hg : (wc.alloc o).grownBy w3 pv.ownBlock) (ha : pv.ownBlock = some g ∨ (wc.alloc o).heap.size ≤ g) :
    GrO wA (.slice (some ⟨g, goff, none⟩) (os.length + 1) gcap) (os ++ [y0]) (vs ++ [fv]) w3 ∧ ∀ k, (k < wA.heap.size ∨ wr.heap.size ≤ k) → k < wc.heap.size → w3.heap[k]? = wc.heap[k]? := by
  refine ⟨h.step hbc ht hsg hg ha, fun k h1 h2 => (hg.block k (by simp; omega) (fun e => ?_)).trans (Below.heap_alloc _ _ _ h2)⟩
  have a1 := h.own k e.symm
  have a2 := h.seg.lt e.symm
  omega
set_option maxRecDepth 100000 in
set_option maxHeartbeats 8000000 in
theorem firstLaw_any (ss : List ByteArray) (a : Option Addr) (cap : Nat) (x : It) (w : World) (hs : ∀ (i : Nat) s, ss[i]? = some s → ∃ b off, a = some ⟨b, off, none⟩ ∧ w.cell? ⟨b, off + i, none⟩ = some (.string s)) (hl0 : ss.length ≤ maxLen) (hz : ∀ s ∈ ss, s.size ≤ maxLen) (hG : GlobF w) (hR : GlobR w) (hF : ∀ w', Below w.heap.size w w' → GFine w') :
    Calls Tryd.prog 4 #[.slice a ss.length cap, .agg #[.int .i64 x.a, .int .i64 x.l, .int .i64 x.f, .int .i64 x.b, .int .i64 x.m]] w fun e w' => e = .returned (.bool true) ∧ Below w.heap.size w w' := by
  have HPA : Hid (∀ s : ByteArray, ∀ w1, Below w.heap.size w w1 → Calls Tryd.prog 6 #[.string s] w1 fun e w' => Below w1.heap.size w1 w' ∧ ((∃ t fv, parseF s.data.toList = some t ∧ e = .returned (.tuple #[fv, .nilIface]) ∧ FAt w' (fun k => w1.heap.size ≤ k) 20 t fv) ∨ (parseF s.data.toList = none ∧ ∃ ty p, e = .returned (.tuple #[.nilIface, .iface ty p])))) := fun s w1 h => fparse_some s w1 (hG.below h)
  have HPR : Hid (∀ s : ByteArray, s.size ≤ 2000 → ∀ w1, Below w.heap.size w w1 → Calls Tryd.prog 5 #[.string s] w1 fun e w' => Below w1.heap.size w1 w' ∧ ((∃ t tb, parseG s.data.toList = .ok t ∧ e = .returned (.tuple #[.pointer (some ⟨tb, 0, none⟩), .agg #[.int .i64 0, .int .i64 (-1)]]) ∧ RfAt w' (fun k => w1.heap.size ≤ k) 20 t tb) ∨ (∃ (c : Int) (q : Nat) (x : Option Addr), parseG s.data.toList = .error (c, q) ∧ c ≠ 0 ∧ e = .returned (.tuple #[.pointer x, .agg #[.int .i64 c, .int .i64 q]])))) := fun s h0 w1 h => rparse_any s w1 h0 (hR.below h) (fun w' h' => hF w' (h.trans (h'.mono h.size)))
  have HS : Hid (∀ (i : Nat), i < ss.length → ∃ (s : ByteArray) (b off : Nat), ss[i]? = some s ∧ a = some ⟨b, off, none⟩ ∧ b < w.heap.size ∧ s.size ≤ maxLen ∧ ∀ w1, Below w.heap.size w w1 → w1.cell? ⟨b, off + i, none⟩ = some (.string s)) := by
    intro i hi
    obtain ⟨b, off, e, hc⟩ := hs i _ (List.getElem?_eq_getElem hi)
    exact ⟨_, b, off, List.getElem?_eq_getElem hi, e, cell_lt1 hc, hz _ (List.getElem_mem hi), fun w1 hb => (hb.cell (p := ⟨b, off + i, none⟩) (cell_lt1 hc)).trans hc⟩
  obtain ⟨i0, hi0, hz0, hz1, hz2⟩ := info_parts infoFilter
  have hl1 : (ss.length : Int) ≤ 9223372036854775807 := by unfold maxLen at hl0; omega
  clear hG hR hF hs hl0 hz
  by_cases h10 : 10 < ss.length
  · obtain ⟨xa, xl, xf, xb, xm⟩ := x
    have d1 : decide ((10 : Int) < (ss.length : Int)) = true := by simp; omega
    go_enter Tryd.func4, Tryd.ntmps4
    go_wp2
    go_ret
    exact ⟨rfl, below_alloc_ (Below.refl _ _) _⟩
  · have d1 : decide ((10 : Int) < (ss.length : Int)) = false := by simp; omega
    have HRM : Hid (∀ (t : Ft) (tb : Nat) (w0 : World) (S : Nat → Prop), RfAt w0 S 20 t tb → nd 20 t ≤ 100000 → ∀ w1, Below w0.heap.size w0 w1 → Calls Tryd.prog 7 #[.pointer (some ⟨tb, 0, none⟩), .agg #[.int .i64 x.a, .int .i64 x.l, .int .i64 x.f, .int .i64 x.b, .int .i64 x.m]] w1 fun e w' => e = .returned (.bool (hitO x (some t))) ∧ Below w1.heap.size w1 w') := fun t tb w0 S h1 h2 w1 h3 => rmeant_at x w0 S 20 t tb h1 h2 w1 h3
    have HFO : Hid (∀ {y : Option Addr} {c : Nat} {os : List (Option Ft)} {vs : List Value} {w0 : World} (w1 : World), GrO w0 (.slice y os.length c) os vs w1 → os.length ≤ 100 → Calls Tryd.prog 8 #[.slice y os.length c, .agg #[.int .i64 x.a, .int .i64 x.l, .int .i64 x.f, .int .i64 x.b, .int .i64 x.m]] w1 fun e w' => ∃ r : Int, e = .returned (.int .i64 r) ∧ FirstR (os.map (hitO x)) r ∧ Below w1.heap.size w1 w') := fun w1 h1 h2 => firstO_any x w1 h1 h2
    have HNN : Hid (hitO x none = false) := rfl
    obtain ⟨xa, xl, xf, xb, xm⟩ := x
    simp only at HRM HFO ⊢
    generalize hitO ⟨xa, xl, xf, xb, xm⟩ = me at *
    go_enter Tryd.func4, Tryd.ntmps4
    go_wp2_with fail
    have HBA : Hid (Below w.heap.size w (w.alloc (.cells #[.int .i64 xa, .int .i64 xl, .int .i64 xf, .int .i64 xb, .int .i64 xm] 23))) := below_alloc_ (Below.refl _ _) _
    have HKX : Hid ((w.alloc (.cells #[.int .i64 xa, .int .i64 xl, .int .i64 xf, .int .i64 xb, .int .i64 xm] 23)).heap[w.heap.size]? = some (.cells #[.int .i64 xa, .int .i64 xl, .int .i64 xf, .int .i64 xb, .int .i64 xm] 23 (0, 0))) := new_block _ _
    generalize w.alloc (.cells #[.int .i64 xa, .int .i64 xl, .int .i64 xf, .int .i64 xb, .int .i64 xm] 23) = wA at *
    go_loopg [5, 6, 7] ss.length (fun g v5 v6 v7 wx => ∃ (i : Nat) (os : List (Option Ft)) (vs : List Value) (n : Int), i + g = ss.length ∧ os.length = i ∧ v7 = .int .i64 i ∧ v6 = .int .i64 n ∧ FirstR (os.map me) n ∧ Hid (GrO wA v5 os vs wx))
    case atStart => exact ⟨0, [], [], -1, by omega, rfl, rfl, rfl, FirstR.nil, GrO.start wA⟩
    case round =>
      obtain ⟨i, os, vs, n, hig, hoi, rfl, rfl, hfr, HGR⟩ := hrel
      have HFR : Hid (FirstR (os.map me) n) := hfr
      have HOI : Hid (os.length = i) := hoi
      have hob : os.length ≤ 10 := by omega
      have HBR : Hid (Below w.heap.size w wr) := HBA.out.trans (HGR.out.below.mono HBA.out.size)
      obtain ⟨x0, x1, x2, x3, x4⟩ := cells5 ((HGR.out.below.block w.heap.size (lt_of_block HKX.out)).trans HKX.out)
      obtain ⟨ya, ca, hu5⟩ := HGR.out.form
      have HU5 : Hid (u5 = .slice ya os.length ca) := hu5
      clear hfr hu5 hoi
      by_cases hi : i < ss.length
      · obtain ⟨s, b, off, hsi, rfl, hbl, hsz, hcell⟩ := HS.out i hi
        have q0 := hcell wr HBR.out
        have hi1 : (i : Int) < (ss.length : Int) := by omega
        unfold maxLen at hsz
        by_cases h500 : 500 < s.size
        · have d2 : decide ((500 : Int) < (s.size : Int)) = true := by simp; omega
          clear hcell x0 x1 x2 x3 x4
          go_wp2
          go_ret
          exact ⟨rfl, HBR.out⟩
        · have d2 : decide ((500 : Int) < (s.size : Int)) = false := by simp; omega
          have HFG : Hid (∀ t, parseG s.data.toList = .ok t → parseF s.data.toList = some t) := fun t h => parseF_of_G (by have : s.data.toList.length = s.size := Array.length_toList; omega) h
          have HGF : Hid (∀ t, parseF s.data.toList = some t → parseG s.data.toList = .ok t) := fun t h => (parseF_ok h).2
          have HND : Hid (∀ t, parseF s.data.toList = some t → nd 20 t ≤ 100000) := fun t h => by have : s.data.toList.length = s.size := Array.length_toList; have := parse_nd2 h; omega
          have HCE : Hid (∀ w1, Below w.heap.size w w1 → w1.cell? ⟨b, off + i, none⟩ = some (.string s)) := hcell
          clear hcell hsi
          go_wp2_with fail
          refine (HPR.out s (by omega) _ HBR.out).mono ?_
          rintro e w1 ⟨hb1, hres⟩
          have HB1 : Hid (Below wr.heap.size wr w1) := hb1
          have HBW1 : Hid (Below w.heap.size w w1) := HBR.out.trans (hb1.mono HBR.out.size)
          clear hb1 q0 x0 x1 x2 x3 x4
          rcases hres with ⟨t, tb, hpg, rfl, hrf⟩ | ⟨c, q, px, hpg, hcn, rfl⟩
          · have hpf := HFG.out t hpg
            have hnd := HND.out t hpf
            have HPF : Hid (parseF s.data.toList = some t) := hpf
            have HRT : Hid (RfAt w1 (fun k => wr.heap.size ≤ k) 20 t tb) := hrf
            have q1 := HCE.out _ (HBW1.out.trans ((below_alloc_ (Below.refl w1.heap.size w1) (.cells #[.int .i64 0, .int .i64 (-1)] 27)).mono HBW1.out.size))
            clear hrf hpf hpg
            go_wp2_with fail
            refine (HPA.out s _ (by exact HBW1.out.trans ((below_alloc_ (Below.refl _ _) _).mono HBW1.out.size))).mono ?_
            rintro e w2 ⟨hb2, ⟨t', fv, hpf2, rfl, hfa⟩ | ⟨hpf2, ty, p, rfl⟩⟩
            · obtain rfl : t' = t := Option.some.inj (hpf2.symm.trans HPF.out)
              obtain ⟨fty, frv, rfl⟩ := hfa.form
              have hbA1 : Below w1.heap.size w1 (w1.alloc (.cells #[.int .i64 0, .int .i64 (-1)] 27)) := below_alloc_ (Below.refl _ _) _
              have hb12 : Below w1.heap.size w1 w2 := hbA1.trans (hb2.mono hbA1.size)
              have kf : w2.heap[w1.heap.size]? = some (.cells #[.int .i64 0, .int .i64 (-1)] 27 (0, 0)) := (hb2.block w1.heap.size (by simp)).trans (new_block _ _)
              have HFA : Hid (FAt w2 (fun k => wr.heap.size ≤ k) 20 t' (.iface fty frv)) := hfa.sub fun k hk => Nat.le_trans (Nat.le_trans HB1.out.size hbA1.size) hk
              have HB2 : Hid (Below wr.heap.size wr w2) := HB1.out.trans (hb12.mono HB1.out.size)
              have HKF : Hid (w2.heap[w1.heap.size]? = some (.cells #[.int .i64 0, .int .i64 (-1)] 27 (0, 0))) := kf
              have f0 : w2.cell? ⟨w1.heap.size, 0, none⟩ = some (.int .i64 0) := by simp [World.cell?, kf]
              have HB12 : Hid (Below w1.heap.size w1 w2) := hb12
              clear hfa hb12 hb2 hbA1 q1 kf hpf2
              go_upto_region 12 with (fail)
              go_cut [48] (fun v wx => v = .bool false ∧ Below w2.heap.size w2 wx)
              case first =>
                go_wp2
                go_quiet (fail)
                all_goals go_wp2
                all_goals
                  go_meet
                  case rel => exact ⟨rfl, below_drewN8 _ _ _⟩
              case rest =>
              obtain ⟨rfl, hbc⟩ := hcut
              have HBC : Hid (Below wr.heap.size wr wc) := HB2.out.trans (hbc.mono HB2.out.size)
              have HS2 : Hid (Seg wc 31 1 u5 os.length vs) := (HGR.out.belowed HBC.out).seg
              have HKC : Hid (wc.heap[w1.heap.size]? = some (.cells #[.int .i64 0, .int .i64 (-1)] 27 (0, 0))) := (hbc.block w1.heap.size (lt_of_block HKF.out)).trans HKF.out
              have HXC : Hid (wc.heap[w.heap.size]? = some (.cells #[.int .i64 xa, .int .i64 xl, .int .i64 xf, .int .i64 xb, .int .i64 xm] 23 (0, 0))) := (HBC.out.block w.heap.size (Nat.lt_of_lt_of_le (lt_of_block HKX.out) HGR.out.below.size)).trans ((HGR.out.below.block w.heap.size (lt_of_block HKX.out)).trans HKX.out)
              have HFC : Hid (FAt wc (fun k => wr.heap.size ≤ k) 20 t' (.iface fty frv)) := HFA.out.below hbc
              have HRC : Hid (RfAt wc (fun k => wr.heap.size ≤ k) 20 t' tb) := (HRT.out.below HB12.out).below hbc
              clear hbc f0
              by_cases hn0 : n < 0
              · have d4 : decide (n < 0) = true := by simpa using hn0
                go_wp2_with (at_builtin; refine wpList_append_seg _ rfl (.tmp 49) (.tmp 51) 39 rfl 31 i0 _ 1 16 Tryd.underlying39 hi0 hz0 hz1 hz2 rfl (by decide) _ _ _ rfl (HS2.out.below (by repeat' (first | with_reducible exact Below.refl _ _ | with_reducible refine Below.drew ?_ | with_reducible refine below_alloc_ ?_ _))) _ 1 1 _ rfl rfl (news_of (new_block_ (by simp))) (by simp [Value.oneCell']) (by decide) (by unfold maxLen; omega) (by omega) _ rfl ?_; intro g goff gcap w3 hs3 hg3 ha3 hl3; obtain ⟨hgr3, hk3⟩ := HGR.out.after HBC.out (Or.inr ⟨t', rfl, hnd, HFC.out⟩) hs3 hg3 ha3; have HG3 : Hid (GrO wA (.slice (some ⟨g, goff, none⟩) (os.length + 1) gcap) (os ++ [some t']) (vs ++ [.iface fty frv]) w3) := hgr3; have f0 : w3.cell? ⟨w1.heap.size, 0, none⟩ = some (.int .i64 0) := (by have hh := (hk3 w1.heap.size (Or.inr HB1.out.size) (lt_of_block HKC.out)).trans HKC.out; simp [World.cell?, hh]); obtain ⟨x0, x1, x2, x3, x4⟩ := cells5 ((hk3 w.heap.size (Or.inl (lt_of_block HKX.out)) (lt_of_block HXC.out)).trans HXC.out); have HRM3 : Hid (Calls Tryd.prog 7 #[.pointer (some ⟨tb, 0, none⟩), .agg #[.int .i64 xa, .int .i64 xl, .int .i64 xf, .int .i64 xb, .int .i64 xm]] w3 fun e w' => e = .returned (.bool (me (some t'))) ∧ Below w3.heap.size w3 w') := HRM.out t' tb w3 _ (HRC.out.kept fun k h1 h2 => ⟨hk3 k (Or.inr h1) h2, h1⟩) hnd w3 (Below.refl _ _); clear hs3 hg3 ha3 hl3 hgr3 hk3)
                refine HRM3.out.mono ?_
                rintro e w4 ⟨rfl, hb4⟩
                have HG4 : Hid (GrO wA (.slice (some ⟨g, goff, none⟩) (os.length + 1) gcap) (os ++ [some t']) (vs ++ [.iface fty frv]) w4) := HG3.out.belowed hb4
                cases hmt : me (some t')
                · have HFN : Hid (FirstR ((os ++ [some t']).map me) n) := by show FirstR _ _; rw [List.map_append, List.map_singleton, hmt]; exact HFR.out.kept _ (fun _ => rfl)
                  go_wp2
                  go_roundg (gk - 1)
                  case measure => omega
                  case rel => exact ⟨i + 1, os ++ [some t'], vs ++ [.iface fty frv], n, by omega, by have := HOI.out; simp; omega, by go_num, rfl, HFN.out, HG4⟩
                · have HFN : Hid (FirstR ((os ++ [some t']).map me) i) := by
                    show FirstR _ _
                    rw [List.map_append, List.map_singleton, hmt]
                    have := HFR.out.here hn0
                    rw [List.length_map, HOI.out] at this
                    exact this
                  go_wp2
                  go_roundg (gk - 1)
                  case measure => omega
                  case rel => exact ⟨i + 1, os ++ [some t'], vs ++ [.iface fty frv], i, by omega, by have := HOI.out; simp; omega, by go_num, rfl, HFN.out, HG4⟩
              · have d4 : decide (n < 0) = false := by simpa using hn0
                have HFN : Hid (FirstR ((os ++ [some t']).map me) n) := by show FirstR _ _; rw [List.map_append, List.map_singleton]; exact HFR.out.kept _ (fun h => absurd h hn0)
                go_wp2_with (at_builtin; refine wpList_append_seg _ rfl (.tmp 49) (.tmp 51) 39 rfl 31 i0 _ 1 16 Tryd.underlying39 hi0 hz0 hz1 hz2 rfl (by decide) _ _ _ rfl (HS2.out.below (by repeat' (first | with_reducible exact Below.refl _ _ | with_reducible refine Below.drew ?_ | with_reducible refine below_alloc_ ?_ _))) _ 1 1 _ rfl rfl (news_of (new_block_ (by simp))) (by simp [Value.oneCell']) (by decide) (by unfold maxLen; omega) (by omega) _ rfl ?_; intro g goff gcap w3 hs3 hg3 ha3 hl3; obtain ⟨hgr3, hk3⟩ := HGR.out.after HBC.out (Or.inr ⟨t', rfl, hnd, HFC.out⟩) hs3 hg3 ha3; have HG3 : Hid (GrO wA (.slice (some ⟨g, goff, none⟩) (os.length + 1) gcap) (os ++ [some t']) (vs ++ [.iface fty frv]) w3) := hgr3; have f0 : w3.cell? ⟨w1.heap.size, 0, none⟩ = some (.int .i64 0) := (by have hh := (hk3 w1.heap.size (Or.inr HB1.out.size) (lt_of_block HKC.out)).trans HKC.out; simp [World.cell?, hh]); obtain ⟨x0, x1, x2, x3, x4⟩ := cells5 ((hk3 w.heap.size (Or.inl (lt_of_block HKX.out)) (lt_of_block HXC.out)).trans HXC.out); have HRM3 : Hid (Calls Tryd.prog 7 #[.pointer (some ⟨tb, 0, none⟩), .agg #[.int .i64 xa, .int .i64 xl, .int .i64 xf, .int .i64 xb, .int .i64 xm]] w3 fun e w' => e = .returned (.bool (me (some t'))) ∧ Below w3.heap.size w3 w') := HRM.out t' tb w3 _ (HRC.out.kept fun k h1 h2 => ⟨hk3 k (Or.inr h1) h2, h1⟩) hnd w3 (Below.refl _ _); clear hs3 hg3 ha3 hl3 hgr3 hk3)
                go_roundg (gk - 1)
                case measure => omega
                case rel => exact ⟨i + 1, os ++ [some t'], vs ++ [.iface fty frv], n, by omega, by have := HOI.out; simp; omega, by go_num, rfl, HFN.out, HG3⟩
            · exact absurd (hpf2.symm.trans HPF.out) (by simp)
          · have d3 : (c == 0) = false := by simpa using hcn
            have HPG : Hid (parseG s.data.toList = .error (c, q)) := hpg
            have q1 := HCE.out _ (HBW1.out.trans ((below_alloc_ (Below.refl w1.heap.size w1) (.cells #[.int .i64 c, .int .i64 ((q : Nat) : Int)] 27)).mono HBW1.out.size))
            clear hpg
            go_wp2_with fail
            refine (HPA.out s _ (by exact HBW1.out.trans ((below_alloc_ (Below.refl _ _) _).mono HBW1.out.size))).mono ?_
            rintro e w2 ⟨hb2, ⟨t', fv, hpf2, rfl, hfa⟩ | ⟨hpf2, ty, p, rfl⟩⟩
            · exact absurd ((HGF.out t' hpf2).symm.trans HPG.out) (by simp)
            · have hbA1 : Below w1.heap.size w1 (w1.alloc (.cells #[.int .i64 c, .int .i64 ((q : Nat) : Int)] 27)) := below_alloc_ (Below.refl _ _) _
              have hb12 : Below w1.heap.size w1 w2 := hbA1.trans (hb2.mono hbA1.size)
              have kf : w2.heap[w1.heap.size]? = some (.cells #[.int .i64 c, .int .i64 ((q : Nat) : Int)] 27 (0, 0)) := (hb2.block w1.heap.size (by simp)).trans (new_block _ _)
              have HB2 : Hid (Below wr.heap.size wr w2) := HB1.out.trans (hb12.mono HB1.out.size)
              have HKF : Hid (w2.heap[w1.heap.size]? = some (.cells #[.int .i64 c, .int .i64 ((q : Nat) : Int)] 27 (0, 0))) := kf
              have f0 : w2.cell? ⟨w1.heap.size, 0, none⟩ = some (.int .i64 c) := by simp [World.cell?, kf]
              clear hb12 hb2 hbA1 q1 kf hpf2
              go_upto_region 12 with (fail)
              go_cut [48] (fun v wx => v = .bool false ∧ Below w2.heap.size w2 wx)
              case first =>
                go_wp2
                go_quiet (fail)
                all_goals go_wp2
                all_goals
                  go_meet
                  case rel => exact ⟨rfl, below_drewN8 _ _ _⟩
              case rest =>
              obtain ⟨rfl, hbc⟩ := hcut
              have HBC : Hid (Below wr.heap.size wr wc) := HB2.out.trans (hbc.mono HB2.out.size)
              have HS2 : Hid (Seg wc 31 1 u5 os.length vs) := (HGR.out.belowed HBC.out).seg
              have HKC : Hid (wc.heap[w1.heap.size]? = some (.cells #[.int .i64 c, .int .i64 ((q : Nat) : Int)] 27 (0, 0))) := (hbc.block w1.heap.size (lt_of_block HKF.out)).trans HKF.out
              have HXC : Hid (wc.heap[w.heap.size]? = some (.cells #[.int .i64 xa, .int .i64 xl, .int .i64 xf, .int .i64 xb, .int .i64 xm] 23 (0, 0))) := (HBC.out.block w.heap.size (Nat.lt_of_lt_of_le (lt_of_block HKX.out) HGR.out.below.size)).trans ((HGR.out.below.block w.heap.size (lt_of_block HKX.out)).trans HKX.out)
              clear hbc f0
              have HFN : Hid (FirstR ((os ++ [none]).map me) n) := by show FirstR _ _; rw [List.map_append, List.map_singleton, HNN.out]; exact HFR.out.kept _ (fun _ => rfl)
              go_wp2_with (at_builtin; refine wpList_append_seg _ rfl (.tmp 49) (.tmp 51) 39 rfl 31 i0 _ 1 16 Tryd.underlying39 hi0 hz0 hz1 hz2 rfl (by decide) _ _ _ rfl (HS2.out.below (by repeat' (first | with_reducible exact Below.refl _ _ | with_reducible refine Below.drew ?_ | with_reducible refine below_alloc_ ?_ _))) _ 1 1 _ rfl rfl (news_of (new_block_ (by simp))) (by simp [Value.oneCell']) (by decide) (by unfold maxLen; omega) (by omega) _ rfl ?_; intro g goff gcap w3 hs3 hg3 ha3 hl3; obtain ⟨hgr3, hk3⟩ := HGR.out.after HBC.out (Or.inl ⟨rfl, rfl⟩) hs3 hg3 ha3; have HG3 : Hid (GrO wA (.slice (some ⟨g, goff, none⟩) (os.length + 1) gcap) (os ++ [none]) (vs ++ [.nilIface]) w3) := hgr3; have f0 : w3.cell? ⟨w1.heap.size, 0, none⟩ = some (.int .i64 c) := (by have hh := (hk3 w1.heap.size (Or.inr HB1.out.size) (lt_of_block HKC.out)).trans HKC.out; simp [World.cell?, hh]); obtain ⟨x0, x1, x2, x3, x4⟩ := cells5 ((hk3 w.heap.size (Or.inl (lt_of_block HKX.out)) (lt_of_block HXC.out)).trans HXC.out); clear hs3 hg3 ha3 hl3 hgr3 hk3)
              go_roundg (gk - 1)
              case measure => omega
              case rel => exact ⟨i + 1, os ++ [none], vs ++ [.nilIface], n, by omega, by have := HOI.out; simp; omega, by go_num, rfl, HFN.out, HG3⟩
      · obtain rfl : i = ss.length := by omega
        have hh := HU5.out
        subst hh
        go_wp2_with fail
        refine (HFO.out _ HGR.out (by have := HOI.out; omega)).mono ?_
        rintro e w4 ⟨r, rfl, hr, hb4⟩
        obtain rfl := hr.one HFR.out
        have HBZ : Hid (Below w.heap.size w w4) := HBR.out.trans (hb4.mono HBR.out.size)
        clear hr hb4
        go_wp2
        go_ret
        exact ⟨rfl, HBZ.out⟩
end Go.Proofs.YtibecinojkkjpaaDoor
