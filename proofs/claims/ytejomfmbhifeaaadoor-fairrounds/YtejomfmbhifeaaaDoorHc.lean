/-
  fair.Hashed's Len, Bytes and When; NewHashed. Conditions: few packets, none of them long.
-/
import Derived.Test.YtejomfmbhifeaaaDoorHb
namespace Go.Proofs.YtejomfmbhifeaaaDoor
open Go.RowKit Go.Extern.Stop Go.Stop Go.Extern

theorem slice64 (b : Nat) (w : World) : (Instr.sliceAt 117 (.pointer (some ⟨b, 3, none⟩)) none none none).run Tryd.prog w = .ok (.slice (some ⟨b, 3, none⟩) 64 64) w := by kernel_rfl
theorem hlen_any {b : Nat} {p : HaC} {C : Nat → Value} {vs : Nat → Value} {tv : Value} {s : HaS} (w : World) (h : HaP w b p C vs tv s) (hF : Fit (allF s.fl 64)) :
    Calls Tryd.prog 121 #[.pointer (some ⟨b, 0, none⟩)] w fun e w' => e = .returned (.int .i64 (allF s.fl 64).length) ∧ w' = w := by
  have HQ := packs_any (o := 3) (n := 64) w (fun i hi => h.list hi) (by decide) hF
  have hsl := slice64 b
  have hb := h.blk.lt
  clear h
  go_enter Tryd.func121, Tryd.ntmps121
  go_wp2_with (go_at_call 104; refine HQ.mono ?_; rintro e w2 ⟨rfl, hw2⟩; subst hw2)
  go_ret
  exact ⟨rfl, rfl⟩
theorem hbts_any {b : Nat} {p : HaC} {C : Nat → Value} {vs : Nat → Value} {tv : Value} {s : HaS} (w : World) (h : HaP w b p C vs tv s) (hF : Fit (allF s.fl 64)) :
    Calls Tryd.prog 120 #[.pointer (some ⟨b, 0, none⟩)] w fun e w' => e = .returned (.int .i64 (sumL (allF s.fl 64))) ∧ w' = w := by
  have HQ := bytesF_any (o := 3) (n := 64) w (fun i hi => h.list hi) (by decide) hF
  have hsl := slice64 b
  have hb := h.blk.lt
  clear h
  go_enter Tryd.func120, Tryd.ntmps120
  go_wp2_with (go_at_call 103; refine HQ.mono ?_; rintro e w2 ⟨rfl, hw2⟩; subst hw2)
  go_ret
  exact ⟨rfl, rfl⟩
theorem HaP.row131 {w : World} {b : Nat} {p : HaC} {C : Nat → Value} {vs : Nat → Value} {tv : Value} {s : HaS} (h : HaP w b p C vs tv s) : w.cell? ⟨b, 131, none⟩ = some tv ∧ w.frozen? ⟨b, 131, none⟩ = false := by
  have a1 := h.blk.cell (i := 131) (by omega)
  rw [h.ct] at a1
  exact a1
theorem hwhen_any {b : Nat} {p : HaC} {C : Nat → Value} {vs : Nat → Value} {tv : Value} {s : HaS} (now : Int) (w : World) (h : HaP w b p C vs tv s) :
    Calls Tryd.prog 124 #[.pointer (some ⟨b, 0, none⟩), .int .i64 now] w fun e w' => e = .returned (.tuple #[.int .i64 now, .bool (!s.tn.isEmpty)]) ∧ w' = w := by
  have HQ := twhen_any now w h.trow
  obtain ⟨c131, f131⟩ := h.row131
  have hb := h.blk.lt
  obtain ⟨x, cap, hx⟩ := Ins.slice h.trow
  clear h
  subst hx
  go_enter Tryd.func124, Tryd.ntmps124
  go_wp2_with (go_at_call 110; refine HQ.mono ?_; rintro e w2 ⟨rfl, hw2⟩; subst hw2)
  go_ret2
  exact ⟨rfl, rfl⟩
end Go.Proofs.YtejomfmbhifeaaaDoor
