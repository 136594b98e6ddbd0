/-
  The statements of layer 2, walked: roots, and rounding to so many decimals.
-/
import Derived.Test.YthnokbdkgehiaaaFixW
import Derived.Test.YthnokbdkgehiaaaLaws2
set_option linter.unusedSimpArgs false
set_option linter.unusedVariables false
namespace Go.Proofs.Ythnokbdkgehiaaa.FW
open Go.RowKit

set_option maxRecDepth 100000 in
set_option maxHeartbeats 2000000 in
theorem fixedRoots_c (b : Bool) (v d : Int) (h1 : -9223372036854775808 ≤ v ∧ v ≤ 9223372036854775807) (w : World) : Calls Try.prog 6 #[.agg #[.bool b, .int .i64 v], .int .i64 d] w fun e w' => e = .returned (.bool true) ∧ Below w.heap.size w w' := by
  have A := Lib.hid alive_c
  have P0 := FP.root_any b v h1; have R0 := FR.root_any b v h1
  have P1 := FP.round_any b v d h1; have R1 := FR.round_any b v d h1
  generalize rootO (rd b v) = o0 at *
  generalize FP.decI (rd b v) d = o1 at *
  have H0 := Lib.hid P0; have G0 := Lib.hid R0
  have H1 := Lib.hid P1; have G1 := Lib.hid R1
  clear P0 R0 P1 R1
  clear h1
  go_enter Try.func6, Try.ntmps6
  go_wp2_with fail
  have k0 : w.heap.size < w.heap.size + 1 := by omega
  go_region_held3 (fun y => y.cell? ⟨w.heap.size, 0, none⟩ = some (.bool b) ∧ y.cell? ⟨w.heap.size, 1, none⟩ = some (.int .i64 v) ∧ w.heap.size < y.heap.size)
    (first | go_keep | (refine held1 ?_ (by assumption); assumption))
    (first
      | (go_at_call 12; refine (A.out _).mono ?_; rintro e w1 ⟨rfl, hb1⟩)
      | (go_at_call 31; refine (H0.out _).mono ?_; rintro e w2 ⟨rfl, hb2⟩)
      | (go_at_call 32; refine (G0.out _).mono ?_; rintro e w3 ⟨rfl, hb3⟩)
      | (go_at_call 33; refine (H1.out _).mono ?_; rintro e w4 ⟨rfl, hb4⟩)
      | (go_at_call 34; refine (G1.out _).mono ?_; rintro e w5 ⟨rfl, hb5⟩))
  all_goals go_wp2
  all_goals go_ret
  all_goals exact ⟨rfl, (below_next (below_next (below_next (below_next (((Below.refl _ _).alloc (Nat.le_refl _) _).drew.trans (hb1.mono (by simp <;> omega))) hb2) hb3) hb4) hb5)⟩
end Go.Proofs.Ythnokbdkgehiaaa.FW
