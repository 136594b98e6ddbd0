/-
  The statements of layer 2, walked: products and quotients.
-/
import Derived.Test.YthnokbdkgehiaaaFixW
import Derived.Test.YthnokbdkgehiaaaLaws2
set_option linter.unusedSimpArgs false
set_option linter.unusedVariables false
namespace Go.Proofs.Ythnokbdkgehiaaa.FW
open Go.RowKit

set_option maxRecDepth 100000 in
set_option maxHeartbeats 2000000 in
theorem fixedMuls_c (b1 b2 : Bool) (v1 v2 : Int) (h1 : -9223372036854775808 ≤ v1 ∧ v1 ≤ 9223372036854775807) (h2 : -9223372036854775808 ≤ v2 ∧ v2 ≤ 9223372036854775807) (w : World) : Calls Try.prog 5 #[.agg #[.bool b1, .int .i64 v1], .agg #[.bool b2, .int .i64 v2]] w fun e w' => e = .returned (.bool true) ∧ Below w.heap.size w w' := by
  have A := Lib.hid alive_c
  have P0 := FP.mul_any b1 b2 v1 v2 h1 h2; have R0 := FR.mul_any b1 b2 v1 v2 h1 h2
  have P1 := FP.div_any b1 b2 v1 v2 h1 h2; have R1 := FR.div_any b1 b2 v1 v2 h1 h2
  generalize mulO (rd b1 v1) (rd b2 v2) = o0 at *
  generalize divO (rd b1 v1) (rd b2 v2) = o1 at *
  have H0 := Lib.hid P0; have G0 := Lib.hid R0
  have H1 := Lib.hid P1; have G1 := Lib.hid R1
  clear P0 R0 P1 R1
  clear h1 h2
  go_enter Try.func5, Try.ntmps5
  go_wp2_with fail
  have k0 : w.heap.size < w.heap.size + 1 + 1 := by omega
  have k1 : w.heap.size + 1 < w.heap.size + 1 + 1 := by omega
  go_region_held3 (fun y => y.cell? ⟨w.heap.size, 0, none⟩ = some (.bool b1) ∧ y.cell? ⟨w.heap.size, 1, none⟩ = some (.int .i64 v1) ∧ y.cell? ⟨w.heap.size + 1, 0, none⟩ = some (.bool b2) ∧ y.cell? ⟨w.heap.size + 1, 1, none⟩ = some (.int .i64 v2) ∧ w.heap.size < y.heap.size ∧ w.heap.size + 1 < y.heap.size)
    (first | go_keep | (refine FP.held2 ?_ (by assumption); assumption))
    (first
      | (go_at_call 12; refine (A.out _).mono ?_; rintro e w1 ⟨rfl, hb1⟩)
      | (go_at_call 27; refine (H0.out _).mono ?_; rintro e w2 ⟨rfl, hb2⟩)
      | (go_at_call 28; refine (G0.out _).mono ?_; rintro e w3 ⟨rfl, hb3⟩)
      | (go_at_call 29; refine (H1.out _).mono ?_; rintro e w4 ⟨rfl, hb4⟩)
      | (go_at_call 30; refine (G1.out _).mono ?_; rintro e w5 ⟨rfl, hb5⟩))
  all_goals go_wp2
  all_goals go_ret
  all_goals exact ⟨rfl, (below_next (below_next (below_next (below_next (FP.alloc_two.drew.trans (hb1.mono (by simp <;> omega))) hb2) hb3) hb4) hb5)⟩
end Go.Proofs.Ythnokbdkgehiaaa.FW
