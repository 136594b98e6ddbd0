/-
  The statements of layer 2, walked: sums and differences.
-/
import Derived.Test.YthnokbdkgehiaaaFixW
import Derived.Test.YthnokbdkgehiaaaLaws2
set_option linter.unusedSimpArgs false
set_option linter.unusedVariables false
namespace Go.Proofs.Ythnokbdkgehiaaa.FW
open Go.RowKit

set_option maxRecDepth 100000 in
set_option maxHeartbeats 2000000 in
theorem fixedAdds_c (b1 b2 : Bool) (v1 v2 : Int) (h1 : -9223372036854775808 ≤ v1 ∧ v1 ≤ 9223372036854775807) (h2 : -9223372036854775808 ≤ v2 ∧ v2 ≤ 9223372036854775807) (w : World) : Calls Try.prog 4 #[.agg #[.bool b1, .int .i64 v1], .agg #[.bool b2, .int .i64 v2]] w fun e w' => e = .returned (.bool true) ∧ Below w.heap.size w w' := by
  have A := Lib.hid alive_c
  have P0 := FP.add_any b1 b2 v1 v2 h1 h2; have R0 := FR.add_any b1 b2 v1 v2 h1 h2
  have P1 := FP.sub_any b1 b2 v1 v2 h1 h2; have R1 := FR.sub_any b1 b2 v1 v2 h1 h2
  have P2 := FP.neg_any b1 v1 h1; have R2 := FR.neg_any b1 v1 h1
  have P3 := FP.abs_any b1 v1 h1; have R3 := FR.abs_any b1 v1 h1
  generalize addO (rd b1 v1) (rd b2 v2) = o0 at *
  generalize subO (rd b1 v1) (rd b2 v2) = o1 at *
  generalize negO (rd b1 v1) = o2 at *
  generalize absO (rd b1 v1) = o3 at *
  have H0 := Lib.hid P0; have G0 := Lib.hid R0
  have H1 := Lib.hid P1; have G1 := Lib.hid R1
  have H2 := Lib.hid P2; have G2 := Lib.hid R2
  have H3 := Lib.hid P3; have G3 := Lib.hid R3
  clear P0 R0 P1 R1 P2 R2 P3 R3
  clear h1 h2
  go_enter Try.func4, Try.ntmps4
  go_wp2_with fail
  have k0 : w.heap.size < w.heap.size + 1 + 1 := by omega
  have k1 : w.heap.size + 1 < w.heap.size + 1 + 1 := by omega
  go_region_held3 (fun y => y.cell? ⟨w.heap.size, 0, none⟩ = some (.bool b1) ∧ y.cell? ⟨w.heap.size, 1, none⟩ = some (.int .i64 v1) ∧ y.cell? ⟨w.heap.size + 1, 0, none⟩ = some (.bool b2) ∧ y.cell? ⟨w.heap.size + 1, 1, none⟩ = some (.int .i64 v2) ∧ w.heap.size < y.heap.size ∧ w.heap.size + 1 < y.heap.size)
    (first | go_keep | (refine FP.held2 ?_ (by assumption); assumption))
    (first
      | (go_at_call 12; refine (A.out _).mono ?_; rintro e w1 ⟨rfl, hb1⟩)
      | (go_at_call 19; refine (H0.out _).mono ?_; rintro e w2 ⟨rfl, hb2⟩)
      | (go_at_call 20; refine (G0.out _).mono ?_; rintro e w3 ⟨rfl, hb3⟩)
      | (go_at_call 21; refine (H1.out _).mono ?_; rintro e w4 ⟨rfl, hb4⟩)
      | (go_at_call 22; refine (G1.out _).mono ?_; rintro e w5 ⟨rfl, hb5⟩)
      | (go_at_call 23; refine (H2.out _).mono ?_; rintro e w6 ⟨rfl, hb6⟩)
      | (go_at_call 24; refine (G2.out _).mono ?_; rintro e w7 ⟨rfl, hb7⟩)
      | (go_at_call 25; refine (H3.out _).mono ?_; rintro e w8 ⟨rfl, hb8⟩)
      | (go_at_call 26; refine (G3.out _).mono ?_; rintro e w9 ⟨rfl, hb9⟩))
  all_goals go_wp2
  all_goals go_ret
  all_goals exact ⟨rfl, (below_next (below_next (below_next (below_next (below_next (below_next (below_next (below_next (FP.alloc_two.drew.trans (hb1.mono (by simp <;> omega))) hb2) hb3) hb4) hb5) hb6) hb7) hb8) hb9)⟩
end Go.Proofs.Ythnokbdkgehiaaa.FW
