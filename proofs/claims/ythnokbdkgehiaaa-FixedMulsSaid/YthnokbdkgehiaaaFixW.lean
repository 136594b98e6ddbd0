/-
  The statements of layer 2, walked, the first part: the fixed fact, and the five that hold the program's answers to the document's.
-/
import Derived.Test.YthnokbdkgehiaaaFixPD
set_option linter.unusedSimpArgs false
set_option linter.unusedVariables false
namespace Go.Proofs.Ythnokbdkgehiaaa.FW
open Go.RowKit

theorem rt_two : rt 2000000000000 = 1414213 := by
  have h := rt_is (v := 2000000000000) (by decide)
  obtain ⟨r, hr⟩ : ∃ r, rt 2000000000000 = r := ⟨_, rfl⟩
  rw [hr] at h ⊢
  clear hr
  have h1 : ¬ 1414214 ≤ r := fun hlt => by
    have := Nat.mul_le_mul hlt hlt
    omega
  have h2 : ¬ r + 1 ≤ 1414213 := fun hlt => by
    have := Nat.mul_le_mul hlt hlt
    omega
  omega
theorem al_of1 (w : World) : Calls Try.prog 15 #[.int .i64 3] w fun e w' => e = .returned (.agg #[.bool false, .int .i64 3]) ∧ Below w.heap.size w w' := by
  have h := FP.of_c 3 w
  rw [show rd false 3 = some (3) from by decide] at h
  exact h
theorem al_of2 (w : World) : Calls Try.prog 15 #[.int .i64 500000] w fun e w' => e = .returned (.agg #[.bool false, .int .i64 500000]) ∧ Below w.heap.size w w' := by
  have h := FP.of_c 500000 w
  rw [show rd false 500000 = some (500000) from by decide] at h
  exact h
theorem al_of3 (w : World) : Calls Try.prog 15 #[.int .i64 (-2500000)] w fun e w' => e = .returned (.agg #[.bool false, .int .i64 (-2500000)]) ∧ Below w.heap.size w w' := by
  have h := FP.of_c (-2500000) w
  rw [show rd false (-2500000) = some ((-2500000)) from by decide] at h
  exact h
theorem al_int1 (w : World) : Calls Try.prog 17 #[.int .i64 (-1)] w fun e w' => e = .returned (.agg #[.bool false, .int .i64 (-1000000)]) ∧ Below w.heap.size w w' := by
  have h := FP.int_c (-1) (by decide) (by decide) w
  rw [show intO (-1) = some ((-1000000)) from by decide] at h
  exact h
theorem al_int2 (w : World) : Calls Try.prog 17 #[.int .i64 3] w fun e w' => e = .returned (.agg #[.bool false, .int .i64 3000000]) ∧ Below w.heap.size w w' := by
  have h := FP.int_c 3 (by decide) (by decide) w
  rw [show intO 3 = some (3000000) from by decide] at h
  exact h
theorem al_int3 (w : World) : Calls Try.prog 17 #[.int .i64 2] w fun e w' => e = .returned (.agg #[.bool false, .int .i64 2000000]) ∧ Below w.heap.size w w' := by
  have h := FP.int_c 2 (by decide) (by decide) w
  rw [show intO 2 = some (2000000) from by decide] at h
  exact h
theorem al_one (w : World) : Calls Try.prog 17 #[.int .i64 1] w fun e w' => e = .returned (.agg #[.bool false, .int .i64 1000000]) ∧ Below w.heap.size w w' := by
  have h := FP.int_c 1 (by decide) (by decide) w
  rw [show intO 1 = some (1000000) from by decide] at h
  exact h
theorem al_mul (w : World) : Calls Try.prog 27 #[.agg #[.bool false, .int .i64 3], .agg #[.bool false, .int .i64 500000]] w fun e w' => e = .returned (.agg #[.bool false, .int .i64 2]) ∧ Below w.heap.size w w' := by
  have h := FP.mul_any false false 3 500000 (by decide) (by decide) w
  rw [show mulO (rd false 3) (rd false 500000) = some (2) from by decide] at h
  exact h
theorem al_div (w : World) : Calls Try.prog 29 #[.agg #[.bool false, .int .i64 (-1000000)], .agg #[.bool false, .int .i64 3000000]] w fun e w' => e = .returned (.agg #[.bool false, .int .i64 (-333333)]) ∧ Below w.heap.size w w' := by
  have h := FP.div_any false false (-1000000) 3000000 (by decide) (by decide) w
  rw [show divO (rd false (-1000000)) (rd false 3000000) = some ((-333333)) from by decide] at h
  exact h
theorem al_root (w : World) : Calls Try.prog 31 #[.agg #[.bool false, .int .i64 2000000]] w fun e w' => e = .returned (.agg #[.bool false, .int .i64 1414213]) ∧ Below w.heap.size w w' := by
  have h := FP.root_any false 2000000 (by decide) w
  rw [show rootO (rd false 2000000) = some (1414213) from by rw [rd_some rfl (by decide)]; show (if (2000000 : Int) < 0 then none else signO (rt ((2000000 : Int).natAbs * 1000000)) false) = _; rw [if_neg (by decide), show (2000000 : Int).natAbs * 1000000 = 2000000000000 from by decide, rt_two]; rfl] at h
  exact h
theorem al_round (w : World) : Calls Try.prog 33 #[.agg #[.bool false, .int .i64 (-2500000)], .int .i64 0] w fun e w' => e = .returned (.agg #[.bool false, .int .i64 (-3000000)]) ∧ Below w.heap.size w w' := by
  have h := FP.round_any false (-2500000) 0 (by decide) w
  rw [show FP.decI (rd false (-2500000)) 0 = some ((-3000000)) from by decide] at h
  exact h

set_option maxRecDepth 100000 in
set_option maxHeartbeats 1000000 in
theorem alive_c (w : World) : Calls Try.prog 12 #[] w fun e w' => e = .returned (.bool true) ∧ Below w.heap.size w w' := by
  go_enter Try.func12, Try.ntmps12
  go_wp2_with fail
  refine (al_of1 _).mono ?_; rintro e w1 ⟨rfl, hb1⟩
  go_wp2_with fail
  refine (al_of2 _).mono ?_; rintro e w2 ⟨rfl, hb2⟩
  go_wp2_with fail
  refine (al_mul _).mono ?_; rintro e w3 ⟨rfl, hb3⟩; obtain ⟨hc3, hf3⟩ := bcell hb3
  have HX := Lib.hid (below_next (below_next hb1 hb2) hb3)
  go_wp2_with fail
  refine (al_int1 _).mono ?_; rintro e w4 ⟨rfl, hb4⟩; obtain ⟨hc4, hf4⟩ := bcell hb4
  have z4 : w3.heap.size < w4.heap.size := (by have := hb4.size; simp at this; omega)
  go_wp2_with fail
  refine (al_int2 _).mono ?_; rintro e w5 ⟨rfl, hb5⟩; obtain ⟨hc5, hf5⟩ := bcell hb5
  have z5 : w3.heap.size < w5.heap.size := Nat.lt_of_lt_of_le z4 hb5.size
  go_wp2_with fail
  refine (al_div _).mono ?_; rintro e w6 ⟨rfl, hb6⟩; obtain ⟨hc6, hf6⟩ := bcell hb6
  have z6 : w3.heap.size < w6.heap.size := Nat.lt_of_lt_of_le z5 hb6.size
  have HY := Lib.hid (below_next (below_next (below_next HX.out (below_box hb4)) hb5) hb6)
  go_wp2_with fail
  refine (al_int3 _).mono ?_; rintro e w7 ⟨rfl, hb7⟩; obtain ⟨hc7, hf7⟩ := bcell hb7
  have z7 : w3.heap.size < w7.heap.size := (by have := hb7.size; simp at this; omega)
  go_wp2_with fail
  refine (al_root _).mono ?_; rintro e w8 ⟨rfl, hb8⟩; obtain ⟨hc8, hf8⟩ := bcell hb8
  go_wp2_with fail
  refine (al_of3 _).mono ?_; rintro e w9 ⟨rfl, hb9⟩
  go_wp2_with fail
  refine (al_round _).mono ?_; rintro e w10 ⟨rfl, hb10⟩
  go_wp2
  go_ret
  exact ⟨rfl, below_next (below_next (below_next (below_next HY.out (below_box hb7)) hb8) hb9) hb10⟩

/-- The cells of a number lie on behind a call. -/
theorem held1 {x y : World} {a0 : Nat} {p0 q0 : Value} (h : x.cell? ⟨a0, 0, none⟩ = some p0 ∧ x.cell? ⟨a0, 1, none⟩ = some q0 ∧ a0 < x.heap.size)
    (hb : Below x.heap.size x y) : y.cell? ⟨a0, 0, none⟩ = some p0 ∧ y.cell? ⟨a0, 1, none⟩ = some q0 ∧ a0 < y.heap.size := by
  obtain ⟨c0, d0, l0⟩ := h
  exact ⟨(hb.cell (p := ⟨a0, 0, none⟩) l0).trans c0, (hb.cell (p := ⟨a0, 1, none⟩) l0).trans d0, Nat.lt_of_lt_of_le l0 hb.size⟩
/-- Is a number right? -/
def rightB (b : Bool) (v : Int) : Bool := if b = true then v == 0 else v != -9223372036854775808
theorem right_p (b : Bool) (v : Int) (w : World) : Calls Try.prog 13 #[.agg #[.bool b, .int .i64 v]] w fun e w' => e = .returned (.bool (rightB b v)) ∧ Below w.heap.size w w' := by
  cases b
  · exact FP.right_f v w
  · exact FP.right_t v w
theorem right_r (b : Bool) (v : Int) (w : World) : Calls Try.prog 14 #[.agg #[.bool b, .int .i64 v]] w fun e w' => e = .returned (.bool (rightB b v)) ∧ Below w.heap.size w w' := by
  cases b
  · exact FR.right_f v w
  · exact FR.right_t v w

set_option maxRecDepth 100000 in
set_option maxHeartbeats 2000000 in
theorem fixedMakes_c (b : Bool) (v x i : Int) (hi : -9223372036854775808 ≤ i ∧ i ≤ 9223372036854775807) (w : World) : Calls Try.prog 3 #[.agg #[.bool b, .int .i64 v], .int .i64 x, .int .i64 i] w fun e w' => e = .returned (.bool true) ∧ Below w.heap.size w w' := by
  have A := Lib.hid alive_c
  have P1 := right_p b v; have R1 := right_r b v
  have P2 := FP.of_c x; have R2 := FR.of_any x
  have P3 := FP.int_c i hi.1 hi.2; have R3 := FR.int_c i hi.1 hi.2
  generalize rightB b v = r at *
  generalize rd false x = o at *
  generalize intO i = q at *
  clear hi
  have H1 := Lib.hid P1; have G1 := Lib.hid R1; have H2 := Lib.hid P2; have G2 := Lib.hid R2; have H3 := Lib.hid P3; have G3 := Lib.hid R3
  clear P1 R1 P2 R2 P3 R3
  go_enter Try.func3, Try.ntmps3
  go_wp2_with fail
  have k0 : w.heap.size < w.heap.size + 1 := by omega
  go_region_held3 (fun y => y.cell? ⟨w.heap.size, 0, none⟩ = some (.bool b) ∧ y.cell? ⟨w.heap.size, 1, none⟩ = some (.int .i64 v) ∧ w.heap.size < y.heap.size)
    (first | go_keep | (refine held1 ?_ (by assumption); assumption))
    (first
      | (go_at_call 12; refine (A.out _).mono ?_; rintro e w1 ⟨rfl, hb1⟩)
      | (go_at_call 13; refine (H1.out _).mono ?_; rintro e w2 ⟨rfl, hb2⟩)
      | (go_at_call 14; refine (G1.out _).mono ?_; rintro e w3 ⟨rfl, hb3⟩)
      | (go_at_call 15; refine (H2.out _).mono ?_; rintro e w4 ⟨rfl, hb4⟩)
      | (go_at_call 16; refine (G2.out _).mono ?_; rintro e w5 ⟨rfl, hb5⟩)
      | (go_at_call 17; refine (H3.out _).mono ?_; rintro e w6 ⟨rfl, hb6⟩)
      | (go_at_call 18; refine (G3.out _).mono ?_; rintro e w7 ⟨rfl, hb7⟩))
  all_goals go_wp2
  all_goals go_ret
  all_goals exact ⟨rfl, (below_next (below_next (below_next (below_next (below_next (below_next (((Below.refl _ _).alloc (Nat.le_refl _) _).drew.trans (hb1.mono (by simp <;> omega))) hb2) hb3) hb4) hb5) hb6) hb7)⟩
end Go.Proofs.Ythnokbdkgehiaaa.FW
