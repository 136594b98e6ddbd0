/-
  Contracts of the program's own functions of layer 4 (floats), the fifth part: To of a number that can be told.
-/
import Derived.Test.YtcppcfjejalggaaFloPD
set_option linter.unusedSimpArgs false
set_option linter.unusedVariables false
namespace Go.Proofs.Ytcppcfjejalggaa.LP
open Go.RowKit
theorem neg_xor (n : Nat) (h : n < 9223372036854775808) : n ^^^ 9223372036854775808 = 9223372036854775808 + n := by
  have h1 := Nat.two_pow_add_eq_or_of_lt (i := 63) (b := n) h 1
  have h2 : (2 : Nat) ^ 63 * 1 = 9223372036854775808 := by decide
  rw [h2] at h1
  rw [h1]
  apply Nat.eq_of_testBit_eq
  intro i
  have e : (9223372036854775808 : Nat) = 2 ^ 63 := by decide
  rw [e, Nat.testBit_xor, Nat.testBit_or, Nat.testBit_two_pow]
  by_cases hi : 63 = i
  · subst hi; rw [Nat.testBit_lt_two_pow h]; rfl
  · rw [decide_eq_false hi]; simp
theorem neg_run (n : Nat) (h : n < 9223372036854775808) (w : World) : (Op.unary .neg (.float .f64 n)).run Try.prog w = .ok (.float .f64 (9223372036854775808 + n)) w := by
  rw [← neg_xor n h]
  rfl
set_option maxRecDepth 100000 in
set_option maxHeartbeats 2000000 in
theorem to_in (v u : Int) (m f : Nat) (hv : v ≠ -9223372036854775808) (hu : u = (m : Nat)) (hu1 : u ≤ 9223372036854775807)
    (ab : ∀ w, Calls Try.prog 37 #[.agg #[.bool false, .int .i64 v]] w fun e w' => e = .returned (.agg #[.bool false, .int .i64 u]) ∧ Below w.heap.size w w')
    (nr : ∀ w, Calls Try.prog 36 #[.int .u64 u] w fun e w' => e = .returned (.float .f64 f) ∧ Below w.heap.size w w')
    (hf : f < 9223372036854775808) (w : World) :
    Calls Try.prog 13 #[.agg #[.bool false, .int .i64 v]] w fun e w' => e = .returned (.float .f64 ((if v < 0 then 9223372036854775808 else 0) + f)) ∧ Below w.heap.size w w' := by
  have r := FP.right_f v
  rw [show (v != -9223372036854775808) = true from by rw [bne_iff_ne]; exact hv] at r
  have hfd : ∀ w, (Instr.field 25 (.agg #[.bool false, .int .i64 u]) 1).run Try.prog w = .ok (.int .i64 u) w := fun _ => by kernel_rfl
  have hng := neg_run f hf
  have R := Lib.hid r; have AB := Lib.hid ab; have NR := Lib.hid nr
  have hu0 : 0 ≤ u := by omega
  clear r ab nr hu hv
  by_cases hn : v < 0
  · rw [if_pos hn]
    generalize 9223372036854775808 + f = g at *
    go_enter Try.func13, Try.ntmps13
    go_wp2_with fail
    refine (R.out _).mono ?_; rintro e w1 ⟨rfl, hb1⟩; obtain ⟨hc1, hf1⟩ := bcell hb1
    have H1 := Lib.hid (below_box hb1)
    have z1 : w.heap.size < w1.heap.size := (by have := hb1.size; simp at this; omega)
    clear hb1
    go_wp2_with fail
    refine (AB.out _).mono ?_; rintro e w2 ⟨rfl, hb2⟩; obtain ⟨hc2, hf2⟩ := bcell hb2
    have H2 := Lib.hid (below_next H1.out hb2)
    have z2 : w.heap.size < w2.heap.size := Nat.lt_of_lt_of_le z1 hb2.size
    clear hb2
    go_wp2_with fail
    refine (NR.out _).mono ?_; rintro e w3 ⟨rfl, hb3⟩; obtain ⟨hc3, hf3⟩ := bcell hb3
    have H3 := Lib.hid (below_next H2.out hb3)
    clear hb3
    go_wp2
    go_ret
    exact ⟨rfl, H3.out⟩
  · rw [if_neg hn, Nat.zero_add]
    go_enter Try.func13, Try.ntmps13
    go_wp2_with fail
    refine (R.out _).mono ?_; rintro e w1 ⟨rfl, hb1⟩; obtain ⟨hc1, hf1⟩ := bcell hb1
    have H1 := Lib.hid (below_box hb1)
    have z1 : w.heap.size < w1.heap.size := (by have := hb1.size; simp at this; omega)
    clear hb1
    go_wp2_with fail
    refine (AB.out _).mono ?_; rintro e w2 ⟨rfl, hb2⟩; obtain ⟨hc2, hf2⟩ := bcell hb2
    have H2 := Lib.hid (below_next H1.out hb2)
    have z2 : w.heap.size < w2.heap.size := Nat.lt_of_lt_of_le z1 hb2.size
    clear hb2
    go_wp2_with fail
    refine (NR.out _).mono ?_; rintro e w3 ⟨rfl, hb3⟩; obtain ⟨hc3, hf3⟩ := bcell hb3
    have H3 := Lib.hid (below_next H2.out hb3)
    clear hb3
    go_wp2
    go_ret
    exact ⟨rfl, H3.out⟩
theorem to_some (v : Int) (h1 : -9223372036854775807 ≤ v) (h2 : v ≤ 9223372036854775807) (w : World) : Calls Try.prog 13 #[.agg #[.bool false, .int .i64 v]] w fun e w' => e = .returned (.float .f64 (toB v)) ∧ Below w.heap.size w w' := by
  have ab : ∀ w, Calls Try.prog 37 #[.agg #[.bool false, .int .i64 v]] w fun e w' => e = .returned (.agg #[.bool false, .int .i64 ((v.natAbs : Nat) : Int)]) ∧ Below w.heap.size w w' := by
    intro w
    have h := FP.abs_any false v (by omega) w
    rw [rd_some rfl (by omega)] at h
    have e : absO (some v) = some ((v.natAbs : Nat) : Int) := by unfold absO; simp only []; congr 1; split <;> omega
    rw [e, nb_some, nv_some] at h
    exact h
  by_cases h0 : v = 0
  · subst h0
    have h := to_in 0 ((0 : Nat) : Int) 0 0 (by decide) rfl (by decide) ab near_zero (by decide) w
    rw [toB_zero]
    exact h
  · obtain ⟨k, hK, hk1, hk2, nr⟩ := near_c v.natAbs (by omega) (by omega) w
    have nr' : ∀ w, Calls Try.prog 36 #[.int .u64 ((v.natAbs : Nat) : Int)] w fun e w' => e = .returned (.float .f64 (toPos v.natAbs k)) ∧ Below w.heap.size w w' := by
      intro w'
      obtain ⟨l, hL, _, _, h⟩ := near_c v.natAbs (by omega) (by omega) w'
      rw [KK_unique hK hL]
      exact h
    have hr := toPos_range hK ⟨hk1, hk2⟩
    have h := to_in v _ v.natAbs (toPos v.natAbs k) (by omega) rfl (by omega) ab nr' (by omega) w
    rw [toB_eq h0 hK]
    exact h
end Go.Proofs.Ytcppcfjejalggaa.LP
