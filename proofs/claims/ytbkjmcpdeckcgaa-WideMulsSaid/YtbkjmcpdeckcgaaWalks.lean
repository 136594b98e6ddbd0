/-
  The five statements of layer 1, walked: each returns true and leaves all that was there as it was; out of the contracts of what it calls.
-/
import Derived.Test.YtbkjmcpdeckcgaaQuo
import Derived.Test.YtbkjmcpdeckcgaaShift
import Derived.Test.YtbkjmcpdeckcgaaRefR
import Derived.Deep.RegionHeld3
namespace Go.Proofs.Ytbkjmcpdeckcgaa
open Go.RowKit

theorem al_mul (w : World) : Calls Try.prog 9 #[.int .u64 9223372036854775808, .int .u64 4] w fun e w' => e = .returned (.agg #[.int .u64 2, .int .u64 0]) ∧ Below w.heap.size w w' := by
  have h := mul_c 9223372036854775808 4 (by decide) (by decide) w
  rw [show hiOf (9223372036854775808 * 4) = 2 from by decide, show loOf (9223372036854775808 * 4) = 0 from by decide] at h
  exact h
theorem al_round (w : World) : Calls Try.prog 17 #[.agg #[.int .u64 0, .int .u64 5], .int .u64 2] w fun e w' => e = .returned (.tuple #[.int .u64 3, .int .i64 0]) ∧ Below w.heap.size w w' := by
  have h := round_c 5 2 (by decide) (by decide) (by decide) w
  rw [show rndV 5 2 = 3 from by decide, show rndE 5 2 = 0 from by decide, show hiOf 5 = 0 from by decide, show loOf 5 = 5 from by decide] at h
  exact h
theorem al_shift (w : World) : Calls Try.prog 19 #[.agg #[.int .u64 0, .int .u64 1], .int .i64 70] w fun e w' => e = .returned (.tuple #[.agg #[.int .u64 64, .int .u64 0], .bool true]) ∧ Below w.heap.size w w' := by
  have h := shift_c 1 70 (by decide) (by decide) w
  rw [show hiOf (1 * 2 ^ 70) = 64 from by decide, show loOf (1 * 2 ^ 70) = 0 from by decide, show okN 1 70 = true from by decide, show hiOf 1 = 0 from by decide, show loOf 1 = 1 from by decide] at h
  exact h
theorem al_root (w : World) : Calls Try.prog 21 #[.agg #[.int .u64 1, .int .u64 0]] w fun e w' => e = .returned (.int .u64 4294967296) ∧ Below w.heap.size w w' := by
  have h := root_c (4294967296 * 4294967296) (by decide) w
  rw [rt_square (d := 4294967296) (by decide), show hiOf (4294967296 * 4294967296) = 1 from by decide, show loOf (4294967296 * 4294967296) = 0 from by decide] at h
  exact h

set_option maxRecDepth 100000 in
set_option maxHeartbeats 1000000 in
theorem alive_c (w : World) : Calls Try.prog 8 #[] w fun e w' => e = .returned (.bool true) ∧ Below w.heap.size w w' := by
  go_enter Try.func8, Try.ntmps8
  go_wp2_with (first
    | (go_at_call 9; refine (al_mul _).mono ?_; rintro e w1 ⟨rfl, hb1⟩; obtain ⟨hc1, hf1⟩ := bcell hb1)
    | (go_at_call 17; refine (al_round _).mono ?_; rintro e w2 ⟨rfl, hb2⟩; obtain ⟨hc2, hf2⟩ := bcell hb2; have hz2 : w1.heap.size < w2.heap.size := (by have := hb2.size; simp at this; omega))
    | (go_at_call 19; refine (al_shift _).mono ?_; rintro e w3 ⟨rfl, hb3⟩; obtain ⟨hc3, hf3⟩ := bcell hb3; have hz3 : w1.heap.size < w3.heap.size := Nat.lt_of_lt_of_le hz2 hb3.size)
    | (go_at_call 21; refine (al_root _).mono ?_; rintro e w4 ⟨rfl, hb4⟩; obtain ⟨hc4, hf4⟩ := bcell hb4))
  go_ret
  exact ⟨rfl, below_next (((hb1.alloc (by have := hb1.size; omega) _).trans (hb2.mono (by have := hb1.size; simp; omega))).trans (hb3.mono (by have := hb1.size; omega))) (below_box hb4)⟩

theorem mul_swap (x y : Nat) (hx : x < 18446744073709551616) (hy : y < 18446744073709551616) (w : World) :
    Calls Try.prog 9 #[.int .u64 y, .int .u64 x] w fun e w' => e = .returned (.agg #[.int .u64 (hiOf (x * y) : Nat), .int .u64 (loOf (x * y) : Nat)]) ∧ Below w.heap.size w w' := by
  have h := mul_c y x hy hx w
  rw [Nat.mul_comm y x] at h
  exact h

set_option maxRecDepth 100000 in
set_option maxHeartbeats 1000000 in
theorem muls_c (x y : Nat) (hx : x < 18446744073709551616) (hy : y < 18446744073709551616) (w : World) :
    Calls Try.prog 3 #[.int .u64 x, .int .u64 y] w fun e w' => e = .returned (.bool true) ∧ Below w.heap.size w w' := by
  go_enter Try.func3, Try.ntmps3
  go_wp2_with fail
  refine (alive_c _).mono ?_; rintro e w1 ⟨rfl, hb1⟩
  go_wp2_with fail
  refine (mul_c x y hx hy _).mono ?_; rintro e w2 ⟨rfl, hb2⟩
  go_wp2_with fail
  refine (rmul_c x y hx hy _).mono ?_; rintro e w3 ⟨rfl, hb3⟩
  go_wp2_with fail
  refine (mul_swap x y hx hy _).mono ?_; rintro e w4 ⟨rfl, hb4⟩
  go_wp2_with fail
  refine (mul_c x y hx hy _).mono ?_; rintro e w5 ⟨rfl, hb5⟩
  go_wp2
  go_ret
  exact ⟨rfl, below_next (below_next (below_next (below_next hb1 hb2) hb3) hb4) hb5⟩

set_option maxRecDepth 100000 in
set_option maxHeartbeats 1000000 in
theorem divs_c (v d : Nat) (hv : v < M) (hd0 : 0 < d) (hd : d < 18446744073709551616) (w : World) :
    Calls Try.prog 5 #[.agg #[.int .u64 (hiOf v : Nat), .int .u64 (loOf v : Nat)], .int .u64 d] w fun e w' => e = .returned (.bool true) ∧ Below w.heap.size w w' := by
  obtain ⟨q, hq⟩ : ∃ q, v / d = q := ⟨_, rfl⟩
  obtain ⟨r, hr⟩ : ∃ r, v % d = r := ⟨_, rfl⟩
  have Hq := Lib.hid hq; have Hr := Lib.hid hr; have HV := Lib.hid hv
  clear hq hr hv
  go_enter Try.func5, Try.ntmps5
  go_wp2_with fail
  refine (alive_c _).mono ?_; rintro e w1 ⟨rfl, hb1⟩; obtain ⟨hc1, hf1⟩ := bcell hb1
  go_wp2_with fail
  refine (div_q v d q r HV.out hd0 hd Hq.out Hr.out _).mono ?_; rintro e w2 ⟨rfl, hb2⟩; obtain ⟨hc2, hf2⟩ := bcell hb2
  have z1 : w.heap.size + 1 ≤ w1.heap.size := by simpa using hb1.size
  have z2 : w1.heap.size ≤ w2.heap.size := hb2.size
  have y1 : w.heap.size < w1.heap.size := by omega
  have y2 : w.heap.size < w2.heap.size := by omega
  go_wp2_with fail
  refine (rdiv_q v d q r HV.out hd0 hd Hq.out Hr.out _).mono ?_; rintro e w3 ⟨rfl, hb3⟩; obtain ⟨hc3, hf3⟩ := bcell hb3
  have z3 : w2.heap.size + 1 ≤ w3.heap.size := by simpa using hb3.size
  have y3 : w.heap.size < w3.heap.size := by omega
  have q3 : w2.heap.size < w3.heap.size := by omega
  go_wp2_with fail
  refine (round_c v d HV.out hd0 hd _).mono ?_; rintro e w4 ⟨rfl, hb4⟩; obtain ⟨hc4, hf4⟩ := bcell hb4
  have z4 : w3.heap.size + 1 ≤ w4.heap.size := by simpa using hb4.size
  have y4 : w.heap.size < w4.heap.size := by omega
  have q4 : w2.heap.size < w4.heap.size := by omega
  have s4 : w3.heap.size < w4.heap.size := by omega
  go_wp2_with fail
  refine (rround_c v d HV.out hd0 hd _).mono ?_; rintro e w5 ⟨rfl, hb5⟩; obtain ⟨hc5, hf5⟩ := bcell hb5
  have z5 : w4.heap.size ≤ w5.heap.size := hb5.size
  go_wp2
  go_ret
  exact ⟨rfl, below_next (below_next (below_next (below_next (below_box hb1) hb2) (below_box hb3)) (below_box hb4)) hb5⟩

set_option maxRecDepth 100000 in
set_option maxHeartbeats 1000000 in
theorem divs_no (v : Nat) (w : World) :
    Calls Try.prog 5 #[.agg #[.int .u64 (hiOf v : Nat), .int .u64 (loOf v : Nat)], .int .u64 0] w fun e w' => e = .returned (.bool true) ∧ Below w.heap.size w w' := by
  go_enter Try.func5, Try.ntmps5
  go_wp2_with fail
  refine (alive_c _).mono ?_; rintro e w1 ⟨rfl, hb1⟩; obtain ⟨hc1, hf1⟩ := bcell hb1
  go_wp2_with fail
  refine (div_no v _).mono ?_; rintro e w2 ⟨rfl, hb2⟩; obtain ⟨hc2, hf2⟩ := bcell hb2
  have z1 : w.heap.size + 1 ≤ w1.heap.size := by simpa using hb1.size
  have z2 : w1.heap.size ≤ w2.heap.size := hb2.size
  have y1 : w.heap.size < w1.heap.size := by omega
  have y2 : w.heap.size < w2.heap.size := by omega
  go_wp2_with fail
  refine (rdiv_no v _).mono ?_; rintro e w3 ⟨rfl, hb3⟩; obtain ⟨hc3, hf3⟩ := bcell hb3
  have z3 : w2.heap.size + 1 ≤ w3.heap.size := by simpa using hb3.size
  have y3 : w.heap.size < w3.heap.size := by omega
  have q3 : w2.heap.size < w3.heap.size := by omega
  go_wp2_with fail
  refine (round_no v _).mono ?_; rintro e w4 ⟨rfl, hb4⟩; obtain ⟨hc4, hf4⟩ := bcell hb4
  have z4 : w3.heap.size + 1 ≤ w4.heap.size := by simpa using hb4.size
  have y4 : w.heap.size < w4.heap.size := by omega
  have q4 : w2.heap.size < w4.heap.size := by omega
  have s4 : w3.heap.size < w4.heap.size := by omega
  go_wp2_with fail
  refine (rround_no v _).mono ?_; rintro e w5 ⟨rfl, hb5⟩; obtain ⟨hc5, hf5⟩ := bcell hb5
  have z5 : w4.heap.size ≤ w5.heap.size := hb5.size
  go_wp2
  go_ret
  exact ⟨rfl, below_next (below_next (below_next (below_next (below_box hb1) hb2) (below_box hb3)) (below_box hb4)) hb5⟩

end Go.Proofs.Ytbkjmcpdeckcgaa
