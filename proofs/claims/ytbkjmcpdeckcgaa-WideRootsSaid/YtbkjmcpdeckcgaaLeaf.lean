/-
  Contracts of the functions of layer 1 and of the document's own that have no loop and call no Go function but math/bits: what each returns, and that nothing that was there has turned.
-/
import Derived.Test.YtbkjmcpdeckcgaaProg
import Derived.Test.YtbkjmcpdeckcgaaMath
import Derived.Test.YtbkjmcpdeckcgaaShelf
import Derived.WalkKit
import Derived.WalkSmall
import Derived.Lib.Hide
import Derived.Laws.Externs
import Derived.Laws.Bits64b
namespace Go.Proofs.Ytbkjmcpdeckcgaa
open Go.RowKit

theorem ret_u64 {a b : Int} (h : a = b) : Ending.returned (.int .u64 a) = .returned (.int .u64 b) := by rw [h]
theorem ret_wide {a b c d : Int} (h : a = c) (k : b = d) : Ending.returned (.agg #[.int .u64 a, .int .u64 b]) = .returned (.agg #[.int .u64 c, .int .u64 d]) := by rw [h, k]
theorem ret_wide_b {a b c d : Int} {p q : Bool} (h : a = c) (k : b = d) (l : p = q) :
    Ending.returned (.tuple #[.agg #[.int .u64 a, .int .u64 b], .bool p]) = .returned (.tuple #[.agg #[.int .u64 c, .int .u64 d], .bool q]) := by rw [h, k, l]

theorem and_bit (a k : Nat) (ha : a < 18446744073709551616) : bits .and .u64 ((a : Int) / 2 ^ k) 1 = ((a / 2 ^ k % 2 : Nat) : Int) := by
  have hq : a / 2 ^ k ≤ a := Nat.div_le_self _ _
  have e : (a : Int) / 2 ^ k = ((a / 2 ^ k : Nat) : Int) := by simp
  rw [e]
  generalize a / 2 ^ k = q at *
  rw [and_one_u64 (q : Int) (by omega) (by omega)]
  omega

theorem bit_c (v : Nat) (hv : v < M) (i : Nat) (hi : i < 128) (w : World) :
    Calls Try.prog 26 #[.agg #[.int .u64 (hiOf v : Nat), .int .u64 (loOf v : Nat)], .int .i64 i] w fun e w' => e = .returned (.int .u64 (bitN v i : Nat)) ∧ Below w.heap.size w w' := by
  have hh := hiOf_lt v
  have hl := loOf_lt v
  by_cases h : 64 ≤ i
  · have HE := Lib.hid (bit_hi hv h)
    have HA := Lib.hid (and_bit (hiOf v) (i - 64) hh)
    go_enter Try.func26, Try.ntmps26
    go_wp2
    go_ret
    exact ⟨ret_u64 (by rw [← HE.out]; exact HA.out), (Below.refl _ _).alloc (Nat.le_refl _) _⟩
  · have HE := Lib.hid (bit_lo (v := v) (i := i) (by omega))
    have HA := Lib.hid (and_bit (loOf v) i hl)
    go_enter Try.func26, Try.ntmps26
    go_wp2
    go_ret
    exact ⟨ret_u64 (by rw [← HE.out]; exact HA.out), (Below.refl _ _).alloc (Nat.le_refl _) _⟩

theorem or_wrap (a k : Nat) (ha : a < 18446744073709551616) (hk : k < 64) : bits .or .u64 (a : Int) (IntKind.u64.wrap (2 ^ k)) = ((a ||| 2 ^ k : Nat) : Int) := by
  have hp := pow_lt_64 hk
  have h := bits_or_u64_nat a (2 ^ k) ha hp
  have e : IntKind.u64.wrap ((2 : Int) ^ k) = ((2 ^ k : Nat) : Int) := by
    rw [show (2 : Int) ^ k = ((2 ^ k : Nat) : Int) from by simp]
    exact Mul64.wrapN _ hp
  rw [e]
  exact h

theorem with_c (v : Nat) (hv : v < M) (i : Nat) (hi : i < 128) (hb : bitN v i = 0) (w : World) :
    Calls Try.prog 27 #[.agg #[.int .u64 (hiOf v : Nat), .int .u64 (loOf v : Nat)], .int .i64 i] w fun e w' => e = .returned (.agg #[.int .u64 (hiOf (v + 2 ^ i) : Nat), .int .u64 (loOf (v + 2 ^ i) : Nat)]) ∧ Below w.heap.size w w' := by
  have hh := hiOf_lt v
  have hl := loOf_lt v
  by_cases h : 64 ≤ i
  · have H := Lib.hid (with_hi hv h hi hb)
    have O := Lib.hid (or_wrap (hiOf v) (i - 64) hh (by omega))
    clear hb
    go_enter Try.func27, Try.ntmps27
    go_wp2
    exact bodyPost_ret (v := .agg #[.int .u64 (bits .or .u64 (hiOf v : Int) (IntKind.u64.wrap (2 ^ (i - 64)))), .int .u64 (loOf v : Nat)]) (by simp [results, Try.results27, go_sem]) rfl
      ⟨ret_wide (by rw [O.out, H.out.1]) (by rw [← H.out.2.1]), ((Below.refl _ _).alloc (Nat.le_refl _) _).alloc (by simp) _⟩
  · have H := Lib.hid (with_lo hv (by omega : i < 64) hb)
    have O := Lib.hid (or_wrap (loOf v) i hl (by omega))
    clear hb
    go_enter Try.func27, Try.ntmps27
    go_wp2
    exact bodyPost_ret (v := .agg #[.int .u64 (hiOf v : Nat), .int .u64 (bits .or .u64 (loOf v : Int) (IntKind.u64.wrap (2 ^ i)))]) (by simp [results, Try.results27, go_sem]) rfl
      ⟨ret_wide (by rw [← H.out.2.1]) (by rw [O.out, H.out.1]), ((Below.refl _ _).alloc (Nat.le_refl _) _).alloc (by simp) _⟩

theorem less_c (u v : Nat) (hu : u < M) (hv : v < M) (w : World) :
    Calls Try.prog 13 #[.agg #[.int .u64 (hiOf u : Nat), .int .u64 (loOf u : Nat)], .agg #[.int .u64 (hiOf v : Nat), .int .u64 (loOf v : Nat)]] w fun e w' => e = .returned (.bool (decide (u < v))) ∧ Below w.heap.size w w' := by
  have H := Lib.hid (less_hl hu hv)
  clear hu hv
  go_enter Try.func13, Try.ntmps13
  go_wp2
  · have h : ((hiOf u : Int) != (hiOf v : Int)) = true := by assumption
    go_ret
    refine ⟨?_, ((Below.refl _ _).alloc (Nat.le_refl _) _).alloc (by simp) _⟩
    have h' := WalkArith.int_ne' h
    have e : decide (u < v) = decide (hiOf u < hiOf v) := by rw [decide_eq_decide, H.out]; omega
    rw [e]
    rfl
  · have h : ((hiOf u : Int) != (hiOf v : Int)) = false := by assumption
    go_ret
    refine ⟨?_, ((Below.refl _ _).alloc (Nat.le_refl _) _).alloc (by simp) _⟩
    have h' := WalkArith.int_eq' h
    have e : decide (u < v) = decide (loOf u < loOf v) := by rw [decide_eq_decide, H.out]; omega
    rw [e]
    rfl

theorem rless_c (u v : Nat) (hu : u < M) (hv : v < M) (w : World) :
    Calls Try.prog 14 #[.agg #[.int .u64 (hiOf u : Nat), .int .u64 (loOf u : Nat)], .agg #[.int .u64 (hiOf v : Nat), .int .u64 (loOf v : Nat)]] w fun e w' => e = .returned (.bool (decide (u < v))) ∧ Below w.heap.size w w' := by
  have H := Lib.hid (less_hl hu hv)
  clear hu hv
  go_enter Try.func14, Try.ntmps14
  go_wp2
  · have h1 : hiOf v ≤ hiOf u := by assumption
    have h2 : (hiOf u : Int) = hiOf v := by assumption
    have e : decide (u < v) = (decide (hiOf u < hiOf v) || decide (loOf u < loOf v)) := by rw [Bool.eq_iff_iff]; simp only [Bool.or_eq_true, decide_eq_true_eq, H.out]; omega
    rw [e]
    go_ret
    exact ⟨rfl, ((Below.refl _ _).alloc (Nat.le_refl _) _).alloc (by simp) _⟩
  · have h1 : hiOf v ≤ hiOf u := by assumption
    have h2 : ¬ (hiOf u : Int) = hiOf v := by assumption
    have e : decide (u < v) = decide (hiOf u < hiOf v) := by rw [decide_eq_decide, H.out]; omega
    rw [e]
    go_ret
    exact ⟨rfl, ((Below.refl _ _).alloc (Nat.le_refl _) _).alloc (by simp) _⟩
  · have h1 : ¬ hiOf v ≤ hiOf u := by assumption
    have e : decide (u < v) = true := by rw [decide_eq_true_eq, H.out]; omega
    rw [e]
    go_ret
    exact ⟨rfl, ((Below.refl _ _).alloc (Nat.le_refl _) _).alloc (by simp) _⟩

set_option maxHeartbeats 400000 in
theorem dbl_c (v : Nat) (hv : v < M) (w : World) :
    Calls Try.prog 24 #[.agg #[.int .u64 (hiOf v : Nat), .int .u64 (loOf v : Nat)]] w fun e w' =>
      e = .returned (.tuple #[.agg #[.int .u64 (hiOf (2 * v) : Nat), .int .u64 (loOf (2 * v) : Nat)], .bool (ovf (2 * v))]) ∧ Below w.heap.size w w' := by
  have hh := hiOf_lt v
  have hl := loOf_lt v
  have H := Lib.hid (dbl_hl hv)
  clear hv
  go_enter Try.func24, Try.ntmps24
  go_wp2
  go_region
  go_wp2
  refine bodyPost_ret (v := .tuple #[.agg #[.int .u64 (bits .or .u64 (IntKind.u64.wrap ((hiOf v : Int) * 2)) ((loOf v : Int) / 9223372036854775808)), .int .u64 (IntKind.u64.wrap ((loOf v : Int) * 2))], .bool ((hiOf v : Int) / 9223372036854775808 == 1)]) (by simp [results, Try.results24, go_sem]) rfl
      ⟨ret_wide_b ?_ ?_ ?_, (((Below.refl _ _).alloc (Nat.le_refl _) _).alloc (by simp) _).drew⟩
  · rw [← H.out.1]
    have h1 : IntKind.u64.wrap ((hiOf v : Int) * 2) = ((hiOf v * 2 % 18446744073709551616 : Nat) : Int) := Mul64.wrapM (hiOf v * 2)
    rw [h1, show (loOf v : Int) / 9223372036854775808 = ((loOf v / 9223372036854775808 : Nat) : Int) from by omega]
    exact bits_or_u64_nat _ _ (by omega) (by omega)
  · rw [← H.out.2.1]
    exact Mul64.wrapM (loOf v * 2)
  · rw [H.out.2.2]
    rw [Bool.eq_iff_iff]
    simp only [beq_iff_eq, decide_eq_true_eq]
    omega

theorem mul_c (x y : Nat) (hx : x < 18446744073709551616) (hy : y < 18446744073709551616) (w : World) :
    Calls Try.prog 9 #[.int .u64 x, .int .u64 y] w fun e w' => e = .returned (.agg #[.int .u64 (hiOf (x * y) : Nat), .int .u64 (loOf (x * y) : Nat)]) ∧ Below w.heap.size w w' := by
  have hm : x * y / 18446744073709551616 < 18446744073709551616 := by
    have := Nat.mul_lt_mul'' hx hy
    omega
  have H := Lib.hid hm
  clear hm
  go_enter Try.func9, Try.ntmps9
  go_wp2_with (go_at_call 23; refine (Try.bits_Mul64 _ _ hx hy _).mono ?_; rintro e w' ⟨rfl, rfl⟩)
  refine bodyPost_ret (v := .agg #[.int .u64 ((x : Int) * y / 18446744073709551616), .int .u64 ((x : Int) * y % 18446744073709551616)]) (by simp [results, Try.results9, go_sem]) rfl
    ⟨ret_wide ?_ ?_, (Below.refl _ _).alloc (Nat.le_refl _) _⟩
  · unfold hiOf
    rw [Nat.mod_eq_of_lt H.out]
    simp
  · unfold loOf
    simp

theorem run_add64c (x y c : Int) (hx : 0 ≤ x) (hy : 0 ≤ y) (hc0 : 0 ≤ c) (hc : c ≤ 1) (w : World) : (callFunc 25 #[.int .u64 x, .int .u64 y, .int .u64 c]).run Try.prog w =
      .ok (.value (.tuple #[.int .u64 ((x + y + c) % 18446744073709551616), .int .u64 ((x + y + c) / 18446744073709551616)])) w := by
  rw [run_callFunc_extern Try.func25 (by kernel_rfl) (by kernel_rfl) (by kernel_rfl) (e := add64Entry) (by kernel_rfl), run_add64 x y c hx hy hc0 hc]
  rfl

set_option maxHeartbeats 400000 in
theorem add_c (u v : Nat) (hu : u < M) (hv : v < M) (w : World) :
    Calls Try.prog 11 #[.agg #[.int .u64 (hiOf u : Nat), .int .u64 (loOf u : Nat)], .agg #[.int .u64 (hiOf v : Nat), .int .u64 (loOf v : Nat)]] w fun e w' =>
      e = .returned (.tuple #[.agg #[.int .u64 (hiOf (u + v) : Nat), .int .u64 (loOf (u + v) : Nat)], .bool (ovf (u + v))]) ∧ Below w.heap.size w w' := by
  have uh := hiOf_lt u
  have ul := loOf_lt u
  have vh := hiOf_lt v
  have vl := loOf_lt v
  have H := Lib.hid (add_hl hu hv)
  have a1 := fun W => run_add64c (loOf u) (loOf v) 0 (by omega) (by omega) (by omega) (by omega) W
  have a2 := fun W => run_add64c (hiOf u) (hiOf v) (((loOf u : Int) + (loOf v : Int)) / 18446744073709551616) (by omega) (by omega) (by omega) (by omega) W
  simp only [Int.add_zero] at a1
  clear hu hv
  go_enter Try.func11, Try.ntmps11
  go_wp2
  refine bodyPost_ret (v := .tuple #[.agg #[.int .u64 (((hiOf u : Int) + hiOf v + ((loOf u : Int) + loOf v) / 18446744073709551616) % 18446744073709551616), .int .u64 (((loOf u : Int) + loOf v) % 18446744073709551616)],
      .bool (((hiOf u : Int) + hiOf v + ((loOf u : Int) + loOf v) / 18446744073709551616) / 18446744073709551616 != 0)]) (by simp [results, Try.results11, go_sem]) rfl
      ⟨ret_wide_b ?_ ?_ ?_, (((Below.refl _ _).alloc (Nat.le_refl _) _).alloc (by simp) _).alloc (by simp; omega) _⟩
  · rw [← H.out.2.1]; omega
  · rw [← H.out.1]; omega
  · have h3 := H.out.2.2
    clear a1 a2 H
    generalize ovf (u + v) = c at h3 ⊢
    cases c
    · simp only [Bool.false_eq_true, if_false] at h3
      rw [bne_eq_false_iff_eq]; omega
    · simp only [if_true] at h3
      rw [bne_iff_ne]; omega
end Go.Proofs.Ytbkjmcpdeckcgaa
