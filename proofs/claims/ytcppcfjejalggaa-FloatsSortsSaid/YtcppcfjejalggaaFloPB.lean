/-
  Contracts of the library's functions that split a float and put one together (math.Frexp, math.Ldexp), for words that are finite and not below zero.
-/
import Derived.Test.YtcppcfjejalggaaFloPA
import Derived.Laws.BitsAllLaws
set_option linter.unusedSimpArgs false
set_option linter.unusedVariables false
namespace Go.Proofs.Ytcppcfjejalggaa.LP
open Go.RowKit
theorem abs_bits (n : Nat) (hn : n < 18446744073709551616) : bits .andNot .u64 (n : Int) 9223372036854775808 = ((fAbs n : Nat) : Int) := by
  have h := u64_andNot_nat n 9223372036854775808 hn (by decide)
  refine h.trans ?_
  congr 1
  exact Nat.and_two_pow_sub_one_eq_mod n 63
theorem frac_bits (X F : Nat) (hX : X < 2048) (hF : F < 4503599627370496) : bits .andNot .u64 ((X * 4503599627370496 + F : Nat) : Int) 9218868437227405312 = (F : Int) := by
  have h := u64_andNot_nat (X * 4503599627370496 + F) 9218868437227405312 (by omega) (by decide)
  refine h.trans ?_
  congr 1
  have e : 18446744073709551615 - 9218868437227405312 = (2 ^ 63 ||| (2 ^ 52 - 1) : Nat) := by decide
  have z : ∀ a : Nat, a < 2 ^ 63 → a &&& 2 ^ 63 = 0 := by
    intro a ha
    apply Nat.eq_of_testBit_eq
    intro i
    rw [Nat.testBit_and, Nat.testBit_two_pow, Nat.zero_testBit]
    by_cases hi : 63 = i
    · subst hi; rw [Nat.testBit_lt_two_pow ha]; rfl
    · rw [decide_eq_false hi, Bool.and_false]
  rw [e, Nat.and_or_distrib_left, z _ (by omega), Nat.zero_or, Nat.and_two_pow_sub_one_eq_mod]
  omega
theorem or_up (Y F : Nat) (hY : Y < 2048) (hF : F < 4503599627370496) : bits .or .u64 (F : Int) ((Y * 4503599627370496 : Nat) : Int) = ((Y * 4503599627370496 + F : Nat) : Int) := by
  have h := (bits_nat .u64 64 (by decide) (fun n h0 h1 => by rw [IntKind.wrap_u64]; omega) F (Y * 4503599627370496) (by omega) (by omega)).2
  refine h.trans ?_
  congr 1
  have h2 := Nat.two_pow_add_eq_or_of_lt (i := 52) (b := F) hF Y
  rw [Nat.or_comm]
  have e : Y * 4503599627370496 = 2 ^ 52 * Y := by rw [Nat.mul_comm]
  rw [e]
  exact h2.symm
theorem fin_key {n : Nat} (h : n < 9223372036854775808) : fAbs n = n ∧ fKey n = (n : Int) := by
  have h1 : fAbs n = n := by unfold fAbs; omega
  have h2 : fSgn n = false := by unfold fSgn; rw [decide_eq_false_iff_not]; omega
  refine ⟨h1, ?_⟩
  unfold fKey
  rw [h2, h1, if_neg (by decide)]
theorem abs_c (n : Nat) (hn : n < 18446744073709551616) (w : World) : Calls Try.prog 27 #[.float .f64 n] w fun e w' => e = .returned (.float .f64 (fAbs n)) ∧ w = w' := by
  have HB := LR.bits_run n
  have HF := LR.from_run (fAbs n)
  have ha := abs_bits n hn
  generalize fAbs n = m at *
  generalize (n : Int) = N at *
  generalize (m : Int) = J at *
  go_enter Try.func27, Try.ntmps27
  go_wp2
  go_ret
  exact ⟨rfl, rfl⟩
theorem inf_c (n : Nat) (h : n < 9218868437227405312) (w : World) : Calls Try.prog 72 #[.float .f64 n, .int .i64 0] w fun e w' => e = .returned (.bool false) ∧ w = w' := by
  have ha := abs_c n (by omega)
  rw [(fin_key (n := n) (by omega)).1] at ha
  have o := ord_c (n := n) (c := 9218868437227405311) (by omega) (by decide) (by rw [(fin_key (n := n) (by omega)).1]; omega) (by decide) key_max
  have t : (FloatKind.f64.format.order n 9218868437227405311 == some .gt) = false := by
    rw [o, (fin_key (n := n) (by omega)).2]
    by_cases he : (n : Int) = 9218868437227405311
    · rw [eq_of he]; rfl
    · rw [lt_of (by omega)]; rfl
  have HA := Lib.hid ha
  clear ha o
  go_enter Try.func72, Try.ntmps72
  go_wp2_with fail
  refine (HA.out _).mono ?_; rintro e w' ⟨rfl, rfl⟩
  go_wp2
  go_ret
  exact ⟨rfl, rfl⟩
theorem isnan_c (n : Nat) (h : n < 9218868437227405312) (w : World) : Calls Try.prog 73 #[.float .f64 n] w fun e w' => e = .returned (.bool false) ∧ w = w' := by
  have t := nan_val (n := n) (by omega)
  rw [(fin_key (n := n) (by omega)).1, decide_eq_false (by omega)] at t
  go_enter Try.func73, Try.ntmps73
  go_wp2
  go_ret
  exact ⟨rfl, rfl⟩
theorem norm_c (n : Nat) (h0 : 0 < n) (h : n < 9218868437227405312) (w : World) :
    Calls Try.prog 74 #[.float .f64 n] w fun e w' => e = .returned (.tuple #[.float .f64 (nz n), .int .i64 (if n < 4503599627370496 then -52 else 0)]) ∧ w = w' := by
  have ha := abs_c n (by omega)
  have fk := fin_key (n := n) (by omega)
  rw [fk.1] at ha
  have o := ord_c (n := n) (c := 4503599627370496) (by omega) (by decide) (by rw [fk.1]; omega) (by decide) (show fKey 4503599627370496 = 4503599627370496 from by decide)
  rw [fk.2] at o
  have HA := Lib.hid ha
  clear ha fk
  by_cases hl : n < 4503599627370496
  · rw [lt_of (by omega)] at o
    have hm : ∀ w, (binOp .mul 22 (.float .f64 n) (.float .f64 4841369599423283200)).run Try.prog w = .ok (.float .f64 (nz n)) w := fun w => run_float_arith w .mul _ .f64 _ _ _ (mul_big h0 hl)
    rw [if_pos hl]
    clear hl h h0
    generalize nz n = z at *
    go_enter Try.func74, Try.ntmps74
    go_wp2_with fail
    refine (HA.out _).mono ?_; rintro e w' ⟨rfl, rfl⟩
    go_wp2
    exact bodyPost_ret (v := .tuple #[.float .f64 z, .int .i64 (-52)]) (by simp [results, Try.results74, go_sem]) rfl ⟨rfl, rfl⟩
  · have t : (FloatKind.f64.format.order n 4503599627370496 == some .lt) = false := by
      rw [o]
      by_cases he : (n : Int) = 4503599627370496
      · rw [eq_of he]; rfl
      · rw [gt_of (by omega)]; rfl
    have hz : nz n = n := by unfold nz; rw [if_neg hl]
    rw [if_neg hl, hz]
    clear hl h h0 o hz
    go_enter Try.func74, Try.ntmps74
    go_wp2_with fail
    refine (HA.out _).mono ?_; rintro e w' ⟨rfl, rfl⟩
    go_wp2
    exact bodyPost_ret (v := .tuple #[.float .f64 n, .int .i64 0]) (by simp [results, Try.results74, go_sem]) rfl ⟨rfl, rfl⟩
theorem zero_no {n : Nat} (h0 : 0 < n) (h : n < 9218868437227405312) : (FloatKind.f64.format.order n 0 == some .eq) = false := by
  have fk := fin_key (n := n) (by omega)
  have o := ord_c (n := n) (c := 0) (by omega) (by decide) (by rw [fk.1]; omega) (by decide) key_zero
  rw [o, fk.2, gt_of (by omega)]; rfl
theorem field_shift (X F : Nat) (hF : F < 4503599627370496) : ((X * 4503599627370496 + F : Nat) : Int) / 4503599627370496 = (X : Int) := by omega
theorem field_and (X : Nat) (hX : X < 2048) : bits .and .u64 (X : Int) 2047 = (X : Int) := by
  have h := and_mask X 11 (by omega) (by decide)
  refine h.trans ?_
  congr 1
  exact Nat.mod_eq_of_lt hX
set_option maxRecDepth 100000 in
set_option maxHeartbeats 2000000 in
theorem frexp_in (n z y : Nat) (Z Y f x s : Int) (t0 : (FloatKind.f64.format.order n 0 == some .eq) = false)
    (i1 : ∀ w, Calls Try.prog 72 #[.float .f64 n, .int .i64 0] w fun e w' => e = .returned (.bool false) ∧ w = w')
    (i2 : ∀ w, Calls Try.prog 73 #[.float .f64 n] w fun e w' => e = .returned (.bool false) ∧ w = w')
    (i3 : ∀ w, Calls Try.prog 74 #[.float .f64 n] w fun e w' => e = .returned (.tuple #[.float .f64 z, .int .i64 s]) ∧ w = w')
    (hs : s = -52 ∨ s = 0) (b1 : ∀ w, (callFunc 16 #[.float .f64 z]).run Try.prog w = .ok (.value (.int .u64 Z)) w)
    (b2 : Z / 4503599627370496 = x) (b3 : bits .and .u64 x 2047 = x) (b4 : bits .andNot .u64 Z 9218868437227405312 = f) (b5 : bits .or .u64 f 4602678819172646912 = Y)
    (b6 : ∀ w, (callFunc 25 #[.int .u64 Y]).run Try.prog w = .ok (.value (.float .f64 y)) w) (hx0 : 0 ≤ x) (hx : x < 2048) (w : World) :
    Calls Try.prog 61 #[.float .f64 n] w fun e w' => e = .returned (.tuple #[.float .f64 y, .int .i64 (s + (x - 1023 + 1))]) ∧ w = w' := by
  have I1 := Lib.hid i1; have I2 := Lib.hid i2; have I3 := Lib.hid i3
  clear i1 i2 i3
  go_enter Try.func61, Try.ntmps61
  go_wp2_with fail
  refine (I1.out _).mono ?_; rintro e w' ⟨rfl, rfl⟩
  go_wp2_with fail
  refine (I2.out _).mono ?_; rintro e w' ⟨rfl, rfl⟩
  go_wp2_with fail
  refine (I3.out _).mono ?_; rintro e w' ⟨rfl, rfl⟩
  go_wp2
  exact bodyPost_ret (v := .tuple #[.float .f64 y, .int .i64 (s + (x - 1023 + 1))]) (by simp [results, Try.results61, go_sem]) rfl ⟨rfl, rfl⟩
theorem Frexp_of (n y : Nat) (x : Int) (h : ∀ w, Calls Try.prog 61 #[.float .f64 n] w fun e w' => e = .returned (.tuple #[.float .f64 y, .int .i64 x]) ∧ w = w') (w : World) :
    Calls Try.prog 46 #[.float .f64 n] w fun e w' => e = .returned (.tuple #[.float .f64 y, .int .i64 x]) ∧ w = w' := by
  have H := Lib.hid h
  clear h
  go_enter Try.func46, Try.ntmps46
  go_wp2_with fail
  refine (H.out _).mono ?_; rintro e w' ⟨rfl, rfl⟩
  go_wp2
  exact bodyPost_ret (v := .tuple #[.float .f64 y, .int .i64 x]) (by simp [results, Try.results46, go_sem]) rfl ⟨rfl, rfl⟩
/-- A float above zero, split. -/
theorem frexp_c (n X F : Nat) (h0 : 0 < n) (h : n < 9218868437227405312) (hz : nz n = X * 4503599627370496 + F) (hX : X < 2047) (hF : F < 4503599627370496) (s : Int) (hs : (if n < 4503599627370496 then (-52 : Int) else 0) = s) (w : World) :
    Calls Try.prog 46 #[.float .f64 n] w fun e w' => e = .returned (.tuple #[.float .f64 (1022 * 4503599627370496 + F), .int .i64 (s + ((X : Int) - 1023 + 1))]) ∧ w = w' := by
  refine Frexp_of n _ _ (fun w => ?_) w
  have i3 := norm_c n h0 h
  rw [hs, hz] at i3
  exact frexp_in n (X * 4503599627370496 + F) (1022 * 4503599627370496 + F) _ _ F X s (zero_no h0 h) (inf_c n h) (isnan_c n h) i3 (by rw [← hs]; split <;> omega) (LR.bits_run _) (field_shift X F hF) (field_and X (by omega)) (frac_bits X F (by omega) hF)
    (or_up 1022 F (by decide) hF) (LR.from_run _) (by omega) (by omega) w
theorem zero_eq : FloatKind.f64.format.order 0 0 = some .eq := by
  have h : Ieee.double.order 0 0 = some (cmpI (fKey 0) (fKey 0)) := order_key (by decide) (by decide) (by decide) (by decide)
  rw [cmpI_self] at h
  exact h
theorem frexp_zero (w : World) : Calls Try.prog 46 #[.float .f64 0] w fun e w' => e = .returned (.tuple #[.float .f64 0, .int .i64 0]) ∧ w = w' := by
  refine Frexp_of 0 _ _ (fun w => ?_) w
  have t := zero_eq
  go_enter Try.func61, Try.ntmps61
  go_wp2
  exact bodyPost_ret (v := .tuple #[.float .f64 0, .int .i64 0]) (by simp [results, Try.results61, go_sem]) rfl ⟨rfl, rfl⟩
theorem Ldexp_of (n y : Nat) (x : Int) (h : ∀ w, Calls Try.prog 64 #[.float .f64 n, .int .i64 x] w fun e w' => e = .returned (.float .f64 y) ∧ w = w') (w : World) :
    Calls Try.prog 48 #[.float .f64 n, .int .i64 x] w fun e w' => e = .returned (.float .f64 y) ∧ w = w' := by
  have H := Lib.hid h
  clear h
  go_enter Try.func48, Try.ntmps48
  go_wp2_with fail
  refine (H.out _).mono ?_; rintro e w' ⟨rfl, rfl⟩
  go_wp2
  go_ret
  exact ⟨rfl, rfl⟩
theorem ldexp_zero (k : Int) (w : World) : Calls Try.prog 48 #[.float .f64 0, .int .i64 k] w fun e w' => e = .returned (.float .f64 0) ∧ w = w' := by
  refine Ldexp_of 0 _ _ (fun w => ?_) w
  have t := zero_eq
  go_enter Try.func64, Try.ntmps64
  go_wp2
  go_ret
  exact ⟨rfl, rfl⟩
set_option maxRecDepth 100000 in
set_option maxHeartbeats 2000000 in
theorem ldexp_in (n y : Nat) (Z Y f x k S : Int) (t0 : (FloatKind.f64.format.order n 0 == some .eq) = false)
    (i1 : ∀ w, Calls Try.prog 72 #[.float .f64 n, .int .i64 0] w fun e w' => e = .returned (.bool false) ∧ w = w')
    (i2 : ∀ w, Calls Try.prog 73 #[.float .f64 n] w fun e w' => e = .returned (.bool false) ∧ w = w')
    (i3 : ∀ w, Calls Try.prog 74 #[.float .f64 n] w fun e w' => e = .returned (.tuple #[.float .f64 n, .int .i64 0]) ∧ w = w')
    (b1 : ∀ w, (callFunc 16 #[.float .f64 n]).run Try.prog w = .ok (.value (.int .u64 Z)) w)
    (b2 : Z / 4503599627370496 = x) (b3 : bits .and .i64 x 2047 = x) (b4 : bits .andNot .u64 Z 9218868437227405312 = f)
    (b5 : IntKind.u64.wrap ((k + (x - 1023) + 1023) * 4503599627370496) = S) (b7 : bits .or .u64 f S = Y)
    (b6 : ∀ w, (callFunc 25 #[.int .u64 Y]).run Try.prog w = .ok (.value (.float .f64 y)) w)
    (b8 : ∀ w, (binOp .mul 22 (.float .f64 4607182418800017408) (.float .f64 y)).run Try.prog w = .ok (.float .f64 y) w)
    (hx0 : 0 ≤ x) (hx : x < 2048) (hk : -1022 ≤ k + (x - 1023)) (hk2 : k + (x - 1023) ≤ 1023) (w : World) :
    Calls Try.prog 64 #[.float .f64 n, .int .i64 k] w fun e w' => e = .returned (.float .f64 y) ∧ w = w' := by
  have I1 := Lib.hid i1; have I2 := Lib.hid i2; have I3 := Lib.hid i3
  have k0 : -4096 ≤ k := by omega
  have k1 : k ≤ 4096 := by omega
  clear i1 i2 i3
  go_enter Try.func64, Try.ntmps64
  go_wp2_with fail
  refine (I1.out _).mono ?_; rintro e w' ⟨rfl, rfl⟩
  go_wp2_with fail
  refine (I2.out _).mono ?_; rintro e w' ⟨rfl, rfl⟩
  go_wp2_with fail
  refine (I3.out _).mono ?_; rintro e w' ⟨rfl, rfl⟩
  go_wp2
  go_ret
  exact ⟨rfl, rfl⟩
theorem and_i64 (X : Nat) (hX : X < 2048) : bits .and .i64 (X : Int) 2047 = (X : Int) := by
  have h : ∀ x : Fin 2048, bits .and .i64 ((x.val : Nat) : Int) 2047 = ((x.val : Nat) : Int) := by decide +kernel
  exact h ⟨X, hX⟩
/-- A float above zero that isn't among the least ones, times a power of 2. -/
theorem ldexp_c (n X F Y : Nat) (k : Int) (hn : n = X * 4503599627370496 + F) (hX0 : 1 ≤ X) (hX : X < 2047) (hF : F < 4503599627370496) (hY : (X : Int) + k = Y) (hY0 : 1 ≤ Y) (hY1 : Y < 2047) (w : World) :
    Calls Try.prog 48 #[.float .f64 n, .int .i64 k] w fun e w' => e = .returned (.float .f64 (Y * 4503599627370496 + F)) ∧ w = w' := by
  refine Ldexp_of n _ _ (fun w => ?_) w
  have h0 : 0 < n := by omega
  have h : n < 9218868437227405312 := by omega
  have i3 := norm_c n h0 h
  have hz : nz n = n := by unfold nz; rw [if_neg (by omega)]
  rw [hz, if_neg (by omega)] at i3
  have b1 := LR.bits_run n
  have e1 : (n : Int) = ((X * 4503599627370496 + F : Nat) : Int) := by rw [hn]
  have b5 : IntKind.u64.wrap ((k + ((X : Int) - 1023) + 1023) * 4503599627370496) = ((Y * 4503599627370496 : Nat) : Int) := by rw [IntKind.wrap_u64]; omega
  exact ldexp_in n (Y * 4503599627370496 + F) n _ F X k _ (zero_no h0 h) (inf_c n h) (isnan_c n h) i3 b1 (by omega) (and_i64 X (by omega)) (by rw [e1]; exact frac_bits X F (by omega) hF)
    b5 (or_up Y F (by omega) hF) (LR.from_run _) (fun w => run_float_arith w .mul _ .f64 _ _ _ (mul_one_w (by omega) (by omega))) (by omega) (by omega) (by omega) (by omega) w
end Go.Proofs.Ytcppcfjejalggaa.LP
