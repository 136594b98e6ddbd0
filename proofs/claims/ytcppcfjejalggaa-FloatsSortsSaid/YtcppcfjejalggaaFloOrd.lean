/-
  Plain facts on the order of floats: what IEEE 754's comparison of two words says, by their bits. Nothing of the program is imported.
-/
import Derived.Test.YtcppcfjejalggaaFloMath4
import Derived.Laws.FloatArith
set_option linter.unusedSimpArgs false
set_option linter.unusedVariables false
namespace Go.Proofs.Ytcppcfjejalggaa
/-- A float's bits without the sign; NaNs are those above the infinity. -/
def fAbs (n : Nat) : Nat := n % 9223372036854775808
/-- A float's place on the line (both zeros are at 0). -/
def fKey (n : Nat) : Int := if fSgn n = true then -(fAbs n : Int) else (fAbs n : Int)
def cmpI (x y : Int) : Ordering := if x < y then .lt else if x = y then .eq else .gt
theorem compare_I (x y : Int) : compare x y = cmpI x y := rfl
theorem cmpI_scale (x y : Int) (c : Nat) (hc : 0 < c) : cmpI (x * c) (y * c) = cmpI x y := by
  have hc' : (0 : Int) < (c : Int) := by omega
  unfold cmpI
  by_cases h : x < y
  · rw [if_pos h, if_pos (Int.mul_lt_mul_of_pos_right h hc')]
  · by_cases he : x = y
    · subst he; rw [if_neg (Int.lt_irrefl _), if_neg (Int.lt_irrefl _), if_pos rfl, if_pos rfl]
    · have hl : y < x := by omega
      have := Int.mul_lt_mul_of_pos_right hl hc'
      rw [if_neg (by omega), if_neg (by omega), if_neg (by omega), if_neg (by omega)]
/-- The size of a word without its sign, in units of the least one. -/
def rungV (r : Nat) : Nat := if r < 4503599627370496 then r else (4503599627370496 + r % 4503599627370496) * 2 ^ (r / 4503599627370496 - 1)
theorem rungV_step (r : Nat) : rungV r < rungV (r + 1) := by
  unfold rungV
  by_cases h1 : r + 1 < 4503599627370496
  · rw [if_pos (by omega), if_pos h1]; omega
  · by_cases h2 : r + 1 = 4503599627370496
    · have h0 : r = 4503599627370495 := by omega
      subst h0
      decide
    · rw [if_neg (by omega), if_neg h1]
      by_cases h3 : (r + 1) % 4503599627370496 = 0
      · have e1 : (r + 1) / 4503599627370496 - 1 = (r / 4503599627370496 - 1) + 1 := by omega
        have e2 : r % 4503599627370496 = 4503599627370495 := by omega
        rw [e1, h3, e2, Nat.pow_succ]
        have := Nat.pow_pos (n := r / 4503599627370496 - 1) (show 0 < 2 by decide)
        omega
      · have e1 : (r + 1) / 4503599627370496 = r / 4503599627370496 := by omega
        have e2 : (r + 1) % 4503599627370496 = r % 4503599627370496 + 1 := by omega
        rw [e1, e2]
        exact Nat.mul_lt_mul_of_pos_right (by omega) (Nat.pow_pos (by decide))
theorem rungV_mono {r s : Nat} (h : r < s) : rungV r < rungV s := by
  induction s with
  | zero => exact absurd h (Nat.not_lt_zero _)
  | succ s ih =>
    rcases Nat.lt_or_ge r s with hl | hl
    · exact Nat.lt_trans (ih hl) (rungV_step s)
    · have : r = s := by omega
      subst this
      exact rungV_step r
theorem rungV_zero : rungV 0 = 0 := rfl
def sg (s : Bool) (r : Nat) : Int := if s = true then -(r : Int) else (r : Int)
theorem cmp_sg (s t : Bool) (r q : Nat) : cmpI (sg s (rungV r)) (sg t (rungV q)) = cmpI (sg s r) (sg t q) := by
  have z := rungV_zero
  have hr : r = 0 ∨ 0 < rungV r := (Nat.eq_zero_or_pos r).imp id (fun h => by have := rungV_mono h; omega)
  have hq : q = 0 ∨ 0 < rungV q := (Nat.eq_zero_or_pos q).imp id (fun h => by have := rungV_mono h; omega)
  have hrz : r = 0 → rungV r = 0 := fun h => by rw [h]; exact z
  have hqz : q = 0 → rungV q = 0 := fun h => by rw [h]; exact z
  rcases Nat.lt_trichotomy r q with h | h | h
  · have := rungV_mono h
    generalize rungV r = R at *; generalize rungV q = Q at *
    unfold cmpI sg
    cases s <;> cases t <;> simp <;> (repeat' split) <;> first | rfl | omega
  · subst h
    generalize rungV r = R at *
    unfold cmpI sg
    cases s <;> cases t <;> simp <;> (repeat' split) <;> first | rfl | omega
  · have := rungV_mono h
    generalize rungV r = R at *; generalize rungV q = Q at *
    unfold cmpI sg
    cases s <;> cases t <;> simp <;> (repeat' split) <;> first | rfl | omega
theorem sgn_is {n : Nat} (h : n < 18446744073709551616) : (n / 9223372036854775808 % 2 == 1) = fSgn n := by
  unfold fSgn
  by_cases hh : 9223372036854775808 ≤ n
  · rw [decide_eq_true hh, beq_iff_eq]; omega
  · rw [decide_eq_false hh, beq_eq_false_iff_ne]; omega
theorem read_low {n : Nat} (h : n < 18446744073709551616) (hl : fAbs n < 4503599627370496) : Ieee.double.read n = .number (fSgn n) (fAbs n) (-1074) := by
  have e : Ieee.double.read n = if fAbs n < 4503599627370496 then .number (n / 9223372036854775808 % 2 == 1) (fAbs n) (-1074) else if fAbs n < 9218868437227405312 then .number (n / 9223372036854775808 % 2 == 1) (4503599627370496 + fAbs n % 4503599627370496) (-1074 + (fAbs n / 4503599627370496 - 1 : Nat)) else if fAbs n = 9218868437227405312 then .infinity (n / 9223372036854775808 % 2 == 1) else .nan (n / 9223372036854775808 % 2 == 1) (fAbs n - 9218868437227405312) := rfl
  rw [e, if_pos hl, sgn_is h]
theorem read_mid {n : Nat} (h : n < 18446744073709551616) (h1 : 4503599627370496 ≤ fAbs n) (h2 : fAbs n < 9218868437227405312) :
    Ieee.double.read n = .number (fSgn n) (4503599627370496 + fAbs n % 4503599627370496) (-1074 + (fAbs n / 4503599627370496 - 1 : Nat)) := by
  have e : Ieee.double.read n = if fAbs n < 4503599627370496 then .number (n / 9223372036854775808 % 2 == 1) (fAbs n) (-1074) else if fAbs n < 9218868437227405312 then .number (n / 9223372036854775808 % 2 == 1) (4503599627370496 + fAbs n % 4503599627370496) (-1074 + (fAbs n / 4503599627370496 - 1 : Nat)) else if fAbs n = 9218868437227405312 then .infinity (n / 9223372036854775808 % 2 == 1) else .nan (n / 9223372036854775808 % 2 == 1) (fAbs n - 9218868437227405312) := rfl
  rw [e, if_neg (by omega), if_pos h2, sgn_is h]
theorem read_inf {n : Nat} (h : n < 18446744073709551616) (h1 : fAbs n = 9218868437227405312) : Ieee.double.read n = .infinity (fSgn n) := by
  have e : Ieee.double.read n = if fAbs n < 4503599627370496 then .number (n / 9223372036854775808 % 2 == 1) (fAbs n) (-1074) else if fAbs n < 9218868437227405312 then .number (n / 9223372036854775808 % 2 == 1) (4503599627370496 + fAbs n % 4503599627370496) (-1074 + (fAbs n / 4503599627370496 - 1 : Nat)) else if fAbs n = 9218868437227405312 then .infinity (n / 9223372036854775808 % 2 == 1) else .nan (n / 9223372036854775808 % 2 == 1) (fAbs n - 9218868437227405312) := rfl
  rw [e, if_neg (by omega), if_neg (by omega), if_pos h1, sgn_is h]
theorem read_nan {n : Nat} (h : n < 18446744073709551616) (h1 : 9218868437227405312 < fAbs n) : Ieee.double.read n = .nan (fSgn n) (fAbs n - 9218868437227405312) := by
  have e : Ieee.double.read n = if fAbs n < 4503599627370496 then .number (n / 9223372036854775808 % 2 == 1) (fAbs n) (-1074) else if fAbs n < 9218868437227405312 then .number (n / 9223372036854775808 % 2 == 1) (4503599627370496 + fAbs n % 4503599627370496) (-1074 + (fAbs n / 4503599627370496 - 1 : Nat)) else if fAbs n = 9218868437227405312 then .infinity (n / 9223372036854775808 % 2 == 1) else .nan (n / 9223372036854775808 % 2 == 1) (fAbs n - 9218868437227405312) := rfl
  rw [e, if_neg (by omega), if_neg (by omega), if_neg (by omega), sgn_is h]
/-- What a finite word stands for: its size in units of the least one, said by m and e. -/
theorem read_fin {n : Nat} (h : n < 18446744073709551616) (h2 : fAbs n < 9218868437227405312) :
    ∃ (m p : Nat), Ieee.double.read n = .number (fSgn n) m (-1074 + (p : Int)) ∧ m * 2 ^ p = rungV (fAbs n) := by
  by_cases hl : fAbs n < 4503599627370496
  · refine ⟨fAbs n, 0, ?_, ?_⟩
    · rw [read_low h hl]; rfl
    · unfold rungV; rw [if_pos hl, Nat.pow_zero, Nat.mul_one]
  · refine ⟨_, _, read_mid h (by omega) h2, ?_⟩
    unfold rungV; rw [if_neg hl]
theorem signed_mul (s : Bool) (m up c : Nat) : Ieee.signed s m up * (c : Int) = sg s (m * 2 ^ up * c) := by
  unfold Ieee.signed sg
  rw [Nat.shiftLeft_eq]
  cases s
  · simp
  · simp only [if_true, Int.neg_mul, Int.natCast_mul]
theorem order_fin {a b : Nat} (ha : a < 18446744073709551616) (hb : b < 18446744073709551616) (na : fAbs a < 9218868437227405312) (nb : fAbs b < 9218868437227405312) :
    Ieee.double.order a b = some (cmpI (fKey a) (fKey b)) := by
  obtain ⟨m, p, e1, v1⟩ := read_fin ha na
  obtain ⟨k, q, e2, v2⟩ := read_fin hb nb
  unfold Ieee.Format.order
  rw [e1, e2]
  unfold Ieee.Datum.order
  simp only [compare_I]
  congr 1
  have hk : ∀ n, fKey n = sg (fSgn n) (fAbs n) := fun n => rfl
  rw [hk, hk, ← cmp_sg, ← v1, ← v2]
  rcases Nat.le_total p q with hpq | hpq
  · have hmin : min (-1074 + (p : Int)) (-1074 + (q : Int)) = -1074 + (p : Int) := by omega
    rw [hmin, show (-1074 + (p : Int) - (-1074 + (p : Int))).toNat = 0 from by omega, show (-1074 + (q : Int) - (-1074 + (p : Int))).toNat = q - p from by omega]
    rw [← cmpI_scale _ _ (2 ^ p) (Nat.pow_pos (by decide)), signed_mul, signed_mul, Nat.pow_zero, Nat.mul_one, Nat.mul_assoc k, ← Nat.pow_add, show q - p + p = q from by omega]
  · have hmin : min (-1074 + (p : Int)) (-1074 + (q : Int)) = -1074 + (q : Int) := by omega
    rw [hmin, show (-1074 + (q : Int) - (-1074 + (q : Int))).toNat = 0 from by omega, show (-1074 + (p : Int) - (-1074 + (q : Int))).toNat = p - q from by omega]
    rw [← cmpI_scale _ _ (2 ^ q) (Nat.pow_pos (by decide)), signed_mul, signed_mul, Nat.pow_zero, Nat.mul_one, Nat.mul_assoc m, ← Nat.pow_add, show p - q + q = p from by omega]
/-- What comparison says of two words that are no NaN. -/
theorem order_key {a b : Nat} (ha : a < 18446744073709551616) (hb : b < 18446744073709551616) (na : fAbs a ≤ 9218868437227405312) (nb : fAbs b ≤ 9218868437227405312) :
    Ieee.double.order a b = some (cmpI (fKey a) (fKey b)) := by
  rcases Nat.lt_or_ge (fAbs a) 9218868437227405312 with h1 | h1
  · rcases Nat.lt_or_ge (fAbs b) 9218868437227405312 with h2 | h2
    · exact order_fin ha hb h1 h2
    · have eb : fAbs b = 9218868437227405312 := by omega
      obtain ⟨m, p, e1, v1⟩ := read_fin ha h1
      unfold Ieee.Format.order
      rw [e1, read_inf hb eb]
      unfold Ieee.Datum.order fKey cmpI
      simp only [eb]
      generalize fAbs a = x at *
      cases fSgn a <;> cases fSgn b <;> simp <;> (repeat' split) <;> first | rfl | omega
  · have ea : fAbs a = 9218868437227405312 := by omega
    rcases Nat.lt_or_ge (fAbs b) 9218868437227405312 with h2 | h2
    · obtain ⟨m, p, e1, v1⟩ := read_fin hb h2
      unfold Ieee.Format.order
      rw [e1, read_inf ha ea]
      unfold Ieee.Datum.order fKey cmpI
      simp only [ea]
      generalize fAbs b = x at *
      cases fSgn a <;> cases fSgn b <;> simp <;> (repeat' split) <;> first | rfl | omega
    · have eb : fAbs b = 9218868437227405312 := by omega
      unfold Ieee.Format.order
      rw [read_inf ha ea, read_inf hb eb]
      unfold Ieee.Datum.order fKey
      rw [ea, eb]
      cases fSgn a <;> cases fSgn b <;> rfl
theorem order_nan1 {a : Nat} (ha : a < 18446744073709551616) (h : 9218868437227405312 < fAbs a) (b : Nat) : Ieee.double.order a b = none := by
  unfold Ieee.Format.order
  rw [read_nan ha h]
  unfold Ieee.Datum.order
  rfl
theorem order_nan2 {b : Nat} (hb : b < 18446744073709551616) (h : 9218868437227405312 < fAbs b) (a : Nat) : Ieee.double.order a b = none := by
  unfold Ieee.Format.order
  rw [read_nan hb h]
  unfold Ieee.Datum.order
  cases Ieee.double.read a <;> rfl
/-- The kind, by the bits without the sign. -/
theorem kind_abs {n : Nat} (h : n < 18446744073709551616) : fKind n = if 9218868437227405312 < fAbs n then 0 else if fAbs n = 9218868437227405312 then (if fSgn n = true then 1 else 6) else if fAbs n = 0 then (if fSgn n = true then 3 else 4) else (if fSgn n = true then 2 else 5) := by
  have hx : fExp n = fAbs n / 4503599627370496 := by unfold fExp fAbs; omega
  have hf : fFrc n = fAbs n % 4503599627370496 := by unfold fFrc fAbs; omega
  have hr : fAbs n < 9223372036854775808 := Nat.mod_lt _ (by decide)
  unfold fKind fE fM
  rw [hx, hf]
  generalize fAbs n = r at *
  cases fSgn n <;> simp <;> (repeat' split) <;> first | rfl | omega
end Go.Proofs.Ytcppcfjejalggaa
