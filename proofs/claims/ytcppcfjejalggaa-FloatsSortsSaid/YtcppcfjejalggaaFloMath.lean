/-
  Plain facts on floats as their 64 bits, for the statements of layer 4. Nothing of the program is imported.
-/
import Derived.Test.YtcppcfjejalggaaWideKit
set_option linter.unusedSimpArgs false
set_option linter.unusedVariables false
namespace Go.Proofs.Ytcppcfjejalggaa
/-- A float's bits: the sign, the exponent's eleven bits, the fraction's 52. -/
def fSgn (n : Nat) : Bool := decide (9223372036854775808 ≤ n)
def fExp (n : Nat) : Nat := n / 4503599627370496 % 2048
def fFrc (n : Nat) : Nat := n % 4503599627370496
/-- The number m of m times 2^e, and e; e of what is no number is 1000. -/
def fM (n : Nat) : Nat := if fExp n = 2047 then fFrc n else if fExp n = 0 then fFrc n else fFrc n + 4503599627370496
def fE (n : Nat) : Int := if fExp n = 2047 then 1000 else if fExp n = 0 then -1074 else (fExp n : Int) - 1075
/-- The kind. -/
def fKind (n : Nat) : Int :=
  if fE n = 1000 then (if fM n ≠ 0 then 0 else if fSgn n then 1 else 6)
  else if fM n = 0 then (if fSgn n then 3 else 4) else (if fSgn n then 2 else 5)
/-- The order. -/
def fCmp (a b : Nat) : Int :=
  if fKind a ≠ fKind b then (if fKind a < fKind b then -1 else 1)
  else if (fKind a ≠ 2 ∧ fKind a ≠ 5) ∨ a = b then 0
  else if decide (a < b) = decide (fKind a = 5) then -1 else 1
theorem and_mask (a k : Nat) (ha : a < 18446744073709551616) (hk : k ≤ 64) : bits .and .u64 (a : Int) ((2 ^ k - 1 : Nat) : Int) = ((a % 2 ^ k : Nat) : Int) := by
  have h2 : 2 ^ k ≤ 2 ^ 64 := Nat.pow_le_pow_right (by decide) hk
  have hm : 2 ^ k - 1 < 18446744073709551616 := by have : (2 : Nat) ^ 64 = 18446744073709551616 := by decide
                                                   have := Nat.pow_pos (n := k) (show 0 < 2 by decide); omega
  rw [(bits_nat .u64 64 (by decide) (fun n h0 h1 => by rw [IntKind.wrap_u64]; omega) a (2 ^ k - 1) (by omega) (by omega)).1, Nat.and_two_pow_sub_one_eq_mod]
theorem exp_and (n : Nat) (hn : n < 18446744073709551616) : bits .and .u64 ((n : Int) / 4503599627370496) 2047 = (fExp n : Int) := by
  have h := and_mask (n / 4503599627370496) 11 (by omega) (by decide)
  have e : ((n : Int) / 4503599627370496) = ((n / 4503599627370496 : Nat) : Int) := by omega
  rw [e]
  exact h
theorem frc_and (n : Nat) (hn : n < 18446744073709551616) : bits .and .u64 (n : Int) 4503599627370495 = (fFrc n : Int) := and_mask n 52 hn (by decide)
theorem frc_lt (n : Nat) : fFrc n < 4503599627370496 := Nat.mod_lt _ (by decide)
theorem exp_lt (n : Nat) : fExp n < 2048 := Nat.mod_lt _ (by decide)
theorem frc_or {m : Nat} (hm : m < 4503599627370496) : bits .or .u64 (m : Int) 4503599627370496 = ((m + 4503599627370496 : Nat) : Int) := by
  have h := (bits_nat .u64 64 (by decide) (fun n h0 h1 => by rw [IntKind.wrap_u64]; omega) m 4503599627370496 (by omega) (by decide)).2
  refine h.trans ?_
  congr 1
  have e : m ||| 2 ^ 52 = m + 2 ^ 52 := by
    have h2 := Nat.two_pow_add_eq_or_of_lt (i := 52) (b := m) hm 1
    rw [Nat.mul_one] at h2
    rw [Nat.or_comm, Nat.add_comm]
    exact h2.symm
  exact e
theorem sgn_bit {n : Nat} (hn : n < 18446744073709551616) : ((n : Int) / 9223372036854775808 == 1) = fSgn n := by
  unfold fSgn
  by_cases h : 9223372036854775808 ≤ n
  · rw [decide_eq_true h, beq_iff_eq]; omega
  · rw [decide_eq_false h, beq_eq_false_iff_ne]; omega
theorem fKind_range (n : Nat) : 0 ≤ fKind n ∧ fKind n ≤ 6 := by
  unfold fKind
  split
  · split
    · omega
    · split <;> omega
  · split <;> split <;> omega
/-- Where a float stands among those of its kind. -/
def fOff (k : Int) (n : Nat) : Int := if k = 5 then (n : Int) else if k = 2 then -(n : Int) else 0
theorem fOff_five (n : Nat) : fOff 5 n = n := by simp [fOff]
theorem fOff_two (n : Nat) : fOff 2 n = -(n : Int) := by simp [fOff]
theorem fOff_other {k : Int} (h5 : k ≠ 5) (h2 : k ≠ 2) (n : Nat) : fOff k n = 0 := by simp [fOff, h5, h2]
theorem fOff_range {k : Int} {n : Nat} (h : n < 18446744073709551616) : -18446744073709551616 < fOff k n ∧ fOff k n < 18446744073709551616 := by
  unfold fOff
  split
  · omega
  · split <;> omega
/-- Each float's place in the row of all. -/
def fRank (n : Nat) : Int := fKind n * 36893488147419103232 + fOff (fKind n) n
theorem fCmp_rank {a b : Nat} (ha : a < 18446744073709551616) (hb : b < 18446744073709551616) : fCmp a b = if fRank a < fRank b then -1 else if fRank b < fRank a then 1 else 0 := by
  unfold fCmp fRank
  by_cases hab : a = b
  · subst hab
    rw [if_neg (fun h => h rfl), if_pos (.inr rfl), if_neg (by omega), if_neg (by omega)]
  · generalize fKind a = k at *
    generalize fKind b = l at *
    have oa := fOff_range (k := k) ha; have ob := fOff_range (k := l) hb
    by_cases hkl : k = l
    · subst hkl
      rw [if_neg (fun h : k ≠ k => h rfl)]
      by_cases h5 : k = 5
      · subst h5
        rw [fOff_five, fOff_five, if_neg (by rintro (h | h); exact h.2 rfl; exact hab h)]
        by_cases hlt : a < b
        · rw [decide_eq_true hlt, if_pos (by decide), if_pos (by omega)]
        · rw [decide_eq_false hlt, if_neg (by decide), if_neg (by omega), if_pos (by omega)]
      · by_cases h2 : k = 2
        · subst h2
          rw [fOff_two, fOff_two, if_neg (by rintro (h | h); exact h.1 rfl; exact hab h)]
          by_cases hlt : a < b
          · rw [decide_eq_true hlt, if_neg (by decide), if_neg (by omega), if_pos (by omega)]
          · rw [decide_eq_false hlt, if_pos (by decide), if_pos (by omega)]
        · rw [fOff_other h5 h2, fOff_other h5 h2, if_pos (.inl ⟨h2, h5⟩), if_neg (by omega), if_neg (by omega)]
    · rw [if_pos hkl]
      generalize fOff k a = x at *
      generalize fOff l b = y at *
      by_cases hlt : k < l
      · rw [if_pos hlt, if_pos (by omega)]
      · rw [if_neg hlt, if_neg (by omega), if_pos (by omega)]
theorem fCmp_self (a : Nat) (ha : a < 18446744073709551616) : fCmp a a = 0 := by rw [fCmp_rank ha ha, if_neg (by omega), if_neg (by omega)]
theorem fCmp_anti {a b : Nat} (ha : a < 18446744073709551616) (hb : b < 18446744073709551616) : fCmp a b = -fCmp b a := by
  rw [fCmp_rank ha hb, fCmp_rank hb ha]
  generalize fRank a = x; generalize fRank b = y
  split
  · rw [if_neg (by omega)]
  · split <;> rfl
theorem fCmp_trans {a b c : Nat} (ha : a < 18446744073709551616) (hb : b < 18446744073709551616) (hc : c < 18446744073709551616) : 0 < fCmp a b ∨ 0 < fCmp b c ∨ fCmp a c ≤ 0 := by
  rw [fCmp_rank ha hb, fCmp_rank hb hc, fCmp_rank ha hc]
  generalize fRank a = x; generalize fRank b = y; generalize fRank c = z
  by_cases h1 : y < x
  · left; rw [if_neg (by omega), if_pos h1]; decide
  · by_cases h2 : z < y
    · right; left; rw [if_neg (by omega), if_pos h2]; decide
    · right; right
      split
      · decide
      · rw [if_neg (by omega)]; decide
/-! ### A wide number, halved -/
theorem half_hi (v : Nat) (hv : v < M) : hiOf v / 2 = hiOf (v / 2) := by
  have hM : M = 340282366920938463463374607431768211456 := rfl
  unfold hiOf
  omega
theorem half_lo (v : Nat) : loOf (v / 2) = loOf v / 2 + (hiOf v % 2) * 9223372036854775808 := by
  unfold hiOf loOf
  omega
theorem half_or (v : Nat) : bits .or .u64 ((loOf v : Int) / 2) (IntKind.u64.wrap ((hiOf v : Int) * 9223372036854775808)) = ((loOf (v / 2) : Nat) : Int) := by
  have hl := loOf_lt v
  have e1 : ((loOf v : Int) / 2) = ((loOf v / 2 : Nat) : Int) := by omega
  have e2 : IntKind.u64.wrap ((hiOf v : Int) * 9223372036854775808) = (((hiOf v % 2) * 9223372036854775808 : Nat) : Int) := by rw [IntKind.wrap_u64]; omega
  rw [e1, e2, (bits_nat .u64 64 (by decide) (fun n h0 h1 => by rw [IntKind.wrap_u64]; omega) (loOf v / 2) ((hiOf v % 2) * 9223372036854775808) (by omega) (by omega)).2, half_lo]
  congr 1
  have h2 := Nat.two_pow_add_eq_or_of_lt (i := 63) (b := loOf v / 2) (by omega) (hiOf v % 2)
  rw [Nat.or_comm, Nat.add_comm (loOf v / 2)]
  have e3 : (hiOf v % 2) * 9223372036854775808 = 2 ^ 63 * (hiOf v % 2) := by rw [Nat.mul_comm]
  rw [e3]
  exact h2.symm
end Go.Proofs.Ytcppcfjejalggaa
