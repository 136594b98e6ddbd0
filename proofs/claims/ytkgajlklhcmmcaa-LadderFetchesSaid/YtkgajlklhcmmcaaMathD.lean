/-
  Plain facts for layer 1, the third part: shifts as the program makes them, and the quotient of 128 bits by 64 as math/bits reckons it, two digits of 32 bits.
-/
import Derived.Test.YtkgajlklhcmmcaaMathB
import Derived.Lib.BitFns
namespace Go.Proofs.Ytkgajlklhcmmcaa

theorem or_zero (a b : Nat) : (a ||| b = 0) ↔ a = 0 ∧ b = 0 := by
  constructor
  · intro h
    have ha : a ≤ a ||| b := Nat.left_le_or
    have hb : b ≤ a ||| b := Nat.right_le_or
    omega
  · rintro ⟨rfl, rfl⟩; rfl

theorem sh_hi {v n : Nat} (hv : v < M) (h1 : 64 ≤ n) (h2 : n ≤ 127) :
    loOf v * 2 ^ (n - 64) % 18446744073709551616 = hiOf (v * 2 ^ n) ∧ loOf (v * 2 ^ n) = 0 ∧ decide (hiOf v ||| loOf v / 2 ^ (128 - n) = 0) = okN v n := by
  have hvl := val_hl hv
  have hl := loOf_lt v
  have hh := hiOf_lt v
  generalize hiOf v = h at *
  generalize loOf v = l at *
  have e : 2 ^ n = 2 ^ (n - 64) * 18446744073709551616 := by rw [show (18446744073709551616 : Nat) = 2 ^ 64 from rfl, ← Nat.pow_add]; congr 1; omega
  have e2 : (18446744073709551616 : Nat) = 2 ^ (128 - n) * 2 ^ (n - 64) := by rw [show (18446744073709551616 : Nat) = 2 ^ 64 from rfl, ← Nat.pow_add]; congr 1; omega
  have hp : 0 < 2 ^ (n - 64) := Nat.pow_pos (by decide)
  have hp2 : 0 < 2 ^ (128 - n) := Nat.pow_pos (by decide)
  have ev : v * 2 ^ n = (h * 2 ^ (n - 64) * 18446744073709551616 + l * 2 ^ (n - 64)) * 18446744073709551616 := by
    rw [e, ← hvl, ← Nat.mul_assoc, Nat.add_mul, Nat.mul_right_comm]
  refine ⟨?_, ?_, ?_⟩
  · rw [ev]; unfold hiOf; omega
  · rw [ev]; unfold loOf; omega
  · unfold okN
    rw [decide_eq_decide, or_zero, ev]
    have k : l / 2 ^ (128 - n) = 0 ↔ l * 2 ^ (n - 64) < 18446744073709551616 := by
      rw [Nat.div_eq_zero_iff_lt hp2, ← Nat.mul_lt_mul_right hp, ← e2]
    rw [k]
    unfold M
    constructor
    · rintro ⟨rfl, h3⟩; omega
    · intro h3
      have h4 : h = 0 := by
        rcases Nat.eq_zero_or_pos h with h4 | h4
        · exact h4
        · have : 1 * 1 ≤ h * 2 ^ (n - 64) := Nat.mul_le_mul h4 hp
          omega
      subst h4
      omega

theorem sh_lo {v n : Nat} (hv : v < M) (h2 : n < 64) :
    (hiOf v * 2 ^ n % 18446744073709551616 ||| loOf v / 2 ^ (64 - n)) = hiOf (v * 2 ^ n) ∧ loOf v * 2 ^ n % 18446744073709551616 = loOf (v * 2 ^ n) ∧ decide (hiOf v / 2 ^ (64 - n) = 0) = okN v n := by
  have hvl := val_hl hv
  have hl := loOf_lt v
  have hh := hiOf_lt v
  generalize hiOf v = h at *
  generalize loOf v = l at *
  have e2 : (18446744073709551616 : Nat) = 2 ^ (64 - n) * 2 ^ n := by rw [show (18446744073709551616 : Nat) = 2 ^ 64 from rfl, ← Nat.pow_add]; congr 1; omega
  have hp : 0 < 2 ^ n := Nat.pow_pos (by decide)
  have hp2 : 0 < 2 ^ (64 - n) := Nat.pow_pos (by decide)
  have ev : v * 2 ^ n = h * 2 ^ n * 18446744073709551616 + l * 2 ^ n := by
    rw [← hvl, Nat.add_mul, Nat.mul_right_comm]
  have el : l * 2 ^ n / 18446744073709551616 = l / 2 ^ (64 - n) := by
    rw [e2, Nat.mul_div_mul_right _ _ hp]
  have hlt : l / 2 ^ (64 - n) < 2 ^ n := by
    rw [Nat.div_lt_iff_lt_mul hp2, Nat.mul_comm, ← e2]; exact hl
  have em : h * 2 ^ n % 18446744073709551616 = 2 ^ n * (h % 2 ^ (64 - n)) := by
    rw [e2, Nat.mul_mod_mul_right, Nat.mul_comm]
  have hm : h % 2 ^ (64 - n) < 2 ^ (64 - n) := Nat.mod_lt _ hp2
  have hmm : 2 ^ n * (h % 2 ^ (64 - n)) + 2 ^ n ≤ 18446744073709551616 := by
    have : 2 ^ n * (h % 2 ^ (64 - n) + 1) ≤ 2 ^ n * 2 ^ (64 - n) := Nat.mul_le_mul_left _ hm
    rw [Nat.mul_comm (2 ^ n) (2 ^ (64 - n)), ← e2, Nat.mul_add] at this
    omega
  refine ⟨?_, ?_, ?_⟩
  · rw [em, or_low hlt, ev, ← em, ← el]
    rw [← em] at hmm
    rw [← el] at hlt
    unfold hiOf
    omega
  · rw [ev]; unfold loOf; omega
  · unfold okN
    rw [decide_eq_decide, ev]
    have k : h / 2 ^ (64 - n) = 0 ↔ h * 2 ^ n < 18446744073709551616 := by
      rw [Nat.div_eq_zero_iff_lt hp2, ← Nat.mul_lt_mul_right hp, ← e2]
    rw [k]
    have h3 : l * 2 ^ n / 18446744073709551616 < 2 ^ n := by rw [el]; exact hlt
    unfold M
    constructor
    · intro h4
      have h5 : h * 2 ^ n + 2 ^ n ≤ 18446744073709551616 := by
        have : h < 2 ^ (64 - n) := by
          rw [← Nat.mul_lt_mul_right hp, ← e2]; exact h4
        have h6 : (h + 1) * 2 ^ n ≤ 2 ^ (64 - n) * 2 ^ n := Nat.mul_le_mul_right _ this
        rw [← e2, Nat.add_mul] at h6
        omega
      omega
    · intro h4; omega

/-! ### How many bits a number has -/
theorem bitLenAux_is : ∀ (f x : Nat), 0 < x → x < 2 ^ f → 1 ≤ Lib.bitLenAux f x ∧ Lib.bitLenAux f x ≤ f ∧ 2 ^ (Lib.bitLenAux f x - 1) ≤ x ∧ x < 2 ^ Lib.bitLenAux f x
  | 0, x, h0, h => by simp at h; omega
  | f + 1, x, h0, h => by
    simp only [Lib.bitLenAux]
    rw [if_neg (by omega)]
    by_cases h1 : x / 2 = 0
    · have hx : x = 1 := by omega
      subst hx
      have e : Lib.bitLenAux f (1 / 2) = 0 := by
        cases f <;> simp [Lib.bitLenAux]
      rw [e]
      exact ⟨by omega, by omega, by decide, by decide⟩
    · have ih := bitLenAux_is f (x / 2) (by omega) (by rw [Nat.pow_succ] at h; omega)
      generalize Lib.bitLenAux f (x / 2) = L at *
      obtain ⟨a, b, c, d⟩ := ih
      refine ⟨by omega, by omega, ?_, ?_⟩
      · rw [show 1 + L - 1 = (L - 1) + 1 from by omega, Nat.pow_succ]; omega
      · rw [show 1 + L = L + 1 from by omega, Nat.pow_succ]; omega
/-- The shift that lays a divisor's highest bit at the top. -/
theorem norm_is {y : Nat} (h0 : 0 < y) (h : y < 18446744073709551616) : ∃ s : Nat, s ≤ 63 ∧ 64 - (Lib.bitLen y : Int) = (s : Int) ∧ 9223372036854775808 ≤ y * 2 ^ s ∧ y * 2 ^ s < 18446744073709551616 := by
  obtain ⟨a, b, c, d⟩ := bitLenAux_is 64 y h0 h
  refine ⟨64 - Lib.bitLen y, ?_, ?_, ?_, ?_⟩
  · unfold Lib.bitLen; omega
  · unfold Lib.bitLen; omega
  · have e : (9223372036854775808 : Nat) = 2 ^ (Lib.bitLen y - 1) * 2 ^ (64 - Lib.bitLen y) := by
      rw [← Nat.pow_add, show Lib.bitLen y - 1 + (64 - Lib.bitLen y) = 63 from by unfold Lib.bitLen; omega]
    rw [e]
    exact Nat.mul_le_mul_right _ c
  · have e : (18446744073709551616 : Nat) = 2 ^ Lib.bitLen y * 2 ^ (64 - Lib.bitLen y) := by
      rw [← Nat.pow_add, show Lib.bitLen y + (64 - Lib.bitLen y) = 64 from by unfold Lib.bitLen; omega]
    rw [e]
    exact Nat.mul_lt_mul_of_pos_right d (Nat.pow_pos (by decide))

/-! ### One digit of 32 bits -/
/-- What is known at the loop's head: 'q' is no less than the digit, and its rest by the upper half is 'r'. -/
structure Guess (u y1 y0 c q r : Nat) : Prop where
  eq : q * y1 + r = u
  le : q ≤ 4294967297
  rl : r < 4294967296
  up : u * 4294967296 + c < (q + 1) * (y1 * 4294967296 + y0)

/-- The divisor, its upper half at least 2^31; what is divided, below it. -/
structure Digit (u y1 y0 c : Nat) : Prop where
  h1 : 2147483648 ≤ y1
  h2 : y1 < 4294967296
  h0 : y0 < 4294967296
  hc : c < 4294967296
  hu : u < y1 * 4294967296 + y0

theorem guess_start {u y1 y0 c : Nat} (D : Digit u y1 y0 c) : Guess u y1 y0 c (u / y1) (u % y1) := by
  obtain ⟨h1, h2, h0, hc, hu⟩ := D
  have e : y1 * (u / y1) + u % y1 = u := Nat.div_add_mod _ _
  have hr : u % y1 < y1 := Nat.mod_lt _ (by omega)
  generalize u / y1 = q at *
  generalize u % y1 = r at *
  have e' : q * y1 + r = u := by rw [Nat.mul_comm]; exact e
  refine ⟨e', ?_, by omega, ?_⟩
  · apply Nat.le_of_not_lt
    intro hq
    have : 4294967298 * y1 ≤ q * y1 := Nat.mul_le_mul_right _ hq
    omega
  · have : (q + 1) * (y1 * 4294967296 + y0) = q * y1 * 4294967296 + q * y0 + y1 * 4294967296 + y0 := by
      rw [Nat.add_mul, Nat.mul_add, ← Nat.mul_assoc]; omega
    rw [this]
    omega

theorem prod_form (q y1 y0 : Nat) : q * (y1 * 4294967296 + y0) = q * y1 * 4294967296 + q * y0 := by rw [Nat.mul_add, ← Nat.mul_assoc]

/-- The test said yes: the guess is too great by one at least. -/
theorem guess_step {u y1 y0 c q r : Nat} (D : Digit u y1 y0 c) (G : Guess u y1 y0 c q r) (h : 4294967296 ≤ q ∨ 4294967296 * r + c < q * y0) :
    0 < q ∧ (q - 1) * y1 + (r + y1) = u ∧ q - 1 ≤ 4294967296 ∧ u * 4294967296 + c < (q - 1 + 1) * (y1 * 4294967296 + y0) := by
  obtain ⟨h1, h2, h0, hc, hu⟩ := D
  obtain ⟨ge, gl, gr, gu⟩ := G
  have hq : 0 < q := by
    rcases h with h | h
    · omega
    · rcases Nat.eq_zero_or_pos q with e | e
      · subst e; omega
      · exact e
  obtain ⟨p, rfl⟩ : ∃ p, q = p + 1 := ⟨q - 1, by omega⟩
  rw [Nat.add_sub_cancel]
  rw [Nat.add_mul, Nat.one_mul] at ge
  refine ⟨hq, by omega, by omega, ?_⟩
  rcases h with h | h
  · have : 4294967296 * (y1 * 4294967296 + y0) ≤ (p + 1) * (y1 * 4294967296 + y0) := Nat.mul_le_mul_right _ h
    exact Nat.lt_of_lt_of_le (by omega) this
  · rw [prod_form, Nat.add_mul p 1 y1, Nat.one_mul]
    omega

/-- Where the rest has 33 bits the guess is no greater than the digit. -/
theorem guess_break {u y1 y0 c q r : Nat} (D : Digit u y1 y0 c) (he : q * y1 + r = u) (hq : q ≤ 4294967296) (hr : 4294967296 ≤ r) (hu : u * 4294967296 + c < (q + 1) * (y1 * 4294967296 + y0)) : (u * 4294967296 + c) / (y1 * 4294967296 + y0) = q := by
  obtain ⟨h1, h2, h0, hc, hu'⟩ := D
  have hp : q * y0 ≤ 4294967296 * y0 := Nat.mul_le_mul_right _ hq
  rw [Nat.div_eq_iff (by omega)]
  rw [Nat.add_mul, Nat.one_mul, prod_form] at hu
  rw [prod_form]
  constructor
  · omega
  · omega
/-- Where the test says no the guess is the digit. -/
theorem guess_end {u y1 y0 c q r : Nat} (D : Digit u y1 y0 c) (G : Guess u y1 y0 c q r) (h : ¬ 4294967296 * r + c < q * y0) : (u * 4294967296 + c) / (y1 * 4294967296 + y0) = q := by
  obtain ⟨h1, h2, h0, hc, hu'⟩ := D
  obtain ⟨ge, gl, gr, gu⟩ := G
  rw [Nat.div_eq_iff (by omega)]
  rw [Nat.add_mul, Nat.one_mul, prod_form] at gu
  rw [prod_form]
  constructor
  · omega
  · omega
theorem small_prod {q y0 : Nat} (hq : q < 4294967296) (h0 : y0 < 4294967296) : q * y0 < 18446744073709551616 := by
  have := Nat.mul_lt_mul'' hq h0
  omega

theorem digits_of {T y s u l1 l0 Y q1 r1 q0 r0 : Nat} (hy : 0 < y) (hY : Y = y * 2 ^ s) (hT : T * 2 ^ s = (u * 4294967296 + l1) * 4294967296 + l0)
    (e1 : Y * q1 + r1 = u * 4294967296 + l1) (e0 : Y * q0 + r0 = r1 * 4294967296 + l0) (hr0 : r0 < Y) : q1 * 4294967296 + q0 = T / y ∧ r0 / 2 ^ s = T % y := by
  have hp : 0 < 2 ^ s := Nat.pow_pos (by decide)
  have hYp : 0 < Y := by rw [hY]; exact Nat.mul_pos hy hp
  have ek : Y * (q1 * 4294967296 + q0) + r0 = T * 2 ^ s := by
    rw [hT, Nat.mul_add, ← Nat.mul_assoc]
    omega
  have c1 : T * 2 ^ s / Y = T / y := by rw [hY, Nat.mul_div_mul_right _ _ hp]
  have c2 : T * 2 ^ s % Y = T % y * 2 ^ s := by rw [hY, Nat.mul_mod_mul_right]
  obtain ⟨a, b⟩ := split_unique hYp ek hr0 rfl
  exact ⟨a.symm.trans c1, by rw [← b, c2, Nat.mul_div_cancel _ hp]⟩
/-- The two digits together. -/
theorem digits {T y s u l1 l0 Y : Nat} (hy : 0 < y) (hY : Y = y * 2 ^ s) (hT : T * 2 ^ s = (u * 4294967296 + l1) * 4294967296 + l0) :
    (u * 4294967296 + l1) / Y * 4294967296 + ((u * 4294967296 + l1) % Y * 4294967296 + l0) / Y = T / y ∧ ((u * 4294967296 + l1) % Y * 4294967296 + l0) % Y / 2 ^ s = T % y :=
  digits_of hy hY hT (Nat.div_add_mod _ _) (Nat.div_add_mod _ _) (Nat.mod_lt _ (by rw [hY]; exact Nat.mul_pos hy (Nat.pow_pos (by decide))))

/-- What the shift makes of the divisor and of what is divided. -/
theorem setup {h l y s : Nat} (hh : h < y) (hl : l < 18446744073709551616) (hs : s ≤ 63) (hn1 : 9223372036854775808 ≤ y * 2 ^ s) (hn2 : y * 2 ^ s < 18446744073709551616) :
    ∃ Y1 Y0 U L1 L0 : Nat, y * 2 ^ s / 4294967296 = Y1 ∧ y * 2 ^ s % 4294967296 = Y0 ∧ y * 2 ^ s = Y1 * 4294967296 + Y0 ∧ (h * 2 ^ s ||| l / 2 ^ (64 - s)) = U ∧ h * 2 ^ s < 18446744073709551616 ∧
      l * 2 ^ s % 18446744073709551616 / 4294967296 = L1 ∧ l * 2 ^ s % 18446744073709551616 % 4294967296 = L0 ∧ Digit U Y1 Y0 L1 ∧ L0 < 4294967296 ∧
      (h * 18446744073709551616 + l) * 2 ^ s = (U * 4294967296 + L1) * 4294967296 + L0 := by
  have e2 : (18446744073709551616 : Nat) = 2 ^ (64 - s) * 2 ^ s := by rw [show (18446744073709551616 : Nat) = 2 ^ 64 from rfl, ← Nat.pow_add]; congr 1; omega
  have hp : 0 < 2 ^ s := Nat.pow_pos (by decide)
  have hp2 : 0 < 2 ^ (64 - s) := Nat.pow_pos (by decide)
  have el : l * 2 ^ s / 18446744073709551616 = l / 2 ^ (64 - s) := by rw [e2, Nat.mul_div_mul_right _ _ hp]
  have hlt : l / 2 ^ (64 - s) < 2 ^ s := by rw [Nat.div_lt_iff_lt_mul hp2, Nat.mul_comm, ← e2]; exact hl
  have ho : (h * 2 ^ s ||| l / 2 ^ (64 - s)) = h * 2 ^ s + l / 2 ^ (64 - s) := by rw [Nat.mul_comm h, or_low hlt]
  have hy : h * 2 ^ s + 2 ^ s ≤ y * 2 ^ s := by
    have : (h + 1) * 2 ^ s ≤ y * 2 ^ s := Nat.mul_le_mul_right _ hh
    rw [Nat.add_mul, Nat.one_mul] at this
    exact this
  have et : (h * 18446744073709551616 + l) * 2 ^ s = h * 2 ^ s * 18446744073709551616 + l * 2 ^ s := by rw [Nat.add_mul, Nat.mul_right_comm]
  rw [ho, et, ← el]
  rw [← el] at hlt
  generalize y * 2 ^ s = Y at *
  generalize h * 2 ^ s = H at *
  generalize l * 2 ^ s = L at *
  generalize 2 ^ s = p at *
  exact ⟨_, _, _, _, _, rfl, rfl, by omega, rfl, by omega, rfl, rfl, ⟨by omega, by omega, by omega, by omega, by omega⟩, by omega, by omega⟩
theorem guess_div {u y1 : Nat} (_h : 0 < y1) : u / y1 * y1 ≤ u := Nat.div_mul_le_self u y1
end Go.Proofs.Ytkgajlklhcmmcaa
