/-
  Plain facts for layer 1, the second part: products, shifts, quotients and roots, as the document's own functions reckon them, a bit at a time.
-/
import Derived.Test.YtkgajlklhcmmcaaMath
namespace Go.Proofs.Ytkgajlklhcmmcaa

/-! ### products -/
theorem mul_step (x y k : Nat) : x * (y % 2 ^ (k + 1)) = x * (y % 2 ^ k) + x * 2 ^ k * bitN y k := by
  have e : y % 2 ^ (k + 1) = y % 2 ^ k + 2 ^ k * bitN y k := Nat.mod_pow_succ
  rw [e, Nat.mul_add, Nat.mul_assoc]
theorem part_lt {x k : Nat} (hx : x < 18446744073709551616) (hk : k ≤ 64) : x * 2 ^ k < M := by
  have h1 : 2 ^ k ≤ 2 ^ 64 := Nat.pow_le_pow_right (by decide) hk
  have h2 : x * 2 ^ k ≤ x * 2 ^ 64 := Nat.mul_le_mul_left _ h1
  unfold M
  omega
theorem prod_lt {x y : Nat} (hx : x < 18446744073709551616) (hy : y < 18446744073709551616) : x * y < M := by
  have := Nat.mul_lt_mul'' hx hy
  unfold M
  omega
theorem some_lt {x y k : Nat} (hx : x < 18446744073709551616) (hy : y < 18446744073709551616) : x * (y % 2 ^ k) < M :=
  prod_lt hx (Nat.lt_of_le_of_lt (Nat.mod_le _ _) hy)
theorem twice_part (x k : Nat) : 2 * (x * 2 ^ k) = x * 2 ^ (k + 1) := by rw [Nat.pow_succ, ← Nat.mul_assoc x, Nat.mul_comm 2]

/-! ### shifts -/
theorem dbl_mod_hi (s : Nat) : hiOf (2 * (s % M)) = hiOf (2 * s) ∧ loOf (2 * (s % M)) = loOf (2 * s) := by
  have e : (2 * (s % M)) % M = (2 * s) % M := Nat.mul_mod_mod _ _ _
  exact ⟨by rw [← mod_hi, e, mod_hi], by rw [← mod_lo, e, mod_lo]⟩
def okN (v k : Nat) : Bool := decide (v * 2 ^ k < M)
theorem ok_step (v k : Nat) : okN v (k + 1) = (okN v k && !ovf (2 * (v * 2 ^ k % M))) := by
  unfold okN ovf
  rw [Bool.eq_iff_iff, ← twice_part]
  generalize v * 2 ^ k = s
  simp only [Bool.and_eq_true, Bool.not_eq_true', decide_eq_true_eq, decide_eq_false_iff_not]
  unfold M
  omega

/-! ### quotients -/
def qN (v d j : Nat) : Nat := v / 2 ^ j / d * 2 ^ j
def rN (v d j : Nat) : Nat := v / 2 ^ j % d
theorem rN_lt {v d j : Nat} (hd : 0 < d) : rN v d j < d := Nat.mod_lt _ hd
theorem qN_lt {v d j : Nat} (hv : v < M) : qN v d j < M := by
  have h1 : v / 2 ^ j / d ≤ v / 2 ^ j := Nat.div_le_self _ _
  have h2 : v / 2 ^ j / d * 2 ^ j ≤ v / 2 ^ j * 2 ^ j := Nat.mul_le_mul_right _ h1
  have h3 := Nat.div_mul_le_self v (2 ^ j)
  unfold qN
  omega
theorem q_bit {v d i : Nat} : bitN (qN v d (i + 1)) i = 0 := by
  unfold bitN qN
  have hp : 0 < 2 ^ i := Nat.pow_pos (by decide)
  rw [Nat.pow_succ, Nat.mul_comm (2 ^ i) 2, ← Nat.mul_assoc, Nat.mul_div_cancel _ hp]
  omega
theorem half_v (v i : Nat) : v / 2 ^ i = 2 * (v / 2 ^ (i + 1)) + bitN v i := by
  unfold bitN
  rw [Nat.pow_succ, ← Nat.div_div_eq_div_mul]
  omega
theorem div_step_yes {v d i : Nat} (hd : 0 < d) (h : d ≤ 2 * rN v d (i + 1) + bitN v i) :
    qN v d i = qN v d (i + 1) + 2 ^ i ∧ rN v d i = 2 * rN v d (i + 1) + bitN v i - d := by
  have hb := bitN_le v i
  have hr := rN_lt (v := v) (j := i + 1) hd
  have hv := half_v v i
  have hm : d * (v / 2 ^ (i + 1) / d) + rN v d (i + 1) = v / 2 ^ (i + 1) := Nat.div_add_mod _ _
  have hu := split_unique (p := d) (a := v / 2 ^ i) (b := v / 2 ^ i) (q := 2 * (v / 2 ^ (i + 1) / d) + 1) (r := 2 * rN v d (i + 1) + bitN v i - d) hd
    (by rw [Nat.mul_add, Nat.mul_left_comm, Nat.mul_one]; omega) (by omega) rfl
  unfold qN
  refine ⟨?_, hu.2⟩
  rw [hu.1, Nat.pow_succ, Nat.add_mul]
  congr 1
  · rw [Nat.mul_comm (2 ^ i) 2, ← Nat.mul_assoc, Nat.mul_comm 2]
  · rw [Nat.one_mul]
theorem div_step_no {v d i : Nat} (hd : 0 < d) (h : ¬ d ≤ 2 * rN v d (i + 1) + bitN v i) :
    qN v d i = qN v d (i + 1) ∧ rN v d i = 2 * rN v d (i + 1) + bitN v i := by
  have hv := half_v v i
  have hm : d * (v / 2 ^ (i + 1) / d) + rN v d (i + 1) = v / 2 ^ (i + 1) := Nat.div_add_mod _ _
  have hu := split_unique (p := d) (a := v / 2 ^ i) (b := v / 2 ^ i) (q := 2 * (v / 2 ^ (i + 1) / d)) (r := 2 * rN v d (i + 1) + bitN v i) hd
    (by rw [Nat.mul_left_comm]; omega) (by omega) rfl
  unfold qN
  refine ⟨?_, hu.2⟩
  rw [hu.1, Nat.pow_succ, Nat.mul_comm (2 ^ i) 2, ← Nat.mul_assoc, Nat.mul_comm 2]
theorem div_start {v d : Nat} (hv : v < M) : qN v d 128 = 0 ∧ rN v d 128 = 0 % d := by
  have e : v / 2 ^ 128 = 0 := Nat.div_eq_of_lt (by rw [← M_pow]; exact hv)
  unfold qN rN
  rw [e]
  simp
theorem div_end (v d : Nat) : qN v d 0 = v / d ∧ rN v d 0 = v % d := by unfold qN rN; simp

/-! ### the rounded quotient -/
def upN (v d : Nat) : Nat := if d - v % d ≤ v % d then v / d + 1 else v / d
def rndV (v d : Nat) : Nat := if hiOf (upN v d) = 0 then loOf (upN v d) else 0
def rndE (v d : Nat) : Int := if hiOf (upN v d) = 0 then 0 else 3
theorem q_lt {v d : Nat} (hv : v < M) : v / d < M := Nat.lt_of_le_of_lt (Nat.div_le_self _ _) hv

/-! ### roots -/
def rootFrom (v : Nat) : Nat → Nat → Nat
  | 0, n => n
  | k + 1, n => rootFrom v k (if (n + 2 ^ k) * (n + 2 ^ k) ≤ v then n + 2 ^ k else n)
def rt (v : Nat) : Nat := rootFrom v 64 0
theorem root_yes {v k n : Nat} (h : (n + 2 ^ k) * (n + 2 ^ k) ≤ v) : rootFrom v (k + 1) n = rootFrom v k (n + 2 ^ k) := by show rootFrom v k _ = _; rw [if_pos h]
theorem root_no {v k n : Nat} (h : ¬ (n + 2 ^ k) * (n + 2 ^ k) ≤ v) : rootFrom v (k + 1) n = rootFrom v k n := by show rootFrom v k _ = _; rw [if_neg h]
theorem root_lt {v k : Nat} : ∀ {n : Nat}, rootFrom v k n < n + 2 ^ k ∧ n ≤ rootFrom v k n := by
  induction k with
  | zero => intro n; simp [rootFrom]
  | succ k ih =>
    intro n
    have e2 : 2 ^ (k + 1) = 2 * 2 ^ k := by rw [Nat.pow_succ]; omega
    by_cases h : (n + 2 ^ k) * (n + 2 ^ k) ≤ v
    · rw [root_yes h]; have := ih (n := n + 2 ^ k); omega
    · rw [root_no h]; have := ih (n := n); omega
theorem root_is {v k : Nat} : ∀ {n : Nat}, n * n ≤ v → v < (n + 2 ^ k) * (n + 2 ^ k) → rootFrom v k n * rootFrom v k n ≤ v ∧ v < (rootFrom v k n + 1) * (rootFrom v k n + 1) := by
  induction k with
  | zero => intro n h1 h2; exact ⟨h1, h2⟩
  | succ k ih =>
    intro n h1 h2
    have e2 : n + 2 ^ (k + 1) = n + 2 ^ k + 2 ^ k := by rw [Nat.pow_succ]; omega
    rw [e2] at h2
    by_cases h : (n + 2 ^ k) * (n + 2 ^ k) ≤ v
    · rw [root_yes h]; exact ih h h2
    · rw [root_no h]; exact ih h1 (by omega)
theorem rt_is {v : Nat} (hv : v < M) : rt v * rt v ≤ v ∧ v < (rt v + 1) * (rt v + 1) := root_is (by omega) (by rw [M_pow] at hv; exact hv)
theorem rt_lt (v : Nat) : rt v < 18446744073709551616 := by have := root_lt (v := v) (k := 64) (n := 0); unfold rt; omega
theorem rt_square {d : Nat} (hd : d < 18446744073709551616) : rt (d * d) = d := by
  have h := rt_is (prod_lt hd hd)
  have h1 : rt (d * d) ≤ d := Nat.le_of_not_lt fun hlt => by have := Nat.mul_lt_mul'' hlt hlt; omega
  have h2 : d ≤ rt (d * d) := Nat.le_of_not_lt fun hlt => by
    have := Nat.mul_le_mul (show rt (d * d) + 1 ≤ d from hlt) (show rt (d * d) + 1 ≤ d from hlt)
    omega
  omega
/-- What is known of the number at a round of the root's loop: 'j' bits are still to come. -/
theorem root_or {n j : Nat} (h : n % 2 ^ (j + 1) = 0) : n ||| 2 ^ j = n + 2 ^ j ∧ (n + 2 ^ j) % 2 ^ j = 0 ∧ n % 2 ^ j = 0 := by
  have hd : 2 ^ (j + 1) ∣ n := Nat.dvd_of_mod_eq_zero h
  obtain ⟨q, rfl⟩ := hd
  have hp : 0 < 2 ^ j := Nat.pow_pos (by decide)
  have e : 2 ^ (j + 1) * q = 2 ^ j * (2 * q) := by rw [Nat.pow_succ, Nat.mul_assoc]
  refine ⟨or_pow ?_, ?_, ?_⟩
  · rw [e, Nat.mul_div_cancel_left _ hp]; omega
  · rw [e, Nat.add_mod_right, Nat.mul_mod_right]
  · rw [e, Nat.mul_mod_right]
theorem root_room {n j : Nat} (h : n + 2 ^ (j + 1) ≤ 18446744073709551616) : n + 2 ^ j + 2 ^ j ≤ 18446744073709551616 ∧ n + 2 ^ j ≤ 18446744073709551616 ∧ n + 2 ^ j < 18446744073709551616 := by
  have hp : 0 < 2 ^ j := Nat.pow_pos (by decide)
  rw [Nat.pow_succ] at h
  omega
end Go.Proofs.Ytkgajlklhcmmcaa
