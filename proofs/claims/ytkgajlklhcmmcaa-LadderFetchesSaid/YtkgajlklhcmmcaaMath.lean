/-
  Plain facts on numbers of 128 bits in two words, for the statements of layer 1: nothing of the program is imported.
-/
namespace Go.Proofs.Ytkgajlklhcmmcaa
/-- The word's and the wide number's size, behind names. -/
def B : Nat := 18446744073709551616
def M : Nat := 340282366920938463463374607431768211456
theorem B_pow : B = 2 ^ 64 := by decide
theorem M_pow : M = 2 ^ 128 := by decide
def hiOf (v : Nat) : Nat := v / 18446744073709551616 % 18446744073709551616
def loOf (v : Nat) : Nat := v % 18446744073709551616
def ovf (v : Nat) : Bool := decide (340282366920938463463374607431768211456 ≤ v)
def bitN (v i : Nat) : Nat := v / 2 ^ i % 2

theorem hiOf_lt (v : Nat) : hiOf v < 18446744073709551616 := Nat.mod_lt _ (by decide)
theorem loOf_lt (v : Nat) : loOf v < 18446744073709551616 := Nat.mod_lt _ (by decide)
theorem val_hl {v : Nat} (h : v < M) : hiOf v * 18446744073709551616 + loOf v = v := by unfold hiOf loOf; unfold M at h; omega
theorem val_lt {h l : Nat} (hh : h < 18446744073709551616) (hl : l < 18446744073709551616) : h * 18446744073709551616 + l < M := by unfold M; omega
theorem hi_val {h l : Nat} (hh : h < 18446744073709551616) (hl : l < 18446744073709551616) : hiOf (h * 18446744073709551616 + l) = h := by unfold hiOf; omega
theorem lo_val {h l : Nat} (_hh : h < 18446744073709551616) (hl : l < 18446744073709551616) : loOf (h * 18446744073709551616 + l) = l := by unfold loOf; omega
theorem hi_of {v h : Nat} (e : v / 18446744073709551616 % 18446744073709551616 = h) : hiOf v = h := e
theorem mod_hi (v : Nat) : hiOf (v % M) = hiOf v := by unfold hiOf M; omega
theorem mod_lo (v : Nat) : loOf (v % M) = loOf v := by unfold loOf M; omega

theorem bit_hi {v i : Nat} (hv : v < M) (hi : 64 ≤ i) : hiOf v / 2 ^ (i - 64) % 2 = bitN v i := by
  have e : hiOf v = v / 2 ^ 64 := by unfold hiOf; unfold M at hv; omega
  unfold bitN
  rw [e, Nat.div_div_eq_div_mul, ← Nat.pow_add, show 64 + (i - 64) = i from by omega]
theorem bit_lo {v i : Nat} (hi : i < 64) : loOf v / 2 ^ i % 2 = bitN v i := by
  have h := Nat.testBit_mod_two_pow v 64 i
  rw [Nat.testBit_eq_decide_div_mod_eq, Nat.testBit_eq_decide_div_mod_eq] at h
  have e : loOf v = v % 2 ^ 64 := rfl
  unfold bitN
  rw [e]
  simp only [hi, decide_true, Bool.true_and, decide_eq_decide] at h
  omega
theorem bitN_01 (v i : Nat) : bitN v i = 0 ∨ bitN v i = 1 := by unfold bitN; omega
theorem bitN_le (v i : Nat) : bitN v i ≤ 1 := by unfold bitN; omega

/-- One more bit, where it was not yet: or is plus. -/
theorem or_pow {a k : Nat} (h : a / 2 ^ k % 2 = 0) : a ||| 2 ^ k = a + 2 ^ k := by
  have hp : 0 < 2 ^ k := Nat.pow_pos (by decide)
  have e2 : 2 ^ (k + 1) = 2 * 2 ^ k := by rw [Nat.pow_succ]; omega
  have hr : a % 2 ^ (k + 1) < 2 ^ k := by
    rw [e2, Nat.mul_comm, Nat.mod_mul, h]
    have := Nat.mod_lt a hp
    omega
  have ha : a = 2 ^ (k + 1) * (a / 2 ^ (k + 1)) + a % 2 ^ (k + 1) := (Nat.div_add_mod _ _).symm
  have o1 := Nat.two_pow_add_eq_or_of_lt (i := k + 1) (b := a % 2 ^ (k + 1)) (by omega) (a / 2 ^ (k + 1))
  have o2 := Nat.two_pow_add_eq_or_of_lt (i := k) (b := a % 2 ^ (k + 1)) hr 1
  have o3 := Nat.two_pow_add_eq_or_of_lt (i := k + 1) (b := 2 ^ k * 1 + a % 2 ^ (k + 1)) (by omega) (a / 2 ^ (k + 1))
  have c : a ||| 2 ^ k = 2 ^ (k + 1) * (a / 2 ^ (k + 1)) ||| (2 ^ k * 1 ||| a % 2 ^ (k + 1)) := by
    rw [show a ||| 2 ^ k = (2 ^ (k + 1) * (a / 2 ^ (k + 1)) ||| a % 2 ^ (k + 1)) ||| 2 ^ k from by rw [← o1, ← ha], Nat.or_assoc, Nat.or_comm (a % 2 ^ (k + 1)), Nat.mul_one]
  rw [c, ← o2, ← o3]
  omega
/-- What stands at a power of two and above, and what is below it: or is plus. -/
theorem or_low {q k b : Nat} (hb : b < 2 ^ k) : 2 ^ k * q ||| b = 2 ^ k * q + b := (Nat.two_pow_add_eq_or_of_lt hb q).symm

theorem bit_room {a k n : Nat} (hk : k < n) (ha : a < 2 ^ n) (h : a / 2 ^ k % 2 = 0) : a + 2 ^ k < 2 ^ n := by
  have hp : 0 < 2 ^ k := Nat.pow_pos (by decide)
  have e2 : 2 ^ (k + 1) = 2 * 2 ^ k := by rw [Nat.pow_succ]; omega
  have hr : a % 2 ^ (k + 1) < 2 ^ k := by
    rw [e2, Nat.mul_comm, Nat.mod_mul, h]
    have := Nat.mod_lt a hp
    omega
  have ha' : a = 2 ^ (k + 1) * (a / 2 ^ (k + 1)) + a % 2 ^ (k + 1) := (Nat.div_add_mod _ _).symm
  have e3 : 2 ^ n = 2 ^ (k + 1) * 2 ^ (n - (k + 1)) := by rw [← Nat.pow_add]; congr 1; omega
  have hq : a / 2 ^ (k + 1) < 2 ^ (n - (k + 1)) := by
    rw [Nat.div_lt_iff_lt_mul (Nat.pow_pos (by decide)), Nat.mul_comm, ← e3]; exact ha
  have : 2 ^ (k + 1) * (a / 2 ^ (k + 1) + 1) ≤ 2 ^ (k + 1) * 2 ^ (n - (k + 1)) := Nat.mul_le_mul_left _ hq
  rw [Nat.mul_add, ← e3] at this
  omega

theorem with_hi {v i : Nat} (hv : v < M) (hi : 64 ≤ i) (hi2 : i < 128) (h : bitN v i = 0) : hiOf v ||| 2 ^ (i - 64) = hiOf (v + 2 ^ i) ∧ loOf v = loOf (v + 2 ^ i) ∧ v + 2 ^ i < M := by
  have hb := bit_hi hv hi
  rw [h] at hb
  have e : 2 ^ i = 2 ^ (i - 64) * 18446744073709551616 := by rw [show (18446744073709551616 : Nat) = 2 ^ 64 from rfl, ← Nat.pow_add]; congr 1; omega
  have hr : hiOf v + 2 ^ (i - 64) < 2 ^ 64 := bit_room (by omega) (by have := hiOf_lt v; omega) hb
  have hr2 : v + 2 ^ i < 2 ^ 128 := bit_room (by omega) (by rw [M_pow] at hv; exact hv) h
  have hvl := val_hl hv
  have hl := loOf_lt v
  have e3 : v + 2 ^ i = (hiOf v + 2 ^ (i - 64)) * 18446744073709551616 + loOf v := by rw [Nat.add_mul, ← e]; omega
  rw [or_pow hb]
  generalize hiOf v + 2 ^ (i - 64) = h2 at *
  generalize loOf v = l at *
  rw [e3]
  exact ⟨(hi_val (by omega) hl).symm, (lo_val (by omega) hl).symm, val_lt (by omega) hl⟩
theorem with_lo {v i : Nat} (hv : v < M) (hi : i < 64) (h : bitN v i = 0) : loOf v ||| 2 ^ i = loOf (v + 2 ^ i) ∧ hiOf v = hiOf (v + 2 ^ i) ∧ v + 2 ^ i < M := by
  have hb := bit_lo (v := v) hi
  rw [h] at hb
  have hr : loOf v + 2 ^ i < 2 ^ 64 := bit_room (by omega) (by have := loOf_lt v; omega) hb
  have hr2 : v + 2 ^ i < 2 ^ 128 := bit_room (by omega) (by rw [M_pow] at hv; exact hv) h
  have hvl := val_hl hv
  refine ⟨?_, ?_, by rw [M_pow]; exact hr2⟩
  · rw [or_pow hb]
    have h1 := lo_val (h := hiOf v) (l := loOf v + 2 ^ i) (hiOf_lt v) (by omega)
    refine h1.symm.trans (congrArg loOf ?_)
    omega
  · have h1 := hi_val (h := hiOf v) (l := loOf v + 2 ^ i) (hiOf_lt v) (by omega)
    refine h1.symm.trans (congrArg hiOf ?_)
    omega

theorem pow_lt_64 {k : Nat} (h : k < 64) : 2 ^ k < 18446744073709551616 := by
  have := Nat.pow_lt_pow_right (a := 2) (by decide) h
  exact this

theorem less_hl {u v : Nat} (hu : u < M) (hv : v < M) : u < v ↔ (hiOf u < hiOf v ∨ hiOf u = hiOf v ∧ loOf u < loOf v) := by
  have := val_hl hu; have := val_hl hv; have := loOf_lt u; have := loOf_lt v
  omega

theorem dbl_hl {v : Nat} (hv : v < M) : (hiOf v * 2 % 18446744073709551616 ||| loOf v / 9223372036854775808) = hiOf (2 * v) ∧ loOf v * 2 % 18446744073709551616 = loOf (2 * v) ∧ ovf (2 * v) = decide (hiOf v / 9223372036854775808 = 1) := by
  have h0 := val_hl hv; have h1 := loOf_lt v; have h2 := hiOf_lt v
  refine ⟨?_, ?_, ?_⟩
  · have e : hiOf v * 2 % 18446744073709551616 = 2 ^ 1 * (hiOf v % 9223372036854775808) := by omega
    rw [e, or_low (by omega)]
    generalize hiOf v = h at *; generalize loOf v = l at *
    unfold hiOf; omega
  · generalize hiOf v = h at *; generalize loOf v = l at *
    unfold loOf; omega
  · unfold ovf
    rw [decide_eq_decide]
    unfold M at hv
    generalize hiOf v = h at *; generalize loOf v = l at *
    omega

theorem add_hl {u v : Nat} (hu : u < M) (hv : v < M) :
    (loOf u + loOf v) % 18446744073709551616 = loOf (u + v) ∧ (hiOf u + hiOf v + (loOf u + loOf v) / 18446744073709551616) % 18446744073709551616 = hiOf (u + v) ∧
    ((hiOf u + hiOf v + (loOf u + loOf v) / 18446744073709551616) / 18446744073709551616 = if ovf (u + v) then 1 else 0) := by
  have a0 := val_hl hu; have b0 := val_hl hv; have a1 := loOf_lt u; have a2 := hiOf_lt u; have b1 := loOf_lt v; have b2 := hiOf_lt v
  refine ⟨?_, ?_, ?_⟩
  · generalize hiOf u = h at *; generalize loOf u = l at *; generalize hiOf v = h' at *; generalize loOf v = l' at *
    unfold loOf; omega
  · generalize hiOf u = h at *; generalize loOf u = l at *; generalize hiOf v = h' at *; generalize loOf v = l' at *
    unfold hiOf; omega
  · unfold ovf
    unfold M at hu hv
    generalize hiOf u = h at *; generalize loOf u = l at *; generalize hiOf v = h' at *; generalize loOf v = l' at *
    by_cases hc : 340282366920938463463374607431768211456 ≤ u + v
    · rw [if_pos (by simpa using hc)]; omega
    · rw [if_neg (by simpa using hc)]; omega

/-! ### The sum, bit by bit -/
def po (u v k : Nat) : Nat := (u % 2 ^ k + v % 2 ^ k) % 2 ^ k
def ca (u v k : Nat) : Nat := (u % 2 ^ k + v % 2 ^ k) / 2 ^ k
theorem ca_le (u v k : Nat) : ca u v k ≤ 1 := by
  have hp : 0 < 2 ^ k := Nat.pow_pos (by decide)
  have h1 := Nat.mod_lt u hp
  have h2 := Nat.mod_lt v hp
  unfold ca
  have := Nat.div_lt_of_lt_mul (show u % 2 ^ k + v % 2 ^ k < 2 ^ k * 2 from by omega)
  omega
theorem po_lt (u v k : Nat) : po u v k < 2 ^ k := Nat.mod_lt _ (Nat.pow_pos (by decide))
theorem pow_le_M {k : Nat} (h : k ≤ 128) : 2 ^ k ≤ M := by rw [M_pow]; exact Nat.pow_le_pow_right (by decide) h
theorem bit_of_lt {a k : Nat} (h : a < 2 ^ k) : bitN a k = 0 := by unfold bitN; rw [Nat.div_eq_of_lt h]
theorem po_ca (u v k : Nat) : 2 ^ k * ca u v k + po u v k = u % 2 ^ k + v % 2 ^ k := Nat.div_add_mod _ _
theorem split_unique {p a b q r : Nat} (hp : 0 < p) (h : p * q + r = a) (hr : r < p) (e : a = b) : b / p = q ∧ b % p = r := by
  subst e; subst h
  refine ⟨?_, ?_⟩
  · rw [Nat.mul_add_div hp, Nat.div_eq_of_lt hr, Nat.add_zero]
  · rw [Nat.mul_add_mod, Nat.mod_eq_of_lt hr]
theorem add_step (u v k : Nat) : ca u v (k + 1) = (bitN u k + bitN v k + ca u v k) / 2 ∧ po u v (k + 1) = po u v k + 2 ^ k * ((bitN u k + bitN v k + ca u v k) % 2) := by
  have hp : 0 < 2 ^ k := Nat.pow_pos (by decide)
  have e2 : 2 ^ (k + 1) = 2 * 2 ^ k := by rw [Nat.pow_succ]; omega
  have eu : u % 2 ^ (k + 1) = u % 2 ^ k + 2 ^ k * bitN u k := Nat.mod_pow_succ
  have ev : v % 2 ^ (k + 1) = v % 2 ^ k + 2 ^ k * bitN v k := Nat.mod_pow_succ
  have hpc := po_ca u v k
  have hlt := po_lt u v k
  have b1 := bitN_le u k
  have b2 := bitN_le v k
  have b3 := ca_le u v k
  have key := split_unique (p := 2 ^ (k + 1)) (a := u % 2 ^ (k + 1) + v % 2 ^ (k + 1)) (q := (bitN u k + bitN v k + ca u v k) / 2) (r := po u v k + 2 ^ k * ((bitN u k + bitN v k + ca u v k) % 2)) (by omega) (by
      rw [eu, ev]
      generalize hS : bitN u k + bitN v k + ca u v k = S
      have hs : 2 * (S / 2) + S % 2 = S := Nat.div_add_mod _ _
      have h1 : 2 ^ (k + 1) * (S / 2) + (po u v k + 2 ^ k * (S % 2)) = po u v k + 2 ^ k * (2 * (S / 2) + S % 2) := by
        rw [e2, Nat.mul_add, Nat.mul_assoc, Nat.mul_left_comm]; omega
      rw [h1, hs, ← hS, Nat.mul_add, Nat.mul_add]
      omega) (by
      have : 2 ^ k * ((bitN u k + bitN v k + ca u v k) % 2) ≤ 2 ^ k * 1 := Nat.mul_le_mul_left _ (by omega)
      omega) rfl
  exact key
theorem add_end {u v : Nat} (hu : u < M) (hv : v < M) : hiOf (po u v 128) = hiOf (u + v) ∧ loOf (po u v 128) = loOf (u + v) ∧ decide (ca u v 128 = 1) = ovf (u + v) := by
  have e1 : u % 2 ^ 128 = u := Nat.mod_eq_of_lt (by rw [← M_pow]; exact hu)
  have e2 : v % 2 ^ 128 = v := Nat.mod_eq_of_lt (by rw [← M_pow]; exact hv)
  refine ⟨?_, ?_, ?_⟩
  · unfold po; rw [e1, e2, ← M_pow]; exact mod_hi _
  · unfold po; rw [e1, e2, ← M_pow]; exact mod_lo _
  · unfold ca ovf; rw [e1, e2, ← M_pow, decide_eq_decide]
    unfold M at *
    omega
end Go.Proofs.Ytkgajlklhcmmcaa
