/-
  Plain facts on a number divided bit by bit, and on the bits of the float that comes of it, for the statements of layer 4. Nothing of the program is imported.
-/
import Derived.Test.YtcppcfjejalggaaFloMath2
set_option linter.unusedSimpArgs false
set_option linter.unusedVariables false
namespace Go.Proofs.Ytcppcfjejalggaa
theorem long_end {A D m R : Nat} (hD : 0 < D) (h : 4 * A = m * (2 * D) + R) (hR : R < 2 * D) : rhe A D = m / 2 + (if m % 2 = 1 ∧ (R ≠ 0 ∨ m / 2 % 2 = 1) then 1 else 0) := by
  have hm := Nat.div_add_mod m 2
  obtain ⟨q, hq⟩ : ∃ q, m / 2 = q := ⟨_, rfl⟩
  obtain ⟨b, hb⟩ : ∃ b, m % 2 = b := ⟨_, rfl⟩
  rw [hq, hb] at hm ⊢
  have hb2 : b < 2 := by omega
  have hmD : m * (2 * D) = 4 * (D * q) + b * (2 * D) := by
    rw [← hm, Nat.add_mul, Nat.mul_assoc 2 q, ← Nat.mul_assoc q 2, Nat.mul_comm q 2, Nat.mul_assoc 2 q, Nat.mul_comm q D]
    omega
  have hb01 : b = 0 ∨ b = 1 := by omega
  have e1 : A / D = q := by
    apply Nat.div_eq_of_lt_le
    · rw [Nat.mul_comm]; rcases hb01 with rfl | rfl <;> omega
    · rw [Nat.add_mul, Nat.one_mul, Nat.mul_comm q D]; rcases hb01 with rfl | rfl <;> omega
  have e2 := Nat.div_add_mod A D
  rw [e1] at e2
  have hr := Nat.mod_lt A hD
  unfold rhe
  rw [e1]
  generalize A % D = r at *
  congr 1
  rcases hb01 with rfl | rfl
  · rw [if_neg (by omega), if_neg (fun h => absurd h.1 (by decide))]
  · by_cases hc : R ≠ 0 ∨ q % 2 = 1
    · rw [if_pos (by omega), if_pos ⟨rfl, hc⟩]
    · rw [if_neg (by omega), if_neg (fun h => hc h.2)]
theorem or_sum (a b i : Nat) (hb : b < 2 ^ i) (hi : i ≤ 63) (ha : a * 2 ^ i + b < 18446744073709551616) : bits .or .u64 ((a * 2 ^ i : Nat) : Int) ((b : Nat) : Int) = ((a * 2 ^ i + b : Nat) : Int) := by
  have h := (bits_nat .u64 64 (by decide) (fun n h0 h1 => by rw [IntKind.wrap_u64]; omega) (a * 2 ^ i) b (by omega) (by omega)).2
  refine h.trans ?_
  congr 1
  have h2 := Nat.two_pow_add_eq_or_of_lt (i := i) (b := b) hb a
  rw [Nat.mul_comm] at h2
  exact h2.symm
/-- Sign, exponent and fraction put together. -/
theorem put_bits (s x y : Nat) (hs : s < 2) (hx : x < 2048) (hy : y < 4503599627370496) :
    bits .or .u64 (bits .or .u64 ((s * 9223372036854775808 : Nat) : Int) ((x * 4503599627370496 : Nat) : Int)) (y : Int) = ((s * 9223372036854775808 + x * 4503599627370496 + y : Nat) : Int) := by
  have e63 : (2 : Nat) ^ 63 = 9223372036854775808 := by decide
  have e52 : (2 : Nat) ^ 52 = 4503599627370496 := by decide
  have h1 := or_sum s (x * 4503599627370496) 63 (by rw [e63]; omega) (by decide) (by rw [e63]; omega)
  have h2 := or_sum (s * 2048 + x) y 52 (by rw [e52]; exact hy) (by decide) (by rw [e52]; omega)
  rw [e63] at h1
  rw [e52] at h2
  have e1 : s * 9223372036854775808 + x * 4503599627370496 = (s * 2048 + x) * 4503599627370496 := by omega
  rw [e1] at h1
  rw [← e1] at h2
  rw [e1] at h2
  refine (congrArg (fun z => bits .or .u64 z (y : Int)) h1).trans (h2.trans ?_)
  rw [← e1]
/-- What the bits are, with the carry or without it. -/
theorem toB_of {v : Int} {a k r : Nat} (ha : v.natAbs = a) (h0 : v ≠ 0) (hk : KK a k) (hr : rhe (a * 2 ^ k) 1000000 = r) (hb : 9 ≤ k ∧ k ≤ 72) :
    (r < 9007199254740992 → toB v = (if v < 0 then 1 else 0) * 9223372036854775808 + (1075 - k) * 4503599627370496 + r % 4503599627370496) ∧
    (r = 9007199254740992 → toB v = (if v < 0 then 1 else 0) * 9223372036854775808 + (1076 - k) * 4503599627370496 + 0) := by
  have hR := rhe_range hk
  rw [hr] at hR
  have ht : toB v = (if v < 0 then 9223372036854775808 else 0) + ((1074 - k) * 4503599627370496 + r) := by
    unfold toB toPos
    rw [if_neg h0, ha, fK_of hk, hr]
  rw [ht]
  constructor
  · intro hl
    split <;> omega
  · intro he
    split <;> omega
/-- The numbers between which the division is done say which bits are asked for. -/
theorem KK_div {a j i : Nat} (hj : j = 0 ∨ i = 0) (hj2 : j ≤ 52) (h1 : 1000000 * 2 ^ j ≤ a * 2 ^ i) (h2 : a * 2 ^ i < 2 * (1000000 * 2 ^ j)) :
    KK a (52 + i - j) ∧ rhe (a * 2 ^ i * 2 ^ 52) (1000000 * 2 ^ j) = rhe (a * 2 ^ (52 + i - j)) 1000000 := by
  rcases hj with rfl | rfl
  · rw [Nat.sub_zero, Nat.pow_add, Nat.mul_comm (2 ^ 52) (2 ^ i), ← Nat.mul_assoc, Nat.pow_zero, Nat.mul_one]
    rw [Nat.pow_zero, Nat.mul_one] at h1 h2
    refine ⟨?_, rfl⟩
    unfold KK
    rw [Nat.pow_add, Nat.mul_comm (2 ^ 52) (2 ^ i), ← Nat.mul_assoc]
    omega
  · rw [Nat.pow_zero, Nat.mul_one] at *
    obtain ⟨l, hl⟩ : ∃ l, 52 = l + j := ⟨52 - j, by omega⟩
    have e : (2 : Nat) ^ 52 = 2 ^ l * 2 ^ j := by rw [← Nat.pow_add, ← hl]
    have el : 52 + 0 - j = l := by omega
    rw [el]
    constructor
    · unfold KK
      have hp : 0 < 2 ^ j := Nat.pow_pos (by decide)
      have c1 : 1000000 * 2 ^ j * 2 ^ l ≤ a * 2 ^ l := Nat.mul_le_mul_right _ h1
      have c2 : a * 2 ^ l < 2 * (1000000 * 2 ^ j) * 2 ^ l := Nat.mul_lt_mul_of_pos_right h2 (Nat.pow_pos (by decide))
      have c3 : 1000000 * 2 ^ j * 2 ^ l = 4503599627370496 * 1000000 := by rw [Nat.mul_assoc, Nat.mul_comm (2 ^ j), ← e]
      have c4 : 2 * (1000000 * 2 ^ j) * 2 ^ l = 9007199254740992 * 1000000 := by rw [Nat.mul_assoc, c3]
      omega
    · have e3 : a * 2 ^ 52 = 2 ^ j * (a * 2 ^ l) := by rw [e, ← Nat.mul_assoc, Nat.mul_comm]
      rw [e3, Nat.mul_comm 1000000]
      exact rhe_scale _ _ _ (Nat.pow_pos (by decide))
/-- The end of the division: the bits, however they were rounded. -/
theorem to_end {v : Int} {a j i N D m R s : Nat} {S : Int} (ha : v.natAbs = a) (h0 : v ≠ 0) (ha1 : a ≤ 9223372036854775807) (hj : j = 0 ∨ i = 0) (hD : 1000000 * 2 ^ j = D) (hN : a * 2 ^ i = N)
    (hge : D ≤ N) (hlt : N < 2 * D) (hDb : D < 9223372036854775808) (hinv : N * 2 ^ 54 = m * (2 * D) + R) (hR : R < 2 * D) (hm : m < 18014398509481984) (hs : (if v < 0 then 1 else 0) = s) (hS : S = ((s * 9223372036854775808 : Nat) : Int)) :
    (¬ (m % 2 = 1 ∧ (R ≠ 0 ∨ m / 2 % 2 = 1)) → bits .or .u64 (bits .or .u64 S (((j : Int) - i + 1023) * 4503599627370496)) (bits .and .u64 ((m : Int) / 2) 4503599627370495) = ((toB v : Nat) : Int)) ∧
    ((m % 2 = 1 ∧ (R ≠ 0 ∨ m / 2 % 2 = 1)) → m / 2 + 1 ≠ 9007199254740992 → bits .or .u64 (bits .or .u64 S (((j : Int) - i + 1023) * 4503599627370496)) (bits .and .u64 ((m : Int) / 2 + 1) 4503599627370495) = ((toB v : Nat) : Int)) ∧
    ((m % 2 = 1 ∧ (R ≠ 0 ∨ m / 2 % 2 = 1)) → m / 2 + 1 = 9007199254740992 → bits .or .u64 (bits .or .u64 S (((j : Int) - i + 1 + 1023) * 4503599627370496)) (bits .and .u64 (((m : Int) / 2 + 1) / 2) 4503599627370495) = ((toB v : Nat) : Int)) := by
  have hj52 : j ≤ 52 := by
    rcases Nat.lt_or_ge 52 j with h | h
    · have := Nat.pow_le_pow_right (show 0 < 2 by decide) h
      have e : (2 : Nat) ^ 53 = 9007199254740992 := by decide
      rw [Nat.succ_eq_add_one, e] at this
      omega
    · exact h
  obtain ⟨hK, hrhe⟩ := KK_div (a := a) hj hj52 (by rw [hD, hN]; exact hge) (by rw [hD, hN]; exact hlt)
  rw [hD, hN] at hrhe
  obtain ⟨k, hk⟩ : ∃ k, 52 + i - j = k := ⟨_, rfl⟩
  rw [hk] at hK hrhe
  have hb := KK_bounds hK (by omega) ha1
  have h4 : 4 * (N * 2 ^ 52) = m * (2 * D) + R := by
    rw [← hinv]
    have e : (2 : Nat) ^ 54 = 2 ^ 52 * 4 := by decide
    rw [e, Nat.mul_comm 4, Nat.mul_assoc]
  have hend := long_end (A := N * 2 ^ 52) (by omega) h4 hR
  rw [hrhe] at hend
  obtain ⟨t1, t2⟩ := toB_of ha h0 hK rfl hb
  rw [hs] at t1 t2
  have hs2 : s < 2 := by rw [← hs]; split <;> omega
  have hrr := rhe_range hK
  have hx : (((j : Int) - i + 1023) * 4503599627370496) = (((1075 - k) * 4503599627370496 : Nat) : Int) := by omega
  have hx2 : (((j : Int) - i + 1 + 1023) * 4503599627370496) = (((1076 - k) * 4503599627370496 : Nat) : Int) := by omega
  generalize rhe (a * 2 ^ k) 1000000 = r at *
  refine ⟨fun hu => ?_, fun hu hc => ?_, fun hu hc => ?_⟩
  · rw [if_neg hu, Nat.add_zero] at hend
    have e1 : (m : Int) / 2 = ((r : Nat) : Int) := by omega
    rw [hS, hx, e1, frc_and r (by omega), put_bits s (1075 - k) (fFrc r) hs2 (by omega) (frc_lt r), t1 (by omega)]
    rfl
  · rw [if_pos hu] at hend
    have e1 : (m : Int) / 2 + 1 = ((r : Nat) : Int) := by omega
    rw [hS, hx, e1, frc_and r (by omega), put_bits s (1075 - k) (fFrc r) hs2 (by omega) (frc_lt r), t1 (by omega)]
    rfl
  · rw [if_pos hu] at hend
    obtain ⟨Z, hZ⟩ : ∃ Z : Nat, Z = 4503599627370496 := ⟨_, rfl⟩
    have e1 : ((m : Int) / 2 + 1) / 2 = (Z : Int) := by omega
    have e2 : fFrc Z = 0 := by unfold fFrc; omega
    have h1 := put_bits s (1076 - k) (fFrc Z) hs2 (by omega) (frc_lt Z)
    have h2 := frc_and Z (by omega)
    rw [hS, hx2, e1, h2, h1]
    have h3 := t2 (by omega)
    rw [h3, e2]
end Go.Proofs.Ytcppcfjejalggaa
