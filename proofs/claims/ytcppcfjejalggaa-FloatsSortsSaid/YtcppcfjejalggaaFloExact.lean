/-
  Plain facts on IEEE 754's reckoning with 64 bits: what is exact, and how a whole number is rounded to a float. Nothing of the program is imported.
-/
import Derived.Test.YtcppcfjejalggaaFloOrd
set_option linter.unusedSimpArgs false
set_option linter.unusedVariables false
namespace Go.Proofs.Ytcppcfjejalggaa
theorem cut_even (neg : Bool) (n drop : Nat) (h : drop ≤ n.log2 + 2) : Ieee.Toward.even.cut neg n drop = rhe n (2 ^ drop) := by
  unfold Ieee.Toward.cut rhe
  rw [Nat.min_eq_left h, Nat.one_shiftLeft]
  simp only []
  generalize n / 2 ^ drop = q
  generalize n % 2 ^ drop = r
  generalize 2 ^ drop = g
  by_cases h1 : g < 2 * r
  · simp [h1]
  · by_cases h2 : 2 * r = g
    · subst h2
      by_cases h3 : q % 2 = 1
      · simp [h3]
      · simp [h3]
    · have h2' : ¬ g = 2 * r := fun e => h2 e.symm
      simp [h1, h2, h2']
/-- The word of a size, where that has all the bits of a fraction and isn't too small: of any format. -/
theorem near_gen (f : Ieee.Format) {mag L : Nat} {place : Int} {e : Nat} (h0 : 0 < mag) (hL : mag.log2 = L) (h52 : f.fractionBits ≤ L) (he : place + L - f.fractionBits = f.leastPlace + (e : Int)) :
    f.nearest false mag place = min (e * f.binade + rhe mag (2 ^ (L - f.fractionBits))) f.infRung := by
  have hw : ∀ r, f.word false r = r := fun r => by unfold Ieee.Format.word; simp
  unfold Ieee.Format.nearest
  rw [if_neg (by omega)]
  simp only [hL]
  rw [he]
  generalize f.leastPlace = l at *
  generalize f.fractionBits = b at *
  have e2 : max (l + (e : Int)) l = l + (e : Int) := by omega
  rw [e2, hw, show (l + (e : Int) - l).toNat = e from by omega, show (place - (l + (e : Int))).toNat = 0 from by omega, show (l + (e : Int) - place).toNat = L - b from by omega, Nat.shiftLeft_zero, cut_even false mag (L - b) (by omega)]
/-- The word of a size, where that has 53 bits or more and isn't too small. -/
theorem nearest_pos {mag L : Nat} {place : Int} {e : Nat} (h0 : 0 < mag) (hL : mag.log2 = L) (h52 : 52 ≤ L) (he : place + L - 52 = -1074 + (e : Int)) (hmax : e * 4503599627370496 + rhe mag (2 ^ (L - 52)) ≤ 9218868437227405312) :
    Ieee.double.nearest false mag place = e * 4503599627370496 + rhe mag (2 ^ (L - 52)) := by
  have f1 : Ieee.double.leastPlace = -1074 := by decide
  have f2 : Ieee.double.fractionBits = 52 := rfl
  have f3 : Ieee.double.binade = 4503599627370496 := by decide
  have f4 : Ieee.double.infRung = 9218868437227405312 := by decide
  have h := near_gen Ieee.double h0 hL (by rw [f2]; exact h52) (place := place) (e := e) (by rw [f1, f2]; exact he)
  rw [f2, f3, f4] at h
  rw [h]
  exact Nat.min_eq_left hmax
theorem rhe_exact (m d : Nat) (hd : 0 < d) : rhe (m * d) d = m := by
  unfold rhe
  rw [Nat.mul_div_cancel _ hd, Nat.mul_mod_left, if_neg (by omega)]
  rfl
theorem log2_eq {n L : Nat} (h1 : 2 ^ L ≤ n) (h2 : n < 2 ^ (L + 1)) : n.log2 = L := by
  have h0 : n ≠ 0 := by have := Nat.pow_pos (n := L) (show 0 < 2 by decide); omega
  exact (Nat.log2_eq_iff h0).2 ⟨h1, h2⟩
theorem rd_one : Ieee.double.read 4607182418800017408 = .number false 4503599627370496 (-52) := by decide +kernel
theorem rd_big : Ieee.double.read 4841369599423283200 = .number false 4503599627370496 0 := by decide +kernel
/-- Times 1. -/
theorem mul_one_w {n : Nat} (h1 : 4503599627370496 ≤ n) (h2 : n < 9218868437227405312) : Ieee.double.mul 4607182418800017408 n = some n := by
  have ha : fAbs n = n := by unfold fAbs; omega
  have hs : fSgn n = false := by unfold fSgn; rw [decide_eq_false_iff_not]; omega
  have hr := read_mid (n := n) (by omega) (by rw [ha]; exact h1) (by rw [ha]; exact h2)
  rw [hs, ha] at hr
  obtain ⟨q, hq⟩ : ∃ q, n / 4503599627370496 - 1 = q := ⟨_, rfl⟩
  obtain ⟨m, hm⟩ : ∃ m, 4503599627370496 + n % 4503599627370496 = m := ⟨_, rfl⟩
  rw [hq, hm] at hr
  unfold Ieee.Format.mul
  rw [rd_one, hr]
  show some (Ieee.double.nearest false (4503599627370496 * m) (-52 + (-1074 + (q : Int)))) = some n
  congr 1
  have hL : (4503599627370496 * m).log2 = 104 := log2_eq (by omega) (by omega)
  have hx : rhe (4503599627370496 * m) (2 ^ (104 - 52)) = m := by rw [Nat.mul_comm]; exact rhe_exact m _ (by decide)
  rw [nearest_pos (e := q) (by omega) hL (by omega) (by omega) (by rw [hx]; omega), hx]
  omega
/-- A word with a normal one's fields: of a word below the least normal one, 2 to the 52 times as much. -/
def nz (n : Nat) : Nat := if n < 4503599627370496 then n.log2 * 4503599627370496 + n * 2 ^ (52 - n.log2) else n
theorem low_log {n : Nat} (h0 : 0 < n) (h : n < 4503599627370496) : n.log2 < 52 ∧ 2 ^ n.log2 ≤ n ∧ n < 2 ^ (n.log2 + 1) ∧ 4503599627370496 ≤ n * 2 ^ (52 - n.log2) ∧ n * 2 ^ (52 - n.log2) < 9007199254740992 := by
  have hl := (Nat.log2_eq_iff (n := n) (k := n.log2) (by omega)).1 rfl
  have h52 : n.log2 < 52 := (Nat.log2_lt (by omega)).2 h
  refine ⟨h52, hl.1, hl.2, ?_, ?_⟩
  · have := Nat.mul_le_mul_right (2 ^ (52 - n.log2)) hl.1
    rw [← Nat.pow_add, show n.log2 + (52 - n.log2) = 52 from by omega] at this
    exact this
  · have := Nat.mul_lt_mul_of_pos_right hl.2 (Nat.pow_pos (n := 52 - n.log2) (show 0 < 2 by decide))
    rw [← Nat.pow_add, show n.log2 + 1 + (52 - n.log2) = 53 from by omega] at this
    exact this
/-- Times 2 to the 52, of a word below the least normal one. -/
theorem mul_big {n : Nat} (h0 : 0 < n) (h : n < 4503599627370496) : Ieee.double.mul n 4841369599423283200 = some (nz n) := by
  have ha : fAbs n = n := by unfold fAbs; omega
  have hs : fSgn n = false := by unfold fSgn; rw [decide_eq_false_iff_not]; omega
  have hr := read_low (n := n) (by omega) (by rw [ha]; exact h)
  rw [hs, ha] at hr
  obtain ⟨hlt, hl1, hl2, hm1, hm2⟩ := low_log h0 h
  unfold nz
  rw [if_pos h]
  unfold Ieee.Format.mul
  rw [rd_big, hr]
  show some (Ieee.double.nearest false (n * 4503599627370496) (-1074 + 0)) = some _
  congr 1
  generalize n.log2 = l at *
  have hL : (n * 4503599627370496).log2 = l + 52 := by
    refine log2_eq ?_ ?_
    · rw [Nat.pow_add]; exact Nat.mul_le_mul_right _ hl1
    · rw [show l + 52 + 1 = l + 1 + 52 from by omega, Nat.pow_add]; exact Nat.mul_lt_mul_of_pos_right hl2 (by decide)
  have hx : rhe (n * 4503599627370496) (2 ^ l) = n * 2 ^ (52 - l) := by
    have e : n * 4503599627370496 = n * 2 ^ (52 - l) * 2 ^ l := by rw [Nat.mul_assoc, ← Nat.pow_add, show 52 - l + l = 52 from by omega]
    rw [e]; exact rhe_exact _ _ (Nat.pow_pos (by decide))
  have hx' : rhe (n * 4503599627370496) (2 ^ (l + 52 - 52)) = n * 2 ^ (52 - l) := hx
  rw [nearest_pos (e := l) (by omega) hL (by omega) (by omega) (by rw [hx']; omega), hx']
/-- What such a word's fields say of m and e. -/
theorem nz_fields {n : Nat} (h0 : 0 < n) (h : n < 9218868437227405312) : ∃ (t X F : Nat), nz n = X * 4503599627370496 + F ∧ 1 ≤ X ∧ X < 2047 ∧ F < 4503599627370496 ∧ t ≤ 52 ∧ 4503599627370496 + F = fM n * 2 ^ t ∧
    (t = 0 ∨ n < 4503599627370496) ∧ ((n < 4503599627370496 ∧ (X : Int) - 52 - 1075 = fE n - t) ∨ (4503599627370496 ≤ n ∧ (X : Int) - 1075 = fE n - t)) := by
  have hx : fExp n = n / 4503599627370496 := by unfold fExp; omega
  by_cases hl : n < 4503599627370496
  · obtain ⟨hlt, hl1, hl2, hm1, hm2⟩ := low_log h0 hl
    have e0 : fExp n = 0 := by rw [hx]; omega
    have eM : fM n = n := by unfold fM fFrc; rw [e0, if_neg (by omega), if_pos rfl]; omega
    have eE : fE n = -1074 := by unfold fE; rw [e0, if_neg (by omega), if_pos rfl]
    refine ⟨52 - n.log2, n.log2 + 1, n * 2 ^ (52 - n.log2) - 4503599627370496, ?_, by omega, by omega, by omega, by omega, ?_, .inr hl, .inl ⟨hl, ?_⟩⟩
    · unfold nz; rw [if_pos hl]; omega
    · rw [eM]; omega
    · rw [eE]; omega
  · refine ⟨0, n / 4503599627370496, n % 4503599627370496, ?_, by omega, by omega, Nat.mod_lt _ (by decide), by omega, ?_, .inl rfl, .inr ⟨by omega, ?_⟩⟩
    · unfold nz; rw [if_neg hl]; omega
    · unfold fM fFrc; rw [hx, if_neg (by omega), if_neg (by omega)]; omega
    · unfold fE; rw [hx, if_neg (by omega), if_neg (by omega)]; omega
/-! ### Rounded once, what is left standing for which side of a half -/
theorem sticky (A D d : Nat) (hD : 0 < D) (hd : 2 ≤ d) : rhe (A / D + (if A % D ≠ 0 ∧ A / D % 2 = 0 then 1 else 0)) (2 ^ d) = rhe A (D * 2 ^ d) := by
  obtain ⟨p, hp⟩ : ∃ p, 2 ^ d = 4 * p := ⟨2 ^ (d - 2), by rw [show d = 2 + (d - 2) from by omega, Nat.pow_add]; simp⟩
  have hp0 : 0 < p := by have := Nat.pow_pos (n := d) (show 0 < 2 by decide); omega
  rw [hp]
  have q1 : A / (D * (4 * p)) = A / D / (4 * p) := (Nat.div_div_eq_div_mul A D (4 * p)).symm
  have q2 : A % (D * (4 * p)) = A % D + D * (A / D % (4 * p)) := Nat.mod_mul
  have hr := Nat.mod_lt A hD
  unfold rhe
  rw [q1, q2]
  generalize A / D = q at *
  generalize A % D = r at *
  have hb := Nat.mod_lt q (show 0 < 4 * p by omega)
  have hdm := Nat.div_add_mod q (4 * p)
  have hmm : 4 * p * (q / (4 * p)) = 4 * (p * (q / (4 * p))) := Nat.mul_assoc _ _ _
  by_cases hc : r ≠ 0 ∧ q % 2 = 0
  · rw [if_pos hc]
    have e1 : (q + 1) / (4 * p) = q / (4 * p) := by
      have hb2 : q % (4 * p) + 1 < 4 * p := by omega
      have : q + 1 = 4 * p * (q / (4 * p)) + (q % (4 * p) + 1) := by omega
      rw [this, Nat.mul_add_div (by omega), Nat.div_eq_of_lt hb2, Nat.add_zero]
    have e2 : (q + 1) % (4 * p) = q % (4 * p) + 1 := by
      have hb2 : q % (4 * p) + 1 < 4 * p := by omega
      have h3 := Nat.div_add_mod (q + 1) (4 * p)
      rw [e1] at h3
      omega
    rw [e1, e2]
    generalize q / (4 * p) = a at *
    generalize q % (4 * p) = b at *
    congr 1
    rcases Nat.lt_trichotomy b (2 * p) with hlt | heq | hgt
    · have h4 : D * (b + 1) ≤ D * (2 * p) := Nat.mul_le_mul_left D hlt
      rw [Nat.mul_add, Nat.mul_one] at h4
      have h5 : D * (4 * p) = 2 * (D * (2 * p)) := by rw [show 4 * p = 2 * (2 * p) from by omega, Nat.mul_left_comm]
      rw [h5, if_neg (by omega), if_neg (by omega)]
    · subst heq
      have h5 : D * (4 * p) = 2 * (D * (2 * p)) := by rw [show 4 * p = 2 * (2 * p) from by omega, Nat.mul_left_comm]
      rw [h5, if_pos (by omega), if_pos (by omega)]
    · have h4 : D * (2 * p + 1) ≤ D * b := Nat.mul_le_mul_left D hgt
      rw [Nat.mul_add, Nat.mul_one] at h4
      have h5 : D * (4 * p) = 2 * (D * (2 * p)) := by rw [show 4 * p = 2 * (2 * p) from by omega, Nat.mul_left_comm]
      rw [h5, if_pos (by omega), if_pos (by omega)]
  · rw [if_neg hc, Nat.add_zero]
    generalize q / (4 * p) = a at *
    generalize q % (4 * p) = b at *
    congr 1
    have h5 : D * (4 * p) = 2 * (D * (2 * p)) := by rw [show 4 * p = 2 * (2 * p) from by omega, Nat.mul_left_comm]
    rcases Nat.lt_trichotomy b (2 * p) with hlt | heq | hgt
    · have h4 : D * (b + 1) ≤ D * (2 * p) := Nat.mul_le_mul_left D hlt
      rw [Nat.mul_add, Nat.mul_one] at h4
      rw [h5, if_neg (by omega), if_neg (by omega)]
    · subst heq
      have hr0 : r = 0 := by
        rcases Nat.eq_zero_or_pos r with h | h
        · exact h
        · exact absurd ⟨by omega, by omega⟩ hc
      subst hr0
      rw [h5]
      by_cases ho : a % 2 = 1
      · rw [if_pos (by omega), if_pos (by omega)]
      · rw [if_neg (by omega), if_neg (by omega)]
    · have h4 : D * (2 * p + 1) ≤ D * b := Nat.mul_le_mul_left D hgt
      rw [Nat.mul_add, Nat.mul_one] at h4
      rw [h5, if_pos (by omega), if_pos (by omega)]
/-- A whole number as a float. -/
theorem of_int {q L : Nat} (h1 : 2 ^ L ≤ q) (h2 : q < 2 ^ (L + 1)) (h52 : 52 ≤ L) (hL : L ≤ 64) : floatOfInt .f64 (q : Int) = (L + 1022) * 4503599627370496 + rhe q (2 ^ (L - 52)) := by
  have h0 : 0 < q := by have := Nat.pow_pos (n := L) (show 0 < 2 by decide); omega
  have hl := log2_eq h1 h2
  have hb : rhe q (2 ^ (L - 52)) ≤ 9007199254740992 := by
    refine (rhe_bounds (l := 4503599627370496) (Nat.pow_pos (by decide)) ?_ ?_).2
    · have : 4503599627370496 * 2 ^ (L - 52) = 2 ^ L := by rw [show (4503599627370496 : Nat) = 2 ^ 52 from by decide, ← Nat.pow_add]; congr 1; omega
      omega
    · have : 9007199254740992 * 2 ^ (L - 52) = 2 ^ (L + 1) := by rw [show (9007199254740992 : Nat) = 2 ^ 53 from by decide, ← Nat.pow_add]; congr 1; omega
      omega
  have hn : Ieee.double.nearest false q 0 = (L + 1022) * 4503599627370496 + rhe q (2 ^ (L - 52)) := nearest_pos h0 hl h52 (by omega) (by omega)
  rw [← hn]
  show Ieee.double.nearest (decide ((q : Int) < 0)) (q : Int).natAbs 0 = _
  rw [decide_eq_false (by omega), Int.natAbs_natCast]
/-- A number as a float, as the program reckons it. -/
theorem to_pos {c z q r : Nat} (h0 : 0 < c) (hc : c ≤ 9223372036854775807) (hz : z ≤ 63) (h1 : 9223372036854775808 ≤ c * 2 ^ z) (h2 : c * 2 ^ z < 18446744073709551616)
    (hq : c * 2 ^ z * 262144 / 1000000 = q) (hr : c * 2 ^ z * 262144 % 1000000 = r) :
    ∃ (N k : Nat), floatOfInt .f64 ((q + (if r ≠ 0 ∧ q % 2 = 0 then 1 else 0) : Nat) : Int) = N ∧ KK c k ∧ 9 ≤ k ∧ k ≤ 72 ∧ N = toPos c k + (18 + z) * 4503599627370496 ∧ 1080 * 4503599627370496 ≤ N ∧ N ≤ 1087 * 4503599627370496 ∧ q + (if r ≠ 0 ∧ q % 2 = 0 then 1 else 0) < 18446744073709551616 := by
  obtain ⟨A, hA⟩ : ∃ A, c * 2 ^ z * 262144 = A := ⟨_, rfl⟩
  rw [hA] at hq hr
  obtain ⟨Q, hQ⟩ : ∃ Q, q + (if r ≠ 0 ∧ q % 2 = 0 then 1 else 0) = Q := ⟨_, rfl⟩
  rw [hQ]
  have hQ' : Q = q ∨ (Q = q + 1 ∧ q % 2 = 0) := by rw [← hQ]; split <;> omega
  have hAq := Nat.div_add_mod A 1000000
  rw [hq, hr] at hAq
  have hrlt : r < 1000000 := by rw [← hr]; exact Nat.mod_lt _ (by decide)
  have hst : ∀ d, 2 ≤ d → rhe Q (2 ^ d) = rhe A (1000000 * 2 ^ d) := fun d hd => by rw [← hQ, ← hq, ← hr]; exact sticky A 1000000 d (by decide) hd
  have key : ∀ L, L = 61 ∨ L = 62 → 2 ^ L ≤ Q → Q < 2 ^ (L + 1) → ∃ (N k : Nat), floatOfInt .f64 (Q : Int) = N ∧ KK c k ∧ 9 ≤ k ∧ k ≤ 72 ∧ N = toPos c k + (18 + z) * 4503599627370496 ∧ 1080 * 4503599627370496 ≤ N ∧ N ≤ 1087 * 4503599627370496 ∧ Q < 18446744073709551616 := by
    intro L hL g1 g2
    have gd : 2 ^ L = 2 ^ 52 * 2 ^ (L - 52) := by rw [← Nat.pow_add]; congr 1; omega
    have gd' : 2 ^ (L + 1) = 2 ^ 53 * 2 ^ (L - 52) := by rw [← Nat.pow_add]; congr 1; omega
    obtain ⟨k, hk⟩ : ∃ k, z + 18 - (L - 52) = k := ⟨_, rfl⟩
    have hck : A = c * 2 ^ k * 2 ^ (L - 52) := by
      rw [← hA, Nat.mul_assoc c, Nat.mul_assoc c, show (262144 : Nat) = 2 ^ 18 from by decide, ← Nat.pow_add, ← Nat.pow_add]; congr 2; omega
    have hp := Nat.pow_pos (n := L - 52) (show 0 < 2 by decide)
    have hlow : 2 ^ L ≤ q := by
      rcases hQ' with e | ⟨e, ev⟩
      · omega
      · have : (2 : Nat) ^ L % 2 = 0 := by rcases hL with rfl | rfl <;> decide
        omega
    have hK : KK c k := by
      have a1 : 4503599627370496 * 1000000 * 2 ^ (L - 52) ≤ c * 2 ^ k * 2 ^ (L - 52) := by
        rw [← hck]
        have : 4503599627370496 * 1000000 * 2 ^ (L - 52) = 2 ^ L * 1000000 := by rw [gd]; rw [Nat.mul_right_comm]
        omega
      have a2 : c * 2 ^ k * 2 ^ (L - 52) < 9007199254740992 * 1000000 * 2 ^ (L - 52) := by
        rw [← hck]
        have : 9007199254740992 * 1000000 * 2 ^ (L - 52) = 2 ^ (L + 1) * 1000000 := by rw [gd']; rw [Nat.mul_right_comm]
        omega
      exact ⟨Nat.le_of_mul_le_mul_right a1 hp, Nat.lt_of_mul_lt_mul_right a2⟩
    have hb := KK_bounds hK h0 hc
    have hrr := rhe_range hK
    have hN := of_int g1 g2 (by omega) (by omega)
    have hrq : rhe Q (2 ^ (L - 52)) = rhe (c * 2 ^ k) 1000000 := by
      rw [hst (L - 52) (by omega), hck, Nat.mul_comm 1000000, Nat.mul_comm (c * 2 ^ k)]
      exact rhe_scale _ _ _ hp
    rw [hrq] at hN
    have hT : (2 : Nat) ^ (L + 1) ≤ 2 ^ 63 := Nat.pow_le_pow_right (by decide) (by omega)
    refine ⟨_, k, hN, hK, hb.1, hb.2, ?_, ?_, ?_, by omega⟩
    · unfold toPos
      clear hst hN hrq hQ hQ' hAq hA gd gd' hck hT hrr hK g1 g2 hlow
      generalize rhe (c * 2 ^ k) 1000000 = R
      omega
    · clear hst hN hrq hQ hQ' hAq hA gd gd' hck hT hK g1 g2 hlow
      generalize rhe (c * 2 ^ k) 1000000 = R at *
      omega
    · clear hst hN hrq hQ hQ' hAq hA gd gd' hck hT hK g1 g2 hlow
      generalize rhe (c * 2 ^ k) 1000000 = R at *
      omega
  rcases Nat.lt_or_ge Q 4611686018427387904 with hl | hl
  · exact key 61 (.inl rfl) (by omega) (by omega)
  · exact key 62 (.inr rfl) (by omega) (by omega)
theorem or_one (q : Nat) (h : q < 18446744073709551616) : bits .or .u64 (q : Int) 1 = ((q + (if q % 2 = 0 then 1 else 0) : Nat) : Int) := by
  have h1 := (bits_nat .u64 64 (by decide) (fun n h0 h1 => by rw [IntKind.wrap_u64]; omega) q 1 (by omega) (by omega)).2
  refine h1.trans ?_
  congr 1
  have hq := Nat.div_add_mod q 2
  have h2 := Nat.two_pow_add_eq_or_of_lt (i := 1) (b := q % 2) (by omega) (q / 2)
  have h3 : ∀ b, b = 0 ∨ b = 1 → b ||| 1 = 1 := by rintro b (rfl | rfl) <;> rfl
  have h4 := Nat.two_pow_add_eq_or_of_lt (i := 1) (b := 1) (by omega) (q / 2)
  have e : q ||| 1 = 2 ^ 1 * (q / 2) + 1 := by
    conv => lhs; rw [← hq]
    rw [show 2 * (q / 2) + q % 2 = 2 ^ 1 * (q / 2) + q % 2 from by omega, h2, Nat.or_assoc, h3 _ (by omega), h4]
  rw [e]
  split <;> omega
/-! ### A float as so many millionths -/
theorem hup_scale (x s t : Nat) (hs : 0 < s) : hup (x * 2 ^ t) (s + t) = hup x s := by
  unfold hup
  rw [if_neg (by omega), if_neg (by omega)]
  have e1 : x * 2 ^ t / 2 ^ (s + t) = x / 2 ^ s := by rw [Nat.pow_add]; exact Nat.mul_div_mul_right _ _ (Nat.pow_pos (by decide))
  have e2 : x * 2 ^ t / 2 ^ (s + t - 1) = x / 2 ^ (s - 1) := by
    rw [show s + t - 1 = s - 1 + t from by omega, Nat.pow_add]; exact Nat.mul_div_mul_right _ _ (Nat.pow_pos (by decide))
  rw [e1, e2]
theorem hup_down (x s : Nat) (hs : 32 < s) : hup (x / 4294967296) (s - 32) = hup x s := by
  unfold hup
  rw [if_neg (by omega), if_neg (by omega)]
  have e1 : x / 4294967296 / 2 ^ (s - 32) = x / 2 ^ s := by
    rw [Nat.div_div_eq_div_mul, show (4294967296 : Nat) = 2 ^ 32 from by decide, ← Nat.pow_add]; congr 2; omega
  have e2 : x / 4294967296 / 2 ^ (s - 32 - 1) = x / 2 ^ (s - 1) := by
    rw [Nat.div_div_eq_div_mul, show (4294967296 : Nat) = 2 ^ 32 from by decide, ← Nat.pow_add]; congr 2; omega
  rw [e1, e2]
theorem upN_hup (x s : Nat) (hs : 0 < s) : upN x (2 ^ s) = hup x s := by
  obtain ⟨t, rfl⟩ : ∃ t, s = t + 1 := ⟨s - 1, by omega⟩
  unfold upN hup
  rw [if_neg (show ¬ t + 1 = 0 by omega), Nat.add_sub_cancel]
  have e : x / 2 ^ (t + 1) = x / 2 ^ t / 2 := by rw [Nat.pow_succ, Nat.div_div_eq_div_mul]
  have e2 : x % 2 ^ (t + 1) = x % 2 ^ t + 2 ^ t * (x / 2 ^ t % 2) := by rw [Nat.pow_succ]; exact Nat.mod_mul
  have hp := Nat.pow_pos (n := t) (show 0 < 2 by decide)
  have hr := Nat.mod_lt x hp
  have hw : (2 : Nat) ^ (t + 1) = 2 ^ t * 2 := Nat.pow_succ ..
  rw [e, e2, hw]
  generalize x / 2 ^ t = q at *
  generalize x % 2 ^ t = r at *
  generalize 2 ^ t = P at *
  rcases Nat.mod_two_eq_zero_or_one q with h | h
  · rw [h, Nat.mul_zero, if_neg (by omega)]; rfl
  · rw [h, Nat.mul_one, if_pos (by omega)]
/-- A whole float as a whole number. -/
theorem to_word {m : Nat} (h1 : 4503599627370496 ≤ m) (h2 : m < 9007199254740992) : floatToIntVal .f64 (1074 * 4503599627370496 + m) .u64 = some (m : Int) := by
  obtain ⟨n, hn⟩ : ∃ n, 1074 * 4503599627370496 + m = n := ⟨_, rfl⟩
  rw [hn]
  have ha : fAbs n = n := by unfold fAbs; omega
  have hs : fSgn n = false := by unfold fSgn; rw [decide_eq_false_iff_not]; omega
  have hr := read_mid (n := n) (by omega) (by omega) (by omega)
  rw [hs, ha, show 4503599627370496 + n % 4503599627370496 = m from by omega, show n / 4503599627370496 - 1 = 1074 from by omega] at hr
  have hr' : FloatKind.f64.decode n = .number false m 0 := hr
  unfold floatToIntVal
  rw [hr']
  have hi : (Ieee.Datum.number false m 0).toInt .zero = some (m : Int) := by
    unfold Ieee.Datum.toInt Ieee.Datum.integral
    have hc : Ieee.Toward.zero.cut false (m <<< (0 : Int).toNat) (-0 : Int).toNat = m := by
      unfold Ieee.Toward.cut
      simp
    simp only [hc]
    unfold Ieee.signed
    simp
  rw [hi]
  have h3 : IntKind.u64.min ≤ (m : Int) ∧ (m : Int) ≤ IntKind.u64.max := by
    have a : IntKind.u64.min = 0 := by decide
    have b : IntKind.u64.max = 18446744073709551615 := by decide
    rw [a, b]; omega
  simp only []
  rw [if_pos h3]
theorem to_word_zero : floatToIntVal .f64 0 .u64 = some 0 := by decide +kernel
end Go.Proofs.Ytcppcfjejalggaa
