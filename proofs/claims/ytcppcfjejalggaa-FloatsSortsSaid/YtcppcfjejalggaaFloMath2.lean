/-
  Plain facts on floats as numbers and back, for the statements of layer 4: a float is its 64 bits as a natural number. Nothing of the program is imported.
-/
import Derived.Test.YtcppcfjejalggaaFloMath
set_option linter.unusedSimpArgs false
set_option linter.unusedVariables false
namespace Go.Proofs.Ytcppcfjejalggaa
/-- A quotient, rounded to the nearest, a half to the even one. -/
def rhe (a d : Nat) : Nat := a / d + (if d < 2 * (a % d) ∨ (2 * (a % d) = d ∧ a / d % 2 = 1) then 1 else 0)
theorem rhe_cases (a d : Nat) : (rhe a d = a / d + 1 ∧ (d < 2 * (a % d) ∨ (2 * (a % d) = d ∧ a / d % 2 = 1))) ∨ (rhe a d = a / d ∧ ¬ (d < 2 * (a % d) ∨ (2 * (a % d) = d ∧ a / d % 2 = 1))) := by
  unfold rhe
  by_cases h : d < 2 * (a % d) ∨ (2 * (a % d) = d ∧ a / d % 2 = 1)
  · rw [if_pos h]; exact .inl ⟨rfl, h⟩
  · rw [if_neg h]; exact .inr ⟨rfl, h⟩
theorem rhe_scale (c a d : Nat) (hc : 0 < c) : rhe (c * a) (c * d) = rhe a d := by
  have h1 : c * a / (c * d) = a / d := Nat.mul_div_mul_left a d hc
  have h2 : c * a % (c * d) = c * (a % d) := Nat.mul_mod_mul_left c a d
  have e : 2 * (c * (a % d)) = c * (2 * (a % d)) := by rw [← Nat.mul_assoc, Nat.mul_comm 2 c, Nat.mul_assoc]
  have h3 : (c * d < 2 * (c * (a % d))) ↔ d < 2 * (a % d) := by rw [e]; exact Nat.mul_lt_mul_left hc
  have h4 : (2 * (c * (a % d)) = c * d) ↔ 2 * (a % d) = d := by rw [e]; exact ⟨fun h => Nat.eq_of_mul_eq_mul_left hc h, fun h => by rw [h]⟩
  unfold rhe
  rw [h1, h2]
  simp only [h3, h4]
theorem rhe_mono {a b d : Nat} (h : a ≤ b) (hd : 0 < d) : rhe a d ≤ rhe b d := by
  have hq : a / d ≤ b / d := Nat.div_le_div_right h
  rcases Nat.lt_or_ge (a / d) (b / d) with hl | hl
  · rcases rhe_cases a d with ⟨h1, _⟩ | ⟨h1, _⟩ <;> rcases rhe_cases b d with ⟨h2, _⟩ | ⟨h2, _⟩ <;> omega
  · have he : a / d = b / d := by omega
    have ha := Nat.div_add_mod a d
    have hb := Nat.div_add_mod b d
    rw [he] at ha
    rcases rhe_cases a d with ⟨h1, c1⟩ | ⟨h1, c1⟩ <;> rcases rhe_cases b d with ⟨h2, c2⟩ | ⟨h2, c2⟩ <;> omega
/-- It is half the divisor from the exact one at most. -/
theorem rhe_near (a d : Nat) (hd : 0 < d) : 2 * (rhe a d * d) ≤ 2 * a + d ∧ 2 * a ≤ 2 * (rhe a d * d) + d := by
  have h := Nat.div_add_mod a d
  have hm := Nat.mod_lt a hd
  generalize hq : a / d = q at *
  generalize hr : a % d = r at *
  rcases rhe_cases a d with ⟨h1, c1⟩ | ⟨h1, c1⟩
  · rw [h1, hq, Nat.add_mul, Nat.one_mul, Nat.mul_comm q d]
    rw [hr, hq] at c1
    omega
  · rw [h1, hq, Nat.mul_comm q d]
    rw [hr, hq] at c1
    omega
theorem rhe_bounds {a d l u : Nat} (hd : 0 < d) (h1 : l * d ≤ a) (h2 : a < u * d) : l ≤ rhe a d ∧ rhe a d ≤ u := by
  have e1 : l ≤ a / d := (Nat.le_div_iff_mul_le hd).2 h1
  have e2 : a / d < u := (Nat.div_lt_iff_lt_mul hd).2 h2
  rcases rhe_cases a d with ⟨h, _⟩ | ⟨h, _⟩ <;> omega

/-! ### A number as a float -/
/-- So many bits to the left a number of millionths has 53 bits, as a float's m. -/
def KK (v k : Nat) : Prop := 4503599627370496 * 1000000 ≤ v * 2 ^ k ∧ v * 2 ^ k < 9007199254740992 * 1000000
theorem KK_unique {v k l : Nat} (h : KK v k) (h' : KK v l) : k = l := by
  have key : ∀ {a b : Nat}, KK v a → KK v b → ¬ a < b := by
    intro a b ha hb hlt
    obtain ⟨c, rfl⟩ := Nat.exists_eq_add_of_lt hlt
    have : v * 2 ^ (a + c + 1) = v * 2 ^ a * 2 ^ c * 2 := by rw [Nat.pow_succ, Nat.pow_add, Nat.mul_assoc, Nat.mul_assoc, Nat.mul_assoc]
    have h2 := hb.2
    rw [this] at h2
    have h1 := ha.1
    have hc : 1 ≤ 2 ^ c := Nat.one_le_two_pow
    have : v * 2 ^ a ≤ v * 2 ^ a * 2 ^ c := Nat.le_mul_of_pos_right _ hc
    omega
  rcases Nat.lt_trichotomy k l with hl | hl | hl
  · exact absurd hl (key h h')
  · exact hl
  · exact absurd hl (key h' h)
theorem KK_bounds {v k : Nat} (h : KK v k) (h0 : 0 < v) (h1 : v ≤ 9223372036854775807) : 9 ≤ k ∧ k ≤ 72 := by
  constructor
  · rcases Nat.lt_or_ge k 9 with hl | hl
    · have : (2 : Nat) ^ k ≤ 2 ^ 8 := Nat.pow_le_pow_right (by decide) (by omega)
      have h2 := Nat.mul_le_mul h1 this
      have := h.1
      omega
    · exact hl
  · rcases Nat.lt_or_ge 72 k with hl | hl
    · have : (2 : Nat) ^ 73 ≤ 2 ^ k := Nat.pow_le_pow_right (by decide) (by omega)
      have h2 := Nat.mul_le_mul (show 1 ≤ v from h0) this
      have := h.2
      omega
    · exact hl
theorem KK_any : ∀ (j v : Nat), 0 < v → v < 9007199254740992 * 1000000 → 4503599627370496 * 1000000 ≤ v * 2 ^ j → ∃ k, KK v k
  | 0, v, _, h1, h => ⟨0, h, by omega⟩
  | j + 1, v, h0, h1, h => by
    by_cases hl : v < 4503599627370496 * 1000000
    · obtain ⟨k, hk⟩ := KK_any j (v * 2) (by omega) (by omega) (by rw [Nat.mul_assoc, Nat.mul_comm 2, ← Nat.pow_succ]; exact h)
      exact ⟨k + 1, by unfold KK; rw [Nat.pow_succ, Nat.mul_comm (2 ^ k) 2, ← Nat.mul_assoc]; exact hk⟩
    · exact ⟨0, by omega, by omega⟩
theorem KK_ex {v : Nat} (h0 : 0 < v) (h1 : v ≤ 9223372036854775807) : ∃ k, KK v k :=
  KK_any 72 v h0 (by omega) (by have := Nat.mul_le_mul (show 1 ≤ v from h0) (Nat.le_refl (2 ^ 72)); omega)
/-- The bits of a number above 0. -/
def toPos (v k : Nat) : Nat := (1074 - k) * 4503599627370496 + rhe (v * 2 ^ k) 1000000
open Classical in
noncomputable def fK (v : Nat) : Nat := if h : ∃ k, KK v k then Classical.choose h else 0
theorem fK_of {v k : Nat} (h : KK v k) : fK v = k := by
  have hx : ∃ k, KK v k := ⟨k, h⟩
  unfold fK
  rw [dif_pos hx]
  exact KK_unique (Classical.choose_spec hx) h
/-- The bits of any number. -/
noncomputable def toB (v : Int) : Nat := if v = 0 then 0 else (if v < 0 then 9223372036854775808 else 0) + toPos v.natAbs (fK v.natAbs)
theorem rhe_range {v k : Nat} (h : KK v k) : 4503599627370496 ≤ rhe (v * 2 ^ k) 1000000 ∧ rhe (v * 2 ^ k) 1000000 ≤ 9007199254740992 := rhe_bounds (by decide) h.1 h.2
theorem toPos_range {v k : Nat} (h : KK v k) (hk : 9 ≤ k ∧ k ≤ 72) : 1003 * 4503599627370496 ≤ toPos v k ∧ toPos v k ≤ 1067 * 4503599627370496 := by
  have := rhe_range h
  unfold toPos
  omega
theorem toPos_mono {v u k l : Nat} (h : KK v k) (h' : KK u l) (hvu : v ≤ u) (hk : k ≤ 72) : toPos v k ≤ toPos u l := by
  have h1 := rhe_range h
  have h2 := rhe_range h'
  rcases Nat.lt_trichotomy l k with hl | hl | hl
  · unfold toPos; omega
  · subst hl
    have := rhe_mono (Nat.mul_le_mul_right (2 ^ l) hvu) (show 0 < 1000000 by decide)
    unfold toPos; omega
  · exfalso
    have h3 : (2 : Nat) ^ (k + 1) ≤ 2 ^ l := Nat.pow_le_pow_right (by decide) hl
    have h4 := Nat.mul_le_mul hvu h3
    rw [Nat.pow_succ] at h4
    have h5 := h.1
    have h6 := h'.2
    have : v * (2 ^ k * 2) = v * 2 ^ k * 2 := (Nat.mul_assoc _ _ _).symm
    omega
/-- What the bits of a number above 0 say: m and e. -/
theorem toPos_parts {v k : Nat} (h : KK v k) (hk : 9 ≤ k ∧ k ≤ 72) :
    (fSgn (toPos v k) = false) ∧ ((rhe (v * 2 ^ k) 1000000 < 9007199254740992 ∧ fExp (toPos v k) = 1075 - k ∧ fM (toPos v k) = rhe (v * 2 ^ k) 1000000 ∧ fE (toPos v k) = -(k : Int)) ∨
      (rhe (v * 2 ^ k) 1000000 = 9007199254740992 ∧ fExp (toPos v k) = 1076 - k ∧ fM (toPos v k) = 4503599627370496 ∧ fE (toPos v k) = 1 - (k : Int))) := by
  have hr := rhe_range h
  generalize hR : rhe (v * 2 ^ k) 1000000 = r at *
  have ht : toPos v k = (1074 - k) * 4503599627370496 + r := by unfold toPos; rw [hR]
  rw [ht]
  refine ⟨?_, ?_⟩
  · unfold fSgn; rw [decide_eq_false_iff_not]; omega
  · rcases Nat.lt_or_ge r 9007199254740992 with hl | hl
    · left
      have e1 : fExp ((1074 - k) * 4503599627370496 + r) = 1075 - k := by unfold fExp; omega
      have e2 : fFrc ((1074 - k) * 4503599627370496 + r) = r - 4503599627370496 := by unfold fFrc; omega
      refine ⟨hl, e1, ?_, ?_⟩
      · unfold fM; rw [e1, e2, if_neg (by omega), if_neg (by omega)]; omega
      · unfold fE; rw [e1, if_neg (by omega), if_neg (by omega)]; omega
    · right
      have e1 : fExp ((1074 - k) * 4503599627370496 + r) = 1076 - k := by unfold fExp; omega
      have e2 : fFrc ((1074 - k) * 4503599627370496 + r) = 0 := by unfold fFrc; omega
      refine ⟨by omega, e1, ?_, ?_⟩
      · unfold fM; rw [e1, e2, if_neg (by omega), if_neg (by omega)]
      · unfold fE; rw [e1, if_neg (by omega), if_neg (by omega)]; omega

/-! ### A float as a number -/
/-- A size of x over 2 to the s, a half upwards. -/
def hup (x s : Nat) : Nat := x / 2 ^ s + (if s = 0 then 0 else x / 2 ^ (s - 1) % 2)
/-- So many millionths. -/
def frM (n : Nat) : Nat := if 0 < fE n then fM n * 1000000 * 2 ^ (fE n).toNat else hup (fM n * 1000000) (-fE n).toNat
/-- Null, the number, the refusal. -/
def frN (n : Nat) : Bool × Int × Int :=
  if fKind n = 0 then (true, 0, 0) else if fKind n = 1 ∨ fKind n = 6 then (false, 0, 3) else
  if 9223372036854775807 < frM n then (false, 0, 3) else (false, if fSgn n then -(frM n : Int) else (frM n : Int), 0)
theorem hup_of {x s v : Nat} (hs : 0 < s) (h1 : 2 * (v * 2 ^ s) ≤ 2 * x + 2 ^ s) (h2 : 2 * x < 2 * (v * 2 ^ s) + 2 ^ s) : hup x s = v := by
  obtain ⟨t, rfl⟩ : ∃ t, s = t + 1 := ⟨s - 1, by omega⟩
  unfold hup
  rw [if_neg (by omega), Nat.add_sub_cancel]
  have hp : 0 < 2 ^ t := Nat.pow_pos (by decide)
  have e : x / 2 ^ (t + 1) = x / 2 ^ t / 2 := by rw [Nat.pow_succ, Nat.div_div_eq_div_mul]
  rw [e]
  rw [Nat.pow_succ] at h1 h2
  have a1 : v * (2 ^ t * 2) = 2 * v * 2 ^ t := by rw [Nat.mul_comm (2 ^ t) 2, ← Nat.mul_assoc, Nat.mul_comm v 2]
  rw [a1] at h1 h2
  by_cases hv : v = 0
  · subst hv
    have : x / 2 ^ t = 0 := Nat.div_eq_of_lt (by omega)
    rw [this]
  · have b1 : 2 * v - 1 ≤ x / 2 ^ t := by
      rw [Nat.le_div_iff_mul_le hp, Nat.sub_mul, Nat.one_mul]
      omega
    have b2 : x / 2 ^ t < 2 * v + 1 := by
      rw [Nat.div_lt_iff_lt_mul hp, Nat.add_mul, Nat.one_mul]
      omega
    omega
/-- There and back: a number whose size is at most 2 to the 51. -/
theorem back_pos {v k : Nat} (h : KK v k) (h0 : 0 < v) (h1 : v ≤ 2251799813685248) : frM (toPos v k) = v := by
  have hk := KK_bounds h h0 (by omega)
  have hk21 : 21 ≤ k := by
    rcases Nat.lt_or_ge k 21 with hl | hl
    · have : (2 : Nat) ^ k ≤ 2 ^ 20 := Nat.pow_le_pow_right (by decide) (by omega)
      have h2 := Nat.mul_le_mul h1 this
      have := h.1
      omega
    · exact hl
  have hp : (2 : Nat) ^ 21 ≤ 2 ^ k := Nat.pow_le_pow_right (by decide) hk21
  have hn := rhe_near (v * 2 ^ k) 1000000 (by decide)
  have hpk : (2 : Nat) ^ k = 2 ^ (k - 1) * 2 := by
    conv => lhs; rw [show k = k - 1 + 1 from by omega]
    rw [Nat.pow_succ]
  rcases (toPos_parts h hk).2 with ⟨hl, _, hm, he⟩ | ⟨hr, _, hm, he⟩
  · unfold frM
    rw [hm, he, if_neg (by omega), show (-(-(k : Int))).toNat = k from by omega]
    generalize rhe (v * 2 ^ k) 1000000 = r at *
    exact hup_of (by omega) (by omega) (by omega)
  · unfold frM
    rw [hm, he, if_neg (by omega), show (-(1 - (k : Int))).toNat = k - 1 from by omega]
    rw [hr] at hn
    have : v * 2 ^ k = 2 * (v * 2 ^ (k - 1)) := by rw [hpk, Nat.mul_comm (2 ^ (k - 1)) 2, ← Nat.mul_assoc, Nat.mul_comm v 2, Nat.mul_assoc]
    exact hup_of (by omega) (by omega) (by omega)
end Go.Proofs.Ytcppcfjejalggaa
