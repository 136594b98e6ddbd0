/-
  Plain laws of numbers with six decimals, for the statements of layer 2. Nothing of the program is imported.
-/
import Derived.Test.YthnokbdkgehiaaaMath2
namespace Go.Proofs.Ythnokbdkgehiaaa
theorem addO_comm (x y : Option Int) : addO x y = addO y x := by
  cases x <;> cases y <;> first | rfl | (show lim _ = lim _; rw [Int.add_comm])
theorem bne_comm' (p q : Bool) : (p != q) = (q != p) := by cases p <;> cases q <;> rfl
theorem mulO_comm (x y : Option Int) : mulO x y = mulO y x := by
  cases x with
  | none => cases y <;> rfl
  | some a => cases y with
    | none => rfl
    | some b => show rndO _ _ _ = rndO _ _ _; rw [Nat.mul_comm, bne_comm']
theorem neg_lim (t : Int) : negO (lim t) = lim (-t) := by
  unfold lim
  by_cases h : -9223372036854775807 ≤ t ∧ t ≤ 9223372036854775807
  · rw [if_pos h, if_pos (by omega)]; rfl
  · rw [if_neg h, if_neg (by omega)]; rfl
theorem subO_anti (x y : Option Int) : subO x y = negO (subO y x) := by
  cases x with
  | none => cases y <;> rfl
  | some a => cases y with
    | none => rfl
    | some b =>
      show lim (a + -b) = negO (lim (b + -a))
      rw [neg_lim]; congr 1; omega
/-- What is added and taken away again is as it was, where the sum can be told. -/
theorem addO_back {a b : Int} (ha : -9223372036854775807 ≤ a ∧ a ≤ 9223372036854775807) {s : Int} (h : addO (some a) (some b) = some s) : subO (some s) (some b) = some a := by
  have h1 : lim (a + b) = some s := h
  unfold lim at h1
  split at h1
  · have e : a + b = s := by simpa using h1
    show lim (s + -b) = some a
    rw [show s + -b = a from by omega]
    exact lim_in ha
  · simp at h1
/-- Sums of three, where all can be told. -/
theorem addO_assoc (x y z : Option Int) : addO (addO x y) z = none ∨ addO x (addO y z) = none ∨ addO (addO x y) z = addO x (addO y z) := by
  cases x with
  | none => exact .inl (by cases y <;> cases z <;> rfl)
  | some a => cases y with
    | none => exact .inl (by cases z <;> rfl)
    | some b => cases z with
      | none => exact .inl (by cases h : addO (some a) (some b) <;> rfl)
      | some c =>
        show addO (lim (a + b)) (some c) = none ∨ addO (some a) (lim (b + c)) = none ∨ addO (lim (a + b)) (some c) = addO (some a) (lim (b + c))
        by_cases h1 : -9223372036854775807 ≤ a + b ∧ a + b ≤ 9223372036854775807
        · by_cases h2 : -9223372036854775807 ≤ b + c ∧ b + c ≤ 9223372036854775807
          · right; right
            rw [lim_in h1, lim_in h2]
            show lim (a + b + c) = lim (a + (b + c))
            rw [Int.add_assoc]
          · right; left; rw [lim_out h2]; rfl
        · left; rw [lim_out h1]; rfl

/-! ### Products by one, quotients by one -/
theorem one_is : intO 1 = some 1000000 := by decide
theorem up_exact (n d : Nat) (hd : 0 < d) : upN (n * d) d = n := by
  unfold upN
  rw [Nat.mul_mod_left, if_neg (by omega), Nat.mul_div_cancel _ hd]
theorem rnd_exact {a : Int} (h : -9223372036854775807 ≤ a ∧ a ≤ 9223372036854775807) : rndO (a.natAbs * 1000000) 1000000 (decide (a < 0)) = some a := by
  unfold rndO
  rw [up_exact _ _ (by decide)]
  have hlt : a.natAbs < 18446744073709551616 := by omega
  have e1 : hiOf a.natAbs = 0 := by unfold hiOf; omega
  have e2 : loOf a.natAbs = a.natAbs := Nat.mod_eq_of_lt hlt
  rw [if_pos e1, e2]
  unfold signO
  rw [if_pos (by omega)]
  by_cases hn : a < 0
  · rw [decide_eq_true hn, if_pos rfl]; congr 1; omega
  · rw [decide_eq_false hn, if_neg (by simp)]; congr 1; omega
theorem mul_one' {a : Int} (h : -9223372036854775807 ≤ a ∧ a ≤ 9223372036854775807) : mulO (some a) (some 1000000) = some a := by
  show rndO (a.natAbs * 1000000) 1000000 (decide (a < 0) != false) = some a
  rw [Bool.bne_false]
  exact rnd_exact h
theorem div_one' {a : Int} (h : -9223372036854775807 ≤ a ∧ a ≤ 9223372036854775807) : divO (some a) (some 1000000) = some a := by
  show (if (1000000 : Int) = 0 then none else rndO (a.natAbs * 1000000) 1000000 (decide (a < 0) != false)) = some a
  rw [if_neg (by decide), Bool.bne_false]
  exact rnd_exact h

/-! ### How near a product is -/
theorem up_near (e d : Nat) (hd : 0 < d) : 2 * e < 2 * (upN e d * d) + d + 1 ∧ 2 * (upN e d * d) ≤ 2 * e + d := by
  have h1 : d * (e / d) + e % d = e := Nat.div_add_mod _ _
  have h2 : e % d < d := Nat.mod_lt _ hd
  rw [Nat.mul_comm] at h1
  unfold upN
  split
  · rw [Nat.add_mul, Nat.one_mul]; omega
  · omega
theorem near_up {e : Nat} : e < upN e 1000000 * 1000000 + 500000 ∧ upN e 1000000 * 1000000 ≤ e + 500000 := by
  have h1 : 1000000 * (e / 1000000) + e % 1000000 = e := Nat.div_add_mod _ _
  have h2 : e % 1000000 < 1000000 := Nat.mod_lt _ (by decide)
  unfold upN
  split <;> omega
theorem beyond {u e : Nat} (h : 9223372036854775807 < u) (n2 : u * 1000000 ≤ e + 500000) : 9223372036854775807500000 ≤ e := by omega
/-- A product that is nothing is beyond what can be told; else it is near, and has the sign that it must have. -/
theorem mul_near {a b : Int} (hE : a.natAbs * b.natAbs < M) :
    (mulO (some a) (some b) = none ∧ 9223372036854775807500000 ≤ a.natAbs * b.natAbs) ∨
    ∃ p : Int, mulO (some a) (some b) = some p ∧ p.natAbs ≤ 9223372036854775807 ∧ a.natAbs * b.natAbs < p.natAbs * 1000000 + 500000 ∧ p.natAbs * 1000000 ≤ a.natAbs * b.natAbs + 500000 ∧
      (p = 0 ∨ decide (p < 0) = (decide (a < 0) != decide (b < 0))) := by
  show (rndO (a.natAbs * b.natAbs) 1000000 (decide (a < 0) != decide (b < 0)) = none ∧ _) ∨ ∃ p : Int, rndO (a.natAbs * b.natAbs) 1000000 (decide (a < 0) != decide (b < 0)) = some p ∧ _
  generalize (decide (a < 0) != decide (b < 0)) = s
  generalize a.natAbs * b.natAbs = e at *
  obtain ⟨n1, n2⟩ := near_up (e := e)
  have hM : M = 340282366920938463463374607431768211456 := rfl
  unfold rndO
  generalize upN e 1000000 = u at *
  by_cases hz : hiOf u = 0
  · have hu : u < 18446744073709551616 := by unfold hiOf at hz; omega
    have hl : loOf u = u := Nat.mod_eq_of_lt hu
    rw [if_pos hz, hl]
    unfold signO
    by_cases hs : u ≤ 9223372036854775807
    · right
      rw [if_pos hs]
      refine ⟨_, rfl, ?_⟩
      have hab : (if s = true then -(u : Int) else (u : Int)).natAbs = u := by cases s <;> simp
      rw [hab]
      refine ⟨hs, n1, n2, ?_⟩
      cases s
      · right; rw [decide_eq_false_iff_not]; show ¬ (u : Int) < 0; exact Int.not_lt.2 (Int.natCast_nonneg u)
      · rcases Nat.eq_zero_or_pos u with h0 | h0
        · left; subst h0; rfl
        · right; rw [decide_eq_true_eq]; show -(u : Int) < 0; exact Int.neg_neg_of_pos (Int.natCast_pos.2 h0)
    · left
      rw [if_neg hs]
      exact ⟨rfl, beyond (Nat.lt_of_not_le hs) n2⟩
  · left
    rw [if_neg hz]
    have hu : 18446744073709551616 ≤ u := by
      apply Nat.le_of_not_lt
      intro hlt
      apply hz
      unfold hiOf
      omega
    exact ⟨rfl, beyond (by omega) n2⟩

/-! ### How near a root is -/
theorem root_near {a : Int} (h0 : 0 ≤ a) (h1 : a ≤ 9223372036854775807) : ∃ n : Nat, rootO (some a) = some (n : Int) ∧ n < 9223372036854775807 ∧ n * n ≤ a.natAbs * 1000000 ∧ a.natAbs * 1000000 < (n + 1) * (n + 1) := by
  have hM : a.natAbs * 1000000 < M := by unfold M; omega
  have h := rt_is hM
  refine ⟨rt (a.natAbs * 1000000), ?_, ?_, h.1, h.2⟩
  · show (if a < 0 then none else signO (rt (a.natAbs * 1000000)) false) = _
    rw [if_neg (by omega)]
    unfold signO
    rw [if_pos (Nat.le_of_not_lt fun hlt => ?_)]
    · rfl
    · have := Nat.mul_le_mul (show 9223372036854775808 ≤ rt (a.natAbs * 1000000) from hlt) (show 9223372036854775808 ≤ rt (a.natAbs * 1000000) from hlt)
      omega
  · apply Nat.lt_of_not_le
    intro hle
    have := Nat.mul_le_mul hle hle
    omega
end Go.Proofs.Ythnokbdkgehiaaa
