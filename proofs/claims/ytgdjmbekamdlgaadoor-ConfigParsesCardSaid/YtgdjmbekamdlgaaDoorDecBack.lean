/-
  There and back: what is printed is parsed as it was, in at most 21 bytes. Nothing of the program is imported.
-/
import Derived.Test.YtgdjmbekamdlgaaDoorDecCanB
set_option linter.unusedSimpArgs false
set_option linter.unusedVariables false
namespace Go.Proofs.YtgdjmbekamdlgaaDoor
theorem val_append (l m : List Nat) : val (l ++ m) = m.foldl (fun n c => n * 10 + (c - 48)) (val l) := by unfold val; rw [List.foldl_append]
theorem val_digs : ∀ (n : Nat), val (digs n) = n := by
  intro n
  induction n using Nat.strongRecOn with
  | _ n ih =>
    by_cases h : n < 10
    · rw [digs_small h]; show 0 * 10 + (48 + n - 48) = n; omega
    · rw [digs_big h, val_snoc, ih (n / 10) (by omega)]; omega
theorem allD_digs (n : Nat) : allD (digs n) = true := by
  unfold allD
  rw [List.all_eq_true]
  intro c hc
  have := digs_byte n c hc
  simp [isD]; omega
theorem frF_length : ∀ (k x : Nat), (frF k x).length ≤ k := by
  intro k
  induction k with
  | zero => intro x; simp [frF]
  | succ k ih =>
    intro x
    by_cases h : x = 0
    · rw [h, frF_zero]; simp
    · rw [frF_step h, List.length_cons]; have := ih (x % 100000 * 10); omega
theorem allD_frF : ∀ (k x : Nat), x < 1000000 → allD (frF k x) = true := by
  intro k
  induction k with
  | zero => intro x _; rfl
  | succ k ih =>
    intro x hx
    by_cases h : x = 0
    · rw [h, frF_zero]; rfl
    · rw [frF_step h, allD_cons]
      refine ⟨?_, ih _ (by omega)⟩
      simp [isD]; omega
theorem frF_val : ∀ (k : Nat), k ≤ 6 → ∀ (x V : Nat), x < 1000000 → (frF k x).foldl (fun n c => n * 10 + (c - 48)) V * 10 ^ (k - (frF k x).length) = V * 10 ^ k + x / 10 ^ (6 - k) := by
  intro k
  induction k with
  | zero => intro _ x V hx; show V * 1 = V * 1 + x / 1000000; rw [Nat.div_eq_of_lt hx]; rfl
  | succ k ih =>
    intro hk x V hx
    by_cases h : x = 0
    · rw [h, frF_zero]; simp
    · rw [frF_step h, List.length_cons, List.foldl_cons]
      have e := ih (by omega) (x % 100000 * 10) (V * 10 + (48 + x / 100000 - 48)) (by omega)
      rw [show k + 1 - ((frF k (x % 100000 * 10)).length + 1) = k - (frF k (x % 100000 * 10)).length from by omega, e]
      obtain ⟨j, hj⟩ : ∃ j, 5 - k = j := ⟨_, rfl⟩
      have e1 : 6 - k = j + 1 := by omega
      have e2 : 6 - (k + 1) = j := by omega
      have e3 : (100000 : Nat) = 10 ^ k * 10 ^ j := by rw [← Nat.pow_add, show k + j = 5 from by omega]
      rw [e1, e2, Nat.pow_succ, Nat.mul_div_mul_right _ _ (by decide : 0 < 10)]
      rw [show 48 + x / 100000 - 48 = x / 100000 from by omega]
      have hx' : x = x % 100000 + 10 ^ j * (x / 100000 * 10 ^ k) := by
        have : 10 ^ j * (x / 100000 * 10 ^ k) = 100000 * (x / 100000) := by
          rw [e3]; simp only [Nat.mul_comm, Nat.mul_left_comm, Nat.mul_assoc]
        rw [this]; omega
      have hdiv : x / 10 ^ j = x % 100000 / 10 ^ j + x / 100000 * 10 ^ k := by
        conv => lhs; rw [hx']
        exact Nat.add_mul_div_left _ _ (Nat.pow_pos (by decide))
      rw [hdiv, Nat.add_mul, Nat.pow_succ]
      have : V * 10 * 10 ^ k = V * (10 ^ k * 10) := by rw [Nat.mul_assoc, Nat.mul_comm 10]
      omega
theorem parts_of {i f : List Nat} (hi : allD i = true) : ipart (i ++ 46 :: f) = i ∧ fpart (i ++ 46 :: f) = f := by
  induction i with
  | nil => exact ⟨rfl, rfl⟩
  | cons c i ih =>
    obtain ⟨hc, h⟩ := allD_cons.1 hi
    have h46 := isD_dot hc
    have := ih h
    exact ⟨(if_neg h46).trans (congrArg (List.cons c) this.1), (if_neg h46).trans this.2⟩
theorem parts_no {i : List Nat} (hi : allD i = true) : ipart i = i ∧ fpart i = [] := by
  refine (part_dot i).1 (fun hm => ?_)
  unfold allD at hi
  rw [List.all_eq_true] at hi
  have := hi 46 hm
  exact absurd this (by decide)
/-- A number's decimals: none, or a point and some. -/
def evF (p : Nat) : List Nat := if p = 0 then [] else 46 :: frF 6 p
theorem magn_size (q p : Nat) (hp : p < 1000000) : magn (digs q) (frF 6 p) = q * 1000000 + p := by
  unfold magn
  have hl := frF_length 6 p
  rw [List.take_of_length_le hl, val_append, val_digs, frF_val 6 (Nat.le_refl _) p q hp, byte_past hl]
  simp
theorem canon_size (q p : Nat) (hp : p < 1000000) (neg : Bool) : canon (digs q ++ evF p) neg = if 9223372036854775807 < q * 1000000 + p then (0, 3) else (if neg then -((q * 1000000 + p : Nat) : Int) else ((q * 1000000 + p : Nat) : Int), 0) := by
  unfold canon evF
  by_cases h : p = 0
  · rw [if_pos h, List.append_nil, (parts_no (allD_digs q)).1, (parts_no (allD_digs q)).2, if_pos ⟨allD_digs q, rfl, by simpa using digs_ne q⟩]
    have := magn_size q 0 (by decide)
    rw [frF_zero] at this
    rw [this, h]
  · rw [if_neg h, (parts_of (allD_digs q)).1, (parts_of (allD_digs q)).2, if_pos ⟨allD_digs q, allD_frF 6 p hp, by simp [digs_ne]⟩, magn_size q p hp]
theorem size_ev (a : Nat) : sizeS a = digs (a / 1000000) ++ evF (a % 1000000) := rfl
theorem digs_head (q : Nat) (m : List Nat) : byteAt (digs q ++ m) 0 ≠ 45 ∧ byteAt (digs q ++ m) 0 ≠ 43 := by
  obtain ⟨c, l, h⟩ := List.exists_cons_of_ne_nil (digs_ne q)
  have hc := digs_byte q c (by rw [h]; exact List.mem_cons_self)
  rw [h]
  show c ≠ 45 ∧ c ≠ 43
  omega
theorem cut_plain {l : List Nat} (h : byteAt l 0 ≠ 45 ∧ byteAt l 0 ≠ 43) : cut1 l = l ∧ sgnB l = false :=
  ⟨if_neg (by rintro ⟨-, e | e⟩; exact h.1 e; exact h.2 e), by unfold sgnB; rw [decide_eq_false_iff_not]; exact fun e => h.1 e.1⟩
theorem cut_minus (l : List Nat) : cut1 (45 :: l) = l ∧ sgnB (45 :: l) = true := ⟨rfl, rfl⟩
theorem sizeS_length {a : Nat} (h : a ≤ 9223372036854775807) : (sizeS a).length ≤ 20 := by
  rw [size_ev, List.length_append]
  have h1 := digs_length 12 (a / 1000000) (by have : (10 : Nat) ^ (12 + 1) = 10000000000000 := by decide
                                              omega)
  have h2 : (evF (a % 1000000)).length ≤ 7 := by
    unfold evF
    split
    · simp
    · rw [List.length_cons]; have := frF_length 6 (a % 1000000); omega
  omega
theorem print_length {v : Int} (h0 : -9223372036854775807 ≤ v) (h1 : v ≤ 9223372036854775807) : (printS (some v)).length ≤ 21 := by
  show ((if v < 0 then [45] else []) ++ sizeS v.natAbs).length ≤ 21
  have := sizeS_length (a := v.natAbs) (by omega)
  rw [List.length_append]
  split <;> simp <;> omega
/-- What is printed is parsed as it was. -/
theorem print_back {v : Int} (h0 : -9223372036854775807 ≤ v) (h1 : v ≤ 9223372036854775807) : canP (printS (some v)) = (v, 0) := by
  have hlen := print_length h0 h1
  unfold canP
  rw [if_neg (by omega)]
  have hs : printS (some v) = (if v < 0 then [45] else []) ++ (digs (v.natAbs / 1000000) ++ evF (v.natAbs % 1000000)) := rfl
  rw [hs]
  have hc := canon_size (v.natAbs / 1000000) (v.natAbs % 1000000) (by omega)
  have ha : v.natAbs / 1000000 * 1000000 + v.natAbs % 1000000 = v.natAbs := by omega
  by_cases h : v < 0
  · rw [if_pos h]
    rw [List.cons_append, List.nil_append]
    rw [(cut_minus _).1, (cut_minus _).2, hc true, ha, if_neg (by omega)]
    show (-(v.natAbs : Int), (0 : Int)) = _
    rw [show -(v.natAbs : Int) = v from by omega]
  · rw [if_neg h, List.nil_append, (cut_plain (digs_head _ _)).1, (cut_plain (digs_head _ _)).2, hc false, ha, if_neg (by omega)]
    show ((v.natAbs : Int), (0 : Int)) = _
    rw [show (v.natAbs : Int) = v from by omega]
theorem print_none_back : canP (printS none) = (0, 2) := by decide
/-- What is parsed can be told. -/
theorem canP_range {l : List Nat} {v : Int} (h : canP l = (v, 0)) : -9223372036854775807 ≤ v ∧ v ≤ 9223372036854775807 := by
  unfold canP at h
  split at h
  · simp at h
  · unfold canon at h
    split at h
    · split at h
      · simp at h
      · simp only [Prod.mk.injEq, and_true] at h
        split at h <;> omega
    · simp at h
theorem canP_zero (l : List Nat) (h : (canP l).2 ≠ 0) : (canP l).1 = 0 := by
  unfold canP canon at *
  split at h
  · rw [if_pos (by assumption)]
  · rw [if_neg (by assumption)]
    split at h
    · rw [if_pos (by assumption)]
      split at h
      · rw [if_pos (by assumption)]
      · exact absurd rfl h
    · rw [if_neg (by assumption)]
end Go.Proofs.YtgdjmbekamdlgaaDoor
