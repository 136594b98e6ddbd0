/-
  Plain facts on needles (layer 9): how a pattern is compiled. Nothing of the program is imported.
-/
import Derived.Test.YtodlgbihdehmbaaGreatDoorNdlMathP
set_option linter.unusedSimpArgs false
set_option linter.unusedVariables false
namespace Go.Proofs.YtodlgbihdehmbaaGreatDoor.Nd
/-- Whether a byte is among the members of a class, each of them from one byte to another. -/
def ndIn (rs : List (Nat × Nat)) (b : Nat) : Bool := rs.any fun r => decide (r.1 ≤ b) && decide (b ≤ r.2)
/-- The members of a class, and what stands behind its end. -/
def ndMem : Nat → List Nat → Option (List (Nat × Nat) × List Nat)
  | 0, _ => none
  | n + 1, [] => none
  | n + 1, a :: l => if a = 93 then some ([], l) else
      if 2 ≤ l.length ∧ l.getD 0 0 = 45 ∧ l.getD 1 0 ≠ 93 then (if l.getD 1 0 < a then none else (ndMem n (l.drop 2)).map fun x => ((a, l.getD 1 0) :: x.1, x.2))
      else (ndMem n l).map fun x => ((a, a) :: x.1, x.2)
def ndWord (f : Nat → Bool) (k : Nat) : Nat → Nat
  | 0 => 0
  | m + 1 => ndWord f k m + if f (64 * k + m) = true then 2 ^ m else 0
theorem ndWord_lt (f : Nat → Bool) (k : Nat) : ∀ m, ndWord f k m < 2 ^ m
  | 0 => by show 0 < 1; omega
  | m + 1 => by
    have h := ndWord_lt f k m
    show ndWord f k m + (if f (64 * k + m) = true then 2 ^ m else 0) < 2 ^ (m + 1)
    rw [Nat.pow_succ]
    split <;> omega
theorem ndWord_bit (f : Nat → Bool) (k : Nat) : ∀ (m j : Nat), (ndWord f k m).testBit j = (decide (j < m) && f (64 * k + j))
  | 0, j => by
    show (0 : Nat).testBit j = _
    rw [Nat.zero_testBit]
    simp
  | m + 1, j => by
    have ih := ndWord_bit f k m j
    have hlt := ndWord_lt f k m
    show (ndWord f k m + (if f (64 * k + m) = true then 2 ^ m else 0)).testBit j = _
    by_cases hf : f (64 * k + m) = true
    · rw [if_pos hf, Nat.add_comm]
      rcases Nat.lt_trichotomy j m with h | h | h
      · rw [Nat.testBit_two_pow_add_gt h, ih]
        congr 1
        rw [decide_eq_true h, decide_eq_true (by omega)]
      · subst h
        rw [Nat.testBit_two_pow_add_eq, ih, hf]
        simp
      · have h2 : 2 ^ m + ndWord f k m < 2 ^ j := by
          have h3 : 2 ^ (m + 1) ≤ 2 ^ j := Nat.pow_le_pow_right (by decide) h
          rw [Nat.pow_succ] at h3
          omega
        rw [Nat.testBit_lt_two_pow h2, decide_eq_false (by omega), Bool.false_and]
    · rw [if_neg hf, Nat.add_zero, ih]
      by_cases hj : j = m
      · subst hj
        rw [Bool.eq_false_iff.2 hf]
        simp
      · congr 1
        rw [decide_eq_decide]
        omega
/-- The item of a class. -/
def ndCls (rs : List (Nat × Nat)) (nt : Bool) : NI :=
  ⟨ndWord (fun b => ndIn rs b != nt) 0 64, ndWord (fun b => ndIn rs b != nt) 1 64, ndWord (fun b => ndIn rs b != nt) 2 64, ndWord (fun b => ndIn rs b != nt) 3 64, false⟩
def ndAll : NI := ⟨18446744073709551615, 18446744073709551615, 18446744073709551615, 18446744073709551615, false⟩
/-- A class whose first member, or ^, stands first. -/
def ndClass (l : List Nat) : Option (NI × List Nat) :=
  match ndMem ((if (l.getD 0 0 == 94) = true then l.drop 1 else l).length + 1) (if (l.getD 0 0 == 94) = true then l.drop 1 else l) with
  | none => none
  | some (rs, r) => if rs = [] then none else some (ndCls rs (l.getD 0 0 == 94), r)
/-- An atom, and what stands behind it. -/
def ndAtom : List Nat → Option (NI × List Nat)
  | [] => none
  | a :: l =>
    if a = 94 ∨ a = 42 ∨ a = 93 then none
    else if a = 46 then some (ndAll, l)
    else if a = 92 then (match l with
      | [] => none
      | b :: r => some (ndOne b, r))
    else if a = 91 then ndClass l
    else some (ndOne a, l)
theorem ndAtom_cons (a : Nat) (l : List Nat) : ndAtom (a :: l) = if a = 94 ∨ a = 42 ∨ a = 93 then none
    else if a = 46 then some (ndAll, l)
    else if a = 92 then (match l with
      | [] => none
      | b :: r => some (ndOne b, r))
    else if a = 91 then ndClass l
    else some (ndOne a, l) := rfl
def NI.starred (i : NI) (st : Bool) : NI := ⟨i.s0, i.s1, i.s2, i.s3, st⟩
/-- The items, and whether $ stands at the end. -/
def ndItems : Nat → List Nat → Option (List NI × Bool)
  | 0, _ => none
  | n + 1, [] => some ([], false)
  | n + 1, a :: l =>
    if a = 36 then (if l = [] then some ([], true) else none)
    else match ndAtom (a :: l) with
      | none => none
      | some (i, r) => (ndItems n (if (r.getD 0 0 == 42) = true then r.drop 1 else r)).map fun x => (i.starred (r.getD 0 0 == 42) :: x.1, x.2)
def NN.zero : NN := ⟨false, false, []⟩
def ndComp (p : List Nat) : NN × Int :=
  if 64 < p.length then (NN.zero, 12)
  else match ndItems (p.length + 1) (if (p.getD 0 0 == 94) = true then p.drop 1 else p) with
    | none => (NN.zero, 10)
    | some (is, fin) => (⟨p.getD 0 0 == 94, fin, is⟩, 0)
def ndMatch (p t : List Nat) : Bool × Int := if (ndComp p).2 = 0 then (ndFound (ndComp p).1 t, 0) else (false, (ndComp p).2)
theorem ndMem_rest : ∀ (n : Nat) (l : List Nat) (x : List (Nat × Nat) × List Nat), ndMem n l = some x → x.2.length < l.length
  | 0, l, x, h => by cases h
  | n + 1, [], x, h => by cases h
  | n + 1, a :: l, x, h => by
    unfold ndMem at h
    by_cases h1 : a = 93
    · rw [if_pos h1] at h
      obtain rfl := Option.some.inj h
      exact Nat.lt_succ_self _
    · rw [if_neg h1] at h
      by_cases h2 : 2 ≤ l.length ∧ l.getD 0 0 = 45 ∧ l.getD 1 0 ≠ 93
      · rw [if_pos h2] at h
        by_cases h3 : l.getD 1 0 < a
        · rw [if_pos h3] at h; cases h
        · rw [if_neg h3, Option.map_eq_some_iff] at h
          obtain ⟨y, h4, rfl⟩ := h
          have := ndMem_rest n _ y h4
          rw [List.length_drop] at this
          simp only [List.length_cons]
          omega
      · rw [if_neg h2, Option.map_eq_some_iff] at h
        obtain ⟨y, h4, rfl⟩ := h
        have := ndMem_rest n _ y h4
        simp only [List.length_cons]
        omega
theorem ndMem_fuel : ∀ (n m : Nat) (l : List Nat), l.length < n → l.length < m → ndMem n l = ndMem m l
  | 0, m, l, h, _ => absurd h (Nat.not_lt_zero _)
  | n + 1, 0, l, _, h => absurd h (Nat.not_lt_zero _)
  | n + 1, m + 1, [], _, _ => rfl
  | n + 1, m + 1, a :: l, h1, h2 => by
    simp only [List.length_cons] at h1 h2
    unfold ndMem
    rw [ndMem_fuel n m l (by omega) (by omega), ndMem_fuel n m (l.drop 2) (by rw [List.length_drop]; omega) (by rw [List.length_drop]; omega)]
theorem ndClass_rest {l : List Nat} {x : NI × List Nat} (h : ndClass l = some x) : x.2.length < l.length := by
  unfold ndClass at h
  obtain ⟨l2, hl2⟩ : ∃ l2, (if (l.getD 0 0 == 94) = true then l.drop 1 else l) = l2 := ⟨_, rfl⟩
  rw [hl2] at h
  have hle : l2.length ≤ l.length := by
    rw [← hl2]
    split
    · rw [List.length_drop]; omega
    · exact Nat.le_refl _
  cases hm : ndMem (l2.length + 1) l2 with
  | none => rw [hm] at h; cases h
  | some y =>
    obtain ⟨rs, r⟩ := y
    rw [hm] at h
    have h3 := ndMem_rest _ _ _ hm
    by_cases hr : rs = []
    · simp only [if_pos hr] at h; cases h
    · simp only [if_neg hr] at h
      obtain rfl := Option.some.inj h
      exact Nat.lt_of_lt_of_le h3 hle
theorem ndAtom_rest {a : Nat} {l : List Nat} {x : NI × List Nat} (h : ndAtom (a :: l) = some x) : x.2.length ≤ l.length := by
  rw [ndAtom_cons] at h
  by_cases h1 : a = 94 ∨ a = 42 ∨ a = 93
  · rw [if_pos h1] at h; cases h
  · rw [if_neg h1] at h
    by_cases h2 : a = 46
    · rw [if_pos h2] at h
      obtain rfl := Option.some.inj h
      exact Nat.le_refl _
    · rw [if_neg h2] at h
      by_cases h3 : a = 92
      · rw [if_pos h3] at h
        cases l with
        | nil => cases h
        | cons b r =>
          obtain rfl := Option.some.inj h
          exact Nat.le_succ _
      · rw [if_neg h3] at h
        by_cases h4 : a = 91
        · rw [if_pos h4] at h
          exact Nat.le_of_lt (ndClass_rest h)
        · rw [if_neg h4] at h
          obtain rfl := Option.some.inj h
          exact Nat.le_refl _
theorem ndItems_fuel : ∀ (n m : Nat) (l : List Nat), l.length < n → l.length < m → ndItems n l = ndItems m l
  | 0, m, l, h, _ => absurd h (Nat.not_lt_zero _)
  | n + 1, 0, l, _, h => absurd h (Nat.not_lt_zero _)
  | n + 1, m + 1, [], _, _ => rfl
  | n + 1, m + 1, a :: l, h1, h2 => by
    simp only [List.length_cons] at h1 h2
    unfold ndItems
    by_cases h3 : a = 36
    · rw [if_pos h3, if_pos h3]
    · rw [if_neg h3, if_neg h3]
      cases ha : ndAtom (a :: l) with
      | none => rfl
      | some x =>
        obtain ⟨i, r⟩ := x
        have h4 := ndAtom_rest ha
        have h5 : (if (r.getD 0 0 == 42) = true then r.drop 1 else r).length ≤ l.length := by
          split
          · rw [List.length_drop]; exact Nat.le_trans (Nat.sub_le _ _) h4
          · exact h4
        show (ndItems n _).map _ = (ndItems m _).map _
        rw [ndItems_fuel n m _ (by omega) (by omega)]
end Go.Proofs.YtodlgbihdehmbaaGreatDoor.Nd
