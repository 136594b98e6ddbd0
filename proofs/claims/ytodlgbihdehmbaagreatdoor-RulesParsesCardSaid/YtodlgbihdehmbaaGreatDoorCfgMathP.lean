/-
  Plain facts on configurations as text, for the statements of layer 11: a text is a list of bytes as natural numbers, a section a name and its pairs. Nothing of the program is imported.
-/
import Derived.Test.YtodlgbihdehmbaaGreatDoorRetMathP
set_option linter.unusedSimpArgs false
set_option linter.unusedVariables false
namespace Go.Proofs.YtodlgbihdehmbaaGreatDoor
def isBl (c : Nat) : Bool := c == 32 || c == 9
def blL (l : List Nat) : List Nat := l.dropWhile isBl
def blR (l : List Nat) : List Nat := (l.reverse.dropWhile isBl).reverse
def blB (l : List Nat) : List Nat := blR (blL l)
theorem blL_cons (c : Nat) (l : List Nat) : blL (c :: l) = if isBl c then blL l else c :: l := by
  unfold blL
  by_cases h : isBl c = true
  · rw [if_pos h, List.dropWhile_cons_of_pos h]
  · rw [if_neg h, List.dropWhile_cons_of_neg h]
theorem blR_snoc (l : List Nat) (c : Nat) : blR (l ++ [c]) = if isBl c then blR l else l ++ [c] := by
  unfold blR
  rw [List.reverse_append, List.reverse_singleton, List.singleton_append]
  by_cases h : isBl c = true
  · rw [if_pos h, List.dropWhile_cons_of_pos h]
  · rw [if_neg h, List.dropWhile_cons_of_neg h]; simp
theorem blL_length (l : List Nat) : (blL l).length ≤ l.length := (List.dropWhile_sublist _).length_le
theorem blR_length (l : List Nat) : (blR l).length ≤ l.length := by
  unfold blR
  rw [List.length_reverse]
  have := (List.dropWhile_sublist (l := l.reverse) isBl).length_le
  rw [List.length_reverse] at this; exact this
theorem blB_length (l : List Nat) : (blB l).length ≤ l.length := Nat.le_trans (blR_length _) (blL_length _)
theorem blL_mem {l : List Nat} {c : Nat} (h : c ∈ blL l) : c ∈ l := (List.dropWhile_sublist _).mem h
theorem blR_mem {l : List Nat} {c : Nat} (h : c ∈ blR l) : c ∈ l := by
  unfold blR at h
  rw [List.mem_reverse] at h
  have := (List.dropWhile_sublist (l := l.reverse) isBl).mem h
  rwa [List.mem_reverse] at this
theorem blB_mem {l : List Nat} {c : Nat} (h : c ∈ blB l) : c ∈ l := blL_mem (blR_mem h)
/-- It begins, and ends, with neither a blank nor a tab. -/
def Bare (l : List Nat) : Prop := blL l = l ∧ blR l = l
theorem Bare.same {l : List Nat} (h : Bare l) : blB l = l := by unfold blB; rw [h.1, h.2]
/-- Without a carriage return at the end. -/
def crV (l : List Nat) : List Nat := if l ≠ [] ∧ lastB l = 13 then l.dropLast else l
def lnV (l : List Nat) : List Nat := blB (crV l)
/-- It is not idle. -/
def kept (l : List Nat) : Bool := decide (l ≠ [] ∧ byteAt l 0 ≠ 35 ∧ byteAt l 0 ≠ 59)
def keepV (ps : List (List Nat)) : List (List Nat) := (ps.map lnV).filter kept
def linesV (l : List Nat) : List (List Nat) := keepV (spl 10 l)
theorem lastB_snoc (l : List Nat) (c : Nat) : lastB (l ++ [c]) = c := by
  unfold lastB byteAt
  simp
theorem crV_mem {l : List Nat} {c : Nat} (h : c ∈ crV l) : c ∈ l := by
  unfold crV at h
  split at h
  · exact List.dropLast_subset _ h
  · exact h
theorem crV_length (l : List Nat) : (crV l).length ≤ l.length := by
  unfold crV
  split
  · rw [List.length_dropLast]; omega
  · exact Nat.le_refl _
theorem lnV_mem {l : List Nat} {c : Nat} (h : c ∈ lnV l) : c ∈ l := crV_mem (blB_mem h)
theorem lnV_length (l : List Nat) : (lnV l).length ≤ l.length := Nat.le_trans (blB_length _) (crV_length _)
theorem linesV_count (l : List Nat) : (linesV l).length ≤ l.length + 1 := by
  unfold linesV keepV
  refine Nat.le_trans (List.length_filter_le _ _) ?_
  rw [List.length_map]
  exact spl_length 10 l
theorem linesV_length {l s : List Nat} (h : s ∈ linesV l) : s.length ≤ l.length := by
  unfold linesV keepV at h
  obtain ⟨h1, _⟩ := List.mem_filter.1 h
  obtain ⟨p, hp, rfl⟩ := List.mem_map.1 h1
  exact Nat.le_trans (lnV_length p) (spl_part_length 10 l p hp)
theorem keepV_app (a b : List (List Nat)) : keepV (a ++ b) = keepV a ++ keepV b := by unfold keepV; rw [List.map_append, List.filter_append]
abbrev KV := List Nat × List Nat
abbrev Sec := List Nat × List KV
def namedV (s : List Nat) : Bool := decide (93 ∉ s ∧ 1 ≤ s.length ∧ s.length ≤ 32)
def isLet (c : Nat) : Bool := decide ((97 ≤ c ∧ c ≤ 122) ∨ (65 ≤ c ∧ c ≤ 90))
def keyedV (s : List Nat) : Bool := s.all isLet && decide (1 ≤ s.length ∧ s.length ≤ 32)
/-- A line's key and value; whether it says one. -/
def cutC (s : List Nat) : KV × Bool :=
  match spl 61 s with
  | [] => (([], []), false)
  | [_] => (([], []), false)
  | k :: _ => ((blB k, blB (s.drop (k.length + 1))), keyedV (blB k))
def getV (l : List KV) (k : List Nat) : Option (List Nat) := (l.find? fun p => p.1 == k).map (·.2)
/-- The name of the section that a line begins. -/
def headV (s : List Nat) : Option (List Nat) :=
  if 2 ≤ s.length ∧ byteAt s 0 = 91 ∧ lastB s = 93 ∧ namedV ((s.drop 1).dropLast) = true then some ((s.drop 1).dropLast) else none
def hasV (l : List Sec) (n : List Nat) : Bool := l.any fun x => x.1 == n
/-- One line more. -/
def stepV (out : List Sec) (s : List Nat) : List Sec × Int :=
  match headV s with
  | some n => if hasV out n = true then ([], 5) else if out.length = 16 then ([], 11) else (out ++ [(n, [])], 0)
  | none =>
    match out.getLast? with
    | none => ([], 7)
    | some x =>
      if (cutC s).2 = false then ([], 7)
      else if (getV x.2 (cutC s).1.1).isSome then ([], 5)
      else if x.2.length = 16 then ([], 11)
      else (out.dropLast ++ [(x.1, x.2 ++ [(cutC s).1])], 0)
def runV : List Sec → List (List Nat) → List Sec × Int
  | out, [] => (out, 0)
  | out, s :: L => if (stepV out s).2 = 0 then runV (stepV out s).1 L else ([], (stepV out s).2)
def confV (l : List Nat) : List Sec × Int := if 4096 < l.length then ([], 12) else runV [] (linesV l)
theorem runV_cons (out : List Sec) (t : List Nat) (L : List (List Nat)) : runV out (t :: L) = if (stepV out t).2 = 0 then runV (stepV out t).1 L else ([], (stepV out t).2) := rfl
/-- What one line more does to what the lines so far make. -/
def nextV (r : List Sec × Int) (s : List Nat) : List Sec × Int := if r.2 = 0 then (if (stepV r.1 s).2 = 0 then ((stepV r.1 s).1, 0) else ([], (stepV r.1 s).2)) else r
theorem runV_snoc (s : List Nat) : ∀ (L : List (List Nat)) (out : List Sec), runV out (L ++ [s]) = nextV (runV out L) s
  | [], out => rfl
  | t :: L, out => by
    have ih := runV_snoc s L
    rw [List.cons_append, runV_cons, runV_cons]
    by_cases h : (stepV out t).2 = 0
    · rw [if_pos h, if_pos h, ih]
    · rw [if_neg h, if_neg h]
      unfold nextV
      rw [if_neg h]
/-- The sections on the way are few, and of few pairs each. -/
structure Few (out : List Sec) : Prop where
  secs : out.length ≤ 16
  keys : ∀ x ∈ out, x.2.length ≤ 16
theorem step_few {out : List Sec} (h : Few out) (s : List Nat) : Few (stepV out s).1 := by
  have none' : Few ([] : List Sec) := ⟨Nat.zero_le _, fun x hx => nomatch hx⟩
  unfold stepV
  split
  · split
    · exact none'
    · split
      · exact none'
      · rename_i n _ _ h16
        refine ⟨by have := h.secs; rw [List.length_append, List.length_singleton]; omega, fun x hx => ?_⟩
        rcases List.mem_append.1 hx with hx | hx
        · exact h.keys x hx
        · obtain rfl := List.mem_singleton.1 hx
          exact Nat.zero_le _
  · split
    · exact none'
    · rename_i x hx
      split
      · exact none'
      · split
        · exact none'
        · split
          · exact none'
          · rename_i h16
            have hxm : x ∈ out := List.mem_of_getLast? hx
            have hpos : 0 < out.length := List.length_pos_of_mem hxm
            refine ⟨by have := h.secs; rw [List.length_append, List.length_singleton, List.length_dropLast]; omega, fun y hy => ?_⟩
            rcases List.mem_append.1 hy with hy | hy
            · exact h.keys y (List.dropLast_subset _ hy)
            · obtain rfl := List.mem_singleton.1 hy
              have := h.keys x hxm
              show (x.2 ++ [(cutC s).1]).length ≤ 16
              rw [List.length_append, List.length_singleton]; omega
theorem run_few : ∀ (L : List (List Nat)) {out : List Sec}, Few out → Few (runV out L).1
  | [], out, h => h
  | s :: L, out, h => by
    unfold runV
    split
    · exact run_few L (step_few h s)
    · exact ⟨Nat.zero_le _, fun x hx => nomatch hx⟩
theorem conf_few (l : List Nat) : Few (confV l).1 := by
  unfold confV
  split
  · exact ⟨Nat.zero_le _, fun x hx => nomatch hx⟩
  · exact run_few _ ⟨Nat.zero_le _, fun x hx => nomatch hx⟩
end Go.Proofs.YtodlgbihdehmbaaGreatDoor
