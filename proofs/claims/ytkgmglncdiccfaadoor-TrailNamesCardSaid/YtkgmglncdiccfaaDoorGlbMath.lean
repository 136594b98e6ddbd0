/-
  Plain facts on patterns of one name (layer 15): how they are read, what they come to, what they fit. Nothing of the program is imported.
-/
import Derived.Lib.Hide
set_option linter.unusedSimpArgs false
set_option linter.unusedVariables false
namespace Go.Proofs.YtkgmglncdiccfaaDoor
/-- Is it a name byte? -/
def isB (c : Nat) : Bool := (decide (97 ≤ c) && decide (c ≤ 122)) || (decide (65 ≤ c) && decide (c ≤ 90)) || (decide (48 ≤ c) && decide (c ≤ 57)) || [95, 45, 58, 37, 35, 64, 43, 61].contains c
theorem isB_no {c : Nat} (h : c = 44 ∨ c = 125 ∨ c = 123 ∨ c = 91 ∨ c = 63 ∨ c = 42 ∨ c = 93) : isB c = false := by
  rcases h with rfl | rfl | rfl | rfl | rfl | rfl | rfl <;> decide
theorem isB_ne {c d : Nat} (h : isB c = true) (hd : isB d = false) : c ≠ d := fun e => by
  subst e
  rw [h] at hd
  cases hd
/-- A piece without braces. -/
inductive GA where
  | one (c : Nat)
  | each
  | star
  | cls (t : List Nat) (rs : List (Nat × Nat))
def GA.txt : GA → List Nat
  | .one c => [c]
  | .each => [63]
  | .star => [42]
  | .cls t _ => t
/-- What a piece fits that fits one byte. -/
def GA.fit : GA → Nat → Bool
  | .one c, x => decide (c = x)
  | .each, _ => true
  | .star, _ => false
  | .cls _ rs, x => rs.any fun r => decide (r.1 ≤ x) && decide (x ≤ r.2)
/-- Pieces, and alternatives, one behind the other. -/
inductive Tr where
  | nil
  | atom (a : GA) (r : Tr)
  | br (ws r : Tr)
  | none
  | way (p ws : Tr)
def Tr.app : Tr → Tr → Tr
  | .nil, t => t
  | .atom a r, t => .atom a (r.app t)
  | .br ws r, t => .br ws (r.app t)
  | .none, t => t
  | .way p ws, t => .way p (ws.app t)
def Tr.len : Tr → Nat
  | .nil => 0
  | .atom _ r => r.len + 1
  | .br _ r => r.len + 1
  | .none => 0
  | .way _ ws => ws.len + 1
theorem Tr.app_assoc : ∀ (a b c : Tr), (a.app b).app c = a.app (b.app c)
  | .nil, _, _ => rfl
  | .none, _, _ => rfl
  | .atom x r, b, c => congrArg (Tr.atom x) (Tr.app_assoc r b c)
  | .br ws r, b, c => congrArg (Tr.br ws) (Tr.app_assoc r b c)
  | .way p ws, b, c => congrArg (Tr.way p) (Tr.app_assoc ws b c)
theorem Tr.app_len : ∀ (a b : Tr), (a.app b).len = a.len + b.len
  | .nil, b => (Nat.zero_add _).symm
  | .none, b => (Nat.zero_add _).symm
  | .atom x r, b => by show (r.app b).len + 1 = r.len + 1 + b.len; rw [Tr.app_len r b]; omega
  | .br ws r, b => by show (r.app b).len + 1 = r.len + 1 + b.len; rw [Tr.app_len r b]; omega
  | .way p ws, b => by show (ws.app b).len + 1 = ws.len + 1 + b.len; rw [Tr.app_len ws b]; omega
/-- A member of a class that a text begins with, and how many bytes it has. -/
def gMem (s : List Nat) : Option ((Nat × Nat) × Nat) :=
  if isB (s.getD 0 0) = true then
    if 3 ≤ s.length ∧ s.getD 1 0 = 45 ∧ isB (s.getD 2 0) = true then if s.getD 0 0 ≤ s.getD 2 0 then some ((s.getD 0 0, s.getD 2 0), 3) else none
    else some ((s.getD 0 0, s.getD 0 0), 1)
  else none
theorem gMem_size {s : List Nat} {m : Nat × Nat} {k : Nat} (h : gMem s = some (m, k)) : k = 1 ∨ (k = 3 ∧ 3 ≤ s.length) := by
  unfold gMem at h
  split at h
  · split at h
    · rename_i h3
      split at h
      · simp only [Option.some.injEq, Prod.mk.injEq] at h; omega
      · cases h
    · simp only [Option.some.injEq, Prod.mk.injEq] at h; omega
  · cases h
/-- A class's members behind its [, and how many bytes stand ahead of its ]. -/
def gCls (s : List Nat) : Option (List (Nat × Nat) × Nat) :=
  match s with
  | [] => none
  | c :: t =>
    if c = 93 then some ([], 0) else
    match gMem (c :: t) with
    | none => none
    | some (m, k) =>
      match gCls (t.drop (k - 1)) with
      | none => none
      | some (rs, n) => some (m :: rs, k + n)
termination_by s.length
decreasing_by simp; omega
theorem gCls_nil : gCls [] = none := by rw [gCls]
theorem gCls_end (t : List Nat) : gCls (93 :: t) = some ([], 0) := by rw [gCls]; rfl
theorem gCls_no {c : Nat} {t : List Nat} (hc : c ≠ 93) (h : gMem (c :: t) = none) : gCls (c :: t) = none := by rw [gCls, if_neg hc, h]
theorem gCls_yes {c : Nat} {t : List Nat} (hc : c ≠ 93) {m : Nat × Nat} {k : Nat} (h : gMem (c :: t) = some (m, k)) : gCls (c :: t) = (gCls ((c :: t).drop k)).map fun x => (m :: x.1, k + x.2) := by
  have e : (c :: t).drop k = t.drop (k - 1) := by
    have := gMem_size h
    obtain ⟨j, rfl⟩ : ∃ j, k = j + 1 := ⟨k - 1, by omega⟩
    rfl
  rw [gCls, if_neg hc, h, e]
  show (match gCls (t.drop (k - 1)) with
    | none => none
    | some (rs, n) => some (m :: rs, k + n)) = _
  cases gCls (t.drop (k - 1)) with
  | none => rfl
  | some x => rfl
theorem gCls_size : ∀ (N : Nat) (s : List Nat), s.length ≤ N → ∀ {rs : List (Nat × Nat)} {n : Nat}, gCls s = some (rs, n) → n + 1 ≤ s.length
  | 0, s, hs, rs, n, h => by
    obtain rfl : s = [] := List.eq_nil_of_length_eq_zero (by omega)
    rw [gCls_nil] at h
    cases h
  | N + 1, [], hs, rs, n, h => by
    rw [gCls_nil] at h
    cases h
  | N + 1, c :: t, hs, rs, n, h => by
    by_cases hc : c = 93
    · subst hc
      rw [gCls_end] at h
      simp only [Option.some.injEq, Prod.mk.injEq] at h
      simp only [List.length_cons]
      omega
    · cases hm : gMem (c :: t) with
      | none => rw [gCls_no hc hm] at h; cases h
      | some mk =>
        obtain ⟨m, k⟩ := mk
        rw [gCls_yes hc hm] at h
        have hk := gMem_size hm
        cases hr : gCls ((c :: t).drop k) with
        | none => rw [hr] at h; cases h
        | some x =>
          rw [hr] at h
          simp only [Option.map_some, Option.some.injEq, Prod.mk.injEq] at h
          simp only [List.length_cons] at hs hk ⊢
          have := gCls_size N ((c :: t).drop k) (by rw [List.length_drop]; simp only [List.length_cons]; omega) (rs := x.1) (n := x.2) hr
          rw [List.length_drop] at this
          simp only [List.length_cons] at this
          omega
theorem getD_app {s r : List Nat} {k : Nat} (h : k < s.length) : (s ++ r).getD k 0 = s.getD k 0 := by
  rw [List.getD_eq_getElem?_getD, List.getD_eq_getElem?_getD, List.getElem?_append_left h]
/-- Behind a class's end nothing matters. -/
theorem gCls_app : ∀ (N : Nat) (s : List Nat), s.length ≤ N → ∀ {rs : List (Nat × Nat)} {n : Nat} (r : List Nat), gCls s = some (rs, n) → gCls (s.take (n + 1) ++ r) = some (rs, n)
  | 0, s, hs, rs, n, r, h => by
    obtain rfl : s = [] := List.eq_nil_of_length_eq_zero (by omega)
    rw [gCls_nil] at h
    cases h
  | N + 1, [], hs, rs, n, r, h => by
    rw [gCls_nil] at h
    cases h
  | N + 1, c :: t, hs, rs, n, r, h => by
    by_cases hc : c = 93
    · subst hc
      rw [gCls_end] at h
      simp only [Option.some.injEq, Prod.mk.injEq] at h
      obtain ⟨rfl, rfl⟩ := h
      exact gCls_end _
    · cases hm : gMem (c :: t) with
      | none => rw [gCls_no hc hm] at h; cases h
      | some mk =>
        obtain ⟨m, k⟩ := mk
        rw [gCls_yes hc hm] at h
        have hk := gMem_size hm
        cases hr : gCls ((c :: t).drop k) with
        | none => rw [hr] at h; cases h
        | some x =>
          rw [hr] at h
          simp only [Option.map_some, Option.some.injEq, Prod.mk.injEq] at h
          obtain ⟨rfl, rfl⟩ := h
          have hsz := gCls_size _ _ (Nat.le_refl _) (rs := x.1) (n := x.2) hr
          have ih := gCls_app N ((c :: t).drop k) (by rw [List.length_drop]; simp only [List.length_cons] at hs ⊢; omega) (rs := x.1) (n := x.2) r hr
          rw [List.length_drop] at hsz
          have h93 : ((c :: t).drop k).getD x.2 0 = 93 ∨ True := Or.inr trivial
          have e1 : (c :: t).take (k + x.2 + 1) ++ r = c :: (t.take (k + x.2) ++ r) := rfl
          have e2 : ((c :: t).take (k + x.2 + 1) ++ r).drop k = ((c :: t).drop k).take (x.2 + 1) ++ r := by
            rw [List.drop_append_of_le_length (by rw [List.length_take]; omega), List.drop_take, show k + x.2 + 1 - k = x.2 + 1 by omega]
          have hm2 : gMem ((c :: t).take (k + x.2 + 1) ++ r) = some (m, k) := by
            have hl : ((c :: t).take (k + x.2 + 1)).length = k + x.2 + 1 := by rw [List.length_take]; omega
            have hg : ∀ j, j < k + x.2 + 1 → ((c :: t).take (k + x.2 + 1) ++ r).getD j 0 = (c :: t).getD j 0 := fun j hj => by
              rw [getD_app (by omega), List.getD_eq_getElem?_getD, List.getD_eq_getElem?_getD, List.getElem?_take, if_pos hj]
            by_cases h3 : 3 ≤ k + x.2 + 1
            · unfold gMem at hm ⊢
              rw [hg 0 (by omega), hg 1 (by omega), hg 2 (by omega)]
              have i1 : (3 ≤ ((c :: t).take (k + x.2 + 1) ++ r).length) := by rw [List.length_append]; omega
              have i2 : 3 ≤ (c :: t).length := by omega
              simp only [i1, i2, true_and] at hm ⊢
              exact hm
            · have hk1 : k = 1 := by omega
              have hx : x.2 = 0 := by omega
              have h93 : (c :: t).getD 1 0 = 93 := by
                subst hk1
                cases t with
                | nil => rw [show (c :: []).drop 1 = ([] : List Nat) from rfl, gCls_nil] at hr; cases hr
                | cons d t =>
                  by_cases hd : d = 93
                  · subst hd; rfl
                  · exfalso
                    rw [show (c :: d :: t).drop 1 = d :: t from rfl] at hr
                    cases hm3 : gMem (d :: t) with
                    | none => rw [gCls_no hd hm3] at hr; cases hr
                    | some mk =>
                      obtain ⟨m3, k3⟩ := mk
                      rw [gCls_yes hd hm3] at hr
                      have := gMem_size hm3
                      cases hr3 : gCls ((d :: t).drop k3) with
                      | none => rw [hr3] at hr; cases hr
                      | some y =>
                        rw [hr3] at hr
                        simp only [Option.map_some, Option.some.injEq] at hr
                        rw [← hr] at hx
                        simp only at hx
                        omega
              have hB : isB ((c :: t).getD 0 0) = true := by
                unfold gMem at hm
                split at hm
                · assumption
                · cases hm
              have hmv : m = ((c :: t).getD 0 0, (c :: t).getD 0 0) := by
                unfold gMem at hm
                rw [if_pos hB, if_neg (by rw [h93]; omega)] at hm
                simp only [Option.some.injEq, Prod.mk.injEq] at hm
                exact hm.1.symm
              unfold gMem
              rw [hg 0 (by omega), hg 1 (by omega), if_pos hB, if_neg (by rw [h93]; omega), hmv, hk1]
          rw [e1]
          rw [e1] at hm2
          rw [gCls_yes hc hm2, ← e1, e2, ih]
          rfl
/-- A piece without braces that a text begins with, and how many bytes it has. -/
def gAt (s : List Nat) : Option (GA × Nat) :=
  match s with
  | [] => none
  | c :: t =>
    if c = 91 then
      match gCls t with
      | none => none
      | some (rs, n) => if rs.isEmpty = true then none else some (.cls ((c :: t).take (n + 2)) rs, n + 2)
    else if c = 63 then some (.each, 1)
    else if c = 42 then some (.star, 1)
    else if isB c = true then some (.one c, 1)
    else none
/-- How pieces (false), or alternatives up to their } (true), are read, and what stands behind them. -/
def gPr (b : Bool) (s : List Nat) : Option (Tr × List Nat) :=
  match b with
  | false =>
    match s with
    | [] => some (.nil, [])
    | c :: t =>
      if c = 44 ∨ c = 125 then some (.nil, c :: t) else
      if c = 123 then
        match gPr true t with
        | none => none
        | some (ws, r) =>
          if h : r.length ≤ t.length then
            match gPr false r with
            | none => none
            | some (l, r') => some (.br ws l, r')
          else none
      else
        match gAt (c :: t) with
        | none => none
        | some (a, k) =>
          match gPr false (t.drop (k - 1)) with
          | none => none
          | some (l, r') => some (.atom a l, r')
  | true =>
    match gPr false s with
    | none => none
    | some (p, r) =>
      match r with
      | [] => none
      | c :: t =>
        if c = 125 then some (.way p .none, t) else
        if h : t.length < s.length then
          match gPr true t with
          | none => none
          | some (ws, r') => some (.way p ws, r')
        else none
termination_by (s.length, if b then 1 else 0)
decreasing_by
  all_goals first
    | (apply Prod.Lex.left; simp; done)
    | (apply Prod.Lex.left; simp; omega)
    | (apply Prod.Lex.left; omega)
    | (apply Prod.Lex.right; decide)
    | (apply Prod.Lex.right; simp)
end Go.Proofs.YtkgmglncdiccfaaDoor
