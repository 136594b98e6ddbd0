/-
  Texts of the trie's proofs, merged: GlbMath, GlbPars, GlbBs, GlbRow.
-/
import Derived.Lib.Hide
import Derived.Laws.Concat
import Derived.Laws.Strings2
import Derived.Test.YtbfbjalnahngjaaGreatDoorProg
import Derived.Test.YtbfbjalnahngjaaGreatDoorMemRow
import Derived.Below
import Derived.OwnWalk
import Derived.WalkKit
import Derived.WalkSmall
import Derived.Deep.MidRow
import Derived.Maps.AppendAt
set_option linter.unusedSimpArgs false
set_option linter.unusedVariables false
namespace Go.Proofs.YtbfbjalnahngjaaGreatDoor
/-- Is it a name byte? -/
def isB (c : Nat) : Bool := (decide (97 ≤ c) && decide (c ≤ 122)) || (decide (65 ≤ c) && decide (c ≤ 90)) || (decide (48 ≤ c) && decide (c ≤ 57)) || [95, 45, 58, 37, 35, 64, 43, 61].contains c
theorem isB_no {c : Nat} (h : c = 44 ∨ c = 125 ∨ c = 123 ∨ c = 91 ∨ c = 63 ∨ c = 42 ∨ c = 93) : isB c = false := by
  rcases h with rfl | rfl | rfl | rfl | rfl | rfl | rfl <;> decide
theorem isB_ne {c d : Nat} (h : isB c = true) (hd : isB d = false) : c ≠ d := fun e => by
  subst e
  rw [h] at hd
  cases hd
/-- A piece without braces. -/
inductive GA where
  | one (c : Nat)
  | each
  | star
  | cls (t : List Nat) (rs : List (Nat × Nat))
def GA.txt : GA → List Nat
  | .one c => [c]
  | .each => [63]
  | .star => [42]
  | .cls t _ => t
/-- What a piece fits that fits one byte. -/
def GA.fit : GA → Nat → Bool
  | .one c, x => decide (c = x)
  | .each, _ => true
  | .star, _ => false
  | .cls _ rs, x => rs.any fun r => decide (r.1 ≤ x) && decide (x ≤ r.2)
/-- Pieces, and alternatives, one behind the other. -/
inductive Tr where
  | nil
  | atom (a : GA) (r : Tr)
  | br (ws r : Tr)
  | none
  | way (p ws : Tr)
def Tr.app : Tr → Tr → Tr
  | .nil, t => t
  | .atom a r, t => .atom a (r.app t)
  | .br ws r, t => .br ws (r.app t)
  | .none, t => t
  | .way p ws, t => .way p (ws.app t)
def Tr.len : Tr → Nat
  | .nil => 0
  | .atom _ r => r.len + 1
  | .br _ r => r.len + 1
  | .none => 0
  | .way _ ws => ws.len + 1
theorem Tr.app_assoc : ∀ (a b c : Tr), (a.app b).app c = a.app (b.app c)
  | .nil, _, _ => rfl
  | .none, _, _ => rfl
  | .atom x r, b, c => congrArg (Tr.atom x) (Tr.app_assoc r b c)
  | .br ws r, b, c => congrArg (Tr.br ws) (Tr.app_assoc r b c)
  | .way p ws, b, c => congrArg (Tr.way p) (Tr.app_assoc ws b c)
theorem Tr.app_len : ∀ (a b : Tr), (a.app b).len = a.len + b.len
  | .nil, b => (Nat.zero_add _).symm
  | .none, b => (Nat.zero_add _).symm
  | .atom x r, b => by show (r.app b).len + 1 = r.len + 1 + b.len; rw [Tr.app_len r b]; omega
  | .br ws r, b => by show (r.app b).len + 1 = r.len + 1 + b.len; rw [Tr.app_len r b]; omega
  | .way p ws, b => by show (ws.app b).len + 1 = ws.len + 1 + b.len; rw [Tr.app_len ws b]; omega
/-- A member of a class that a text begins with, and how many bytes it has. -/
def gMem (s : List Nat) : Option ((Nat × Nat) × Nat) :=
  if isB (s.getD 0 0) = true then
    if 3 ≤ s.length ∧ s.getD 1 0 = 45 ∧ isB (s.getD 2 0) = true then if s.getD 0 0 ≤ s.getD 2 0 then some ((s.getD 0 0, s.getD 2 0), 3) else none
    else some ((s.getD 0 0, s.getD 0 0), 1)
  else none
theorem gMem_size {s : List Nat} {m : Nat × Nat} {k : Nat} (h : gMem s = some (m, k)) : k = 1 ∨ (k = 3 ∧ 3 ≤ s.length) := by
  unfold gMem at h
  split at h
  · split at h
    · rename_i h3
      split at h
      · simp only [Option.some.injEq, Prod.mk.injEq] at h; omega
      · cases h
    · simp only [Option.some.injEq, Prod.mk.injEq] at h; omega
  · cases h
/-- A class's members behind its [, and how many bytes stand ahead of its ]. -/
def gCls (s : List Nat) : Option (List (Nat × Nat) × Nat) :=
  match s with
  | [] => none
  | c :: t =>
    if c = 93 then some ([], 0) else
    match gMem (c :: t) with
    | none => none
    | some (m, k) =>
      match gCls (t.drop (k - 1)) with
      | none => none
      | some (rs, n) => some (m :: rs, k + n)
termination_by s.length
decreasing_by simp; omega
theorem gCls_nil : gCls [] = none := by rw [gCls]
theorem gCls_end (t : List Nat) : gCls (93 :: t) = some ([], 0) := by rw [gCls]; rfl
theorem gCls_no {c : Nat} {t : List Nat} (hc : c ≠ 93) (h : gMem (c :: t) = none) : gCls (c :: t) = none := by rw [gCls, if_neg hc, h]
theorem gCls_yes {c : Nat} {t : List Nat} (hc : c ≠ 93) {m : Nat × Nat} {k : Nat} (h : gMem (c :: t) = some (m, k)) : gCls (c :: t) = (gCls ((c :: t).drop k)).map fun x => (m :: x.1, k + x.2) := by
  have e : (c :: t).drop k = t.drop (k - 1) := by
    have := gMem_size h
    obtain ⟨j, rfl⟩ : ∃ j, k = j + 1 := ⟨k - 1, by omega⟩
    rfl
  rw [gCls, if_neg hc, h, e]
  show (match gCls (t.drop (k - 1)) with
    | none => none
    | some (rs, n) => some (m :: rs, k + n)) = _
  cases gCls (t.drop (k - 1)) with
  | none => rfl
  | some x => rfl
theorem gCls_size : ∀ (N : Nat) (s : List Nat), s.length ≤ N → ∀ {rs : List (Nat × Nat)} {n : Nat}, gCls s = some (rs, n) → n + 1 ≤ s.length
  | 0, s, hs, rs, n, h => by
    obtain rfl : s = [] := List.eq_nil_of_length_eq_zero (by omega)
    rw [gCls_nil] at h
    cases h
  | N + 1, [], hs, rs, n, h => by
    rw [gCls_nil] at h
    cases h
  | N + 1, c :: t, hs, rs, n, h => by
    by_cases hc : c = 93
    · subst hc
      rw [gCls_end] at h
      simp only [Option.some.injEq, Prod.mk.injEq] at h
      simp only [List.length_cons]
      omega
    · cases hm : gMem (c :: t) with
      | none => rw [gCls_no hc hm] at h; cases h
      | some mk =>
        obtain ⟨m, k⟩ := mk
        rw [gCls_yes hc hm] at h
        have hk := gMem_size hm
        cases hr : gCls ((c :: t).drop k) with
        | none => rw [hr] at h; cases h
        | some x =>
          rw [hr] at h
          simp only [Option.map_some, Option.some.injEq, Prod.mk.injEq] at h
          simp only [List.length_cons] at hs hk ⊢
          have := gCls_size N ((c :: t).drop k) (by rw [List.length_drop]; simp only [List.length_cons]; omega) (rs := x.1) (n := x.2) hr
          rw [List.length_drop] at this
          simp only [List.length_cons] at this
          omega
theorem getD_app {s r : List Nat} {k : Nat} (h : k < s.length) : (s ++ r).getD k 0 = s.getD k 0 := by
  rw [List.getD_eq_getElem?_getD, List.getD_eq_getElem?_getD, List.getElem?_append_left h]
/-- Behind a class's end nothing matters. -/
theorem gCls_app : ∀ (N : Nat) (s : List Nat), s.length ≤ N → ∀ {rs : List (Nat × Nat)} {n : Nat} (r : List Nat), gCls s = some (rs, n) → gCls (s.take (n + 1) ++ r) = some (rs, n)
  | 0, s, hs, rs, n, r, h => by
    obtain rfl : s = [] := List.eq_nil_of_length_eq_zero (by omega)
    rw [gCls_nil] at h
    cases h
  | N + 1, [], hs, rs, n, r, h => by
    rw [gCls_nil] at h
    cases h
  | N + 1, c :: t, hs, rs, n, r, h => by
    by_cases hc : c = 93
    · subst hc
      rw [gCls_end] at h
      simp only [Option.some.injEq, Prod.mk.injEq] at h
      obtain ⟨rfl, rfl⟩ := h
      exact gCls_end _
    · cases hm : gMem (c :: t) with
      | none => rw [gCls_no hc hm] at h; cases h
      | some mk =>
        obtain ⟨m, k⟩ := mk
        rw [gCls_yes hc hm] at h
        have hk := gMem_size hm
        cases hr : gCls ((c :: t).drop k) with
        | none => rw [hr] at h; cases h
        | some x =>
          rw [hr] at h
          simp only [Option.map_some, Option.some.injEq, Prod.mk.injEq] at h
          obtain ⟨rfl, rfl⟩ := h
          have hsz := gCls_size _ _ (Nat.le_refl _) (rs := x.1) (n := x.2) hr
          have ih := gCls_app N ((c :: t).drop k) (by rw [List.length_drop]; simp only [List.length_cons] at hs ⊢; omega) (rs := x.1) (n := x.2) r hr
          rw [List.length_drop] at hsz
          have h93 : ((c :: t).drop k).getD x.2 0 = 93 ∨ True := Or.inr trivial
          have e1 : (c :: t).take (k + x.2 + 1) ++ r = c :: (t.take (k + x.2) ++ r) := rfl
          have e2 : ((c :: t).take (k + x.2 + 1) ++ r).drop k = ((c :: t).drop k).take (x.2 + 1) ++ r := by
            rw [List.drop_append_of_le_length (by rw [List.length_take]; omega), List.drop_take, show k + x.2 + 1 - k = x.2 + 1 by omega]
          have hm2 : gMem ((c :: t).take (k + x.2 + 1) ++ r) = some (m, k) := by
            have hl : ((c :: t).take (k + x.2 + 1)).length = k + x.2 + 1 := by rw [List.length_take]; omega
            have hg : ∀ j, j < k + x.2 + 1 → ((c :: t).take (k + x.2 + 1) ++ r).getD j 0 = (c :: t).getD j 0 := fun j hj => by
              rw [getD_app (by omega), List.getD_eq_getElem?_getD, List.getD_eq_getElem?_getD, List.getElem?_take, if_pos hj]
            by_cases h3 : 3 ≤ k + x.2 + 1
            · unfold gMem at hm ⊢
              rw [hg 0 (by omega), hg 1 (by omega), hg 2 (by omega)]
              have i1 : (3 ≤ ((c :: t).take (k + x.2 + 1) ++ r).length) := by rw [List.length_append]; omega
              have i2 : 3 ≤ (c :: t).length := by omega
              simp only [i1, i2, true_and] at hm ⊢
              exact hm
            · have hk1 : k = 1 := by omega
              have hx : x.2 = 0 := by omega
              have h93 : (c :: t).getD 1 0 = 93 := by
                subst hk1
                cases t with
                | nil => rw [show (c :: []).drop 1 = ([] : List Nat) from rfl, gCls_nil] at hr; cases hr
                | cons d t =>
                  by_cases hd : d = 93
                  · subst hd; rfl
                  · exfalso
                    rw [show (c :: d :: t).drop 1 = d :: t from rfl] at hr
                    cases hm3 : gMem (d :: t) with
                    | none => rw [gCls_no hd hm3] at hr; cases hr
                    | some mk =>
                      obtain ⟨m3, k3⟩ := mk
                      rw [gCls_yes hd hm3] at hr
                      have := gMem_size hm3
                      cases hr3 : gCls ((d :: t).drop k3) with
                      | none => rw [hr3] at hr; cases hr
                      | some y =>
                        rw [hr3] at hr
                        simp only [Option.map_some, Option.some.injEq] at hr
                        rw [← hr] at hx
                        simp only at hx
                        omega
              have hB : isB ((c :: t).getD 0 0) = true := by
                unfold gMem at hm
                split at hm
                · assumption
                · cases hm
              have hmv : m = ((c :: t).getD 0 0, (c :: t).getD 0 0) := by
                unfold gMem at hm
                rw [if_pos hB, if_neg (by rw [h93]; omega)] at hm
                simp only [Option.some.injEq, Prod.mk.injEq] at hm
                exact hm.1.symm
              unfold gMem
              rw [hg 0 (by omega), hg 1 (by omega), if_pos hB, if_neg (by rw [h93]; omega), hmv, hk1]
          rw [e1]
          rw [e1] at hm2
          rw [gCls_yes hc hm2, ← e1, e2, ih]
          rfl
/-- A piece without braces that a text begins with, and how many bytes it has. -/
def gAt (s : List Nat) : Option (GA × Nat) :=
  match s with
  | [] => none
  | c :: t =>
    if c = 91 then
      match gCls t with
      | none => none
      | some (rs, n) => if rs.isEmpty = true then none else some (.cls ((c :: t).take (n + 2)) rs, n + 2)
    else if c = 63 then some (.each, 1)
    else if c = 42 then some (.star, 1)
    else if isB c = true then some (.one c, 1)
    else none
/-- How pieces (false), or alternatives up to their } (true), are read, and what stands behind them. -/
def gPr (b : Bool) (s : List Nat) : Option (Tr × List Nat) :=
  match b with
  | false =>
    match s with
    | [] => some (.nil, [])
    | c :: t =>
      if c = 44 ∨ c = 125 then some (.nil, c :: t) else
      if c = 123 then
        match gPr true t with
        | none => none
        | some (ws, r) =>
          if h : r.length ≤ t.length then
            match gPr false r with
            | none => none
            | some (l, r') => some (.br ws l, r')
          else none
      else
        match gAt (c :: t) with
        | none => none
        | some (a, k) =>
          match gPr false (t.drop (k - 1)) with
          | none => none
          | some (l, r') => some (.atom a l, r')
  | true =>
    match gPr false s with
    | none => none
    | some (p, r) =>
      match r with
      | [] => none
      | c :: t =>
        if c = 125 then some (.way p .none, t) else
        if h : t.length < s.length then
          match gPr true t with
          | none => none
          | some (ws, r') => some (.way p ws, r')
        else none
termination_by (s.length, if b then 1 else 0)
decreasing_by
  all_goals first
    | (apply Prod.Lex.left; simp; done)
    | (apply Prod.Lex.left; simp; omega)
    | (apply Prod.Lex.left; omega)
    | (apply Prod.Lex.right; decide)
    | (apply Prod.Lex.right; simp)
end Go.Proofs.YtbfbjalnahngjaaGreatDoor
namespace Go.Proofs.YtbfbjalnahngjaaGreatDoor
/-- Pieces, alternatives as text. -/
def gStr : Tr → List Nat
  | .nil => []
  | .atom a r => a.txt ++ gStr r
  | .br ws r => 123 :: (gStr ws ++ gStr r)
  | .none => []
  | .way p .none => gStr p ++ [125]
  | .way p (.way q ws) => gStr p ++ 44 :: gStr (.way q ws)
  | .way p .nil => gStr p ++ [125]
  | .way p (.atom _ _) => gStr p ++ [125]
  | .way p (.br _ _) => gStr p ++ [125]
def GA.Good : GA → Prop
  | .one c => isB c = true
  | .each => True
  | .star => True
  | .cls t rs => ∃ u, t = 91 :: u ∧ (∀ r, gCls (u ++ r) = some (rs, u.length - 1)) ∧ rs ≠ [] ∧ u ≠ []
def Good : Bool → Tr → Prop
  | false, .nil => True
  | false, .atom a r => a.Good ∧ Good false r
  | false, .br ws r => Good true ws ∧ ws ≠ .none ∧ Good false r
  | true, .none => True
  | true, .way p ws => Good false p ∧ Good true ws
  | _, _ => False
/-- Where pieces end. -/
def Stop (r : List Nat) : Prop := r = [] ∨ ∃ c t, r = c :: t ∧ (c = 44 ∨ c = 125)
theorem gAt_good {s : List Nat} {a : GA} {k : Nat} (h : gAt s = some (a, k)) : a.Good ∧ a.txt = s.take k ∧ 1 ≤ k ∧ k ≤ s.length := by
  unfold gAt at h
  split at h
  · cases h
  · rename_i c t
    split at h
    · rename_i hc
      subst hc
      split at h
      · cases h
      · rename_i rs n hcl
        split at h
        · cases h
        · rename_i he
          simp only [Option.some.injEq, Prod.mk.injEq] at h
          obtain ⟨rfl, rfl⟩ := h
          have hsz := gCls_size _ _ (Nat.le_refl _) hcl
          refine ⟨⟨t.take (n + 1), rfl, fun r => ?_, fun e => he (by rw [e]; rfl), fun e => ?_⟩, rfl, by omega, by simp only [List.length_cons]; omega⟩
          · rw [gCls_app _ _ (Nat.le_refl _) r hcl, List.length_take, show min (n + 1) t.length - 1 = n by omega]
          · have := congrArg List.length e
            rw [List.length_take] at this
            simp only [List.length_nil] at this
            omega
    · split at h
      · rename_i hc
        simp only [Option.some.injEq, Prod.mk.injEq] at h
        obtain ⟨rfl, rfl⟩ := h
        subst hc
        exact ⟨trivial, rfl, Nat.le_refl _, by simp⟩
      · split at h
        · rename_i hc
          simp only [Option.some.injEq, Prod.mk.injEq] at h
          obtain ⟨rfl, rfl⟩ := h
          subst hc
          exact ⟨trivial, rfl, Nat.le_refl _, by simp⟩
        · split at h
          · rename_i hc
            simp only [Option.some.injEq, Prod.mk.injEq] at h
            obtain ⟨rfl, rfl⟩ := h
            exact ⟨hc, rfl, Nat.le_refl _, by simp⟩
          · cases h
theorem good_txt {a : GA} (h : a.Good) : ∃ c u, a.txt = c :: u ∧ c ≠ 44 ∧ c ≠ 125 ∧ c ≠ 123 := by
  cases a with
  | one c => exact ⟨c, [], rfl, isB_ne h (by decide), isB_ne h (by decide), isB_ne h (by decide)⟩
  | each => exact ⟨63, [], rfl, by decide, by decide, by decide⟩
  | star => exact ⟨42, [], rfl, by decide, by decide, by decide⟩
  | cls t rs =>
    obtain ⟨u, rfl, _, _, _⟩ := h
    exact ⟨91, u, rfl, by decide, by decide, by decide⟩
theorem gAt_txt {a : GA} (h : a.Good) (r : List Nat) : gAt (a.txt ++ r) = some (a, a.txt.length) := by
  cases a with
  | one c =>
    show gAt (c :: r) = _
    have h' : isB c = true := h
    unfold gAt
    simp only
    rw [if_neg (isB_ne h' (by decide)), if_neg (isB_ne h' (by decide)), if_neg (isB_ne h' (by decide)), if_pos h']
    rfl
  | each => rfl
  | star => rfl
  | cls t rs =>
    obtain ⟨u, rfl, hu, hrs, hun⟩ := h
    show gAt (91 :: (u ++ r)) = _
    unfold gAt
    simp only
    rw [if_pos trivial, hu r]
    have hul : u.length ≠ 0 := fun e => hun (List.eq_nil_of_length_eq_zero e)
    have e2 : u.length - 1 + 2 = (91 :: u).length := by simp only [List.length_cons]; omega
    show (if rs.isEmpty = true then none else some (GA.cls ((91 :: (u ++ r)).take (u.length - 1 + 2)) rs, u.length - 1 + 2)) = _
    rw [if_neg (by cases rs with | nil => exact absurd rfl hrs | cons => exact fun h => by cases h), e2, show 91 :: (u ++ r) = (91 :: u) ++ r from rfl, List.take_left']
    rfl
    rfl
theorem gPr_nil : gPr false [] = some (.nil, []) := by rw [gPr]
theorem gPr_stop {c : Nat} (t : List Nat) (h : c = 44 ∨ c = 125) : gPr false (c :: t) = some (.nil, c :: t) := by rw [gPr, if_pos h]
theorem gPr_atom {c : Nat} {t : List Nat} {a : GA} {k : Nat} (h1 : ¬ (c = 44 ∨ c = 125)) (h2 : c ≠ 123) (h : gAt (c :: t) = some (a, k)) :
    gPr false (c :: t) = (gPr false ((c :: t).drop k)).map fun x => (.atom a x.1, x.2) := by
  have hk := (gAt_good h).2.2.1
  have e : (c :: t).drop k = t.drop (k - 1) := by
    obtain ⟨j, rfl⟩ : ∃ j, k = j + 1 := ⟨k - 1, by omega⟩
    rfl
  rw [gPr, if_neg h1, if_neg h2, h, e]
  show (match gPr false (t.drop (k - 1)) with
    | none => none
    | some (l, r') => some (Tr.atom a l, r')) = _
  cases gPr false (t.drop (k - 1)) with
  | none => rfl
  | some x => rfl
theorem gPr_atomNo {c : Nat} {t : List Nat} (h1 : ¬ (c = 44 ∨ c = 125)) (h2 : c ≠ 123) (h : gAt (c :: t) = none) : gPr false (c :: t) = none := by
  rw [gPr, if_neg h1, if_neg h2, h]
theorem gPr_brNo {t : List Nat} (h : gPr true t = none) : gPr false (123 :: t) = none := by
  rw [gPr, if_neg (by decide), if_pos rfl, h]
theorem gPr_br' {t r : List Nat} {ws : Tr} (h : gPr true t = some (ws, r)) (hr : r.length ≤ t.length) : gPr false (123 :: t) = (gPr false r).map fun x => (.br ws x.1, x.2) := by
  rw [gPr, if_neg (by decide), if_pos rfl, h]
  show (if h : r.length ≤ t.length then
            match gPr false r with
            | none => none
            | some (l, r') => some (Tr.br ws l, r')
          else none) = _
  rw [dif_pos hr]
  cases gPr false r with
  | none => rfl
  | some x => rfl
theorem gPr_brLong {t r : List Nat} {ws : Tr} (h : gPr true t = some (ws, r)) (hr : ¬ r.length ≤ t.length) : gPr false (123 :: t) = none := by
  rw [gPr, if_neg (by decide), if_pos rfl, h]
  exact dif_neg hr
theorem gPr_wayNo {s : List Nat} (h : gPr false s = none) : gPr true s = none := by rw [gPr, h]
theorem gPr_wayOpen {s : List Nat} {p : Tr} (h : gPr false s = some (p, [])) : gPr true s = none := by rw [gPr, h]
theorem gPr_wayEnd {s t : List Nat} {p : Tr} (h : gPr false s = some (p, 125 :: t)) : gPr true s = some (.way p .none, t) := by
  rw [gPr, h]
  rfl
theorem gPr_wayMore' {s t : List Nat} {p : Tr} {c : Nat} (h : gPr false s = some (p, c :: t)) (hc : c ≠ 125) (hl : t.length < s.length) : gPr true s = (gPr true t).map fun x => (.way p x.1, x.2) := by
  rw [gPr, h]
  show (if c = 125 then some (Tr.way p .none, t) else
        if h : t.length < s.length then
          match gPr true t with
          | none => none
          | some (ws, r') => some (Tr.way p ws, r')
        else none) = _
  rw [if_neg hc, dif_pos hl]
  cases gPr true t with
  | none => rfl
  | some x => rfl
theorem gPr_wayLong {s t : List Nat} {p : Tr} {c : Nat} (h : gPr false s = some (p, c :: t)) (hc : c ≠ 125) (hl : ¬ t.length < s.length) : gPr true s = none := by
  rw [gPr, h]
  show (if c = 125 then some (Tr.way p .none, t) else
        if h : t.length < s.length then
          match gPr true t with
          | none => none
          | some (ws, r') => some (Tr.way p ws, r')
        else none) = _
  rw [if_neg hc, dif_neg hl]
theorem gStr_more {p ws : Tr} (hw : ws ≠ .none) (hg : Good true ws) : gStr (.way p ws) = gStr p ++ 44 :: gStr ws := by
  cases ws with
  | none => exact absurd rfl hw
  | way q ws => rw [gStr]
  | nil => exact hg.elim
  | atom => exact hg.elim
  | br => exact hg.elim
/-- What is read: it is right, and stood there. -/
def PF (s : List Nat) : Prop := ∀ (l : Tr) (r : List Nat), gPr false s = some (l, r) → Good false l ∧ s = gStr l ++ r ∧ Stop r
def PT (s : List Nat) : Prop := ∀ (l : Tr) (r : List Nat), gPr true s = some (l, r) → Good true l ∧ l ≠ .none ∧ s = gStr l ++ r ∧ r.length < s.length
theorem sound_f : ∀ (s : List Nat), (∀ s', s'.length < s.length → PF s' ∧ PT s') → PF s
  | [], _, l, r, h => by
    rw [gPr_nil] at h
    simp only [Option.some.injEq, Prod.mk.injEq] at h
    obtain ⟨rfl, rfl⟩ := h
    exact ⟨trivial, rfl, .inl rfl⟩
  | c :: t, H, l, r, h => by
    by_cases h1 : c = 44 ∨ c = 125
    · rw [gPr_stop t h1] at h
      simp only [Option.some.injEq, Prod.mk.injEq] at h
      obtain ⟨rfl, rfl⟩ := h
      exact ⟨trivial, rfl, .inr ⟨c, t, rfl, h1⟩⟩
    · by_cases h2 : c = 123
      · subst h2
        cases hw : gPr true t with
        | none => rw [gPr_brNo hw] at h; cases h
        | some x =>
          obtain ⟨ws, r1⟩ := x
          by_cases hr : r1.length ≤ t.length
          · rw [gPr_br' hw hr] at h
            cases hp : gPr false r1 with
            | none => rw [hp] at h; cases h
            | some y =>
              rw [hp] at h
              simp only [Option.map_some, Option.some.injEq, Prod.mk.injEq] at h
              obtain ⟨rfl, rfl⟩ := h
              have hs := (H t (by simp)).2 _ _ hw
              have hl := (H r1 (by simp; omega)).1 _ _ hp
              refine ⟨⟨hs.1, hs.2.1, hl.1⟩, ?_, hl.2.2⟩
              show 123 :: t = (123 :: (gStr ws ++ gStr y.1)) ++ y.2
              rw [hs.2.2.1]
              conv => lhs; rw [hl.2.1]
              simp
          · rw [gPr_brLong hw hr] at h; cases h
      · cases ha : gAt (c :: t) with
        | none => rw [gPr_atomNo h1 h2 ha] at h; cases h
        | some x =>
          obtain ⟨a, k⟩ := x
          rw [gPr_atom h1 h2 ha] at h
          have hg := gAt_good ha
          cases hp : gPr false ((c :: t).drop k) with
          | none => rw [hp] at h; cases h
          | some y =>
            rw [hp] at h
            simp only [Option.map_some, Option.some.injEq, Prod.mk.injEq] at h
            obtain ⟨rfl, rfl⟩ := h
            have hl := (H ((c :: t).drop k) (by rw [List.length_drop]; have := hg.2.2; simp only [List.length_cons] at this ⊢; omega)).1 _ _ hp
            refine ⟨⟨hg.1, hl.1⟩, ?_, hl.2.2⟩
            show c :: t = (a.txt ++ gStr y.1) ++ y.2
            rw [List.append_assoc, ← hl.2.1, hg.2.1, List.take_append_drop]
theorem sound_t (s : List Nat) (hF : PF s) (H : ∀ s', s'.length < s.length → PF s' ∧ PT s') : PT s := fun l r h => by
  cases hp : gPr false s with
  | none => rw [gPr_wayNo hp] at h; cases h
  | some x =>
    obtain ⟨p, r1⟩ := x
    have hs := hF _ _ hp
    cases r1 with
    | nil => rw [gPr_wayOpen hp] at h; cases h
    | cons c t =>
      have hst : c = 44 ∨ c = 125 := by
        rcases hs.2.2 with e | ⟨c', t', e, hc⟩
        · cases e
        · injection e with e1 e2
          subst e1
          exact hc
      by_cases hc : c = 125
      · subst hc
        rw [gPr_wayEnd hp] at h
        simp only [Option.some.injEq, Prod.mk.injEq] at h
        obtain ⟨rfl, rfl⟩ := h
        refine ⟨⟨hs.1, trivial⟩, (fun e => by cases e), ?_, ?_⟩
        · show s = (gStr p ++ [125]) ++ t
          conv => lhs; rw [hs.2.1]
          simp
        · rw [hs.2.1]
          simp
          omega
      · by_cases hl : t.length < s.length
        · rw [gPr_wayMore' hp hc hl] at h
          cases hw : gPr true t with
          | none => rw [hw] at h; cases h
          | some y =>
            rw [hw] at h
            simp only [Option.map_some, Option.some.injEq, Prod.mk.injEq] at h
            obtain ⟨rfl, rfl⟩ := h
            have ht := (H t hl).2 _ _ hw
            refine ⟨⟨hs.1, ht.1⟩, (fun e => by cases e), ?_, Nat.lt_trans ht.2.2.2 hl⟩
            rw [gStr_more ht.2.1 ht.1]
            obtain rfl : c = 44 := by omega
            conv => lhs; rw [hs.2.1, ht.2.2.1]
            simp
        · rw [gPr_wayLong hp hc hl] at h; cases h
theorem sound_all : ∀ (N : Nat) (s : List Nat), s.length ≤ N → PF s ∧ PT s
  | 0, s, hs => by
    have hF := sound_f s (fun s' h => by omega)
    exact ⟨hF, sound_t s hF (fun s' h => by omega)⟩
  | N + 1, s, hs => by
    have H : ∀ s', s'.length < s.length → PF s' ∧ PT s' := fun s' h => sound_all N s' (by omega)
    have hF := sound_f s H
    exact ⟨hF, sound_t s hF H⟩
theorem gPr_pf {s : List Nat} {l : Tr} {r : List Nat} (h : gPr false s = some (l, r)) : Good false l ∧ s = gStr l ++ r ∧ Stop r := (sound_all _ s (Nat.le_refl _)).1 l r h
theorem gPr_pt {s : List Nat} {l : Tr} {r : List Nat} (h : gPr true s = some (l, r)) : Good true l ∧ l ≠ .none ∧ s = gStr l ++ r ∧ r.length < s.length := (sound_all _ s (Nat.le_refl _)).2 l r h
theorem gPr_le {s : List Nat} {l : Tr} {r : List Nat} (h : gPr false s = some (l, r)) : r.length ≤ s.length := by
  have := congrArg List.length (gPr_pf h).2.1
  rw [List.length_append] at this
  omega
theorem gPr_br {t r : List Nat} {ws : Tr} (h : gPr true t = some (ws, r)) : gPr false (123 :: t) = (gPr false r).map fun x => (.br ws x.1, x.2) := gPr_br' h (Nat.le_of_lt (gPr_pt h).2.2.2)
theorem gPr_wayMore {s t : List Nat} {p : Tr} (h : gPr false s = some (p, 44 :: t)) : gPr true s = (gPr true t).map fun x => (.way p x.1, x.2) :=
  gPr_wayMore' h (by decide) (by have := gPr_le h; simp only [List.length_cons] at this; omega)
theorem gPr_stopAt {s r : List Nat} {p : Tr} {c : Nat} {t : List Nat} (h : gPr false s = some (p, c :: t)) : c = 44 ∨ c = 125 := by
  rcases (gPr_pf h).2.2 with e | ⟨c', t', e, hc⟩
  · cases e
  · injection e with e1 e2
    subst e1
    exact hc
/-- What is written is read. -/
theorem gPr_str : ∀ (l : Tr), (Good false l → ∀ r, Stop r → gPr false (gStr l ++ r) = some (l, r)) ∧ (Good true l → l ≠ .none → ∀ r, gPr true (gStr l ++ r) = some (l, r))
  | .nil => ⟨fun _ r hr => by
      rcases hr with rfl | ⟨c, t, rfl, hc⟩
      · exact gPr_nil
      · exact gPr_stop t hc, fun h => h.elim⟩
  | .none => ⟨fun h => h.elim, fun _ h => absurd rfl h⟩
  | .atom a l => ⟨fun h r hr => by
      obtain ⟨ha, hl⟩ := h
      obtain ⟨c, u, he, h1, h2, h3⟩ := good_txt ha
      have hA := gAt_txt ha (gStr l ++ r)
      show gPr false ((a.txt ++ gStr l) ++ r) = _
      rw [List.append_assoc]
      have hd : (a.txt ++ (gStr l ++ r)).drop a.txt.length = gStr l ++ r := by rw [List.drop_append_of_le_length (Nat.le_refl _), List.drop_length, List.nil_append]
      rw [he] at hA hd ⊢
      rw [show (c :: u) ++ (gStr l ++ r) = c :: (u ++ (gStr l ++ r)) from rfl] at hA hd ⊢
      rw [gPr_atom (by omega) h3 hA, hd, (gPr_str l).1 hl r hr]
      rfl, fun h => h.elim⟩
  | .br ws l => ⟨fun h r hr => by
      obtain ⟨hw, hn, hl⟩ := h
      show gPr false (123 :: (gStr ws ++ gStr l) ++ r) = _
      rw [show 123 :: (gStr ws ++ gStr l) ++ r = 123 :: (gStr ws ++ (gStr l ++ r)) by simp, gPr_br ((gPr_str ws).2 hw hn (gStr l ++ r)), (gPr_str l).1 hl r hr]
      rfl, fun h => h.elim⟩
  | .way p ws => ⟨fun h => h.elim, fun h _ r => by
      obtain ⟨hp, hw⟩ := h
      by_cases hn : ws = .none
      · subst hn
        show gPr true (gStr p ++ [125] ++ r) = _
        rw [List.append_assoc]
        exact gPr_wayEnd ((gPr_str p).1 hp (125 :: r) (.inr ⟨125, r, rfl, .inr rfl⟩))
      · rw [gStr_more hn hw, show gStr p ++ 44 :: gStr ws ++ r = gStr p ++ 44 :: (gStr ws ++ r) by simp]
        rw [gPr_wayMore ((gPr_str p).1 hp (44 :: (gStr ws ++ r)) (.inr ⟨44, _, rfl, .inl rfl⟩)), (gPr_str ws).2 hw hn r]
        rfl⟩
end Go.Proofs.YtbfbjalnahngjaaGreatDoor
namespace Go.Proofs.YtbfbjalnahngjaaGreatDoor
/-- The bytes of a string. -/
def bs (s : ByteArray) : List Nat := s.data.toList.map (·.toNat)
/-- A string of bytes. -/
def str (l : List Nat) : ByteArray := ⟨(l.map UInt8.ofNat).toArray⟩
theorem bs_length (s : ByteArray) : (bs s).length = s.size := by simp [bs]
theorem str_size (l : List Nat) : (str l).size = l.length := by simp [str, ByteArray.size]
theorem str_bs (s : ByteArray) : str (bs s) = s := by
  obtain ⟨⟨l⟩⟩ := s
  simp [str, bs, Function.comp_def]
theorem bs_str {l : List Nat} (h : ∀ c ∈ l, c < 256) : bs (str l) = l := by
  unfold bs str
  simp only [List.map_map]
  conv => rhs; rw [← List.map_id l]
  apply List.map_congr_left
  intro c hc
  have := h c hc
  simp [Nat.mod_eq_of_lt this]
theorem str_append (l m : List Nat) : str l ++ str m = str (l ++ m) := by
  unfold str
  rw [ByteArray.mk_append_mk]
  simp
theorem bs_append (s t : ByteArray) : bs (s ++ t) = bs s ++ bs t := by simp [bs]
theorem bs_mem (s : ByteArray) : ∀ c ∈ bs s, c < 256 := by
  intro c hc
  simp only [bs, List.mem_map] at hc
  obtain ⟨x, _, rfl⟩ := hc
  exact x.toNat_lt
theorem at_byte {s : ByteArray} {k : Nat} (h : k < s.size) : (s[k]'h).toNat = (bs s).getD k 0 := by
  obtain ⟨⟨l⟩⟩ := s
  have hl : k < l.length := h
  show (l[k]'hl).toNat = _
  unfold bs
  rw [List.getD_eq_getElem?_getD]
  simp [hl]
theorem bs_get {s : ByteArray} {k : Nat} (h : k < s.size) : ∃ c, (bs s).getD k 0 = c ∧ (s[k]'h).toNat = c ∧ c < 256 := by
  refine ⟨_, rfl, at_byte h, ?_⟩
  rw [← at_byte h]
  exact UInt8.toNat_lt _
theorem bs_from (s : ByteArray) (k : Nat) : bs (s.extract k s.size) = (bs s).drop k := by
  obtain ⟨⟨l⟩⟩ := s
  simp [bs, ByteArray.extract_mk]
  exact List.take_of_length_le (by rw [List.length_drop, List.length_map]; exact Nat.le_refl _)
theorem bs_upto (s : ByteArray) (k : Nat) : bs (s.extract 0 k) = (bs s).take k := by
  obtain ⟨⟨l⟩⟩ := s
  simp [bs, ByteArray.extract_mk]
theorem bs_cons {s : ByteArray} (h : 0 < s.size) : ∃ a m, bs s = a :: m ∧ (s[0]'h).toNat = a ∧ m.length + 1 = s.size ∧ a < 256 := by
  have hl := bs_length s
  have h0 := at_byte h
  obtain ⟨c, h1, h2, h3⟩ := bs_get h
  cases hb : bs s with
  | nil => rw [hb] at hl; simp at hl; omega
  | cons a m =>
    rw [hb] at hl h0 h1
    exact ⟨a, m, rfl, h0, hl, by simp at h1; omega⟩
theorem is_empty {R : ByteArray} (h : R.size = 0) : R = ⟨#[]⟩ := by
  obtain ⟨⟨l⟩⟩ := R
  have : l.length = 0 := h
  rw [List.eq_nil_of_length_eq_zero this]
theorem ne_empty {R : ByteArray} (h : 0 < R.size) : R ≠ ⟨#[]⟩ := fun e => by
  rw [e] at h
  exact absurd h (by decide)
theorem bs_nil {s : ByteArray} : bs s = [] ↔ s = ⟨#[]⟩ := by
  constructor
  · intro h
    have := str_bs s
    rw [h] at this
    exact this.symm
  · rintro rfl; rfl
end Go.Proofs.YtbfbjalnahngjaaGreatDoor
namespace Go.Proofs.YtbfbjalnahngjaaGreatDoor
open Go.RowKit
theorem cellb {w w' : World} (hb : Below w.heap.size w w') {b o : Nat} {u : Value} (h : w.cell? ⟨b, o, none⟩ = some u) : w'.cell? ⟨b, o, none⟩ = some u := (hb.cell (World.block_lt_of_cell? w _ h)).trans h
theorem bnext {a b c : World} (h : Below a.heap.size a b) (k : Below b.heap.size b c) : Below a.heap.size a c := h.trans (k.mono h.size)
theorem alloc_below (w : World) (o : Obj) : Below w.heap.size w (w.alloc o) := (Below.refl _ _).alloc (Nat.le_refl _) o
theorem own_form {B n : Nat} {e : TypeId} {size : Nat} {w : World} {v : Value} {xs : List Value} (h : w.ownsRow B e size v n xs) : ∃ A c, v = .slice A n c ∧ n ≤ c ∧ (0 < n → ∃ g, A = some ⟨g, 0, none⟩ ∧ B ≤ g ∧ g < w.heap.size) := by
  rcases h.2 with ⟨rfl, h0⟩ | ⟨g, cap, cur, rfl, hg, hh, hc, _⟩
  · exact ⟨none, 0, by rw [h0], by omega, fun h => by omega⟩
  · exact ⟨_, cap, rfl, hc, fun _ => ⟨g, rfl, hg, (Array.getElem?_eq_some_iff.1 hh).1⟩⟩
theorem own_keep {B n : Nat} {e : TypeId} {size : Nat} {w w' : World} {v : Value} {xs : List Value} (h : w.ownsRow B e size v n xs) (hk : ∀ g, B ≤ g → g < w.heap.size → w'.heap[g]? = w.heap[g]?) : w'.ownsRow B e size v n xs := by
  refine ⟨h.1, ?_⟩
  rcases h.2 with ⟨rfl, h0⟩ | ⟨g, cap, cur, rfl, hg, hh, hr⟩
  · exact Or.inl ⟨rfl, h0⟩
  · exact Or.inr ⟨g, cap, cur, rfl, hg, (hk g hg (Array.getElem?_eq_some_iff.1 hh).1).trans hh, hr⟩
theorem own_mono {B B' n : Nat} {e : TypeId} {size : Nat} {w : World} {v : Value} {xs : List Value} (h : w.ownsRow B' e size v n xs) (hB : B ≤ B') : w.ownsRow B e size v n xs := by
  refine ⟨h.1, ?_⟩
  rcases h.2 with ⟨rfl, h0⟩ | ⟨g, cap, cur, rfl, hg, hr⟩
  · exact Or.inl ⟨rfl, h0⟩
  · exact Or.inr ⟨g, cap, cur, rfl, Nat.le_trans hB hg, hr⟩
/-- A row's cells. -/
theorem own_at {B n : Nat} {e : TypeId} {size : Nat} {w : World} {v : Value} {xs : List Value} (h : w.ownsRow B e size v n xs) (hn : 0 < n) : ∃ g c, v = .slice (some ⟨g, 0, none⟩) n c ∧ n ≤ c ∧ B ≤ g ∧ g < w.heap.size ∧ (∀ j u, xs[j]? = some u → w.cell? ⟨g, j, none⟩ = some u) ∧ ∀ j, w.frozen? ⟨g, j, none⟩ = false := by
  rcases h.2 with ⟨rfl, h0⟩ | ⟨g, cap, cur, rfl, hg, hh, hc, hm, hs, ht⟩
  · omega
  · refine ⟨g, cap, rfl, hc, hg, (Array.getElem?_eq_some_iff.1 hh).1, fun j u hj => ?_, fun j => frozen_of_row w g j cur _ hh⟩
    have hlt := (List.getElem?_eq_some_iff.1 hj).1
    refine (cell_of_row w g j cur _ (0, 0) hh).trans ?_
    rw [← ht, List.getElem?_take] at hj
    split at hj
    · simpa using hj
    · cases hj
/-! ### Ranges -/
theorem rng_info : (Tryz.prog.info? 147).map (fun i => (i.zero, i.size, i.bytes)) = some (some (.agg #[.int .u8 0, .int .u8 0]), 2, 2) := by kernel_rfl
theorem pc_info : (Tryz.prog.info? 129).map (fun i => (i.zero, i.size, i.bytes)) = some (some (.agg #[.int .i64 0, .string ⟨#[]⟩, .slice none 0 0, .slice none 0 0]), 4, 72) := by kernel_rfl
theorem ps_info : (Tryz.prog.info? 102).map (fun i => (i.zero, i.size, i.bytes)) = some (some (.slice none 0 0), 1, 24) := by kernel_rfl
theorem tx_info : (Tryz.prog.info? 9).map (fun i => (i.zero, i.size, i.bytes)) = some (some (.string ⟨#[]⟩), 1, 16) := by kernel_rfl
def rnC (rs : List (Nat × Nat)) : List Value := rs.flatMap fun r => [.int .u8 (r.1 : Nat), .int .u8 (r.2 : Nat)]
theorem rnC_len (rs : List (Nat × Nat)) : (rnC rs).length = rs.length * 2 := by
  induction rs with
  | nil => rfl
  | cons r rs ih =>
    unfold rnC at ih ⊢
    rw [List.flatMap_cons, List.length_append, ih]
    simp
    omega
theorem rnC_at : ∀ (rs : List (Nat × Nat)) (k : Nat) (r : Nat × Nat), rs[k]? = some r → (rnC rs)[k * 2]? = some (.int .u8 (r.1 : Nat)) ∧ (rnC rs)[k * 2 + 1]? = some (.int .u8 (r.2 : Nat))
  | [], k, r, h => by simp at h
  | a :: rs, 0, r, h => by
    obtain rfl : a = r := by simpa using h
    exact ⟨rfl, rfl⟩
  | a :: rs, k + 1, r, h => by
    have ih := rnC_at rs k r (by simpa using h)
    unfold rnC at ih ⊢
    rw [List.flatMap_cons, List.getElem?_append_right (by simp; omega), List.getElem?_append_right (by simp; omega)]
    rw [show (k + 1) * 2 - [Value.int .u8 (a.1 : Nat), Value.int .u8 (a.2 : Nat)].length = k * 2 by simp; omega, show (k + 1) * 2 + 1 - [Value.int .u8 (a.1 : Nat), Value.int .u8 (a.2 : Nat)].length = k * 2 + 1 by simp; omega]
    exact ih
def RnNew (B : Nat) (w : World) (v : Value) (rs : List (Nat × Nat)) : Prop := w.ownsRow B 147 2 v rs.length (rnC rs)
theorem RnNew.nil (B : Nat) (w : World) : RnNew B w (.slice none 0 0) [] := ⟨rfl, .inl ⟨rfl, rfl⟩⟩
theorem RnNew.push {B : Nat} {w : World} {v : Value} {rs : List (Nat × Nat)} {r : Nat × Nat} (h : w.ownsRow B 147 2 v (rs.length + 1) (rnC rs ++ [.int .u8 (r.1 : Nat), .int .u8 (r.2 : Nat)])) : RnNew B w v (rs ++ [r]) := by
  unfold RnNew rnC
  rw [List.length_append, List.length_singleton, List.flatMap_append, List.flatMap_cons, List.flatMap_nil, List.append_nil]
  exact h
/-! ### Pieces -/
def GA.kind : GA → Nat
  | .one _ => 0
  | .each => 1
  | .star => 2
  | .cls _ _ => 3
def GA.rows : GA → List (Nat × Nat)
  | .cls _ rs => rs
  | _ => []
def pcC (k : Nat) (t : ByteArray) (rv wv : Value) : List Value := [.int .i64 (k : Nat), .string t, rv, wv]
/-- A row in a block of which P holds. -/
def OwnP (P : Nat → Prop) (w : World) (e : TypeId) (size : Nat) (v : Value) (n : Nat) (xs : List Value) : Prop := w.ownsRow 0 e size v n xs ∧ ∀ g, v.ownBlock = some g → P g
theorem own_lt {B n : Nat} {e : TypeId} {size : Nat} {w : World} {v : Value} {xs : List Value} (h : w.ownsRow B e size v n xs) {g : Nat} (hg : v.ownBlock = some g) : B ≤ g ∧ g < w.heap.size := by
  rcases h.2 with ⟨rfl, h0⟩ | ⟨g', cap, cur, rfl, hB, hh, hr⟩
  · cases hg
  · have e : g' = g := by simpa [Value.ownBlock] using hg
    subst e
    exact ⟨hB, (Array.getElem?_eq_some_iff.1 hh).1⟩
theorem OwnP.of {B n : Nat} {e : TypeId} {size : Nat} {w : World} {v : Value} {xs : List Value} (h : w.ownsRow B e size v n xs) : OwnP (fun x => B ≤ x) w e size v n xs := ⟨own_mono h (Nat.zero_le _), fun g hg => (own_lt h hg).1⟩
theorem OwnP.move {P P' : Nat → Prop} {n : Nat} {e : TypeId} {size : Nat} {w w' : World} {v : Value} {xs : List Value} (h : OwnP P w e size v n xs) (hk : ∀ g, P g → g < w.heap.size → w'.heap[g]? = w.heap[g]? ∧ P' g) : OwnP P' w' e size v n xs := by
  obtain ⟨h1, h2⟩ := h
  refine ⟨⟨h1.1, ?_⟩, fun g hg => (hk g (h2 g hg) (own_lt h1 hg).2).2⟩
  rcases h1.2 with ⟨rfl, h0⟩ | ⟨g, cap, cur, rfl, hg, hh, hr⟩
  · exact Or.inl ⟨rfl, h0⟩
  · exact Or.inr ⟨g, cap, cur, rfl, hg, ((hk g (h2 g rfl) (Array.getElem?_eq_some_iff.1 hh).1).1).trans hh, hr⟩
/-- What lies in a row of pieces, or of alternatives. -/
def TrAt (P : Nat → Prop) (w : World) : Tr → List Value → Prop
  | .nil, cs => cs = []
  | .atom a r, cs => ∃ rv cs', OwnP P w 147 2 rv a.rows.length (rnC a.rows) ∧ cs = pcC a.kind (str a.txt) rv (.slice none 0 0) ++ cs' ∧ TrAt P w r cs'
  | .br ws r, cs => ∃ wv wcs cs', OwnP P w 102 1 wv ws.len wcs ∧ TrAt P w ws wcs ∧ cs = pcC 4 ⟨#[]⟩ (.slice none 0 0) wv ++ cs' ∧ TrAt P w r cs'
  | .none, cs => cs = []
  | .way p ws, cs => ∃ v pcs cs', OwnP P w 129 4 v p.len pcs ∧ TrAt P w p pcs ∧ cs = v :: cs' ∧ TrAt P w ws cs'
theorem TrAt.move {P P' : Nat → Prop} {w w' : World} (hk : ∀ g, P g → g < w.heap.size → w'.heap[g]? = w.heap[g]? ∧ P' g) : ∀ (t : Tr) (cs : List Value), TrAt P w t cs → TrAt P' w' t cs
  | .nil, _, h => h
  | .none, _, h => h
  | .atom a r, cs, h => by
    obtain ⟨rv, cs', h1, h2, h3⟩ := h
    exact ⟨rv, cs', h1.move hk, h2, TrAt.move hk r cs' h3⟩
  | .br ws r, cs, h => by
    obtain ⟨wv, wcs, cs', h1, h2, h3, h4⟩ := h
    exact ⟨wv, wcs, cs', h1.move hk, TrAt.move hk ws wcs h2, h3, TrAt.move hk r cs' h4⟩
  | .way p ws, cs, h => by
    obtain ⟨v, pcs, cs', h1, h2, h3, h4⟩ := h
    exact ⟨v, pcs, cs', h1.move hk, TrAt.move hk p pcs h2, h3, TrAt.move hk ws cs' h4⟩
theorem TrAt.app {P : Nat → Prop} {w : World} {b : Tr} {cb : List Value} (hb : TrAt P w b cb) : ∀ (t : Tr) (cs : List Value), TrAt P w t cs → TrAt P w (t.app b) (cs ++ cb)
  | .nil, cs, h => by
    obtain rfl : cs = [] := h
    exact hb
  | .none, cs, h => by
    obtain rfl : cs = [] := h
    exact hb
  | .atom a r, cs, h => by
    obtain ⟨rv, cs', h1, rfl, h3⟩ := h
    exact ⟨rv, cs' ++ cb, h1, by rw [List.append_assoc], TrAt.app hb r cs' h3⟩
  | .br ws r, cs, h => by
    obtain ⟨wv, wcs, cs', h1, h2, rfl, h4⟩ := h
    exact ⟨wv, wcs, cs' ++ cb, h1, h2, by rw [List.append_assoc], TrAt.app hb r cs' h4⟩
  | .way p ws, cs, h => by
    obtain ⟨v, pcs, cs', h1, h2, rfl, h4⟩ := h
    exact ⟨v, pcs, cs' ++ cb, h1, h2, rfl, TrAt.app hb ws cs' h4⟩
/-- Pieces of a call's own: what they hold lies in other blocks. -/
def TrNew (B : Nat) (w : World) (v : Value) (t : Tr) : Prop := ∃ cs, w.ownsRow B 129 4 v t.len cs ∧ TrAt (fun x => B ≤ x ∧ v.ownBlock ≠ some x) w t cs
/-- Alternatives of a call's own. -/
def WsNew (B : Nat) (w : World) (v : Value) (t : Tr) : Prop := ∃ cs, w.ownsRow B 102 1 v t.len cs ∧ TrAt (fun x => B ≤ x ∧ v.ownBlock ≠ some x) w t cs
theorem TrNew.nil (B : Nat) (w : World) : TrNew B w (.slice none 0 0) .nil := ⟨[], ⟨rfl, .inl ⟨rfl, rfl⟩⟩, rfl⟩
theorem WsNew.none (B : Nat) (w : World) : WsNew B w (.slice none 0 0) .none := ⟨[], ⟨rfl, .inl ⟨rfl, rfl⟩⟩, rfl⟩
theorem TrNew.keep {B : Nat} {w w' : World} {v : Value} {t : Tr} (h : TrNew B w v t) (hk : ∀ g, B ≤ g → g < w.heap.size → w'.heap[g]? = w.heap[g]?) : TrNew B w' v t := by
  obtain ⟨cs, h1, h2⟩ := h
  exact ⟨cs, own_keep h1 hk, TrAt.move (fun g h1 h2 => ⟨hk g h1.1 h2, h1⟩) t cs h2⟩
theorem WsNew.keep {B : Nat} {w w' : World} {v : Value} {t : Tr} (h : WsNew B w v t) (hk : ∀ g, B ≤ g → g < w.heap.size → w'.heap[g]? = w.heap[g]?) : WsNew B w' v t := by
  obtain ⟨cs, h1, h2⟩ := h
  exact ⟨cs, own_keep h1 hk, TrAt.move (fun g h1 h2 => ⟨hk g h1.1 h2, h1⟩) t cs h2⟩
theorem keepB {B : Nat} {w w' : World} (hb : Below w.heap.size w w') : ∀ g, B ≤ g → g < w.heap.size → w'.heap[g]? = w.heap[g]? := fun g _ h => hb.block g h
theorem keepG {B b : Nat} {w w' : World} (hg : w.grownBy w' (some b)) (hb : b < B) : ∀ g, B ≤ g → g < w.heap.size → w'.heap[g]? = w.heap[g]? := fun g h1 h2 => hg.block g h2 (fun e => by injection e with e; omega)
theorem TrNew.below {B : Nat} {w w' : World} {v : Value} {t : Tr} (h : TrNew B w v t) (hb : Below w.heap.size w w') : TrNew B w' v t := h.keep (keepB hb)
theorem TrNew.mono {B B' : Nat} {w : World} {v : Value} {t : Tr} (h : TrNew B' w v t) (hB : B ≤ B') : TrNew B w v t := by
  obtain ⟨cs, h1, h2⟩ := h
  exact ⟨cs, own_mono h1 hB, TrAt.move (fun g h1 _ => ⟨rfl, Nat.le_trans hB h1.1, h1.2⟩) t cs h2⟩
theorem WsNew.mono {B B' : Nat} {w : World} {v : Value} {t : Tr} (h : WsNew B' w v t) (hB : B ≤ B') : WsNew B w v t := by
  obtain ⟨cs, h1, h2⟩ := h
  exact ⟨cs, own_mono h1 hB, TrAt.move (fun g h1 _ => ⟨rfl, Nat.le_trans hB h1.1, h1.2⟩) t cs h2⟩
/-- One piece as a value: what it is. -/
inductive Un (B : Nat) (w : World) : Value → Tr → Prop where
  | atom (a : GA) (rv : Value) (h : RnNew B w rv a.rows) : Un B w (.agg (pcC a.kind (str a.txt) rv (.slice none 0 0)).toArray) (.atom a .nil)
  | br (ws : Tr) (wv : Value) (h : WsNew B w wv ws) : Un B w (.agg (pcC 4 ⟨#[]⟩ (.slice none 0 0) wv).toArray) (.br ws .nil)
theorem Un.keep {B : Nat} {w w' : World} {v : Value} {t : Tr} (h : Un B w v t) (hk : ∀ g, B ≤ g → g < w.heap.size → w'.heap[g]? = w.heap[g]?) : Un B w' v t := by
  cases h with
  | atom a rv h => exact .atom a rv (own_keep h hk)
  | br ws wv h => exact .br ws wv (h.keep hk)
theorem Un.cells {B : Nat} {w : World} {v : Value} {t : Tr} (h : Un B w v t) : ∃ (k : Nat) (s : ByteArray) (A1 A2 : Option Addr) (n1 c1 n2 c2 : Nat), v = .agg (pcC k s (.slice A1 n1 c1) (.slice A2 n2 c2)).toArray ∧ TrAt (fun x => B ≤ x) w t (pcC k s (.slice A1 n1 c1) (.slice A2 n2 c2)) ∧ t.len = 1 ∧ k ≤ 4 := by
  cases h with
  | atom a rv h =>
    obtain ⟨A, c, rfl, _⟩ := own_form h
    exact ⟨_, _, _, _, _, _, _, _, rfl, ⟨_, [], OwnP.of h, by simp, rfl⟩, rfl, by cases a <;> simp [GA.kind]⟩
  | br ws wv h =>
    obtain ⟨cs, h1, h2⟩ := h
    obtain ⟨A, c, rfl, _⟩ := own_form h1
    exact ⟨_, _, _, _, _, _, _, _, rfl, ⟨_, cs, [], OwnP.of h1, TrAt.move (fun g h _ => ⟨rfl, h.1⟩) ws cs h2, by simp, rfl⟩, rfl, Nat.le_refl _⟩
/-- Behind an append onto a row: what its elements hold. -/
theorem TrAt.step {B : Nat} {w w' : World} {v v' : Value} {t : Tr} {cs : List Value} (h : TrAt (fun x => B ≤ x ∧ v.ownBlock ≠ some x) w t cs) (hg : w.grownBy w' v.ownBlock) (hat : v'.ownBlock = v.ownBlock ∨ v'.ownBlock = some w.heap.size) :
    TrAt (fun x => B ≤ x ∧ v'.ownBlock ≠ some x) w' t cs :=
  TrAt.move (fun g h1 h2 => ⟨hg.block g h2 (fun e => h1.2 e.symm), h1.1, fun e => by
    rcases hat with h | h
    · exact h1.2 (h.symm.trans e)
    · rw [h] at e
      injection e with e
      omega⟩) t cs h
/-- The same of the new element, that lies in blocks from M on. -/
theorem TrAt.fresh {B M : Nat} {w0 w w' : World} {v v' : Value} {t : Tr} {cs : List Value} (h : TrAt (fun x => M ≤ x) w0 t cs) (hB : B ≤ M) (hv : ∀ g, v.ownBlock = some g → g < M) (hw : ∀ g, M ≤ g → g < w0.heap.size → w.heap[g]? = w0.heap[g]?) (hs : w0.heap.size ≤ w.heap.size) (hg : w.grownBy w' v.ownBlock) (hat : v'.ownBlock = v.ownBlock ∨ v'.ownBlock = some w.heap.size) :
    TrAt (fun x => B ≤ x ∧ v'.ownBlock ≠ some x) w' t cs :=
  TrAt.move (fun g h1 h2 => ⟨(hg.block g (by omega) (fun e => by have := hv g e.symm; omega)).trans (hw g h1 h2), by omega, fun e => by
    rcases hat with h | h
    · have := hv g (h.symm.trans e); omega
    · rw [h] at e
      injection e with e
      omega⟩) t cs h
end Go.Proofs.YtbfbjalnahngjaaGreatDoor
