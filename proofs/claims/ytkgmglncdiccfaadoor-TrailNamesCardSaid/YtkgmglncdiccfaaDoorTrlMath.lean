/-
  Plain facts on paths of names, and on patterns of them (layer 16): how a text is cut at its points, which are paths, what fits.
-/
import Derived.Test.YtkgmglncdiccfaaDoorGlbFx
set_option linter.unusedSimpArgs false
set_option linter.unusedVariables false
namespace Go.Proofs.YtkgmglncdiccfaaDoor
open GR
/-- A byte ahead of the first piece. -/
def tHd (c : Nat) : List (List Nat) → List (List Nat)
  | [] => [[c]]
  | p :: ps => (c :: p) :: ps
/-- What stands between a text's points; behind k of them what is left, whole. -/
def tCut : List Nat → Nat → List (List Nat)
  | [], _ => [[]]
  | c :: s, 0 => [c :: s]
  | c :: s, k + 1 => if c = 46 then [] :: tCut s k else tHd c (tCut s (k + 1))
def tJoin : List (List Nat) → List Nat
  | [] => []
  | [p] => p
  | p :: q :: r => p ++ 46 :: tJoin (q :: r)
theorem tCut_zero (s : List Nat) : tCut s 0 = [s] := by cases s <;> rfl
theorem tHd_length {c : Nat} {l : List (List Nat)} (h : l ≠ []) : (tHd c l).length = l.length := by
  cases l with
  | nil => exact absurd rfl h
  | cons p ps => rfl
theorem tCut_ne : ∀ (s : List Nat) (k : Nat), tCut s k ≠ []
  | [], _ => by simp [tCut]
  | c :: s, 0 => by simp [tCut]
  | c :: s, k + 1 => by
    unfold tCut
    split
    · simp
    · cases h : tCut s (k + 1) with
      | nil => exact absurd h (tCut_ne s (k + 1))
      | cons p ps => simp [tHd]
theorem tCut_length : ∀ (s : List Nat) (k : Nat), (tCut s k).length ≤ k + 1
  | [], k => by simp [tCut]
  | c :: s, 0 => by simp [tCut]
  | c :: s, k + 1 => by
    unfold tCut
    split
    · rw [List.length_cons]; have := tCut_length s k; omega
    · rw [tHd_length (tCut_ne s (k + 1))]; exact tCut_length s (k + 1)
theorem tJoin_hd {c : Nat} {l : List (List Nat)} (h : l ≠ []) : tJoin (tHd c l) = c :: tJoin l := by
  cases l with
  | nil => exact absurd rfl h
  | cons p ps => cases ps <;> rfl
/-- The pieces, with points between, are the text. -/
theorem tJoin_cut : ∀ (s : List Nat) (k : Nat), tJoin (tCut s k) = s
  | [], k => by simp [tCut, tJoin]
  | c :: s, 0 => rfl
  | c :: s, k + 1 => by
    unfold tCut
    split
    · rename_i h
      subst h
      have ih := tJoin_cut s k
      cases h2 : tCut s k with
      | nil => exact absurd h2 (tCut_ne s k)
      | cons p ps =>
        rw [h2] at ih
        show ([] : List Nat) ++ 46 :: tJoin (p :: ps) = 46 :: s
        rw [ih]; rfl
    · rw [tJoin_hd (tCut_ne s (k + 1)), tJoin_cut s (k + 1)]
theorem tCut_app : ∀ (p s : List Nat) (k : Nat), 46 ∉ p → tCut (p ++ 46 :: s) (k + 1) = p :: tCut s k
  | [], s, k, _ => by show (if (46 : Nat) = 46 then [] :: tCut s k else tHd 46 (tCut s (k + 1))) = _; rw [if_pos rfl]
  | c :: p, s, k, h => by
    have hc : c ≠ 46 := fun e => h (by rw [e]; exact List.mem_cons_self)
    show tCut (c :: (p ++ 46 :: s)) (k + 1) = _
    rw [tCut, if_neg hc, tCut_app p s k (fun e => h (List.mem_cons_of_mem _ e))]
    rfl
theorem tCut_one : ∀ (p : List Nat) (k : Nat), 46 ∉ p → tCut p k = [p]
  | [], k, _ => rfl
  | c :: p, 0, _ => rfl
  | c :: p, k + 1, h => by
    have hc : c ≠ 46 := fun e => h (by rw [e]; exact List.mem_cons_self)
    rw [tCut, if_neg hc, tCut_one p (k + 1) (fun e => h (List.mem_cons_of_mem _ e))]
    rfl
/-- What is joined of pieces without points is cut as it was. -/
theorem tCut_join : ∀ (l : List (List Nat)) (k : Nat), l ≠ [] → (∀ p ∈ l, 46 ∉ p) → l.length ≤ k + 1 → tCut (tJoin l) k = l
  | [], _, h, _, _ => absurd rfl h
  | [p], k, _, h, _ => tCut_one p k (h p (by simp))
  | p :: q :: r, 0, _, _, h => by simp at h
  | p :: q :: r, k + 1, _, h, hl => by
    show tCut (p ++ 46 :: tJoin (q :: r)) (k + 1) = _
    rw [tCut_app p _ k (h p (by simp)), tCut_join (q :: r) k (by simp) (fun x hx => h x (List.mem_cons_of_mem _ hx)) (by simp at hl ⊢; omega)]
/-- Is it a name? -/
def tName (p : List Nat) : Bool := gPlain p && decide (p.length ≤ 32)
theorem isB_point : isB 46 = false := by decide
theorem tName_point {p : List Nat} (h : tName p = true) : 46 ∉ p := fun hm => by
  unfold tName gPlain at h
  rw [Bool.and_eq_true, Bool.and_eq_true, List.all_eq_true] at h
  have := h.1.2 46 hm
  rw [isB_point] at this
  cases this
theorem tName_plain {p : List Nat} (h : tName p = true) : gPlain p = true ∧ p.length ≤ 128 := by
  unfold tName at h
  rw [Bool.and_eq_true, decide_eq_true_eq] at h
  exact ⟨h.1, by omega⟩
/-- Is it a path? -/
def tRight (s : List Nat) : Bool := decide ((tCut s 8).length ≤ 8) && (tCut s 8).all tName
/-- What is wrong with a path. -/
def tPErr (s : List Nat) : Int := if tRight s = true then 0 else 13
/-- The first of some patterns' errors. -/
def tFirst : List (List Nat) → Int
  | [] => 0
  | p :: ps => if gErr p = 0 then tFirst ps else gErr p
/-- What is wrong with a pattern. -/
def tErr (s : List Nat) : Int := if 8 < (tCut s 8).length then 11 else tFirst (tCut s 8)
/-- Do the first k fit? -/
def tTo (ps qs : List (List Nat)) (k : Nat) : Bool := (List.range k).all fun j => gMatch (ps.getD j []) (qs.getD j [])
def tFit (ps qs : List (List Nat)) : Bool := decide (ps.length = qs.length) && tTo ps qs ps.length
theorem tTo_succ (ps qs : List (List Nat)) (k : Nat) : tTo ps qs (k + 1) = (tTo ps qs k && gMatch (ps.getD k []) (qs.getD k [])) := by
  unfold tTo
  rw [List.range_succ, List.all_append]
  simp
theorem tTo_no {ps qs : List (List Nat)} {k n : Nat} (h : gMatch (ps.getD k []) (qs.getD k []) = false) (hk : k < n) : tTo ps qs n = false := by
  unfold tTo
  rw [Bool.eq_false_iff]
  intro hx
  rw [List.all_eq_true] at hx
  have := hx k (List.mem_range.2 hk)
  rw [h] at this
  cases this
/-- Does a pattern fit a path, and what is wrong. -/
def tMatch (p s : List Nat) : Bool := decide (tErr p = 0) && tRight s && tFit (tCut p 8) (tCut s 8)
def tMErr (p s : List Nat) : Int := if tErr p = 0 then tPErr s else tErr p
theorem tFirst_zero : ∀ {l : List (List Nat)}, tFirst l = 0 ↔ ∀ p ∈ l, gErr p = 0
  | [] => by simp [tFirst]
  | p :: ps => by
    unfold tFirst
    by_cases h : gErr p = 0
    · rw [if_pos h, tFirst_zero]
      simp [h]
    · rw [if_neg h]
      simp [h]
theorem tErr_zero {s : List Nat} (h : tErr s = 0) : (tCut s 8).length ≤ 8 ∧ ∀ p ∈ tCut s 8, gErr p = 0 := by
  unfold tErr at h
  split at h
  · cases h
  · exact ⟨by omega, tFirst_zero.1 h⟩
theorem tRight_names {s : List Nat} (h : tRight s = true) : (tCut s 8).length ≤ 8 ∧ ∀ p ∈ tCut s 8, tName p = true := by
  unfold tRight at h
  rw [Bool.and_eq_true, decide_eq_true_eq, List.all_eq_true] at h
  exact h
/-- Names, joined, are a path whose names they are. -/
theorem tRight_join {l : List (List Nat)} (h0 : l ≠ []) (h8 : l.length ≤ 8) (hn : ∀ p ∈ l, tName p = true) : tRight (tJoin l) = true ∧ tCut (tJoin l) 8 = l := by
  have e := tCut_join l 8 h0 (fun p hp => tName_point (hn p hp)) (by omega)
  refine ⟨?_, e⟩
  unfold tRight
  rw [e, Bool.and_eq_true, decide_eq_true_eq, List.all_eq_true]
  exact ⟨h8, hn⟩
/-- A path, as a pattern, may be. -/
theorem tErr_path {s : List Nat} (h : tRight s = true) : tErr s = 0 := by
  obtain ⟨h1, h2⟩ := tRight_names h
  unfold tErr
  rw [if_neg (by omega)]
  exact tFirst_zero.2 fun p hp => by
    obtain ⟨a, b⟩ := tName_plain (h2 p hp)
    exact (plain_fit a b []).1
theorem list_ext {ps qs : List (List Nat)} (hl : ps.length = qs.length) (h : ∀ j, j < ps.length → ps.getD j [] = qs.getD j []) : ps = qs := by
  refine List.ext_getElem hl fun j h1 h2 => ?_
  have := h j h1
  rwa [List.getD_eq_getElem?_getD, List.getD_eq_getElem?_getD, List.getElem?_eq_getElem h1, List.getElem?_eq_getElem h2] at this
/-- A path, as a pattern, fits itself alone. -/
theorem tFit_path {s t : List Nat} (h : tRight s = true) : tFit (tCut s 8) (tCut t 8) = decide (s = t) := by
  obtain ⟨h1, h2⟩ := tRight_names h
  rw [Bool.eq_iff_iff, decide_eq_true_eq]
  unfold tFit
  rw [Bool.and_eq_true, decide_eq_true_eq]
  have hm : ∀ j, j < (tCut s 8).length → ∀ n, gMatch ((tCut s 8).getD j []) n = decide ((tCut s 8).getD j [] = n) := fun j hj n => by
    have hmem : (tCut s 8).getD j [] ∈ tCut s 8 := by
      rw [List.getD_eq_getElem?_getD, List.getElem?_eq_getElem hj]
      exact List.getElem_mem _
    obtain ⟨a, b⟩ := tName_plain (h2 _ hmem)
    exact (plain_fit a b n).2
  constructor
  · rintro ⟨hl, ht⟩
    unfold tTo at ht
    rw [List.all_eq_true] at ht
    have e := list_ext hl fun j hj => by
      have := ht j (List.mem_range.2 hj)
      rw [hm j hj, decide_eq_true_eq] at this
      exact this
    rw [← tJoin_cut s 8, e, tJoin_cut]
  · rintro rfl
    refine ⟨rfl, ?_⟩
    unfold tTo
    rw [List.all_eq_true]
    intro j hj
    rw [hm j (List.mem_range.1 hj)]
    exact decide_eq_true rfl
theorem tMatch_self {s : List Nat} (h : tRight s = true) : tMatch s s = true ∧ tMErr s s = 0 := by
  unfold tMatch tMErr tPErr
  rw [tErr_path h, h, tFit_path h, if_pos rfl, if_pos rfl]
  simp
theorem tMErr_zero {p s : List Nat} (h : tMErr p s = 0) : tErr p = 0 ∧ tRight s = true := by
  unfold tMErr tPErr at h
  by_cases h1 : tErr p = 0
  · rw [if_pos h1] at h
    by_cases h2 : tRight s = true
    · exact ⟨h1, h2⟩
    · rw [if_neg h2] at h; cases h
  · rw [if_neg h1] at h
    exact absurd h h1
theorem tMErr_no {p s : List Nat} (h : tMErr p s ≠ 0) : tMatch p s = false := by
  unfold tMatch
  rw [Bool.eq_false_iff]
  intro hx
  rw [Bool.and_eq_true, Bool.and_eq_true, decide_eq_true_eq] at hx
  refine h ?_
  unfold tMErr tPErr
  rw [if_pos hx.1.1, if_pos hx.1.2]
/-- The head of a path. -/
theorem tHead {s : List Nat} (h : tRight s = true) {n : Nat} (h1 : 1 ≤ n) (hn : n ≤ (tCut s 8).length) :
    tRight (tJoin ((tCut s 8).take n)) = true ∧ tCut (tJoin ((tCut s 8).take n)) 8 = (tCut s 8).take n ∧ (tJoin ((tCut s 8).take n) = s ↔ n = (tCut s 8).length) := by
  obtain ⟨h8, hnm⟩ := tRight_names h
  have hne : (tCut s 8).take n ≠ [] := fun e => by
    have := congrArg List.length e
    rw [List.length_take] at this
    simp only [List.length_nil] at this
    omega
  obtain ⟨a, b⟩ := tRight_join hne (by rw [List.length_take]; omega) (fun p hp => hnm p (List.mem_of_mem_take hp))
  refine ⟨a, b, fun e => ?_, fun e => ?_⟩
  · have := congrArg List.length b
    rw [e, List.length_take] at this
    omega
  · rw [e, List.take_length, tJoin_cut]
/-! ### As the library cuts and joins -/
theorem tJoin_len : ∀ (l : List (List Nat)) (n : Nat), (tJoin (l.take n)).length ≤ (tJoin l).length
  | [], n => by simp
  | [p], 0 => by simp [tJoin]
  | [p], n + 1 => by simp
  | p :: q :: r, 0 => by simp [tJoin]
  | p :: q :: r, 1 => by simp [tJoin]
  | p :: q :: r, n + 2 => by
    have := tJoin_len (q :: r) (n + 1)
    show (p ++ 46 :: tJoin (q :: r.take n)).length ≤ (p ++ 46 :: tJoin (q :: r)).length
    rw [List.length_append, List.length_append, List.length_cons, List.length_cons]
    rw [List.take_succ_cons] at this
    omega
end Go.Proofs.YtkgmglncdiccfaaDoor
