/-
  Texts of the trie's proofs, merged: TrlMath, TrlCut, TriMath, TriHeap.
-/
import Derived.Test.YtbfbjalnahngjaaGreatDoorTriQ7
import Derived.Test.YtbfbjalnahngjaaGreatDoorTriQ2
import Derived.Maps.OwnSet
import Derived.Maps.RangeWalk
import Derived.Carry
set_option linter.unusedSimpArgs false
set_option linter.unusedVariables false
namespace Go.Proofs.YtbfbjalnahngjaaGreatDoor
open GR
/-- A byte ahead of the first piece. -/
def tHd (c : Nat) : List (List Nat) → List (List Nat)
  | [] => [[c]]
  | p :: ps => (c :: p) :: ps
/-- What stands between a text's points; behind k of them what is left, whole. -/
def tCut : List Nat → Nat → List (List Nat)
  | [], _ => [[]]
  | c :: s, 0 => [c :: s]
  | c :: s, k + 1 => if c = 46 then [] :: tCut s k else tHd c (tCut s (k + 1))
def tJoin : List (List Nat) → List Nat
  | [] => []
  | [p] => p
  | p :: q :: r => p ++ 46 :: tJoin (q :: r)
theorem tCut_zero (s : List Nat) : tCut s 0 = [s] := by cases s <;> rfl
theorem tHd_length {c : Nat} {l : List (List Nat)} (h : l ≠ []) : (tHd c l).length = l.length := by
  cases l with
  | nil => exact absurd rfl h
  | cons p ps => rfl
theorem tCut_ne : ∀ (s : List Nat) (k : Nat), tCut s k ≠ []
  | [], _ => by simp [tCut]
  | c :: s, 0 => by simp [tCut]
  | c :: s, k + 1 => by
    unfold tCut
    split
    · simp
    · cases h : tCut s (k + 1) with
      | nil => exact absurd h (tCut_ne s (k + 1))
      | cons p ps => simp [tHd]
theorem tCut_length : ∀ (s : List Nat) (k : Nat), (tCut s k).length ≤ k + 1
  | [], k => by simp [tCut]
  | c :: s, 0 => by simp [tCut]
  | c :: s, k + 1 => by
    unfold tCut
    split
    · rw [List.length_cons]; have := tCut_length s k; omega
    · rw [tHd_length (tCut_ne s (k + 1))]; exact tCut_length s (k + 1)
theorem tJoin_hd {c : Nat} {l : List (List Nat)} (h : l ≠ []) : tJoin (tHd c l) = c :: tJoin l := by
  cases l with
  | nil => exact absurd rfl h
  | cons p ps => cases ps <;> rfl
/-- The pieces, with points between, are the text. -/
theorem tJoin_cut : ∀ (s : List Nat) (k : Nat), tJoin (tCut s k) = s
  | [], k => by simp [tCut, tJoin]
  | c :: s, 0 => rfl
  | c :: s, k + 1 => by
    unfold tCut
    split
    · rename_i h
      subst h
      have ih := tJoin_cut s k
      cases h2 : tCut s k with
      | nil => exact absurd h2 (tCut_ne s k)
      | cons p ps =>
        rw [h2] at ih
        show ([] : List Nat) ++ 46 :: tJoin (p :: ps) = 46 :: s
        rw [ih]; rfl
    · rw [tJoin_hd (tCut_ne s (k + 1)), tJoin_cut s (k + 1)]
theorem tCut_app : ∀ (p s : List Nat) (k : Nat), 46 ∉ p → tCut (p ++ 46 :: s) (k + 1) = p :: tCut s k
  | [], s, k, _ => by show (if (46 : Nat) = 46 then [] :: tCut s k else tHd 46 (tCut s (k + 1))) = _; rw [if_pos rfl]
  | c :: p, s, k, h => by
    have hc : c ≠ 46 := fun e => h (by rw [e]; exact List.mem_cons_self)
    show tCut (c :: (p ++ 46 :: s)) (k + 1) = _
    rw [tCut, if_neg hc, tCut_app p s k (fun e => h (List.mem_cons_of_mem _ e))]
    rfl
theorem tCut_one : ∀ (p : List Nat) (k : Nat), 46 ∉ p → tCut p k = [p]
  | [], k, _ => rfl
  | c :: p, 0, _ => rfl
  | c :: p, k + 1, h => by
    have hc : c ≠ 46 := fun e => h (by rw [e]; exact List.mem_cons_self)
    rw [tCut, if_neg hc, tCut_one p (k + 1) (fun e => h (List.mem_cons_of_mem _ e))]
    rfl
/-- What is joined of pieces without points is cut as it was. -/
theorem tCut_join : ∀ (l : List (List Nat)) (k : Nat), l ≠ [] → (∀ p ∈ l, 46 ∉ p) → l.length ≤ k + 1 → tCut (tJoin l) k = l
  | [], _, h, _, _ => absurd rfl h
  | [p], k, _, h, _ => tCut_one p k (h p (by simp))
  | p :: q :: r, 0, _, _, h => by simp at h
  | p :: q :: r, k + 1, _, h, hl => by
    show tCut (p ++ 46 :: tJoin (q :: r)) (k + 1) = _
    rw [tCut_app p _ k (h p (by simp)), tCut_join (q :: r) k (by simp) (fun x hx => h x (List.mem_cons_of_mem _ hx)) (by simp at hl ⊢; omega)]
/-- Is it a name? -/
def tName (p : List Nat) : Bool := gPlain p && decide (p.length ≤ 32)
theorem isB_point : isB 46 = false := by decide
theorem tName_point {p : List Nat} (h : tName p = true) : 46 ∉ p := fun hm => by
  unfold tName gPlain at h
  rw [Bool.and_eq_true, Bool.and_eq_true, List.all_eq_true] at h
  have := h.1.2 46 hm
  rw [isB_point] at this
  cases this
theorem tName_plain {p : List Nat} (h : tName p = true) : gPlain p = true ∧ p.length ≤ 128 := by
  unfold tName at h
  rw [Bool.and_eq_true, decide_eq_true_eq] at h
  exact ⟨h.1, by omega⟩
/-- Is it a path? -/
def tRight (s : List Nat) : Bool := decide ((tCut s 8).length ≤ 8) && (tCut s 8).all tName
/-- What is wrong with a path. -/
def tPErr (s : List Nat) : Int := if tRight s = true then 0 else 13
/-- The first of some patterns' errors. -/
def tFirst : List (List Nat) → Int
  | [] => 0
  | p :: ps => if gErr p = 0 then tFirst ps else gErr p
/-- What is wrong with a pattern. -/
def tErr (s : List Nat) : Int := if 8 < (tCut s 8).length then 11 else tFirst (tCut s 8)
/-- Do the first k fit? -/
def tTo (ps qs : List (List Nat)) (k : Nat) : Bool := (List.range k).all fun j => gMatch (ps.getD j []) (qs.getD j [])
def tFit (ps qs : List (List Nat)) : Bool := decide (ps.length = qs.length) && tTo ps qs ps.length
theorem tTo_succ (ps qs : List (List Nat)) (k : Nat) : tTo ps qs (k + 1) = (tTo ps qs k && gMatch (ps.getD k []) (qs.getD k [])) := by
  unfold tTo
  rw [List.range_succ, List.all_append]
  simp
theorem tTo_no {ps qs : List (List Nat)} {k n : Nat} (h : gMatch (ps.getD k []) (qs.getD k []) = false) (hk : k < n) : tTo ps qs n = false := by
  unfold tTo
  rw [Bool.eq_false_iff]
  intro hx
  rw [List.all_eq_true] at hx
  have := hx k (List.mem_range.2 hk)
  rw [h] at this
  cases this
/-- Does a pattern fit a path, and what is wrong. -/
def tMatch (p s : List Nat) : Bool := decide (tErr p = 0) && tRight s && tFit (tCut p 8) (tCut s 8)
def tMErr (p s : List Nat) : Int := if tErr p = 0 then tPErr s else tErr p
theorem tFirst_zero : ∀ {l : List (List Nat)}, tFirst l = 0 ↔ ∀ p ∈ l, gErr p = 0
  | [] => by simp [tFirst]
  | p :: ps => by
    unfold tFirst
    by_cases h : gErr p = 0
    · rw [if_pos h, tFirst_zero]
      simp [h]
    · rw [if_neg h]
      simp [h]
theorem tErr_zero {s : List Nat} (h : tErr s = 0) : (tCut s 8).length ≤ 8 ∧ ∀ p ∈ tCut s 8, gErr p = 0 := by
  unfold tErr at h
  split at h
  · cases h
  · exact ⟨by omega, tFirst_zero.1 h⟩
theorem tRight_names {s : List Nat} (h : tRight s = true) : (tCut s 8).length ≤ 8 ∧ ∀ p ∈ tCut s 8, tName p = true := by
  unfold tRight at h
  rw [Bool.and_eq_true, decide_eq_true_eq, List.all_eq_true] at h
  exact h
/-- Names, joined, are a path whose names they are. -/
theorem tRight_join {l : List (List Nat)} (h0 : l ≠ []) (h8 : l.length ≤ 8) (hn : ∀ p ∈ l, tName p = true) : tRight (tJoin l) = true ∧ tCut (tJoin l) 8 = l := by
  have e := tCut_join l 8 h0 (fun p hp => tName_point (hn p hp)) (by omega)
  refine ⟨?_, e⟩
  unfold tRight
  rw [e, Bool.and_eq_true, decide_eq_true_eq, List.all_eq_true]
  exact ⟨h8, hn⟩
/-- A path, as a pattern, may be. -/
theorem tErr_path {s : List Nat} (h : tRight s = true) : tErr s = 0 := by
  obtain ⟨h1, h2⟩ := tRight_names h
  unfold tErr
  rw [if_neg (by omega)]
  exact tFirst_zero.2 fun p hp => by
    obtain ⟨a, b⟩ := tName_plain (h2 p hp)
    exact (plain_fit a b []).1
theorem list_ext {ps qs : List (List Nat)} (hl : ps.length = qs.length) (h : ∀ j, j < ps.length → ps.getD j [] = qs.getD j []) : ps = qs := by
  refine List.ext_getElem hl fun j h1 h2 => ?_
  have := h j h1
  rwa [List.getD_eq_getElem?_getD, List.getD_eq_getElem?_getD, List.getElem?_eq_getElem h1, List.getElem?_eq_getElem h2] at this
/-- A path, as a pattern, fits itself alone. -/
theorem tFit_path {s t : List Nat} (h : tRight s = true) : tFit (tCut s 8) (tCut t 8) = decide (s = t) := by
  obtain ⟨h1, h2⟩ := tRight_names h
  rw [Bool.eq_iff_iff, decide_eq_true_eq]
  unfold tFit
  rw [Bool.and_eq_true, decide_eq_true_eq]
  have hm : ∀ j, j < (tCut s 8).length → ∀ n, gMatch ((tCut s 8).getD j []) n = decide ((tCut s 8).getD j [] = n) := fun j hj n => by
    have hmem : (tCut s 8).getD j [] ∈ tCut s 8 := by
      rw [List.getD_eq_getElem?_getD, List.getElem?_eq_getElem hj]
      exact List.getElem_mem _
    obtain ⟨a, b⟩ := tName_plain (h2 _ hmem)
    exact (plain_fit a b n).2
  constructor
  · rintro ⟨hl, ht⟩
    unfold tTo at ht
    rw [List.all_eq_true] at ht
    have e := list_ext hl fun j hj => by
      have := ht j (List.mem_range.2 hj)
      rw [hm j hj, decide_eq_true_eq] at this
      exact this
    rw [← tJoin_cut s 8, e, tJoin_cut]
  · rintro rfl
    refine ⟨rfl, ?_⟩
    unfold tTo
    rw [List.all_eq_true]
    intro j hj
    rw [hm j (List.mem_range.1 hj)]
    exact decide_eq_true rfl
theorem tMatch_self {s : List Nat} (h : tRight s = true) : tMatch s s = true ∧ tMErr s s = 0 := by
  unfold tMatch tMErr tPErr
  rw [tErr_path h, h, tFit_path h, if_pos rfl, if_pos rfl]
  simp
theorem tMErr_zero {p s : List Nat} (h : tMErr p s = 0) : tErr p = 0 ∧ tRight s = true := by
  unfold tMErr tPErr at h
  by_cases h1 : tErr p = 0
  · rw [if_pos h1] at h
    by_cases h2 : tRight s = true
    · exact ⟨h1, h2⟩
    · rw [if_neg h2] at h; cases h
  · rw [if_neg h1] at h
    exact absurd h h1
theorem tMErr_no {p s : List Nat} (h : tMErr p s ≠ 0) : tMatch p s = false := by
  unfold tMatch
  rw [Bool.eq_false_iff]
  intro hx
  rw [Bool.and_eq_true, Bool.and_eq_true, decide_eq_true_eq] at hx
  refine h ?_
  unfold tMErr tPErr
  rw [if_pos hx.1.1, if_pos hx.1.2]
/-- The head of a path. -/
theorem tHead {s : List Nat} (h : tRight s = true) {n : Nat} (h1 : 1 ≤ n) (hn : n ≤ (tCut s 8).length) :
    tRight (tJoin ((tCut s 8).take n)) = true ∧ tCut (tJoin ((tCut s 8).take n)) 8 = (tCut s 8).take n ∧ (tJoin ((tCut s 8).take n) = s ↔ n = (tCut s 8).length) := by
  obtain ⟨h8, hnm⟩ := tRight_names h
  have hne : (tCut s 8).take n ≠ [] := fun e => by
    have := congrArg List.length e
    rw [List.length_take] at this
    simp only [List.length_nil] at this
    omega
  obtain ⟨a, b⟩ := tRight_join hne (by rw [List.length_take]; omega) (fun p hp => hnm p (List.mem_of_mem_take hp))
  refine ⟨a, b, fun e => ?_, fun e => ?_⟩
  · have := congrArg List.length b
    rw [e, List.length_take] at this
    omega
  · rw [e, List.take_length, tJoin_cut]
/-! ### As the library cuts and joins -/
theorem tJoin_len : ∀ (l : List (List Nat)) (n : Nat), (tJoin (l.take n)).length ≤ (tJoin l).length
  | [], n => by simp
  | [p], 0 => by simp [tJoin]
  | [p], n + 1 => by simp
  | p :: q :: r, 0 => by simp [tJoin]
  | p :: q :: r, 1 => by simp [tJoin]
  | p :: q :: r, n + 2 => by
    have := tJoin_len (q :: r) (n + 1)
    show (p ++ 46 :: tJoin (q :: r.take n)).length ≤ (p ++ 46 :: tJoin (q :: r)).length
    rw [List.length_append, List.length_append, List.length_cons, List.length_cons]
    rw [List.take_succ_cons] at this
    omega
end Go.Proofs.YtbfbjalnahngjaaGreatDoor
namespace Go.Proofs.YtbfbjalnahngjaaGreatDoor
/-- All pieces. -/
def tFull : List Nat → List (List Nat)
  | [] => [[]]
  | c :: s => if c = 46 then [] :: tFull s else tHd c (tFull s)
theorem tFull_ne : ∀ (s : List Nat), tFull s ≠ []
  | [] => by simp [tFull]
  | c :: s => by
    unfold tFull
    split
    · simp
    · cases h : tFull s with
      | nil => exact absurd h (tFull_ne s)
      | cons p ps => simp [tHd]
theorem tHd_app {c : Nat} {l : List (List Nat)} {n : Nat} (h : l ≠ []) : tHd c l = (c :: l.headD []) :: l.tail := by
  cases l with
  | nil => exact absurd rfl h
  | cons p ps => rfl
/-- Few pieces are all there are; of more than k + 1 just so many are told. -/
theorem tCut_full : ∀ (s : List Nat) (k : Nat), (tFull s).length ≤ k + 1 → tCut s k = tFull s
  | [], _, _ => by simp [tCut, tFull]
  | c :: s, 0, h => by
    unfold tFull at h ⊢
    unfold tCut
    by_cases hc : c = 46
    · rw [if_pos hc] at h
      have := List.length_pos_iff.2 (tFull_ne s)
      simp only [List.length_cons] at h
      omega
    · rw [if_neg hc] at h ⊢
      rw [tHd_length (tFull_ne s)] at h
      rw [← tCut_full s 0 h, tCut_zero]
      rfl
  | c :: s, k + 1, h => by
    unfold tFull at h ⊢
    unfold tCut
    by_cases hc : c = 46
    · rw [if_pos hc] at h ⊢
      simp only [List.length_cons] at h
      rw [if_pos hc, tCut_full s k (by omega)]
    · rw [if_neg hc] at h ⊢
      rw [tHd_length (tFull_ne s)] at h
      rw [if_neg hc, tCut_full s (k + 1) h]
theorem tCut_many : ∀ (s : List Nat) (k : Nat), k + 1 ≤ (tFull s).length → (tCut s k).length = k + 1
  | [], k, h => by
    have : (tFull []).length = 1 := rfl
    rw [this] at h
    show 1 = k + 1
    omega
  | c :: s, 0, _ => rfl
  | c :: s, k + 1, h => by
    unfold tFull at h
    unfold tCut
    by_cases hc : c = 46
    · rw [if_pos hc] at h ⊢
      simp only [List.length_cons] at h ⊢
      rw [tCut_many s k (by omega)]
    · rw [if_neg hc] at h ⊢
      rw [tHd_length (tFull_ne s)] at h
      rw [tHd_length (tCut_ne s (k + 1)), tCut_many s (k + 1) h]
theorem tCut_few {s : List Nat} {k : Nat} : (tCut s k).length ≤ k ↔ (tFull s).length ≤ k := by
  rcases Nat.lt_or_ge k (tFull s).length with h | h
  · rw [tCut_many s k (by omega)]; omega
  · rw [tCut_full s k (by omega)]
/-- Is it a path: by the pieces that the document looks at, ten at most. -/
theorem tRight_ten (s : List Nat) : tRight s = (((tFull s).take 10).all tName && decide (((tFull s).take 10).length ≤ 8)) := by
  unfold tRight
  by_cases h : (tFull s).length ≤ 8
  · have h9 : (tFull s).length ≤ 8 + 1 := by omega
    rw [tCut_full s 8 h9, List.take_of_length_le (by omega), Bool.and_comm]
  · have h1 : ¬ (tCut s 8).length ≤ 8 := fun e => h (tCut_few.1 e)
    have h2 : ¬ ((tFull s).take 10).length ≤ 8 := by rw [List.length_take]; omega
    rw [decide_eq_false h1, decide_eq_false h2, Bool.false_and, Bool.and_false]
/-- What is wrong with a pattern: by the same pieces. -/
theorem tErr_ten (s : List Nat) : tErr s = if 8 < ((tFull s).take 10).length then 11 else tFirst ((tFull s).take 10) := by
  unfold tErr
  by_cases h : (tFull s).length ≤ 8
  · have h9 : (tFull s).length ≤ 8 + 1 := by omega
    rw [tCut_full s 8 h9, List.take_of_length_le (by omega)]
  · have h1 : 8 < (tCut s 8).length := by
      rcases Nat.lt_or_ge 8 (tCut s 8).length with e | e
      · exact e
      · exact absurd (tCut_few.1 e) h
    rw [if_pos h1, if_pos (by rw [List.length_take]; omega)]
/-- Where no point stands. -/
theorem tFull_none : ∀ (p : List Nat), 46 ∉ p → tFull p = [p]
  | [], _ => rfl
  | c :: p, h => by
    have hc : c ≠ 46 := fun e => h (by rw [e]; exact List.mem_cons_self)
    rw [tFull, if_neg hc, tFull_none p (fun e => h (List.mem_cons_of_mem _ e))]
    rfl
theorem tFull_point : ∀ (p s : List Nat), 46 ∉ p → tFull (p ++ 46 :: s) = p :: tFull s
  | [], s, _ => by show (if (46 : Nat) = 46 then [] :: tFull s else tHd 46 (tFull s)) = _; rw [if_pos rfl]
  | c :: p, s, h => by
    have hc : c ≠ 46 := fun e => h (by rw [e]; exact List.mem_cons_self)
    show tFull (c :: (p ++ 46 :: s)) = _
    rw [tFull, if_neg hc, tFull_point p s (fun e => h (List.mem_cons_of_mem _ e))]
    rfl
/-- The pieces that were told, those to come behind a place. -/
structure CutI (s : List Nat) (fr i : Nat) (out : List (List Nat)) : Prop where
  rd : tFull s = out ++ tFull (s.drop fr)
  no : 46 ∉ (s.drop fr).take (i - fr)
  le : fr ≤ i
  hi : i ≤ s.length
theorem CutI.start (s : List Nat) : CutI s 0 0 [] := ⟨rfl, by simp, Nat.le_refl _, Nat.zero_le _⟩
theorem CutI.go {s : List Nat} {fr i : Nat} {out : List (List Nat)} (h : CutI s fr i out) (hi : i < s.length) (hc : s.getD i 0 ≠ 46) : CutI s fr (i + 1) out := by
  refine ⟨h.rd, fun hm => ?_, by have := h.le; omega, hi⟩
  have hle := h.le
  rw [show i + 1 - fr = (i - fr) + 1 by omega, List.take_add_one, List.mem_append] at hm
  rcases hm with hm | hm
  · exact h.no hm
  · rw [List.getElem?_drop, show fr + (i - fr) = i by omega, List.getElem?_eq_getElem hi] at hm
    have : s.getD i 0 = s[i] := by rw [List.getD_eq_getElem?_getD, List.getElem?_eq_getElem hi]; rfl
    rw [this] at hc
    have hm2 : (46 : Nat) = s[i] := by simpa using hm
    exact hc hm2.symm
theorem CutI.point {s : List Nat} {fr i : Nat} {out : List (List Nat)} (h : CutI s fr i out) (hi : i < s.length) (hc : s.getD i 0 = 46) : CutI s (i + 1) (i + 1) (out ++ [(s.drop fr).take (i - fr)]) := by
  have hle := h.le
  have e : s.drop fr = (s.drop fr).take (i - fr) ++ 46 :: s.drop (i + 1) := by
    have h1 : (s.drop fr).drop (i - fr) = 46 :: s.drop (i + 1) := by
      rw [List.drop_drop, show fr + (i - fr) = i by omega, List.drop_eq_getElem_cons hi]
      have : s.getD i 0 = s[i] := by rw [List.getD_eq_getElem?_getD, List.getElem?_eq_getElem hi]; rfl
      rw [← this, hc]
    rw [← h1, List.take_append_drop]
  refine ⟨?_, by simp, Nat.le_refl _, hi⟩
  rw [h.rd, List.append_assoc]
  congr 1
  have h2 := h.no
  rw [e, tFull_point _ _ h2, ← e]
  rfl
theorem CutI.ends {s : List Nat} {fr : Nat} {out : List (List Nat)} (h : CutI s fr s.length out) : tFull s = out ++ [(s.drop fr).take (s.length - fr)] := by
  have e : (s.drop fr).take (s.length - fr) = s.drop fr := List.take_of_length_le (by rw [List.length_drop]; exact Nat.le_refl _)
  have h2 := h.no
  rw [e] at h2 ⊢
  rw [h.rd, tFull_none _ h2]
end Go.Proofs.YtbfbjalnahngjaaGreatDoor
namespace Go.Proofs.YtbfbjalnahngjaaGreatDoor
/-- What is held beneath a name. -/
def tAt (S : List (List Nat) → Bool) (n : List Nat) : List (List Nat) → Bool := fun s => S (n :: s)
def tAdd (S : List (List Nat) → Bool) (L : List (List Nat)) : List (List Nat) → Bool := fun s => decide (s = L) || S s
def tDel (S : List (List Nat) → Bool) (L : List (List Nat)) : List (List Nat) → Bool := fun s => !decide (s = L) && S s
def tNone : List (List Nat) → Bool := fun _ => false
/-- Is anything held? -/
def Some_ (S : List (List Nat) → Bool) : Prop := ∃ s, S s = true
theorem some_none : ¬ Some_ tNone := fun ⟨_, h⟩ => Bool.noConfusion h
theorem some_at {S : List (List Nat) → Bool} {n : List Nat} {s : List (List Nat)} (h : S (n :: s) = true) : Some_ (tAt S n) := ⟨s, h⟩
theorem none_at {S : List (List Nat) → Bool} {n : List Nat} (h : ¬ Some_ (tAt S n)) : tAt S n = tNone := funext fun s => by
  cases e : tAt S n s with
  | false => rfl
  | true => exact absurd ⟨s, e⟩ h
theorem tAt_add_same (S : List (List Nat) → Bool) (n : List Nat) (L : List (List Nat)) : tAt (tAdd S (n :: L)) n = tAdd (tAt S n) L := funext fun s => by
  unfold tAt tAdd
  congr 1
  rw [Bool.eq_iff_iff, decide_eq_true_eq, decide_eq_true_eq]
  exact ⟨fun h => (List.cons.inj h).2, fun h => by rw [h]⟩
theorem tAt_add_other (S : List (List Nat) → Bool) {n m : List Nat} (h : n ≠ m) (L : List (List Nat)) : tAt (tAdd S (m :: L)) n = tAt S n := funext fun s => by
  unfold tAt tAdd
  rw [decide_eq_false (fun e => h (List.cons.inj e).1), Bool.false_or]
theorem tAdd_cons_nil (S : List (List Nat) → Bool) (n : List Nat) (L : List (List Nat)) : tAdd S (n :: L) [] = S [] := by
  unfold tAdd
  rw [decide_eq_false (by simp), Bool.false_or]
theorem tAt_add_nil (S : List (List Nat) → Bool) (n : List Nat) : tAt (tAdd S []) n = tAt S n := funext fun s => by
  unfold tAt tAdd
  rw [decide_eq_false (by simp), Bool.false_or]
theorem tAdd_nil_nil (S : List (List Nat) → Bool) : tAdd S [] [] = true := rfl
theorem some_add (S : List (List Nat) → Bool) (L : List (List Nat)) : Some_ (tAdd S L) := ⟨L, by unfold tAdd; rw [decide_eq_true rfl, Bool.true_or]⟩
theorem tAt_del_same (S : List (List Nat) → Bool) (n : List Nat) (L : List (List Nat)) : tAt (tDel S (n :: L)) n = tDel (tAt S n) L := funext fun s => by
  unfold tAt tDel
  congr 2
  rw [Bool.eq_iff_iff, decide_eq_true_eq, decide_eq_true_eq]
  exact ⟨fun h => (List.cons.inj h).2, fun h => by rw [h]⟩
theorem tAt_del_other (S : List (List Nat) → Bool) {n m : List Nat} (h : n ≠ m) (L : List (List Nat)) : tAt (tDel S (m :: L)) n = tAt S n := funext fun s => by
  unfold tAt tDel
  rw [decide_eq_false (fun e => h (List.cons.inj e).1)]
  rfl
theorem tDel_cons_nil (S : List (List Nat) → Bool) (n : List Nat) (L : List (List Nat)) : tDel S (n :: L) [] = S [] := by
  unfold tDel
  rw [decide_eq_false (by simp)]
  rfl
theorem tAt_del_nil (S : List (List Nat) → Bool) (n : List Nat) : tAt (tDel S []) n = tAt S n := funext fun s => by
  unfold tAt tDel
  rw [decide_eq_false (by simp)]
  rfl
theorem tDel_nil_nil (S : List (List Nat) → Bool) : tDel S [] [] = false := rfl
/-- What a list of texts holds. -/
def Sof (l : List (List Nat)) : List (List Nat) → Bool := fun s => l.any fun t => decide (tCut t 8 = s)
theorem sof_nil : Sof [] = tNone := rfl
theorem cut_inj {a b : List Nat} (h : tCut a 8 = tCut b 8) : a = b := by rw [← tJoin_cut a 8, h, tJoin_cut]
theorem sof_iff {l : List (List Nat)} {s : List (List Nat)} : Sof l s = true ↔ ∃ t ∈ l, tCut t 8 = s := by
  unfold Sof
  rw [List.any_eq_true]
  exact ⟨fun ⟨t, h, e⟩ => ⟨t, h, of_decide_eq_true e⟩, fun ⟨t, h, e⟩ => ⟨t, h, decide_eq_true e⟩⟩
theorem sof_cut {l : List (List Nat)} {t : List Nat} : Sof l (tCut t 8) = decide (t ∈ l) := by
  rw [Bool.eq_iff_iff, decide_eq_true_eq, sof_iff]
  exact ⟨fun ⟨x, h, e⟩ => cut_inj e ▸ h, fun h => ⟨t, h, rfl⟩⟩
theorem sof_ext {l m : List (List Nat)} (h : ∀ t, t ∈ l ↔ t ∈ m) : Sof l = Sof m := funext fun s => by
  rw [Bool.eq_iff_iff, sof_iff, sof_iff]
  exact ⟨fun ⟨t, a, b⟩ => ⟨t, (h t).1 a, b⟩, fun ⟨t, a, b⟩ => ⟨t, (h t).2 a, b⟩⟩
theorem sof_add {l m : List (List Nat)} {x : List Nat} (h : ∀ t, t ∈ m ↔ t = x ∨ t ∈ l) : Sof m = tAdd (Sof l) (tCut x 8) := funext fun s => by
  unfold tAdd
  rw [Bool.eq_iff_iff, Bool.or_eq_true, decide_eq_true_eq, sof_iff, sof_iff]
  constructor
  · rintro ⟨t, a, b⟩
    rcases (h t).1 a with rfl | a
    · exact .inl b.symm
    · exact .inr ⟨t, a, b⟩
  · rintro (e | ⟨t, a, b⟩)
    · exact ⟨x, (h x).2 (.inl rfl), e.symm⟩
    · exact ⟨t, (h t).2 (.inr a), b⟩
theorem sof_del {l m : List (List Nat)} {x : List Nat} (h : ∀ t, t ∈ m ↔ t ≠ x ∧ t ∈ l) : Sof m = tDel (Sof l) (tCut x 8) := funext fun s => by
  unfold tDel
  rw [Bool.eq_iff_iff, Bool.and_eq_true, Bool.not_eq_true', decide_eq_false_iff_not, sof_iff, sof_iff]
  constructor
  · rintro ⟨t, a, b⟩
    obtain ⟨a1, a2⟩ := (h t).1 a
    exact ⟨fun e => a1 (cut_inj (b.trans e)), t, a2, b⟩
  · rintro ⟨e, t, a, b⟩
    exact ⟨t, (h t).2 ⟨fun e2 => e (by rw [← b, e2]), a⟩, b⟩
/-! ### Lists that rise -/
def Up (l : List (List Nat)) : Prop := l.Pairwise (· < ·)
theorem up_nil : Up [] := List.Pairwise.nil
theorem nlt_irrefl (a : List Nat) : ¬ a < a := List.lt_irrefl a
theorem nlt_trans {a b c : List Nat} (h : a < b) (k : b < c) : a < c := List.lt_trans h k
theorem nlt_total {a b : List Nat} (h : ¬ a < b) (hne : a ≠ b) : b < a := by
  rcases Classical.em (b < a) with h2 | h2
  · exact h2
  · exact absurd (List.le_antisymm (List.not_lt.1 h2) (List.not_lt.1 h)) hne
theorem Up.nodup {l : List (List Nat)} (h : Up l) : l.Nodup := by
  refine List.Pairwise.imp ?_ h
  intro a b hab e
  exact nlt_irrefl b (e ▸ hab)
/-- One list alone rises and has these members. -/
theorem up_unique : ∀ {l m : List (List Nat)}, Up l → Up m → (∀ t, t ∈ l ↔ t ∈ m) → l = m
  | [], [], _, _, _ => rfl
  | [], y :: m, _, _, h => absurd ((h y).2 List.mem_cons_self) (by simp)
  | x :: l, [], _, _, h => absurd ((h x).1 List.mem_cons_self) (by simp)
  | x :: l, y :: m, hl, hm, h => by
    obtain ⟨h1, h2⟩ := List.pairwise_cons.1 hl
    obtain ⟨k1, k2⟩ := List.pairwise_cons.1 hm
    have e : x = y := by
      rcases List.mem_cons.1 ((h x).1 List.mem_cons_self) with e | hx
      · exact e
      · rcases List.mem_cons.1 ((h y).2 List.mem_cons_self) with e | hy
        · exact e.symm
        · exact absurd (nlt_trans (k1 x hx) (h1 y hy)) (nlt_irrefl _)
    subst e
    rw [up_unique h2 k2 fun t => ⟨fun ht => ?_, fun ht => ?_⟩]
    · rcases List.mem_cons.1 ((h t).1 (List.mem_cons_of_mem _ ht)) with e | ht2
      · exact absurd (h1 t ht) (e ▸ nlt_irrefl _)
      · exact ht2
    · rcases List.mem_cons.1 ((h t).2 (List.mem_cons_of_mem _ ht)) with e | ht2
      · exact absurd (k1 t ht) (e ▸ nlt_irrefl _)
      · exact ht2
/-- A list with one more text, in its place. -/
def tWith : List (List Nat) → List Nat → List (List Nat)
  | [], x => [x]
  | y :: l, x => if x < y then x :: y :: l else y :: tWith l x
theorem mem_with : ∀ (l : List (List Nat)) (x t : List Nat), t ∈ tWith l x ↔ t = x ∨ t ∈ l
  | [], x, t => by simp [tWith]
  | y :: l, x, t => by
    unfold tWith
    split
    · simp
    · rw [List.mem_cons, mem_with l x t, List.mem_cons]
      constructor
      · rintro (h | h | h)
        · exact .inr (.inl h)
        · exact .inl h
        · exact .inr (.inr h)
      · rintro (h | h | h)
        · exact .inr (.inl h)
        · exact .inl h
        · exact .inr (.inr h)
theorem up_with : ∀ {l : List (List Nat)} {x : List Nat}, Up l → x ∉ l → Up (tWith l x)
  | [], x, _, _ => List.pairwise_singleton _ _
  | y :: l, x, h, hx => by
    obtain ⟨h1, h2⟩ := List.pairwise_cons.1 h
    have hxy : x ≠ y := fun e => hx (by rw [e]; exact List.mem_cons_self)
    have hxl : x ∉ l := fun e => hx (List.mem_cons_of_mem _ e)
    unfold tWith
    split
    · rename_i hlt
      exact List.pairwise_cons.2 ⟨fun t ht => by
        rcases List.mem_cons.1 ht with rfl | ht
        · exact hlt
        · exact nlt_trans hlt (h1 t ht), h⟩
    · rename_i hlt
      exact List.pairwise_cons.2 ⟨fun t ht => by
        rcases (mem_with l x t).1 ht with rfl | ht
        · exact nlt_total hlt hxy
        · exact h1 t ht, up_with h2 hxl⟩
theorem with_length : ∀ (l : List (List Nat)) (x : List Nat), (tWith l x).length = l.length + 1
  | [], x => rfl
  | y :: l, x => by
    unfold tWith
    split
    · rfl
    · rw [List.length_cons, with_length l x, List.length_cons]
/-- A path is put into a list, and what is wrong. -/
def tIns (l : List (List Nat)) (x : List Nat) : List (List Nat) × Int :=
  if tRight x = true then (if x ∈ l then (l, 5) else if 64 ≤ l.length then (l, 11) else (tWith l x, 0)) else (l, 13)
def tDrop (l : List (List Nat)) (x : List Nat) : List (List Nat) × Int :=
  if tRight x = true then (if x ∈ l then (l.filter (fun t => decide (t ≠ x)), 0) else (l, 15)) else (l, 13)
/-- A list that rises, of at most 64 paths. -/
structure Pl (l : List (List Nat)) : Prop where
  up : Up l
  ri : ∀ t ∈ l, tRight t = true
  le : l.length ≤ 64
theorem pl_nil : Pl [] := ⟨up_nil, fun _ h => absurd h (by simp), by simp⟩
theorem Pl.ins {l : List (List Nat)} (h : Pl l) (x : List Nat) : Pl (tIns l x).1 := by
  unfold tIns
  split
  · rename_i hr
    split
    · exact h
    · rename_i hx
      split
      · exact h
      · exact ⟨up_with h.up hx, fun t ht => by
          rcases (mem_with l x t).1 ht with rfl | ht
          · exact hr
          · exact h.ri t ht, by rw [with_length]; omega⟩
  · exact h
theorem Pl.drop {l : List (List Nat)} (h : Pl l) (x : List Nat) : Pl (tDrop l x).1 := by
  unfold tDrop
  split
  · split
    · exact ⟨h.up.filter _, fun t ht => h.ri t (List.mem_filter.1 ht).1, Nat.le_trans (List.length_filter_le _ _) h.le⟩
    · exact h
  · exact h
/-- Rows of names that are paths' ones. -/
theorem sof_names {l : List (List Nat)} (h : ∀ t ∈ l, tRight t = true) {s : List (List Nat)} (hs : Sof l s = true) : s ≠ [] ∧ s.length ≤ 8 ∧ (∀ n ∈ s, tName n = true) ∧ tJoin s ∈ l ∧ tCut (tJoin s) 8 = s := by
  obtain ⟨t, ht, e⟩ := sof_iff.1 hs
  obtain ⟨a, b⟩ := tRight_names (h t ht)
  subst e
  exact ⟨tCut_ne _ _, a, b, by rw [tJoin_cut]; exact ht, by rw [tJoin_cut]⟩
end Go.Proofs.YtbfbjalnahngjaaGreatDoor
namespace Go.Proofs.YtbfbjalnahngjaaGreatDoor
open Go.RowKit Go.Maps Go.WideMaps GR
/-- How a pointer to a block reads. -/
def ptrElem : Value → Option (DataW Unit × List MemPlace)
  | .pointer none => some (.nil, [])
  | .pointer (some ⟨b, 0, none⟩) => some (.lit (.int .i64 (b : Int)), [])
  | _ => none
def blk (b : Nat) : DataW Unit := .lit (.int .i64 (b : Int))
theorem ptrElem_nil : ptrElem (.pointer none) = some (.nil, []) := rfl
theorem ptrElem_mk (b : Nat) : ptrElem (.pointer (some ⟨b, 0, none⟩)) = some (blk b, []) := rfl
theorem ptrElem_inv {v : Value} {y : DataW Unit × List MemPlace} (h : ptrElem v = some y) : ∃ A, v = .pointer A ∧ ((A = none ∧ y.1 = .nil) ∨ ∃ b, A = some ⟨b, 0, none⟩ ∧ y.1 = blk b) := by
  unfold ptrElem at h
  split at h
  · obtain rfl := Option.some.inj h
    exact ⟨none, rfl, .inl ⟨rfl, rfl⟩⟩
  · rename_i b
    obtain rfl := Option.some.inj h
    exact ⟨_, rfl, .inr ⟨b, rfl, rfl⟩⟩
  · cases h
theorem blk_inj {b c : Nat} (h : blk b = blk c) : b = c := by
  unfold blk at h
  injection h with h
  injection h with _ h
  omega
theorem blk_nil {b : Nat} : blk b ≠ .nil := fun h => by cases h
/-- A name as a map's key. -/
def klOf (n : List Nat) : Lit := .string (n.map UInt8.ofNat)
theorem klOf_str (n : List Nat) : klOf n = .string (str n).data.toList := by simp [klOf, str]
theorem klOf_bs (X : ByteArray) : klOf (bs X) = .string X.data.toList := by rw [klOf_str, str_bs]
theorem klOf_inj {n m : List Nat} (hn : ∀ c ∈ n, c < 256) (hm : ∀ c ∈ m, c < 256) (h : klOf n = klOf m) : n = m := by
  rw [klOf_str, klOf_str] at h
  injection h with h
  have e : str n = str m := by
    have : (str n).data = (str m).data := Array.toList_inj.1 h
    cases hn2 : str n with | mk a => cases hm2 : str m with | mk b => rw [hn2, hm2] at this; simp at this; rw [this]
  rw [← bs_str hn, ← bs_str hm, e]
theorem tName_bytes {n : List Nat} (h : tName n = true) : (∀ c ∈ n, c < 256) ∧ n ≠ [] ∧ n.length ≤ 32 := by
  have hl : n.length ≤ 32 := by
    unfold tName at h
    rw [Bool.and_eq_true, decide_eq_true_eq] at h
    exact h.2
  unfold tName gPlain at h
  rw [Bool.and_eq_true, Bool.and_eq_true, List.all_eq_true] at h
  refine ⟨fun c hc => ?_, fun e => ?_, hl⟩
  · have := h.1.2 c hc
    unfold isB at this
    simp at this
    omega
  · rw [e] at h
    simp at h
/-- A node's two cells. -/
structure NdC (w : World) (b : Nat) (lf : Bool) (mv : Option Nat) : Prop where
  c0 : w.cell? ⟨b, 0, none⟩ = some (.bool lf)
  c1 : w.cell? ⟨b, 1, none⟩ = some (.map mv)
  f0 : w.frozen? ⟨b, 0, none⟩ = false
  f1 : w.frozen? ⟨b, 1, none⟩ = false
theorem NdC.same {w w' : World} {b : Nat} {lf : Bool} {mv : Option Nat} (h : NdC w b lf mv) (e : w'.heap[b]? = w.heap[b]?) : NdC w' b lf mv :=
  ⟨(World.cell?_of_block (w := w) e).trans h.c0, (World.cell?_of_block (w := w) e).trans h.c1, (World.frozen?_of_block (w := w) e).trans h.f0, (World.frozen?_of_block (w := w) e).trans h.f1⟩
theorem NdC.lt {w : World} {b : Nat} {lf : Bool} {mv : Option Nat} (h : NdC w b lf mv) : b < w.heap.size := by
  have := h.c0
  rcases Nat.lt_or_ge b w.heap.size with e | e
  · exact e
  · simp [World.cell?, Array.getElem?_eq_none e] at this
theorem own_same {w w' : World} {m N : Nat} {D : DataW Unit} (h : w.ownsMap Tryz.prog 9 ptrElem m N D) (e : w'.heap[m]? = w.heap[m]?) : w'.ownsMap Tryz.prog 9 ptrElem m N D := by
  obtain ⟨es, clock, hb, r⟩ := h
  exact ⟨es, clock, e.trans hb, r⟩
abbrev Pset := List (List Nat) → Bool
/-- What hangs beneath a node, in the map of block m; one of the names may be left out. -/
structure Kids (C : Nat → (Nat → Prop) → Pset → Prop) (N : Nat) (w : World) (b m : Nat) (F : Nat → Prop) (S : Pset) (D : DataW Unit) (Fs : List Nat → Nat → Prop) : Prop where
  own : w.ownsMap Tryz.prog 9 ptrElem m N D
  ne : m ≠ b
  fb : F b
  fm : F m
  keys : ∀ kl, has D kl = true → ∃ n, kl = klOf n ∧ Some_ (tAt S n)
  kid : ∀ n, Some_ (tAt S n) → tName n = true ∧ ∃ c, (∀ z, D.atKey (klOf n) z = blk c) ∧ C c (Fs n) (tAt S n)
  sub : ∀ n x, Fs n x → F x ∧ x ≠ b ∧ x ≠ m
  off : ∀ n n' x, n ≠ n' → Fs n x → ¬ Fs n' x
def NdG (C : Nat → (Nat → Prop) → Pset → Prop) (N : Nat) (w : World) (b : Nat) (F : Nat → Prop) (S : Pset) : Prop :=
  ∃ mv, NdC w b (S []) mv ∧ F b ∧ ((mv = none ∧ ∀ n, ¬ Some_ (tAt S n)) ∨ ∃ m D Fs, mv = some m ∧ Kids C N w b m F S D Fs)
/-- A tree at block b, in the blocks of F: what is held from here on are the rows of S; d names deep at most, each map of N entries at most. -/
def NdAt (N : Nat) (w : World) : Nat → Nat → (Nat → Prop) → Pset → Prop
  | 0 => NdG (fun _ _ _ => False) N w
  | d + 1 => NdG (NdAt N w d) N w
/-- What a depth's kids are. -/
def KidAt (N : Nat) (w : World) : Nat → Nat → (Nat → Prop) → Pset → Prop
  | 0 => fun _ _ _ => False
  | d + 1 => NdAt N w d
theorem ndAt_eq (N : Nat) (w : World) (d : Nat) : NdAt N w d = NdG (KidAt N w d) N w := by cases d <;> rfl
theorem NdG.mono {C C' : Nat → (Nat → Prop) → Pset → Prop} {N N' : Nat} {w w' : World} {b : Nat} {F : Nat → Prop} {S : Pset} (h : NdG C N w b F S) (hN : N ≤ N') (hF : ∀ x, F x → w'.heap[x]? = w.heap[x]?) (hC : ∀ c G T, (∀ x, G x → F x) → C c G T → C' c G T) : NdG C' N' w' b F S := by
  obtain ⟨mv, hc, hb, hk⟩ := h
  refine ⟨mv, hc.same (hF b hb), hb, ?_⟩
  rcases hk with hk | ⟨m, D, Fs, e, K⟩
  · exact .inl hk
  · exact .inr ⟨m, D, Fs, e, (own_same K.own (hF m K.fm)).mono hN, K.ne, K.fb, K.fm, K.keys, fun n hn => by
      obtain ⟨a, c, a1, a2⟩ := K.kid n hn
      exact ⟨a, c, a1, hC c _ _ (fun x hx => (K.sub n x hx).1) a2⟩, K.sub, K.off⟩
/-- A tree stands while its blocks stand. -/
theorem NdAt.keep : ∀ {d N N' : Nat} {w w' : World} {b : Nat} {F : Nat → Prop} {S : Pset}, NdAt N w d b F S → N ≤ N' → (∀ x, F x → w'.heap[x]? = w.heap[x]?) → NdAt N' w' d b F S
  | 0, _, _, _, _, _, _, _, h, hN, hF => NdG.mono h hN hF fun _ _ _ _ h => h
  | d + 1, _, _, _, _, _, _, _, h, hN, hF => NdG.mono h hN hF fun c G T hG hc => NdAt.keep hc hN (fun x hx => hF x (hG x hx))
/-- .. in more blocks. -/
theorem NdAt.more {d N : Nat} {w : World} {b : Nat} {F F' : Nat → Prop} {S : Pset} (h : NdAt N w d b F S) (hF : ∀ x, F x → F' x) : NdAt N w d b F' S := by
  rw [ndAt_eq] at h ⊢
  obtain ⟨mv, hc, hb, hk⟩ := h
  refine ⟨mv, hc, hF b hb, ?_⟩
  rcases hk with hk | ⟨m, D, Fs, e, K⟩
  · exact .inl hk
  · exact .inr ⟨m, D, Fs, e, K.own, K.ne, hF b K.fb, hF m K.fm, K.keys, K.kid, fun n x hx => ⟨hF x (K.sub n x hx).1, (K.sub n x hx).2⟩, K.off⟩
/-- .. in those alone that are there. -/
theorem NdAt.cut : ∀ {d N : Nat} {w : World} {b : Nat} {F : Nat → Prop} {S : Pset}, NdAt N w d b F S → NdAt N w d b (fun x => F x ∧ x < w.heap.size) S
  | d, N, w, b, F, S, h => by
    rw [ndAt_eq] at h ⊢
    obtain ⟨mv, hc, hb, hk⟩ := h
    refine ⟨mv, hc, ⟨hb, hc.lt⟩, ?_⟩
    rcases hk with hk | ⟨m, D, Fs, e, K⟩
    · exact .inl hk
    · refine .inr ⟨m, D, fun n x => Fs n x ∧ x < w.heap.size, e, K.own, K.ne, ⟨hb, hc.lt⟩, ⟨K.fm, K.own.lt⟩, K.keys, fun n hn => ?_, fun n x hx => ⟨⟨(K.sub n x hx.1).1, hx.2⟩, (K.sub n x hx.1).2⟩, fun n n' x hne hx hx' => K.off n n' x hne hx.1 hx'.1⟩
      obtain ⟨a, c, a1, a2⟩ := K.kid n hn
      refine ⟨a, c, a1, ?_⟩
      cases d with
      | zero => exact a2
      | succ d => exact NdAt.cut (d := d) a2
theorem NdAt.cells {d N : Nat} {w : World} {b : Nat} {F : Nat → Prop} {S : Pset} (h : NdAt N w d b F S) : ∃ mv, NdC w b (S []) mv := by
  rw [ndAt_eq] at h
  obtain ⟨mv, hc, _⟩ := h
  exact ⟨mv, hc⟩
theorem NdAt.fb {d N : Nat} {w : World} {b : Nat} {F : Nat → Prop} {S : Pset} (h : NdAt N w d b F S) : F b := by
  rw [ndAt_eq] at h
  obtain ⟨mv, _, hb, _⟩ := h
  exact hb
/-- A node with nothing in it. -/
theorem NdAt.empty {d N : Nat} {w : World} {b : Nat} {F : Nat → Prop} (hc : NdC w b false none) (hb : F b) : NdAt N w d b F tNone := by
  rw [ndAt_eq]
  exact ⟨none, hc, hb, .inl ⟨rfl, fun n h => some_none h⟩⟩
/-- How deep. -/
theorem NdAt.deep : ∀ {d N : Nat} {w : World} {b : Nat} {F : Nat → Prop} {S : Pset}, NdAt N w d b F S → ∀ s, S s = true → s.length ≤ d ∧ ∀ n ∈ s, tName n = true
  | d, N, w, b, F, S, h, [], hs => ⟨Nat.zero_le _, fun _ h => absurd h (by simp)⟩
  | d, N, w, b, F, S, h, n :: s, hs => by
    rw [ndAt_eq] at h
    obtain ⟨mv, hc, hb, hk⟩ := h
    rcases hk with hk | ⟨m, D, Fs, e, K⟩
    · exact absurd (some_at hs) (hk.2 n)
    · obtain ⟨a, c, a1, a2⟩ := K.kid n (some_at hs)
      cases d with
      | zero => exact absurd a2 id
      | succ d =>
        have ih := NdAt.deep (d := d) a2 s hs
        exact ⟨by rw [List.length_cons]; omega, fun x hx => by
          rcases List.mem_cons.1 hx with rfl | hx
          · exact a
          · exact ih.2 x hx⟩
/-! ### The map's operations -/
theorem lawS : Keyed Tryz.prog 9 := string_keyed Tryz.underlying9
theorem zeroPtr (w : World) : (zeroValue 59).run Tryz.prog w = .ok (.pointer none) w := by kernel_rfl
theorem keyS {X : ByteArray} (h : X.size ≤ 100000) : keyOf Tryz.prog 9 (.string X) = some (klOf (bs X)) := by
  rw [klOf_bs]
  exact keyOf_string_mk Tryz.underlying9 (by unfold maxLen; omega)
/-- What a look-up finds. -/
theorem look_own {w : World} {m N : Nat} {D : DataW Unit} (h : w.ownsMap Tryz.prog 9 ptrElem m N D) {X : ByteArray} (hX : X.size ≤ 100000) :
    ∃ A, (Instr.lookup 54 (.map (some m)) (.string X) false).run Tryz.prog w = .ok (.pointer A) w ∧ ((A = none ∧ D.atKey (klOf (bs X)) .nil = .nil) ∨ ∃ c, A = some ⟨c, 0, none⟩ ∧ D.atKey (klOf (bs X)) .nil = blk c) := by
  obtain ⟨v, ps, hrun, hv⟩ := h.lookup lawS Tryz.underlying54 (zeroPtr w) ptrElem_nil (keyS hX)
  obtain ⟨A, rfl, h2⟩ := ptrElem_inv hv
  exact ⟨A, hrun, h2⟩
theorem look_none (w : World) {X : ByteArray} (hX : X.size ≤ 100000) : (Instr.lookup 54 (.map none) (.string X) false).run Tryz.prog w = .ok (.pointer none) w := by
  have := Maps.look_nil false lawS Tryz.underlying54 (zeroPtr w) (keyS hX)
  simpa using this
/-- No such name: nothing is found. -/
theorem Kids.no {C : Nat → (Nat → Prop) → Pset → Prop} {N : Nat} {w : World} {b m : Nat} {F : Nat → Prop} {S : Pset} {D : DataW Unit} {Fs : List Nat → Nat → Prop} (K : Kids C N w b m F S D Fs) {n : List Nat} (hn : ∀ c ∈ n, c < 256) (h : ¬ Some_ (tAt S n)) : has D (klOf n) = false := by
  cases e : has D (klOf n) with
  | false => rfl
  | true =>
    obtain ⟨n', e1, e2⟩ := K.keys _ e
    have := klOf_inj hn (tName_bytes (K.kid n' e2).1).1 e1
    subst this
    exact absurd e2 h
/-- A look-up in a node's map. -/
theorem NdAt.look {d N : Nat} {w : World} {b : Nat} {F : Nat → Prop} {S : Pset} (h : NdAt N w d b F S) {X : ByteArray} (hX : X.size ≤ 100000) :
    ∃ mv A, NdC w b (S []) mv ∧ (Instr.lookup 54 (.map mv) (.string X) false).run Tryz.prog w = .ok (.pointer A) w ∧
      ((A = none ∧ ¬ Some_ (tAt S (bs X))) ∨ ∃ c d' G, A = some ⟨c, 0, none⟩ ∧ d = d' + 1 ∧ Some_ (tAt S (bs X)) ∧ NdAt N w d' c G (tAt S (bs X)) ∧ ∀ x, G x → F x) := by
  rw [ndAt_eq] at h
  obtain ⟨mv, hc, hb, hk⟩ := h
  rcases hk with ⟨rfl, hk⟩ | ⟨m, D, Fs, rfl, K⟩
  · exact ⟨none, none, hc, look_none w hX, .inl ⟨rfl, hk _⟩⟩
  · obtain ⟨A, hrun, hA⟩ := look_own K.own hX
    refine ⟨some m, A, hc, hrun, ?_⟩
    rcases Classical.em (Some_ (tAt S (bs X))) with e | e
    · obtain ⟨a, c, a1, a2⟩ := K.kid _ e
      rcases hA with ⟨rfl, hA⟩ | ⟨c', rfl, hA⟩
      · rw [a1] at hA
        exact absurd hA blk_nil
      · rw [a1] at hA
        obtain rfl := blk_inj hA
        cases d with
        | zero => exact absurd a2 id
        | succ d => exact .inr ⟨c, d, _, rfl, rfl, e, a2, fun x hx => (K.sub _ x hx).1⟩
    · have hno := K.no (bs_mem X) e
      rcases hA with ⟨rfl, hA⟩ | ⟨c', rfl, hA⟩
      · exact .inl ⟨rfl, e⟩
      · rw [atKey_of_not_has hno] at hA
        exact absurd hA.symm blk_nil
end Go.Proofs.YtbfbjalnahngjaaGreatDoor
