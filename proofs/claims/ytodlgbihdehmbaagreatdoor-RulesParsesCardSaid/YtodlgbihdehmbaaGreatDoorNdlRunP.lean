/-
  Plain facts on needles (layer 9): searching a text byte by byte, by rows of places among the items. Nothing of the program is imported.
-/
import Derived.Test.YtodlgbihdehmbaaGreatDoorNdlMathP
set_option linter.unusedSimpArgs false
set_option linter.unusedVariables false
namespace Go.Proofs.YtodlgbihdehmbaaGreatDoor.Nd
/-- How many items with a star stand first. -/
def nStars : List NI → Nat
  | [] => 0
  | i :: l => if i.star = true then nStars l + 1 else 0
theorem nStars_le : ∀ l : List NI, nStars l ≤ l.length
  | [] => Nat.le_refl _
  | i :: l => by
    unfold nStars
    have := nStars_le l
    split <;> simp only [List.length_cons] <;> omega
def NI.zero : NI := ⟨0, 0, 0, 0, false⟩
/-- The place up to which items that may go without a byte lead. -/
def ndEnd (is : List NI) (at' : Nat) : Nat := at' + nStars (is.drop at')
theorem ndEnd_ge (is : List NI) (a : Nat) : a ≤ ndEnd is a := Nat.le_add_right _ _
theorem ndEnd_le {is : List NI} {a : Nat} (h : a ≤ is.length) : ndEnd is a ≤ is.length := by
  unfold ndEnd
  have := nStars_le (is.drop a)
  rw [List.length_drop] at this
  omega
theorem ndEnd_star {is : List NI} {a : Nat} (h : a < is.length) (hs : (is.getD a NI.zero).star = true) : ndEnd is a = ndEnd is (a + 1) := by
  unfold ndEnd
  rw [List.drop_eq_getElem_cons h]
  rw [List.getD_eq_getElem?_getD, List.getElem?_eq_getElem h] at hs
  show a + (if (is[a]).star = true then nStars (is.drop (a + 1)) + 1 else 0) = _
  have hs2 : (is[a]).star = true := hs
  rw [if_pos hs2]
  omega
theorem ndEnd_plain {is : List NI} {a : Nat} (h : a < is.length) (hs : (is.getD a NI.zero).star = false) : ndEnd is a = a := by
  unfold ndEnd
  rw [List.drop_eq_getElem_cons h]
  rw [List.getD_eq_getElem?_getD, List.getElem?_eq_getElem h] at hs
  show a + (if (is[a]).star = true then nStars (is.drop (a + 1)) + 1 else 0) = _
  have hs2 : (is[a]).star = false := hs
  rw [if_neg (by rw [hs2]; decide)]
  rfl
theorem ndEnd_last (is : List NI) {a : Nat} (h : is.length ≤ a) : ndEnd is a = a := by
  unfold ndEnd
  rw [List.drop_eq_nil_of_le h]
  rfl
/-- Each place of a run, but its last one, has a star. -/
theorem ndEnd_inner {is : List NI} : ∀ (n a q : Nat), q = a + n → q < ndEnd is a → q < is.length ∧ (is.getD q NI.zero).star = true ∧ ndEnd is q = ndEnd is a
  | 0, a, q, e, h => by
    obtain rfl : q = a := by omega
    have hl : q < is.length := by
      rcases Nat.lt_or_ge q is.length with h2 | h2
      · exact h2
      · rw [ndEnd_last is h2] at h; omega
    refine ⟨hl, ?_, rfl⟩
    cases hs : (is.getD q NI.zero).star with
    | true => rfl
    | false => rw [ndEnd_plain hl hs] at h; omega
  | n + 1, a, q, e, h => by
    have hla : a < is.length := by
      rcases Nat.lt_or_ge a is.length with h2 | h2
      · exact h2
      · rw [ndEnd_last is h2] at h; omega
    cases hs : (is.getD a NI.zero).star with
    | true =>
      have h3 := ndEnd_star hla hs
      rw [h3] at h ⊢
      exact ndEnd_inner n (a + 1) q (by omega) h
    | false => rw [ndEnd_plain hla hs] at h; omega
theorem ndEnd_mid {is : List NI} {a q : Nat} (h1 : a ≤ q) (h2 : q ≤ ndEnd is a) : ndEnd is q = ndEnd is a := by
  rcases Nat.lt_or_ge q (ndEnd is a) with h | h
  · exact (ndEnd_inner (q - a) a q (by omega) h).2.2
  · obtain rfl : q = ndEnd is a := by omega
    rcases Nat.lt_or_ge a (ndEnd is a) with h3 | h3
    · have h4 := ndEnd_inner (is := is) (ndEnd is a - 1 - a) a (ndEnd is a - 1) (by omega) (by omega)
      have h5 := ndEnd_star h4.1 h4.2.1
      rw [h4.2.2, show ndEnd is a - 1 + 1 = ndEnd is a from by omega] at h5
      exact h5.symm
    · have h4 := ndEnd_ge is a
      have h5 : ndEnd is a = a := by omega
      rw [h5, h5]
/-- A row with one more place, and all to which that leads. -/
def ndReach (is : List NI) (row : List Nat) (a : Nat) : List Nat := if row ≠ [] ∧ a ≤ row.getD (row.length - 1) 0 then row else row ++ List.range' a (nStars (is.drop a) + 1)
def ndDest (is : List NI) (a : Nat) : Nat := if (is.getD a NI.zero).star = true then a else a + 1
def ndPut (is : List NI) (b : Nat) (next : List Nat) (a : Nat) : List Nat := if a = is.length ∨ ndFits (is.getD a NI.zero) b = false then next else ndReach is next (ndDest is a)
def ndGo (is : List NI) (b : Nat) (next row : List Nat) : List Nat := row.foldl (ndPut is b) next
def ndThrough (is : List NI) (row : List Nat) : Bool := decide (row ≠ []) && decide (row.getD (row.length - 1) 0 = is.length)
theorem run_mem {is : List NI} {a q : Nat} : q ∈ List.range' a (nStars (is.drop a) + 1) ↔ a ≤ q ∧ q ≤ ndEnd is a := by
  rw [List.mem_range'_1]
  unfold ndEnd
  omega
/-- What a row is while it is made: rising, and of the place that was put in last it has all up to its end. -/
structure RowI (is : List NI) (row : List Nat) (d : Nat) : Prop where
  rise : row.Pairwise (· < ·)
  last : row ≠ [] → ∃ a, a ≤ d ∧ row.getD (row.length - 1) 0 = ndEnd is a ∧ ∀ q, a ≤ q → q ≤ ndEnd is a → q ∈ row
theorem RowI.nil (is : List NI) (d : Nat) : RowI is [] d := ⟨List.Pairwise.nil, fun h => absurd rfl h⟩
theorem RowI.mono {is : List NI} {row : List Nat} {d d' : Nat} (h : RowI is row d) (hd : d ≤ d') : RowI is row d' := ⟨h.rise, fun hn => by
  obtain ⟨a, h1, h2⟩ := h.last hn
  exact ⟨a, Nat.le_trans h1 hd, h2⟩⟩
theorem le_last {row : List Nat} (h : row.Pairwise (· < ·)) {q : Nat} (hq : q ∈ row) : q ≤ row.getD (row.length - 1) 0 := by
  obtain ⟨i, hi, rfl⟩ := List.getElem_of_mem hq
  rw [List.getD_eq_getElem?_getD, List.getElem?_eq_getElem (by omega)]
  show row[i] ≤ row[row.length - 1]
  rcases Nat.lt_or_ge i (row.length - 1) with h2 | h2
  · exact Nat.le_of_lt (List.pairwise_iff_getElem.1 h i (row.length - 1) hi (by omega) h2)
  · have : i = row.length - 1 := by omega
    subst this
    exact Nat.le_refl _
theorem reach_rise {is : List NI} {row : List Nat} {a : Nat} (h : RowI is row a) : RowI is (ndReach is row a) a := by
  unfold ndReach
  split
  · exact h
  · rename_i hc
    refine ⟨?_, fun _ => ⟨a, Nat.le_refl _, ?_, fun q h1 h2 => List.mem_append.2 (.inr (run_mem.2 ⟨h1, h2⟩))⟩⟩
    · rw [List.pairwise_append]
      refine ⟨h.rise, List.pairwise_lt_range', fun x hx y hy => ?_⟩
      have h1 := le_last h.rise hx
      have h2 := (run_mem.1 hy).1
      have h3 : ¬ a ≤ row.getD (row.length - 1) 0 := fun e => hc ⟨List.ne_nil_of_mem hx, e⟩
      omega
    · rw [List.length_append, List.length_range', List.getD_eq_getElem?_getD, List.getElem?_append_right (by omega), List.getElem?_range' (by omega)]
      unfold ndEnd
      show a + _ = _
      omega
theorem reach_mem {is : List NI} {row : List Nat} {a q : Nat} (h : RowI is row a) : q ∈ ndReach is row a ↔ q ∈ row ∨ (a ≤ q ∧ q ≤ ndEnd is a) := by
  unfold ndReach
  split
  · rename_i hc
    constructor
    · exact .inl
    · rintro (h1 | ⟨h1, h2⟩)
      · exact h1
      · obtain ⟨d, h3, h4, h5⟩ := h.last hc.1
        have h6 : a ≤ ndEnd is d := h4 ▸ hc.2
        have h7 := ndEnd_mid h3 h6
        exact h5 q (by omega) (by omega)
  · rw [List.mem_append, run_mem]
/-- Places to which one more byte leads. -/
def Leads (is : List NI) (b : Nat) (row : List Nat) (q : Nat) : Prop := ∃ a ∈ row, a < is.length ∧ ndFits (is.getD a NI.zero) b = true ∧ ndDest is a ≤ q ∧ q ≤ ndEnd is (ndDest is a)
theorem dest_le (is : List NI) (a : Nat) : a ≤ ndDest is a ∧ ndDest is a ≤ a + 1 := by unfold ndDest; split <;> omega
theorem go_mem (is : List NI) (b : Nat) : ∀ (row next : List Nat) (d : Nat), RowI is next d → row.Pairwise (· < ·) → (∀ a ∈ row, a ≤ is.length ∧ d ≤ a) →
    (∃ d', RowI is (ndGo is b next row) d') ∧ ∀ q, q ∈ ndGo is b next row ↔ q ∈ next ∨ Leads is b row q
  | [], next, d, h, _, _ => by
    refine ⟨⟨d, h⟩, fun q => ⟨.inl, ?_⟩⟩
    rintro (h | ⟨a, h, _⟩)
    · exact h
    · cases h
  | a :: row, next, d, h, hr, hb => by
    rw [List.pairwise_cons] at hr
    have hba := hb a List.mem_cons_self
    have hd := dest_le is a
    show (∃ d', RowI is (ndGo is b (ndPut is b next a) row) d') ∧ ∀ q, q ∈ ndGo is b (ndPut is b next a) row ↔ _
    by_cases hc : a = is.length ∨ ndFits (is.getD a NI.zero) b = false
    · have e : ndPut is b next a = next := if_pos hc
      rw [e]
      obtain ⟨h1, h2⟩ := go_mem is b row next d h hr.2 (fun x hx => hb x (List.mem_cons_of_mem _ hx))
      refine ⟨h1, fun q => (h2 q).trans ⟨fun h => h.imp id fun ⟨x, hx, hy⟩ => ⟨x, List.mem_cons_of_mem _ hx, hy⟩, fun h => h.imp id ?_⟩⟩
      rintro ⟨x, hx, h3, h4, hy⟩
      rcases List.mem_cons.1 hx with rfl | hx
      · rcases hc with hc | hc
        · omega
        · rw [hc] at h4; cases h4
      · exact ⟨x, hx, h3, h4, hy⟩
    · have e : ndPut is b next a = ndReach is next (ndDest is a) := if_neg hc
      rw [e]
      have hj : RowI is next (ndDest is a) := h.mono (by omega)
      obtain ⟨h1, h2⟩ := go_mem is b row (ndReach is next (ndDest is a)) (ndDest is a) (reach_rise hj) hr.2 (fun x hx => ⟨(hb x (List.mem_cons_of_mem _ hx)).1, by have := hr.1 x hx; omega⟩)
      refine ⟨h1, fun q => (h2 q).trans ?_⟩
      rw [reach_mem hj]
      have hlt : a < is.length := by
        rcases Nat.lt_or_ge a is.length with h | h
        · exact h
        · exact absurd (.inl (by omega)) hc
      have hf : ndFits (is.getD a NI.zero) b = true := by
        cases hf : ndFits (is.getD a NI.zero) b with
        | true => rfl
        | false => exact absurd (.inr hf) hc
      constructor
      · rintro ((h | ⟨h3, h4⟩) | ⟨x, hx, hy⟩)
        · exact .inl h
        · exact .inr ⟨a, List.mem_cons_self, hlt, hf, h3, h4⟩
        · exact .inr ⟨x, List.mem_cons_of_mem _ hx, hy⟩
      · rintro (h | ⟨x, hx, h3, h4, h5, h6⟩)
        · exact .inl (.inl h)
        · rcases List.mem_cons.1 hx with rfl | hx
          · exact .inl (.inr ⟨h5, h6⟩)
          · exact .inr ⟨x, hx, h3, h4, h5, h6⟩
/-- The rows, text byte by text byte. -/
def ndRow (is : List NI) (st : Bool) (t : List Nat) : Nat → List Nat
  | 0 => ndReach is [] 0
  | k + 1 => ndGo is (t.getD k 0) (if st = true then [] else ndReach is [] 0) (ndRow is st t k)
def ndV (t : List Nat) (st : Bool) (is : List NI) : Nat → Nat → Bool
  | 0 => ndE0 st
  | p + 1 => ndStep t (is.getD p NI.zero) (ndV t st is p)
theorem ndEnds_snoc (t : List Nat) : ∀ (l : List NI) (i : NI) (E : Nat → Bool), ndEnds t E (l ++ [i]) = ndStep t i (ndEnds t E l)
  | [], i, E => rfl
  | x :: l, i, E => ndEnds_snoc t l i (ndStep t x E)
theorem ndV_is (t : List Nat) (st : Bool) (is : List NI) : ∀ p, p ≤ is.length → ndEnds t (ndE0 st) (is.take p) = ndV t st is p
  | 0, _ => by rw [List.take_zero]; rfl
  | p + 1, h => by
    have e : is.take (p + 1) = is.take p ++ [is.getD p NI.zero] := by
      rw [List.take_add_one, List.getD_eq_getElem?_getD, List.getElem?_eq_getElem (by omega)]
      rfl
    rw [e, ndEnds_snoc, ndV_is t st is p (by omega)]
    rfl
/-- What a row holds: behind a star's item, if one stands there, else here. -/
def ndR (t : List Nat) (st : Bool) (is : List NI) (k q : Nat) : Bool := if q < is.length ∧ (is.getD q NI.zero).star = true then ndV t st is (q + 1) k else ndV t st is q k
theorem V_star {t : List Nat} {st : Bool} {is : List NI} {p : Nat} (hs : (is.getD p NI.zero).star = true) : ∀ {k : Nat}, ndV t st is p k = true → ndV t st is (p + 1) k = true
  | 0, h => by
    show ((is.getD p NI.zero).star && ndV t st is p 0) = true
    rw [hs, h]; rfl
  | k + 1, h => by
    show (if (is.getD p NI.zero).star = true then ndV t st is p (k + 1) || _ else _) = true
    rw [if_pos hs, h]; rfl
theorem V_succ {t : List Nat} {st : Bool} {is : List NI} {p k : Nat} : ndV t st is (p + 1) (k + 1) = if (is.getD p NI.zero).star = true then ndV t st is p (k + 1) || (ndV t st is (p + 1) k && ndFits (is.getD p NI.zero) (t.getD k 0)) else ndV t st is p k && ndFits (is.getD p NI.zero) (t.getD k 0) := rfl
theorem R_of_V {t : List Nat} {st : Bool} {is : List NI} {k q : Nat} (h : ndV t st is q k = true) : ndR t st is k q = true := by
  unfold ndR
  split
  · rename_i hc; exact V_star hc.2 h
  · exact h
theorem R_star {t : List Nat} {st : Bool} {is : List NI} {k q : Nat} (hl : q < is.length) (hs : (is.getD q NI.zero).star = true) (h : ndR t st is k q = true) : ndR t st is k (q + 1) = true := by
  unfold ndR at h
  rw [if_pos ⟨hl, hs⟩] at h
  exact R_of_V h
theorem R_run {t : List Nat} {st : Bool} {is : List NI} {k d : Nat} (h : ndR t st is k d = true) : ∀ (n q : Nat), q = d + n → q ≤ ndEnd is d → ndR t st is k q = true
  | 0, q, e, _ => by obtain rfl : q = d := by omega
                     exact h
  | n + 1, q, e, hq => by
    have h1 := ndEnd_inner (is := is) n d (d + n) rfl (by omega)
    have h2 := R_run h n (d + n) rfl (by omega)
    have h3 := R_star h1.1 h1.2.1 h2
    rw [e]; exact h3
/-- Sound: where a byte leads. -/
theorem R_lead {t : List Nat} {st : Bool} {is : List NI} {k a : Nat} (hl : a < is.length) (hR : ndR t st is k a = true) (hf : ndFits (is.getD a NI.zero) (t.getD k 0) = true) : ndR t st is (k + 1) (ndDest is a) = true := by
  unfold ndDest
  cases hs : (is.getD a NI.zero).star with
  | true =>
    rw [if_pos rfl]
    unfold ndR at hR ⊢
    rw [if_pos ⟨hl, hs⟩] at hR ⊢
    rw [V_succ, if_pos hs, hR, hf]
    simp
  | false =>
    rw [if_neg (by decide)]
    unfold ndR at hR
    rw [if_neg (by rw [hs]; simp)] at hR
    apply R_of_V
    rw [V_succ, if_neg (by rw [hs]; decide), hR, hf]
    rfl
theorem V_zero (t : List Nat) (st : Bool) (is : List NI) : ∀ p, p ≤ is.length → (ndV t st is p 0 = true ↔ p ≤ ndEnd is 0)
  | 0, _ => by
    show ndE0 st 0 = true ↔ _
    unfold ndE0
    simp
  | p + 1, h => by
    have ih := V_zero t st is p (by omega)
    show ((is.getD p NI.zero).star && ndV t st is p 0) = true ↔ _
    rw [Bool.and_eq_true, ih]
    constructor
    · rintro ⟨h1, h2⟩
      have h3 := ndEnd_mid (Nat.zero_le p) h2
      have h4 := ndEnd_star (by omega) h1
      have h5 := ndEnd_ge is (p + 1)
      omega
    · intro h1
      have h2 := ndEnd_inner (is := is) p 0 p (by omega) (by omega)
      exact ⟨h2.2.1, by omega⟩
/-- What a row holds, by the table; the first one. -/
theorem R_zero (t : List Nat) (st : Bool) (is : List NI) {q : Nat} (h : q ≤ is.length) : ndR t st is 0 q = true ↔ q ≤ ndEnd is 0 := by
  unfold ndR
  split
  · rename_i hc
    rw [V_zero t st is (q + 1) (by omega)]
    constructor
    · intro h; omega
    · intro h1
      have h3 := ndEnd_mid (Nat.zero_le q) h1
      have h4 := ndEnd_star hc.1 hc.2
      have h5 := ndEnd_ge is (q + 1)
      omega
  · exact V_zero t st is q h
theorem row_first {is : List NI} {q : Nat} : q ∈ ndReach is [] 0 ↔ q ≤ ndEnd is 0 := by
  rw [reach_mem (RowI.nil is 0)]
  constructor
  · rintro (h | h)
    · cases h
    · exact h.2
  · intro h
    exact .inr ⟨Nat.zero_le _, h⟩
/-- Complete: what the table holds a byte later is led to. -/
theorem V_made {t : List Nat} {st : Bool} {is : List NI} {k : Nat} {row : List Nat} (hrow : ∀ q, q ∈ row ↔ q ≤ is.length ∧ ndR t st is k q = true) :
    ∀ p, p ≤ is.length → ndV t st is p (k + 1) = true → (st = false ∧ p ≤ ndEnd is 0) ∨ Leads is (t.getD k 0) row p
  | 0, hp, h => by
    left
    have h2 : ndE0 st (k + 1) = true := h
    unfold ndE0 at h2
    refine ⟨?_, Nat.zero_le _⟩
    simpa using h2
  | p + 1, hp, h => by
    rw [V_succ] at h
    cases hs : (is.getD p NI.zero).star with
    | true =>
      rw [if_pos hs, Bool.or_eq_true, Bool.and_eq_true] at h
      have h9 := ndEnd_star (show p < is.length by omega) hs
      rcases h with h | ⟨h1, h2⟩
      · rcases V_made hrow p (by omega) h with ⟨h3, h4⟩ | ⟨a, h3, h4, h5, h6, h7⟩
        · left
          have h8 := ndEnd_mid (Nat.zero_le p) h4
          have := ndEnd_ge is (p + 1)
          exact ⟨h3, by omega⟩
        · right
          have h8 := ndEnd_mid h6 h7
          have := ndEnd_ge is (p + 1)
          exact ⟨a, h3, h4, h5, by omega, by omega⟩
      · right
        have hd : ndDest is p = p := if_pos hs
        have := ndEnd_ge is (p + 1)
        refine ⟨p, (hrow p).2 ⟨by omega, ?_⟩, by omega, h2, by omega, by rw [hd]; omega⟩
        unfold ndR
        rw [if_pos ⟨by omega, hs⟩]
        exact h1
    | false =>
      rw [if_neg (by rw [hs]; decide), Bool.and_eq_true] at h
      right
      have hd : ndDest is p = p + 1 := if_neg (by rw [hs]; decide)
      refine ⟨p, (hrow p).2 ⟨by omega, R_of_V h.1⟩, by omega, h.2, by omega, ?_⟩
      rw [hd]
      exact ndEnd_ge is (p + 1)
theorem R_made {t : List Nat} {st : Bool} {is : List NI} {k : Nat} {row : List Nat} (hrow : ∀ q, q ∈ row ↔ q ≤ is.length ∧ ndR t st is k q = true) {q : Nat} (hq : q ≤ is.length) (h : ndR t st is (k + 1) q = true) :
    (st = false ∧ q ≤ ndEnd is 0) ∨ Leads is (t.getD k 0) row q := by
  by_cases hc : q < is.length ∧ (is.getD q NI.zero).star = true
  · unfold ndR at h
    rw [if_pos hc, V_succ, if_pos hc.2, Bool.or_eq_true, Bool.and_eq_true] at h
    rcases h with h | ⟨h1, h2⟩
    · exact V_made hrow q hq h
    · right
      have hd : ndDest is q = q := if_pos hc.2
      refine ⟨q, (hrow q).2 ⟨hq, ?_⟩, hc.1, h2, by omega, by rw [hd]; exact ndEnd_ge is q⟩
      unfold ndR
      rw [if_pos hc]
      exact h1
  · unfold ndR at h
    rw [if_neg hc] at h
    exact V_made hrow q hq h
/-- What the rows hold. -/
theorem ndRow_is (is : List NI) (st : Bool) (t : List Nat) : ∀ k, (ndRow is st t k).Pairwise (· < ·) ∧ ∀ q, q ∈ ndRow is st t k ↔ q ≤ is.length ∧ ndR t st is k q = true
  | 0 => by
    refine ⟨(reach_rise (RowI.nil is 0)).rise, fun q => ?_⟩
    show q ∈ ndReach is [] 0 ↔ _
    rw [row_first]
    have h9 := ndEnd_le (Nat.zero_le is.length)
    constructor
    · intro h
      exact ⟨by omega, (R_zero t st is (by omega)).2 h⟩
    · rintro ⟨h1, h2⟩
      exact (R_zero t st is h1).1 h2
  | k + 1 => by
    obtain ⟨h1, h2⟩ := ndRow_is is st t k
    have hI : RowI is (if st = true then [] else ndReach is [] 0) 0 := by
      split
      · exact RowI.nil is 0
      · exact reach_rise (RowI.nil is 0)
    obtain ⟨⟨d, h3⟩, h4⟩ := go_mem is (t.getD k 0) (ndRow is st t k) _ 0 hI h1 (fun a ha => ⟨((h2 a).1 ha).1, Nat.zero_le _⟩)
    refine ⟨h3.rise, fun q => (h4 q).trans ?_⟩
    have h9 := ndEnd_le (Nat.zero_le is.length)
    constructor
    · rintro (h | ⟨a, h5, h6, h7, h8, h10⟩)
      · cases st with
        | true => rw [if_pos rfl] at h; cases h
        | false =>
          rw [if_neg (by decide)] at h
          have h5 := row_first.1 h
          refine ⟨by omega, R_run (d := 0) (R_of_V ?_) q q (by omega) h5⟩
          rfl
      · have h11 := R_lead h6 ((h2 a).1 h5).2 h7
        have h12 := dest_le is a
        have h13 := ndEnd_le (is := is) (a := ndDest is a) (by omega)
        exact ⟨by omega, R_run h11 (q - ndDest is a) q (by omega) h10⟩
    · rintro ⟨h5, h6⟩
      rcases R_made h2 h5 h6 with ⟨h7, h8⟩ | h7
      · left
        rw [h7, if_neg (by decide)]
        exact row_first.2 h8
      · exact .inr h7
theorem ndRow_le {is : List NI} {st : Bool} {t : List Nat} {k q : Nat} (h : q ∈ ndRow is st t k) : q ≤ is.length := ((ndRow_is is st t k).2 q |>.1 h).1
/-- A row of rising places up to all items' end is no longer than these. -/
theorem rise_length {m : Nat} : ∀ (l : List Nat) (d : Nat), l.Pairwise (· < ·) → (∀ q ∈ l, d ≤ q ∧ q ≤ m) → l.length + d ≤ m + 1 ∨ l = []
  | [], d, _, _ => .inr rfl
  | a :: l, d, h, hq => by
    rw [List.pairwise_cons] at h
    have ha := hq a List.mem_cons_self
    left
    rcases rise_length l (a + 1) h.2 (fun q hq2 => ⟨h.1 q hq2, (hq q (List.mem_cons_of_mem _ hq2)).2⟩) with h2 | rfl
    · simp only [List.length_cons]; omega
    · simp only [List.length_cons, List.length_nil]; omega
theorem ndThrough_is {is : List NI} {row : List Nat} (h : row.Pairwise (· < ·)) (hb : ∀ q ∈ row, q ≤ is.length) : ndThrough is row = true ↔ is.length ∈ row := by
  unfold ndThrough
  rw [Bool.and_eq_true, decide_eq_true_eq, decide_eq_true_eq]
  have hm : row ≠ [] → row.getD (row.length - 1) 0 ∈ row := fun hn => by
    have := List.length_pos_iff.2 hn
    rw [List.getD_eq_getElem?_getD, List.getElem?_eq_getElem (by omega)]
    exact List.getElem_mem _
  constructor
  · rintro ⟨h1, h2⟩
    rw [← h2]
    exact hm h1
  · intro h1
    have hn : row ≠ [] := fun e => by rw [e] at h1; cases h1
    exact ⟨hn, Nat.le_antisymm (hb _ (hm hn)) (le_last h h1)⟩
/-- Through all items, behind k bytes: as by the table. -/
theorem through_row (is : List NI) (st : Bool) (t : List Nat) (k : Nat) : ndThrough is (ndRow is st t k) = ndEnds t (ndE0 st) is k := by
  have h := ndRow_is is st t k
  rw [Bool.eq_iff_iff, ndThrough_is h.1 (fun q hq => ndRow_le hq), h.2]
  have e := ndV_is t st is is.length (Nat.le_refl _)
  rw [List.take_length] at e
  rw [e]
  unfold ndR
  rw [if_neg (by omega)]
  exact ⟨fun h => h.2, fun h => ⟨Nat.le_refl _, h⟩⟩
end Go.Proofs.YtodlgbihdehmbaaGreatDoor.Nd
