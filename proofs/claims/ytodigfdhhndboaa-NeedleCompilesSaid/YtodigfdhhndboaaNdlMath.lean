/-
  Plain facts on needles (layer 9): compiled patterns, where they are found. Nothing of the program is imported.
-/
import Derived.Lib.Hide
set_option linter.unusedSimpArgs false
set_option linter.unusedVariables false
namespace Go.Proofs.Ytodigfdhhndboaa
/-- An item: the four words of its set, and whether a star stands. -/
structure NI where
  s0 : Nat
  s1 : Nat
  s2 : Nat
  s3 : Nat
  star : Bool
deriving DecidableEq
def NI.word (i : NI) (k : Nat) : Nat := if k = 0 then i.s0 else if k = 1 then i.s1 else if k = 2 then i.s2 else i.s3
/-- Whether an item's atom fits a byte. -/
def ndFits (i : NI) (b : Nat) : Bool := (i.word (b / 64)).testBit (b % 64)
structure NN where
  start : Bool
  fin : Bool
  items : List NI
deriving DecidableEq
/-- Of the places where the items so far can end, those with one item more. -/
def ndStep (t : List Nat) (i : NI) (E : Nat → Bool) : Nat → Bool
  | 0 => i.star && E 0
  | k + 1 => if i.star = true then E (k + 1) || (ndStep t i E k && ndFits i (t.getD k 0)) else E k && ndFits i (t.getD k 0)
def ndEnds (t : List Nat) (E : Nat → Bool) : List NI → Nat → Bool
  | [] => E
  | i :: l => ndEnds t (ndStep t i E) l
def ndE0 (st : Bool) (k : Nat) : Bool := !st || decide (k = 0)
def ndFound (n : NN) (t : List Nat) : Bool :=
  if n.fin = true then ndEnds t (ndE0 n.start) n.items t.length else (List.range (t.length + 1)).any (ndEnds t (ndE0 n.start) n.items)
theorem ndFound_fin {n : NN} {t : List Nat} (h : n.fin = true) : ndFound n t = ndEnds t (ndE0 n.start) n.items t.length := if_pos h
theorem ndFound_any {n : NN} {t : List Nat} (h : n.fin = false) : ndFound n t = true ↔ ∃ k, k ≤ t.length ∧ ndEnds t (ndE0 n.start) n.items k = true := by
  unfold ndFound
  rw [if_neg (by rw [h]; decide), List.any_eq_true]
  exact ⟨fun ⟨k, h1, h2⟩ => ⟨k, by have := List.mem_range.1 h1; omega, h2⟩, fun ⟨k, h1, h2⟩ => ⟨k, List.mem_range.2 (by omega), h2⟩⟩
theorem ndFound_some {n : NN} {t : List Nat} (h : ndFound n t = true) : ∃ k, k ≤ t.length ∧ ndEnds t (ndE0 n.start) n.items k = true := by
  cases hf : n.fin with
  | true => exact ⟨t.length, Nat.le_refl _, (ndFound_fin hf).symm.trans h⟩
  | false => exact (ndFound_any hf).1 h
/-! ### What an item takes, in words -/
/-- Bytes that are cut into pieces, one for each item. -/
def ndTakes : List NI → List Nat → Prop
  | [], l => l = []
  | i :: is, l => if i.star = true then ∃ a b, l = a ++ b ∧ (∀ x ∈ a, ndFits i x = true) ∧ ndTakes is b else ∃ x b, l = x :: b ∧ ndFits i x = true ∧ ndTakes is b
/-- The bytes of a text from j to before k. -/
def seg (t : List Nat) (j k : Nat) : List Nat := (t.drop j).take (k - j)
theorem seg_nil (t : List Nat) (k : Nat) : seg t k k = [] := by unfold seg; rw [Nat.sub_self, List.take_zero]
theorem seg_cat {t : List Nat} {a b c : Nat} (h1 : a ≤ b) (h2 : b ≤ c) : seg t a c = seg t a b ++ seg t b c := by
  unfold seg
  have e : c - a = (b - a) + (c - b) := by omega
  rw [e, List.take_add, List.drop_drop, show a + (b - a) = b from by omega]
theorem seg_one {t : List Nat} {k : Nat} (h : k < t.length) : seg t k (k + 1) = [t.getD k 0] := by
  unfold seg
  rw [show k + 1 - k = 1 from by omega, List.drop_eq_getElem_cons h, List.take_succ_cons, List.take_zero, List.getD_eq_getElem?_getD, List.getElem?_eq_getElem h]
  rfl
theorem seg_length {t : List Nat} {a b : Nat} (h2 : b ≤ t.length) : (seg t a b).length = b - a := by
  unfold seg
  rw [List.length_take, List.length_drop]
  omega
theorem seg_snoc {t : List Nat} {j k : Nat} (h : j ≤ k) (hk : k < t.length) : seg t j (k + 1) = seg t j k ++ [t.getD k 0] := by
  rw [seg_cat h (Nat.le_succ k), seg_one hk]
/-- One item: a star's, any number of bytes that it fits; else one. -/
def ndPiece (i : NI) (l : List Nat) : Prop := if i.star = true then ∀ x ∈ l, ndFits i x = true else ∃ x, l = [x] ∧ ndFits i x = true
theorem ndStep_iff (t : List Nat) (i : NI) (E : Nat → Bool) : ∀ (k : Nat), k ≤ t.length → (ndStep t i E k = true ↔ ∃ j, j ≤ k ∧ E j = true ∧ ndPiece i (seg t j k))
  | 0, hk => by
    unfold ndPiece
    show (i.star && E 0) = true ↔ _
    cases hs : i.star with
    | true =>
      simp only [Bool.true_and, if_true]
      exact ⟨fun h => ⟨0, Nat.le_refl _, h, fun x hx => by rw [seg_nil] at hx; cases hx⟩, fun ⟨j, h1, h2, _⟩ => (Nat.le_zero.1 h1) ▸ h2⟩
    | false =>
      simp only [Bool.false_and, Bool.false_eq_true, if_false, false_iff]
      rintro ⟨j, h1, _, x, h3, _⟩
      have := congrArg List.length h3
      rw [seg_length hk] at this
      simp at this
  | k + 1, hk => by
    have ih := ndStep_iff t i E k (by omega)
    unfold ndPiece at ih ⊢
    show (if i.star = true then E (k + 1) || (ndStep t i E k && ndFits i (t.getD k 0)) else E k && ndFits i (t.getD k 0)) = true ↔ _
    cases hs : i.star with
    | true =>
      rw [hs] at ih
      simp only [if_true, Bool.or_eq_true, Bool.and_eq_true] at ih ⊢
      rw [ih]
      constructor
      · rintro (h | ⟨⟨j, h1, h2, h3⟩, h4⟩)
        · exact ⟨k + 1, Nat.le_refl _, h, fun x hx => by rw [seg_nil] at hx; cases hx⟩
        · refine ⟨j, by omega, h2, fun x hx => ?_⟩
          rw [seg_snoc h1 (by omega), List.mem_append] at hx
          rcases hx with hx | hx
          · exact h3 x hx
          · obtain rfl := List.mem_singleton.1 hx
            exact h4
      · rintro ⟨j, h1, h2, h3⟩
        rcases Nat.lt_or_ge k j with h | h
        · obtain rfl : j = k + 1 := by omega
          exact .inl h2
        · rw [seg_snoc h (by omega)] at h3
          exact .inr ⟨⟨j, h, h2, fun x hx => h3 x (List.mem_append.2 (.inl hx))⟩, h3 _ (List.mem_append.2 (.inr (List.mem_singleton.2 rfl)))⟩
    | false =>
      simp only [Bool.false_eq_true, if_false, Bool.and_eq_true]
      constructor
      · rintro ⟨h1, h2⟩
        exact ⟨k, Nat.le_succ k, h1, _, seg_one (by omega), h2⟩
      · rintro ⟨j, h1, h2, x, h3, h4⟩
        have hl := congrArg List.length h3
        rw [seg_length hk] at hl
        obtain rfl : j = k := by
          have h5 : ([x] : List Nat).length = 1 := rfl
          omega
        rw [seg_one (by omega)] at h3
        injection h3 with h3 _
        rw [h3]
        exact ⟨h2, h4⟩
theorem ndTakes_cons (i : NI) (is : List NI) (l : List Nat) : ndTakes (i :: is) l ↔ ∃ a b, l = a ++ b ∧ ndPiece i a ∧ ndTakes is b := by
  unfold ndPiece
  show (if i.star = true then _ else _) ↔ _
  cases hs : i.star with
  | true => simp only [if_true]
  | false =>
    simp only [Bool.false_eq_true, if_false]
    exact ⟨fun ⟨x, b, h1, h2, h3⟩ => ⟨[x], b, h1, ⟨x, rfl, h2⟩, h3⟩, fun ⟨a, b, h1, ⟨x, h2, h4⟩, h3⟩ => ⟨x, b, by rw [h1, h2]; rfl, h4, h3⟩⟩
/-- The ends are those of the parts that are cut into pieces, one for each item. -/
theorem ndEnds_iff (t : List Nat) : ∀ (is : List NI) (E : Nat → Bool) (k : Nat), k ≤ t.length → (ndEnds t E is k = true ↔ ∃ j, j ≤ k ∧ E j = true ∧ ndTakes is (seg t j k))
  | [], E, k, hk => by
    show E k = true ↔ _
    constructor
    · intro h
      exact ⟨k, Nat.le_refl _, h, seg_nil t k⟩
    · rintro ⟨j, h1, h2, h3⟩
      have h4 := congrArg List.length (show seg t j k = [] from h3)
      rw [seg_length hk] at h4
      obtain rfl : j = k := by
        have : ([] : List Nat).length = 0 := rfl
        omega
      exact h2
  | i :: is, E, k, hk => by
    show ndEnds t (ndStep t i E) is k = true ↔ _
    rw [ndEnds_iff t is (ndStep t i E) k hk]
    constructor
    · rintro ⟨j, h1, h2, h3⟩
      obtain ⟨m, h4, h5, h6⟩ := (ndStep_iff t i E j (by omega)).1 h2
      exact ⟨m, by omega, h5, (ndTakes_cons i is _).2 ⟨seg t m j, seg t j k, seg_cat h4 h1, h6, h3⟩⟩
    · rintro ⟨m, h1, h2, h3⟩
      obtain ⟨a, b, h4, h5, h6⟩ := (ndTakes_cons i is _).1 h3
      have hl := congrArg List.length h4
      rw [seg_length hk, List.length_append] at hl
      have e1 : seg t m (m + a.length) = a := by
        have h7 : (seg t m k).take a.length = a := by rw [h4]; exact List.take_left' rfl
        unfold seg at h7 ⊢
        rw [List.take_take, Nat.min_eq_left (by omega)] at h7
        rw [Nat.add_sub_cancel_left]
        exact h7
      have e2 : seg t (m + a.length) k = b := by
        have h7 := seg_cat (t := t) (show m ≤ m + a.length by omega) (show m + a.length ≤ k by omega)
        rw [h4, e1] at h7
        exact (List.append_cancel_left h7).symm
      refine ⟨m + a.length, by omega, (ndStep_iff t i E _ (by omega)).2 ⟨m, by omega, h2, ?_⟩, ?_⟩
      · rw [e1]; exact h5
      · rw [e2]; exact h6
/-- Found, in the document's words. -/
theorem ndFound_iff (n : NN) (t : List Nat) : ndFound n t = true ↔ ∃ j k, j ≤ k ∧ k ≤ t.length ∧ (n.start = true → j = 0) ∧ (n.fin = true → k = t.length) ∧ ndTakes n.items (seg t j k) := by
  have e0 : ∀ j, ndE0 n.start j = true ↔ (n.start = true → j = 0) := fun j => by
    unfold ndE0
    cases n.start <;> simp
  constructor
  · intro h
    cases hf : n.fin with
    | true =>
      rw [ndFound_fin hf, ndEnds_iff t _ _ _ (Nat.le_refl _)] at h
      obtain ⟨j, h1, h2, h3⟩ := h
      exact ⟨j, _, h1, Nat.le_refl _, (e0 j).1 h2, fun _ => rfl, h3⟩
    | false =>
      obtain ⟨k, hk, h⟩ := (ndFound_any hf).1 h
      obtain ⟨j, h1, h2, h3⟩ := (ndEnds_iff t _ _ _ hk).1 h
      exact ⟨j, k, h1, hk, (e0 j).1 h2, fun h => (by cases h), h3⟩
  · rintro ⟨j, k, h1, h2, h3, h4, h5⟩
    have h6 := (ndEnds_iff t n.items (ndE0 n.start) k h2).2 ⟨j, h1, (e0 j).2 h3, h5⟩
    cases hf : n.fin with
    | true =>
      obtain rfl := h4 hf
      exact (ndFound_fin hf).trans h6
    | false => exact (ndFound_any hf).2 ⟨k, h2, h6⟩
/-! ### P9.3 -/
theorem ndTakes_snoc : ∀ (is : List NI) (i : NI) (l : List Nat), ndTakes (is ++ [i]) l → ∃ a b, l = a ++ b ∧ ndTakes is a
  | [], i, l, h => ⟨[], l, rfl, rfl⟩
  | x :: is, i, l, h => by
    obtain ⟨a, b, h1, h2, h3⟩ := (ndTakes_cons x (is ++ [i]) l).1 h
    obtain ⟨c, d, h4, h5⟩ := ndTakes_snoc is i b h3
    exact ⟨a ++ c, d, by rw [h1, h4, List.append_assoc], (ndTakes_cons x is _).2 ⟨a, c, rfl, h2, h5⟩⟩
theorem seg_front {t a b : List Nat} {j k : Nat} (hk : k ≤ t.length) (h : seg t j k = a ++ b) (hj : j ≤ k) : seg t j (j + a.length) = a ∧ j + a.length ≤ k := by
  have hl := congrArg List.length h
  rw [seg_length hk, List.length_append] at hl
  refine ⟨?_, by omega⟩
  have h7 : (seg t j k).take a.length = a := by rw [h]; exact List.take_left' rfl
  unfold seg at h7 ⊢
  rw [List.take_take, Nat.min_eq_left (by omega)] at h7
  rw [Nat.add_sub_cancel_left]
  exact h7
/-- With an item less at its end, and no end. -/
theorem ndFound_less {st fn : Bool} {is : List NI} {i : NI} {t : List Nat} (h : ndFound ⟨st, fn, is ++ [i]⟩ t = true) : ndFound ⟨st, false, is⟩ t = true := by
  obtain ⟨j, k, h1, h2, h3, _, h5⟩ := (ndFound_iff _ _).1 h
  obtain ⟨a, b, h6, h7⟩ := ndTakes_snoc is i _ h5
  obtain ⟨h8, h9⟩ := seg_front h2 h6 h1
  exact (ndFound_iff _ _).2 ⟨j, j + a.length, by omega, by omega, h3, fun h => (by cases h), by rw [h8]; exact h7⟩
theorem seg_more {t m : List Nat} {j k : Nat} (hk : k ≤ t.length) (hj : j ≤ k) : seg (t ++ m) j k = seg t j k := by
  unfold seg
  rw [List.drop_append_of_le_length (by omega), List.take_append_of_le_length (by rw [List.length_drop]; omega)]
/-- In a text with more bytes at its end. -/
theorem ndFound_more {st : Bool} {is : List NI} {t m : List Nat} (h : ndFound ⟨st, false, is⟩ t = true) : ndFound ⟨st, false, is⟩ (t ++ m) = true := by
  obtain ⟨j, k, h1, h2, h3, _, h5⟩ := (ndFound_iff _ _).1 h
  exact (ndFound_iff _ _).2 ⟨j, k, h1, by rw [List.length_append]; omega, h3, fun h => (by cases h), by rw [seg_more h2 h1]; exact h5⟩
/-- One item that takes any number of anything. -/
theorem ndFound_star {st fn : Bool} {i : NI} {t : List Nat} (hs : i.star = true) (h : ∀ x ∈ t, ndFits i x = true) : ndFound ⟨st, fn, [i]⟩ t = true := by
  refine (ndFound_iff _ _).2 ⟨0, t.length, Nat.zero_le _, Nat.le_refl _, fun _ => rfl, fun _ => rfl, (ndTakes_cons _ _ _).2 ⟨t, [], ?_, ?_, rfl⟩⟩
  · rw [List.append_nil]
    unfold seg
    rw [List.drop_zero, Nat.sub_zero, List.take_length]
  · unfold ndPiece
    rw [if_pos hs]
    exact h
/-! ### P9.2 -/
/-- The item of a byte. -/
def ndOne (b : Nat) : NI := ⟨if b / 64 = 0 then 2 ^ (b % 64) else 0, if b / 64 = 1 then 2 ^ (b % 64) else 0, if b / 64 = 2 then 2 ^ (b % 64) else 0, if b / 64 = 3 then 2 ^ (b % 64) else 0, false⟩
theorem ndOne_word (b k : Nat) (hk : k < 4) : (ndOne b).word k = if b / 64 = k then 2 ^ (b % 64) else 0 := by
  unfold NI.word ndOne
  rcases (show k = 0 ∨ k = 1 ∨ k = 2 ∨ k = 3 by omega) with rfl | rfl | rfl | rfl <;> rfl
theorem ndFits_one {b c : Nat} (hc : c < 256) : ndFits (ndOne b) c = decide (b = c) := by
  unfold ndFits
  rw [ndOne_word b _ (by omega)]
  by_cases h : b / 64 = c / 64
  · rw [if_pos h, Nat.testBit_two_pow]
    congr 1
    rw [eq_iff_iff]
    constructor
    · intro h2; omega
    · intro h2; rw [h2]
  · rw [if_neg h, Nat.zero_testBit]
    exact (decide_eq_false (fun e => h (by rw [e]))).symm
theorem ndTakes_ones : ∀ (s l : List Nat), (∀ x ∈ l, x < 256) → (ndTakes (s.map ndOne) l ↔ l = s)
  | [], l, h => Iff.rfl
  | b :: s, l, h => by
    rw [List.map_cons, ndTakes_cons]
    constructor
    · rintro ⟨a, c, h1, h2, h3⟩
      obtain ⟨x, rfl, h4⟩ : ∃ x, a = [x] ∧ ndFits (ndOne b) x = true := h2
      have hx : x < 256 := h x (by rw [h1]; exact List.mem_append.2 (.inl (List.mem_singleton.2 rfl)))
      rw [ndFits_one hx, decide_eq_true_eq] at h4
      have h5 := (ndTakes_ones s c (fun y hy => h y (by rw [h1]; exact List.mem_append.2 (.inr hy)))).1 h3
      rw [h1, h4, h5]
      rfl
    · rintro rfl
      exact ⟨[b], s, rfl, ⟨b, rfl, by rw [ndFits_one (h b List.mem_cons_self)]; exact decide_eq_true rfl⟩, (ndTakes_ones s s (fun y hy => h y (List.mem_cons_of_mem _ hy))).2 rfl⟩
theorem seg_mem {t : List Nat} {j k x : Nat} (h : x ∈ seg t j k) : x ∈ t := List.mem_of_mem_drop (List.mem_of_mem_take h)
/-- A plain text is found in the texts that have it. -/
theorem ndFound_plain {s t : List Nat} (ht : ∀ x ∈ t, x < 256) : ndFound ⟨false, false, s.map ndOne⟩ t = true ↔ ∃ j, j + s.length ≤ t.length ∧ seg t j (j + s.length) = s := by
  rw [ndFound_iff]
  constructor
  · rintro ⟨j, k, h1, h2, _, _, h5⟩
    have h6 := (ndTakes_ones s _ (fun x hx => ht x (seg_mem hx))).1 h5
    have hl := congrArg List.length h6
    rw [seg_length h2] at hl
    obtain rfl : k = j + s.length := by omega
    exact ⟨j, h2, h6⟩
  · rintro ⟨j, h1, h2⟩
    exact ⟨j, j + s.length, by omega, h1, fun h => (by cases h), fun h => (by cases h), (ndTakes_ones s _ (fun x hx => ht x (seg_mem hx))).2 h2⟩
/-- Bound to both ends: in itself alone. -/
theorem ndFound_bound {s t : List Nat} (ht : ∀ x ∈ t, x < 256) : ndFound ⟨true, true, s.map ndOne⟩ t = true ↔ t = s := by
  rw [ndFound_iff]
  have e : seg t 0 t.length = t := by unfold seg; rw [List.drop_zero, Nat.sub_zero, List.take_length]
  constructor
  · rintro ⟨j, k, h1, h2, h3, h4, h5⟩
    obtain rfl := h3 rfl
    obtain rfl := h4 rfl
    rw [e] at h5
    exact (ndTakes_ones s _ ht).1 h5
  · intro h
    exact ⟨0, t.length, Nat.zero_le _, Nat.le_refl _, fun _ => rfl, fun _ => rfl, by rw [e]; exact (ndTakes_ones s _ ht).2 h⟩
end Go.Proofs.Ytodigfdhhndboaa
