/-
  Plain facts on needles (layer 9): sets as four words, put together byte by byte; classes and items read from left to right. Nothing of the program is imported.
-/
import Derived.Test.YtodlgbihdehmbaaGreatDoorNdlCompP
import Derived.Test.YtodlgbihdehmbaaGreatDoorNdlRunP
set_option linter.unusedSimpArgs false
set_option linter.unusedVariables false
namespace Go.Proofs.YtodlgbihdehmbaaGreatDoor.Nd
theorem word_congr {f g : Nat → Bool} {k : Nat} : ∀ (m : Nat), (∀ j, j < m → f (64 * k + j) = g (64 * k + j)) → ndWord f k m = ndWord g k m
  | 0, _ => rfl
  | m + 1, h => by
    show ndWord f k m + (if f (64 * k + m) = true then 2 ^ m else 0) = ndWord g k m + (if g (64 * k + m) = true then 2 ^ m else 0)
    rw [word_congr m (fun j hj => h j (by omega)), h m (by omega)]
/-- Four words tell of the bytes that f holds for. -/
structure Wd (f : Nat → Bool) (a0 a1 a2 a3 : Nat) : Prop where
  e0 : a0 = ndWord f 0 64
  e1 : a1 = ndWord f 1 64
  e2 : a2 = ndWord f 2 64
  e3 : a3 = ndWord f 3 64
theorem word_lt (f : Nat → Bool) (k : Nat) : ndWord f k 64 < 18446744073709551616 := ndWord_lt f k 64
theorem Wd.lt {f : Nat → Bool} {a0 a1 a2 a3 : Nat} (h : Wd f a0 a1 a2 a3) : a0 < 18446744073709551616 ∧ a1 < 18446744073709551616 ∧ a2 < 18446744073709551616 ∧ a3 < 18446744073709551616 := by
  obtain ⟨rfl, rfl, rfl, rfl⟩ := h
  exact ⟨word_lt _ _, word_lt _ _, word_lt _ _, word_lt _ _⟩
theorem Wd.congr {f g : Nat → Bool} {a0 a1 a2 a3 : Nat} (h : Wd f a0 a1 a2 a3) (he : ∀ b, b < 256 → f b = g b) : Wd g a0 a1 a2 a3 := by
  obtain ⟨rfl, rfl, rfl, rfl⟩ := h
  exact ⟨word_congr 64 (fun j hj => he _ (by omega)), word_congr 64 (fun j hj => he _ (by omega)), word_congr 64 (fun j hj => he _ (by omega)), word_congr 64 (fun j hj => he _ (by omega))⟩
/-- A byte put into a set. -/
theorem word_or (f : Nat → Bool) {b k : Nat} (h : b / 64 = k) : ndWord f k 64 ||| 2 ^ (b % 64) = ndWord (fun x => f x || decide (x = b)) k 64 := by
  refine Nat.eq_of_testBit_eq fun j => ?_
  rw [Nat.testBit_or, ndWord_bit, ndWord_bit, Nat.testBit_two_pow]
  have hm := Nat.mod_lt b (show 0 < 64 by decide)
  have e : decide (b % 64 = j) = (decide (j < 64) && decide (64 * k + j = b)) := by
    rw [← Bool.decide_and, decide_eq_decide]
    omega
  rw [e]
  cases decide (j < 64) <;> simp
theorem word_other (f : Nat → Bool) {b k : Nat} (h : ¬ b / 64 = k) : ndWord f k 64 = ndWord (fun x => f x || decide (x = b)) k 64 := by
  refine word_congr 64 fun j hj => ?_
  rw [decide_eq_false (by omega), Bool.or_false]
theorem word_not (f : Nat → Bool) (k : Nat) : 18446744073709551615 - ndWord f k 64 = ndWord (fun x => !f x) k 64 := by
  refine Nat.eq_of_testBit_eq fun j => ?_
  have h := Nat.testBit_two_pow_sub_succ (ndWord_lt f k 64) j
  rw [show 2 ^ 64 - (ndWord f k 64 + 1) = 18446744073709551615 - ndWord f k 64 from by have := word_lt f k; omega] at h
  rw [h, ndWord_bit, ndWord_bit]
  cases decide (j < 64) <;> simp
theorem Wd.not {f : Nat → Bool} {a0 a1 a2 a3 : Nat} (h : Wd f a0 a1 a2 a3) : Wd (fun x => !f x) (18446744073709551615 - a0) (18446744073709551615 - a1) (18446744073709551615 - a2) (18446744073709551615 - a3) := by
  obtain ⟨rfl, rfl, rfl, rfl⟩ := h
  exact ⟨word_not _ _, word_not _ _, word_not _ _, word_not _ _⟩
theorem Wd.put {f : Nat → Bool} {a0 a1 a2 a3 b : Nat} (h : Wd f a0 a1 a2 a3) : Wd (fun x => f x || decide (x = b)) (if b / 64 = 0 then a0 ||| 2 ^ (b % 64) else a0) (if b / 64 = 1 then a1 ||| 2 ^ (b % 64) else a1) (if b / 64 = 2 then a2 ||| 2 ^ (b % 64) else a2) (if b / 64 = 3 then a3 ||| 2 ^ (b % 64) else a3) := by
  obtain ⟨rfl, rfl, rfl, rfl⟩ := h
  refine ⟨?_, ?_, ?_, ?_⟩ <;> split <;> first | exact word_or f ‹_› | exact word_other f ‹_›
theorem Wd.none_ : Wd (fun _ => false) 0 0 0 0 := by
  have h : ∀ k m, ndWord (fun _ => false) k m = 0 := fun k m => by
    induction m with
    | zero => rfl
    | succ m ih => show ndWord (fun _ => false) k m + 0 = 0; rw [ih]
  exact ⟨(h 0 64).symm, (h 1 64).symm, (h 2 64).symm, (h 3 64).symm⟩
/-- The item of four words. -/
def NI.set (a0 a1 a2 a3 : Nat) : NI := ⟨a0, a1, a2, a3, false⟩
theorem Wd.all {a0 a1 a2 a3 : Nat} (h : Wd (fun _ => true) a0 a1 a2 a3) : NI.set a0 a1 a2 a3 = ndAll := by
  have h2 : Wd (fun _ => !false) _ _ _ _ := Wd.none_.not
  obtain ⟨rfl, rfl, rfl, rfl⟩ := h
  have e : ∀ k, ndWord (fun _ => true) k 64 = 18446744073709551615 - 0 := fun k => by
    have h3 := word_not (fun _ => false) k
    have h4 := Wd.none_
    have h5 : ndWord (fun _ => false) k 64 = 0 := by
      have h : ∀ m, ndWord (fun _ => false) k m = 0 := fun m => by
        induction m with
        | zero => rfl
        | succ m ih => show ndWord (fun _ => false) k m + 0 = 0; rw [ih]
      exact h 64
    rw [h5] at h3
    exact h3.symm
  unfold NI.set ndAll
  rw [e, e, e, e]
theorem Wd.one {b a0 a1 a2 a3 : Nat} (hb : b < 256) (h : Wd (fun x => decide (x = b)) a0 a1 a2 a3) : NI.set a0 a1 a2 a3 = ndOne b := by
  have h2 := (Wd.none_.put (b := b)).congr (g := fun x => decide (x = b)) (fun x _ => by simp)
  obtain ⟨e0, e1, e2, e3⟩ := h
  obtain ⟨f0, f1, f2, f3⟩ := h2
  rw [← f0] at e0; rw [← f1] at e1; rw [← f2] at e2; rw [← f3] at e3
  unfold NI.set ndOne
  rw [e0, e1, e2, e3]
  simp only [Nat.zero_or]
theorem Wd.cls {rs : List (Nat × Nat)} {a0 a1 a2 a3 : Nat} (h : Wd (ndIn rs) a0 a1 a2 a3) : NI.set a0 a1 a2 a3 = ndCls rs false := by
  have h2 := h.congr (g := fun b => ndIn rs b != false) (fun b _ => by simp)
  obtain ⟨rfl, rfl, rfl, rfl⟩ := h2
  rfl
theorem Wd.clsNot {rs : List (Nat × Nat)} {a0 a1 a2 a3 : Nat} (h : Wd (fun b => !ndIn rs b) a0 a1 a2 a3) : NI.set a0 a1 a2 a3 = ndCls rs true := by
  have h2 := h.congr (g := fun b => ndIn rs b != true) (fun b _ => by cases ndIn rs b <;> rfl)
  obtain ⟨rfl, rfl, rfl, rfl⟩ := h2
  rfl
theorem ndIn_snoc (rs : List (Nat × Nat)) (lo hi b : Nat) : ndIn (rs ++ [(lo, hi)]) b = (ndIn rs b || (decide (lo ≤ b) && decide (b ≤ hi))) := by
  unfold ndIn
  rw [List.any_append]
  simp
/-- A range, byte by byte. -/
theorem Wd.range {f : Nat → Bool} {lo b a0 a1 a2 a3 : Nat} (hl : lo ≤ b) (h : Wd (fun x => f x || (decide (lo ≤ x) && decide (x < b))) a0 a1 a2 a3) : Wd (fun x => f x || (decide (lo ≤ x) && decide (x < b + 1))) (if b / 64 = 0 then a0 ||| 2 ^ (b % 64) else a0) (if b / 64 = 1 then a1 ||| 2 ^ (b % 64) else a1) (if b / 64 = 2 then a2 ||| 2 ^ (b % 64) else a2) (if b / 64 = 3 then a3 ||| 2 ^ (b % 64) else a3) := by
  refine (h.put (b := b)).congr fun x _ => ?_
  show (f x || (decide (lo ≤ x) && decide (x < b)) || decide (x = b)) = _
  rw [Bool.or_assoc]
  congr 1
  rw [← Bool.decide_and, ← Bool.decide_and, ← Bool.decide_or, decide_eq_decide]
  omega
/-- Members read so far, and what stands behind them. -/
def MemI (l R : List Nat) (rs : List (Nat × Nat)) : Prop := ndMem (l.length + 1) l = (ndMem (R.length + 1) R).map fun x => (rs ++ x.1, x.2)
theorem MemI.start (l : List Nat) : MemI l l [] := by
  unfold MemI
  cases ndMem (l.length + 1) l <;> rfl
theorem MemI.close {l : List Nat} {rs : List (Nat × Nat)} {r : List Nat} (h : MemI l (93 :: r) rs) : ndMem (l.length + 1) l = some (rs, r) := by
  unfold MemI at h
  rw [h]
  show (some (([] : List (Nat × Nat)), r)).map _ = _
  simp
theorem MemI.none_ {l : List Nat} {rs : List (Nat × Nat)} (h : MemI l [] rs) : ndMem (l.length + 1) l = none := h
/-- The member that a text begins with: from where, up to where, and what stands behind it. -/
def ndMemb (a : Nat) (l : List Nat) : Nat × Nat × List Nat := if 2 ≤ l.length ∧ l.getD 0 0 = 45 ∧ l.getD 1 0 ≠ 93 then (a, l.getD 1 0, l.drop 2) else (a, a, l)
theorem mem_step {a : Nat} {l : List Nat} (h : a ≠ 93) : ndMem (l.length + 1 + 1) (a :: l) = if (ndMemb a l).2.1 < (ndMemb a l).1 then none else (ndMem ((ndMemb a l).2.2.length + 1) (ndMemb a l).2.2).map fun x => (((ndMemb a l).1, (ndMemb a l).2.1) :: x.1, x.2) := by
  unfold ndMemb
  show (if a = 93 then _ else _) = _
  rw [if_neg h]
  by_cases h2 : 2 ≤ l.length ∧ l.getD 0 0 = 45 ∧ l.getD 1 0 ≠ 93
  · rw [if_pos h2, if_pos h2]
    show (if l.getD 1 0 < a then none else _) = if l.getD 1 0 < a then none else _
    rw [ndMem_fuel (l.length + 1) ((l.drop 2).length + 1) (l.drop 2) (by rw [List.length_drop]; omega) (by omega)]
  · rw [if_neg h2, if_neg h2]
    show _ = if a < a then none else _
    rw [if_neg (Nat.lt_irrefl a)]
theorem MemI.next {l : List Nat} {a : Nat} {m : List Nat} {rs : List (Nat × Nat)} (h : MemI l (a :: m) rs) (ha : a ≠ 93) {lo hi : Nat} {r : List Nat} (hm : ndMemb a m = (lo, hi, r)) (hle : ¬ hi < lo) : MemI l r (rs ++ [(lo, hi)]) := by
  unfold MemI at h ⊢
  rw [h]
  show Option.map _ (ndMem (m.length + 1 + 1) (a :: m)) = _
  rw [mem_step ha, hm]
  show Option.map _ (if hi < lo then none else _) = _
  rw [if_neg hle]
  cases ndMem (r.length + 1) r with
  | none => rfl
  | some x => show some (rs ++ (lo, hi) :: x.1, x.2) = some ((rs ++ [(lo, hi)]) ++ x.1, x.2); simp
theorem MemI.falls {l : List Nat} {a : Nat} {m : List Nat} {rs : List (Nat × Nat)} (h : MemI l (a :: m) rs) (ha : a ≠ 93) {lo hi : Nat} {r : List Nat} (hm : ndMemb a m = (lo, hi, r)) (hle : hi < lo) : ndMem (l.length + 1) l = none := by
  unfold MemI at h
  rw [h]
  show Option.map _ (ndMem (m.length + 1 + 1) (a :: m)) = _
  rw [mem_step ha, hm]
  show Option.map _ (if hi < lo then none else _) = _
  rw [if_pos hle]
  rfl
theorem ndMemb_rest (a : Nat) (m : List Nat) : (ndMemb a m).2.2.length ≤ m.length := by
  unfold ndMemb
  split
  · show (m.drop 2).length ≤ _
    rw [List.length_drop]; omega
  · exact Nat.le_refl _
/-- A byte at the front that may be cut off. -/
def cutB (c : Nat) (l : List Nat) : List Nat := if (l.getD 0 0 == c) = true then l.drop 1 else l
theorem cutB_length (c : Nat) (l : List Nat) : (cutB c l).length ≤ l.length := by
  unfold cutB
  split
  · rw [List.length_drop]; omega
  · exact Nat.le_refl _
/-- What a class answers, whatever stands in the words where it is none. -/
def ClsI (l : List Nat) (a0 a1 a2 a3 : Nat) (r : List Nat) (ok : Bool) : Prop := match ndClass l with
  | none => ok = false
  | some (i, r') => ok = true ∧ i = NI.set a0 a1 a2 a3 ∧ r' = r
theorem ndClass_is (l : List Nat) : ndClass l = match ndMem ((cutB 94 l).length + 1) (cutB 94 l) with
  | none => none
  | some (rs, r) => if rs = [] then none else some (ndCls rs (l.getD 0 0 == 94), r) := rfl
theorem ClsI.no {l : List Nat} (h : ndMem ((cutB 94 l).length + 1) (cutB 94 l) = none) (a0 a1 a2 a3 : Nat) (r : List Nat) : ClsI l a0 a1 a2 a3 r false := by
  unfold ClsI
  rw [ndClass_is, h]
theorem ClsI.yes {l : List Nat} {rs : List (Nat × Nat)} {r : List Nat} (h : ndMem ((cutB 94 l).length + 1) (cutB 94 l) = some (rs, r)) {a0 a1 a2 a3 : Nat} (hs : NI.set a0 a1 a2 a3 = ndCls rs (l.getD 0 0 == 94)) {ok : Bool} (hok : ok = decide (0 < rs.length)) : ClsI l a0 a1 a2 a3 r ok := by
  unfold ClsI
  rw [ndClass_is, h]
  by_cases hr : rs = []
  · subst hr
    exact hok
  · simp only [if_neg hr]
    exact ⟨by rw [hok]; exact decide_eq_true (List.length_pos_iff.2 hr), hs.symm, by first | rfl | trivial⟩
/-- The atom that a text begins with, where $ is none. -/
def ndAt (l : List Nat) : Option (NI × List Nat) := if l.getD 0 0 = 36 then none else ndAtom l
def AtI (l : List Nat) (a0 a1 a2 a3 : Nat) (r : List Nat) (ok : Bool) : Prop := match ndAt l with
  | none => ok = false
  | some (i, r') => ok = true ∧ i = NI.set a0 a1 a2 a3 ∧ r' = r
theorem AtI.yes {l : List Nat} {a0 a1 a2 a3 : Nat} {r : List Nat} (h : ndAt l = some (NI.set a0 a1 a2 a3, r)) : AtI l a0 a1 a2 a3 r true := by
  unfold AtI
  rw [h]
  exact ⟨rfl, rfl, rfl⟩
theorem AtI.no {l : List Nat} (h : ndAt l = none) (a0 a1 a2 a3 : Nat) (r : List Nat) : AtI l a0 a1 a2 a3 r false := by
  unfold AtI
  rw [h]
theorem ndAt_cons (a : Nat) (l : List Nat) : ndAt (a :: l) = if a = 36 then none else ndAtom (a :: l) := rfl
theorem ndAt_none {a : Nat} {l : List Nat} (h : a = 94 ∨ a = 36 ∨ a = 42 ∨ a = 93) : ndAt (a :: l) = none := by
  rw [ndAt_cons]
  split
  · rfl
  · rw [ndAtom_cons, if_pos (by omega)]
theorem ndAt_dot (l : List Nat) : ndAt (46 :: l) = some (ndAll, l) := rfl
theorem ndAt_esc (b : Nat) (l : List Nat) : ndAt (92 :: b :: l) = some (ndOne b, l) := rfl
theorem ndAt_cls (l : List Nat) : ndAt (91 :: l) = ndClass l := rfl
theorem ndAt_one {a : Nat} {l : List Nat} (h1 : ¬ a = 46) (h2 : ¬ a = 91) (h3 : ¬ a = 92) (h4 : ¬ a = 94) (h5 : ¬ a = 36) (h6 : ¬ a = 42) (h7 : ¬ a = 93) : ndAt (a :: l) = some (ndOne a, l) := by
  rw [ndAt_cons, if_neg h5, ndAtom_cons, if_neg (by omega), if_neg h1, if_neg h3, if_neg h2]
theorem AtI.cls {l : List Nat} {a0 a1 a2 a3 : Nat} {r : List Nat} {ok : Bool} (h : ClsI l a0 a1 a2 a3 r ok) : AtI (91 :: l) a0 a1 a2 a3 r ok := h
/-- What an item answers. -/
def ItI (l : List Nat) (i : NI) (r : List Nat) (ok : Bool) : Prop := match ndAt l with
  | none => ok = false
  | some (j, r') => ok = true ∧ i = j.starred (r'.getD 0 0 == 42) ∧ r = cutB 42 r'
theorem ItI.of {l : List Nat} {a0 a1 a2 a3 : Nat} {r : List Nat} {ok : Bool} (h : AtI l a0 a1 a2 a3 r ok) : ItI l ⟨a0, a1, a2, a3, r.getD 0 0 == 42⟩ (cutB 42 r) ok := by
  unfold AtI at h
  unfold ItI
  cases hc : ndAt l with
  | none => rw [hc] at h; exact h
  | some x =>
    obtain ⟨j, r'⟩ := x
    rw [hc] at h
    obtain ⟨h1, h2, h3⟩ := h
    subst h2 h3
    exact ⟨h1, rfl, rfl⟩
/-- Items read so far, and what stands behind them. -/
def ItmI (l R : List Nat) (is : List NI) : Prop := ndItems (l.length + 1) l = (ndItems (R.length + 1) R).map fun x => (is ++ x.1, x.2)
theorem ItmI.start (l : List Nat) : ItmI l l [] := by
  unfold ItmI
  cases ndItems (l.length + 1) l <;> rfl
theorem ItmI.end_ {l : List Nat} {is : List NI} (h : ItmI l [] is) : ndItems (l.length + 1) l = some (is, false) := by
  unfold ItmI at h
  rw [h]
  show some (is ++ [], false) = _
  rw [List.append_nil]
theorem ItmI.dollar {l : List Nat} {is : List NI} (h : ItmI l [36] is) : ndItems (l.length + 1) l = some (is, true) := by
  unfold ItmI at h
  rw [h]
  show some (is ++ [], true) = _
  rw [List.append_nil]
theorem items_no {a : Nat} {m : List Nat} (hm : ¬ (a = 36 ∧ m = [])) (h : ndAt (a :: m) = none) (n : Nat) : ndItems (n + 1) (a :: m) = none := by
  unfold ndItems
  by_cases ha : a = 36
  · rw [if_pos ha, if_neg (fun e => hm ⟨ha, e⟩)]
  · rw [if_neg ha]
    rw [ndAt_cons, if_neg ha] at h
    rw [h]
theorem items_yes {a : Nat} {m r : List Nat} {j : NI} (h : ndAt (a :: m) = some (j, r)) (n : Nat) : ndItems (n + 1) (a :: m) = (ndItems n (cutB 42 r)).map fun x => (j.starred (r.getD 0 0 == 42) :: x.1, x.2) := by
  have ha : ¬ a = 36 := by
    intro e
    rw [ndAt_cons, if_pos e] at h
    cases h
  rw [ndAt_cons, if_neg ha] at h
  show (if a = 36 then _ else _) = _
  rw [if_neg ha, h]
  rfl
theorem ndAt_rest {a : Nat} {m r : List Nat} {j : NI} (h : ndAt (a :: m) = some (j, r)) : r.length ≤ m.length := by
  rw [ndAt_cons] at h
  by_cases ha : a = 36
  · rw [if_pos ha] at h; cases h
  · rw [if_neg ha] at h; exact ndAtom_rest h
theorem ItmI.fail {l : List Nat} {a : Nat} {m r : List Nat} {is : List NI} {i : NI} (h : ItmI l (a :: m) is) (hm : ¬ (a = 36 ∧ m = [])) (hi : ItI (a :: m) i r false) : ndItems (l.length + 1) l = none := by
  unfold ItI at hi
  unfold ItmI at h
  cases hc : ndAt (a :: m) with
  | none => rw [h]; show Option.map _ (ndItems (m.length + 1 + 1) (a :: m)) = _; rw [items_no hm hc]; rfl
  | some x =>
    rw [hc] at hi
    exact absurd hi.1 (by decide)
theorem ItmI.next {l : List Nat} {a : Nat} {m r : List Nat} {is : List NI} {i : NI} (h : ItmI l (a :: m) is) (hi : ItI (a :: m) i r true) : ItmI l r (is ++ [i]) ∧ r.length ≤ m.length := by
  unfold ItI at hi
  unfold ItmI at h ⊢
  cases hc : ndAt (a :: m) with
  | none => rw [hc] at hi; have hi2 : true = false := hi; cases hi2
  | some x =>
    obtain ⟨j, r'⟩ := x
    rw [hc] at hi
    obtain ⟨_, rfl, rfl⟩ := hi
    have hl := ndAt_rest hc
    have hl2 := cutB_length 42 r'
    refine ⟨?_, by omega⟩
    rw [h]
    show Option.map _ (ndItems (m.length + 1 + 1) (a :: m)) = _
    rw [items_yes hc, ndItems_fuel (m.length + 1) ((cutB 42 r').length + 1) _ (by omega) (by omega)]
    cases ndItems ((cutB 42 r').length + 1) (cutB 42 r') with
    | none => rfl
    | some x => show some (is ++ (j.starred (r'.getD 0 0 == 42) :: x.1), x.2) = some ((is ++ [j.starred (r'.getD 0 0 == 42)]) ++ x.1, x.2); simp
theorem ndComp_long {p : List Nat} (h : 64 < p.length) : ndComp p = (NN.zero, 12) := if_pos h
theorem ndComp_no {p : List Nat} (h : ¬ 64 < p.length) (hi : ndItems ((cutB 94 p).length + 1) (cutB 94 p) = none) : ndComp p = (NN.zero, 10) := by
  have e : ndItems (p.length + 1) (cutB 94 p) = none := by rw [ndItems_fuel (p.length + 1) ((cutB 94 p).length + 1) _ (by have := cutB_length 94 p; omega) (by omega)]; exact hi
  unfold ndComp
  rw [if_neg h]
  show (match ndItems (p.length + 1) (cutB 94 p) with | none => (NN.zero, (10 : Int)) | some (is, fin) => ((⟨p.getD 0 0 == 94, fin, is⟩ : NN), (0 : Int))) = _
  rw [e]
theorem ndComp_yes {p : List Nat} (h : ¬ 64 < p.length) {is : List NI} {fin : Bool} (hi : ndItems ((cutB 94 p).length + 1) (cutB 94 p) = some (is, fin)) : ndComp p = (⟨p.getD 0 0 == 94, fin, is⟩, 0) := by
  have e : ndItems (p.length + 1) (cutB 94 p) = some (is, fin) := by rw [ndItems_fuel (p.length + 1) ((cutB 94 p).length + 1) _ (by have := cutB_length 94 p; omega) (by omega)]; exact hi
  unfold ndComp
  rw [if_neg h]
  show (match ndItems (p.length + 1) (cutB 94 p) with | none => (NN.zero, (10 : Int)) | some (is, fin) => ((⟨p.getD 0 0 == 94, fin, is⟩ : NN), (0 : Int))) = _
  rw [e]
end Go.Proofs.YtodlgbihdehmbaaGreatDoor.Nd
