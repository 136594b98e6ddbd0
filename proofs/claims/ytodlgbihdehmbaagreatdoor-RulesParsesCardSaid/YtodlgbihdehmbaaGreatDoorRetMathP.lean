/-
  Plain facts on archives as text, for the statements of layer 10: a text is a list of bytes as natural numbers, an archive a pair. Nothing of the program is imported.
-/
import Derived.Test.YtodlgbihdehmbaaGreatDoorDecCanBP
set_option linter.unusedSimpArgs false
set_option linter.unusedVariables false
namespace Go.Proofs.YtodlgbihdehmbaaGreatDoor
/-- How many seconds a unit's letter says; 0: there is no such unit. -/
def un (c : Nat) : Nat := if c = 115 then 1 else if c = 109 then 60 else if c = 104 then 3600 else if c = 100 then 86400 else if c = 119 then 604800 else if c = 121 then 31536000 else 0
theorem un_le (c : Nat) : un c ≤ 31536000 := by
  unfold un
  iterate 6 (split; · omega)
  omega
theorem un_digit {c : Nat} (h : isD c = true) : un c = 0 := by
  have := isD_bounds h
  unfold un
  repeat rw [if_neg (by omega)]
/-- The last byte, or 0. -/
def lastB (l : List Nat) : Nat := byteAt l (l.length - 1)
/-- What a span's text, or digits alone, tell: so much, and whether it is a span's. -/
def amt (l : List Nat) : Option (Nat × Bool) :=
  if un (lastB l) ≠ 0 then (if allD l.dropLast = true ∧ l.dropLast ≠ [] then some (val l.dropLast * un (lastB l), true) else none)
  else (if allD l = true ∧ l ≠ [] then some (val l, false) else none)
/-- 2^40, and one more. -/
def spanV (l : List Nat) : Int × Int := match amt l with
  | some (n, true) => if 1099511627776 < n then (0, 3) else ((n : Int), 0)
  | _ => (0, 2)
theorem amt_nil : amt [] = none := by decide
/-- Such a byte is in no amount's text. -/
theorem amt_colon {l : List Nat} {c : Nat} (hc : c ∈ l) (h0 : isD c = false) (h1 : un c = 0) : amt l = none := by
  have hne : l ≠ [] := fun e => by rw [e] at hc; cases hc
  have hl : lastB l = l.getLast hne := by
    unfold lastB byteAt
    rw [List.getD_eq_getElem?_getD, ← List.getLast?_eq_getElem?, List.getLast?_eq_some_getLast hne]; rfl
  have hno : ∀ m : List Nat, c ∈ m → allD m = false := fun m hm => by
    unfold allD; rw [List.all_eq_false]; exact ⟨c, hm, by simpa using h0⟩
  unfold amt
  by_cases hu : un (lastB l) ≠ 0
  · rw [if_pos hu]
    have hd : c ∈ l.dropLast := by
      rw [← List.dropLast_concat_getLast hne, List.mem_append] at hc
      rcases hc with h | h
      · exact h
      · rw [List.mem_singleton] at h
        rw [hl, ← h] at hu
        exact absurd h1 hu
    rw [if_neg (by rw [hno _ hd]; simp)]
  · rw [if_neg hu, if_neg (by rw [hno _ hc]; simp)]
def spl (c : Nat) : List Nat → List (List Nat)
  | [] => [[]]
  | x :: l => if x = c then [] :: spl c l else (x :: (spl c l).headD []) :: (spl c l).tail
theorem spl_ne (c : Nat) (l : List Nat) : spl c l ≠ [] := by
  cases l with
  | nil => simp [spl]
  | cons x l => unfold spl; split <;> simp
theorem spl_no {c : Nat} : ∀ {l : List Nat}, c ∉ l → spl c l = [l]
  | [], _ => rfl
  | x :: l, h => by
    have ih := spl_no (c := c) (l := l) (fun e => h (List.mem_cons_of_mem _ e))
    unfold spl
    rw [if_neg (fun e => h (by rw [e]; exact List.mem_cons_self)), ih]; rfl
theorem spl_at {c : Nat} : ∀ {a : List Nat} (b : List Nat), c ∉ a → spl c (a ++ c :: b) = a :: spl c b
  | [], b, _ => by show spl c (c :: b) = _; rw [spl, if_pos rfl]
  | x :: a, b, h => by
    have ih := spl_at (c := c) (a := a) b (fun e => h (List.mem_cons_of_mem _ e))
    show spl c (x :: (a ++ c :: b)) = _
    rw [spl, if_neg (fun e => h (by rw [e]; exact List.mem_cons_self)), ih]; rfl
/-- What comes behind the parts that are read already. -/
theorem spl_snoc (c x : Nat) : ∀ l : List Nat, spl c (l ++ [x]) = if x = c then spl c l ++ [[]] else (spl c l).dropLast ++ [(spl c l).getLastD [] ++ [x]]
  | [] => by
    show spl c [x] = _
    by_cases h : x = c
    · rw [if_pos h]; unfold spl; rw [if_pos h]; rfl
    · rw [if_neg h]; unfold spl; rw [if_neg h]; rfl
  | y :: l => by
    have ih := spl_snoc c x l
    have hne := spl_ne c l
    show spl c (y :: (l ++ [x])) = _
    rw [spl, ih]
    obtain ⟨h, t, ht⟩ := List.exists_cons_of_ne_nil hne
    by_cases hx : x = c
    · rw [if_pos hx, if_pos hx]
      by_cases hy : y = c
      · rw [if_pos hy, spl, if_pos hy]; rfl
      · rw [if_neg hy, spl, if_neg hy, ht]; rfl
    · rw [if_neg hx, if_neg hx]
      by_cases hy : y = c
      · rw [if_pos hy, spl, if_pos hy, ht]
        cases t <;> rfl
      · rw [if_neg hy, spl, if_neg hy, ht]
        cases t <;> rfl
theorem spl_length (c : Nat) : ∀ l : List Nat, (spl c l).length ≤ l.length + 1
  | [] => Nat.le_refl _
  | x :: l => by
    have ih := spl_length c l
    have := List.length_pos_iff.2 (spl_ne c l)
    unfold spl
    split
    · simp; omega
    · simp [List.length_tail]; omega
theorem spl_mem (c : Nat) : ∀ (l p : List Nat), p ∈ spl c l → ∀ x ∈ p, x ∈ l
  | [], p, hp, x, hx => by simp [spl] at hp; subst hp; cases hx
  | y :: l, p, hp, x, hx => by
    have ih := spl_mem c l
    unfold spl at hp
    split at hp
    · rcases List.mem_cons.1 hp with rfl | hp
      · cases hx
      · exact List.mem_cons_of_mem _ (ih p hp x hx)
    · obtain ⟨h, t, ht⟩ := List.exists_cons_of_ne_nil (spl_ne c l)
      rw [ht] at hp ih
      rcases List.mem_cons.1 hp with rfl | hp
      · rcases List.mem_cons.1 hx with rfl | hx
        · exact List.mem_cons_self
        · exact List.mem_cons_of_mem _ (ih h List.mem_cons_self x hx)
      · exact List.mem_cons_of_mem _ (ih p (List.mem_cons_of_mem _ hp) x hx)
theorem spl_part_length (c : Nat) : ∀ (l p : List Nat), p ∈ spl c l → p.length ≤ l.length
  | [], p, hp => by simp [spl] at hp; subst hp; exact Nat.le_refl _
  | y :: l, p, hp => by
    have ih := spl_part_length c l
    unfold spl at hp
    split at hp
    · rcases List.mem_cons.1 hp with rfl | hp
      · simp
      · have := ih p hp; simp; omega
    · obtain ⟨h, t, ht⟩ := List.exists_cons_of_ne_nil (spl_ne c l)
      rw [ht] at hp ih
      rcases List.mem_cons.1 hp with rfl | hp
      · have := ih h List.mem_cons_self; simp; omega
      · have := ih p (List.mem_cons_of_mem _ hp); simp; omega
def trimL (l : List Nat) : List Nat := l.dropWhile (· == 32)
def trimR (l : List Nat) : List Nat := (l.reverse.dropWhile (· == 32)).reverse
def trimB (l : List Nat) : List Nat := trimR (trimL l)
theorem trimL_none {l : List Nat} (h : byteAt l 0 ≠ 32) : trimL l = l := by
  cases l with
  | nil => rfl
  | cons c l => exact List.dropWhile_cons_of_neg (by simpa [byteAt] using h)
theorem trimR_snoc (l : List Nat) (c : Nat) : trimR (l ++ [c]) = if c = 32 then trimR l else l ++ [c] := by
  unfold trimR
  rw [List.reverse_append, List.reverse_singleton, List.singleton_append]
  by_cases h : c = 32
  · rw [if_pos h, List.dropWhile_cons_of_pos (by simpa using h)]
  · rw [if_neg h, List.dropWhile_cons_of_neg (by simpa using h)]; simp
theorem trimL_length (l : List Nat) : (trimL l).length ≤ l.length := by
  unfold trimL; exact (List.dropWhile_sublist _).length_le
theorem trimR_length (l : List Nat) : (trimR l).length ≤ l.length := by
  unfold trimR
  rw [List.length_reverse]
  have := (List.dropWhile_sublist (l := l.reverse) (fun x => x == 32)).length_le
  rw [List.length_reverse] at this; exact this
theorem trimB_length (l : List Nat) : (trimB l).length ≤ l.length := Nat.le_trans (trimR_length _) (trimL_length _)
def rgOk (g : Int × Int) : Bool := decide (1 ≤ g.1 ∧ g.1 ≤ 86400 ∧ 1 ≤ g.2 ∧ g.2 ≤ 400)
def rgReach (g : Int × Int) : Int := if rgOk g then g.1 * g.2 else 0
/-- May the second one be next to the first one? -/
def rgFits (a b : Int × Int) : Bool := decide (a.1 < b.1 ∧ b.1 % a.1 = 0 ∧ a.1 * a.2 < b.1 * b.2 ∧ b.1 / a.1 ≤ a.2)
def rgAdj : List (Int × Int) → Bool
  | a :: b :: l => rgFits a b && rgAdj (b :: l)
  | _ => true
def tog (l : List (Int × Int)) : Bool := decide (1 ≤ l.length ∧ l.length ≤ 4) && (l.all rgOk && rgAdj l)
theorem rgAdj_iff : ∀ l : List (Int × Int), rgAdj l = true ↔ ∀ (k : Nat) (a b : Int × Int), l[k]? = some a → l[k + 1]? = some b → rgFits a b = true
  | [] => ⟨fun _ k a b h => by simp at h, fun _ => rfl⟩
  | [x] => ⟨fun _ k a b _ h => by simp at h, fun _ => rfl⟩
  | x :: y :: l => by
    have ih := rgAdj_iff (y :: l)
    show (rgFits x y && rgAdj (y :: l)) = true ↔ _
    rw [Bool.and_eq_true, ih]
    constructor
    · rintro ⟨h1, h2⟩ k a b ha hb
      cases k with
      | zero =>
        obtain rfl : x = a := by simpa using ha
        obtain rfl : y = b := by simpa using hb
        exact h1
      | succ k => exact h2 k a b (by simpa using ha) (by simpa using hb)
    · intro h
      exact ⟨h 0 x y rfl rfl, fun k a b ha hb => h (k + 1) a b (by simpa using ha) (by simpa using hb)⟩
theorem tog_iff (l : List (Int × Int)) : tog l = true ↔ (1 ≤ l.length ∧ l.length ≤ 4) ∧ (∀ (k : Nat) (g : Int × Int), l[k]? = some g → rgOk g = true) ∧ (∀ (k : Nat) (a b : Int × Int), l[k]? = some a → l[k + 1]? = some b → rgFits a b = true) := by
  unfold tog
  rw [Bool.and_eq_true, Bool.and_eq_true, decide_eq_true_eq, rgAdj_iff, List.all_eq_true]
  constructor
  · rintro ⟨h1, h2, h3⟩
    exact ⟨h1, fun k g hk => h2 g (List.mem_of_getElem? hk), h3⟩
  · rintro ⟨h1, h2, h3⟩
    exact ⟨h1, fun g hg => by obtain ⟨k, hk⟩ := List.getElem?_of_mem hg; exact h2 k g hk, h3⟩
/-- What an archive's text, without blanks around it, says, or its error. -/
def rgV (t : List Nat) : (Int × Int) × Int := match spl 58 t with
  | [a, b] => (match amt a, amt b with
    | some (x, _), some (y, s) => if x = 0 ∨ 1099511627776 < x ∨ 1099511627776 < y then ((0, 0), 3) else (((x : Int), if s then (y : Int) / (x : Int) else (y : Int)), 0)
    | _, _ => ((0, 0), 7))
  | _ => ((0, 0), 7)
theorem rgV_err (t : List Nat) : (rgV t).2 = 7 ∨ (rgV t).2 = 3 ∨ (rgV t).2 = 0 := by
  unfold rgV
  split
  · split
    · split
      · exact .inr (.inl rfl)
      · exact .inr (.inr rfl)
    · exact .inl rfl
  · exact .inl rfl
/-- What is said of a list's parts. -/
def rsV (ps : List (List Nat)) : List ((Int × Int) × Int) := ps.map fun p => rgV (trimB p)
def lstV (rs : List ((Int × Int) × Int)) : List (Int × Int) × Int :=
  if rs.any (fun r => r.2 == 7) then ([], 7) else if rs.any (fun r => r.2 == 3) then ([], 3) else if 4 < rs.length then ([], 11)
  else if tog (rs.map (·.1)) then (rs.map (·.1), 0) else ([], 1)
def parseV (l : List Nat) : List (Int × Int) × Int := lstV (rsV (spl 44 l))
theorem parse_rows {l : List Nat} {r : List (Int × Int)} (h : parseV l = (r, 0)) : tog r = true := by
  unfold parseV lstV at h
  generalize rsV (spl 44 l) = rs at h
  split at h
  · injection h with _ h; cases h
  · split at h
    · injection h with _ h; cases h
    · split at h
      · injection h with _ h; cases h
      · split at h
        · rename_i ht
          injection h with h _
          rw [← h]; exact ht
        · injection h with _ h; cases h
theorem parse_none {l : List Nat} (h : (parseV l).2 ≠ 0) : (parseV l).1 = [] := by
  unfold parseV lstV at *
  generalize rsV (spl 44 l) = rs at *
  repeat' split
  all_goals first
    | rfl
    | (rename_i h1 h2 h3 h4; rw [if_neg h1, if_neg h2, if_neg h3, if_pos h4] at h; exact absurd rfl h)
end Go.Proofs.YtodlgbihdehmbaaGreatDoor
