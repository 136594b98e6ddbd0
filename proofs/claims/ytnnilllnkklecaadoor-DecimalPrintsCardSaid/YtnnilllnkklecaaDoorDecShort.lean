/-
  No printed text says the same without its last byte, or, but for a nought ahead of a point, without its first one. Nothing of the program is imported.
-/
import Derived.Test.YtnnilllnkklecaaDoorDecBack
set_option linter.unusedSimpArgs false
set_option linter.unusedVariables false
namespace Go.Proofs.YtnnilllnkklecaaDoor
theorem foldl_val : ∀ (l : List Nat) (V : Nat), l.foldl (fun n c => n * 10 + (c - 48)) V = V * 10 ^ l.length + val l := by
  intro l
  induction l with
  | nil => intro V; show V = V * 1 + 0; omega
  | cons c l ih =>
    intro V
    rw [List.foldl_cons, ih, List.length_cons]
    have e : val (c :: l) = (0 * 10 + (c - 48)) * 10 ^ l.length + val l := by
      show (c :: l).foldl _ 0 = _
      rw [List.foldl_cons, ih]
    rw [e, Nat.pow_succ, Nat.add_mul]
    have : V * 10 * 10 ^ l.length = V * (10 ^ l.length * 10) := by rw [Nat.mul_assoc, Nat.mul_comm 10]
    rw [this]
    simp only [Nat.zero_mul, Nat.zero_add]
    omega
theorem magn_gen (i : List Nat) (p : Nat) (hp : p < 1000000) : magn i (frF 6 p) = val i * 1000000 + p := by
  unfold magn
  have hl := frF_length 6 p
  rw [List.take_of_length_le hl, val_append, frF_val 6 (Nat.le_refl _) p (val i) hp, byte_past hl]
  simp
theorem canon_gen {i : List Nat} (hi : allD i = true) (p : Nat) (hp : p < 1000000) (hne : i ≠ [] ∨ p ≠ 0) (neg : Bool) :
    canon (i ++ evF p) neg = if 9223372036854775807 < val i * 1000000 + p then (0, 3) else (if neg then -((val i * 1000000 + p : Nat) : Int) else ((val i * 1000000 + p : Nat) : Int), 0) := by
  unfold canon evF
  by_cases h : p = 0
  · have hi0 : i ≠ [] := hne.resolve_right (fun e => e h)
    rw [if_pos h, List.append_nil, (parts_no hi).1, (parts_no hi).2, if_pos ⟨hi, rfl, by simpa using hi0⟩]
    have := magn_gen i 0 (by decide)
    rw [frF_zero] at this
    rw [this, h]
  · have hf : frF 6 p ≠ [] := by rw [frF_step h]; simp
    rw [if_neg h, (parts_of hi).1, (parts_of hi).2, if_pos ⟨hi, allD_frF 6 p hp, by simp [hf]⟩, magn_gen i p hp]
/-- What is said has the size that its digits say. -/
theorem canon_abs {t : List Nat} {neg : Bool} {v : Int} (h : canon t neg = (v, 0)) : v.natAbs = magn (ipart t) (fpart t) := by
  unfold canon at h
  split at h
  · split at h
    · simp at h
    · simp only [Prod.mk.injEq, and_true] at h
      split at h <;> omega
  · simp at h
theorem frF_last : ∀ (k : Nat), k ≤ 6 → ∀ x : Nat, x ≠ 0 → x < 1000000 → x % 10 ^ (6 - k) = 0 → ∃ G c, frF k x = G ++ [c] ∧ 48 < c := by
  intro k
  induction k with
  | zero => intro _ x h hx hm; exact absurd (fr_end hm hx) h
  | succ k ih =>
    intro hk x h hx hm
    rw [frF_step h]
    by_cases h' : x % 100000 * 10 = 0
    · rw [h', frF_zero]
      exact ⟨[], 48 + x / 100000, rfl, by omega⟩
    · obtain ⟨G, c, hG, hc⟩ := ih (by omega) (x % 100000 * 10) h' (by omega) (by
        rw [show 6 - k = 6 - (k + 1) + 1 from by omega]
        exact fr_div hm (by omega))
      exact ⟨(48 + x / 100000) :: G, c, by rw [hG]; rfl, hc⟩
theorem magn_less {i G : List Nat} {c : Nat} (hl : (G ++ [c]).length ≤ 6) (hc : 48 < c) : magn i G < magn i (G ++ [c]) := by
  have hg : G.length + 1 ≤ 6 := by simpa using hl
  unfold magn
  rw [List.take_of_length_le hl, List.take_of_length_le (by omega : G.length ≤ 6), byte_past hl, byte_past (by omega : G.length ≤ 6), ← List.append_assoc, val_snoc, List.length_append]
  obtain ⟨j, hj⟩ : ∃ j, 6 - (G.length + 1) = j := ⟨_, rfl⟩
  rw [show 6 - G.length = j + 1 from by omega]
  show _ < (val (i ++ G) * 10 + (c - 48)) * 10 ^ (6 - (G.length + 1)) + _
  rw [hj, Nat.pow_succ, Nat.add_mul]
  have e : val (i ++ G) * (10 ^ j * 10) = val (i ++ G) * 10 * 10 ^ j := by rw [Nat.mul_comm (10 ^ j) 10, ← Nat.mul_assoc]
  rw [e]
  have hpos : 0 < (c - 48) * 10 ^ j := Nat.mul_pos (by omega) (Nat.pow_pos (by decide))
  simp only [show ¬ 53 ≤ 0 from by decide, if_false]
  omega
theorem canP_none {l : List Nat} (h : cut1 l = []) (v : Int) : canP l ≠ (v, 0) := by
  unfold canP
  split
  · intro e; simp at e
  · rw [h]; intro e
    have : canon [] (sgnB l) = (0, 2) := by unfold canon; rw [if_neg (fun h => h.2.2 rfl)]
    rw [this] at e; simp at e
theorem canP_abs {l : List Nat} {v : Int} (h : canP l = (v, 0)) : v.natAbs = magn (ipart (cut1 l)) (fpart (cut1 l)) := by
  unfold canP at h
  split at h
  · simp at h
  · exact canon_abs h
/-- Without its last byte a number's digits say another size, or nothing. -/
theorem size_last (a : Nat) : (sizeS a).dropLast = [] ∨ (byteAt (sizeS a).dropLast 0 ≠ 45 ∧ byteAt (sizeS a).dropLast 0 ≠ 43 ∧ magn (ipart (sizeS a).dropLast) (fpart (sizeS a).dropLast) < a) := by
  rw [size_ev]
  obtain ⟨q, hq⟩ : ∃ q, a / 1000000 = q := ⟨_, rfl⟩
  obtain ⟨p, hp⟩ : ∃ p, a % 1000000 = p := ⟨_, rfl⟩
  have hp1 : p < 1000000 := by omega
  have ha : q * 1000000 + p = a := by omega
  rw [hq, hp]
  by_cases h : p = 0
  · have e0 : evF p = [] := if_pos h
    rw [e0, List.append_nil]
    by_cases hq1 : q < 10
    · left; rw [digs_small hq1]; rfl
    · right
      rw [digs_big hq1, List.dropLast_concat]
      have hd := digs_head (q / 10) []
      rw [List.append_nil] at hd
      refine ⟨hd.1, hd.2, ?_⟩
      rw [(parts_no (allD_digs _)).1, (parts_no (allD_digs _)).2]
      have := magn_gen (digs (q / 10)) 0 (by decide)
      rw [frF_zero] at this
      rw [this, val_digs]
      omega
  · right
    obtain ⟨G, c, hG, hc⟩ := frF_last 6 (Nat.le_refl _) p h hp1 (Nat.mod_one _)
    have e0 : evF p = 46 :: (G ++ [c]) := by rw [← hG]; exact if_neg h
    have ed : (digs q ++ 46 :: (G ++ [c])).dropLast = digs q ++ 46 :: G := by
      rw [show digs q ++ 46 :: (G ++ [c]) = (digs q ++ 46 :: G) ++ [c] from by simp, List.dropLast_concat]
    rw [e0, ed]
    refine ⟨(digs_head q _).1, (digs_head q _).2, ?_⟩
    rw [(parts_of (allD_digs q)).1, (parts_of (allD_digs q)).2]
    have h1 := magn_less (i := digs q) (G := G) (c := c) (by rw [← hG]; exact frF_length 6 p) hc
    rw [← hG, magn_size q p hp1, ha] at h1
    exact h1
theorem sizeS_ne (a : Nat) : sizeS a ≠ [] := by rw [size_ev]; simp [digs_ne]
theorem short_last (v : Int) : canP (printS (some v)).dropLast ≠ (v, 0) := by
  show canP ((if v < 0 then [45] else []) ++ sizeS v.natAbs).dropLast ≠ (v, 0)
  have hs := size_last v.natAbs
  by_cases h : v < 0
  · rw [if_pos h, List.dropLast_append_of_ne_nil (sizeS_ne _)]
    rcases hs with e | ⟨-, -, hlt⟩
    · rw [e]; exact canP_none rfl v
    · intro hc
      have := canP_abs hc
      rw [List.cons_append, List.nil_append, (cut_minus _).1] at this
      omega
  · rw [if_neg h, List.nil_append]
    rcases hs with e | ⟨h1, h2, hlt⟩
    · rw [e]; exact canP_none rfl v
    · intro hc
      have := canP_abs hc
      rw [(cut_plain ⟨h1, h2⟩).1] at this
      omega
theorem digs_lead : ∀ (n : Nat), n ≠ 0 → ∃ d l, digs n = d :: l ∧ 48 < d ∧ d ≤ 57 ∧ allD l = true ∧ (10 ≤ n → l ≠ []) := by
  intro n
  induction n using Nat.strongRecOn with
  | _ n ih =>
    intro h
    by_cases h1 : n < 10
    · exact ⟨48 + n, [], digs_small h1, by omega, by omega, rfl, fun h => by omega⟩
    · obtain ⟨d, l, e, hd, hd2, hA, -⟩ := ih (n / 10) (by omega) (by omega)
      refine ⟨d, l ++ [48 + n % 10], by rw [digs_big h1, e]; rfl, hd, hd2, ?_, fun _ => by simp⟩
      rw [allD_append]
      refine ⟨hA, ?_⟩
      rw [allD_cons]
      exact ⟨by simp [isD]; omega, rfl⟩
theorem head_plain {l : List Nat} (hl : allD l = true) (hne : l ≠ []) (m : List Nat) : byteAt (l ++ m) 0 ≠ 45 ∧ byteAt (l ++ m) 0 ≠ 43 := by
  obtain ⟨c, r, rfl⟩ := List.exists_cons_of_ne_nil hne
  have hc := isD_bounds (allD_cons.1 hl).1
  show c ≠ 45 ∧ c ≠ 43
  omega
/-- Without its first byte: refused, or another number, but for a nought ahead of a point. -/
theorem short_first {v : Int} (h0 : -9223372036854775807 ≤ v) (h1 : v ≤ 9223372036854775807) :
    (canP ((printS (some v)).drop 1)).2 ≠ 0 ∨ (decide (0 < v ∧ v < 1000000) = decide ((canP ((printS (some v)).drop 1)).1 = v)) := by
  have hlen := print_length h0 h1
  have hlen1 : ¬ 64 < ((printS (some v)).drop 1).length := by rw [List.length_drop]; omega
  show (canP (((if v < 0 then [45] else []) ++ sizeS v.natAbs).drop 1)).2 ≠ 0 ∨ _ = decide ((canP (((if v < 0 then [45] else []) ++ sizeS v.natAbs).drop 1)).1 = v)
  have hlen2 : ¬ 64 < (((if v < 0 then [45] else []) ++ sizeS v.natAbs).drop 1).length := hlen1
  obtain ⟨a, ha⟩ : ∃ a, v.natAbs = a := ⟨_, rfl⟩
  rw [ha] at hlen2 ⊢
  obtain ⟨q, hq⟩ : ∃ q, a / 1000000 = q := ⟨_, rfl⟩
  obtain ⟨p, hp⟩ : ∃ p, a % 1000000 = p := ⟨_, rfl⟩
  have hp1 : p < 1000000 := by omega
  have hap : q * 1000000 + p = a := by omega
  by_cases h : v < 0
  · right
    rw [if_pos h] at hlen2 ⊢
    have ed : ([45] ++ sizeS a).drop 1 = sizeS a := rfl
    rw [ed] at hlen2 ⊢
    have hc : canP (sizeS a) = ((a : Int), 0) := by
      unfold canP
      rw [if_neg hlen2, size_ev, (cut_plain (digs_head _ _)).1, (cut_plain (digs_head _ _)).2, hq, hp, canon_size q p hp1, hap, if_neg (by omega)]
      rfl
    rw [hc]
    have e1 : decide (0 < v ∧ v < 1000000) = false := by rw [decide_eq_false_iff_not]; omega
    have e2 : decide ((a : Int) = v) = false := by rw [decide_eq_false_iff_not]; omega
    rw [e1, e2]
  · rw [if_neg h, List.nil_append] at hlen2 ⊢
    rw [size_ev, hq, hp] at hlen2 ⊢
    by_cases hq1 : q < 10
    · have ed : (digs q ++ evF p).drop 1 = evF p := by rw [digs_small hq1]; rfl
      rw [ed] at hlen2 ⊢
      by_cases hp0 : p = 0
      · left
        have e0 : evF p = [] := if_pos hp0
        rw [e0]
        decide
      · right
        have e0 : evF p = 46 :: frF 6 p := if_neg hp0
        have hc : canP (evF p) = ((p : Int), 0) := by
          unfold canP
          have hh : byteAt (evF p) 0 ≠ 45 ∧ byteAt (evF p) 0 ≠ 43 := by rw [e0]; exact ⟨(show (46 : Nat) ≠ 45 from by decide), (show (46 : Nat) ≠ 43 from by decide)⟩
          rw [if_neg hlen2, (cut_plain hh).1, (cut_plain hh).2]
          have := canon_gen (i := []) rfl p hp1 (.inr hp0) false
          rw [List.nil_append] at this
          rw [this, if_neg (by show ¬ _ < 0 * 1000000 + p; omega)]
          show (((0 * 1000000 + p : Nat) : Int), (0 : Int)) = _
          rw [Nat.zero_mul, Nat.zero_add]
        rw [hc, decide_eq_decide]
        show (0 < v ∧ v < 1000000) ↔ (p : Int) = v
        omega
    · right
      obtain ⟨d, l, e, hd, hd2, hA, hne⟩ := digs_lead q (by omega)
      have hl := hne (by omega)
      have ed : (digs q ++ evF p).drop 1 = l ++ evF p := by rw [e]; rfl
      rw [ed] at hlen2 ⊢
      have hval : val l < q := by
        have hv := val_digs q
        rw [e] at hv
        have e2 : val (d :: l) = (0 * 10 + (d - 48)) * 10 ^ l.length + val l := by
          show (d :: l).foldl _ 0 = _
          rw [List.foldl_cons, foldl_val]
        rw [e2] at hv
        have : 0 < (0 * 10 + (d - 48)) * 10 ^ l.length := Nat.mul_pos (by omega) (Nat.pow_pos (by decide))
        omega
      have hh := head_plain hA hl (evF p)
      have hc : canP (l ++ evF p) = (((val l * 1000000 + p : Nat) : Int), 0) := by
        unfold canP
        rw [if_neg hlen2, (cut_plain hh).1, (cut_plain hh).2, canon_gen hA p hp1 (.inl hl), if_neg (by omega)]
        rfl
      rw [hc, decide_eq_decide]
      show (0 < v ∧ v < 1000000) ↔ ((val l * 1000000 + p : Nat) : Int) = v
      omega
end Go.Proofs.YtnnilllnkklecaaDoor
