/-
  Plain facts on rings, for the statements of layer 13: a ring is its step and its slots, a slot its time and its value. Nothing of the program is imported.
-/
set_option linter.unusedSimpArgs false
set_option linter.unusedVariables false
namespace Go.Proofs.Ytkgajlklhcmmcaa
/-- May a number be a time? -/
def rTm (t : Int) : Bool := decide (0 ≤ t ∧ t ≤ 1099511627776)
/-- May a ring have such a step, and so many slots? -/
def rMay (s n : Int) : Bool := decide (1 ≤ s ∧ s ≤ 86400 ∧ 1 ≤ n ∧ n ≤ 400)
/-- A slot without a value. -/
def rEmp (g : Int × Int) : Bool := decide (g.1 = -1 ∧ g.2 = 0)
/-- The place of a time. -/
def rPl (s : Int) (n : Nat) (t : Int) : Int := t / s % (n : Int)
/-- A slot that isn't empty, at its place. -/
def rFits (s : Int) (n : Nat) (i : Nat) (g : Int × Int) : Bool := rTm g.1 && decide (g.1 % s = 0) && decide (rPl s n g.1 = (i : Int)) && decide (g.2 ≠ -9223372036854775808)
def rOk (s : Int) (n : Nat) (i : Nat) (g : Int × Int) : Bool := rEmp g || rFits s n i g
def rRight (s : Int) (l : List (Int × Int)) : Bool := rMay s l.length && (List.range l.length).all fun i => rOk s l.length i (l[i]?.getD (0, 0))
theorem rTm_iff {t : Int} : rTm t = true ↔ 0 ≤ t ∧ t ≤ 1099511627776 := by unfold rTm; exact decide_eq_true_iff
theorem rMay_iff {s n : Int} : rMay s n = true ↔ 1 ≤ s ∧ s ≤ 86400 ∧ 1 ≤ n ∧ n ≤ 400 := by unfold rMay; exact decide_eq_true_iff
theorem rEmp_iff {g : Int × Int} : rEmp g = true ↔ g = (-1, 0) := by
  unfold rEmp
  rw [decide_eq_true_iff]
  exact ⟨fun h => Prod.ext h.1 h.2, fun h => by rw [h]; exact ⟨rfl, rfl⟩⟩
theorem rFits_iff {s : Int} {n i : Nat} {g : Int × Int} : rFits s n i g = true ↔ (0 ≤ g.1 ∧ g.1 ≤ 1099511627776) ∧ g.1 % s = 0 ∧ rPl s n g.1 = (i : Int) ∧ g.2 ≠ -9223372036854775808 := by
  unfold rFits
  rw [Bool.and_eq_true, Bool.and_eq_true, Bool.and_eq_true, rTm_iff, decide_eq_true_iff, decide_eq_true_iff, decide_eq_true_iff]
  exact ⟨fun ⟨⟨⟨a, b⟩, c⟩, d⟩ => ⟨a, b, c, d⟩, fun ⟨a, b, c, d⟩ => ⟨⟨⟨a, b⟩, c⟩, d⟩⟩
theorem rRight_iff {s : Int} {l : List (Int × Int)} : rRight s l = true ↔ rMay s l.length = true ∧ ∀ (i : Nat) (g : Int × Int), l[i]? = some g → rOk s l.length i g = true := by
  unfold rRight
  rw [Bool.and_eq_true, List.all_eq_true]
  refine and_congr_right fun _ => ⟨fun h i g hg => ?_, fun h i hi => ?_⟩
  · have hlt := (List.getElem?_eq_some_iff.1 hg).1
    have h2 := h i (List.mem_range.2 hlt)
    rw [hg] at h2
    exact h2
  · have hlt := List.mem_range.1 hi
    have hg := List.getElem?_eq_getElem hlt
    rw [hg]
    exact h i _ hg
/-- In a ring that is right a slot is empty just where its time is -1. -/
theorem rOk_emp {s : Int} {n i : Nat} {g : Int × Int} (h : rOk s n i g = true) : g.1 = -1 ↔ g = (-1, 0) := by
  unfold rOk at h
  rw [Bool.or_eq_true, rEmp_iff, rFits_iff] at h
  constructor
  · intro he
    rcases h with h | h
    · exact h
    · omega
  · intro he; rw [he]
theorem rOk_full {s : Int} {n i : Nat} {g : Int × Int} (h : rOk s n i g = true) (hg : g.1 ≠ -1) : rFits s n i g = true := by
  unfold rOk at h
  rw [Bool.or_eq_true] at h
  rcases h with h | h
  · rw [rEmp_iff] at h; rw [h] at hg; exact absurd rfl hg
  · exact h
/-- The slot of a time. -/
def rAt (s t : Int) : Int := t - t % s
def rAl (s : Int) (l : List (Int × Int)) (t : Int) : Option Int := if rRight s l = true ∧ rTm t = true then some (rAt s t) else none
/-- The value of a slot in a ring that is right. -/
def rVal (s : Int) (l : List (Int × Int)) (a : Int) : Option Int := match l[(rPl s l.length a).toNat]? with
  | some g => if g.1 = a then some g.2 else none
  | none => none
def rGet (s : Int) (l : List (Int × Int)) (t : Int) : Option Int := if rRight s l = true ∧ rTm t = true then rVal s l (rAt s t) else none
def rSet (s : Int) (l : List (Int × Int)) (t v : Int) : Option (List (Int × Int)) := if (rRight s l = true ∧ rTm t = true) ∧ v ≠ -9223372036854775808 then some (l.set (rPl s l.length (rAt s t)).toNat (rAt s t, v)) else none
theorem rAt_facts {s t : Int} (hs : 1 ≤ s) (ht : 0 ≤ t) : 0 ≤ rAt s t ∧ rAt s t ≤ t ∧ rAt s t % s = 0 ∧ rAt s t / s = t / s ∧ rAt s t = s * (t / s) := by
  have h0 : 0 ≤ t % s := Int.emod_nonneg _ (by omega)
  have h1 : t % s < s := Int.emod_lt_of_pos _ (by omega)
  have h2 := Int.mul_ediv_add_emod t s
  have e : rAt s t = s * (t / s) := by unfold rAt; omega
  refine ⟨?_, by unfold rAt; omega, ?_, ?_, e⟩
  · rw [e]; exact Int.mul_nonneg (by omega) (Int.ediv_nonneg ht (by omega))
  · rw [e]; exact Int.mul_emod_right s _
  · rw [e, Int.mul_ediv_cancel_left _ (by omega)]
theorem rPl_facts {s t : Int} {n : Nat} (_hs : 1 ≤ s) (_ht : 0 ≤ t) (hn : 1 ≤ n) : 0 ≤ rPl s n t ∧ rPl s n t < n ∧ (rPl s n t).toNat < n := by
  unfold rPl
  have h0 : 0 ≤ t / s % (n : Int) := Int.emod_nonneg _ (by omega)
  have h1 : t / s % (n : Int) < n := Int.emod_lt_of_pos _ (by omega)
  omega
theorem rPl_at {s t : Int} {n : Nat} (hs : 1 ≤ s) (ht : 0 ≤ t) : rPl s n (rAt s t) = rPl s n t := by
  unfold rPl
  rw [(rAt_facts hs ht).2.2.2.1]
/-- What is set, is right. -/
theorem rSet_right {s : Int} {l m : List (Int × Int)} {t v : Int} (h : rSet s l t v = some m) : rRight s m = true ∧ m.length = l.length := by
  unfold rSet at h
  split at h
  · rename_i hc
    obtain ⟨⟨hr, ht⟩, hv⟩ := hc
    obtain rfl := Option.some.inj h
    refine ⟨?_, List.length_set⟩
    obtain ⟨hm, hall⟩ := rRight_iff.1 hr
    obtain ⟨m1, m2, m3, m4⟩ := rMay_iff.1 hm
    obtain ⟨t0, t1⟩ := rTm_iff.1 ht
    obtain ⟨a0, a1, a2, a3, a4⟩ := rAt_facts (s := s) m1 t0
    refine rRight_iff.2 ⟨by rw [List.length_set]; exact hm, fun i g hg => ?_⟩
    rw [List.length_set]
    rw [List.getElem?_set] at hg
    obtain ⟨p0, p1, p2⟩ := rPl_facts (s := s) (t := rAt s t) (n := l.length) m1 a0 (by omega)
    split at hg
    · rename_i hi
      first | rw [if_pos p2] at hg | skip
      obtain rfl := Option.some.inj hg
      unfold rOk
      rw [Bool.or_eq_true]
      exact Or.inr (rFits_iff.2 ⟨⟨a0, by omega⟩, a2, by simp only; omega, hv⟩)
    · exact hall i g hg
  · cases h
/-- What was set is told. -/
theorem rSet_get {s : Int} {l m : List (Int × Int)} {t v : Int} (h : rSet s l t v = some m) : rGet s m t = some v := by
  obtain ⟨h1, h2⟩ := rSet_right h
  unfold rSet at h
  split at h
  · rename_i hc
    obtain ⟨⟨hr, ht⟩, hv⟩ := hc
    obtain rfl := Option.some.inj h
    obtain ⟨hm, hall⟩ := rRight_iff.1 hr
    obtain ⟨m1, m2, m3, m4⟩ := rMay_iff.1 hm
    obtain ⟨t0, t1⟩ := rTm_iff.1 ht
    obtain ⟨a0, a1, a2, a3, a4⟩ := rAt_facts (s := s) m1 t0
    obtain ⟨p0, p1, p2⟩ := rPl_facts (s := s) (t := rAt s t) (n := l.length) m1 a0 (by omega)
    unfold rGet
    rw [if_pos ⟨h1, ht⟩]
    unfold rVal
    rw [h2, List.getElem?_set, if_pos rfl, if_pos p2]
    exact if_pos rfl
  · cases h
theorem rGet_no {s : Int} {l : List (Int × Int)} {t : Int} (h : ¬ (rRight s l = true ∧ rTm t = true)) : rGet s l t = none := if_neg h
theorem rGet_yes {s : Int} {l : List (Int × Int)} {t : Int} (h : rRight s l = true ∧ rTm t = true) : rGet s l t = rVal s l (rAt s t) := if_pos h
/-- A value of a slot is one that may be. -/
theorem rVal_ok {s : Int} {l : List (Int × Int)} {a v : Int} (hr : rRight s l = true) (ha : 0 ≤ a) (h : rVal s l a = some v) : v ≠ -9223372036854775808 := by
  unfold rVal at h
  split at h
  · rename_i g hg
    split at h
    · rename_i he
      obtain rfl := Option.some.inj h
      have := rOk_full ((rRight_iff.1 hr).2 _ g hg) (by omega)
      exact (rFits_iff.1 this).2.2.2
    · cases h
  · cases h
/-! ### New rings -/
def rNew (n : Nat) : List (Int × Int) := List.replicate n (-1, 0)
theorem rNew_right {s : Int} {n : Nat} (h : rMay s n = true) : rRight s (rNew n) = true := by
  refine rRight_iff.2 ⟨by unfold rNew; rw [List.length_replicate]; exact h, fun i g hg => ?_⟩
  unfold rNew at hg
  have : g = (-1, 0) := (List.mem_replicate.1 (List.mem_of_getElem? hg)).2
  subst this
  rfl
/-! ### Spans -/
/-- How many multiples of a step there are below a time. -/
def rUp (s t : Int) : Int := (t + s - 1) / s
def rCnt (n : Nat) (f : Nat → Option Int) : List (Option Int) × Int := if n > 2000 then ([], 11) else ((List.range n).map f, 0)
def rSpan (s : Int) (l : List (Int × Int)) (f u : Int) : List (Option Int) × Int :=
  if rRight s l = true ∧ rTm f = true ∧ rTm u = true then
    rCnt (rUp s u - rUp s f).toNat (fun i => rVal s l ((rUp s f + (i : Int)) * s))
  else ([], 1)
theorem rSpan_eq {s : Int} {l : List (Int × Int)} {f u : Int} (hr : rRight s l = true) (hf : rTm f = true) (hu : rTm u = true) : rSpan s l f u = rCnt (rUp s u - rUp s f).toNat (fun i => rVal s l ((rUp s f + (i : Int)) * s)) := if_pos ⟨hr, hf, hu⟩
theorem rSpan_no {s : Int} {l : List (Int × Int)} {f u : Int} (h : ¬ (rRight s l = true ∧ rTm f = true ∧ rTm u = true)) : rSpan s l f u = ([], 1) := if_neg h
theorem rUp_le {s t k : Int} (hs : 1 ≤ s) : k * s < t ↔ k < rUp s t := by
  unfold rUp
  have h : k + 1 ≤ (t + s - 1) / s ↔ (k + 1) * s ≤ t + s - 1 := Int.le_ediv_iff_mul_le (by omega)
  rw [Int.add_mul] at h
  omega
theorem rUp_facts {s t : Int} (hs : 1 ≤ s) (ht : 0 ≤ t) : 0 ≤ rUp s t ∧ t ≤ rUp s t * s ∧ rUp s t * s ≤ t + s - 1 := by
  have h1 : ¬ (rUp s t < rUp s t) := by omega
  rw [← rUp_le hs] at h1
  refine ⟨Int.ediv_nonneg (by omega) (by omega), by omega, Int.ediv_mul_le _ (by omega)⟩
theorem rUp_mono {s a b : Int} (hs : 1 ≤ s) (h : a ≤ b) : rUp s a ≤ rUp s b := by
  unfold rUp
  exact Int.ediv_le_ediv (by omega) (by omega)
theorem range_map_add {α : Type} (f : Nat → α) (a b : Nat) : (List.range (a + b)).map f = (List.range a).map f ++ (List.range b).map (fun i => f (a + i)) := by
  rw [List.range_add, List.map_append, List.map_map]
  rfl
/-- P13.3: a span is its parts. -/
theorem rSpan_parts {s : Int} {l : List (Int × Int)} {a b c : Int} (hr : rRight s l = true) (ha : rTm a = true) (hb : rTm b = true) (hc : rTm c = true) (h1 : a ≤ b) (h2 : b ≤ c) :
    ((rSpan s l a b).2 ≠ 0 ∨ (rSpan s l b c).2 ≠ 0 → (rSpan s l a c).2 = 11) ∧
    ((rSpan s l a b).2 = 0 → (rSpan s l b c).2 = 0 → (rSpan s l a c).2 = 11 ∧ 2000 < (rSpan s l a b).1.length + (rSpan s l b c).1.length ∨ (rSpan s l a c).2 = 0 ∧ (rSpan s l a c).1 = (rSpan s l a b).1 ++ (rSpan s l b c).1) := by
  obtain ⟨hm, -⟩ := rRight_iff.1 hr
  obtain ⟨m1, m2, m3, m4⟩ := rMay_iff.1 hm
  have k1 := rUp_mono m1 h1
  have k2 := rUp_mono m1 h2
  rw [rSpan_eq hr ha hb, rSpan_eq hr hb hc, rSpan_eq hr ha hc]
  have e : (rUp s c - rUp s a).toNat = (rUp s b - rUp s a).toNat + (rUp s c - rUp s b).toNat := by omega
  have e2 : ∀ i : Nat, (rUp s a + (((rUp s b - rUp s a).toNat + i : Nat) : Int)) = rUp s b + (i : Int) := fun i => by omega
  generalize (rUp s b - rUp s a).toNat = p at *
  generalize (rUp s c - rUp s b).toNat = q at *
  rw [e]
  unfold rCnt
  by_cases g1 : p > 2000
  · rw [if_pos g1, if_pos (show p + q > 2000 by omega)]
    exact ⟨fun _ => rfl, fun h => absurd h (by decide)⟩
  · rw [if_neg g1]
    by_cases g2 : q > 2000
    · rw [if_pos g2, if_pos (show p + q > 2000 by omega)]
      exact ⟨fun _ => rfl, fun _ h => absurd h (by decide)⟩
    · rw [if_neg g2]
      refine ⟨fun h => by rcases h with h | h <;> exact absurd rfl h, fun _ _ => ?_⟩
      by_cases g3 : p + q > 2000
      · rw [if_pos g3]
        refine Or.inl ⟨rfl, ?_⟩
        simp only [List.length_map, List.length_range]
        omega
      · rw [if_neg g3]
        refine Or.inr ⟨rfl, ?_⟩
        simp only
        rw [range_map_add]
        congr 1
        refine List.map_congr_left fun i _ => ?_
        rw [e2]
/-! ### What lives -/
def rFull (l : List (Int × Int)) : List (Int × Int) := l.filter fun g => !(decide (g.1 = -1))
/-- The slots that have a value, by rising time. -/
structure rLive (s : Int) (l S : List (Int × Int)) : Prop where
  yes : rRight s l = true → S.Perm (rFull l) ∧ S.Pairwise fun a b => a.1 ≤ b.1
  no : rRight s l = false → S = []
theorem rRight_apart {s : Int} {l : List (Int × Int)} (h : rRight s l = true) {i j : Nat} {a b : Int × Int} (hi : l[i]? = some a) (hj : l[j]? = some b) (ha : a.1 ≠ -1) (hab : a.1 = b.1) : i = j := by
  obtain ⟨_, hall⟩ := rRight_iff.1 h
  have h1 := (rFits_iff.1 (rOk_full (hall i a hi) ha)).2.2.1
  have h2 := (rFits_iff.1 (rOk_full (hall j b hj) (by rw [← hab]; exact ha))).2.2.1
  rw [hab] at h1
  rw [h1] at h2
  omega
theorem rLive_one {s : Int} {l S S' : List (Int × Int)} (h : rLive s l S) (h' : rLive s l S') : S = S' := by
  cases hr : rRight s l with
  | false => rw [h.no hr, h'.no hr]
  | true =>
    obtain ⟨p, q⟩ := h.yes hr
    obtain ⟨p', q'⟩ := h'.yes hr
    refine List.Perm.eq_of_pairwise (le := fun a b => a.1 ≤ b.1) ?_ q q' (p.trans p'.symm)
    intro a b ha hb h1 h2
    have ma := p.mem_iff.1 ha
    have mb := p'.mem_iff.1 hb
    unfold rFull at ma mb
    rw [List.mem_filter] at ma mb
    obtain ⟨i, hi⟩ := List.getElem?_of_mem ma.1
    obtain ⟨j, hj⟩ := List.getElem?_of_mem mb.1
    have na : a.1 ≠ -1 := by simpa using ma.2
    obtain rfl := rRight_apart hr hi hj na (by omega)
    rw [hi] at hj
    exact Option.some.inj hj
theorem rFull_length (l : List (Int × Int)) : (rFull l).length ≤ l.length := List.length_filter_le _ _
end Go.Proofs.Ytkgajlklhcmmcaa
