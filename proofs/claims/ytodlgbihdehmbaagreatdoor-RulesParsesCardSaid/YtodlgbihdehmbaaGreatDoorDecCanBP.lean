/-
  What a number's text says, said once and for all: its sign, the digits ahead of the point, those behind it. The document's own Parse, byte by byte, comes to that. Nothing of the program is imported.
-/
import Derived.Test.YtodlgbihdehmbaaGreatDoorDecRunP
set_option linter.unusedSimpArgs false
set_option linter.unusedVariables false
namespace Go.Proofs.YtodlgbihdehmbaaGreatDoor
/-- What stands ahead of the first point, and what behind it. -/
def ipart : List Nat → List Nat
  | [] => []
  | c :: l => if c = 46 then [] else c :: ipart l
def fpart : List Nat → List Nat
  | [] => []
  | c :: l => if c = 46 then l else fpart l
/-- So many millionths, rounded. -/
def magn (i f : List Nat) : Nat := val (i ++ f.take 6) * 10 ^ (6 - f.length) + (if 53 ≤ byteAt f 6 then 1 else 0)
def canon (t : List Nat) (neg : Bool) : Int × Int :=
  if allD (ipart t) = true ∧ allD (fpart t) = true ∧ ipart t ++ fpart t ≠ [] then
    if 9223372036854775807 < magn (ipart t) (fpart t) then (0, 3) else (if neg then -(magn (ipart t) (fpart t) : Int) else (magn (ipart t) (fpart t) : Int), 0)
  else (0, 2)

theorem run_append (l m : List Nat) : ∀ s : PSt, PSt.run (l ++ m) s = (PSt.run l s).bind (PSt.run m) := by
  induction l with
  | nil => intro s; rfl
  | cons c l ih =>
    intro s
    show (match s.step c with
      | some s' => PSt.run (l ++ m) s'
      | none => none) = Option.bind (match s.step c with
      | some s' => PSt.run l s'
      | none => none) (PSt.run m)
    cases s.step c with
    | none => rfl
    | some s' => exact ih s'
theorem run_one (c : Nat) (s : PSt) : PSt.run [c] s = s.step c := by
  show (match s.step c with
    | some s' => PSt.run [] s'
    | none => none) = _
  cases s.step c <;> rfl
/-- The number so far is V, or far beyond and so is V. -/
def Rel (s : PSt) (V : Nat) : Prop := (s.far = false ∧ s.n = V) ∨ (s.far = true ∧ 9223372036854775807 < V)
theorem put_rel {s : PSt} {V c : Nat} (h : Rel s V) : Rel (s.put c) (V * 10 + (c - 48)) := by
  unfold PSt.put
  rcases h with ⟨hf, rfl⟩ | ⟨hf, hV⟩
  · by_cases hb : 1152921504606846976 < s.n
    · rw [if_pos hb]; exact .inr ⟨rfl, by omega⟩
    · rw [if_neg hb]; exact .inl ⟨hf, rfl⟩
  · right
    refine ⟨?_, by omega⟩
    split
    · rfl
    · exact hf
theorem put_d (s : PSt) (c : Nat) : (s.put c).d = s.d ∧ (s.put c).p = s.p ∧ (s.put c).b = s.b ∧ (s.put c).up = s.up := by
  unfold PSt.put; split <;> exact ⟨rfl, rfl, rfl, rfl⟩
theorem pad_rel : ∀ (j : Nat) {s : PSt} {V : Nat}, Rel s V → Rel (PSt.pad j s) (V * 10 ^ j) ∧ (PSt.pad j s).up = s.up
  | 0, s, V, h => ⟨by rw [Nat.pow_zero, Nat.mul_one]; exact h, rfl⟩
  | j + 1, s, V, h => by
    have h1 := put_rel (c := 48) h
    obtain ⟨h2, h3⟩ := pad_rel j h1
    refine ⟨?_, h3.trans (put_d s 48).2.2.2⟩
    rw [Nat.pow_succ, Nat.mul_comm (10 ^ j) 10, ← Nat.mul_assoc]
    exact h2

theorem allD_cons {c : Nat} {l : List Nat} : allD (c :: l) = true ↔ isD c = true ∧ allD l = true := by simp [allD]
theorem allD_append {l m : List Nat} : allD (l ++ m) = true ↔ allD l = true ∧ allD m = true := by simp [allD]
theorem isD_dot {c : Nat} (h : isD c = true) : c ≠ 46 := by have := isD_bounds h; omega
/-- Digits ahead of any point. -/
theorem run_front : ∀ (i : List Nat) (s : PSt) (V : Nat), allD i = true → s.p = 0 → s.b = 0 → Rel s V →
    ∃ s', PSt.run i s = some s' ∧ s'.d = s.d + i.length ∧ s'.p = 0 ∧ s'.b = 0 ∧ s'.up = s.up ∧ Rel s' (i.foldl (fun n c => n * 10 + (c - 48)) V) := by
  intro i
  induction i with
  | nil => intro s V _ hp hb hr; exact ⟨s, rfl, rfl, hp, hb, rfl, hr⟩
  | cons c i ih =>
    intro s V hA hp hb hr
    obtain ⟨hc, hi⟩ := allD_cons.1 hA
    have hst := step_front (s := s) (isD_dot hc) hc hp
    have hpd := put_d { s with d := s.d + 1 } c
    obtain ⟨s', h1, h2, h3, h4, h5, h6⟩ := ih (PSt.put { s with d := s.d + 1 } c) (V * 10 + (c - 48)) hi (hpd.2.1.trans hp) (hpd.2.2.1.trans hb) (put_rel (s := { s with d := s.d + 1 }) hr)
    refine ⟨s', ?_, ?_, h3, h4, h5.trans hpd.2.2.2, h6⟩
    · show (match s.step c with
        | some s' => PSt.run i s'
        | none => none) = _
      rw [hst]; exact h1
    · rw [h2, hpd.1, List.length_cons]; show s.d + 1 + _ = _; omega
/-- Behind a point: points are counted, whatever else. -/
theorem run_points : ∀ (f : List Nat) (s s' : PSt), PSt.run f s = some s' → s'.p = s.p + f.count 46 := by
  intro f
  induction f with
  | nil => intro s s' h; simp [PSt.run] at h; subst h; simp
  | cons c f ih =>
    intro s s' h
    have h' : (s.step c).bind (PSt.run f) = some s' := by
      rw [← h]
      show _ = (match s.step c with
        | some s' => PSt.run f s'
        | none => none)
      cases s.step c <;> rfl
    cases hs : s.step c with
    | none => rw [hs] at h'; simp at h'
    | some s1 =>
      rw [hs] at h'
      have := ih s1 s' h'
      rw [this, List.count_cons]
      unfold PSt.step at hs
      split at hs
      · rename_i h46
        simp at hs; subst hs; simp [h46]; omega
      · rename_i h46
        have hne : (c == 46) = false := by rw [beq_eq_false_iff_ne]; exact h46
        rw [hne]
        have hp : s1.p = s.p := by
          split at hs
          · simp at hs
          · split at hs
            · simp at hs; subst hs; exact (put_d _ _).2.1
            · split at hs
              · simp at hs; subst hs; rfl
              · split at hs
                · simp at hs; subst hs; rfl
                · simp at hs; subst hs; exact (put_d _ _).2.1
        rw [hp]; simp
/-- A byte that is neither a digit nor a point: refused. -/
theorem run_bad : ∀ (f : List Nat) (s : PSt), (∃ c ∈ f, isD c = false ∧ c ≠ 46) → PSt.run f s = none := by
  intro f
  induction f with
  | nil => intro s h; obtain ⟨c, hc, -⟩ := h; simp at hc
  | cons c f ih =>
    intro s h
    show (match s.step c with
      | some s' => PSt.run f s'
      | none => none) = none
    by_cases hb : isD c = false ∧ c ≠ 46
    · rw [step_bad hb.2 hb.1]
    · cases s.step c with
      | none => rfl
      | some s1 =>
        apply ih
        obtain ⟨x, hx, hxb⟩ := h
        rcases List.mem_cons.1 hx with rfl | hx
        · exact absurd hxb hb
        · exact ⟨x, hx, hxb⟩
end Go.Proofs.YtodlgbihdehmbaaGreatDoor
/-
  The document's own Parse, byte by byte, comes to what a number's text says. Nothing of the program is imported.
-/
set_option linter.unusedSimpArgs false
set_option linter.unusedVariables false
namespace Go.Proofs.YtodlgbihdehmbaaGreatDoor
theorem byte_past {l : List Nat} {k : Nat} (h : l.length ≤ k) : byteAt l k = 0 := by
  unfold byteAt; rw [List.getD_eq_getElem?_getD, List.getElem?_eq_none h]; rfl
/-- Digits behind the point. -/
theorem run_behind (f : List Nat) (hA : allD f = true) (s : PSt) (V : Nat) (hp : s.p ≠ 0) (hb : s.b = 0) (hu : s.up = false) (hr : Rel s V) : ∀ k, k ≤ f.length →
    ∃ s', PSt.run (f.take k) s = some s' ∧ s'.d = s.d + k ∧ s'.p = s.p ∧ s'.b = k ∧ s'.up = (decide (7 ≤ k) && decide (53 ≤ byteAt f 6)) ∧ Rel s' ((f.take (min k 6)).foldl (fun n c => n * 10 + (c - 48)) V) := by
  intro k
  induction k with
  | zero => intro _; exact ⟨s, by simp [PSt.run], rfl, rfl, hb, by rw [hu]; rfl, by simpa using hr⟩
  | succ k ih =>
    intro hk
    obtain ⟨s', h1, h2, h3, h4, h5, h6⟩ := ih (by omega)
    have hc := allD_at hA (show k < f.length from hk)
    obtain ⟨c, hcc⟩ : ∃ c, byteAt f k = c := ⟨_, rfl⟩
    rw [hcc] at hc
    have hrun : PSt.run (f.take (k + 1)) s = s'.step c := by
      rw [take_snoc hk, run_append, h1, hcc]
      exact run_one c s'
    have hp' : s'.p ≠ 0 := by rw [h3]; exact hp
    by_cases h7 : k = 6
    · subst h7
      refine ⟨_, hrun.trans (step_seven (isD_dot hc) hc hp' (by rw [h4])), ?_, h3, ?_, ?_, ?_⟩
      · show s'.d + 1 = _; omega
      · show s'.b + 1 = _; omega
      · show decide (53 ≤ c) = _; rw [hcc]; simp
      · exact h6
    · by_cases h8 : 6 < k
      · refine ⟨_, hrun.trans (step_past (isD_dot hc) hc hp' (by rw [h4]; omega) (by rw [h4]; omega)), ?_, h3, ?_, ?_, ?_⟩
        · show s'.d + 1 = _; omega
        · show s'.b + 1 = _; omega
        · show s'.up = _; rw [h5, decide_eq_true (by omega : 7 ≤ k), decide_eq_true (by omega : 7 ≤ k + 1)]
        · rw [show min (k + 1) 6 = min k 6 from by omega]; exact h6
      · have hpd := put_d { s' with d := s'.d + 1, b := s'.b + 1 } c
        refine ⟨_, hrun.trans (step_behind (isD_dot hc) hc hp' (by rw [h4]; omega)), ?_, hpd.2.1.trans h3, ?_, ?_, ?_⟩
        · rw [hpd.1]; show s'.d + 1 = _; omega
        · rw [hpd.2.2.1]; show s'.b + 1 = _; omega
        · rw [hpd.2.2.2]; show s'.up = _; rw [h5, decide_eq_false (by omega : ¬ 7 ≤ k), decide_eq_false (by omega : ¬ 7 ≤ k + 1)]
        · have hput := put_rel (s := { s' with d := s'.d + 1, b := s'.b + 1 }) (c := c) (V := (f.take (min k 6)).foldl (fun n c => n * 10 + (c - 48)) V) h6
          rw [show min (k + 1) 6 = k + 1 from by omega, take_snoc hk, List.foldl_append, hcc]
          rw [show min k 6 = k from by omega] at hput
          exact hput
theorem fin_rel {s : PSt} {V : Nat} (neg : Bool) (hd : ¬ (s.d = 0 ∨ 1 < s.p)) (hr : Rel s V) :
    s.fin neg = if 9223372036854775807 < V * 10 ^ (6 - s.b) + (if s.up then 1 else 0) then (0, 3) else (if neg then -((V * 10 ^ (6 - s.b) + (if s.up then 1 else 0) : Nat) : Int) else ((V * 10 ^ (6 - s.b) + (if s.up then 1 else 0) : Nat) : Int), 0) := by
  obtain ⟨hp, hu⟩ := pad_rel (6 - s.b) hr
  unfold PSt.fin
  rw [if_neg hd]
  show (if (PSt.pad (6 - s.b) s).far = true ∨ 9223372036854775807 < (if (PSt.pad (6 - s.b) s).up then (PSt.pad (6 - s.b) s).n + 1 else (PSt.pad (6 - s.b) s).n) then ((0 : Int), (3 : Int)) else
    (if neg then -((if (PSt.pad (6 - s.b) s).up then (PSt.pad (6 - s.b) s).n + 1 else (PSt.pad (6 - s.b) s).n : Nat) : Int) else ((if (PSt.pad (6 - s.b) s).up then (PSt.pad (6 - s.b) s).n + 1 else (PSt.pad (6 - s.b) s).n : Nat) : Int), 0)) = _
  rw [hu]
  generalize V * 10 ^ (6 - s.b) = X at *
  rcases hp with ⟨hf, hn⟩ | ⟨hf, hX⟩
  · rw [hf, hn]
    cases s.up <;> simp
  · rw [hf, if_pos (.inl rfl), if_pos (by omega)]
theorem part_dot : ∀ (t : List Nat), (46 ∉ t → ipart t = t ∧ fpart t = []) ∧ (46 ∈ t → t = ipart t ++ 46 :: fpart t) ∧ 46 ∉ ipart t := by
  intro t
  induction t with
  | nil => exact ⟨fun _ => ⟨rfl, rfl⟩, fun h => by simp at h, by simp [ipart]⟩
  | cons c t ih =>
    by_cases h : c = 46
    · subst h
      refine ⟨fun hn => by simp at hn, fun _ => ?_, by simp [ipart]⟩
      show 46 :: t = (if (46 : Nat) = 46 then [] else 46 :: ipart t) ++ 46 :: (if (46 : Nat) = 46 then t else fpart t)
      simp
    · have ei : ipart (c :: t) = c :: ipart t := if_neg h
      have ef : fpart (c :: t) = fpart t := if_neg h
      rw [ei, ef]
      refine ⟨fun hn => ?_, fun hm => ?_, ?_⟩
      · have := ih.1 (fun hm => hn (List.mem_cons_of_mem _ hm))
        rw [this.1, this.2]; exact ⟨rfl, rfl⟩
      · have hm' : 46 ∈ t := by
          rcases List.mem_cons.1 hm with e | hm
          · exact absurd e.symm h
          · exact hm
        have := ih.2.1 hm'
        rw [List.cons_append, ← this]
      · intro hm
        rcases List.mem_cons.1 hm with e | hm
        · exact h e.symm
        · exact ih.2.2 hm
theorem allD_false {l : List Nat} (h : allD l ≠ true) : ∃ c ∈ l, isD c = false := by
  have h' : allD l = false := by cases e : allD l <;> simp_all
  unfold allD at h'
  rw [List.all_eq_false] at h'
  obtain ⟨c, hc, hd⟩ := h'
  exact ⟨c, hc, by simpa using hd⟩
theorem zero_rel : Rel PSt.zero 0 := .inl ⟨rfl, rfl⟩
/-- The document's own way through a text comes to what the text says. -/
theorem all_canon (t : List Nat) (neg : Bool) : PSt.all t neg = canon t neg := by
  obtain ⟨hno, hyes, hnd⟩ := part_dot t
  unfold PSt.all canon
  by_cases hi : allD (ipart t) = true
  · obtain ⟨s, h1, h2, h3, h4, h5, h6⟩ := run_front (ipart t) PSt.zero 0 hi rfl rfl zero_rel
    have hd : s.d = (ipart t).length := by rw [h2]; show 0 + _ = _; omega
    have hu : s.up = false := h5
    by_cases hm : 46 ∈ t
    · have ht := hyes hm
      have hrun : PSt.run t PSt.zero = PSt.run (fpart t) { s with p := 1 } := by
        conv => lhs; rw [ht]
        rw [run_append, h1]
        show (match s.step 46 with
          | some s' => PSt.run (fpart t) s'
          | none => none) = _
        rw [step_dot, h3]
      by_cases hf : allD (fpart t) = true
      · obtain ⟨s2, g1, g2, g3, g4, g5, g6⟩ := run_behind (fpart t) hf { s with p := 1 } _ (show (1 : Nat) ≠ 0 from by decide) h4 hu (show Rel { s with p := 1 } _ from h6) _ (Nat.le_refl _)
        rw [List.take_length] at g1
        rw [hrun, g1]
        show s2.fin neg = _
        have hd2 : s2.d = (ipart t).length + (fpart t).length := by rw [g2]; show s.d + _ = _; omega
        by_cases he : ipart t ++ fpart t = []
        · rw [if_neg (fun h => h.2.2 he)]
          have : s2.d = 0 := by rw [hd2, ← List.length_append, he]; rfl
          unfold PSt.fin; rw [if_pos (.inl this)]
        · rw [if_pos ⟨hi, hf, he⟩]
          have hdz : ¬ (s2.d = 0 ∨ 1 < s2.p) := by
            rintro (h | h)
            · rw [hd2, ← List.length_append] at h
              exact he (List.eq_nil_of_length_eq_zero h)
            · rw [g3] at h; exact absurd (show (1 : Nat) < 1 from h) (by decide)
          rw [fin_rel neg hdz g6, g4, g5]
          have hm6 : (fpart t).take (min (fpart t).length 6) = (fpart t).take 6 := by
            by_cases hl : (fpart t).length ≤ 6
            · rw [Nat.min_eq_left hl, List.take_length, List.take_of_length_le hl]
            · rw [Nat.min_eq_right (by omega)]
          have hup : (decide (7 ≤ (fpart t).length) && decide (53 ≤ byteAt (fpart t) 6)) = decide (53 ≤ byteAt (fpart t) 6) := by
            by_cases hl : 7 ≤ (fpart t).length
            · rw [decide_eq_true hl, Bool.true_and]
            · rw [byte_past (by omega : (fpart t).length ≤ 6)]; simp
          have hmag : (List.foldl (fun n c => n * 10 + (c - 48)) (List.foldl (fun n c => n * 10 + (c - 48)) 0 (ipart t)) ((fpart t).take 6)) = val (ipart t ++ (fpart t).take 6) := by unfold val; rw [List.foldl_append]
          rw [hm6, hup, hmag]
          unfold magn
          simp only [decide_eq_true_eq]
      · rw [if_neg (fun h => hf h.2.1), hrun]
        obtain ⟨c, hc, hcd⟩ := allD_false hf
        by_cases hbad : ∃ c ∈ fpart t, isD c = false ∧ c ≠ 46
        · rw [run_bad _ _ hbad]
        · have h46 : c = 46 := Decidable.byContradiction fun h => hbad ⟨c, hc, hcd, h⟩
          subst h46
          cases hr : PSt.run (fpart t) { s with p := 1 } with
          | none => rfl
          | some s2 =>
            have hp := run_points _ _ _ hr
            have hcnt : 0 < (fpart t).count 46 := List.count_pos_iff.2 hc
            show s2.fin neg = _
            unfold PSt.fin
            rw [if_pos (.inr (by rw [hp]; show 1 < 1 + _; omega))]
    · obtain ⟨ei, ef⟩ := hno hm
      rw [ei] at h1 h6 hd hi
      rw [ei, ef, h1]
      show s.fin neg = _
      by_cases he : t = []
      · rw [if_neg (fun h => h.2.2 (by rw [he]; rfl))]
        have : s.d = 0 := by rw [hd, he]; rfl
        unfold PSt.fin; rw [if_pos (.inl this)]
      · rw [if_pos ⟨hi, rfl, by simpa using he⟩]
        have hdz : ¬ (s.d = 0 ∨ 1 < s.p) := by
          rintro (h | h)
          · rw [hd] at h; exact he (List.eq_nil_of_length_eq_zero h)
          · rw [h3] at h; exact absurd h (by decide)
        rw [fin_rel neg hdz h6, h4, hu]
        have hmg : magn t [] = List.foldl (fun n c => n * 10 + (c - 48)) 0 t * 10 ^ 6 := by
          unfold magn val; simp [byteAt]
        rw [hmg]
        simp
  · rw [if_neg (fun h => hi h.1)]
    obtain ⟨c, hc, hcd⟩ := allD_false hi
    have hct : c ∈ t := by
      by_cases hm : 46 ∈ t
      · rw [hyes hm]; exact List.mem_append_left _ hc
      · rw [← (hno hm).1]; exact hc
    rw [run_bad _ _ ⟨c, hct, hcd, fun e => hnd (by rw [← e]; exact hc)⟩]
/-- What Parse answers: the number (or 0) and the refusal. -/
def canP (l : List Nat) : Int × Int := if 64 < l.length then (0, 12) else canon (cut1 l) (sgnB l)
theorem ref_canon (l : List Nat) : refP l = canP l := by unfold refP canP; rw [all_canon]
end Go.Proofs.YtodlgbihdehmbaaGreatDoor
