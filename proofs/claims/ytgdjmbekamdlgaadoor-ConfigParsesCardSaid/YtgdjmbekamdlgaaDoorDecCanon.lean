/-
  What a number's text says, said once and for all: its sign, the digits ahead of the point, those behind it. The document's own Parse, byte by byte, comes to that. Nothing of the program is imported.
-/
import Derived.Test.YtgdjmbekamdlgaaDoorDecRun
set_option linter.unusedSimpArgs false
set_option linter.unusedVariables false
namespace Go.Proofs.YtgdjmbekamdlgaaDoor
/-- What stands ahead of the first point, and what behind it. -/
def ipart : List Nat → List Nat
  | [] => []
  | c :: l => if c = 46 then [] else c :: ipart l
def fpart : List Nat → List Nat
  | [] => []
  | c :: l => if c = 46 then l else fpart l
/-- So many millionths, rounded. -/
def magn (i f : List Nat) : Nat := val (i ++ f.take 6) * 10 ^ (6 - f.length) + (if 53 ≤ byteAt f 6 then 1 else 0)
def canon (t : List Nat) (neg : Bool) : Int × Int :=
  if allD (ipart t) = true ∧ allD (fpart t) = true ∧ ipart t ++ fpart t ≠ [] then
    if 9223372036854775807 < magn (ipart t) (fpart t) then (0, 3) else (if neg then -(magn (ipart t) (fpart t) : Int) else (magn (ipart t) (fpart t) : Int), 0)
  else (0, 2)

theorem run_append (l m : List Nat) : ∀ s : PSt, PSt.run (l ++ m) s = (PSt.run l s).bind (PSt.run m) := by
  induction l with
  | nil => intro s; rfl
  | cons c l ih =>
    intro s
    show (match s.step c with
      | some s' => PSt.run (l ++ m) s'
      | none => none) = Option.bind (match s.step c with
      | some s' => PSt.run l s'
      | none => none) (PSt.run m)
    cases s.step c with
    | none => rfl
    | some s' => exact ih s'
theorem run_one (c : Nat) (s : PSt) : PSt.run [c] s = s.step c := by
  show (match s.step c with
    | some s' => PSt.run [] s'
    | none => none) = _
  cases s.step c <;> rfl
/-- The number so far is V, or far beyond and so is V. -/
def Rel (s : PSt) (V : Nat) : Prop := (s.far = false ∧ s.n = V) ∨ (s.far = true ∧ 9223372036854775807 < V)
theorem put_rel {s : PSt} {V c : Nat} (h : Rel s V) : Rel (s.put c) (V * 10 + (c - 48)) := by
  unfold PSt.put
  rcases h with ⟨hf, rfl⟩ | ⟨hf, hV⟩
  · by_cases hb : 1152921504606846976 < s.n
    · rw [if_pos hb]; exact .inr ⟨rfl, by omega⟩
    · rw [if_neg hb]; exact .inl ⟨hf, rfl⟩
  · right
    refine ⟨?_, by omega⟩
    split
    · rfl
    · exact hf
theorem put_d (s : PSt) (c : Nat) : (s.put c).d = s.d ∧ (s.put c).p = s.p ∧ (s.put c).b = s.b ∧ (s.put c).up = s.up := by
  unfold PSt.put; split <;> exact ⟨rfl, rfl, rfl, rfl⟩
theorem pad_rel : ∀ (j : Nat) {s : PSt} {V : Nat}, Rel s V → Rel (PSt.pad j s) (V * 10 ^ j) ∧ (PSt.pad j s).up = s.up
  | 0, s, V, h => ⟨by rw [Nat.pow_zero, Nat.mul_one]; exact h, rfl⟩
  | j + 1, s, V, h => by
    have h1 := put_rel (c := 48) h
    obtain ⟨h2, h3⟩ := pad_rel j h1
    refine ⟨?_, h3.trans (put_d s 48).2.2.2⟩
    rw [Nat.pow_succ, Nat.mul_comm (10 ^ j) 10, ← Nat.mul_assoc]
    exact h2

theorem allD_cons {c : Nat} {l : List Nat} : allD (c :: l) = true ↔ isD c = true ∧ allD l = true := by simp [allD]
theorem allD_append {l m : List Nat} : allD (l ++ m) = true ↔ allD l = true ∧ allD m = true := by simp [allD]
theorem isD_dot {c : Nat} (h : isD c = true) : c ≠ 46 := by have := isD_bounds h; omega
theorem val_cons_append (l : List Nat) (c : Nat) (m : List Nat) : True := trivial
/-- Digits ahead of any point. -/
theorem run_front : ∀ (i : List Nat) (s : PSt) (V : Nat), allD i = true → s.p = 0 → s.b = 0 → Rel s V →
    ∃ s', PSt.run i s = some s' ∧ s'.d = s.d + i.length ∧ s'.p = 0 ∧ s'.b = 0 ∧ s'.up = s.up ∧ Rel s' (i.foldl (fun n c => n * 10 + (c - 48)) V) := by
  intro i
  induction i with
  | nil => intro s V _ hp hb hr; exact ⟨s, rfl, rfl, hp, hb, rfl, hr⟩
  | cons c i ih =>
    intro s V hA hp hb hr
    obtain ⟨hc, hi⟩ := allD_cons.1 hA
    have hst := step_front (s := s) (isD_dot hc) hc hp
    have hpd := put_d { s with d := s.d + 1 } c
    obtain ⟨s', h1, h2, h3, h4, h5, h6⟩ := ih (PSt.put { s with d := s.d + 1 } c) (V * 10 + (c - 48)) hi (hpd.2.1.trans hp) (hpd.2.2.1.trans hb) (put_rel (s := { s with d := s.d + 1 }) hr)
    refine ⟨s', ?_, ?_, h3, h4, h5.trans hpd.2.2.2, h6⟩
    · show (match s.step c with
        | some s' => PSt.run i s'
        | none => none) = _
      rw [hst]; exact h1
    · rw [h2, hpd.1, List.length_cons]; show s.d + 1 + _ = _; omega
/-- Behind a point: points are counted, whatever else. -/
theorem run_points : ∀ (f : List Nat) (s s' : PSt), PSt.run f s = some s' → s'.p = s.p + f.count 46 := by
  intro f
  induction f with
  | nil => intro s s' h; simp [PSt.run] at h; subst h; simp
  | cons c f ih =>
    intro s s' h
    have h' : (s.step c).bind (PSt.run f) = some s' := by
      rw [← h]
      show _ = (match s.step c with
        | some s' => PSt.run f s'
        | none => none)
      cases s.step c <;> rfl
    cases hs : s.step c with
    | none => rw [hs] at h'; simp at h'
    | some s1 =>
      rw [hs] at h'
      have := ih s1 s' h'
      rw [this, List.count_cons]
      unfold PSt.step at hs
      split at hs
      · rename_i h46
        simp at hs; subst hs; simp [h46]; omega
      · rename_i h46
        have hne : (c == 46) = false := by rw [beq_eq_false_iff_ne]; exact h46
        rw [hne]
        have hp : s1.p = s.p := by
          split at hs
          · simp at hs
          · split at hs
            · simp at hs; subst hs; exact (put_d _ _).2.1
            · split at hs
              · simp at hs; subst hs; rfl
              · split at hs
                · simp at hs; subst hs; rfl
                · simp at hs; subst hs; exact (put_d _ _).2.1
        rw [hp]; simp
/-- A byte that is neither a digit nor a point: refused. -/
theorem run_bad : ∀ (f : List Nat) (s : PSt), (∃ c ∈ f, isD c = false ∧ c ≠ 46) → PSt.run f s = none := by
  intro f
  induction f with
  | nil => intro s h; obtain ⟨c, hc, -⟩ := h; simp at hc
  | cons c f ih =>
    intro s h
    show (match s.step c with
      | some s' => PSt.run f s'
      | none => none) = none
    by_cases hb : isD c = false ∧ c ≠ 46
    · rw [step_bad hb.2 hb.1]
    · cases s.step c with
      | none => rfl
      | some s1 =>
        apply ih
        obtain ⟨x, hx, hxb⟩ := h
        rcases List.mem_cons.1 hx with rfl | hx
        · exact absurd hxb hb
        · exact ⟨x, hx, hxb⟩
end Go.Proofs.YtgdjmbekamdlgaaDoor
