/-
  How the document's own Parse goes through a text, as plain functions: what it has met, byte by byte. Nothing of the program is imported.
-/
import Derived.Test.YtodlgbihdehmbaaGreatDoorDecMathP
set_option linter.unusedSimpArgs false
set_option linter.unusedVariables false
namespace Go.Proofs.YtodlgbihdehmbaaGreatDoor
/-- What was met: digits, points, digits behind a point, the number so far, whether it is far beyond, whether it is rounded up. -/
structure PSt where
  d : Nat
  p : Nat
  b : Nat
  n : Nat
  far : Bool
  up : Bool
def PSt.zero : PSt := ⟨0, 0, 0, 0, false, false⟩
/-- A digit is put behind the number, unless that is far beyond already. -/
def PSt.put (s : PSt) (c : Nat) : PSt := if 1152921504606846976 < s.n then { s with far := true } else { s with n := s.n * 10 + (c - 48) }
def PSt.step (s : PSt) (c : Nat) : Option PSt :=
  if c = 46 then some { s with p := s.p + 1 }
  else if isD c = false then none
  else if s.p = 0 then some (PSt.put { s with d := s.d + 1 } c)
  else if s.b + 1 = 7 then some { s with d := s.d + 1, b := s.b + 1, up := decide (53 ≤ c) }
  else if 6 < s.b + 1 then some { s with d := s.d + 1, b := s.b + 1 }
  else some (PSt.put { s with d := s.d + 1, b := s.b + 1 } c)
def PSt.run : List Nat → PSt → Option PSt
  | [], s => some s
  | c :: l, s => match s.step c with
    | some s' => PSt.run l s'
    | none => none
/-- So many noughts are put behind the number. -/
def PSt.pad : Nat → PSt → PSt
  | 0, s => s
  | k + 1, s => PSt.pad k (s.put 48)
/-- What it comes to: the number, and the refusal. -/
def PSt.fin (s : PSt) (neg : Bool) : Int × Int :=
  if s.d = 0 ∨ 1 < s.p then (0, 2)
  else
    let t := PSt.pad (6 - s.b) s
    let m := if t.up then t.n + 1 else t.n
    if t.far = true ∨ 9223372036854775807 < m then (0, 3) else (if neg then -(m : Int) else (m : Int), 0)
def PSt.all (l : List Nat) (neg : Bool) : Int × Int := match PSt.run l PSt.zero with
  | some s => s.fin neg
  | none => (0, 2)
/-- The sign, and what follows it. -/
def sgnB (l : List Nat) : Bool := decide (byteAt l 0 = 45 ∧ l ≠ [])
def cut1 (l : List Nat) : List Nat := if l ≠ [] ∧ (byteAt l 0 = 45 ∨ byteAt l 0 = 43) then l.drop 1 else l
def refP (l : List Nat) : Int × Int := if 64 < l.length then (0, 12) else PSt.all (cut1 l) (sgnB l)

theorem run_drop {l : List Nat} {k : Nat} (h : k < l.length) (s : PSt) : PSt.run (l.drop k) s = (s.step (byteAt l k)).bind (PSt.run (l.drop (k + 1))) := by
  have e : l.drop k = byteAt l k :: l.drop (k + 1) := by
    rw [List.drop_eq_getElem_cons h]
    unfold byteAt
    rw [List.getD_eq_getElem?_getD, List.getElem?_eq_getElem h]
    rfl
  rw [e]
  show (match s.step (byteAt l k) with
    | some s' => PSt.run (l.drop (k + 1)) s'
    | none => none) = _
  cases s.step (byteAt l k) <;> rfl
theorem run_end {l : List Nat} {k : Nat} (h : l.length ≤ k) (s : PSt) : PSt.run (l.drop k) s = some s := by
  rw [List.drop_eq_nil_of_le h]; rfl
theorem step_dot (s : PSt) : s.step 46 = some { s with p := s.p + 1 } := rfl
theorem step_bad {s : PSt} {c : Nat} (h : c ≠ 46) (hd : isD c = false) : s.step c = none := by unfold PSt.step; rw [if_neg h, if_pos hd]
theorem step_front {s : PSt} {c : Nat} (h : c ≠ 46) (hd : isD c = true) (hp : s.p = 0) : s.step c = some (PSt.put { s with d := s.d + 1 } c) := by
  unfold PSt.step; rw [if_neg h, if_neg (by rw [hd]; decide), if_pos hp]
theorem step_seven {s : PSt} {c : Nat} (h : c ≠ 46) (hd : isD c = true) (hp : s.p ≠ 0) (hb : s.b + 1 = 7) : s.step c = some { s with d := s.d + 1, b := s.b + 1, up := decide (53 ≤ c) } := by
  unfold PSt.step; rw [if_neg h, if_neg (by rw [hd]; decide), if_neg hp, if_pos hb]
theorem step_past {s : PSt} {c : Nat} (h : c ≠ 46) (hd : isD c = true) (hp : s.p ≠ 0) (hb : s.b + 1 ≠ 7) (hb2 : 6 < s.b + 1) : s.step c = some { s with d := s.d + 1, b := s.b + 1 } := by
  unfold PSt.step; rw [if_neg h, if_neg (by rw [hd]; decide), if_neg hp, if_neg hb, if_pos hb2]
theorem step_behind {s : PSt} {c : Nat} (h : c ≠ 46) (hd : isD c = true) (hp : s.p ≠ 0) (hb : ¬ 6 < s.b + 1) : s.step c = some (PSt.put { s with d := s.d + 1, b := s.b + 1 } c) := by
  unfold PSt.step; rw [if_neg h, if_neg (by rw [hd]; decide), if_neg hp, if_neg (by omega), if_neg hb]
theorem put_far {s : PSt} {c : Nat} (h : 1152921504606846976 < s.n) : s.put c = { s with far := true } := if_pos h
theorem put_on {s : PSt} {c : Nat} (h : ¬ 1152921504606846976 < s.n) : s.put c = { s with n := s.n * 10 + (c - 48) } := if_neg h
end Go.Proofs.YtodlgbihdehmbaaGreatDoor
