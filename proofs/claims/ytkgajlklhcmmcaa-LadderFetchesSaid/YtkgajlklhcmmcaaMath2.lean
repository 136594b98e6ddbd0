/-
  Plain facts on numbers with six decimals, for the statements of layer 2: a number is what it stands for in millionths, or nothing. Nothing of the program is imported.
-/
import Derived.Test.YtkgajlklhcmmcaaMathB
namespace Go.Proofs.Ytkgajlklhcmmcaa
/-- The greatest count of millionths, behind a name. -/
def top : Int := 9223372036854775807
/-- What a number that came in stands for. -/
def rd (b : Bool) (v : Int) : Option Int := if b = false ∧ v ≠ -9223372036854775808 then some v else none
/-- How an answer is laid: whether it is nothing, and its millionths. -/
def nb (o : Option Int) : Bool := o.isNone
def nv (o : Option Int) : Int := o.getD 0
/-- What can be told. -/
def lim (t : Int) : Option Int := if -9223372036854775807 ≤ t ∧ t ≤ 9223372036854775807 then some t else none
def inR (o : Option Int) : Prop := ∀ t, o = some t → -9223372036854775807 ≤ t ∧ t ≤ 9223372036854775807
def addO (x y : Option Int) : Option Int := match x, y with
  | some a, some b => lim (a + b)
  | _, _ => none
def negO (x : Option Int) : Option Int := match x with
  | some a => some (-a)
  | none => none
def subO (x y : Option Int) : Option Int := addO x (negO y)
def absO (x : Option Int) : Option Int := match x with
  | some a => some (if a < 0 then -a else a)
  | none => none
/-- A size with a sign. -/
def signO (n : Nat) (below : Bool) : Option Int := if n ≤ 9223372036854775807 then some (if below then -(n : Int) else (n : Int)) else none
/-- A quotient of sizes, rounded, with a sign. -/
def rndO (p d : Nat) (below : Bool) : Option Int := if hiOf (upN p d) = 0 then signO (loOf (upN p d)) below else none
def mulO (x y : Option Int) : Option Int := match x, y with
  | some a, some b => rndO (a.natAbs * b.natAbs) 1000000 (decide (a < 0) != decide (b < 0))
  | _, _ => none
def divO (x y : Option Int) : Option Int := match x, y with
  | some a, some b => if b = 0 then none else rndO (a.natAbs * 1000000) b.natAbs (decide (a < 0) != decide (b < 0))
  | _, _ => none
def rootO (x : Option Int) : Option Int := match x with
  | some a => if a < 0 then none else signO (rt (a.natAbs * 1000000)) false
  | none => none
def intO (n : Int) : Option Int := if hiOf (n.natAbs * 1000000) = 0 then signO (loOf (n.natAbs * 1000000)) (decide (n < 0)) else none
def cmpO (x y : Option Int) : Int := match x, y with
  | some a, some b => if a < b then -1 else if b < a then 1 else 0
  | some _, none => 1
  | none, some _ => -1
  | none, none => 0
def lessO (x y : Option Int) : Option Int := match x, y with
  | some a, some b => if a ≤ b then some a else some b
  | some a, none => some a
  | none, y => y
def moreO (x y : Option Int) : Option Int := match x, y with
  | some a, some b => if b ≤ a then some a else some b
  | some a, none => some a
  | none, y => y

theorem rd_some {b : Bool} {v : Int} (h : b = false) (h2 : v ≠ -9223372036854775808) : rd b v = some v := if_pos ⟨h, h2⟩
theorem rd_none {b : Bool} {v : Int} (h : ¬ (b = false ∧ v ≠ -9223372036854775808)) : rd b v = none := if_neg h
theorem nb_some (t : Int) : nb (some t) = false := rfl
theorem nv_some (t : Int) : nv (some t) = t := rfl
theorem nb_none : nb none = true := rfl
theorem nv_none : nv none = 0 := rfl
theorem lim_in {t : Int} (h : -9223372036854775807 ≤ t ∧ t ≤ 9223372036854775807) : lim t = some t := if_pos h
theorem lim_out {t : Int} (h : ¬ (-9223372036854775807 ≤ t ∧ t ≤ 9223372036854775807)) : lim t = none := if_neg h

theorem sign_sum {a b : Int} (hs : a < 0 ↔ b < 0) : signO (a.natAbs + b.natAbs) (decide (a < 0)) = lim (a + b) := by
  unfold signO lim
  by_cases h : a < 0
  · have hb := hs.1 h
    simp only [decide_eq_true h, if_true]
    by_cases hl : a.natAbs + b.natAbs ≤ 9223372036854775807
    · rw [if_pos hl, if_pos (show -9223372036854775807 ≤ a + b ∧ a + b ≤ 9223372036854775807 from by omega)]; congr 1; omega
    · rw [if_neg hl, if_neg (show ¬ (-9223372036854775807 ≤ a + b ∧ a + b ≤ 9223372036854775807) from by omega)]
  · have hb : ¬ b < 0 := fun hb => h (hs.2 hb)
    simp only [decide_eq_false h, Bool.false_eq_true, if_false]
    by_cases hl : a.natAbs + b.natAbs ≤ 9223372036854775807
    · rw [if_pos hl, if_pos (show -9223372036854775807 ≤ a + b ∧ a + b ≤ 9223372036854775807 from by omega)]; congr 1; omega
    · rw [if_neg hl, if_neg (show ¬ (-9223372036854775807 ≤ a + b ∧ a + b ≤ 9223372036854775807) from by omega)]
end Go.Proofs.Ytkgajlklhcmmcaa
