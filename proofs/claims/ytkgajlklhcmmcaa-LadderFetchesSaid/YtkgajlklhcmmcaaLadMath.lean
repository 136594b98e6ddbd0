/-
  Plain facts on ladders, for the statements of layer 14: a ladder is a method, a factor and its rings, a ring its step and its slots. Nothing of the program is imported.
-/
import Derived.Test.YtkgajlklhcmmcaaRinMath
import Derived.Test.YtkgajlklhcmmcaaMath2
set_option linter.unusedSimpArgs false
set_option linter.unusedVariables false
namespace Go.Proofs.Ytkgajlklhcmmcaa
/-! ### Archives together -/
def rgOk (g : Int × Int) : Bool := decide (1 ≤ g.1 ∧ g.1 ≤ 86400 ∧ 1 ≤ g.2 ∧ g.2 ≤ 400)
def rgReach (g : Int × Int) : Int := if rgOk g then g.1 * g.2 else 0
/-- May the second one be next to the first one? -/
def rgFits (a b : Int × Int) : Bool := decide (a.1 < b.1 ∧ b.1 % a.1 = 0 ∧ a.1 * a.2 < b.1 * b.2 ∧ b.1 / a.1 ≤ a.2)
def rgAdj : List (Int × Int) → Bool
  | a :: b :: l => rgFits a b && rgAdj (b :: l)
  | _ => true
def tog (l : List (Int × Int)) : Bool := decide (1 ≤ l.length ∧ l.length ≤ 4) && (l.all rgOk && rgAdj l)
theorem rgAdj_iff : ∀ l : List (Int × Int), rgAdj l = true ↔ ∀ (k : Nat) (a b : Int × Int), l[k]? = some a → l[k + 1]? = some b → rgFits a b = true
  | [] => ⟨fun _ k a b h => by simp at h, fun _ => rfl⟩
  | [x] => ⟨fun _ k a b _ h => by simp at h, fun _ => rfl⟩
  | x :: y :: l => by
    have ih := rgAdj_iff (y :: l)
    show (rgFits x y && rgAdj (y :: l)) = true ↔ _
    rw [Bool.and_eq_true, ih]
    constructor
    · rintro ⟨h1, h2⟩ k a b ha hb
      cases k with
      | zero =>
        obtain rfl : x = a := by simpa using ha
        obtain rfl : y = b := by simpa using hb
        exact h1
      | succ k => exact h2 k a b (by simpa using ha) (by simpa using hb)
    · intro h
      exact ⟨h 0 x y rfl rfl, fun k a b ha hb => h (k + 1) a b (by simpa using ha) (by simpa using hb)⟩
theorem tog_iff (l : List (Int × Int)) : tog l = true ↔ (1 ≤ l.length ∧ l.length ≤ 4) ∧ (∀ (k : Nat) (g : Int × Int), l[k]? = some g → rgOk g = true) ∧ (∀ (k : Nat) (a b : Int × Int), l[k]? = some a → l[k + 1]? = some b → rgFits a b = true) := by
  unfold tog
  rw [Bool.and_eq_true, Bool.and_eq_true, decide_eq_true_eq, rgAdj_iff, List.all_eq_true]
  constructor
  · rintro ⟨h1, h2, h3⟩
    exact ⟨h1, fun k g hk => h2 g (List.mem_of_getElem? hk), h3⟩
  · rintro ⟨h1, h2, h3⟩
    exact ⟨h1, fun g hg => by obtain ⟨k, hk⟩ := List.getElem?_of_mem hg; exact h2 k g hk, h3⟩
/-! ### Ladders -/
/-- A ring: its step, its slots. -/
abbrev Rg := Int × List (Int × Int)
def lRungs (L : List Rg) : List (Int × Int) := L.map fun r => (r.1, (r.2.length : Int))
def lWay (m f : Int) : Bool := decide (1 ≤ m ∧ m ≤ 5 ∧ 0 ≤ f ∧ f ≤ 1000000)
def lRight (m f : Int) (L : List Rg) : Bool := lWay m f && (tog (lRungs L) && L.all fun r => rRight r.1 r.2)
theorem lWay_iff {m f : Int} : lWay m f = true ↔ 1 ≤ m ∧ m ≤ 5 ∧ 0 ≤ f ∧ f ≤ 1000000 := by unfold lWay; exact decide_eq_true_iff
theorem lRight_iff {m f : Int} {L : List Rg} : lRight m f L = true ↔ lWay m f = true ∧ tog (lRungs L) = true ∧ ∀ (k : Nat) (r : Rg), L[k]? = some r → rRight r.1 r.2 = true := by
  unfold lRight
  rw [Bool.and_eq_true, Bool.and_eq_true, List.all_eq_true]
  exact ⟨fun ⟨a, b, c⟩ => ⟨a, b, fun k r hk => c r (List.mem_of_getElem? hk)⟩, fun ⟨a, b, c⟩ => ⟨a, b, fun r hr => by obtain ⟨k, hk⟩ := List.getElem?_of_mem hr; exact c k r hk⟩⟩
theorem lRungs_at (L : List Rg) (k : Nat) : (lRungs L)[k]? = (L[k]?).map fun r => (r.1, (r.2.length : Int)) := by unfold lRungs; rw [List.getElem?_map]
theorem lRungs_length (L : List Rg) : (lRungs L).length = L.length := by unfold lRungs; rw [List.length_map]
def lReach (r : Rg) : Int := r.1 * (r.2.length : Int)
def lReaches (t now : Int) (r : Rg) : Bool := decide (now - lReach r < rAt r.1 t)
/-! ### What parts make -/
def lFold (f : Option Int → Option Int → Option Int) : List Int → Option Int
  | [] => none
  | v :: vs => vs.foldl (fun n x => f n (rd false x)) (rd false v)
def lBlend (m : Int) (p : List Int) : Option Int :=
  if p = [] then none else if m = 1 then divO (lFold addO p) (intO p.length) else if m = 2 then lFold addO p else if m = 3 then lFold lessO p else if m = 4 then lFold moreO p else if m = 5 then rd false (p.getLastD 0) else none
def lParts (a : Rg) (slot : Int) (n : Nat) : List Int := (List.range n).filterMap fun (i : Nat) => rVal a.1 a.2 (slot + ((i : Nat) : Int) * a.1)
/-- The coarser ring b, its slot of a time made of the finer one, a. -/
def lMadeL (m f : Int) (a b : Rg) (t : Int) : List (Int × Int) :=
  if ((lParts a (rAt b.1 t) (b.1 / a.1).toNat).length : Int) * 1000000 < f * (b.1 / a.1) then b.2 else
    match lBlend m (lParts a (rAt b.1 t) (b.1 / a.1).toNat) with
    | none => b.2
    | some v => (rSet b.1 b.2 (rAt b.1 t) v).getD b.2
def lMade (m f : Int) (a b : Rg) (t : Int) : Rg := (b.1, lMadeL m f a b t)
def lStep (m f t now : Int) (L : List Rg) (i : Nat) : List Rg :=
  match L[i - 1]?, L[i]? with
  | some a, some b => if lReaches t now b = true then L.set i (lMade m f a b t) else L
  | _, _ => L
def lSteps (m f t now : Int) (L : List Rg) (i : Nat) : Nat → List Rg
  | 0 => L
  | k + 1 => lStep m f t now (lSteps m f t now L i k) (i + k)
def lFirst (t now : Int) (L : List Rg) : Option Nat := L.findIdx? (lReaches t now)
def lPut (L : List Rg) (i : Nat) (t v : Int) : List Rg := match L[i]? with
  | some r => L.set i (r.1, (rSet r.1 r.2 t v).getD r.2)
  | none => L
def lAccept (m f : Int) (L : List Rg) (t v now : Int) : List Rg × Int :=
  if lRight m f L = true ∧ rTm t = true ∧ rTm now = true ∧ v ≠ -9223372036854775808 then
    if now < t then (L, 3) else
      match lFirst t now L with
      | none => (L, 14)
      | some i => (lSteps m f t now (lPut L i t v) (i + 1) (L.length - (i + 1)), 0)
  else (L, 1)
/-! ### What is fetched -/
def lAsk (L : List Rg) (fr now : Int) : Nat := (L.findIdx? fun r => decide (now - fr ≤ lReach r)).getD (L.length - 1)
def lPick (m f : Int) (L : List Rg) (fr now : Int) : Int := if lRight m f L = true ∧ rTm fr = true ∧ rTm now = true then (lAsk L fr now : Int) else 0
/-- From where, so many. -/
def lLow (r : Rg) (fr now : Int) : Int := if now - lReach r + 1 ≤ fr then fr else now - lReach r + 1
def lTop (un now : Int) : Int := if un ≤ now + 1 then un else now + 1
def lVals (r : Rg) (fr un now : Int) : List (Option Int) := (List.range (rUp r.1 (lTop un now) - rUp r.1 (lLow r fr now)).toNat).map fun (i : Nat) => rVal r.1 r.2 ((rUp r.1 (lLow r fr now) + ((i : Nat) : Int)) * r.1)
def lStart (r : Rg) (fr un now : Int) : Int := if lVals r fr un now = [] then rUp r.1 fr * r.1 else rUp r.1 (lLow r fr now) * r.1
def lOk (m f : Int) (L : List Rg) (fr un now : Int) : Prop := lRight m f L = true ∧ rTm fr = true ∧ rTm un = true ∧ rTm now = true ∧ fr < un
/-! ### Facts -/
theorem tog_step {l : List (Int × Int)} (h : tog l = true) {k : Nat} {a b : Int × Int} (ha : l[k]? = some a) (hb : l[k + 1]? = some b) : rgFits a b = true := ((tog_iff l).1 h).2.2 k a b ha hb
theorem lRight_set {m f : Int} {L : List Rg} {k : Nat} {r x : Rg} (h : lRight m f L = true) (hk : L[k]? = some r) (h1 : x.1 = r.1) (h2 : x.2.length = r.2.length) (h3 : rRight x.1 x.2 = true) : lRight m f (L.set k x) = true ∧ lRungs (L.set k x) = lRungs L := by
  obtain ⟨a, b, c⟩ := lRight_iff.1 h
  have e : lRungs (L.set k x) = lRungs L := by
    unfold lRungs
    rw [List.map_set]
    refine List.ext_getElem? fun i => ?_
    rw [List.getElem?_set]
    split
    · rename_i e
      subst e
      rw [List.getElem?_map, hk, List.length_map, if_pos (List.getElem?_eq_some_iff.1 hk).1, h1, h2]
      rfl
    · rfl
  refine ⟨lRight_iff.2 ⟨a, by rw [e]; exact b, fun i y hy => ?_⟩, e⟩
  rw [List.getElem?_set] at hy
  split at hy
  · split at hy
    · obtain rfl := Option.some.inj hy; exact h3
    · cases hy
  · exact c i y hy
theorem rSet_some {s : Int} {l : List (Int × Int)} {t v : Int} (h : rRight s l = true) (ht : rTm t = true) (hv : v ≠ -9223372036854775808) : ∃ m, rSet s l t v = some m ∧ m.length = l.length ∧ rRight s m = true := by
  have e : rSet s l t v = some (l.set (rPl s l.length (rAt s t)).toNat (rAt s t, v)) := if_pos ⟨⟨h, ht⟩, hv⟩
  obtain ⟨a, b⟩ := rSet_right e
  exact ⟨_, e, b, a⟩
theorem lPut_right {m f : Int} {L : List Rg} {i : Nat} {t v : Int} (h : lRight m f L = true) (ht : rTm t = true) (hv : v ≠ -9223372036854775808) : lRight m f (lPut L i t v) = true ∧ lRungs (lPut L i t v) = lRungs L := by
  unfold lPut
  cases hr : L[i]? with
  | none => exact ⟨h, rfl⟩
  | some r =>
    obtain ⟨q, e, e2, e3⟩ := rSet_some ((lRight_iff.1 h).2.2 i r hr) ht hv
    simp only [e, Option.getD_some]
    exact lRight_set h hr rfl e2 e3
theorem rVal_some {s : Int} {l : List (Int × Int)} {a v : Int} (hr : rRight s l = true) (ha : 0 ≤ a) (h : rVal s l a = some v) : -9223372036854775808 ≠ v ∧ a ≤ 1099511627776 ∧ a % s = 0 := by
  unfold rVal at h
  split at h
  · rename_i g hg
    split at h
    · rename_i he
      obtain rfl := Option.some.inj h
      have h1 := rOk_full ((rRight_iff.1 hr).2 _ g hg) (by omega)
      obtain ⟨⟨x0, x1⟩, x2, x3, x4⟩ := rFits_iff.1 h1
      rw [he] at x0 x1 x2 x3
      exact ⟨fun e => x4 e.symm, x1, x2⟩
    · cases h
  · cases h
theorem rGet_mul {s : Int} {l : List (Int × Int)} {a : Int} (hr : rRight s l = true) (ha : 0 ≤ a) (hm : a % s = 0) : rGet s l a = rVal s l a := by
  have e : rAt s a = a := by unfold rAt; omega
  by_cases ht : rTm a = true
  · rw [rGet_yes ⟨hr, ht⟩, e]
  · rw [rGet_no (fun h => ht h.2)]
    cases hv : rVal s l a with
    | none => rfl
    | some v => exact absurd (rTm_iff.2 ⟨ha, (rVal_some hr ha hv).2.1⟩) ht
end Go.Proofs.Ytkgajlklhcmmcaa
