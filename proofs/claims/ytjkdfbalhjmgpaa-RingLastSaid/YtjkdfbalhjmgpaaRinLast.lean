/-
  Plain facts on rings: what is told behind many sets (P13.2).
-/
import Derived.Test.YtjkdfbalhjmgpaaRinPE
set_option linter.unusedSimpArgs false
set_option linter.unusedVariables false
namespace Go.Proofs.Ytjkdfbalhjmgpaa
open IP
/-- The slots behind some acts. -/
def actR (s : Int) (l0 : List (Int × Int)) (acts : List (Nat × Int)) : List (Int × Int) := acts.foldl (fun r a => setL s r a.1 a.2) l0
/-- What one act more makes of what is to be told. -/
def wantS (s : Int) (n : Nat) (q : Int) (cur : Option Int) (a : Nat × Int) : Option Int :=
  if a.2 = -9223372036854775808 ∨ (a.1 : Int) / s % (n : Int) ≠ q % (n : Int) then cur else if (a.1 : Int) / s = q then some a.2 else none
def wantW (s : Int) (n : Nat) (q : Int) (acts : List (Nat × Int)) : Option Int := acts.foldl (wantS s n q) none
theorem rVal_some {s : Int} {l : List (Int × Int)} {a : Int} {g : Int × Int} (h : l[(rPl s l.length a).toNat]? = some g) : rVal s l a = if g.1 = a then some g.2 else none := by
  unfold rVal
  rw [h]
theorem rVal_same {s : Int} {l l' : List (Int × Int)} {a : Int} (hl : l.length = l'.length) (h : l[(rPl s l.length a).toNat]? = l'[(rPl s l.length a).toNat]?) : rVal s l a = rVal s l' a := by
  unfold rVal
  rw [h, hl]
theorem setL_right {s : Int} {l : List (Int × Int)} {t v : Int} (h : rRight s l = true) : rRight s (setL s l t v) = true := by
  unfold setL
  cases hs : rSet s l t v with
  | none => exact h
  | some m => exact (rSet_right hs).1
theorem actR_right {s : Int} : ∀ (acts : List (Nat × Int)) {l0 : List (Int × Int)}, rRight s l0 = true → rRight s (actR s l0 acts) = true ∧ (actR s l0 acts).length = l0.length
  | [], l0, h => ⟨h, rfl⟩
  | a :: acts, l0, h => by
    obtain ⟨h1, h2⟩ := actR_right acts (setL_right (t := a.1) (v := a.2) h)
    exact ⟨h1, h2.trans (setL_length _ _ _ _)⟩
theorem setE_code {s : Int} {l : List (Int × Int)} {t v : Int} (hr : rRight s l = true) (ht : rTm t = true) : (v = -9223372036854775808 → setE s l t v = 1) ∧ (v ≠ -9223372036854775808 → setE s l t v = 0) :=
  ⟨fun h => (set_no (fun k => k.2 h)).2, fun h => (set_yes ⟨hr, ht⟩ h).2⟩
/-- What is told behind one set. -/
theorem rGet_set {s : Int} {l : List (Int × Int)} {n : Nat} {t v q : Int} (hr : rRight s l = true) (hn : l.length = n) (ht : rTm t = true) (hq : rTm q = true) :
    rGet s (setL s l t v) q = if v = -9223372036854775808 ∨ t / s % (n : Int) ≠ q / s % (n : Int) then rGet s l q else if t / s = q / s then some v else none := by
  by_cases hv : v = -9223372036854775808
  · rw [if_pos (Or.inl hv), (set_no (fun k => k.2 hv)).1]
  · obtain ⟨m1, m2, m3, m4⟩ := rMay_iff.1 (rRight_iff.1 hr).1
    obtain ⟨t0, t1⟩ := rTm_iff.1 ht
    obtain ⟨q0, q1⟩ := rTm_iff.1 hq
    have hr2 := setL_right (t := t) (v := v) hr
    have e := (set_yes ⟨hr, ht⟩ hv).1
    obtain ⟨a0, a1, a2, a3, a4⟩ := rAt_facts (s := s) m1 t0
    obtain ⟨b0, b1, b2, b3, b4⟩ := rAt_facts (s := s) m1 q0
    obtain ⟨p0, p1, p2⟩ := rPl_facts (s := s) (t := rAt s t) (n := n) m1 a0 (by omega)
    obtain ⟨r0, r1, r2⟩ := rPl_facts (s := s) (t := rAt s q) (n := n) m1 b0 (by omega)
    rw [rGet_yes ⟨hr2, hq⟩, rGet_yes ⟨hr, hq⟩, e, hn]
    have hp1 : rPl s n (rAt s t) = t / s % (n : Int) := rPl_at m1 t0
    have hp2 : rPl s n (rAt s q) = q / s % (n : Int) := rPl_at m1 q0
    obtain ⟨i, hi⟩ : ∃ i, (rPl s n (rAt s t)).toNat = i := ⟨_, rfl⟩
    obtain ⟨j, hj⟩ : ∃ j, (rPl s n (rAt s q)).toNat = j := ⟨_, rfl⟩
    rw [hi]
    rw [hi] at p2
    by_cases hp : t / s % (n : Int) = q / s % (n : Int)
    · have hij : i = j := by rw [← hi, ← hj, hp1, hp2, hp]
      subst hij
      have hg : (l.set i (rAt s t, v))[i]? = some (rAt s t, v) := List.getElem?_set_self (by rw [hn]; exact p2)
      rw [if_neg (show ¬ (v = -9223372036854775808 ∨ t / s % (n : Int) ≠ q / s % (n : Int)) from fun h => h.elim hv (fun h => h hp)), rVal_some (g := (rAt s t, v)) (by rw [List.length_set, hn, hj]; exact hg)]
      by_cases he : t / s = q / s
      · rw [if_pos he]
        exact if_pos (show rAt s t = rAt s q by rw [a4, b4, he])
      · rw [if_neg he]
        exact if_neg (show ¬ rAt s t = rAt s q from fun h => by
          rw [a4, b4] at h
          exact he (Int.eq_of_mul_eq_mul_left (by omega) h))
    · have hij : i ≠ j := fun h => hp (by
        rw [← hp1, ← hp2]
        omega)
      have hg : (l.set i (rAt s t, v))[j]? = l[j]? := List.getElem?_set_ne hij
      rw [if_pos (Or.inr hp)]
      exact rVal_same List.length_set (by rw [List.length_set, hn, hj]; exact hg)
theorem actR_snoc (s : Int) (l0 : List (Int × Int)) (acts : List (Nat × Int)) (a : Nat × Int) : actR s l0 (acts ++ [a]) = setL s (actR s l0 acts) a.1 a.2 := by
  unfold actR
  rw [List.foldl_append]
  rfl
theorem wantW_snoc (s : Int) (n : Nat) (q : Int) (acts : List (Nat × Int)) (a : Nat × Int) : wantW s n q (acts ++ [a]) = wantS s n q (wantW s n q acts) a := by
  unfold wantW
  rw [List.foldl_append]
  rfl
theorem actR_go {s : Int} {n : Nat} {q : Int} (hq : rTm q = true) : ∀ (acts : List (Nat × Int)) (l0 : List (Int × Int)) (cur : Option Int), rRight s l0 = true → l0.length = n → rGet s l0 q = cur → (∀ a ∈ acts, a.1 ≤ 65535) → rGet s (actR s l0 acts) q = acts.foldl (wantS s n (q / s)) cur
  | [], l0, cur, _, _, h, _ => h
  | a :: acts, l0, cur, hr, hn, h, ha => by
    have ha1 := ha a List.mem_cons_self
    refine actR_go hq acts (setL s l0 a.1 a.2) (wantS s n (q / s) cur a) (setL_right hr) ((setL_length _ _ _ _).trans hn) ?_ (fun x hx => ha x (List.mem_cons_of_mem _ hx))
    rw [rGet_set (n := n) hr hn (rTm_iff.2 (by omega)) hq, h]
    rfl
/-- P13.2: each slot is told as it was set last. -/
theorem actR_want {s : Int} {n : Nat} (hm : rMay s n = true) {q : Int} (hq : rTm q = true) (acts : List (Nat × Int)) (ha : ∀ a ∈ acts, a.1 ≤ 65535) : rGet s (actR s (rNew n) acts) q = wantW s n (q / s) acts := by
  refine actR_go hq acts (rNew n) none (rNew_right hm) List.length_replicate ?_ ha
  rw [rGet_yes ⟨rNew_right hm, hq⟩]
  unfold rVal
  split
  · rename_i g hg
    have h1 : g = (-1, 0) := (List.mem_replicate.1 (List.mem_of_getElem? hg)).2
    obtain ⟨m1, m2, m3, m4⟩ := rMay_iff.1 hm
    obtain ⟨b0, -⟩ := rAt_facts (s := s) m1 (rTm_iff.1 hq).1
    rw [if_neg (by rw [h1]; show (-1 : Int) ≠ _; omega)]
  · rfl
theorem take_succ_some {α : Type} {l : List α} {k : Nat} {a : α} (h : l[k]? = some a) : l.take (k + 1) = l.take k ++ [a] := by rw [List.take_add_one, h]; rfl
end Go.Proofs.Ytjkdfbalhjmgpaa
