/-
  What a ladder keeps while a point is accepted: that it is right, its rungs, that its values have 64 bits.
-/
import Derived.Test.YtkgajlklhcmmcaaLadPH
set_option linter.unusedSimpArgs false
set_option linter.unusedVariables false
namespace Go.Proofs.Ytkgajlklhcmmcaa
open AP
/-- Do all values of a ladder's slots have 64 bits? -/
def lFine (L : List Rg) : Prop := ∀ r ∈ L, ∀ g ∈ r.2, I64 g.2
theorem inR_div (x y : Option Int) : inR (divO x y) := by
  intro t ht
  unfold divO at ht
  split at ht
  · first
      | (split at ht
         · cases ht
         · unfold rndO at ht
           split at ht
           · exact inR_sign _ _ t ht
           · cases ht)
      | (unfold rndO at ht
         split at ht
         · exact inR_sign _ _ t ht
         · cases ht)
  · cases ht
theorem inR_blend {m : Int} {P : List Int} (h : ∀ x ∈ P, I64 x) : inR (lBlend m P) := by
  unfold lBlend
  split
  · intro t ht; cases ht
  · rename_i hne
    split
    · exact inR_div _ _
    · split
      · exact inR_lFold (fun x y _ _ => inR_add x y) h
      · split
        · exact inR_lFold (fun x y hx hy => inR_less hx hy) h
        · split
          · exact inR_lFold (fun x y hx hy => inR_more hx hy) h
          · split
            · refine FP.rd_in false _ (h _ ?_)
              obtain ⟨x, hx⟩ := List.getLast?_isSome.2 hne |> Option.isSome_iff_exists.1
              rw [List.getLastD_eq_getLast?, hx]
              exact List.mem_of_getLast? hx
            · intro t ht; cases ht
theorem rAt_tm {s t : Int} (hs : 1 ≤ s) (ht : rTm t = true) : rTm (rAt s t) = true := by
  obtain ⟨t0, t1⟩ := rTm_iff.1 ht
  obtain ⟨a0, a1, -⟩ := rAt_facts (s := s) hs t0
  exact rTm_iff.2 ⟨a0, by omega⟩
theorem rSet_fine {s : Int} {l : List (Int × Int)} {t v : Int} (h : ∀ g ∈ l, I64 g.2) (hv : I64 v) : ∀ g ∈ (rSet s l t v).getD l, I64 g.2 := by
  unfold rSet
  split
  · intro g hg
    rcases List.mem_or_eq_of_mem_set hg with h2 | h2
    · exact h g h2
    · rw [h2]; exact hv
  · exact h
theorem lMadeL_ok {m f t : Int} {a b : Rg} (ha : ∀ g ∈ a.2, I64 g.2) (hb : rRight b.1 b.2 = true) (ht : rTm t = true) : (lMadeL m f a b t).length = b.2.length ∧ rRight b.1 (lMadeL m f a b t) = true ∧ ((∀ g ∈ b.2, I64 g.2) → ∀ g ∈ lMadeL m f a b t, I64 g.2) := by
  unfold lMadeL
  have hP := lParts_fine (r := a) ha (rAt b.1 t) (b.1 / a.1).toNat
  split
  · exact ⟨rfl, hb, fun h => h⟩
  · cases ho : lBlend m (lParts a (rAt b.1 t) (b.1 / a.1).toNat) with
    | none => exact ⟨rfl, hb, fun h => h⟩
    | some v =>
      have hv := inR_blend (m := m) hP v ho
      obtain ⟨q, e, e2, e3⟩ := rSet_some (t := rAt b.1 t) (v := v) hb (rAt_tm (rMay_iff.1 (rRight_iff.1 hb).1).1 ht) (by omega)
      refine ⟨by simp only [e, Option.getD_some]; exact e2, by simp only [e, Option.getD_some]; exact e3, fun h => rSet_fine h ⟨by omega, by omega⟩⟩
theorem lFine_set {L : List Rg} {i : Nat} {x : Rg} (h : lFine L) (hx : ∀ g ∈ x.2, I64 g.2) : lFine (L.set i x) := by
  intro r hr
  rcases List.mem_or_eq_of_mem_set hr with h2 | h2
  · exact h r h2
  · rw [h2]; exact hx
theorem lStep_ok {m f t now : Int} {L : List Rg} {i : Nat} (h : lRight m f L = true) (hf : lFine L) (ht : rTm t = true) : lRight m f (lStep m f t now L i) = true ∧ lRungs (lStep m f t now L i) = lRungs L ∧ lFine (lStep m f t now L i) := by
  unfold lStep
  split
  · rename_i a b ha hb
    split
    · obtain ⟨e1, e2, e3⟩ := lMadeL_ok (m := m) (f := f) (t := t) (a := a) (b := b) (hf a (List.mem_of_getElem? ha)) ((lRight_iff.1 h).2.2 i b hb) ht
      obtain ⟨r1, r2⟩ := lRight_set (x := lMade m f a b t) h hb rfl e1 e2
      exact ⟨r1, r2, lFine_set hf (e3 (hf b (List.mem_of_getElem? hb)))⟩
    · exact ⟨h, rfl, hf⟩
  · exact ⟨h, rfl, hf⟩
theorem lSteps_ok {m f t now : Int} {L : List Rg} {i : Nat} (h : lRight m f L = true) (hf : lFine L) (ht : rTm t = true) : ∀ k : Nat, lRight m f (lSteps m f t now L i k) = true ∧ lRungs (lSteps m f t now L i k) = lRungs L ∧ lFine (lSteps m f t now L i k)
  | 0 => ⟨h, rfl, hf⟩
  | k + 1 => by
    obtain ⟨a, b, c⟩ := lSteps_ok (now := now) (i := i) h hf ht k
    obtain ⟨d, e, g⟩ := lStep_ok (now := now) (i := i + k) a c ht
    exact ⟨d, e.trans b, g⟩
theorem lPut_fine {L : List Rg} {i : Nat} {t v : Int} (h : lFine L) (hv : I64 v) : lFine (lPut L i t v) := by
  unfold lPut
  split
  · rename_i r hr
    exact lFine_set h (rSet_fine (h r (List.mem_of_getElem? hr)) hv)
  · exact h
theorem lRungs_len {L M : List Rg} (h : lRungs L = lRungs M) : L.length = M.length := by rw [← lRungs_length L, h, lRungs_length]
theorem lAccept_no {m f : Int} {L : List Rg} {t v now : Int} (h : ¬ (lRight m f L = true ∧ rTm t = true ∧ rTm now = true ∧ v ≠ -9223372036854775808)) : lAccept m f L t v now = (L, 1) := if_neg h
theorem lAccept_late {m f : Int} {L : List Rg} {t v now : Int} (h : lRight m f L = true ∧ rTm t = true ∧ rTm now = true ∧ v ≠ -9223372036854775808) (hn : now < t) : lAccept m f L t v now = (L, 3) := by
  unfold lAccept; rw [if_pos h, if_pos hn]
theorem lAccept_old {m f : Int} {L : List Rg} {t v now : Int} (h : lRight m f L = true ∧ rTm t = true ∧ rTm now = true ∧ v ≠ -9223372036854775808) (hn : ¬ now < t) (ho : lFirst t now L = none) : lAccept m f L t v now = (L, 14) := by
  unfold lAccept; rw [if_pos h, if_neg hn, ho]
theorem lAccept_yes {m f : Int} {L : List Rg} {t v now : Int} {i : Nat} (h : lRight m f L = true ∧ rTm t = true ∧ rTm now = true ∧ v ≠ -9223372036854775808) (hn : ¬ now < t) (ho : lFirst t now L = some i) : lAccept m f L t v now = (lSteps m f t now (lPut L i t v) (i + 1) (L.length - (i + 1)), 0) := by
  unfold lAccept; rw [if_pos h, if_neg hn, ho]
theorem lSteps_succ (m f t now : Int) (L : List Rg) (i k : Nat) : lSteps m f t now L i (k + 1) = lStep m f t now (lSteps m f t now L i k) (i + k) := rfl
theorem lStep_yes {m f t now : Int} {L : List Rg} {i : Nat} {a b : Rg} (ha : L[i]? = some a) (hb : L[i + 1]? = some b) (h : lReaches t now b = true) : lStep m f t now L (i + 1) = L.set (i + 1) (lMade m f a b t) := by
  unfold lStep
  rw [Nat.add_sub_cancel, ha, hb]
  exact if_pos h
theorem lStep_no {m f t now : Int} {L : List Rg} {i : Nat} {b : Rg} (hb : L[i]? = some b) (h : lReaches t now b = false) : lStep m f t now L i = L := by
  unfold lStep
  split
  · rename_i a b' ha hb'
    rw [hb] at hb'
    obtain rfl := Option.some.inj hb'
    rw [h]; rfl
  · rfl
theorem lAccept_len (m f : Int) (L : List Rg) (t v now : Int) (hf : lFine L) (hv : I64 v) : (lAccept m f L t v now).1.length = L.length := by
  by_cases h : lRight m f L = true ∧ rTm t = true ∧ rTm now = true ∧ v ≠ -9223372036854775808
  · by_cases hn : now < t
    · rw [lAccept_late h hn]
    · cases ho : lFirst t now L with
      | none => rw [lAccept_old h hn ho]
      | some i =>
        rw [lAccept_yes h hn ho]
        obtain ⟨a, b⟩ := lPut_right (i := i) h.1 h.2.1 h.2.2.2
        exact (lRungs_len (lSteps_ok (now := now) (i := i + 1) a (lPut_fine hf hv) h.2.1 _).2.1).trans (lRungs_len b)
  · rw [lAccept_no h]
/-- What has accepted a point, is right. -/
theorem lAccept_right {m f : Int} {L : List Rg} {t v now : Int} (hf : lFine L) (hv : I64 v) (h : (lAccept m f L t v now).2 = 0) : lRight m f (lAccept m f L t v now).1 = true ∧ lRungs (lAccept m f L t v now).1 = lRungs L ∧ lFine (lAccept m f L t v now).1 := by
  by_cases hc : lRight m f L = true ∧ rTm t = true ∧ rTm now = true ∧ v ≠ -9223372036854775808
  · by_cases hn : now < t
    · rw [lAccept_late hc hn] at h; cases h
    · cases ho : lFirst t now L with
      | none => rw [lAccept_old hc hn ho] at h; cases h
      | some i =>
        rw [lAccept_yes hc hn ho]
        obtain ⟨a, b⟩ := lPut_right (i := i) hc.1 hc.2.1 hc.2.2.2
        obtain ⟨x, y, z⟩ := lSteps_ok (now := now) (i := i + 1) a (lPut_fine (i := i) (t := t) hf hv) hc.2.1 (L.length - (i + 1))
        exact ⟨x, y.trans b, z⟩
  · rw [lAccept_no hc] at h; cases h
end Go.Proofs.Ytkgajlklhcmmcaa
