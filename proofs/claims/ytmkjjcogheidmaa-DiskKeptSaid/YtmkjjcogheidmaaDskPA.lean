/-
  Contracts of the program's small functions of layer 6, and plain facts on the places of names and files in their lists.
-/
import Derived.Test.YtmkjjcogheidmaaDskC0
import Derived.Test.YtmkjjcogheidmaaShelf
import Derived.WalkSmall
import Derived.BigRegion
import Derived.BigQuiet
import Derived.Deep.QuietTactic
import Derived.Deep.RegionWith
set_option linter.unusedSimpArgs false
set_option linter.unusedVariables false
namespace Go.Proofs.Ytmkjjcogheidmaa
open Go.RowKit
theorem cmpB_lt : ∀ {a b : List UInt8}, Lib.compareBytes a b < 0 ↔ a < b
  | [], [] => by simp [Lib.compareBytes]
  | [], _ :: _ => by simp [Lib.compareBytes]
  | _ :: _, [] => by simp [Lib.compareBytes]
  | a :: p, b :: q => by
    unfold Lib.compareBytes
    rw [List.cons_lt_cons_iff]
    split
    · rename_i h; simp [h]
    · rename_i h
      split
      · rename_i h2
        have : a ≠ b := fun e => h (e ▸ h2)
        simp [h, this]
      · rename_i h2
        have : a = b := UInt8.le_antisymm (UInt8.not_lt.1 h2) (UInt8.not_lt.1 h)
        rw [cmpB_lt]
        simp [this]
theorem cmpB_eq : ∀ {a b : List UInt8}, Lib.compareBytes a b = 0 ↔ a = b
  | [], [] => by simp [Lib.compareBytes]
  | [], _ :: _ => by simp [Lib.compareBytes]
  | _ :: _, [] => by simp [Lib.compareBytes]
  | a :: p, b :: q => by
    unfold Lib.compareBytes
    split
    · rename_i h
      have : a ≠ b := fun e => UInt8.lt_irrefl a (by rw [← e] at h; exact h)
      simp [this]
    · rename_i h
      split
      · rename_i h2
        have : a ≠ b := fun e => h (e ▸ h2)
        simp [this]
      · rename_i h2
        have : a = b := UInt8.le_antisymm (UInt8.not_lt.1 h2) (UInt8.not_lt.1 h)
        rw [cmpB_eq]
        simp [this]
theorem cmpB_range : ∀ {a b : List UInt8}, -1 ≤ Lib.compareBytes a b ∧ Lib.compareBytes a b ≤ 1
  | [], [] => by simp [Lib.compareBytes]
  | [], _ :: _ => by simp [Lib.compareBytes]
  | _ :: _, [] => by simp [Lib.compareBytes]
  | a :: p, b :: q => by
    unfold Lib.compareBytes
    split
    · omega
    · split
      · omega
      · exact cmpB_range
theorem bcl {W w1 : World} (hb : Below W.heap.size W w1) : (∀ b o, b < W.heap.size → w1.cell? ⟨b, o, none⟩ = W.cell? ⟨b, o, none⟩) ∧ (∀ b o, b < W.heap.size → w1.frozen? ⟨b, o, none⟩ = W.frozen? ⟨b, o, none⟩) :=
  ⟨fun b o h => hb.cell (p := ⟨b, o, none⟩) h, fun b o h => hb.frozen (p := ⟨b, o, none⟩) h⟩
/-- Where a name stands in a list of names, or would stand. -/
def nAt (s : ByteArray) (l : List PN) : Nat := l.countP fun x => decide (slt x.name s)
theorem nAt_le (s : ByteArray) (l : List PN) : nAt s l ≤ l.length := List.countP_le_length
theorem nAt_iff {s : ByteArray} : ∀ {l : List PN}, NS l → ∀ {k : Nat} {x : PN}, l[k]? = some x → (slt x.name s ↔ k < nAt s l)
  | [], _, k, x, h => by simp at h
  | y :: r, hs, k, x, h => by
    have h2 := List.pairwise_cons.1 hs
    have hr : ¬ slt y.name s → nAt s r = 0 := fun hy => by
      unfold nAt
      rw [List.countP_eq_zero]
      intro z hz hc
      exact hy (slt_trans (h2.1 z hz) (of_decide_eq_true hc))
    by_cases hy : slt y.name s
    · have e : nAt s (y :: r) = nAt s r + 1 := by unfold nAt; rw [List.countP_cons_of_pos (by simpa using hy)]
      cases k with
      | zero =>
        have : y = x := by simpa using h
        rw [e, ← this]
        exact ⟨fun _ => Nat.succ_pos _, fun _ => hy⟩
      | succ k =>
        rw [e, nAt_iff h2.2 (by simpa using h)]
        omega
    · have e : nAt s (y :: r) = 0 := by unfold nAt; rw [List.countP_cons_of_neg (by simpa using hy)]; exact hr hy
      rw [e]
      cases k with
      | zero =>
        have : y = x := by simpa using h
        rw [← this]
        exact ⟨fun h => absurd h hy, fun h => absurd h (Nat.lt_irrefl _)⟩
      | succ k =>
        have hx : x ∈ r := List.mem_of_getElem? (by simpa using h)
        exact ⟨fun h => absurd (slt_trans (h2.1 x hx) h) hy, fun h => absurd h (Nat.not_lt_zero _)⟩
theorem nHas_iff {s : ByteArray} {l : List PN} (h : NS l) : nHas s l ↔ ∃ x, l[nAt s l]? = some x ∧ x.name = s := by
  constructor
  · rintro ⟨x, hx, e⟩
    obtain ⟨k, hk⟩ := List.getElem?_of_mem hx
    have h1 : ¬ k < nAt s l := fun hc => slt_irrefl s (by have := (nAt_iff h hk).2 hc; rwa [e] at this)
    rcases Nat.lt_or_ge (nAt s l) k with h2 | h2
    · have h3 := List.getElem?_eq_getElem (show nAt s l < l.length from Nat.lt_trans h2 (List.getElem?_eq_some_iff.1 hk).1)
      have h4 : slt (l[nAt s l]'(Nat.lt_trans h2 (List.getElem?_eq_some_iff.1 hk).1)).name s := by
        have := (List.pairwise_iff_getElem.1 h) _ _ (Nat.lt_trans h2 (List.getElem?_eq_some_iff.1 hk).1) (List.getElem?_eq_some_iff.1 hk).1 h2
        rw [(List.getElem?_eq_some_iff.1 hk).2, e] at this
        exact this
      exact absurd ((nAt_iff h h3).1 h4) (Nat.lt_irrefl _)
    · have : k = nAt s l := by omega
      exact ⟨x, this ▸ hk, e⟩
  · rintro ⟨x, hx, e⟩
    exact ⟨x, List.mem_of_getElem? hx, e⟩
/-- Where a file of a number stands in a list of files. -/
def fAt (i : Nat) (l : List PF) : Nat := l.countP fun x => decide (x.id < i)
theorem fAt_le (i : Nat) (l : List PF) : fAt i l ≤ l.length := List.countP_le_length
theorem fAt_iff {i : Nat} : ∀ {l : List PF}, (l.Pairwise fun a b => a.id < b.id) → ∀ {k : Nat} {x : PF}, l[k]? = some x → (x.id < i ↔ k < fAt i l)
  | [], _, k, x, h => by simp at h
  | y :: r, hs, k, x, h => by
    have h2 := List.pairwise_cons.1 hs
    have hr : ¬ y.id < i → fAt i r = 0 := fun hy => by
      unfold fAt
      rw [List.countP_eq_zero]
      intro z hz hc
      have := h2.1 z hz
      have := of_decide_eq_true hc
      omega
    by_cases hy : y.id < i
    · have e : fAt i (y :: r) = fAt i r + 1 := by unfold fAt; rw [List.countP_cons_of_pos (by simpa using hy)]
      cases k with
      | zero =>
        have : y = x := by simpa using h
        rw [e, ← this]
        exact ⟨fun _ => Nat.succ_pos _, fun _ => hy⟩
      | succ k =>
        rw [e, fAt_iff h2.2 (by simpa using h)]
        omega
    · have e : fAt i (y :: r) = 0 := by unfold fAt; rw [List.countP_cons_of_neg (by simpa using hy)]; exact hr hy
      rw [e]
      cases k with
      | zero =>
        have : y = x := by simpa using h
        rw [← this]
        exact ⟨fun h => absurd h hy, fun h => absurd h (Nat.lt_irrefl _)⟩
      | succ k =>
        have hx : x ∈ r := List.mem_of_getElem? (by simpa using h)
        have := h2.1 x hx
        exact ⟨fun h => absurd (by omega) hy, fun h => absurd h (Nat.not_lt_zero _)⟩
theorem fHas_iff {i : Nat} {l : List PF} (h : l.Pairwise fun a b => a.id < b.id) : (∃ x ∈ l, x.id = i) ↔ ∃ x, l[fAt i l]? = some x ∧ x.id = i := by
  constructor
  · rintro ⟨x, hx, e⟩
    obtain ⟨k, hk⟩ := List.getElem?_of_mem hx
    have h1 : ¬ k < fAt i l := fun hc => by have := (fAt_iff h hk).2 hc; omega
    rcases Nat.lt_or_ge (fAt i l) k with h2 | h2
    · have h3 := List.getElem?_eq_getElem (show fAt i l < l.length from Nat.lt_trans h2 (List.getElem?_eq_some_iff.1 hk).1)
      have h4 : (l[fAt i l]'(Nat.lt_trans h2 (List.getElem?_eq_some_iff.1 hk).1)).id < i := by
        have := (List.pairwise_iff_getElem.1 h) _ _ (Nat.lt_trans h2 (List.getElem?_eq_some_iff.1 hk).1) (List.getElem?_eq_some_iff.1 hk).1 h2
        rw [(List.getElem?_eq_some_iff.1 hk).2, e] at this
        exact this
      exact absurd ((fAt_iff h h3).1 h4) (Nat.lt_irrefl _)
    · have : k = fAt i l := by omega
      exact ⟨x, this ▸ hk, e⟩
  · rintro ⟨x, hx, e⟩
    exact ⟨x, List.mem_of_getElem? hx, e⟩
end Go.Proofs.Ytmkjjcogheidmaa
