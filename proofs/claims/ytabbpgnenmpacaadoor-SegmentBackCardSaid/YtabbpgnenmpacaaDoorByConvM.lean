/-
  Rows of bytes as texts: what a conversion makes of them.
-/
import Derived.Test.YtabbpgnenmpacaaDoorCrcGM
import Derived.Test.YtabbpgnenmpacaaDoorByRow
import Derived.Test.YtabbpgnenmpacaaDoorProg
import Derived.Laws.IdiomStrings
import Derived.Laws.BytesArg
import Derived.Laws.Strings
set_option linter.unusedSimpArgs false
set_option linter.unusedVariables false
namespace Go.Proofs.YtabbpgnenmpacaaDoor
open Go.RowKit
/-- A row of bytes as the text that a conversion makes of it. -/
def strB (l : List Nat) : ByteArray := ⟨(l.map UInt8.ofNat).toArray⟩
theorem map_ofNat_inj {a b : List Nat} (ha : Bytes a) (hb : Bytes b) (h : a.map UInt8.ofNat = b.map UInt8.ofNat) : a = b := by
  have e : ∀ l : List Nat, Bytes l → (l.map UInt8.ofNat).map UInt8.toNat = l := by
    intro l hl
    rw [List.map_map]
    refine (List.map_congr_left fun x hx => ?_).trans (List.map_id l)
    have := hl x hx
    show (UInt8.ofNat x).toNat = x
    rw [UInt8.toNat_ofNat']
    omega
  rw [← e a ha, ← e b hb, h]
set_option maxRecDepth 100000 in
theorem conv_by {w : World} {A : Option Addr} {n c : Nat} {l : List Nat} (hb : Bytes l) (h : ByOut w (.slice A n c) l) : (convert 27 9 (.slice A n c)).run Tryd.prog w = .ok (.string (strB l)) w := by
  obtain ⟨A', c', hv, hc, hx⟩ := h
  injection hv with h1 h2 h3
  subst h1 h2 h3
  rcases Nat.eq_zero_or_pos l.length with h0 | h0
  · obtain rfl : l = [] := List.eq_nil_of_length_eq_zero h0
    rw [run_convert_bytes_string w 27 9 5 _ _ c Tryd.underlying27 Tryd.underlying5 Tryd.underlying9]
    cases A <;> simp [Conv.bytesToString, loadCells]
    all_goals rfl
  · obtain ⟨b, off, rfl, hf⟩ := hx (List.length_pos_iff.1 h0)
    have e := run_convert_bytes_back (P := Tryd.prog) w 27 9 5 ⟨b, off, none⟩ c (l.map UInt8.ofNat) Tryd.underlying27 Tryd.underlying5 Tryd.underlying9 (fun j hj => by
      have ea : (⟨b, off, none⟩ : Addr).add j = ⟨b, off + j, none⟩ := by unfold Addr.add; split <;> simp_all
      rw [List.length_map] at hj
      rw [ea, hf j _ (List.getElem?_eq_getElem hj), List.getElem_map]
      have := hb _ (List.getElem_mem hj)
      rw [UInt8.toNat_ofNat']
      congr 3
      omega)
    rw [List.length_map] at e
    exact e
theorem strB_eq {a b : List Nat} (ha : Bytes a) (hb : Bytes b) : ((strB a).toList == (strB b).toList) = decide (a = b) := by
  rw [ByteArray.toList_eq, ByteArray.toList_eq]
  by_cases h : a = b
  · rw [h, decide_eq_true rfl]; exact beq_self_eq_true _
  · rw [decide_eq_false h, beq_eq_false_iff_ne]
    intro h9
    apply h
    unfold strB at h9
    simp only [List.toList_toArray] at h9
    exact map_ofNat_inj ha hb h9
end Go.Proofs.YtabbpgnenmpacaaDoor
