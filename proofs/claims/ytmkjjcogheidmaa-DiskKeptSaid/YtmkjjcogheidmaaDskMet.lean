/-
  Sets of numbers in maps: made, asked, grown, counted, kept.
-/
import Derived.Test.YtmkjjcogheidmaaDskPG
import Derived.Maps.OwnSet
import Derived.Carry
set_option linter.unusedSimpArgs false
set_option linter.unusedVariables false
namespace Go.Proofs.Ytmkjjcogheidmaa
open Go.RowKit Go.Maps
def idOk (i : Nat) : Prop := (Lit.int .i64 ((i : Nat) : Int)).wf = true
theorem idOk_of {i : Nat} (h : i ≤ 1099511627776) : idOk i := by
  unfold idOk
  have e : IntKind.i64.min = -9223372036854775808 := by decide
  simp [Lit.wf, e]
  omega
theorem law3 : Keyed Try.prog 3 := int_keyed Try.underlying3
theorem zeroUnit (w : World) : (zeroValue 81).run Try.prog w = .ok (.agg #[]) w := by kernel_rfl
/-- Block b is a set of just these numbers. -/
def Met (w : World) (b : Nat) (ids : List Nat) : Prop := ∃ D : DataW Unit, w.ownsMap Try.prog 3 unitElem b ids.length D ∧ (∀ i, idOk i → Maps.has D (.int .i64 ((i : Nat) : Int)) = decide (i ∈ ids)) ∧ Maps.size D = ids.length
theorem met_made (w : World) : Met (w.alloc (.map #[] 0)) w.heap.size [] := ⟨_, World.ownsMap_made _ _ _ _, fun i _ => by simp [Maps.has], rfl⟩
theorem Met.lt {w : World} {b : Nat} {ids : List Nat} (h : Met w b ids) : b < w.heap.size := by obtain ⟨D, h, _⟩ := h; exact h.lt
theorem Met.kept {w w' : World} {b : Nat} {ids : List Nat} {row : Option Nat} (h : Met w b ids) (hg : w.grownBy w' row) (hne : some b ≠ row) : Met w' b ids := by
  obtain ⟨D, h, r⟩ := h
  exact ⟨D, h.kept hg hne, r⟩
theorem Met.below {w w' : World} {b : Nat} {ids : List Nat} (h : Met w b ids) (hb : Below w.heap.size w w') : Met w' b ids := h.kept (grown_of_below hb none) (by simp)
theorem Met.look {w : World} {b i : Nat} {ids : List Nat} (h : Met w b ids) (hi : idOk i) : (Instr.lookup 80 (.map (some b)) (.int .i64 ((i : Nat) : Int)) true).run Try.prog w = .ok (.tuple #[.agg #[], .bool (decide (i ∈ ids))]) w := by
  obtain ⟨D, h, hh, _⟩ := h
  obtain ⟨v, ps, hrun, hv⟩ := h.look_ok law3 Try.underlying80 (zeroUnit w) unitElem_mk (keyOf_int_mk Try.underlying3 hi)
  obtain ⟨rfl, _⟩ := unitElem_inv hv
  rw [hrun, hh i hi]
theorem sameKey_int {i j : Nat} : (Lit.int .i64 ((i : Nat) : Int)) = (Lit.int .i64 ((j : Nat) : Int)) ↔ i = j := by
  constructor
  · intro h
    injection h with _ h
    omega
  · rintro rfl; rfl
theorem Met.put {w : World} {b i : Nat} {ids : List Nat} (h : Met w b ids) (hi : idOk i) (hn : i ∉ ids) (hl : ids.length ≤ 1000000) : ∃ w', (Instr.mapUpdate 80 (.map (some b)) (.int .i64 ((i : Nat) : Int)) (.agg #[])).run Try.prog w = .ok () w' ∧ Met w' b (ids ++ [i]) ∧ w.grownBy w' (some b) := by
  obtain ⟨D, h, hh, hs⟩ := h
  have ht := h.tidy law3
  have hk : WideAt.IsKeyLit (.int .i64 ((i : Nat) : Int)) := trivial
  obtain ⟨w', hrun, h', hg⟩ := h.update (key := .int .i64 ((i : Nat) : Int)) law3 Try.underlying80 (by unfold maxLen; omega) (keyOf_int_mk Try.underlying3 hi) (unitElem_mk (H := Unit))
  refine ⟨w', hrun, ⟨_, by rw [List.length_append]; exact h', fun j hj => ?_, ?_⟩, hg⟩
  · by_cases e : j = i
    · rw [e, has_put_same ht.isMap hk]
      simp
    · rw [has_put_other (fun h => e (sameKey_int.1 h)), hh j hj]
      simp [e]
  · rw [size_put ht, hh i hi, decide_eq_false hn, hs, List.length_append]
    rfl
theorem Met.len {w : World} {b : Nat} {ids : List Nat} (h : Met w b ids) (ty : TypeId) : (Builtin.len_ #[80] ty #[.map (some b)]).run Try.prog w = .ok (.int .i64 ((ids.length : Nat) : Int)) w := by
  obtain ⟨D, h, _, hs⟩ := h
  rw [h.len Try.underlying80 ty, hs]
theorem makeMap_hint (n : Nat) (hn : n ≤ 1000000) (w : World) : (Instr.makeMap 80 (some (.int .i64 ((n : Nat) : Int)))).run Try.prog w = .ok (.map (some w.heap.size)) (w.alloc (.map #[] 0)) := by
  have h : ¬ ((n : Nat) : Int) < 0 := by omega
  unfold Instr.makeMap
  simp [h, asInt, asIntOf]
end Go.Proofs.Ytmkjjcogheidmaa
