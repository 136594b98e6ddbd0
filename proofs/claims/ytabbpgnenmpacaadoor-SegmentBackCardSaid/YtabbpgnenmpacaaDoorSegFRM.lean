/-
  A row of records, read.
-/
import Derived.Test.YtabbpgnenmpacaaDoorSegFTM
set_option linter.unusedSimpArgs false
set_option linter.unusedVariables false
namespace Go.Proofs.YtabbpgnenmpacaaDoor
open Go.ChangeShapes Go.WideShapes Go.ChangeAt Go.RowKit Go.Joins Go.Deep
section
variable {H : Type} {enc : TypeId × Value → H} {w : World} {base : Nat} {sp : Nat → Bool} {held : Bool}
theorem open_records {v : Value} {d : DataW H} {ps : List MemPlace} (hd : DataW.Trod enc Tryd.prog w base sp held 33 v d ps) (hv : ∃ A l c, v = .slice A l c) :
    ∃ ls, RsOut w v ls ∧ (∀ r ∈ ls, Bytes r.path ∧ vOk r) ∧ ls.length ≤ 9223372036854775807 := by
  obtain ⟨A0, l0, c0, rfl⟩ := hv
  obtain ⟨fuel, hf⟩ := hd
  have hcells : (Value.slice A0 l0 c0).cells.toList = [.slice A0 l0 c0] := rfl
  rw [hcells] at hf
  obtain ⟨A, len, cap, ls, hvv, hc, hl, hll, hx⟩ := row_in (α := PR) (fun r cs => Bytes r.path ∧ vOk r ∧ ∃ u, cs = rcC u r ∧ RgOut w u r.rungs) Tryd.underlying33 (k := 9) (by kernel_rfl) (by decide) (fun m cs z hz hk => by
    match cs, hk with
    | [c0, c1, c2, c3, c4, c5, c6, c7, c8], _ =>
      obtain ⟨r, u, he, hu, hp, hv⟩ := record_in hz
      exact ⟨r, hp, hv, u, he, hu⟩) hf
  injection hvv with e1 e2 e3
  subst e1 e2 e3
  refine ⟨ls, ⟨A0, c0, by rw [hll], by omega, fun hn => ?_⟩, fun s hs => ?_, by omega⟩
  · obtain ⟨b, off, hA, hf⟩ := hx (by rw [← hll]; exact List.length_pos_iff.2 hn)
    refine ⟨b, off, hA, fun k r hk => ?_⟩
    obtain ⟨cs, _, ⟨_, _, u, rfl, hu⟩, hcell⟩ := hf k r hk
    exact ⟨u, hu, hcell⟩
  · obtain ⟨i, hi⟩ := List.getElem?_of_mem hs
    have h0 : 0 < l0 := by have := (List.getElem?_eq_some_iff.1 hi).1; omega
    obtain ⟨_, _, _, hf⟩ := hx h0
    obtain ⟨_, _, ⟨h1, h2, _⟩, _⟩ := hf i s hi
    exact ⟨h1, h2⟩
end
end Go.Proofs.YtabbpgnenmpacaaDoor
