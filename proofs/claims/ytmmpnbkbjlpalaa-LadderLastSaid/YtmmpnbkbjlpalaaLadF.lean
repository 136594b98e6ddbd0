/-
  What the last step of each statement of layer 14 wants: how arrivals read.
-/
import Derived.Test.YtmmpnbkbjlpalaaRinF
import Derived.Test.YtmmpnbkbjlpalaaLadWB
set_option linter.unusedSimpArgs false
set_option linter.unusedVariables false
namespace Go.Proofs.Ytmmpnbkbjlpalaa
open Go.ChangeShapes Go.WideShapes Go.ChangeAt Go.RowKit Go.Joins Go.Deep
section
variable {H : Type} {enc : TypeId × Value → H} {w : World} {base : Nat} {sp : Nat → Bool} {held : Bool}
set_option maxRecDepth 100000 in
/-- A row of arrivals, read. -/
theorem arrivals_in {n : Nat} {v : Value} {y : DataW H × List MemPlace} (h : DataW.trod enc Try.prog w base sp held n 53 [v] = some y) : ∃ l : List (Nat × Nat × Int), ArOut w v l ∧ ∀ x ∈ l, x.1 < 256 ∧ x.2.1 < 256 ∧ I64 x.2.2 := by
  obtain ⟨A, len, cap, l, rfl, hc, hl, hll, hx⟩ := row_in (α := Nat × Nat × Int) (fun i cs => cs = [.int .u8 (i.1 : Int), .int .u8 (i.2.1 : Int), .int .i64 i.2.2] ∧ i.1 < 256 ∧ i.2.1 < 256 ∧ I64 i.2.2) Try.underlying53 (k := 3) (by kernel_rfl) (by decide) (fun m cs z hz hk => by
    match cs, hk with
    | [c0, c1, c2], _ =>
      obtain ⟨_, _, g0⟩ := field_in Try.underlying58 hz 0 _ rfl c0 (by kernel_rfl) rfl
      obtain ⟨_, _, g1⟩ := field_in Try.underlying58 hz 1 _ rfl c1 (by kernel_rfl) rfl
      obtain ⟨_, _, g2⟩ := field_in Try.underlying58 hz 2 _ rfl c2 (by kernel_rfl) rfl
      obtain ⟨m0, rfl, b0⟩ := byte_is Try.underlying5 g0
      obtain ⟨m1, rfl, b1⟩ := byte_is Try.underlying5 g1
      obtain ⟨m2, rfl, b2⟩ := int_is Try.underlying2 g2
      exact ⟨(m0, m1, m2), rfl, b0, b1, b2⟩) h
  refine ⟨l, ⟨A, cap, by rw [hll], by omega, fun hn => ?_⟩, fun a ha => ?_⟩
  · obtain ⟨b, off, hA, hf⟩ := hx (by rw [← hll]; exact List.length_pos_iff.2 hn)
    refine ⟨b, off, hA, fun k i hk => ?_⟩
    obtain ⟨cs, _, ⟨rfl, _⟩, hcell⟩ := hf k i hk
    exact ⟨hcell 0 _ rfl, hcell 1 _ rfl, hcell 2 _ rfl⟩
  · obtain ⟨k, hk⟩ := List.getElem?_of_mem ha
    have h0 : 0 < len := by have := (List.getElem?_eq_some_iff.1 hk).1; omega
    obtain ⟨_, _, _, hf⟩ := hx h0
    obtain ⟨_, _, ⟨_, ho⟩, _⟩ := hf k a hk
    exact ho
set_option maxRecDepth 100000 in
theorem open_arrivals {r : Reach} {b0 : Nat} {v : Value} {d : DataW H} {ps : List MemPlace} (hval : Value.okWide Try.prog w r b0 53 v) (hd : DataW.Trod enc Try.prog w base sp held 53 v d ps) : ∃ l : List (Nat × Nat × Int), ArOut w v l ∧ ∀ x ∈ l, x.1 < 256 ∧ x.2.1 < 256 ∧ I64 x.2.2 := by
  obtain ⟨a, n, c, rfl⟩ := okWide_slice Try.underlying53 hval
  obtain ⟨fuel, h⟩ := hd
  exact arrivals_in h
end
end Go.Proofs.Ytmmpnbkbjlpalaa
