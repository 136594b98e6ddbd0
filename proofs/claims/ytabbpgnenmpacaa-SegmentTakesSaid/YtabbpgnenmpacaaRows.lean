/-
  No cell of these rows narrows 'for every input' (looked for: loops, veiled, ifaces, maps, wideKeys, modest, calm, conditions, laid).
  DERIVED. THE GIVEN ROWS OF THIS SEAT. 2 by the template 'for every input the law returns true; each argument reads behind the call as it read before'; 0 by the template 'total and deterministic' (their statements: YtabbpgnenmpacaaTotals.lean).
  GIVEN WITH THE SEED: the statements are not yours to turn. If you find one false, say at which input.
  Laid BY PROGRAM, IN A SANDBOX (cutbox-rows.mjs): the forced cells as the released guide's own fill.sh prints them over the translation 006529eab6df30de… (all of the seat's roots in one cut). By AI agents, Wed Nov 11 2026. No macro, syntax, notation, axiom, sorry.
-/
import Derived.Test.YtabbpgnenmpacaaChecked
import GoSem.Claim
import GoSem.ClaimJoined
import GoSem.ClaimMapViews
import Derived.JoinedTies
import Derived.KernelRfl
namespace Go.Proofs.Ytabbpgnenmpacaa
/- THE CELL 'sum', in the pinned program and in every row, IS THE sha256 OF THE DUMP (.gsa) THAT YtabbpgnenmpacaaProg.lean LOADS. Nothing in Lean hashes anything: it is a label: what it is worth is what the hold of that sum in a sandbox is worth. -/
noncomputable def Try.pinned : Pinned := { name := "ytabbpgnenmpacaa", sum := "006529eab6df30de1eff58628a3cc7d3d206dca729f66c696ce948bec9000631", checked := Try.checked }
namespace Rows
def none {H : Type} : Left H := { results := [], args := [] }

/-- 'isobarlaw08.SegmentTakes': WHATEVER THE INPUT: true; the input reads as it did. -/
def segmentTakesSpec : ChangeSpec := { name := "segmentTakes", fn := fun _ => fun
  | [d] => { results := [.lit (.bool true)], args := [d] }
  | _ => none }
def segmentTakesRow : OpenClaim := { program := "ytabbpgnenmpacaa", sum := "006529eab6df30de1eff58628a3cc7d3d206dca729f66c696ce948bec9000631", func := "isobar/isobarlaw08.SegmentTakes", spec := "segmentTakes", apart := false }
def SegmentTakesSaid : Prop := segmentTakesRow.holds Try.pinned (OpenSpec.ofChange segmentTakesSpec)

/-- ITS FALSE NEIGHBOUR: 'it returns false'. Refute it at one input. -/
def segmentTakesWrong : ChangeSpec := { name := "segmentTakes", fn := fun _ => fun
  | [d] => { results := [.lit (.bool false)], args := [d] }
  | _ => none }
def SegmentTakesWrongFalsely : Prop := segmentTakesRow.holds Try.pinned (OpenSpec.ofChange segmentTakesWrong)

/-- 'isobarlaw08.SegmentRecord': WHATEVER THE INPUT: true; the input reads as it did. -/
def segmentRecordSpec : ChangeSpec := { name := "segmentRecord", fn := fun _ => fun
  | [d1, d2] => { results := [.lit (.bool true)], args := [d1, d2] }
  | _ => none }
def segmentRecordRow : OpenClaim := { program := "ytabbpgnenmpacaa", sum := "006529eab6df30de1eff58628a3cc7d3d206dca729f66c696ce948bec9000631", func := "isobar/isobarlaw08.SegmentRecord", spec := "segmentRecord", apart := false }
def SegmentRecordSaid : Prop := segmentRecordRow.holds Try.pinned (OpenSpec.ofChange segmentRecordSpec)

/-- ITS FALSE NEIGHBOUR: 'it returns false'. Refute it at one input. -/
def segmentRecordWrong : ChangeSpec := { name := "segmentRecord", fn := fun _ => fun
  | [d1, d2] => { results := [.lit (.bool false)], args := [d1, d2] }
  | _ => none }
def SegmentRecordWrongFalsely : Prop := segmentRecordRow.holds Try.pinned (OpenSpec.ofChange segmentRecordWrong)

/- THE SECOND FORM. 'bulk': how many values and letters a reading holds, each counted each time it is reached (what is shared counts as often as it is met; a slice's spare places count too). A statement '..UptoSaid' is the law's where the arguments, and the package variables that the reading takes, are together of bulk at most 1048576: NARROWER than '..Said'. Prove '..Said' where nothing that the law and all that it calls make is longer than what came in: it says more and counts as full. Else prove '..UptoSaid'. A law counts once. -/
mutual
def uptoBulk {H : Type} : DataW H → Nat
  | .lit (.string bytes) => bytes.length + 1
  | .lit _ => 1
  | .nil => 1
  | .ptr d => uptoBulk d + 1
  | .slice elems spare => uptoBulkAll elems + uptoBulkAll spare + 1
  | .agg parts => uptoBulkAll parts + 1
  | .iface _ d => uptoBulk d + 1
  | .map entries => uptoBulkEntries entries + 1
  | .held _ => 1
def uptoBulkAll {H : Type} : List (DataW H) → Nat
  | [] => 0
  | d :: r => uptoBulk d + uptoBulkAll r
def uptoBulkEntries {H : Type} : List (Lit × DataW H) → Nat
  | [] => 0
  | x :: r => uptoBulkEntry x + uptoBulkEntries r
def uptoBulkEntry {H : Type} : Lit × DataW H → Nat
  | (.string bytes, d) => bytes.length + uptoBulk d + 1
  | (_, d) => uptoBulk d + 1
 end
def uptoSmall : (H : Type) → List (DataW H) → Bool := fun _ ds => decide (uptoBulkAll ds ≤ 1048576)
def OpenSpec.upto (s : _root_.Go.ChangeSpec) : _root_.Go.OpenSpec := { _root_.Go.OpenSpec.ofChange s with cond := some uptoSmall }

/-- 'isobarlaw08.SegmentTakes', WHERE WHAT IT READS IS OF BULK AT MOST 1048576: true; the input reads as it did. -/
def segmentTakesUptoRow : OpenClaim := { program := "ytabbpgnenmpacaa", sum := "006529eab6df30de1eff58628a3cc7d3d206dca729f66c696ce948bec9000631", func := "isobar/isobarlaw08.SegmentTakes", spec := "segmentTakes", apart := false, narrowed := true }
def SegmentTakesUptoSaid : Prop := segmentTakesUptoRow.holds Try.pinned (OpenSpec.upto segmentTakesSpec)

/-- 'isobarlaw08.SegmentRecord', WHERE WHAT IT READS IS OF BULK AT MOST 1048576: true; the input reads as it did. -/
def segmentRecordUptoRow : OpenClaim := { program := "ytabbpgnenmpacaa", sum := "006529eab6df30de1eff58628a3cc7d3d206dca729f66c696ce948bec9000631", func := "isobar/isobarlaw08.SegmentRecord", spec := "segmentRecord", apart := false, narrowed := true }
def SegmentRecordUptoSaid : Prop := segmentRecordUptoRow.holds Try.pinned (OpenSpec.upto segmentRecordSpec)

end Rows
end Go.Proofs.Ytabbpgnenmpacaa
