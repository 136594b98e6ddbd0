/-
  No cell of these rows narrows 'for every input' (looked for: loops, veiled, ifaces, maps, wideKeys, modest, calm, conditions, laid).
  DERIVED. THE GIVEN ROWS OF THIS SEAT. 6 by the template 'for every input the law returns true; each argument reads behind the call as it read before'; 0 by the template 'total and deterministic' (their statements: YtodigfdhhndboaaTotals.lean).
  GIVEN WITH THE SEED: the statements are not yours to turn. If you find one false, say at which input.
  Laid BY PROGRAM, IN A SANDBOX (cutbox-rows.mjs): the forced cells as the released guide's own fill.sh prints them over the translation ce5bbd2a325e8864… (all of the seat's roots in one cut). By AI agents, Wed Nov 11 2026. No macro, syntax, notation, axiom, sorry.
-/
import Derived.Test.YtodigfdhhndboaaChecked
import GoSem.Claim
import GoSem.ClaimJoined
import GoSem.ClaimMapViews
import Derived.JoinedTies
import Derived.KernelRfl
namespace Go.Proofs.Ytodigfdhhndboaa
/- THE CELL 'sum', in the pinned program and in every row, IS THE sha256 OF THE DUMP (.gsa) THAT YtodigfdhhndboaaProg.lean LOADS. Nothing in Lean hashes anything: it is a label: what it is worth is what the hold of that sum in a sandbox is worth. -/
noncomputable def Try.pinned : Pinned := { name := "ytodigfdhhndboaa", sum := "ce5bbd2a325e886455a47c3aa32598bb87be99dbe3981c4b407afb1875df02a9", checked := Try.checked }
namespace Rows
def none {H : Type} : Left H := { results := [], args := [] }

/-- 'isobarlaw09.NeedleCompiles': WHATEVER THE INPUT: true; the input reads as it did. -/
def needleCompilesSpec : ChangeSpec := { name := "needleCompiles", fn := fun _ => fun
  | [d1, d2, d3] => { results := [.lit (.bool true)], args := [d1, d2, d3] }
  | _ => none }
def needleCompilesRow : OpenClaim := { program := "ytodigfdhhndboaa", sum := "ce5bbd2a325e886455a47c3aa32598bb87be99dbe3981c4b407afb1875df02a9", func := "isobar/isobarlaw09.NeedleCompiles", spec := "needleCompiles", apart := false }
def NeedleCompilesSaid : Prop := needleCompilesRow.holds Try.pinned (OpenSpec.ofChange needleCompilesSpec)

/-- ITS FALSE NEIGHBOUR: 'it returns false'. Refute it at one input. -/
def needleCompilesWrong : ChangeSpec := { name := "needleCompiles", fn := fun _ => fun
  | [d1, d2, d3] => { results := [.lit (.bool false)], args := [d1, d2, d3] }
  | _ => none }
def NeedleCompilesWrongFalsely : Prop := needleCompilesRow.holds Try.pinned (OpenSpec.ofChange needleCompilesWrong)

/-- 'isobarlaw09.NeedleFinds': WHATEVER THE INPUT: true; the input reads as it did. -/
def needleFindsSpec : ChangeSpec := { name := "needleFinds", fn := fun _ => fun
  | [d1, d2] => { results := [.lit (.bool true)], args := [d1, d2] }
  | _ => none }
def needleFindsRow : OpenClaim := { program := "ytodigfdhhndboaa", sum := "ce5bbd2a325e886455a47c3aa32598bb87be99dbe3981c4b407afb1875df02a9", func := "isobar/isobarlaw09.NeedleFinds", spec := "needleFinds", apart := false }
def NeedleFindsSaid : Prop := needleFindsRow.holds Try.pinned (OpenSpec.ofChange needleFindsSpec)

/-- ITS FALSE NEIGHBOUR: 'it returns false'. Refute it at one input. -/
def needleFindsWrong : ChangeSpec := { name := "needleFinds", fn := fun _ => fun
  | [d1, d2] => { results := [.lit (.bool false)], args := [d1, d2] }
  | _ => none }
def NeedleFindsWrongFalsely : Prop := needleFindsRow.holds Try.pinned (OpenSpec.ofChange needleFindsWrong)

/-- 'isobarlaw09.NeedleMatches': WHATEVER THE INPUT: true; the input reads as it did. -/
def needleMatchesSpec : ChangeSpec := { name := "needleMatches", fn := fun _ => fun
  | [d1, d2] => { results := [.lit (.bool true)], args := [d1, d2] }
  | _ => none }
def needleMatchesRow : OpenClaim := { program := "ytodigfdhhndboaa", sum := "ce5bbd2a325e886455a47c3aa32598bb87be99dbe3981c4b407afb1875df02a9", func := "isobar/isobarlaw09.NeedleMatches", spec := "needleMatches", apart := false }
def NeedleMatchesSaid : Prop := needleMatchesRow.holds Try.pinned (OpenSpec.ofChange needleMatchesSpec)

/-- ITS FALSE NEIGHBOUR: 'it returns false'. Refute it at one input. -/
def needleMatchesWrong : ChangeSpec := { name := "needleMatches", fn := fun _ => fun
  | [d1, d2] => { results := [.lit (.bool false)], args := [d1, d2] }
  | _ => none }
def NeedleMatchesWrongFalsely : Prop := needleMatchesRow.holds Try.pinned (OpenSpec.ofChange needleMatchesWrong)

/-- 'isobarlaw09.NeedleLiteral': WHATEVER THE INPUT: true; the input reads as it did. -/
def needleLiteralSpec : ChangeSpec := { name := "needleLiteral", fn := fun _ => fun
  | [d1, d2] => { results := [.lit (.bool true)], args := [d1, d2] }
  | _ => none }
def needleLiteralRow : OpenClaim := { program := "ytodigfdhhndboaa", sum := "ce5bbd2a325e886455a47c3aa32598bb87be99dbe3981c4b407afb1875df02a9", func := "isobar/isobarlaw09.NeedleLiteral", spec := "needleLiteral", apart := false }
def NeedleLiteralSaid : Prop := needleLiteralRow.holds Try.pinned (OpenSpec.ofChange needleLiteralSpec)

/-- ITS FALSE NEIGHBOUR: 'it returns false'. Refute it at one input. -/
def needleLiteralWrong : ChangeSpec := { name := "needleLiteral", fn := fun _ => fun
  | [d1, d2] => { results := [.lit (.bool false)], args := [d1, d2] }
  | _ => none }
def NeedleLiteralWrongFalsely : Prop := needleLiteralRow.holds Try.pinned (OpenSpec.ofChange needleLiteralWrong)

/-- 'isobarlaw09.NeedleMore': WHATEVER THE INPUT: true; the input reads as it did. -/
def needleMoreSpec : ChangeSpec := { name := "needleMore", fn := fun _ => fun
  | [d1, d2, d3] => { results := [.lit (.bool true)], args := [d1, d2, d3] }
  | _ => none }
def needleMoreRow : OpenClaim := { program := "ytodigfdhhndboaa", sum := "ce5bbd2a325e886455a47c3aa32598bb87be99dbe3981c4b407afb1875df02a9", func := "isobar/isobarlaw09.NeedleMore", spec := "needleMore", apart := false }
def NeedleMoreSaid : Prop := needleMoreRow.holds Try.pinned (OpenSpec.ofChange needleMoreSpec)

/-- ITS FALSE NEIGHBOUR: 'it returns false'. Refute it at one input. -/
def needleMoreWrong : ChangeSpec := { name := "needleMore", fn := fun _ => fun
  | [d1, d2, d3] => { results := [.lit (.bool false)], args := [d1, d2, d3] }
  | _ => none }
def NeedleMoreWrongFalsely : Prop := needleMoreRow.holds Try.pinned (OpenSpec.ofChange needleMoreWrong)

/-- 'isobarlaw09.NeedleStar': WHATEVER THE INPUT: true; the input reads as it did. -/
def needleStarSpec : ChangeSpec := { name := "needleStar", fn := fun _ => fun
  | [d1, d2, d3] => { results := [.lit (.bool true)], args := [d1, d2, d3] }
  | _ => none }
def needleStarRow : OpenClaim := { program := "ytodigfdhhndboaa", sum := "ce5bbd2a325e886455a47c3aa32598bb87be99dbe3981c4b407afb1875df02a9", func := "isobar/isobarlaw09.NeedleStar", spec := "needleStar", apart := false }
def NeedleStarSaid : Prop := needleStarRow.holds Try.pinned (OpenSpec.ofChange needleStarSpec)

/-- ITS FALSE NEIGHBOUR: 'it returns false'. Refute it at one input. -/
def needleStarWrong : ChangeSpec := { name := "needleStar", fn := fun _ => fun
  | [d1, d2, d3] => { results := [.lit (.bool false)], args := [d1, d2, d3] }
  | _ => none }
def NeedleStarWrongFalsely : Prop := needleStarRow.holds Try.pinned (OpenSpec.ofChange needleStarWrong)

/- THE SECOND FORM. 'bulk': how many values and letters a reading holds, each counted each time it is reached (what is shared counts as often as it is met; a slice's spare places count too). A statement '..UptoSaid' is the law's where the arguments, and the package variables that the reading takes, are together of bulk at most 1048576: NARROWER than '..Said'. Prove '..Said' where nothing that the law and all that it calls make is longer than what came in: it says more and counts as full. Else prove '..UptoSaid'. A law counts once. -/
mutual
def uptoBulk {H : Type} : DataW H → Nat
  | .lit (.string bytes) => bytes.length + 1
  | .lit _ => 1
  | .nil => 1
  | .ptr d => uptoBulk d + 1
  | .slice elems spare => uptoBulkAll elems + uptoBulkAll spare + 1
  | .agg parts => uptoBulkAll parts + 1
  | .iface _ d => uptoBulk d + 1
  | .map entries => uptoBulkEntries entries + 1
  | .held _ => 1
def uptoBulkAll {H : Type} : List (DataW H) → Nat
  | [] => 0
  | d :: r => uptoBulk d + uptoBulkAll r
def uptoBulkEntries {H : Type} : List (Lit × DataW H) → Nat
  | [] => 0
  | x :: r => uptoBulkEntry x + uptoBulkEntries r
def uptoBulkEntry {H : Type} : Lit × DataW H → Nat
  | (.string bytes, d) => bytes.length + uptoBulk d + 1
  | (_, d) => uptoBulk d + 1
 end
def uptoSmall : (H : Type) → List (DataW H) → Bool := fun _ ds => decide (uptoBulkAll ds ≤ 1048576)
def OpenSpec.upto (s : _root_.Go.ChangeSpec) : _root_.Go.OpenSpec := { _root_.Go.OpenSpec.ofChange s with cond := some uptoSmall }

/-- 'isobarlaw09.NeedleCompiles', WHERE WHAT IT READS IS OF BULK AT MOST 1048576: true; the input reads as it did. -/
def needleCompilesUptoRow : OpenClaim := { program := "ytodigfdhhndboaa", sum := "ce5bbd2a325e886455a47c3aa32598bb87be99dbe3981c4b407afb1875df02a9", func := "isobar/isobarlaw09.NeedleCompiles", spec := "needleCompiles", apart := false, narrowed := true }
def NeedleCompilesUptoSaid : Prop := needleCompilesUptoRow.holds Try.pinned (OpenSpec.upto needleCompilesSpec)

/-- 'isobarlaw09.NeedleFinds', WHERE WHAT IT READS IS OF BULK AT MOST 1048576: true; the input reads as it did. -/
def needleFindsUptoRow : OpenClaim := { program := "ytodigfdhhndboaa", sum := "ce5bbd2a325e886455a47c3aa32598bb87be99dbe3981c4b407afb1875df02a9", func := "isobar/isobarlaw09.NeedleFinds", spec := "needleFinds", apart := false, narrowed := true }
def NeedleFindsUptoSaid : Prop := needleFindsUptoRow.holds Try.pinned (OpenSpec.upto needleFindsSpec)

/-- 'isobarlaw09.NeedleMatches', WHERE WHAT IT READS IS OF BULK AT MOST 1048576: true; the input reads as it did. -/
def needleMatchesUptoRow : OpenClaim := { program := "ytodigfdhhndboaa", sum := "ce5bbd2a325e886455a47c3aa32598bb87be99dbe3981c4b407afb1875df02a9", func := "isobar/isobarlaw09.NeedleMatches", spec := "needleMatches", apart := false, narrowed := true }
def NeedleMatchesUptoSaid : Prop := needleMatchesUptoRow.holds Try.pinned (OpenSpec.upto needleMatchesSpec)

/-- 'isobarlaw09.NeedleLiteral', WHERE WHAT IT READS IS OF BULK AT MOST 1048576: true; the input reads as it did. -/
def needleLiteralUptoRow : OpenClaim := { program := "ytodigfdhhndboaa", sum := "ce5bbd2a325e886455a47c3aa32598bb87be99dbe3981c4b407afb1875df02a9", func := "isobar/isobarlaw09.NeedleLiteral", spec := "needleLiteral", apart := false, narrowed := true }
def NeedleLiteralUptoSaid : Prop := needleLiteralUptoRow.holds Try.pinned (OpenSpec.upto needleLiteralSpec)

/-- 'isobarlaw09.NeedleMore', WHERE WHAT IT READS IS OF BULK AT MOST 1048576: true; the input reads as it did. -/
def needleMoreUptoRow : OpenClaim := { program := "ytodigfdhhndboaa", sum := "ce5bbd2a325e886455a47c3aa32598bb87be99dbe3981c4b407afb1875df02a9", func := "isobar/isobarlaw09.NeedleMore", spec := "needleMore", apart := false, narrowed := true }
def NeedleMoreUptoSaid : Prop := needleMoreUptoRow.holds Try.pinned (OpenSpec.upto needleMoreSpec)

/-- 'isobarlaw09.NeedleStar', WHERE WHAT IT READS IS OF BULK AT MOST 1048576: true; the input reads as it did. -/
def needleStarUptoRow : OpenClaim := { program := "ytodigfdhhndboaa", sum := "ce5bbd2a325e886455a47c3aa32598bb87be99dbe3981c4b407afb1875df02a9", func := "isobar/isobarlaw09.NeedleStar", spec := "needleStar", apart := false, narrowed := true }
def NeedleStarUptoSaid : Prop := needleStarUptoRow.holds Try.pinned (OpenSpec.upto needleStarSpec)

end Rows
end Go.Proofs.Ytodigfdhhndboaa
