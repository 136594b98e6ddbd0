/-
  No cell of these rows narrows 'for every input' (looked for: loops, veiled, ifaces, maps, wideKeys, modest, calm, conditions, laid).
  DERIVED. THE GIVEN ROWS OF THIS SEAT. 5 by the template 'for every input the law returns true; each argument reads behind the call as it read before'; 0 by the template 'total and deterministic' (their statements: YtmmpnbkbjlpalaaTotals.lean).
  GIVEN WITH THE SEED: the statements are not yours to turn. If you find one false, say at which input.
  Laid BY PROGRAM, IN A SANDBOX (cutbox-rows.mjs): the forced cells as the released guide's own fill.sh prints them over the translation c3b5398cf8cc299b… (all of the seat's roots in one cut). By AI agents, Wed Nov 11 2026. No macro, syntax, notation, axiom, sorry.
-/
import Derived.Test.YtmmpnbkbjlpalaaChecked
import GoSem.Claim
import GoSem.ClaimJoined
import GoSem.ClaimMapViews
import Derived.JoinedTies
import Derived.KernelRfl
namespace Go.Proofs.Ytmmpnbkbjlpalaa
/- THE CELL 'sum', in the pinned program and in every row, IS THE sha256 OF THE DUMP (.gsa) THAT YtmmpnbkbjlpalaaProg.lean LOADS. Nothing in Lean hashes anything: it is a label: what it is worth is what the hold of that sum in a sandbox is worth. -/
noncomputable def Try.pinned : Pinned := { name := "ytmmpnbkbjlpalaa", sum := "c3b5398cf8cc299b0962f0b0e9eb45922c9d1f46411c52112cf4253ef0bb56dd", checked := Try.checked }
namespace Rows
def none {H : Type} : Left H := { results := [], args := [] }

/-- 'isobarlaw14.LadderFetches': WHATEVER THE INPUT: true; the input reads as it did. -/
def ladderFetchesSpec : ChangeSpec := { name := "ladderFetches", fn := fun _ => fun
  | [d1, d2] => { results := [.lit (.bool true)], args := [d1, d2] }
  | _ => none }
def ladderFetchesRow : OpenClaim := { program := "ytmmpnbkbjlpalaa", sum := "c3b5398cf8cc299b0962f0b0e9eb45922c9d1f46411c52112cf4253ef0bb56dd", func := "isobar/isobarlaw14.LadderFetches", spec := "ladderFetches", inPlace := ["math/bits.Add64"], unfollowed := true, recurses := true, named := ["math/bits.divideError", "math/bits.overflowError"], apart := false }
def LadderFetchesSaid : Prop := ladderFetchesRow.holds Try.pinned (OpenSpec.ofChange ladderFetchesSpec)

/-- ITS FALSE NEIGHBOUR: 'it returns false'. Refute it at one input. -/
def ladderFetchesWrong : ChangeSpec := { name := "ladderFetches", fn := fun _ => fun
  | [d1, d2] => { results := [.lit (.bool false)], args := [d1, d2] }
  | _ => none }
def LadderFetchesWrongFalsely : Prop := ladderFetchesRow.holds Try.pinned (OpenSpec.ofChange ladderFetchesWrong)

/-- 'isobarlaw14.LadderBlends': WHATEVER THE INPUT: true; the input reads as it did. -/
def ladderBlendsSpec : ChangeSpec := { name := "ladderBlends", fn := fun _ => fun
  | [d1, d2, d3] => { results := [.lit (.bool true)], args := [d1, d2, d3] }
  | _ => none }
def ladderBlendsRow : OpenClaim := { program := "ytmmpnbkbjlpalaa", sum := "c3b5398cf8cc299b0962f0b0e9eb45922c9d1f46411c52112cf4253ef0bb56dd", func := "isobar/isobarlaw14.LadderBlends", spec := "ladderBlends", inPlace := ["math/bits.Add64"], unfollowed := true, recurses := true, named := ["math/bits.divideError", "math/bits.overflowError"], apart := false }
def LadderBlendsSaid : Prop := ladderBlendsRow.holds Try.pinned (OpenSpec.ofChange ladderBlendsSpec)

/-- ITS FALSE NEIGHBOUR: 'it returns false'. Refute it at one input. -/
def ladderBlendsWrong : ChangeSpec := { name := "ladderBlends", fn := fun _ => fun
  | [d1, d2, d3] => { results := [.lit (.bool false)], args := [d1, d2, d3] }
  | _ => none }
def LadderBlendsWrongFalsely : Prop := ladderBlendsRow.holds Try.pinned (OpenSpec.ofChange ladderBlendsWrong)

/-- 'isobarlaw14.LadderBuilds': WHATEVER THE INPUT: true; the input reads as it did. -/
def ladderBuildsSpec : ChangeSpec := { name := "ladderBuilds", fn := fun _ => fun
  | [d1, d2] => { results := [.lit (.bool true)], args := [d1, d2] }
  | _ => none }
def ladderBuildsRow : OpenClaim := { program := "ytmmpnbkbjlpalaa", sum := "c3b5398cf8cc299b0962f0b0e9eb45922c9d1f46411c52112cf4253ef0bb56dd", func := "isobar/isobarlaw14.LadderBuilds", spec := "ladderBuilds", inPlace := ["math/bits.Add64"], unfollowed := true, recurses := true, named := ["math/bits.divideError", "math/bits.overflowError"], apart := false }
def LadderBuildsSaid : Prop := ladderBuildsRow.holds Try.pinned (OpenSpec.ofChange ladderBuildsSpec)

/-- ITS FALSE NEIGHBOUR: 'it returns false'. Refute it at one input. -/
def ladderBuildsWrong : ChangeSpec := { name := "ladderBuilds", fn := fun _ => fun
  | [d1, d2] => { results := [.lit (.bool false)], args := [d1, d2] }
  | _ => none }
def LadderBuildsWrongFalsely : Prop := ladderBuildsRow.holds Try.pinned (OpenSpec.ofChange ladderBuildsWrong)

/-- 'isobarlaw14.LadderLast': WHATEVER THE INPUT: true; the input reads as it did. -/
def ladderLastSpec : ChangeSpec := { name := "ladderLast", fn := fun _ => fun
  | [d1, d2, d3] => { results := [.lit (.bool true)], args := [d1, d2, d3] }
  | _ => none }
def ladderLastRow : OpenClaim := { program := "ytmmpnbkbjlpalaa", sum := "c3b5398cf8cc299b0962f0b0e9eb45922c9d1f46411c52112cf4253ef0bb56dd", func := "isobar/isobarlaw14.LadderLast", spec := "ladderLast", inPlace := ["math/bits.Add64"], unfollowed := true, recurses := true, named := ["math/bits.divideError", "math/bits.overflowError"], apart := false }
def LadderLastSaid : Prop := ladderLastRow.holds Try.pinned (OpenSpec.ofChange ladderLastSpec)

/-- ITS FALSE NEIGHBOUR: 'it returns false'. Refute it at one input. -/
def ladderLastWrong : ChangeSpec := { name := "ladderLast", fn := fun _ => fun
  | [d1, d2, d3] => { results := [.lit (.bool false)], args := [d1, d2, d3] }
  | _ => none }
def LadderLastWrongFalsely : Prop := ladderLastRow.holds Try.pinned (OpenSpec.ofChange ladderLastWrong)

/-- 'isobarlaw14.LadderCoarser': WHATEVER THE INPUT: true; the input reads as it did. -/
def ladderCoarserSpec : ChangeSpec := { name := "ladderCoarser", fn := fun _ => fun
  | [d1, d2] => { results := [.lit (.bool true)], args := [d1, d2] }
  | _ => none }
def ladderCoarserRow : OpenClaim := { program := "ytmmpnbkbjlpalaa", sum := "c3b5398cf8cc299b0962f0b0e9eb45922c9d1f46411c52112cf4253ef0bb56dd", func := "isobar/isobarlaw14.LadderCoarser", spec := "ladderCoarser", inPlace := ["math/bits.Add64"], unfollowed := true, recurses := true, named := ["math/bits.divideError", "math/bits.overflowError"], apart := false }
def LadderCoarserSaid : Prop := ladderCoarserRow.holds Try.pinned (OpenSpec.ofChange ladderCoarserSpec)

/-- ITS FALSE NEIGHBOUR: 'it returns false'. Refute it at one input. -/
def ladderCoarserWrong : ChangeSpec := { name := "ladderCoarser", fn := fun _ => fun
  | [d1, d2] => { results := [.lit (.bool false)], args := [d1, d2] }
  | _ => none }
def LadderCoarserWrongFalsely : Prop := ladderCoarserRow.holds Try.pinned (OpenSpec.ofChange ladderCoarserWrong)

/- THE SECOND FORM. 'bulk': how many values and letters a reading holds, each counted each time it is reached (what is shared counts as often as it is met; a slice's spare places count too). A statement '..UptoSaid' is the law's where the arguments, and the package variables that the reading takes, are together of bulk at most 1048576: NARROWER than '..Said'. Prove '..Said' where nothing that the law and all that it calls make is longer than what came in: it says more and counts as full. Else prove '..UptoSaid'. A law counts once. -/
mutual
def uptoBulk {H : Type} : DataW H → Nat
  | .lit (.string bytes) => bytes.length + 1
  | .lit _ => 1
  | .nil => 1
  | .ptr d => uptoBulk d + 1
  | .slice elems spare => uptoBulkAll elems + uptoBulkAll spare + 1
  | .agg parts => uptoBulkAll parts + 1
  | .iface _ d => uptoBulk d + 1
  | .map entries => uptoBulkEntries entries + 1
  | .held _ => 1
def uptoBulkAll {H : Type} : List (DataW H) → Nat
  | [] => 0
  | d :: r => uptoBulk d + uptoBulkAll r
def uptoBulkEntries {H : Type} : List (Lit × DataW H) → Nat
  | [] => 0
  | x :: r => uptoBulkEntry x + uptoBulkEntries r
def uptoBulkEntry {H : Type} : Lit × DataW H → Nat
  | (.string bytes, d) => bytes.length + uptoBulk d + 1
  | (_, d) => uptoBulk d + 1
 end
def uptoSmall : (H : Type) → List (DataW H) → Bool := fun _ ds => decide (uptoBulkAll ds ≤ 1048576)
def OpenSpec.upto (s : _root_.Go.ChangeSpec) : _root_.Go.OpenSpec := { _root_.Go.OpenSpec.ofChange s with cond := some uptoSmall }

/-- 'isobarlaw14.LadderFetches', WHERE WHAT IT READS IS OF BULK AT MOST 1048576: true; the input reads as it did. -/
def ladderFetchesUptoRow : OpenClaim := { program := "ytmmpnbkbjlpalaa", sum := "c3b5398cf8cc299b0962f0b0e9eb45922c9d1f46411c52112cf4253ef0bb56dd", func := "isobar/isobarlaw14.LadderFetches", spec := "ladderFetches", inPlace := ["math/bits.Add64"], unfollowed := true, recurses := true, named := ["math/bits.divideError", "math/bits.overflowError"], apart := false, narrowed := true }
def LadderFetchesUptoSaid : Prop := ladderFetchesUptoRow.holds Try.pinned (OpenSpec.upto ladderFetchesSpec)

/-- 'isobarlaw14.LadderBlends', WHERE WHAT IT READS IS OF BULK AT MOST 1048576: true; the input reads as it did. -/
def ladderBlendsUptoRow : OpenClaim := { program := "ytmmpnbkbjlpalaa", sum := "c3b5398cf8cc299b0962f0b0e9eb45922c9d1f46411c52112cf4253ef0bb56dd", func := "isobar/isobarlaw14.LadderBlends", spec := "ladderBlends", inPlace := ["math/bits.Add64"], unfollowed := true, recurses := true, named := ["math/bits.divideError", "math/bits.overflowError"], apart := false, narrowed := true }
def LadderBlendsUptoSaid : Prop := ladderBlendsUptoRow.holds Try.pinned (OpenSpec.upto ladderBlendsSpec)

/-- 'isobarlaw14.LadderBuilds', WHERE WHAT IT READS IS OF BULK AT MOST 1048576: true; the input reads as it did. -/
def ladderBuildsUptoRow : OpenClaim := { program := "ytmmpnbkbjlpalaa", sum := "c3b5398cf8cc299b0962f0b0e9eb45922c9d1f46411c52112cf4253ef0bb56dd", func := "isobar/isobarlaw14.LadderBuilds", spec := "ladderBuilds", inPlace := ["math/bits.Add64"], unfollowed := true, recurses := true, named := ["math/bits.divideError", "math/bits.overflowError"], apart := false, narrowed := true }
def LadderBuildsUptoSaid : Prop := ladderBuildsUptoRow.holds Try.pinned (OpenSpec.upto ladderBuildsSpec)

/-- 'isobarlaw14.LadderLast', WHERE WHAT IT READS IS OF BULK AT MOST 1048576: true; the input reads as it did. -/
def ladderLastUptoRow : OpenClaim := { program := "ytmmpnbkbjlpalaa", sum := "c3b5398cf8cc299b0962f0b0e9eb45922c9d1f46411c52112cf4253ef0bb56dd", func := "isobar/isobarlaw14.LadderLast", spec := "ladderLast", inPlace := ["math/bits.Add64"], unfollowed := true, recurses := true, named := ["math/bits.divideError", "math/bits.overflowError"], apart := false, narrowed := true }
def LadderLastUptoSaid : Prop := ladderLastUptoRow.holds Try.pinned (OpenSpec.upto ladderLastSpec)

/-- 'isobarlaw14.LadderCoarser', WHERE WHAT IT READS IS OF BULK AT MOST 1048576: true; the input reads as it did. -/
def ladderCoarserUptoRow : OpenClaim := { program := "ytmmpnbkbjlpalaa", sum := "c3b5398cf8cc299b0962f0b0e9eb45922c9d1f46411c52112cf4253ef0bb56dd", func := "isobar/isobarlaw14.LadderCoarser", spec := "ladderCoarser", inPlace := ["math/bits.Add64"], unfollowed := true, recurses := true, named := ["math/bits.divideError", "math/bits.overflowError"], apart := false, narrowed := true }
def LadderCoarserUptoSaid : Prop := ladderCoarserUptoRow.holds Try.pinned (OpenSpec.upto ladderCoarserSpec)

end Rows
end Go.Proofs.Ytmmpnbkbjlpalaa
