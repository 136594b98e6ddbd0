/-
  No cell of these rows narrows 'for every input' (looked for: loops, veiled, ifaces, maps, wideKeys, modest, calm, conditions, laid).
  DERIVED. THE GIVEN ROWS OF THIS SEAT. 6 by the template 'for every input the law returns true; each argument reads behind the call as it read before'; 0 by the template 'total and deterministic' (their statements: YtjkdfbalhjmgpaaTotals.lean).
  GIVEN WITH THE SEED: the statements are not yours to turn. If you find one false, say at which input.
  Laid BY PROGRAM, IN A SANDBOX (cutbox-rows.mjs): the forced cells as the released guide's own fill.sh prints them over the translation d3981fc9dbd8b2b9… (all of the seat's roots in one cut). By AI agents, Wed Nov 11 2026. No macro, syntax, notation, axiom, sorry.
-/
import Derived.Test.YtjkdfbalhjmgpaaChecked
import GoSem.Claim
import GoSem.ClaimJoined
import GoSem.ClaimMapViews
import Derived.JoinedTies
import Derived.KernelRfl
namespace Go.Proofs.Ytjkdfbalhjmgpaa
/- THE CELL 'sum', in the pinned program and in every row, IS THE sha256 OF THE DUMP (.gsa) THAT YtjkdfbalhjmgpaaProg.lean LOADS. Nothing in Lean hashes anything: it is a label: what it is worth is what the hold of that sum in a sandbox is worth. -/
noncomputable def Try.pinned : Pinned := { name := "ytjkdfbalhjmgpaa", sum := "d3981fc9dbd8b2b90fbd9d6536028153a77dc1d622ca6f0a4ca1c1652caa863a", checked := Try.checked }
namespace Rows
def none {H : Type} : Left H := { results := [], args := [] }

/-- 'isobarlaw13.RingAsks': WHATEVER THE INPUT: true; the input reads as it did. -/
def ringAsksSpec : ChangeSpec := { name := "ringAsks", fn := fun _ => fun
  | [d1, d2, d3] => { results := [.lit (.bool true)], args := [d1, d2, d3] }
  | _ => none }
def ringAsksRow : OpenClaim := { program := "ytjkdfbalhjmgpaa", sum := "d3981fc9dbd8b2b90fbd9d6536028153a77dc1d622ca6f0a4ca1c1652caa863a", func := "isobar/isobarlaw13.RingAsks", spec := "ringAsks", unfollowed := true, recurses := true, apart := false }
def RingAsksSaid : Prop := ringAsksRow.holds Try.pinned (OpenSpec.ofChange ringAsksSpec)

/-- ITS FALSE NEIGHBOUR: 'it returns false'. Refute it at one input. -/
def ringAsksWrong : ChangeSpec := { name := "ringAsks", fn := fun _ => fun
  | [d1, d2, d3] => { results := [.lit (.bool false)], args := [d1, d2, d3] }
  | _ => none }
def RingAsksWrongFalsely : Prop := ringAsksRow.holds Try.pinned (OpenSpec.ofChange ringAsksWrong)

/-- 'isobarlaw13.RingSets': WHATEVER THE INPUT: true; the input reads as it did. -/
def ringSetsSpec : ChangeSpec := { name := "ringSets", fn := fun _ => fun
  | [d1, d2, d3] => { results := [.lit (.bool true)], args := [d1, d2, d3] }
  | _ => none }
def ringSetsRow : OpenClaim := { program := "ytjkdfbalhjmgpaa", sum := "d3981fc9dbd8b2b90fbd9d6536028153a77dc1d622ca6f0a4ca1c1652caa863a", func := "isobar/isobarlaw13.RingSets", spec := "ringSets", apart := false }
def RingSetsSaid : Prop := ringSetsRow.holds Try.pinned (OpenSpec.ofChange ringSetsSpec)

/-- ITS FALSE NEIGHBOUR: 'it returns false'. Refute it at one input. -/
def ringSetsWrong : ChangeSpec := { name := "ringSets", fn := fun _ => fun
  | [d1, d2, d3] => { results := [.lit (.bool false)], args := [d1, d2, d3] }
  | _ => none }
def RingSetsWrongFalsely : Prop := ringSetsRow.holds Try.pinned (OpenSpec.ofChange ringSetsWrong)

/-- 'isobarlaw13.RingSpans': WHATEVER THE INPUT: true; the input reads as it did. -/
def ringSpansSpec : ChangeSpec := { name := "ringSpans", fn := fun _ => fun
  | [d1, d2, d3] => { results := [.lit (.bool true)], args := [d1, d2, d3] }
  | _ => none }
def ringSpansRow : OpenClaim := { program := "ytjkdfbalhjmgpaa", sum := "d3981fc9dbd8b2b90fbd9d6536028153a77dc1d622ca6f0a4ca1c1652caa863a", func := "isobar/isobarlaw13.RingSpans", spec := "ringSpans", apart := false }
def RingSpansSaid : Prop := ringSpansRow.holds Try.pinned (OpenSpec.ofChange ringSpansSpec)

/-- ITS FALSE NEIGHBOUR: 'it returns false'. Refute it at one input. -/
def ringSpansWrong : ChangeSpec := { name := "ringSpans", fn := fun _ => fun
  | [d1, d2, d3] => { results := [.lit (.bool false)], args := [d1, d2, d3] }
  | _ => none }
def RingSpansWrongFalsely : Prop := ringSpansRow.holds Try.pinned (OpenSpec.ofChange ringSpansWrong)

/-- 'isobarlaw13.RingLast': WHATEVER THE INPUT: true; the input reads as it did. -/
def ringLastSpec : ChangeSpec := { name := "ringLast", fn := fun _ => fun
  | [d1, d2, d3] => { results := [.lit (.bool true)], args := [d1, d2, d3] }
  | _ => none }
def ringLastRow : OpenClaim := { program := "ytjkdfbalhjmgpaa", sum := "d3981fc9dbd8b2b90fbd9d6536028153a77dc1d622ca6f0a4ca1c1652caa863a", func := "isobar/isobarlaw13.RingLast", spec := "ringLast", unfollowed := true, recurses := true, apart := false }
def RingLastSaid : Prop := ringLastRow.holds Try.pinned (OpenSpec.ofChange ringLastSpec)

/-- ITS FALSE NEIGHBOUR: 'it returns false'. Refute it at one input. -/
def ringLastWrong : ChangeSpec := { name := "ringLast", fn := fun _ => fun
  | [d1, d2, d3] => { results := [.lit (.bool false)], args := [d1, d2, d3] }
  | _ => none }
def RingLastWrongFalsely : Prop := ringLastRow.holds Try.pinned (OpenSpec.ofChange ringLastWrong)

/-- 'isobarlaw13.RingParts': WHATEVER THE INPUT: true; the input reads as it did. -/
def ringPartsSpec : ChangeSpec := { name := "ringParts", fn := fun _ => fun
  | [d1, d2] => { results := [.lit (.bool true)], args := [d1, d2] }
  | _ => none }
def ringPartsRow : OpenClaim := { program := "ytjkdfbalhjmgpaa", sum := "d3981fc9dbd8b2b90fbd9d6536028153a77dc1d622ca6f0a4ca1c1652caa863a", func := "isobar/isobarlaw13.RingParts", spec := "ringParts", apart := false }
def RingPartsSaid : Prop := ringPartsRow.holds Try.pinned (OpenSpec.ofChange ringPartsSpec)

/-- ITS FALSE NEIGHBOUR: 'it returns false'. Refute it at one input. -/
def ringPartsWrong : ChangeSpec := { name := "ringParts", fn := fun _ => fun
  | [d1, d2] => { results := [.lit (.bool false)], args := [d1, d2] }
  | _ => none }
def RingPartsWrongFalsely : Prop := ringPartsRow.holds Try.pinned (OpenSpec.ofChange ringPartsWrong)

/-- 'isobarlaw13.RingFew': WHATEVER THE INPUT: true; the input reads as it did. -/
def ringFewSpec : ChangeSpec := { name := "ringFew", fn := fun _ => fun
  | [d1, d2, d3] => { results := [.lit (.bool true)], args := [d1, d2, d3] }
  | _ => none }
def ringFewRow : OpenClaim := { program := "ytjkdfbalhjmgpaa", sum := "d3981fc9dbd8b2b90fbd9d6536028153a77dc1d622ca6f0a4ca1c1652caa863a", func := "isobar/isobarlaw13.RingFew", spec := "ringFew", unfollowed := true, recurses := true, apart := false }
def RingFewSaid : Prop := ringFewRow.holds Try.pinned (OpenSpec.ofChange ringFewSpec)

/-- ITS FALSE NEIGHBOUR: 'it returns false'. Refute it at one input. -/
def ringFewWrong : ChangeSpec := { name := "ringFew", fn := fun _ => fun
  | [d1, d2, d3] => { results := [.lit (.bool false)], args := [d1, d2, d3] }
  | _ => none }
def RingFewWrongFalsely : Prop := ringFewRow.holds Try.pinned (OpenSpec.ofChange ringFewWrong)

/- THE SECOND FORM. 'bulk': how many values and letters a reading holds, each counted each time it is reached (what is shared counts as often as it is met; a slice's spare places count too). A statement '..UptoSaid' is the law's where the arguments, and the package variables that the reading takes, are together of bulk at most 1048576: NARROWER than '..Said'. Prove '..Said' where nothing that the law and all that it calls make is longer than what came in: it says more and counts as full. Else prove '..UptoSaid'. A law counts once. -/
mutual
def uptoBulk {H : Type} : DataW H → Nat
  | .lit (.string bytes) => bytes.length + 1
  | .lit _ => 1
  | .nil => 1
  | .ptr d => uptoBulk d + 1
  | .slice elems spare => uptoBulkAll elems + uptoBulkAll spare + 1
  | .agg parts => uptoBulkAll parts + 1
  | .iface _ d => uptoBulk d + 1
  | .map entries => uptoBulkEntries entries + 1
  | .held _ => 1
def uptoBulkAll {H : Type} : List (DataW H) → Nat
  | [] => 0
  | d :: r => uptoBulk d + uptoBulkAll r
def uptoBulkEntries {H : Type} : List (Lit × DataW H) → Nat
  | [] => 0
  | x :: r => uptoBulkEntry x + uptoBulkEntries r
def uptoBulkEntry {H : Type} : Lit × DataW H → Nat
  | (.string bytes, d) => bytes.length + uptoBulk d + 1
  | (_, d) => uptoBulk d + 1
 end
def uptoSmall : (H : Type) → List (DataW H) → Bool := fun _ ds => decide (uptoBulkAll ds ≤ 1048576)
def OpenSpec.upto (s : _root_.Go.ChangeSpec) : _root_.Go.OpenSpec := { _root_.Go.OpenSpec.ofChange s with cond := some uptoSmall }

/-- 'isobarlaw13.RingAsks', WHERE WHAT IT READS IS OF BULK AT MOST 1048576: true; the input reads as it did. -/
def ringAsksUptoRow : OpenClaim := { program := "ytjkdfbalhjmgpaa", sum := "d3981fc9dbd8b2b90fbd9d6536028153a77dc1d622ca6f0a4ca1c1652caa863a", func := "isobar/isobarlaw13.RingAsks", spec := "ringAsks", unfollowed := true, recurses := true, apart := false, narrowed := true }
def RingAsksUptoSaid : Prop := ringAsksUptoRow.holds Try.pinned (OpenSpec.upto ringAsksSpec)

/-- 'isobarlaw13.RingSets', WHERE WHAT IT READS IS OF BULK AT MOST 1048576: true; the input reads as it did. -/
def ringSetsUptoRow : OpenClaim := { program := "ytjkdfbalhjmgpaa", sum := "d3981fc9dbd8b2b90fbd9d6536028153a77dc1d622ca6f0a4ca1c1652caa863a", func := "isobar/isobarlaw13.RingSets", spec := "ringSets", apart := false, narrowed := true }
def RingSetsUptoSaid : Prop := ringSetsUptoRow.holds Try.pinned (OpenSpec.upto ringSetsSpec)

/-- 'isobarlaw13.RingSpans', WHERE WHAT IT READS IS OF BULK AT MOST 1048576: true; the input reads as it did. -/
def ringSpansUptoRow : OpenClaim := { program := "ytjkdfbalhjmgpaa", sum := "d3981fc9dbd8b2b90fbd9d6536028153a77dc1d622ca6f0a4ca1c1652caa863a", func := "isobar/isobarlaw13.RingSpans", spec := "ringSpans", apart := false, narrowed := true }
def RingSpansUptoSaid : Prop := ringSpansUptoRow.holds Try.pinned (OpenSpec.upto ringSpansSpec)

/-- 'isobarlaw13.RingLast', WHERE WHAT IT READS IS OF BULK AT MOST 1048576: true; the input reads as it did. -/
def ringLastUptoRow : OpenClaim := { program := "ytjkdfbalhjmgpaa", sum := "d3981fc9dbd8b2b90fbd9d6536028153a77dc1d622ca6f0a4ca1c1652caa863a", func := "isobar/isobarlaw13.RingLast", spec := "ringLast", unfollowed := true, recurses := true, apart := false, narrowed := true }
def RingLastUptoSaid : Prop := ringLastUptoRow.holds Try.pinned (OpenSpec.upto ringLastSpec)

/-- 'isobarlaw13.RingParts', WHERE WHAT IT READS IS OF BULK AT MOST 1048576: true; the input reads as it did. -/
def ringPartsUptoRow : OpenClaim := { program := "ytjkdfbalhjmgpaa", sum := "d3981fc9dbd8b2b90fbd9d6536028153a77dc1d622ca6f0a4ca1c1652caa863a", func := "isobar/isobarlaw13.RingParts", spec := "ringParts", apart := false, narrowed := true }
def RingPartsUptoSaid : Prop := ringPartsUptoRow.holds Try.pinned (OpenSpec.upto ringPartsSpec)

/-- 'isobarlaw13.RingFew', WHERE WHAT IT READS IS OF BULK AT MOST 1048576: true; the input reads as it did. -/
def ringFewUptoRow : OpenClaim := { program := "ytjkdfbalhjmgpaa", sum := "d3981fc9dbd8b2b90fbd9d6536028153a77dc1d622ca6f0a4ca1c1652caa863a", func := "isobar/isobarlaw13.RingFew", spec := "ringFew", unfollowed := true, recurses := true, apart := false, narrowed := true }
def RingFewUptoSaid : Prop := ringFewUptoRow.holds Try.pinned (OpenSpec.upto ringFewSpec)

end Rows
end Go.Proofs.Ytjkdfbalhjmgpaa
