/-
  What the contracts of layer 6 speak of: disks that come in, disks that are answered.
-/
import Derived.Test.YtmkjjcogheidmaaDskKit
set_option linter.unusedSimpArgs false
set_option linter.unusedVariables false
namespace Go.Proofs.Ytmkjjcogheidmaa
open Go.RowKit
/-- What a call that answers a disk and an error leaves. -/
def DkRet (S : Nat → Prop) (D : PD) (r : Int) (w : World) (e : Ending) (w' : World) : Prop :=
  ∃ v, e = .returned (.tuple #[v, .int .i64 r]) ∧ DkOut (fun g => S g ∨ w.heap.size ≤ g) w' v D ∧ Below w.heap.size w w'
/-- What every contract asks of a disk that comes in. -/
structure DkIn (S : Nat → Prop) (w : World) (v : Value) (D : PD) : Prop where
  at_ : DkOut S w v D
  inv : PInv D
  few : D.moves.length ≤ 200
def KOk (ks : List (Int × Int)) : Prop := ks.length ≤ 100000 ∧ ∀ k ∈ ks, (-9223372036854775808 ≤ k.1 ∧ k.1 ≤ 9223372036854775807) ∧ -9223372036854775808 ≤ k.2 ∧ k.2 ≤ 9223372036854775807
end Go.Proofs.Ytmkjjcogheidmaa
