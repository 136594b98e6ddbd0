/-
  Plain facts for layer 1, the second part: products, shifts, quotients and roots, as the document's own functions reckon them, a bit at a time.
-/
import Derived.Test.YtodlgbihdehmbaaGreatDoorMathP
namespace Go.Proofs.YtodlgbihdehmbaaGreatDoor

def rootFrom (v : Nat) : Nat → Nat → Nat
  | 0, n => n
  | k + 1, n => rootFrom v k (if (n + 2 ^ k) * (n + 2 ^ k) ≤ v then n + 2 ^ k else n)
def rt (v : Nat) : Nat := rootFrom v 64 0
end Go.Proofs.YtodlgbihdehmbaaGreatDoor
