/-
  Plain facts on numbers of 128 bits in two words, for the statements of layer 1: nothing of the program is imported.
-/

namespace Go.Proofs
end Go.Proofs
namespace Go.Proofs.YtodlgbihdehmbaaGreatDoor
end Go.Proofs.YtodlgbihdehmbaaGreatDoor
namespace Go.Proofs.YtodlgbihdehmbaaGreatDoor.Cf
end Go.Proofs.YtodlgbihdehmbaaGreatDoor.Cf
namespace Go.Proofs.YtodlgbihdehmbaaGreatDoor.Cf.KP
end Go.Proofs.YtodlgbihdehmbaaGreatDoor.Cf.KP
namespace Go.Proofs.YtodlgbihdehmbaaGreatDoor.Cf.KR
end Go.Proofs.YtodlgbihdehmbaaGreatDoor.Cf.KR
namespace Go.Proofs.YtodlgbihdehmbaaGreatDoor.De
end Go.Proofs.YtodlgbihdehmbaaGreatDoor.De
namespace Go.Proofs.YtodlgbihdehmbaaGreatDoor.De.DP
end Go.Proofs.YtodlgbihdehmbaaGreatDoor.De.DP
namespace Go.Proofs.YtodlgbihdehmbaaGreatDoor.De.DR
end Go.Proofs.YtodlgbihdehmbaaGreatDoor.De.DR
namespace Go.Proofs.YtodlgbihdehmbaaGreatDoor.De.FP
end Go.Proofs.YtodlgbihdehmbaaGreatDoor.De.FP
namespace Go.Proofs.YtodlgbihdehmbaaGreatDoor.LP
end Go.Proofs.YtodlgbihdehmbaaGreatDoor.LP
namespace Go.Proofs.YtodlgbihdehmbaaGreatDoor.LR
end Go.Proofs.YtodlgbihdehmbaaGreatDoor.LR
namespace Go.Proofs.YtodlgbihdehmbaaGreatDoor.LW
end Go.Proofs.YtodlgbihdehmbaaGreatDoor.LW
namespace Go.Proofs.YtodlgbihdehmbaaGreatDoor.Nd
end Go.Proofs.YtodlgbihdehmbaaGreatDoor.Nd
namespace Go.Proofs.YtodlgbihdehmbaaGreatDoor.Nd.NP
end Go.Proofs.YtodlgbihdehmbaaGreatDoor.Nd.NP
namespace Go.Proofs.YtodlgbihdehmbaaGreatDoor.Nd.NR
end Go.Proofs.YtodlgbihdehmbaaGreatDoor.Nd.NR
namespace Go.Proofs.YtodlgbihdehmbaaGreatDoor.RP
end Go.Proofs.YtodlgbihdehmbaaGreatDoor.RP
namespace Go.Proofs.YtodlgbihdehmbaaGreatDoor.RR
end Go.Proofs.YtodlgbihdehmbaaGreatDoor.RR
namespace Go.Proofs.YtodlgbihdehmbaaGreatDoor
/-- The word's and the wide number's size, behind names. -/
def B : Nat := 18446744073709551616
def M : Nat := 340282366920938463463374607431768211456
def hiOf (v : Nat) : Nat := v / 18446744073709551616 % 18446744073709551616
def loOf (v : Nat) : Nat := v % 18446744073709551616
theorem split_unique {p a b q r : Nat} (hp : 0 < p) (h : p * q + r = a) (hr : r < p) (e : a = b) : b / p = q ∧ b % p = r := by
  subst e; subst h
  refine ⟨?_, ?_⟩
  · rw [Nat.mul_add_div hp, Nat.div_eq_of_lt hr, Nat.add_zero]
  · rw [Nat.mul_add_mod, Nat.mod_eq_of_lt hr]
end Go.Proofs.YtodlgbihdehmbaaGreatDoor
