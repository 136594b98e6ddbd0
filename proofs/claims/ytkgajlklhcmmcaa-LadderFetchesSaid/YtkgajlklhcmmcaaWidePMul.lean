/-
  Contracts over this seat of translation: isobar/wide.Mul: what each returns, and that nothing that was there has turned.
-/
import Derived.Test.YtkgajlklhcmmcaaShelf
import Derived.Test.YtkgajlklhcmmcaaWideKit
namespace Go.Proofs.Ytkgajlklhcmmcaa
open Go.RowKit
theorem mul_c (x y : Nat) (hx : x < 18446744073709551616) (hy : y < 18446744073709551616) (w : World) :
    Calls Try.prog 84 #[.int .u64 x, .int .u64 y] w fun e w' => e = .returned (.agg #[.int .u64 (hiOf (x * y) : Nat), .int .u64 (loOf (x * y) : Nat)]) ∧ Below w.heap.size w w' := by
  have hm : x * y / 18446744073709551616 < 18446744073709551616 := by
    have := Nat.mul_lt_mul'' hx hy
    omega
  have H := Lib.hid hm
  clear hm
  go_enter Try.func84, Try.ntmps84
  go_wp2_with (go_at_call 80; refine (Try.bits_Mul64 _ _ hx hy _).mono ?_; rintro e w' ⟨rfl, rfl⟩)
  refine bodyPost_ret (v := .agg #[.int .u64 ((x : Int) * y / 18446744073709551616), .int .u64 ((x : Int) * y % 18446744073709551616)]) (by simp [results, Try.results84, go_sem]) rfl
    ⟨ret_wide ?_ ?_, (Below.refl _ _).alloc (Nat.le_refl _) _⟩
  · unfold hiOf
    rw [Nat.mod_eq_of_lt H.out]
    simp
  · unfold loOf
    simp

end Go.Proofs.Ytkgajlklhcmmcaa
