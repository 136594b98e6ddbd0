/-
  Contracts over this seat of translation: isobar/wide.Less: what each returns, and that nothing that was there has turned.
-/
import Derived.Test.YthnokbdkgehiaaaWideKit
namespace Go.Proofs.Ythnokbdkgehiaaa
open Go.RowKit
theorem less_c (u v : Nat) (hu : u < M) (hv : v < M) (w : World) :
    Calls Try.prog 67 #[.agg #[.int .u64 (hiOf u : Nat), .int .u64 (loOf u : Nat)], .agg #[.int .u64 (hiOf v : Nat), .int .u64 (loOf v : Nat)]] w fun e w' => e = .returned (.bool (decide (u < v))) ∧ Below w.heap.size w w' := by
  have H := Lib.hid (less_hl hu hv)
  clear hu hv
  go_enter Try.func67, Try.ntmps67
  go_wp2
  · have h : ((hiOf u : Int) != (hiOf v : Int)) = true := by assumption
    go_ret
    refine ⟨?_, ((Below.refl _ _).alloc (Nat.le_refl _) _).alloc (by simp) _⟩
    have h' := WalkArith.int_ne' h
    have e : decide (u < v) = decide (hiOf u < hiOf v) := by rw [decide_eq_decide, H.out]; omega
    rw [e]
    rfl
  · have h : ((hiOf u : Int) != (hiOf v : Int)) = false := by assumption
    go_ret
    refine ⟨?_, ((Below.refl _ _).alloc (Nat.le_refl _) _).alloc (by simp) _⟩
    have h' := WalkArith.int_eq' h
    have e : decide (u < v) = decide (loOf u < loOf v) := by rw [decide_eq_decide, H.out]; omega
    rw [e]
    rfl

end Go.Proofs.Ythnokbdkgehiaaa
