/-
  Contracts over this seat of translation: isobar/isobarref01.Less: what each returns, and that nothing that was there has turned.
-/
import Derived.Test.YtcppcfjejalggaaWideKit
namespace Go.Proofs.Ytcppcfjejalggaa
open Go.RowKit
theorem rless_c (u v : Nat) (hu : u < M) (hv : v < M) (w : World) :
    Calls Try.prog 38 #[.agg #[.int .u64 (hiOf u : Nat), .int .u64 (loOf u : Nat)], .agg #[.int .u64 (hiOf v : Nat), .int .u64 (loOf v : Nat)]] w fun e w' => e = .returned (.bool (decide (u < v))) ∧ Below w.heap.size w w' := by
  have H := Lib.hid (less_hl hu hv)
  clear hu hv
  go_enter Try.func38, Try.ntmps38
  go_wp2
  · have h1 : hiOf v ≤ hiOf u := by assumption
    have h2 : (hiOf u : Int) = hiOf v := by assumption
    have e : decide (u < v) = (decide (hiOf u < hiOf v) || decide (loOf u < loOf v)) := by rw [Bool.eq_iff_iff]; simp only [Bool.or_eq_true, decide_eq_true_eq, H.out]; omega
    rw [e]
    go_ret
    exact ⟨rfl, ((Below.refl _ _).alloc (Nat.le_refl _) _).alloc (by simp) _⟩
  · have h1 : hiOf v ≤ hiOf u := by assumption
    have h2 : ¬ (hiOf u : Int) = hiOf v := by assumption
    have e : decide (u < v) = decide (hiOf u < hiOf v) := by rw [decide_eq_decide, H.out]; omega
    rw [e]
    go_ret
    exact ⟨rfl, ((Below.refl _ _).alloc (Nat.le_refl _) _).alloc (by simp) _⟩
  · have h1 : ¬ hiOf v ≤ hiOf u := by assumption
    have e : decide (u < v) = true := by rw [decide_eq_true_eq, H.out]; omega
    rw [e]
    go_ret
    exact ⟨rfl, ((Below.refl _ _).alloc (Nat.le_refl _) _).alloc (by simp) _⟩

end Go.Proofs.Ytcppcfjejalggaa
