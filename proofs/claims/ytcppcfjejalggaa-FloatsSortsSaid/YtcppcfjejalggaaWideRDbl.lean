/-
  Contracts over this seat of translation: isobar/isobarref01.Double: what each returns, and that nothing that was there has turned.
-/
import Derived.Test.YtcppcfjejalggaaWideKit
namespace Go.Proofs.Ytcppcfjejalggaa
open Go.RowKit
set_option maxHeartbeats 400000 in
theorem dbl_c (v : Nat) (hv : v < M) (w : World) :
    Calls Try.prog 31 #[.agg #[.int .u64 (hiOf v : Nat), .int .u64 (loOf v : Nat)]] w fun e w' =>
      e = .returned (.tuple #[.agg #[.int .u64 (hiOf (2 * v) : Nat), .int .u64 (loOf (2 * v) : Nat)], .bool (ovf (2 * v))]) ∧ Below w.heap.size w w' := by
  have hh := hiOf_lt v
  have hl := loOf_lt v
  have H := Lib.hid (dbl_hl hv)
  clear hv
  go_enter Try.func31, Try.ntmps31
  go_wp2
  go_region
  go_wp2
  refine bodyPost_ret (v := .tuple #[.agg #[.int .u64 (bits .or .u64 (IntKind.u64.wrap ((hiOf v : Int) * 2)) ((loOf v : Int) / 9223372036854775808)), .int .u64 (IntKind.u64.wrap ((loOf v : Int) * 2))], .bool ((hiOf v : Int) / 9223372036854775808 == 1)]) (by simp [results, Try.results31, go_sem]) rfl
      ⟨ret_wide_b ?_ ?_ ?_, (((Below.refl _ _).alloc (Nat.le_refl _) _).alloc (by simp) _).drew⟩
  · rw [← H.out.1]
    have h1 : IntKind.u64.wrap ((hiOf v : Int) * 2) = ((hiOf v * 2 % 18446744073709551616 : Nat) : Int) := Mul64.wrapM (hiOf v * 2)
    rw [h1, show (loOf v : Int) / 9223372036854775808 = ((loOf v / 9223372036854775808 : Nat) : Int) from by omega]
    exact bits_or_u64_nat _ _ (by omega) (by omega)
  · rw [← H.out.2.1]
    exact Mul64.wrapM (loOf v * 2)
  · rw [H.out.2.2]
    rw [Bool.eq_iff_iff]
    simp only [beq_iff_eq, decide_eq_true_eq]
    omega

/-- Twice a number that is known but for 2^128. -/
theorem dblm_c (s : Nat) (w : World) :
    Calls Try.prog 31 #[.agg #[.int .u64 (hiOf s : Nat), .int .u64 (loOf s : Nat)]] w fun e w' =>
      e = .returned (.tuple #[.agg #[.int .u64 (hiOf (2 * s) : Nat), .int .u64 (loOf (2 * s) : Nat)], .bool (ovf (2 * (s % M)))]) ∧ Below w.heap.size w w' := by
  have h := dbl_c (s % M) (Nat.mod_lt _ (by decide)) w
  rw [mod_hi, mod_lo, (dbl_mod_hi s).1, (dbl_mod_hi s).2] at h
  exact h

end Go.Proofs.Ytcppcfjejalggaa
