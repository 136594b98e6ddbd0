/-
  Contracts over this seat of translation: isobar/wide.Shift: what each returns, and that nothing that was there has turned.
-/
import Derived.Test.YtcppcfjejalggaaWideKit
namespace Go.Proofs.Ytcppcfjejalggaa
open Go.RowKit

set_option maxRecDepth 100000 in
theorem shift_no (v : Nat) (n : Int) (hn : n < 0 ∨ 127 < n) (w : World) :
    Calls Try.prog 50 #[.agg #[.int .u64 (hiOf v : Nat), .int .u64 (loOf v : Nat)], .int .i64 n] w fun e w' =>
      e = .returned (.tuple #[.agg #[.int .u64 (hiOf v : Nat), .int .u64 (loOf v : Nat)], .bool false]) ∧ Below w.heap.size w w' := by
  rcases hn with hn | hn
  · go_enter Try.func50, Try.ntmps50
    go_wp2
    exact bodyPost_ret (v := .tuple #[.agg #[.int .u64 (hiOf v : Nat), .int .u64 (loOf v : Nat)], .bool false]) (by simp [results, Try.results50, go_sem]) rfl
        ⟨rfl, ((Below.refl _ _).alloc (Nat.le_refl _) _).alloc (by simp) _⟩
  · have hn' : ¬ n < 0 := by omega
    go_enter Try.func50, Try.ntmps50
    go_wp2
    exact bodyPost_ret (v := .tuple #[.agg #[.int .u64 (hiOf v : Nat), .int .u64 (loOf v : Nat)], .bool false]) (by simp [results, Try.results50, go_sem]) rfl
        ⟨rfl, ((Below.refl _ _).alloc (Nat.le_refl _) _).alloc (by simp) _⟩

set_option maxRecDepth 100000 in
set_option maxHeartbeats 1000000 in
theorem shift_c (v n : Nat) (hv : v < M) (hn : n ≤ 127) (w : World) :
    Calls Try.prog 50 #[.agg #[.int .u64 (hiOf v : Nat), .int .u64 (loOf v : Nat)], .int .i64 n] w fun e w' =>
      e = .returned (.tuple #[.agg #[.int .u64 (hiOf (v * 2 ^ n) : Nat), .int .u64 (loOf (v * 2 ^ n) : Nat)], .bool (okN v n)]) ∧ Below w.heap.size w w' := by
  have hh := hiOf_lt v
  have hl := loOf_lt v
  by_cases h : 64 ≤ n
  · have H := Lib.hid (sh_hi hv h hn)
    clear hv
    go_enter Try.func50, Try.ntmps50
    go_wp2_with fail
    go_quiet (fail)
    go_wp2
    have HO : bits .or .u64 (hiOf v : Int) ((loOf v : Int) / 2 ^ (128 - n)) = ((hiOf v ||| loOf v / 2 ^ (128 - n) : Nat) : Int) := by
      rw [show (loOf v : Int) / 2 ^ (128 - n) = ((loOf v / 2 ^ (128 - n) : Nat) : Int) from by simp]
      exact bits_or_u64_nat _ _ hh (Nat.lt_of_le_of_lt (Nat.div_le_self _ _) hl)
    refine bodyPost_ret (v := .tuple #[.agg #[.int .u64 (IntKind.u64.wrap ((loOf v : Int) * 2 ^ (n - 64))), .int .u64 0], .bool (bits .or .u64 (hiOf v : Int) ((loOf v : Int) / 2 ^ (128 - n)) == 0)]) (by simp [results, Try.results50, go_sem]) rfl
        ⟨ret_wide_b ?_ ?_ ?_, below_put (below_drewN (((Below.refl _ _).alloc (Nat.le_refl _) _).alloc (by simp) _) _) (by omega) _ _⟩
    · rw [← H.out.1, show (loOf v : Int) * 2 ^ (n - 64) = ((loOf v * 2 ^ (n - 64) : Nat) : Int) from by simp]
      exact Mul64.wrapM _
    · rw [H.out.2.1]; rfl
    · rw [← H.out.2.2, HO, Bool.eq_iff_iff, beq_iff_eq, decide_eq_true_eq]
      omega
  · have H := Lib.hid (sh_lo hv (by omega : n < 64))
    clear hv
    go_enter Try.func50, Try.ntmps50
    go_wp2_with fail
    go_region
    go_wp2
    refine bodyPost_ret (v := .tuple #[.agg #[.int .u64 (bits .or .u64 (IntKind.u64.wrap ((hiOf v : Int) * 2 ^ n)) ((loOf v : Int) / 2 ^ (64 - n))), .int .u64 (IntKind.u64.wrap ((loOf v : Int) * 2 ^ n))], .bool ((hiOf v : Int) / 2 ^ (64 - n) == 0)]) (by simp [results, Try.results50, go_sem]) rfl
        ⟨ret_wide_b ?_ ?_ ?_, (((Below.refl _ _).alloc (Nat.le_refl _) _).alloc (by simp) _).drew⟩
    · rw [← H.out.1, show (loOf v : Int) / 2 ^ (64 - n) = ((loOf v / 2 ^ (64 - n) : Nat) : Int) from by simp, show (hiOf v : Int) * 2 ^ n = ((hiOf v * 2 ^ n : Nat) : Int) from by simp, Mul64.wrapM]
      exact bits_or_u64_nat _ _ (Nat.mod_lt _ (by decide)) (Nat.lt_of_le_of_lt (Nat.div_le_self _ _) hl)
    · rw [← H.out.2.1, show (loOf v : Int) * 2 ^ n = ((loOf v * 2 ^ n : Nat) : Int) from by simp]
      exact Mul64.wrapM _
    · rw [← H.out.2.2, show (hiOf v : Int) / 2 ^ (64 - n) = ((hiOf v / 2 ^ (64 - n) : Nat) : Int) from by simp, Bool.eq_iff_iff, beq_iff_eq, decide_eq_true_eq]
      omega

end Go.Proofs.Ytcppcfjejalggaa
