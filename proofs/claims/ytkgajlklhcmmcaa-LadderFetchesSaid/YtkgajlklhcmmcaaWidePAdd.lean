/-
  Contracts over this seat of translation: isobar/wide.Add: what each returns, and that nothing that was there has turned.
-/
import Derived.Test.YtkgajlklhcmmcaaWideKit
namespace Go.Proofs.Ytkgajlklhcmmcaa
open Go.RowKit
theorem run_add64c (x y c : Int) (hx : 0 ≤ x) (hy : 0 ≤ y) (hc0 : 0 ≤ c) (hc : c ≤ 1) (w : World) : (callFunc 95 #[.int .u64 x, .int .u64 y, .int .u64 c]).run Try.prog w =
      .ok (.value (.tuple #[.int .u64 ((x + y + c) % 18446744073709551616), .int .u64 ((x + y + c) / 18446744073709551616)])) w := by
  rw [run_callFunc_extern Try.func95 (by kernel_rfl) (by kernel_rfl) (by kernel_rfl) (e := add64Entry) (by kernel_rfl), run_add64 x y c hx hy hc0 hc]
  rfl

set_option maxHeartbeats 400000 in
theorem add_c (u v : Nat) (hu : u < M) (hv : v < M) (w : World) :
    Calls Try.prog 92 #[.agg #[.int .u64 (hiOf u : Nat), .int .u64 (loOf u : Nat)], .agg #[.int .u64 (hiOf v : Nat), .int .u64 (loOf v : Nat)]] w fun e w' =>
      e = .returned (.tuple #[.agg #[.int .u64 (hiOf (u + v) : Nat), .int .u64 (loOf (u + v) : Nat)], .bool (ovf (u + v))]) ∧ Below w.heap.size w w' := by
  have uh := hiOf_lt u
  have ul := loOf_lt u
  have vh := hiOf_lt v
  have vl := loOf_lt v
  have H := Lib.hid (add_hl hu hv)
  have a1 := fun W => run_add64c (loOf u) (loOf v) 0 (by omega) (by omega) (by omega) (by omega) W
  have a2 := fun W => run_add64c (hiOf u) (hiOf v) (((loOf u : Int) + (loOf v : Int)) / 18446744073709551616) (by omega) (by omega) (by omega) (by omega) W
  simp only [Int.add_zero] at a1
  clear hu hv
  go_enter Try.func92, Try.ntmps92
  go_wp2
  refine bodyPost_ret (v := .tuple #[.agg #[.int .u64 (((hiOf u : Int) + hiOf v + ((loOf u : Int) + loOf v) / 18446744073709551616) % 18446744073709551616), .int .u64 (((loOf u : Int) + loOf v) % 18446744073709551616)],
      .bool (((hiOf u : Int) + hiOf v + ((loOf u : Int) + loOf v) / 18446744073709551616) / 18446744073709551616 != 0)]) (by simp [results, Try.results92, go_sem]) rfl
      ⟨ret_wide_b ?_ ?_ ?_, (((Below.refl _ _).alloc (Nat.le_refl _) _).alloc (by simp) _).alloc (by simp; omega) _⟩
  · rw [← H.out.2.1]; omega
  · rw [← H.out.1]; omega
  · have h3 := H.out.2.2
    clear a1 a2 H
    generalize ovf (u + v) = c at h3 ⊢
    cases c
    · simp only [Bool.false_eq_true, if_false] at h3
      rw [bne_eq_false_iff_eq]; omega
    · simp only [if_true] at h3
      rw [bne_iff_ne]; omega

theorem add1_c (u : Nat) (hu : u < M) (w : World) :
    Calls Try.prog 92 #[.agg #[.int .u64 (hiOf u : Nat), .int .u64 (loOf u : Nat)], .agg #[.int .u64 0, .int .u64 1]] w fun e w' =>
      e = .returned (.tuple #[.agg #[.int .u64 (hiOf (u + 1) : Nat), .int .u64 (loOf (u + 1) : Nat)], .bool (ovf (u + 1))]) ∧ Below w.heap.size w w' :=
  add_c u 1 hu (by decide) w
end Go.Proofs.Ytkgajlklhcmmcaa
