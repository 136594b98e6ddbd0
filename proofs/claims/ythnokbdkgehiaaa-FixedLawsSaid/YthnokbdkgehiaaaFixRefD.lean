/-
  Contracts of the document's own functions of layer 2, the fourth part: a number without its sign, its root, and what is right.
-/
import Derived.Test.YthnokbdkgehiaaaFixRefC
set_option linter.unusedSimpArgs false
set_option linter.unusedVariables false
namespace Go.Proofs.Ythnokbdkgehiaaa.FR
open Go.RowKit

theorem right_f (v : Int) (w : World) : Calls Try.prog 14 #[.agg #[.bool false, .int .i64 v]] w fun e w' => e = .returned (.bool (v != -9223372036854775808)) ∧ Below w.heap.size w w' := by
  go_enter Try.func14, Try.ntmps14
  go_wp2
  go_ret
  exact ⟨rfl, (Below.refl _ _).alloc (Nat.le_refl _) _⟩
theorem right_t (v : Int) (w : World) : Calls Try.prog 14 #[.agg #[.bool true, .int .i64 v]] w fun e w' => e = .returned (.bool (v == 0)) ∧ Below w.heap.size w w' := by
  go_enter Try.func14, Try.ntmps14
  go_wp2
  go_ret
  exact ⟨rfl, (Below.refl _ _).alloc (Nat.le_refl _) _⟩

theorem abs_no (b : Bool) (v : Int) (h : ¬ (b = false ∧ v ≠ -9223372036854775808)) (w : World) :
    Calls Try.prog 26 #[.agg #[.bool b, .int .i64 v]] w fun e w' => e = .returned (.agg #[.bool true, .int .i64 0]) ∧ Below w.heap.size w w' := by
  have HP := Lib.hid (is_no b v h)
  clear h
  go_enter Try.func26, Try.ntmps26
  go_wp2_with fail
  refine (HP.out _).mono ?_; rintro e w1 ⟨rfl, hb1⟩; obtain ⟨hc1, hf1⟩ := bcell hb1
  have z1 : w.heap.size + 1 < w1.heap.size := (by have := hb1.size; simp at this; omega)
  have x1 : w.heap.size < w1.heap.size := by omega
  go_wp2_with fail
  refine (HP.out _).mono ?_; rintro e w2 ⟨rfl, hb2⟩; obtain ⟨hc2, hf2⟩ := bcell hb2
  have z2 : w.heap.size + 1 < w2.heap.size := Nat.lt_of_lt_of_le z1 hb2.size
  have x2 : w.heap.size < w2.heap.size := by omega
  go_wp2_with fail
  refine (nothing_c _).mono ?_; rintro e w3 ⟨rfl, hb3⟩; obtain ⟨hc3, hf3⟩ := bcell hb3
  have z3 : w.heap.size + 1 < w3.heap.size := Nat.lt_of_lt_of_le z2 hb3.size
  have x3 : w.heap.size < w3.heap.size := by omega
  go_wp2
  refine bodyPost_ret (v := .agg #[.bool true, .int .i64 0]) (by simp [results, Try.results26, go_sem, hc1, hf1, z1, x1, hc2, hf2, z2, x2, hc3, hf3, z3, x3]) rfl ⟨?_, below_put (below_next (below_next (below_two hb1) hb2) hb3) (by omega) _ _⟩
  rfl
theorem abs_yes (v : Int) (h0 : -9223372036854775807 ≤ v) (h1 : v ≤ 9223372036854775807) (w : World) :
    Calls Try.prog 26 #[.agg #[.bool false, .int .i64 v]] w fun e w' => e = .returned (.agg #[.bool false, .int .i64 (if v < 0 then -v else v)]) ∧ Below w.heap.size w w' := by
  have HP := Lib.hid (is_yes v (by omega))
  by_cases l : v < 0
  · have HN := Lib.hid (neg_yes v h0 h1)
    rw [if_pos l]
    go_enter Try.func26, Try.ntmps26
    go_wp2_with fail
    refine (HP.out _).mono ?_; rintro e w1 ⟨rfl, hb1⟩; obtain ⟨hc1, hf1⟩ := bcell hb1
    have z1 : w.heap.size + 1 < w1.heap.size := (by have := hb1.size; simp at this; omega)
    have x1 : w.heap.size < w1.heap.size := by omega
    go_wp2_with fail
    refine (HN.out _).mono ?_; rintro e w2 ⟨rfl, hb2⟩; obtain ⟨hc2, hf2⟩ := bcell hb2
    have z2 : w.heap.size + 1 < w2.heap.size := Nat.lt_of_lt_of_le z1 hb2.size
    have x2 : w.heap.size < w2.heap.size := by omega
    go_wp2
    refine bodyPost_ret (v := .agg #[.bool false, .int .i64 (-v)]) (by simp [results, Try.results26, go_sem, hc1, hf1, z1, x1, hc2, hf2, z2, x2]) rfl ⟨?_, below_put (below_next (below_two hb1) hb2) (by omega) _ _⟩
    rfl
  · rw [if_neg l]
    go_enter Try.func26, Try.ntmps26
    go_wp2_with fail
    refine (HP.out _).mono ?_; rintro e w1 ⟨rfl, hb1⟩; obtain ⟨hc1, hf1⟩ := bcell hb1
    have z1 : w.heap.size + 1 < w1.heap.size := (by have := hb1.size; simp at this; omega)
    have x1 : w.heap.size < w1.heap.size := by omega
    go_wp2_with fail
    refine (HP.out _).mono ?_; rintro e w2 ⟨rfl, hb2⟩; obtain ⟨hc2, hf2⟩ := bcell hb2
    have z2 : w.heap.size + 1 < w2.heap.size := Nat.lt_of_lt_of_le z1 hb2.size
    have x2 : w.heap.size < w2.heap.size := by omega
    go_wp2
    refine bodyPost_ret (v := .agg #[.bool false, .int .i64 v]) (by simp [results, Try.results26, go_sem, hc1, hf1, z1, x1, hc2, hf2, z2, x2]) rfl ⟨?_, below_put (below_next (below_two hb1) hb2) (by omega) _ _⟩
    rfl

theorem root_no (b : Bool) (v : Int) (h : ¬ (b = false ∧ v ≠ -9223372036854775808)) (w : World) :
    Calls Try.prog 32 #[.agg #[.bool b, .int .i64 v]] w fun e w' => e = .returned (.agg #[.bool true, .int .i64 0]) ∧ Below w.heap.size w w' := by
  have HP := Lib.hid (is_no b v h)
  clear h
  go_enter Try.func32, Try.ntmps32
  go_wp2_with fail
  refine (HP.out _).mono ?_; rintro e w1 ⟨rfl, hb1⟩; obtain ⟨hc1, hf1⟩ := bcell hb1
  have z1 : w.heap.size + 1 < w1.heap.size := (by have := hb1.size; simp at this; omega)
  have x1 : w.heap.size < w1.heap.size := by omega
  go_wp2_with fail
  refine (nothing_c _).mono ?_; rintro e w2 ⟨rfl, hb2⟩; obtain ⟨hc2, hf2⟩ := bcell hb2
  have z2 : w.heap.size + 1 < w2.heap.size := Nat.lt_of_lt_of_le z1 hb2.size
  have x2 : w.heap.size < w2.heap.size := by omega
  go_wp2
  refine bodyPost_ret (v := .agg #[.bool true, .int .i64 0]) (by simp [results, Try.results32, go_sem, hc1, hf1, z1, x1, hc2, hf2, z2, x2]) rfl ⟨?_, below_put (below_next (below_two hb1) hb2) (by omega) _ _⟩
  rfl
theorem root_yes' (v : Int) (h0 : -9223372036854775807 ≤ v) (h1 : v ≤ 9223372036854775807) (w : World) :
    Calls Try.prog 32 #[.agg #[.bool false, .int .i64 v]] w fun e w' => e = .returned (.agg #[.bool (nb (rootO (some v))), .int .i64 (nv (rootO (some v)))]) ∧ Below w.heap.size w w' := by
  have HP := Lib.hid (is_yes v (by omega))
  by_cases l : v < 0
  · have ho : rootO (some v) = none := if_pos l
    rw [ho]
    clear ho
    go_enter Try.func32, Try.ntmps32
    go_wp2_with fail
    refine (HP.out _).mono ?_; rintro e w1 ⟨rfl, hb1⟩; obtain ⟨hc1, hf1⟩ := bcell hb1
    have z1 : w.heap.size + 1 < w1.heap.size := (by have := hb1.size; simp at this; omega)
    have x1 : w.heap.size < w1.heap.size := by omega
    go_wp2_with fail
    refine (nothing_c _).mono ?_; rintro e w2 ⟨rfl, hb2⟩; obtain ⟨hc2, hf2⟩ := bcell hb2
    have z2 : w.heap.size + 1 < w2.heap.size := Nat.lt_of_lt_of_le z1 hb2.size
    have x2 : w.heap.size < w2.heap.size := by omega
    go_wp2
    refine bodyPost_ret (v := .agg #[.bool true, .int .i64 0]) (by simp [results, Try.results32, go_sem, hc1, hf1, z1, x1, hc2, hf2, z2, x2]) rfl ⟨?_, below_put (below_next (below_two hb1) hb2) (by omega) _ _⟩
    rfl
  · obtain ⟨m, hm⟩ : ∃ m, v.natAbs = m := ⟨_, rfl⟩
    have hm64 : m < 18446744073709551616 := by omega
    have ho : rootO (some v) = signO (rt (m * 1000000)) false := by rw [← hm]; exact if_neg l
    rw [ho]
    obtain ⟨O, hO⟩ : ∃ O, signO (rt (m * 1000000)) false = O := ⟨_, rfl⟩
    have HS := Lib.hid (size_q v m (by omega) h1 hm)
    have HM := Lib.hid (rmul_c m 1000000 hm64 (by decide))
    have HR := Lib.hid (rroot_c (m * 1000000) (prod_lt hm64 (by decide)))
    have HG := Lib.hid (signed_c (rt (m * 1000000)) (rt_lt _) false)
    rw [hO] at HG ⊢
    clear hm ho hO
    go_enter Try.func32, Try.ntmps32
    go_wp2_with fail
    refine (HP.out _).mono ?_; rintro e w1 ⟨rfl, hb1⟩; obtain ⟨hc1, hf1⟩ := bcell hb1
    have z1 : w.heap.size + 1 < w1.heap.size := (by have := hb1.size; simp at this; omega)
    have x1 : w.heap.size < w1.heap.size := by omega
    go_wp2_with fail
    refine (HS.out _).mono ?_; rintro e w' ⟨rfl, rfl⟩
    go_wp2_with fail
    refine (HM.out _).mono ?_; rintro e w3 ⟨rfl, hb3⟩; obtain ⟨hc3, hf3⟩ := bcell hb3
    have z3 : w.heap.size + 1 < w3.heap.size := Nat.lt_of_lt_of_le z1 hb3.size
    have x3 : w.heap.size < w3.heap.size := by omega
    go_wp2_with fail
    refine (HR.out _).mono ?_; rintro e w4 ⟨rfl, hb4⟩; obtain ⟨hc4, hf4⟩ := bcell hb4
    have z4 : w.heap.size + 1 < w4.heap.size := Nat.lt_of_lt_of_le z3 hb4.size
    have x4 : w.heap.size < w4.heap.size := by omega
    go_wp2_with fail
    refine (HG.out _).mono ?_; rintro e w5 ⟨rfl, hb5⟩; obtain ⟨hc5, hf5⟩ := bcell hb5
    have z5 : w.heap.size + 1 < w5.heap.size := Nat.lt_of_lt_of_le z4 hb5.size
    have x5 : w.heap.size < w5.heap.size := by omega
    go_wp2
    refine bodyPost_ret (v := .agg #[.bool (nb O), .int .i64 (nv O)]) (by simp [results, Try.results32, go_sem, hc1, hf1, z1, x1, hc3, hf3, z3, x3, hc4, hf4, z4, x4, hc5, hf5, z5, x5]) rfl ⟨?_, below_put (below_next (below_next (below_next (below_two hb1) hb3) hb4) hb5) (by omega) _ _⟩
    rfl
end Go.Proofs.Ythnokbdkgehiaaa.FR
