/-
  Contracts of the program's functions of layer 13 (and of layer 2, that it calls): numbers, times, places, whether a slot stands at its place.
-/
import Derived.Test.YtkgajlklhcmmcaaRinRow
set_option linter.unusedSimpArgs false
set_option linter.unusedVariables false
namespace Go.Proofs.Ytkgajlklhcmmcaa.IP
open Go.RowKit
theorem below_two {w w1 : World} {o1 o2 : Obj} (hb : Below ((w.alloc o1).alloc o2).heap.size ((w.alloc o1).alloc o2) w1) : Below w.heap.size w w1 := (((Below.refl _ _).alloc (Nat.le_refl _) _).alloc (by simp) _).trans (hb.mono (by simp; omega))
theorem below_box {w w1 : World} {o : Obj} (hb : Below (w.alloc o).heap.size (w.alloc o) w1) : Below w.heap.size w w1 := ((Below.refl _ _).alloc (Nat.le_refl _) _).trans (hb.mono (by simp))
theorem bcell {W w1 : World} (hb : Below W.heap.size W w1) : (∀ b o, b < W.heap.size → w1.cell? ⟨b, o, none⟩ = W.cell? ⟨b, o, none⟩) ∧ (∀ b o, b < W.heap.size → w1.frozen? ⟨b, o, none⟩ = W.frozen? ⟨b, o, none⟩) :=
  ⟨fun b o h => hb.cell (p := ⟨b, o, none⟩) h, fun b o h => hb.frozen (p := ⟨b, o, none⟩) h⟩
theorem nothing_c (w : World) : Calls Try.prog 82 #[] w fun e w' => e = .returned (.agg #[.bool true, .int .i64 0]) ∧ Below w.heap.size w w' := by
  go_enter Try.func82, Try.ntmps82
  go_wp2
  exact bodyPost_ret (v := .agg #[.bool true, .int .i64 0]) (by simp [results, Try.results82, go_sem]) rfl ⟨rfl, (Below.refl _ _).alloc (Nat.le_refl _) _⟩
theorem right_f (v : Int) (w : World) : Calls Try.prog 58 #[.agg #[.bool false, .int .i64 v]] w fun e w' => e = .returned (.bool (v != -9223372036854775808)) ∧ Below w.heap.size w w' := by
  go_enter Try.func58, Try.ntmps58
  go_wp2
  go_ret
  exact ⟨rfl, (Below.refl _ _).alloc (Nat.le_refl _) _⟩
theorem missing_yes (v : Int) (h : v ≠ -9223372036854775808) (w : World) : Calls Try.prog 81 #[.agg #[.bool false, .int .i64 v]] w fun e w' => e = .returned (.bool false) ∧ Below w.heap.size w w' := by
  have hr := right_f v
  rw [show (v != -9223372036854775808) = true from by rw [bne_iff_ne]; exact h] at hr
  have HR := Lib.hid hr
  clear hr h
  go_enter Try.func81, Try.ntmps81
  go_wp2_with fail
  refine (HR.out _).mono ?_; rintro e w1 ⟨rfl, hb1⟩; obtain ⟨hc1, hf1⟩ := bcell hb1
  go_wp2
  go_ret
  exact ⟨rfl, below_box hb1⟩
theorem counted_yes (v : Int) (h : v ≠ -9223372036854775808) (w : World) : Calls Try.prog 78 #[.agg #[.bool false, .int .i64 v]] w fun e w' => e = .returned (.agg #[.bool false, .int .i64 v]) ∧ Below w.heap.size w w' := by
  have HM := Lib.hid (missing_yes v h)
  clear h
  go_enter Try.func78, Try.ntmps78
  go_wp2_with fail
  refine (HM.out _).mono ?_; rintro e w1 ⟨rfl, hb1⟩; obtain ⟨hc1, hf1⟩ := bcell hb1
  have z1 : w.heap.size + 1 < w1.heap.size := (by have := hb1.size; simp at this; omega)
  have x1 : w.heap.size < w1.heap.size := by omega
  go_wp2
  exact bodyPost_ret (v := .agg #[.bool false, .int .i64 v]) (by simp [results, Try.results78, go_sem, hc1, hf1, z1, x1]) rfl ⟨rfl, below_put2 (below_two hb1) (by omega) _ _⟩
theorem of_yes (v : Int) (h : v ≠ -9223372036854775808) (w : World) : Calls Try.prog 66 #[.int .i64 v] w fun e w' => e = .returned (.agg #[.bool false, .int .i64 v]) ∧ Below w.heap.size w w' := by
  have HC := Lib.hid (counted_yes v h)
  clear h
  go_enter Try.func66, Try.ntmps66
  go_wp2_with fail
  refine (HC.out _).mono ?_; rintro e w1 ⟨rfl, hb1⟩; obtain ⟨hc1, hf1⟩ := bcell hb1
  go_wp2
  exact bodyPost_ret (v := .agg #[.bool false, .int .i64 v]) (by simp [results, Try.results66, go_sem, hc1, hf1]) rfl ⟨rfl, below_put2 (below_box hb1) (by omega) _ _⟩
/-! ### Layer 13's own -/
theorem none_c (w : World) : Calls Try.prog 65 #[] w fun e w' => e = .returned (.agg #[.bool true, .int .i64 0]) ∧ Below w.heap.size w w' := by
  go_enter Try.func65, Try.ntmps65
  go_wp2
  exact bodyPost_ret (v := .agg #[.bool true, .int .i64 0]) (by simp [results, Try.results65, go_sem]) rfl ⟨rfl, (Below.refl _ _).alloc (Nat.le_refl _) _⟩
theorem empty_c (w : World) : Calls Try.prog 55 #[] w fun e w' => e = .returned (.agg #[.int .i64 (-1), .int .i64 0]) ∧ Below w.heap.size w w' := by
  go_enter Try.func55, Try.ntmps55
  go_wp2
  exact bodyPost_ret (v := .agg #[.int .i64 (-1), .int .i64 0]) (by simp [results, Try.results55, go_sem]) rfl ⟨rfl, (Below.refl _ _).alloc (Nat.le_refl _) _⟩
theorem isTime_c (t : Int) (w : World) : Calls Try.prog 42 #[.int .i64 t] w fun e w' => e = .returned (.bool (rTm t)) ∧ w = w' := by
  by_cases h1 : 0 ≤ t
  · by_cases h2 : t ≤ 1099511627776
    · rw [rTm_iff.2 ⟨h1, h2⟩]
      go_enter Try.func42, Try.ntmps42
      go_wp2
      go_ret
      exact ⟨rfl, rfl⟩
    · rw [show rTm t = false from Bool.eq_false_iff.2 fun h => h2 (rTm_iff.1 h).2]
      go_enter Try.func42, Try.ntmps42
      go_wp2
      go_ret
      exact ⟨rfl, rfl⟩
  · rw [show rTm t = false from Bool.eq_false_iff.2 fun h => h1 (rTm_iff.1 h).1]
    go_enter Try.func42, Try.ntmps42
    go_wp2
    go_ret
    exact ⟨rfl, rfl⟩
theorem mayBe_c (s n : Int) (w : World) : Calls Try.prog 53 #[.int .i64 s, .int .i64 n] w fun e w' => e = .returned (.bool (rMay s n)) ∧ w = w' := by
  obtain ⟨d, hd⟩ : ∃ d, rMay s n = d := ⟨_, rfl⟩
  rw [hd]
  have HY := Lib.hid (show 1 ≤ s ∧ s ≤ 86400 ∧ 1 ≤ n ∧ n ≤ 400 → d = true from fun h => by rw [← hd]; exact rMay_iff.2 h)
  have HN := Lib.hid (show ¬ (1 ≤ s ∧ s ≤ 86400 ∧ 1 ≤ n ∧ n ≤ 400) → d = false from fun h => by rw [← hd]; exact Bool.eq_false_iff.2 fun hh => h (rMay_iff.1 hh))
  clear hd
  by_cases h0 : 1 ≤ s
  · by_cases h1 : s ≤ 86400
    · by_cases h2 : 1 ≤ n
      · by_cases h3 : n ≤ 400
        · obtain rfl := HY.out ⟨h0, h1, h2, h3⟩
          go_enter Try.func53, Try.ntmps53
          go_wp2
          go_ret
          exact ⟨rfl, rfl⟩
        · obtain rfl := HN.out (by omega)
          go_enter Try.func53, Try.ntmps53
          go_wp2
          go_ret
          exact ⟨rfl, rfl⟩
      · obtain rfl := HN.out (by omega)
        go_enter Try.func53, Try.ntmps53
        go_wp2
        go_ret
        exact ⟨rfl, rfl⟩
    · obtain rfl := HN.out (by omega)
      go_enter Try.func53, Try.ntmps53
      go_wp2
      go_ret
      exact ⟨rfl, rfl⟩
  · obtain rfl := HN.out (by omega)
    go_enter Try.func53, Try.ntmps53
    go_wp2
    go_ret
    exact ⟨rfl, rfl⟩
/-- May a value stand in a slot? -/
def rV (v : Int) : Bool := decide (v ≠ -9223372036854775808)
theorem rV_bne (v : Int) : (v != -9223372036854775808) = rV v := by unfold rV; by_cases h : v = -9223372036854775808 <;> simp [h]
theorem isValue_c (v : Int) (w : World) : Calls Try.prog 70 #[.int .i64 v] w fun e w' => e = .returned (.bool (rV v)) ∧ Below w.heap.size w w' := by
  have hr := right_f v
  rw [rV_bne] at hr
  generalize rV v = d at *
  have HR := Lib.hid hr
  clear hr
  go_enter Try.func70, Try.ntmps70
  go_wp2_with fail
  refine (HR.out _).mono ?_; rintro e w1 ⟨rfl, hb1⟩
  go_wp2
  go_ret
  exact ⟨rfl, hb1⟩
end Go.Proofs.Ytkgajlklhcmmcaa.IP
