/-
  The statements of layer 2, walked: roots.
-/
import Derived.Test.YthnokbdkgehiaaaFixW
import Derived.Test.YthnokbdkgehiaaaLaws2
set_option linter.unusedSimpArgs false
set_option linter.unusedVariables false
namespace Go.Proofs.Ythnokbdkgehiaaa.FW
open Go.RowKit

theorem fixedRoot_none (b : Bool) (v : Int) (h1 : -9223372036854775808 ≤ v ∧ v ≤ 9223372036854775807) (h : b = true ∨ v < 0) (w : World) :
    Calls Try.prog 11 #[.agg #[.bool b, .int .i64 v]] w fun e w' => e = .returned (.bool true) ∧ Below w.heap.size w w' := by
  have P := FP.root_any b v h1
  have ho : rootO (rd b v) = none := by
    by_cases g : b = false ∧ v ≠ -9223372036854775808
    · rw [rd_some g.1 g.2]
      exact if_pos (h.resolve_left (by rw [g.1]; decide))
    · rw [rd_none g]; rfl
  rw [ho, nb_none, nv_none] at P
  have H := Lib.hid P
  clear P ho
  cases b
  · have hv : v < 0 := h.resolve_left (by decide)
    have r := right_r false v
    clear h h1
    by_cases g : v = -9223372036854775808
    · rw [show rightB false v = false from by rw [g]; decide] at r
      have R := Lib.hid r
      clear r g
      go_enter Try.func11, Try.ntmps11
      go_wp2_with fail
      refine (alive_c _).mono ?_; rintro e w1 ⟨rfl, hb1⟩; obtain ⟨hc1, hf1⟩ := bcell hb1
      have x1 : w.heap.size < w1.heap.size := (by have := hb1.size; simp at this; omega)
      go_wp2_with fail
      refine (H.out _).mono ?_; rintro e w2 ⟨rfl, hb2⟩; obtain ⟨hc2, hf2⟩ := bcell hb2
      have x2 : w.heap.size < w2.heap.size := Nat.lt_of_lt_of_le x1 hb2.size
      go_wp2_with fail
      refine (R.out _).mono ?_; rintro e w3 ⟨rfl, hb3⟩; obtain ⟨hc3, hf3⟩ := bcell hb3
      have x3 : w2.heap.size < w3.heap.size := (by have := hb3.size; simp at this; omega)
      have y3 : w.heap.size < w3.heap.size := by omega
      go_wp2
      go_ret
      exact ⟨rfl, below_next (below_next (below_box hb1) hb2) (below_box hb3)⟩

    · rw [show rightB false v = true from by show (v != -9223372036854775808) = true; rw [bne_iff_ne]; exact g] at r
      have R := Lib.hid r
      clear r g
      go_enter Try.func11, Try.ntmps11
      go_wp2_with fail
      refine (alive_c _).mono ?_; rintro e w1 ⟨rfl, hb1⟩; obtain ⟨hc1, hf1⟩ := bcell hb1
      have x1 : w.heap.size < w1.heap.size := (by have := hb1.size; simp at this; omega)
      go_wp2_with fail
      refine (H.out _).mono ?_; rintro e w2 ⟨rfl, hb2⟩; obtain ⟨hc2, hf2⟩ := bcell hb2
      have x2 : w.heap.size < w2.heap.size := Nat.lt_of_lt_of_le x1 hb2.size
      go_wp2_with fail
      refine (R.out _).mono ?_; rintro e w3 ⟨rfl, hb3⟩; obtain ⟨hc3, hf3⟩ := bcell hb3
      have x3 : w2.heap.size < w3.heap.size := (by have := hb3.size; simp at this; omega)
      have y3 : w.heap.size < w3.heap.size := by omega
      go_wp2
      go_ret
      exact ⟨rfl, below_next (below_next (below_box hb1) hb2) (below_box hb3)⟩

  · have r := right_r true v
    clear h h1
    rw [show rightB true v = (v == 0) from rfl] at r
    generalize (v == 0) = z at r
    have R := Lib.hid r
    clear r
    cases z
    all_goals
      go_enter Try.func11, Try.ntmps11
      go_wp2_with fail
      refine (alive_c _).mono ?_; rintro e w1 ⟨rfl, hb1⟩; obtain ⟨hc1, hf1⟩ := bcell hb1
      have x1 : w.heap.size < w1.heap.size := (by have := hb1.size; simp at this; omega)
      go_wp2_with fail
      refine (H.out _).mono ?_; rintro e w2 ⟨rfl, hb2⟩; obtain ⟨hc2, hf2⟩ := bcell hb2
      have x2 : w.heap.size < w2.heap.size := Nat.lt_of_lt_of_le x1 hb2.size
      go_wp2_with fail
      refine (R.out _).mono ?_; rintro e w3 ⟨rfl, hb3⟩; obtain ⟨hc3, hf3⟩ := bcell hb3
      have x3 : w2.heap.size < w3.heap.size := (by have := hb3.size; simp at this; omega)
      have y3 : w.heap.size < w3.heap.size := by omega
      go_wp2
      go_ret
      exact ⟨rfl, below_next (below_next (below_box hb1) hb2) (below_box hb3)⟩


set_option maxRecDepth 100000 in
set_option maxHeartbeats 2000000 in
theorem fixedRoot_some (v : Int) (h0 : 0 ≤ v) (h1 : v ≤ 9223372036854775807) (w : World) :
    Calls Try.prog 11 #[.agg #[.bool false, .int .i64 v]] w fun e w' => e = .returned (.bool true) ∧ Below w.heap.size w w' := by
  have P := FP.root_any false v ⟨by omega, h1⟩
  obtain ⟨n, ho, hn, hlo, hhi⟩ := root_near h0 h1
  rw [rd_some rfl (by omega), ho, nb_some, nv_some] at P
  obtain ⟨m, hm⟩ : ∃ m, v.natAbs = m := ⟨_, rfl⟩
  rw [hm] at hlo hhi
  obtain ⟨N, hN⟩ : ∃ N : Int, N = (n : Int) := ⟨_, rfl⟩
  rw [← hN] at P
  have r := right_r false v
  rw [show rightB false v = true from by show (v != -9223372036854775808) = true; rw [bne_iff_ne]; omega] at r
  have hm64 : m < 18446744073709551616 := by omega
  have hn64 : n < 18446744073709551616 := by omega
  have hp64 : n + 1 < 18446744073709551616 := by omega
  have Rv : IntKind.u64.wrap v = (m : Int) := by rw [show v = (m : Int) from by omega]; exact Mul64.wrapN _ hm64
  have Rn : IntKind.u64.wrap N = (n : Int) := by rw [hN]; exact Mul64.wrapN _ hn64
  have Rp : IntKind.u64.wrap ((n : Int) + 1) = ((n + 1 : Nat) : Int) := Mul64.wrapN (n + 1) hp64
  have M0 := rmul_c m 1000000 hm64 (by decide)
  have M1 := rmul_c n n hn64 hn64
  have M2 := rmul_c (n + 1) (n + 1) hp64 hp64
  have L1 := rless_c (m * 1000000) (n * n) (prod_lt hm64 (by decide)) (prod_lt hn64 hn64)
  have L2 := rless_c (m * 1000000) ((n + 1) * (n + 1)) (prod_lt hm64 (by decide)) (prod_lt hp64 hp64)
  rw [decide_eq_false (Nat.not_lt.2 hlo)] at L1
  rw [decide_eq_true hhi] at L2
  have hN0 : ¬ N < 0 := by omega
  have hv0 : ¬ v < 0 := by omega
  generalize n + 1 = k at *
  have H := Lib.hid P; have R := Lib.hid r; have G0 := Lib.hid M0; have G1 := Lib.hid M1; have G2 := Lib.hid M2; have G3 := Lib.hid L1; have G4 := Lib.hid L2
  clear P r M0 M1 M2 L1 L2 ho hn hlo hhi hm hN hm64 hn64 hp64 h0 h1
  go_enter Try.func11, Try.ntmps11
  go_wp2_with fail
  refine (alive_c _).mono ?_; rintro e w1 ⟨rfl, hb1⟩; obtain ⟨hc1, hf1⟩ := bcell hb1
  have x1 : w.heap.size < w1.heap.size := (by have := hb1.size; simp at this; omega)
  go_wp2_with fail
  refine (H.out _).mono ?_; rintro e w2 ⟨rfl, hb2⟩; obtain ⟨hc2, hf2⟩ := bcell hb2
  have x2 : w.heap.size < w2.heap.size := Nat.lt_of_lt_of_le x1 hb2.size
  go_wp2_with fail
  refine (R.out _).mono ?_; rintro e w3 ⟨rfl, hb3⟩; obtain ⟨hc3, hf3⟩ := bcell hb3
  have x3 : w2.heap.size < w3.heap.size := (by have := hb3.size; simp at this; omega)
  have y3 : w.heap.size < w3.heap.size := by omega
  go_wp2_with fail
  refine (G0.out _).mono ?_; rintro e w4 ⟨rfl, hb4⟩; obtain ⟨hc4, hf4⟩ := bcell hb4
  have HX := Lib.hid (below_next (below_next (below_next (below_box hb1) hb2) (below_box hb3)) hb4)
  clear hc1 hf1 hc2 hf2 hc3 hf3 hc4 hf4 hb1 hb2 hb3 hb4 x1 x2 x3 y3
  go_wp2_with fail
  go_region_held3 (fun y => y.cell? ⟨w4.heap.size, 0, none⟩ = some (.int .u64 (hiOf (m * 1000000) : Nat)) ∧ y.cell? ⟨w4.heap.size, 1, none⟩ = some (.int .u64 (loOf (m * 1000000) : Nat)) ∧ w4.heap.size < y.heap.size)
    (first | go_keep | (refine held1 ?_ (by assumption); assumption))
    (first
      | (go_at_call 41; with_reducible refine (G1.out _).mono ?_; rintro e w5 ⟨rfl, hb5⟩)
      | (go_at_call 41; with_reducible refine (G2.out _).mono ?_; rintro e w7 ⟨rfl, hb7⟩)
      | (go_at_call 44; with_reducible refine (G3.out _).mono ?_; rintro e w6 ⟨rfl, hb6⟩)
      | (go_at_call 44; with_reducible refine (G4.out _).mono ?_; rintro e w8 ⟨rfl, hb8⟩))
  all_goals go_wp2
  all_goals go_ret
  all_goals exact ⟨rfl, below_next (below_next (below_next (below_next HX.out (((Below.refl _ _).alloc (Nat.le_refl _) _).drew.trans (hb5.mono (by simp)))) hb6) hb7) hb8⟩
theorem fixedRoot_c (b : Bool) (v : Int) (h1 : -9223372036854775808 ≤ v ∧ v ≤ 9223372036854775807) (w : World) :
    Calls Try.prog 11 #[.agg #[.bool b, .int .i64 v]] w fun e w' => e = .returned (.bool true) ∧ Below w.heap.size w w' := by
  by_cases h : b = true ∨ v < 0
  · exact fixedRoot_none b v h1 h w
  · obtain rfl : b = false := by cases b with
      | false => rfl
      | true => exact absurd (.inl rfl) h
    exact fixedRoot_some v (by omega) h1.2 w
end Go.Proofs.Ythnokbdkgehiaaa.FW
