/-
  Contracts of the document's own functions of layer 2, the second part: sums, products and quotients where one is nothing; roots; which is greater.
-/
import Derived.Test.YthnokbdkgehiaaaFixRef
set_option linter.unusedSimpArgs false
set_option linter.unusedVariables false
namespace Go.Proofs.Ythnokbdkgehiaaa.FR
open Go.RowKit

/-- Whether a number counts: what 'is' answers of it. -/
def Is (b : Bool) (v : Int) (p : Bool) : Prop := ∀ W : World, Calls Try.prog 54 #[.agg #[.bool b, .int .i64 v]] W fun e w' => e = .returned (.bool p) ∧ Below W.heap.size W w'
theorem is_any (b : Bool) (v : Int) : Is b v (rd b v).isSome := by
  by_cases h : b = false ∧ v ≠ -9223372036854775808
  · obtain ⟨rfl, hv⟩ := h
    rw [rd_some rfl hv]
    exact is_yes v hv
  · rw [rd_none h]
    exact is_no b v h

/-- A sum: where one of the two is nothing, so is the answer. -/
theorem add_no (b1 b2 : Bool) (v1 v2 : Int) (p q : Bool) (hp : Is b1 v1 p) (hq : Is b2 v2 q) (h : (p && q) = false) (w : World) :
    Calls Try.prog 20 #[.agg #[.bool b1, .int .i64 v1], .agg #[.bool b2, .int .i64 v2]] w fun e w' => e = .returned (.agg #[.bool true, .int .i64 0]) ∧ Below w.heap.size w w' := by
  have HP := Lib.hid hp; have HQ := Lib.hid hq
  clear hp hq
  cases p
  · clear h
    go_enter Try.func20, Try.ntmps20
    go_wp2_with fail
    refine (HP.out _).mono ?_; rintro e w1 ⟨rfl, hb1⟩; obtain ⟨hc1, hf1⟩ := bcell hb1
    have z1 : w.heap.size + 1 + 1 < w1.heap.size := (by have := hb1.size; simp at this; omega)
    go_wp2_with fail
    refine (nothing_c _).mono ?_; rintro e w2 ⟨rfl, hb2⟩; obtain ⟨hc2, hf2⟩ := bcell hb2
    go_wp2
    exact bodyPost_ret (v := .agg #[.bool true, .int .i64 0]) (by simp [results, Try.results20, go_sem, hc1, hf1, hc2, hf2, z1]) rfl ⟨rfl, below_put (below_next (below_three hb1) hb2) (by omega) _ _⟩
  · obtain rfl : q = false := by simpa using h
    clear h
    go_enter Try.func20, Try.ntmps20
    go_wp2_with fail
    refine (HP.out _).mono ?_; rintro e w1 ⟨rfl, hb1⟩; obtain ⟨hc1, hf1⟩ := bcell hb1
    have z1 : w.heap.size + 1 + 1 < w1.heap.size := (by have := hb1.size; simp at this; omega)
    have y1 : w.heap.size + 1 < w1.heap.size := by omega
    have x1 : w.heap.size < w1.heap.size := by omega
    go_wp2_with fail
    refine (HQ.out _).mono ?_; rintro e w2 ⟨rfl, hb2⟩; obtain ⟨hc2, hf2⟩ := bcell hb2
    have z2 : w.heap.size + 1 + 1 < w2.heap.size := Nat.lt_of_lt_of_le z1 hb2.size
    go_wp2_with fail
    refine (nothing_c _).mono ?_; rintro e w3 ⟨rfl, hb3⟩; obtain ⟨hc3, hf3⟩ := bcell hb3
    go_wp2
    exact bodyPost_ret (v := .agg #[.bool true, .int .i64 0]) (by simp [results, Try.results20, go_sem, hc1, hf1, hc2, hf2, hc3, hf3, z1, z2]) rfl ⟨rfl, below_put (below_next (below_next (below_three hb1) hb2) hb3) (by omega) _ _⟩

/-- A product: where one of the two is nothing, so is the answer. -/
theorem mul_no (b1 b2 : Bool) (v1 v2 : Int) (p q : Bool) (hp : Is b1 v1 p) (hq : Is b2 v2 q) (h : (p && q) = false) (w : World) :
    Calls Try.prog 28 #[.agg #[.bool b1, .int .i64 v1], .agg #[.bool b2, .int .i64 v2]] w fun e w' => e = .returned (.agg #[.bool true, .int .i64 0]) ∧ Below w.heap.size w w' := by
  have HP := Lib.hid hp; have HQ := Lib.hid hq
  clear hp hq
  cases p
  · clear h
    go_enter Try.func28, Try.ntmps28
    go_wp2_with fail
    refine (HP.out _).mono ?_; rintro e w1 ⟨rfl, hb1⟩; obtain ⟨hc1, hf1⟩ := bcell hb1
    have z1 : w.heap.size + 1 + 1 < w1.heap.size := (by have := hb1.size; simp at this; omega)
    go_wp2_with fail
    refine (nothing_c _).mono ?_; rintro e w2 ⟨rfl, hb2⟩; obtain ⟨hc2, hf2⟩ := bcell hb2
    go_wp2
    exact bodyPost_ret (v := .agg #[.bool true, .int .i64 0]) (by simp [results, Try.results28, go_sem, hc1, hf1, hc2, hf2, z1]) rfl ⟨rfl, below_put (below_next (below_three hb1) hb2) (by omega) _ _⟩
  · obtain rfl : q = false := by simpa using h
    clear h
    go_enter Try.func28, Try.ntmps28
    go_wp2_with fail
    refine (HP.out _).mono ?_; rintro e w1 ⟨rfl, hb1⟩; obtain ⟨hc1, hf1⟩ := bcell hb1
    have z1 : w.heap.size + 1 + 1 < w1.heap.size := (by have := hb1.size; simp at this; omega)
    have y1 : w.heap.size + 1 < w1.heap.size := by omega
    have x1 : w.heap.size < w1.heap.size := by omega
    go_wp2_with fail
    refine (HQ.out _).mono ?_; rintro e w2 ⟨rfl, hb2⟩; obtain ⟨hc2, hf2⟩ := bcell hb2
    have z2 : w.heap.size + 1 + 1 < w2.heap.size := Nat.lt_of_lt_of_le z1 hb2.size
    go_wp2_with fail
    refine (nothing_c _).mono ?_; rintro e w3 ⟨rfl, hb3⟩; obtain ⟨hc3, hf3⟩ := bcell hb3
    go_wp2
    exact bodyPost_ret (v := .agg #[.bool true, .int .i64 0]) (by simp [results, Try.results28, go_sem, hc1, hf1, hc2, hf2, hc3, hf3, z1, z2]) rfl ⟨rfl, below_put (below_next (below_next (below_three hb1) hb2) hb3) (by omega) _ _⟩

/-- A quotient: where one of the two is nothing, so is the answer. -/
theorem div_no (b1 b2 : Bool) (v1 v2 : Int) (p q : Bool) (hp : Is b1 v1 p) (hq : Is b2 v2 q) (h : (p && q) = false) (w : World) :
    Calls Try.prog 30 #[.agg #[.bool b1, .int .i64 v1], .agg #[.bool b2, .int .i64 v2]] w fun e w' => e = .returned (.agg #[.bool true, .int .i64 0]) ∧ Below w.heap.size w w' := by
  have HP := Lib.hid hp; have HQ := Lib.hid hq
  clear hp hq
  cases p
  · clear h
    go_enter Try.func30, Try.ntmps30
    go_wp2_with fail
    refine (HP.out _).mono ?_; rintro e w1 ⟨rfl, hb1⟩; obtain ⟨hc1, hf1⟩ := bcell hb1
    have z1 : w.heap.size + 1 + 1 < w1.heap.size := (by have := hb1.size; simp at this; omega)
    go_wp2_with fail
    refine (nothing_c _).mono ?_; rintro e w2 ⟨rfl, hb2⟩; obtain ⟨hc2, hf2⟩ := bcell hb2
    go_wp2
    exact bodyPost_ret (v := .agg #[.bool true, .int .i64 0]) (by simp [results, Try.results30, go_sem, hc1, hf1, hc2, hf2, z1]) rfl ⟨rfl, below_put (below_next (below_three hb1) hb2) (by omega) _ _⟩
  · obtain rfl : q = false := by simpa using h
    clear h
    go_enter Try.func30, Try.ntmps30
    go_wp2_with fail
    refine (HP.out _).mono ?_; rintro e w1 ⟨rfl, hb1⟩; obtain ⟨hc1, hf1⟩ := bcell hb1
    have z1 : w.heap.size + 1 + 1 < w1.heap.size := (by have := hb1.size; simp at this; omega)
    have y1 : w.heap.size + 1 < w1.heap.size := by omega
    have x1 : w.heap.size < w1.heap.size := by omega
    go_wp2_with fail
    refine (HQ.out _).mono ?_; rintro e w2 ⟨rfl, hb2⟩; obtain ⟨hc2, hf2⟩ := bcell hb2
    have z2 : w.heap.size + 1 + 1 < w2.heap.size := Nat.lt_of_lt_of_le z1 hb2.size
    go_wp2_with fail
    refine (nothing_c _).mono ?_; rintro e w3 ⟨rfl, hb3⟩; obtain ⟨hc3, hf3⟩ := bcell hb3
    go_wp2
    exact bodyPost_ret (v := .agg #[.bool true, .int .i64 0]) (by simp [results, Try.results30, go_sem, hc1, hf1, hc2, hf2, hc3, hf3, z1, z2]) rfl ⟨rfl, below_put (below_next (below_next (below_three hb1) hb2) hb3) (by omega) _ _⟩


set_option maxHeartbeats 1000000 in
/-- The order of two, whatever they are. -/
theorem cmp_c (b1 b2 : Bool) (v1 v2 : Int) (w : World) :
    Calls Try.prog 36 #[.agg #[.bool b1, .int .i64 v1], .agg #[.bool b2, .int .i64 v2]] w fun e w' => e = .returned (.int .i64 (cmpO (rd b1 v1) (rd b2 v2))) ∧ Below w.heap.size w w' := by
  by_cases h1 : b1 = false ∧ v1 ≠ -9223372036854775808
  · by_cases h2 : b2 = false ∧ v2 ≠ -9223372036854775808
    · have HP := Lib.hid (is_yes v1 h1.2); have HQ := Lib.hid (is_yes v2 h2.2)
      obtain ⟨rfl, g1⟩ := h1
      rw [rd_some rfl g1]
      clear g1
      obtain ⟨rfl, g2⟩ := h2
      rw [rd_some rfl g2]
      clear g2
      by_cases l1 : v1 < v2
      · have ho : cmpO (some v1) (some v2) = -1 := if_pos l1
        rw [ho]
        clear ho
        go_enter Try.func36, Try.ntmps36
        go_wp2_with fail
        refine (HP.out _).mono ?_; rintro e w1 ⟨rfl, hb1⟩; obtain ⟨hc1, hf1⟩ := bcell hb1
        have z1 : w.heap.size + 1 < w1.heap.size := (by have := hb1.size; simp at this; omega)
        have x1 : w.heap.size < w1.heap.size := by omega
        have y1 : w.heap.size + 1 < w1.heap.size := by omega
        go_wp2_with fail
        refine (HP.out _).mono ?_; rintro e w2 ⟨rfl, hb2⟩; obtain ⟨hc2, hf2⟩ := bcell hb2
        have z2 : w.heap.size + 1 < w2.heap.size := Nat.lt_of_lt_of_le z1 hb2.size
        have x2 : w.heap.size < w2.heap.size := by omega
        have y2 : w.heap.size + 1 < w2.heap.size := by omega
        go_wp2_with fail
        refine (HQ.out _).mono ?_; rintro e w3 ⟨rfl, hb3⟩; obtain ⟨hc3, hf3⟩ := bcell hb3
        have z3 : w.heap.size + 1 < w3.heap.size := Nat.lt_of_lt_of_le z2 hb3.size
        have x3 : w.heap.size < w3.heap.size := by omega
        have y3 : w.heap.size + 1 < w3.heap.size := by omega
        go_wp2
        go_ret
        exact ⟨by rfl, (below_next (below_next (below_two hb1) hb2) hb3)⟩
      · by_cases l2 : v2 < v1
        · have ho : cmpO (some v1) (some v2) = 1 := (if_neg l1).trans (if_pos l2)
          rw [ho]
          clear ho
          go_enter Try.func36, Try.ntmps36
          go_wp2_with fail
          refine (HP.out _).mono ?_; rintro e w1 ⟨rfl, hb1⟩; obtain ⟨hc1, hf1⟩ := bcell hb1
          have z1 : w.heap.size + 1 < w1.heap.size := (by have := hb1.size; simp at this; omega)
          have x1 : w.heap.size < w1.heap.size := by omega
          have y1 : w.heap.size + 1 < w1.heap.size := by omega
          go_wp2_with fail
          refine (HP.out _).mono ?_; rintro e w2 ⟨rfl, hb2⟩; obtain ⟨hc2, hf2⟩ := bcell hb2
          have z2 : w.heap.size + 1 < w2.heap.size := Nat.lt_of_lt_of_le z1 hb2.size
          have x2 : w.heap.size < w2.heap.size := by omega
          have y2 : w.heap.size + 1 < w2.heap.size := by omega
          go_wp2_with fail
          refine (HQ.out _).mono ?_; rintro e w3 ⟨rfl, hb3⟩; obtain ⟨hc3, hf3⟩ := bcell hb3
          have z3 : w.heap.size + 1 < w3.heap.size := Nat.lt_of_lt_of_le z2 hb3.size
          have x3 : w.heap.size < w3.heap.size := by omega
          have y3 : w.heap.size + 1 < w3.heap.size := by omega
          go_wp2
          go_ret
          exact ⟨by rfl, (below_next (below_next (below_two hb1) hb2) hb3)⟩
        · have ho : cmpO (some v1) (some v2) = 0 := (if_neg l1).trans (if_neg l2)
          rw [ho]
          clear ho
          go_enter Try.func36, Try.ntmps36
          go_wp2_with fail
          refine (HP.out _).mono ?_; rintro e w1 ⟨rfl, hb1⟩; obtain ⟨hc1, hf1⟩ := bcell hb1
          have z1 : w.heap.size + 1 < w1.heap.size := (by have := hb1.size; simp at this; omega)
          have x1 : w.heap.size < w1.heap.size := by omega
          have y1 : w.heap.size + 1 < w1.heap.size := by omega
          go_wp2_with fail
          refine (HP.out _).mono ?_; rintro e w2 ⟨rfl, hb2⟩; obtain ⟨hc2, hf2⟩ := bcell hb2
          have z2 : w.heap.size + 1 < w2.heap.size := Nat.lt_of_lt_of_le z1 hb2.size
          have x2 : w.heap.size < w2.heap.size := by omega
          have y2 : w.heap.size + 1 < w2.heap.size := by omega
          go_wp2_with fail
          refine (HQ.out _).mono ?_; rintro e w3 ⟨rfl, hb3⟩; obtain ⟨hc3, hf3⟩ := bcell hb3
          have z3 : w.heap.size + 1 < w3.heap.size := Nat.lt_of_lt_of_le z2 hb3.size
          have x3 : w.heap.size < w3.heap.size := by omega
          have y3 : w.heap.size + 1 < w3.heap.size := by omega
          go_wp2
          go_ret
          exact ⟨by rfl, (below_next (below_next (below_two hb1) hb2) hb3)⟩
    · have HP := Lib.hid (is_yes v1 h1.2); have HQ := Lib.hid (is_no b2 v2 h2)
      obtain ⟨rfl, g1⟩ := h1
      rw [rd_some rfl g1]
      clear g1
      rw [rd_none h2]
      clear h2
      go_enter Try.func36, Try.ntmps36
      go_wp2_with fail
      refine (HP.out _).mono ?_; rintro e w1 ⟨rfl, hb1⟩; obtain ⟨hc1, hf1⟩ := bcell hb1
      have z1 : w.heap.size + 1 < w1.heap.size := (by have := hb1.size; simp at this; omega)
      have x1 : w.heap.size < w1.heap.size := by omega
      have y1 : w.heap.size + 1 < w1.heap.size := by omega
      go_wp2_with fail
      refine (HP.out _).mono ?_; rintro e w2 ⟨rfl, hb2⟩; obtain ⟨hc2, hf2⟩ := bcell hb2
      have z2 : w.heap.size + 1 < w2.heap.size := Nat.lt_of_lt_of_le z1 hb2.size
      have x2 : w.heap.size < w2.heap.size := by omega
      have y2 : w.heap.size + 1 < w2.heap.size := by omega
      go_wp2_with fail
      refine (HQ.out _).mono ?_; rintro e w3 ⟨rfl, hb3⟩; obtain ⟨hc3, hf3⟩ := bcell hb3
      have z3 : w.heap.size + 1 < w3.heap.size := Nat.lt_of_lt_of_le z2 hb3.size
      have x3 : w.heap.size < w3.heap.size := by omega
      have y3 : w.heap.size + 1 < w3.heap.size := by omega
      go_wp2
      go_ret
      exact ⟨by rfl, (below_next (below_next (below_two hb1) hb2) hb3)⟩
  · by_cases h2 : b2 = false ∧ v2 ≠ -9223372036854775808
    · have HP := Lib.hid (is_no b1 v1 h1); have HQ := Lib.hid (is_yes v2 h2.2)
      rw [rd_none h1]
      clear h1
      obtain ⟨rfl, g2⟩ := h2
      rw [rd_some rfl g2]
      clear g2
      go_enter Try.func36, Try.ntmps36
      go_wp2_with fail
      refine (HP.out _).mono ?_; rintro e w1 ⟨rfl, hb1⟩; obtain ⟨hc1, hf1⟩ := bcell hb1
      have z1 : w.heap.size + 1 < w1.heap.size := (by have := hb1.size; simp at this; omega)
      have x1 : w.heap.size < w1.heap.size := by omega
      have y1 : w.heap.size + 1 < w1.heap.size := by omega
      go_wp2_with fail
      refine (HQ.out _).mono ?_; rintro e w2 ⟨rfl, hb2⟩; obtain ⟨hc2, hf2⟩ := bcell hb2
      have z2 : w.heap.size + 1 < w2.heap.size := Nat.lt_of_lt_of_le z1 hb2.size
      have x2 : w.heap.size < w2.heap.size := by omega
      have y2 : w.heap.size + 1 < w2.heap.size := by omega
      go_wp2_with fail
      refine (HP.out _).mono ?_; rintro e w3 ⟨rfl, hb3⟩; obtain ⟨hc3, hf3⟩ := bcell hb3
      have z3 : w.heap.size + 1 < w3.heap.size := Nat.lt_of_lt_of_le z2 hb3.size
      have x3 : w.heap.size < w3.heap.size := by omega
      have y3 : w.heap.size + 1 < w3.heap.size := by omega
      go_wp2
      go_ret
      exact ⟨by rfl, (below_next (below_next (below_two hb1) hb2) hb3)⟩
    · have HP := Lib.hid (is_no b1 v1 h1); have HQ := Lib.hid (is_no b2 v2 h2)
      rw [rd_none h1]
      clear h1
      rw [rd_none h2]
      clear h2
      go_enter Try.func36, Try.ntmps36
      go_wp2_with fail
      refine (HP.out _).mono ?_; rintro e w1 ⟨rfl, hb1⟩; obtain ⟨hc1, hf1⟩ := bcell hb1
      have z1 : w.heap.size + 1 < w1.heap.size := (by have := hb1.size; simp at this; omega)
      have x1 : w.heap.size < w1.heap.size := by omega
      have y1 : w.heap.size + 1 < w1.heap.size := by omega
      go_wp2_with fail
      refine (HQ.out _).mono ?_; rintro e w2 ⟨rfl, hb2⟩; obtain ⟨hc2, hf2⟩ := bcell hb2
      have z2 : w.heap.size + 1 < w2.heap.size := Nat.lt_of_lt_of_le z1 hb2.size
      have x2 : w.heap.size < w2.heap.size := by omega
      have y2 : w.heap.size + 1 < w2.heap.size := by omega
      go_wp2
      go_ret
      exact ⟨by rfl, (below_next (below_two hb1) hb2)⟩

set_option maxHeartbeats 1000000 in
/-- The lesser of two, whatever they are. -/
theorem less_c (b1 b2 : Bool) (v1 v2 : Int) (w : World) :
    Calls Try.prog 38 #[.agg #[.bool b1, .int .i64 v1], .agg #[.bool b2, .int .i64 v2]] w fun e w' => e = .returned (.agg #[.bool (nb (lessO (rd b1 v1) (rd b2 v2))), .int .i64 (nv (lessO (rd b1 v1) (rd b2 v2)))]) ∧ Below w.heap.size w w' := by
  by_cases h1 : b1 = false ∧ v1 ≠ -9223372036854775808
  · by_cases h2 : b2 = false ∧ v2 ≠ -9223372036854775808
    · have HP := Lib.hid (is_yes v1 h1.2); have HQ := Lib.hid (is_yes v2 h2.2)
      obtain ⟨rfl, g1⟩ := h1
      rw [rd_some rfl g1]
      clear g1
      obtain ⟨rfl, g2⟩ := h2
      rw [rd_some rfl g2]
      clear g2
      by_cases l1 : v1 ≤ v2
      · have ho : lessO (some v1) (some v2) = some v1 := if_pos l1
        rw [ho]
        clear ho
        go_enter Try.func38, Try.ntmps38
        go_wp2_with fail
        refine (HP.out _).mono ?_; rintro e w1 ⟨rfl, hb1⟩; obtain ⟨hc1, hf1⟩ := bcell hb1
        have z1 : w.heap.size + 2 < w1.heap.size := (by have := hb1.size; simp at this; omega)
        have x1 : w.heap.size < w1.heap.size := by omega
        have y1 : w.heap.size + 1 < w1.heap.size := by omega
        have u1 : w.heap.size + 1 + 1 < w1.heap.size := by omega
        go_wp2_with fail
        refine (HP.out _).mono ?_; rintro e w2 ⟨rfl, hb2⟩; obtain ⟨hc2, hf2⟩ := bcell hb2
        have z2 : w.heap.size + 2 < w2.heap.size := Nat.lt_of_lt_of_le z1 hb2.size
        have x2 : w.heap.size < w2.heap.size := by omega
        have y2 : w.heap.size + 1 < w2.heap.size := by omega
        have u2 : w.heap.size + 1 + 1 < w2.heap.size := by omega
        go_wp2_with fail
        refine (HQ.out _).mono ?_; rintro e w3 ⟨rfl, hb3⟩; obtain ⟨hc3, hf3⟩ := bcell hb3
        have z3 : w.heap.size + 2 < w3.heap.size := Nat.lt_of_lt_of_le z2 hb3.size
        have x3 : w.heap.size < w3.heap.size := by omega
        have y3 : w.heap.size + 1 < w3.heap.size := by omega
        have u3 : w.heap.size + 1 + 1 < w3.heap.size := by omega
        go_wp2
        refine bodyPost_ret (v := .agg #[.bool false, .int .i64 v1]) (by simp [results, Try.results38, go_sem, hc1, hf1, z1, x1, y1, hc2, hf2, z2, x2, y2, hc3, hf3, z3, x3, y3, u1, u2, u3]) rfl ⟨?_, below_put (below_next (below_next (below_three hb1) hb2) hb3) (by omega) _ _⟩
        rfl
      · have ho : lessO (some v1) (some v2) = some v2 := if_neg l1
        rw [ho]
        clear ho
        go_enter Try.func38, Try.ntmps38
        go_wp2_with fail
        refine (HP.out _).mono ?_; rintro e w1 ⟨rfl, hb1⟩; obtain ⟨hc1, hf1⟩ := bcell hb1
        have z1 : w.heap.size + 2 < w1.heap.size := (by have := hb1.size; simp at this; omega)
        have x1 : w.heap.size < w1.heap.size := by omega
        have y1 : w.heap.size + 1 < w1.heap.size := by omega
        have u1 : w.heap.size + 1 + 1 < w1.heap.size := by omega
        go_wp2_with fail
        refine (HP.out _).mono ?_; rintro e w2 ⟨rfl, hb2⟩; obtain ⟨hc2, hf2⟩ := bcell hb2
        have z2 : w.heap.size + 2 < w2.heap.size := Nat.lt_of_lt_of_le z1 hb2.size
        have x2 : w.heap.size < w2.heap.size := by omega
        have y2 : w.heap.size + 1 < w2.heap.size := by omega
        have u2 : w.heap.size + 1 + 1 < w2.heap.size := by omega
        go_wp2_with fail
        refine (HQ.out _).mono ?_; rintro e w3 ⟨rfl, hb3⟩; obtain ⟨hc3, hf3⟩ := bcell hb3
        have z3 : w.heap.size + 2 < w3.heap.size := Nat.lt_of_lt_of_le z2 hb3.size
        have x3 : w.heap.size < w3.heap.size := by omega
        have y3 : w.heap.size + 1 < w3.heap.size := by omega
        have u3 : w.heap.size + 1 + 1 < w3.heap.size := by omega
        go_wp2
        refine bodyPost_ret (v := .agg #[.bool false, .int .i64 v2]) (by simp [results, Try.results38, go_sem, hc1, hf1, z1, x1, y1, hc2, hf2, z2, x2, y2, hc3, hf3, z3, x3, y3, u1, u2, u3]) rfl ⟨?_, below_put (below_next (below_next (below_three hb1) hb2) hb3) (by omega) _ _⟩
        rfl
    · have HP := Lib.hid (is_yes v1 h1.2); have HQ := Lib.hid (is_no b2 v2 h2)
      obtain ⟨rfl, g1⟩ := h1
      rw [rd_some rfl g1]
      clear g1
      rw [rd_none h2]
      clear h2
      go_enter Try.func38, Try.ntmps38
      go_wp2_with fail
      refine (HP.out _).mono ?_; rintro e w1 ⟨rfl, hb1⟩; obtain ⟨hc1, hf1⟩ := bcell hb1
      have z1 : w.heap.size + 2 < w1.heap.size := (by have := hb1.size; simp at this; omega)
      have x1 : w.heap.size < w1.heap.size := by omega
      have y1 : w.heap.size + 1 < w1.heap.size := by omega
      have u1 : w.heap.size + 1 + 1 < w1.heap.size := by omega
      go_wp2_with fail
      refine (HP.out _).mono ?_; rintro e w2 ⟨rfl, hb2⟩; obtain ⟨hc2, hf2⟩ := bcell hb2
      have z2 : w.heap.size + 2 < w2.heap.size := Nat.lt_of_lt_of_le z1 hb2.size
      have x2 : w.heap.size < w2.heap.size := by omega
      have y2 : w.heap.size + 1 < w2.heap.size := by omega
      have u2 : w.heap.size + 1 + 1 < w2.heap.size := by omega
      go_wp2_with fail
      refine (HQ.out _).mono ?_; rintro e w3 ⟨rfl, hb3⟩; obtain ⟨hc3, hf3⟩ := bcell hb3
      have z3 : w.heap.size + 2 < w3.heap.size := Nat.lt_of_lt_of_le z2 hb3.size
      have x3 : w.heap.size < w3.heap.size := by omega
      have y3 : w.heap.size + 1 < w3.heap.size := by omega
      have u3 : w.heap.size + 1 + 1 < w3.heap.size := by omega
      go_wp2
      refine bodyPost_ret (v := .agg #[.bool false, .int .i64 v1]) (by simp [results, Try.results38, go_sem, hc1, hf1, z1, x1, y1, hc2, hf2, z2, x2, y2, hc3, hf3, z3, x3, y3, u1, u2, u3]) rfl ⟨?_, below_put (below_next (below_next (below_three hb1) hb2) hb3) (by omega) _ _⟩
      rfl
  · by_cases h2 : b2 = false ∧ v2 ≠ -9223372036854775808
    · have HP := Lib.hid (is_no b1 v1 h1); have HQ := Lib.hid (is_yes v2 h2.2)
      rw [rd_none h1]
      clear h1
      obtain ⟨rfl, g2⟩ := h2
      rw [rd_some rfl g2]
      clear g2
      go_enter Try.func38, Try.ntmps38
      go_wp2_with fail
      refine (HP.out _).mono ?_; rintro e w1 ⟨rfl, hb1⟩; obtain ⟨hc1, hf1⟩ := bcell hb1
      have z1 : w.heap.size + 2 < w1.heap.size := (by have := hb1.size; simp at this; omega)
      have x1 : w.heap.size < w1.heap.size := by omega
      have y1 : w.heap.size + 1 < w1.heap.size := by omega
      have u1 : w.heap.size + 1 + 1 < w1.heap.size := by omega
      go_wp2_with fail
      refine (HQ.out _).mono ?_; rintro e w2 ⟨rfl, hb2⟩; obtain ⟨hc2, hf2⟩ := bcell hb2
      have z2 : w.heap.size + 2 < w2.heap.size := Nat.lt_of_lt_of_le z1 hb2.size
      have x2 : w.heap.size < w2.heap.size := by omega
      have y2 : w.heap.size + 1 < w2.heap.size := by omega
      have u2 : w.heap.size + 1 + 1 < w2.heap.size := by omega
      go_wp2_with fail
      refine (HP.out _).mono ?_; rintro e w3 ⟨rfl, hb3⟩; obtain ⟨hc3, hf3⟩ := bcell hb3
      have z3 : w.heap.size + 2 < w3.heap.size := Nat.lt_of_lt_of_le z2 hb3.size
      have x3 : w.heap.size < w3.heap.size := by omega
      have y3 : w.heap.size + 1 < w3.heap.size := by omega
      have u3 : w.heap.size + 1 + 1 < w3.heap.size := by omega
      go_wp2
      refine bodyPost_ret (v := .agg #[.bool false, .int .i64 v2]) (by simp [results, Try.results38, go_sem, hc1, hf1, z1, x1, y1, hc2, hf2, z2, x2, y2, hc3, hf3, z3, x3, y3, u1, u2, u3]) rfl ⟨?_, below_put (below_next (below_next (below_three hb1) hb2) hb3) (by omega) _ _⟩
      rfl
    · have HP := Lib.hid (is_no b1 v1 h1); have HQ := Lib.hid (is_no b2 v2 h2)
      rw [rd_none h1]
      clear h1
      rw [rd_none h2]
      clear h2
      go_enter Try.func38, Try.ntmps38
      go_wp2_with fail
      refine (HP.out _).mono ?_; rintro e w1 ⟨rfl, hb1⟩; obtain ⟨hc1, hf1⟩ := bcell hb1
      have z1 : w.heap.size + 2 < w1.heap.size := (by have := hb1.size; simp at this; omega)
      have x1 : w.heap.size < w1.heap.size := by omega
      have y1 : w.heap.size + 1 < w1.heap.size := by omega
      have u1 : w.heap.size + 1 + 1 < w1.heap.size := by omega
      go_wp2_with fail
      refine (HQ.out _).mono ?_; rintro e w2 ⟨rfl, hb2⟩; obtain ⟨hc2, hf2⟩ := bcell hb2
      have z2 : w.heap.size + 2 < w2.heap.size := Nat.lt_of_lt_of_le z1 hb2.size
      have x2 : w.heap.size < w2.heap.size := by omega
      have y2 : w.heap.size + 1 < w2.heap.size := by omega
      have u2 : w.heap.size + 1 + 1 < w2.heap.size := by omega
      go_wp2_with fail
      refine (nothing_c _).mono ?_; rintro e w3 ⟨rfl, hb3⟩; obtain ⟨hc3, hf3⟩ := bcell hb3
      have z3 : w.heap.size + 2 < w3.heap.size := Nat.lt_of_lt_of_le z2 hb3.size
      have x3 : w.heap.size < w3.heap.size := by omega
      have y3 : w.heap.size + 1 < w3.heap.size := by omega
      have u3 : w.heap.size + 1 + 1 < w3.heap.size := by omega
      go_wp2
      refine bodyPost_ret (v := .agg #[.bool true, .int .i64 0]) (by simp [results, Try.results38, go_sem, hc1, hf1, z1, x1, y1, hc2, hf2, z2, x2, y2, hc3, hf3, z3, x3, y3, u1, u2, u3]) rfl ⟨?_, below_put (below_next (below_next (below_three hb1) hb2) hb3) (by omega) _ _⟩
      rfl

set_option maxHeartbeats 1000000 in
/-- The greater of two, whatever they are. -/
theorem more_c (b1 b2 : Bool) (v1 v2 : Int) (w : World) :
    Calls Try.prog 40 #[.agg #[.bool b1, .int .i64 v1], .agg #[.bool b2, .int .i64 v2]] w fun e w' => e = .returned (.agg #[.bool (nb (moreO (rd b1 v1) (rd b2 v2))), .int .i64 (nv (moreO (rd b1 v1) (rd b2 v2)))]) ∧ Below w.heap.size w w' := by
  by_cases h1 : b1 = false ∧ v1 ≠ -9223372036854775808
  · by_cases h2 : b2 = false ∧ v2 ≠ -9223372036854775808
    · have HP := Lib.hid (is_yes v1 h1.2); have HQ := Lib.hid (is_yes v2 h2.2)
      obtain ⟨rfl, g1⟩ := h1
      rw [rd_some rfl g1]
      clear g1
      obtain ⟨rfl, g2⟩ := h2
      rw [rd_some rfl g2]
      clear g2
      by_cases l1 : v2 ≤ v1
      · have ho : moreO (some v1) (some v2) = some v1 := if_pos l1
        rw [ho]
        clear ho
        go_enter Try.func40, Try.ntmps40
        go_wp2_with fail
        refine (HP.out _).mono ?_; rintro e w1 ⟨rfl, hb1⟩; obtain ⟨hc1, hf1⟩ := bcell hb1
        have z1 : w.heap.size + 2 < w1.heap.size := (by have := hb1.size; simp at this; omega)
        have x1 : w.heap.size < w1.heap.size := by omega
        have y1 : w.heap.size + 1 < w1.heap.size := by omega
        have u1 : w.heap.size + 1 + 1 < w1.heap.size := by omega
        go_wp2_with fail
        refine (HP.out _).mono ?_; rintro e w2 ⟨rfl, hb2⟩; obtain ⟨hc2, hf2⟩ := bcell hb2
        have z2 : w.heap.size + 2 < w2.heap.size := Nat.lt_of_lt_of_le z1 hb2.size
        have x2 : w.heap.size < w2.heap.size := by omega
        have y2 : w.heap.size + 1 < w2.heap.size := by omega
        have u2 : w.heap.size + 1 + 1 < w2.heap.size := by omega
        go_wp2_with fail
        refine (HQ.out _).mono ?_; rintro e w3 ⟨rfl, hb3⟩; obtain ⟨hc3, hf3⟩ := bcell hb3
        have z3 : w.heap.size + 2 < w3.heap.size := Nat.lt_of_lt_of_le z2 hb3.size
        have x3 : w.heap.size < w3.heap.size := by omega
        have y3 : w.heap.size + 1 < w3.heap.size := by omega
        have u3 : w.heap.size + 1 + 1 < w3.heap.size := by omega
        go_wp2
        refine bodyPost_ret (v := .agg #[.bool false, .int .i64 v1]) (by simp [results, Try.results40, go_sem, hc1, hf1, z1, x1, y1, hc2, hf2, z2, x2, y2, hc3, hf3, z3, x3, y3, u1, u2, u3]) rfl ⟨?_, below_put (below_next (below_next (below_three hb1) hb2) hb3) (by omega) _ _⟩
        rfl
      · have ho : moreO (some v1) (some v2) = some v2 := if_neg l1
        rw [ho]
        clear ho
        go_enter Try.func40, Try.ntmps40
        go_wp2_with fail
        refine (HP.out _).mono ?_; rintro e w1 ⟨rfl, hb1⟩; obtain ⟨hc1, hf1⟩ := bcell hb1
        have z1 : w.heap.size + 2 < w1.heap.size := (by have := hb1.size; simp at this; omega)
        have x1 : w.heap.size < w1.heap.size := by omega
        have y1 : w.heap.size + 1 < w1.heap.size := by omega
        have u1 : w.heap.size + 1 + 1 < w1.heap.size := by omega
        go_wp2_with fail
        refine (HP.out _).mono ?_; rintro e w2 ⟨rfl, hb2⟩; obtain ⟨hc2, hf2⟩ := bcell hb2
        have z2 : w.heap.size + 2 < w2.heap.size := Nat.lt_of_lt_of_le z1 hb2.size
        have x2 : w.heap.size < w2.heap.size := by omega
        have y2 : w.heap.size + 1 < w2.heap.size := by omega
        have u2 : w.heap.size + 1 + 1 < w2.heap.size := by omega
        go_wp2_with fail
        refine (HQ.out _).mono ?_; rintro e w3 ⟨rfl, hb3⟩; obtain ⟨hc3, hf3⟩ := bcell hb3
        have z3 : w.heap.size + 2 < w3.heap.size := Nat.lt_of_lt_of_le z2 hb3.size
        have x3 : w.heap.size < w3.heap.size := by omega
        have y3 : w.heap.size + 1 < w3.heap.size := by omega
        have u3 : w.heap.size + 1 + 1 < w3.heap.size := by omega
        go_wp2
        refine bodyPost_ret (v := .agg #[.bool false, .int .i64 v2]) (by simp [results, Try.results40, go_sem, hc1, hf1, z1, x1, y1, hc2, hf2, z2, x2, y2, hc3, hf3, z3, x3, y3, u1, u2, u3]) rfl ⟨?_, below_put (below_next (below_next (below_three hb1) hb2) hb3) (by omega) _ _⟩
        rfl
    · have HP := Lib.hid (is_yes v1 h1.2); have HQ := Lib.hid (is_no b2 v2 h2)
      obtain ⟨rfl, g1⟩ := h1
      rw [rd_some rfl g1]
      clear g1
      rw [rd_none h2]
      clear h2
      go_enter Try.func40, Try.ntmps40
      go_wp2_with fail
      refine (HP.out _).mono ?_; rintro e w1 ⟨rfl, hb1⟩; obtain ⟨hc1, hf1⟩ := bcell hb1
      have z1 : w.heap.size + 2 < w1.heap.size := (by have := hb1.size; simp at this; omega)
      have x1 : w.heap.size < w1.heap.size := by omega
      have y1 : w.heap.size + 1 < w1.heap.size := by omega
      have u1 : w.heap.size + 1 + 1 < w1.heap.size := by omega
      go_wp2_with fail
      refine (HP.out _).mono ?_; rintro e w2 ⟨rfl, hb2⟩; obtain ⟨hc2, hf2⟩ := bcell hb2
      have z2 : w.heap.size + 2 < w2.heap.size := Nat.lt_of_lt_of_le z1 hb2.size
      have x2 : w.heap.size < w2.heap.size := by omega
      have y2 : w.heap.size + 1 < w2.heap.size := by omega
      have u2 : w.heap.size + 1 + 1 < w2.heap.size := by omega
      go_wp2_with fail
      refine (HQ.out _).mono ?_; rintro e w3 ⟨rfl, hb3⟩; obtain ⟨hc3, hf3⟩ := bcell hb3
      have z3 : w.heap.size + 2 < w3.heap.size := Nat.lt_of_lt_of_le z2 hb3.size
      have x3 : w.heap.size < w3.heap.size := by omega
      have y3 : w.heap.size + 1 < w3.heap.size := by omega
      have u3 : w.heap.size + 1 + 1 < w3.heap.size := by omega
      go_wp2
      refine bodyPost_ret (v := .agg #[.bool false, .int .i64 v1]) (by simp [results, Try.results40, go_sem, hc1, hf1, z1, x1, y1, hc2, hf2, z2, x2, y2, hc3, hf3, z3, x3, y3, u1, u2, u3]) rfl ⟨?_, below_put (below_next (below_next (below_three hb1) hb2) hb3) (by omega) _ _⟩
      rfl
  · by_cases h2 : b2 = false ∧ v2 ≠ -9223372036854775808
    · have HP := Lib.hid (is_no b1 v1 h1); have HQ := Lib.hid (is_yes v2 h2.2)
      rw [rd_none h1]
      clear h1
      obtain ⟨rfl, g2⟩ := h2
      rw [rd_some rfl g2]
      clear g2
      go_enter Try.func40, Try.ntmps40
      go_wp2_with fail
      refine (HP.out _).mono ?_; rintro e w1 ⟨rfl, hb1⟩; obtain ⟨hc1, hf1⟩ := bcell hb1
      have z1 : w.heap.size + 2 < w1.heap.size := (by have := hb1.size; simp at this; omega)
      have x1 : w.heap.size < w1.heap.size := by omega
      have y1 : w.heap.size + 1 < w1.heap.size := by omega
      have u1 : w.heap.size + 1 + 1 < w1.heap.size := by omega
      go_wp2_with fail
      refine (HQ.out _).mono ?_; rintro e w2 ⟨rfl, hb2⟩; obtain ⟨hc2, hf2⟩ := bcell hb2
      have z2 : w.heap.size + 2 < w2.heap.size := Nat.lt_of_lt_of_le z1 hb2.size
      have x2 : w.heap.size < w2.heap.size := by omega
      have y2 : w.heap.size + 1 < w2.heap.size := by omega
      have u2 : w.heap.size + 1 + 1 < w2.heap.size := by omega
      go_wp2_with fail
      refine (HP.out _).mono ?_; rintro e w3 ⟨rfl, hb3⟩; obtain ⟨hc3, hf3⟩ := bcell hb3
      have z3 : w.heap.size + 2 < w3.heap.size := Nat.lt_of_lt_of_le z2 hb3.size
      have x3 : w.heap.size < w3.heap.size := by omega
      have y3 : w.heap.size + 1 < w3.heap.size := by omega
      have u3 : w.heap.size + 1 + 1 < w3.heap.size := by omega
      go_wp2
      refine bodyPost_ret (v := .agg #[.bool false, .int .i64 v2]) (by simp [results, Try.results40, go_sem, hc1, hf1, z1, x1, y1, hc2, hf2, z2, x2, y2, hc3, hf3, z3, x3, y3, u1, u2, u3]) rfl ⟨?_, below_put (below_next (below_next (below_three hb1) hb2) hb3) (by omega) _ _⟩
      rfl
    · have HP := Lib.hid (is_no b1 v1 h1); have HQ := Lib.hid (is_no b2 v2 h2)
      rw [rd_none h1]
      clear h1
      rw [rd_none h2]
      clear h2
      go_enter Try.func40, Try.ntmps40
      go_wp2_with fail
      refine (HP.out _).mono ?_; rintro e w1 ⟨rfl, hb1⟩; obtain ⟨hc1, hf1⟩ := bcell hb1
      have z1 : w.heap.size + 2 < w1.heap.size := (by have := hb1.size; simp at this; omega)
      have x1 : w.heap.size < w1.heap.size := by omega
      have y1 : w.heap.size + 1 < w1.heap.size := by omega
      have u1 : w.heap.size + 1 + 1 < w1.heap.size := by omega
      go_wp2_with fail
      refine (HQ.out _).mono ?_; rintro e w2 ⟨rfl, hb2⟩; obtain ⟨hc2, hf2⟩ := bcell hb2
      have z2 : w.heap.size + 2 < w2.heap.size := Nat.lt_of_lt_of_le z1 hb2.size
      have x2 : w.heap.size < w2.heap.size := by omega
      have y2 : w.heap.size + 1 < w2.heap.size := by omega
      have u2 : w.heap.size + 1 + 1 < w2.heap.size := by omega
      go_wp2_with fail
      refine (nothing_c _).mono ?_; rintro e w3 ⟨rfl, hb3⟩; obtain ⟨hc3, hf3⟩ := bcell hb3
      have z3 : w.heap.size + 2 < w3.heap.size := Nat.lt_of_lt_of_le z2 hb3.size
      have x3 : w.heap.size < w3.heap.size := by omega
      have y3 : w.heap.size + 1 < w3.heap.size := by omega
      have u3 : w.heap.size + 1 + 1 < w3.heap.size := by omega
      go_wp2
      refine bodyPost_ret (v := .agg #[.bool true, .int .i64 0]) (by simp [results, Try.results40, go_sem, hc1, hf1, z1, x1, y1, hc2, hf2, z2, x2, y2, hc3, hf3, z3, x3, y3, u1, u2, u3]) rfl ⟨?_, below_put (below_next (below_next (below_three hb1) hb2) hb3) (by omega) _ _⟩
      rfl
end Go.Proofs.Ythnokbdkgehiaaa.FR
