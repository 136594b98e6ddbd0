/-
  Walks of the statements of layer 13: the fixed fact, and how many slots are looked at.
-/
import Derived.Test.YtjkdfbalhjmgpaaRinPI
set_option linter.unusedSimpArgs false
set_option linter.unusedVariables false
namespace Go.Proofs.Ytjkdfbalhjmgpaa.IW
open Go.RowKit IP
/-- A variable that holds a ring. -/
theorem ring_new (w : World) (s : Int) (A : Option Addr) (n c : Nat) : ((w.alloc (.cells #[.int .i64 s, .slice A n c] 24)).cell? ⟨w.heap.size, 0, none⟩ = some (.int .i64 s) ∧ (w.alloc (.cells #[.int .i64 s, .slice A n c] 24)).cell? ⟨w.heap.size, 1, none⟩ = some (.slice A n c)) ∧ Below w.heap.size w (w.alloc (.cells #[.int .i64 s, .slice A n c] 24)) := by
  obtain ⟨h0, h1, -, -⟩ := two_new w (.int .i64 s) (.slice A n c) 24
  exact ⟨⟨h0, h1⟩, alloc_below _ _⟩
theorem field_null (b : Bool) (z : Int) (w : World) : (Instr.field 34 (.agg #[.bool b, .int .i64 z]) 0).run Try.prog w = .ok (.bool b) w := by kernel_rfl
theorem great_c (s : Int) (A : Option Addr) (n c : Nat) (w : World) : Calls Try.prog 10 #[.agg #[.int .i64 s, .slice A n c]] w fun e w' => e = .returned (.bool (decide (1000 < n))) ∧ Below w.heap.size w w' := by
  by_cases h : 1000 < n
  · have hi : (1000 : Int) < (n : Int) := by omega
    rw [decide_eq_true h]
    go_enter Try.func10, Try.ntmps10
    go_wp2
    go_ret
    exact ⟨by simp, alloc_below _ _⟩
  · have hi : ¬ (1000 : Int) < (n : Int) := by omega
    rw [decide_eq_false h]
    go_enter Try.func10, Try.ntmps10
    go_wp2
    go_ret
    exact ⟨by simp, alloc_below _ _⟩
def L1 : List (Int × Int) := [(-1, 0), (-1, 0), (20, 5)]
def L2 : List (Int × Int) := [(-1, 0), (-1, 0), (50, 6)]
set_option maxRecDepth 100000 in
theorem l_facts : (newL 10 3 = rNew 3 ∧ newS 10 3 = 10 ∧ newE 10 3 = 0) ∧ (setL 10 (rNew 3) 25 5 = L1 ∧ setE 10 (rNew 3) 25 5 = 0) ∧ (setL 10 L1 50 6 = L2 ∧ setE 10 L1 50 6 = 0) ∧ rGet 10 L1 29 = some 5 ∧ rGet 10 L1 30 = none ∧ rGet 10 L2 25 = none ∧ rGet 10 L2 50 = some 6 := by decide
set_option maxRecDepth 100000 in
set_option maxHeartbeats 2000000 in
theorem alive_c (w : World) : Calls Try.prog 9 #[] w fun e w' => e = .returned (.bool true) ∧ Below w.heap.size w w' := by
  obtain ⟨⟨n1, n2, n3⟩, ⟨s1, s2⟩, ⟨t1, t2⟩, g1, g2, g3, g4⟩ := l_facts
  have NW := new_c 10 3 w
  rw [n1, n2, n3, show (rNew 3).length = 3 from rfl] at NW
  have S1 := fun (v : Value) (W : World) (h : RgOut W v (rNew 3)) => set_c 10 25 5 v (rNew 3) (by decide) W h
  rw [s1, s2, show (rNew 3).length = 3 from rfl] at S1
  have S2 := fun (v : Value) (W : World) (h : RgOut W v L1) => set_c 10 50 6 v L1 (by decide) W h
  rw [t1, t2, show L1.length = 3 from rfl] at S2
  have G1 := fun (v : Value) (W : World) (h : RgOut W v L1) => get_c 10 29 v L1 (by decide) W h
  have G2 := fun (v : Value) (W : World) (h : RgOut W v L1) => get_c 10 30 v L1 (by decide) W h
  have G3 := fun (v : Value) (W : World) (h : RgOut W v L2) => get_c 10 25 v L2 (by decide) W h
  have G4 := fun (v : Value) (W : World) (h : RgOut W v L2) => get_c 10 50 v L2 (by decide) W h
  rw [g1, show (nuC (some 5)).toArray = #[.bool false, .int .i64 5] from rfl] at G1
  rw [g2, show (nuC none).toArray = #[.bool true, .int .i64 0] from rfl] at G2
  rw [g3, show (nuC none).toArray = #[.bool true, .int .i64 0] from rfl] at G3
  rw [g4, show (nuC (some 6)).toArray = #[.bool false, .int .i64 6] from rfl] at G4
  have NW := Lib.hid NW; have S1 := Lib.hid S1; have S2 := Lib.hid S2; have G1 := Lib.hid G1; have G2 := Lib.hid G2; have G3 := Lib.hid G3; have G4 := Lib.hid G4
  have FN := field_null
  clear n1 n2 n3 s1 s2 t1 t2 g1 g2 g3 g4
  go_enter Try.func9, Try.ntmps9
  go_wp2_with fail
  refine NW.out.mono ?_; rintro _ w1 ⟨A1, c1, rfl, h1, hb1⟩
  obtain ⟨⟨k0, k1⟩, hb2⟩ := ring_new w1 10 A1 3 c1
  obtain ⟨w2, hw2⟩ : ∃ w2, w1.alloc (.cells #[.int .i64 10, .slice A1 3 c1] 24) = w2 := ⟨_, rfl⟩
  rw [hw2] at k0 k1 hb2
  have HW2 := Lib.hid hw2
  have B2 := Lib.hid (bnext hb1 hb2)
  have SET1 := Lib.hid (S1.out _ w2 (h1.out.below hb2))
  clear hw2 hb1 hb2 h1
  go_wp2_with fail
  rw [HW2.out]
  refine SET1.out.mono ?_; rintro _ w3 ⟨A3, c3, rfl, h3, hb3⟩
  obtain ⟨⟨k0, k1⟩, hb4⟩ := ring_new w3 10 A3 3 c3
  obtain ⟨w4, hw4⟩ : ∃ w4, w3.alloc (.cells #[.int .i64 10, .slice A3 3 c3] 24) = w4 := ⟨_, rfl⟩
  rw [hw4] at k0 k1 hb4
  have HW4 := Lib.hid hw4
  have B4 := Lib.hid (bnext (bnext B2.out hb3) hb4)
  have OUT4 := Lib.hid (h3.out.below hb4)
  have SET2 := Lib.hid (S2.out _ w4 OUT4.out)
  clear hw4 hb3 hb4 h3
  go_wp2_with fail
  rw [HW4.out]
  refine SET2.out.mono ?_; rintro _ w5 ⟨A5, c5, rfl, h5, hb5⟩
  have k0 := cellb hb5 k0; have k1 := cellb hb5 k1
  have j0 := cellb (alloc_below w5 (.cells #[.int .i64 10, .slice A5 3 c5] 24)) k0
  have j1 := cellb (alloc_below w5 (.cells #[.int .i64 10, .slice A5 3 c5] 24)) k1
  obtain ⟨⟨q0, q1⟩, hb6⟩ := ring_new w5 10 A5 3 c5
  obtain ⟨w6, hw6⟩ : ∃ w6, w5.alloc (.cells #[.int .i64 10, .slice A5 3 c5] 24) = w6 := ⟨_, rfl⟩
  rw [hw6] at q0 q1 hb6
  have k0 := cellb hb6 k0; have k1 := cellb hb6 k1
  have HW6 := Lib.hid hw6
  have B6 := Lib.hid (bnext (bnext B4.out hb5) hb6)
  have OUT6 := Lib.hid (h5.out.below hb6)
  have OUT46 := Lib.hid (OUT4.out.below (bnext hb5 hb6))
  have GET1 := Lib.hid (G1.out _ w6 OUT46.out)
  clear hw6 hb5 hb6 h5
  go_wp2_with fail
  rw [HW6.out]
  clear j0 j1
  refine GET1.out.mono ?_; rintro _ w7 ⟨rfl, hb7⟩
  have k0 := cellb hb7 k0; have k1 := cellb hb7 k1; have q0 := cellb hb7 q0; have q1 := cellb hb7 q1
  have B7 := Lib.hid (bnext B6.out hb7)
  have GET2 := Lib.hid (G2.out _ w7 (OUT46.out.below hb7))
  have OUT7 := Lib.hid (OUT6.out.below hb7)
  clear hb7
  go_wp2_with fail
  refine GET2.out.mono ?_; rintro _ w8 ⟨rfl, hb8⟩
  have q0 := cellb hb8 q0; have q1 := cellb hb8 q1
  have B8 := Lib.hid (bnext B7.out hb8)
  have GET3 := Lib.hid (G3.out _ w8 (OUT7.out.below hb8))
  have OUT8 := Lib.hid (OUT7.out.below hb8)
  clear hb8
  go_wp2_with fail
  refine GET3.out.mono ?_; rintro _ w9 ⟨rfl, hb9⟩
  have q0 := cellb hb9 q0; have q1 := cellb hb9 q1
  have B9 := Lib.hid (bnext B8.out hb9)
  have GET4 := Lib.hid (G4.out _ w9 (OUT8.out.below hb9))
  clear hb9
  go_wp2_with fail
  refine GET4.out.mono ?_; rintro _ w10 ⟨rfl, hb10⟩
  have B10 := Lib.hid (bnext B9.out hb10)
  clear hb10
  go_wp2
  go_ret
  exact ⟨rfl, B10.out⟩
end Go.Proofs.Ytjkdfbalhjmgpaa.IW
