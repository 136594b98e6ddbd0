/-
  The statements of layer 2, walked: how near a product is.
-/
import Derived.Test.YthnokbdkgehiaaaFixW
import Derived.Test.YthnokbdkgehiaaaLaws2
set_option linter.unusedSimpArgs false
set_option linter.unusedVariables false
namespace Go.Proofs.Ythnokbdkgehiaaa.FW
open Go.RowKit

theorem size_c (v : Int) (h0 : -9223372036854775808 ≤ v) (h1 : v ≤ 9223372036854775807) (w : World) : Calls Try.prog 42 #[.int .i64 v] w fun e w' => e = .returned (.int .u64 (v.natAbs : Nat)) ∧ w = w' := by
  by_cases h : v < 0
  · by_cases h2 : v = -9223372036854775808
    · subst h2
      go_enter Try.func42, Try.ntmps42
      go_wp2
      go_ret
      exact ⟨ret_u64 (by decide +kernel), rfl⟩
    · go_enter Try.func42, Try.ntmps42
      go_wp2
      go_ret
      exact ⟨ret_u64 (by omega), rfl⟩
  · go_enter Try.func42, Try.ntmps42
    go_wp2
    go_ret
    exact ⟨ret_u64 (by omega), rfl⟩
theorem size_q (v : Int) (n : Nat) (h0 : -9223372036854775808 ≤ v) (h1 : v ≤ 9223372036854775807) (hn : v.natAbs = n) (w : World) : Calls Try.prog 42 #[.int .i64 v] w fun e w' => e = .returned (.int .u64 (n : Nat)) ∧ w = w' := by
  subst hn
  exact size_c v h0 h1 w

set_option maxRecDepth 100000 in
set_option maxHeartbeats 2000000 in
theorem fixedNear_none (b1 b2 : Bool) (v1 v2 : Int) (h1 : -9223372036854775808 ≤ v1 ∧ v1 ≤ 9223372036854775807) (h2 : -9223372036854775808 ≤ v2 ∧ v2 ≤ 9223372036854775807) (g : ¬ ((b1 = false ∧ v1 ≠ -9223372036854775808) ∧ (b2 = false ∧ v2 ≠ -9223372036854775808))) (w : World) :
    Calls Try.prog 9 #[.agg #[.bool b1, .int .i64 v1], .agg #[.bool b2, .int .i64 v2]] w fun e w' => e = .returned (.bool true) ∧ Below w.heap.size w w' := by
  have P := FP.mul_any b1 b2 v1 v2 h1 h2
  have ho : mulO (rd b1 v1) (rd b2 v2) = none := by
    by_cases g1 : b1 = false ∧ v1 ≠ -9223372036854775808
    · have g2 : ¬ (b2 = false ∧ v2 ≠ -9223372036854775808) := fun h => g ⟨g1, h⟩
      rw [rd_none g2]
      cases rd b1 v1 <;> rfl
    · rw [rd_none g1]; rfl
  rw [ho, nb_none, nv_none] at P
  obtain ⟨r1, hr1⟩ : ∃ r, rightB b1 v1 = r := ⟨_, rfl⟩
  obtain ⟨r2, hr2⟩ : ∃ r, rightB b2 v2 = r := ⟨_, rfl⟩
  have q1 := right_r b1 v1; have q2 := right_r b2 v2
  rw [hr1] at q1; rw [hr2] at q2
  have hb : r1 = true → r2 = true → b1 = false → b2 = true := by
    intro e1 e2 e3
    cases b2
    · exfalso
      subst e1 e2 e3
      apply g
      refine ⟨⟨rfl, ?_⟩, rfl, ?_⟩
      · intro e; rw [e] at hr1; exact absurd hr1 (by decide)
      · intro e; rw [e] at hr2; exact absurd hr2 (by decide)
    · rfl
  have H := Lib.hid P; have R1 := Lib.hid q1; have R2 := Lib.hid q2; have HB := Lib.hid hb
  clear P q1 q2 hb hr1 hr2 ho g h1 h2
  go_enter Try.func9, Try.ntmps9
  go_wp2_with fail
  refine (alive_c _).mono ?_; rintro e w1 ⟨rfl, hb1⟩; obtain ⟨hc1, hf1⟩ := bcell hb1
  have z1 : w.heap.size + 1 < w1.heap.size := (by have := hb1.size; simp at this; omega)
  have x1 : w.heap.size < w1.heap.size := by omega
  go_wp2_with fail
  refine (H.out _).mono ?_; rintro e w2 ⟨rfl, hb2⟩; obtain ⟨hc2, hf2⟩ := bcell hb2
  have z2 : w.heap.size + 1 < w2.heap.size := Nat.lt_of_lt_of_le z1 hb2.size
  have x2 : w.heap.size < w2.heap.size := by omega
  have HX := Lib.hid (below_next (FP.below_two hb1) hb2)
  go_wp2_with fail
  refine (R1.out _).mono ?_; rintro e w3 ⟨rfl, hb3⟩; obtain ⟨hc3, hf3⟩ := bcell hb3
  have y3 : w2.heap.size < w3.heap.size := (by have := hb3.size; simp at this; omega)
  have z3 : w.heap.size + 1 < w3.heap.size := by omega
  have x3 : w.heap.size < w3.heap.size := by omega
  have HY := Lib.hid (below_next HX.out (below_box hb3))
  cases r1
  · clear HB
    go_wp2
    go_ret
    exact ⟨rfl, HY.out⟩
  · go_wp2_with fail
    refine (R2.out _).mono ?_; rintro e w4 ⟨rfl, hb4⟩; obtain ⟨hc4, hf4⟩ := bcell hb4
    have y4 : w2.heap.size < w4.heap.size := Nat.lt_of_lt_of_le y3 hb4.size
    have z4 : w.heap.size + 1 < w4.heap.size := by omega
    have x4 : w.heap.size < w4.heap.size := by omega
    have HZ := Lib.hid (below_next HY.out hb4)
    cases r2
    · clear HB
      go_wp2
      go_ret
      exact ⟨rfl, HZ.out⟩
    · cases b1
      · obtain rfl : b2 = true := by simpa using HB.out
        clear HB
        go_wp2
        go_ret
        exact ⟨rfl, HZ.out⟩
      · clear HB
        go_wp2
        go_ret
        exact ⟨rfl, HZ.out⟩

/-- The counts of two numbers lie on behind a call. -/
theorem heldv {x y : World} {a0 a1 : Nat} {q0 q1 : Value} (h : x.cell? ⟨a0, 1, none⟩ = some q0 ∧ x.cell? ⟨a1, 1, none⟩ = some q1)
    (hb : Below x.heap.size x y) : y.cell? ⟨a0, 1, none⟩ = some q0 ∧ y.cell? ⟨a1, 1, none⟩ = some q1 :=
  ⟨(hb.cell (p := ⟨a0, 1, none⟩) (World.block_lt_of_cell? x ⟨a0, 1, none⟩ h.1)).trans h.1, (hb.cell (p := ⟨a1, 1, none⟩) (World.block_lt_of_cell? x ⟨a1, 1, none⟩ h.2)).trans h.2⟩
theorem half_c (L : Nat) (hL : L < M) (w : World) : Calls Try.prog 43 #[.agg #[.int .u64 (hiOf L : Nat), .int .u64 (loOf L : Nat)], .agg #[.int .u64 0, .int .u64 500000]] w fun e w' => e = .returned (.tuple #[.agg #[.int .u64 (hiOf (L + 500000) : Nat), .int .u64 (loOf (L + 500000) : Nat)], .bool (ovf (L + 500000))]) ∧ Below w.heap.size w w' := by
  have k := radd_c L 500000 hL (by decide) w
  rw [show hiOf 500000 = 0 from by decide, show loOf 500000 = 500000 from by decide] at k
  exact k

set_option maxRecDepth 100000 in
set_option maxHeartbeats 2000000 in
theorem fixedNear_some (v1 v2 : Int) (a0 : -9223372036854775807 ≤ v1) (a1 : v1 ≤ 9223372036854775807) (b0 : -9223372036854775807 ≤ v2) (b1 : v2 ≤ 9223372036854775807) (w : World) :
    Calls Try.prog 9 #[.agg #[.bool false, .int .i64 v1], .agg #[.bool false, .int .i64 v2]] w fun e w' => e = .returned (.bool true) ∧ Below w.heap.size w w' := by
  have P := FP.mul_any false false v1 v2 (by omega) (by omega)
  rw [rd_some rfl (by omega), rd_some rfl (by omega)] at P
  have q1 := right_r false v1; have q2 := right_r false v2
  rw [show rightB false v1 = true from by show (v1 != -9223372036854775808) = true; rw [bne_iff_ne]; omega] at q1
  rw [show rightB false v2 = true from by show (v2 != -9223372036854775808) = true; rw [bne_iff_ne]; omega] at q2
  obtain ⟨m, hm⟩ : ∃ m, v1.natAbs = m := ⟨_, rfl⟩
  obtain ⟨n, hn⟩ : ∃ n, v2.natAbs = n := ⟨_, rfl⟩
  have hm64 : m < 18446744073709551616 := by omega
  have hn64 : n < 18446744073709551616 := by omega
  have hE : m * n < M := prod_lt hm64 hn64
  have hNr := mul_near (a := v1) (b := v2) (by rw [hm, hn]; exact hE)
  rw [hm, hn] at hNr
  have s1 := size_q v1 m (by omega) a1 hm; have s2 := size_q v2 n (by omega) b1 hn
  have m1 := rmul_c m n hm64 hn64
  have hEb : m * n ≤ 9223372036854775807 * 9223372036854775807 := Nat.mul_le_mul (by omega) (by omega)
  generalize mulO (some v1) (some v2) = O at *
  generalize m * n = E at *
  have H := Lib.hid P; have R1 := Lib.hid q1; have R2 := Lib.hid q2; have S1 := Lib.hid s1; have S2 := Lib.hid s2; have M1 := Lib.hid m1; have HN := Lib.hid hNr; have HE := Lib.hid hE; have HEb := Lib.hid hEb
  clear P q1 q2 s1 s2 m1 hNr hE hEb hm hn hm64 hn64 a0 a1 b0 b1
  go_enter Try.func9, Try.ntmps9
  go_wp2_with fail
  refine (alive_c _).mono ?_; rintro e w1 ⟨rfl, hb1⟩; obtain ⟨hc1, hf1⟩ := bcell hb1
  have z1 : w.heap.size + 1 < w1.heap.size := (by have := hb1.size; simp at this; omega)
  have x1 : w.heap.size < w1.heap.size := by omega
  go_wp2_with fail
  refine (H.out _).mono ?_; rintro e w2 ⟨rfl, hb2⟩; obtain ⟨hc2, hf2⟩ := bcell hb2
  have z2 : w.heap.size + 1 < w2.heap.size := Nat.lt_of_lt_of_le z1 hb2.size
  have x2 : w.heap.size < w2.heap.size := by omega
  have HX := Lib.hid (below_next (FP.below_two hb1) hb2)
  go_wp2_with fail
  refine (R1.out _).mono ?_; rintro e w3 ⟨rfl, hb3⟩; obtain ⟨hc3, hf3⟩ := bcell hb3
  have y3 : w2.heap.size < w3.heap.size := (by have := hb3.size; simp at this; omega)
  have z3 : w.heap.size + 1 < w3.heap.size := by omega
  have x3 : w.heap.size < w3.heap.size := by omega
  have HY := Lib.hid (below_next HX.out (below_box hb3))
  go_wp2_with fail
  refine (R2.out _).mono ?_; rintro e w4 ⟨rfl, hb4⟩; obtain ⟨hc4, hf4⟩ := bcell hb4
  have y4 : w2.heap.size < w4.heap.size := Nat.lt_of_lt_of_le y3 hb4.size
  have z4 : w.heap.size + 1 < w4.heap.size := by omega
  have x4 : w.heap.size < w4.heap.size := by omega
  have HZ := Lib.hid (below_next HY.out hb4)
  have k0 : w4.cell? ⟨w.heap.size, 1, none⟩ = some (.int .i64 v1) := by go_simp
  have k1 : w4.cell? ⟨w.heap.size + 1, 1, none⟩ = some (.int .i64 v2) := by go_simp
  have k2 : w4.cell? ⟨w2.heap.size, 0, none⟩ = some (.bool (nb O)) := by go_simp
  have k3 : w4.cell? ⟨w2.heap.size, 1, none⟩ = some (.int .i64 (nv O)) := by go_simp
  have k4 : w4.cell? ⟨w.heap.size, 0, none⟩ = some (.bool false) := by go_simp
  have k5 : w4.cell? ⟨w.heap.size + 1, 0, none⟩ = some (.bool false) := by go_simp
  clear hc1 hf1 hc2 hf2 hc3 hf3 hc4 hf4 hb1 hb2 hb3 hb4 HX HY z1 x1 z2 x2 z3 x3 y3
  go_wp2_with fail
  have n1 : w.heap.size ≠ w4.heap.size := by omega
  have n1' : w.heap.size + 1 ≠ w4.heap.size := by omega
  go_cut [6] (fun s wx => ∃ q : Nat, s = .pointer (some ⟨q, 0, none⟩) ∧ wx.cell? ⟨q, 0, none⟩ = some (.int .u64 (hiOf E : Nat)) ∧ wx.cell? ⟨q, 1, none⟩ = some (.int .u64 (loOf E : Nat)) ∧ Below w4.heap.size w4 wx)
  case first =>
    go_region_held3 (fun y => y.cell? ⟨w.heap.size, 1, none⟩ = some (.int .i64 v1) ∧ y.cell? ⟨w.heap.size + 1, 1, none⟩ = some (.int .i64 v2))
      (first | go_keep | assumption | (refine heldv ⟨k0, k1⟩ (below_put T5 ?_ _ _); omega) | (refine heldv ⟨k0, k1⟩ (T5.alloc ?_ _); omega))
      (first
        | (go_at_call_of 42 (v1); refine (S1.out _).mono ?_; rintro e w' ⟨rfl, rfl⟩)
        | (go_at_call_of 42 (v2); refine (S2.out _).mono ?_; rintro e w' ⟨rfl, rfl⟩)
        | (go_at_call 41; refine (M1.out _).mono ?_; rintro e w5 ⟨rfl, hb5⟩; have T5 : Below w4.heap.size w4 w5 := below_next (by first | exact Below.refl _ _ | exact (Below.refl _ _).drew | exact (Below.refl _ _).alloc (Nat.le_refl _) _ | exact ((Below.refl _ _).alloc (Nat.le_refl _) _).drew | exact (Below.refl _ _).drew.alloc (Nat.le_refl _) _) hb5; obtain ⟨hc5, hf5⟩ := bcell hb5; have t5 := T5.size; have u5 : w.heap.size < w5.heap.size := (by omega); have u5' : w.heap.size + 1 < w5.heap.size := (by omega); have n5 : w.heap.size ≠ w5.heap.size := (by omega); have n5' : w.heap.size + 1 ≠ w5.heap.size := (by omega); (try (have r5 : w4.heap.size < w5.heap.size := (by have := hb5.size; simp at this; omega))); have g0 := (T5.cell (p := ⟨w.heap.size, 1, none⟩) x4).trans k0; have g1 := (T5.cell (p := ⟨w.heap.size + 1, 1, none⟩) z4).trans k1))
    all_goals (try go_wp2_with fail)
    all_goals go_meet
    all_goals refine ⟨_, rfl, ?_, ?_, ?_⟩
    all_goals (first | (go_simp; done) | (refine below_put T5 ?_ _ _; omega) | (refine T5.alloc ?_ _; omega))
  case rest =>
    obtain ⟨q, rfl, e0, e1, TE⟩ := hcut
    have g0 := (TE.cell (p := ⟨w.heap.size, 1, none⟩) x4).trans k0
    have g1 := (TE.cell (p := ⟨w.heap.size + 1, 1, none⟩) z4).trans k1
    have g2 := (TE.cell (p := ⟨w2.heap.size, 0, none⟩) y4).trans k2
    have g3 := (TE.cell (p := ⟨w2.heap.size, 1, none⟩) y4).trans k3
    have HW := Lib.hid (below_next HZ.out TE)
    clear TE k0 k1 k2 k3 k4 k5 n1 n1' z4 x4 y4 HZ
    generalize w2.heap.size = p2 at *
    have le := World.block_lt_of_cell? wc ⟨q, 0, none⟩ e0
    have l0 := World.block_lt_of_cell? wc ⟨w.heap.size, 1, none⟩ g0
    have l1 := World.block_lt_of_cell? wc ⟨w.heap.size + 1, 1, none⟩ g1
    have l2 := World.block_lt_of_cell? wc ⟨p2, 0, none⟩ g2
    rcases HN.out with ⟨rfl, hbig⟩ | ⟨p, rfl, hp, hn1, hn2, hsg⟩
    · clear HN
      rw [nb_none] at g2
      obtain ⟨L, hL⟩ : ∃ L, 9223372036854775807 * 1000000 = L := ⟨_, rfl⟩
      have c1 := rmul_c 9223372036854775807 1000000 (by decide) (by decide)
      rw [hL] at c1
      have hLM : L < M := by rw [← hL]; decide
      have c2 := half_c L hLM
      have c3 := rless_c E (L + 500000) HE.out (by rw [← hL]; decide)
      rw [decide_eq_false (by omega : ¬ E < L + 500000)] at c3
      generalize L + 500000 = K at *
      have C1 := Lib.hid c1; have C2 := Lib.hid c2; have C3 := Lib.hid c3
      clear c1 c2 c3 hLM hL hbig
      go_wp2_with fail
      refine (C1.out _).mono ?_; rintro e w6 ⟨rfl, hb6⟩; obtain ⟨hc6, hf6⟩ := bcell hb6
      have l6 : q < w6.heap.size := Nat.lt_of_lt_of_le le hb6.size
      go_wp2_with fail
      refine (C2.out _).mono ?_; rintro e w7 ⟨rfl, hb7⟩; obtain ⟨hc7, hf7⟩ := bcell hb7
      have l7' : w6.heap.size < w7.heap.size := (by have := hb7.size; simp at this; omega)
      have l7 : q < w7.heap.size := by omega
      go_wp2_with fail
      refine (C3.out _).mono ?_; rintro e w8 ⟨rfl, hb8⟩
      go_wp2
      go_ret
      exact ⟨rfl, below_next (below_next (below_next HW.out hb6) (below_box hb7)) (below_box hb8)⟩
    · clear HN
      rw [nb_some] at g2
      rw [nv_some] at g3
      obtain ⟨Z, hZ⟩ : ∃ Z, p.natAbs = Z := ⟨_, rfl⟩
      rw [hZ] at hp hn1 hn2
      have d1 := size_q p Z (by omega) (by omega) hZ
      have d2 := rmul_c Z 1000000 (by omega) (by decide)
      obtain ⟨L, hL⟩ : ∃ L, Z * 1000000 = L := ⟨_, rfl⟩
      rw [hL] at d2 hn1 hn2
      have hM : M = 340282366920938463463374607431768211456 := rfl
      have hLM : L < M := by omega
      have hEb := HEb.out
      have d3 := half_c L hLM
      have d4 := half_c E HE.out
      have d5 := rless_c E (L + 500000) HE.out (by omega)
      have d6 := rless_c (E + 500000) L (by omega) hLM
      rw [decide_eq_true hn1] at d5
      rw [decide_eq_false (by omega : ¬ E + 500000 < L)] at d6
      generalize L + 500000 = K at *
      generalize E + 500000 = B at *
      have D1 := Lib.hid d1; have D2 := Lib.hid d2; have D3 := Lib.hid d3; have D4 := Lib.hid d4; have D5 := Lib.hid d5; have D6 := Lib.hid d6
      have hs : (p == 0) = true ∨ ((p == 0) = false ∧ (decide (p < 0) == !(decide (v1 < 0) == decide (v2 < 0))) = true) := by
        by_cases h : p = 0
        · left; rw [beq_iff_eq]; exact h
        · right
          refine ⟨by rw [beq_eq_false_iff_ne]; exact h, ?_⟩
          rw [beq_iff_eq]
          exact hsg.resolve_left h
      have HS := Lib.hid hs
      clear d1 d2 d3 d4 d5 d6 hs hsg hn1 hn2 hp hZ hL hLM hM hEb
      go_wp2_with fail
      refine (D1.out _).mono ?_; rintro e w' ⟨rfl, rfl⟩
      go_wp2_with fail
      refine (D2.out _).mono ?_; rintro e w6 ⟨rfl, hb6⟩; obtain ⟨hc6, hf6⟩ := bcell hb6
      have i6 : q < w6.heap.size := Nat.lt_of_lt_of_le le hb6.size
      have j6 : w.heap.size < w6.heap.size := Nat.lt_of_lt_of_le l0 hb6.size
      have m6 : w.heap.size + 1 < w6.heap.size := Nat.lt_of_lt_of_le l1 hb6.size
      have o6 : p2 < w6.heap.size := Nat.lt_of_lt_of_le l2 hb6.size
      have HV := Lib.hid (below_next HW.out hb6)
      go_wp2_with fail
      refine (D3.out _).mono ?_; rintro e w7 ⟨rfl, hb7⟩; obtain ⟨hc7, hf7⟩ := bcell hb7
      have r7 : w6.heap.size < w7.heap.size := (by have := hb7.size; simp at this; omega)
      have i7 : q < w7.heap.size := by omega
      have j7 : w.heap.size < w7.heap.size := by omega
      have m7 : w.heap.size + 1 < w7.heap.size := by omega
      have o7 : p2 < w7.heap.size := by omega
      have HU := Lib.hid (below_next HV.out (below_box hb7))
      go_wp2_with fail
      refine (D4.out _).mono ?_; rintro e w8 ⟨rfl, hb8⟩; obtain ⟨hc8, hf8⟩ := bcell hb8
      have s8 : w7.heap.size < w8.heap.size := (by have := hb8.size; simp at this; omega)
      have r8 : w6.heap.size < w8.heap.size := by omega
      have i8 : q < w8.heap.size := by omega
      have j8 : w.heap.size < w8.heap.size := by omega
      have m8 : w.heap.size + 1 < w8.heap.size := by omega
      have o8 : p2 < w8.heap.size := by omega
      have HT := Lib.hid (below_next HU.out (below_box hb8))
      go_wp2_with fail
      refine (D5.out _).mono ?_; rintro e w9 ⟨rfl, hb9⟩; obtain ⟨hc9, hf9⟩ := bcell hb9
      have u9 : w8.heap.size < w9.heap.size := (by have := hb9.size; simp at this; omega)
      have r9 : w6.heap.size < w9.heap.size := by omega
      have j9 : w.heap.size < w9.heap.size := by omega
      have m9 : w.heap.size + 1 < w9.heap.size := by omega
      have o9 : p2 < w9.heap.size := by omega
      have HQ := Lib.hid (below_next HT.out (below_box hb9))
      go_wp2_with fail
      refine (D6.out _).mono ?_; rintro e w10 ⟨rfl, hb10⟩; obtain ⟨hc10, hf10⟩ := bcell hb10
      have c0 : w10.cell? ⟨p2, 1, none⟩ = some (.int .i64 p) := by go_simp
      have c1 : w10.cell? ⟨w.heap.size, 1, none⟩ = some (.int .i64 v1) := by go_simp
      have c2 : w10.cell? ⟨w.heap.size + 1, 1, none⟩ = some (.int .i64 v2) := by go_simp
      have HO := Lib.hid (below_next HQ.out hb10)
      clear hc6 hf6 hc7 hf7 hc8 hf8 hc9 hf9 hc10 hf10 hb6 hb7 hb8 hb9 hb10
      rcases HS.out with hz | ⟨hz, ht⟩
      · go_wp2
        go_ret
        exact ⟨rfl, HO.out⟩
      · go_wp2
        go_ret
        exact ⟨rfl, HO.out⟩
theorem fixedNear_c (b1 b2 : Bool) (v1 v2 : Int) (h1 : -9223372036854775808 ≤ v1 ∧ v1 ≤ 9223372036854775807) (h2 : -9223372036854775808 ≤ v2 ∧ v2 ≤ 9223372036854775807) (w : World) :
    Calls Try.prog 9 #[.agg #[.bool b1, .int .i64 v1], .agg #[.bool b2, .int .i64 v2]] w fun e w' => e = .returned (.bool true) ∧ Below w.heap.size w w' := by
  by_cases g : (b1 = false ∧ v1 ≠ -9223372036854775808) ∧ (b2 = false ∧ v2 ≠ -9223372036854775808)
  · obtain ⟨⟨rfl, k1⟩, rfl, k2⟩ := g
    exact fixedNear_some v1 v2 (by omega) (by omega) (by omega) (by omega) w
  · exact fixedNear_none b1 b2 v1 v2 h1 h2 g w
end Go.Proofs.Ythnokbdkgehiaaa.FW
