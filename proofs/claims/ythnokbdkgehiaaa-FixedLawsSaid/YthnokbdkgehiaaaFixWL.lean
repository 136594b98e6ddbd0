/-
  The statements of layer 2, walked: laws of sums, products and quotients.
-/
import Derived.Test.YthnokbdkgehiaaaFixW
import Derived.Test.YthnokbdkgehiaaaLaws2
set_option linter.unusedSimpArgs false
set_option linter.unusedVariables false
namespace Go.Proofs.Ythnokbdkgehiaaa.FW
open Go.RowKit

theorem sum_in (x y : Option Int) : inR (addO x y) := by
  intro t ht
  cases x with
  | none => simp [addO] at ht
  | some a => cases y with
    | none => simp [addO] at ht
    | some b =>
      have h : lim (a + b) = some t := ht
      unfold lim at h
      split at h
      · have e : a + b = t := by simpa using h
        omega
      · simp at h
theorem neg_laid (x y : Option Int) (w : World) :
    Calls Try.prog 23 #[.agg #[.bool (nb (subO y x)), .int .i64 (nv (subO y x))]] w fun e w' => e = .returned (.agg #[.bool (nb (subO x y)), .int .i64 (nv (subO x y))]) ∧ Below w.heap.size w w' := by
  have k := FP.neg_any (nb (subO y x)) (nv (subO y x)) (FP.nv_in (sum_in y (negO x))) w
  rw [FP.rd_back (subO y x) (sum_in y (negO x)), ← subO_anti] at k
  exact k

set_option maxRecDepth 100000 in
set_option maxHeartbeats 2000000 in
theorem fixedLaws_none (b1 b2 : Bool) (v1 v2 : Int) (h1 : -9223372036854775808 ≤ v1 ∧ v1 ≤ 9223372036854775807) (h2 : -9223372036854775808 ≤ v2 ∧ v2 ≤ 9223372036854775807) (g : ¬ (b1 = false ∧ v1 ≠ -9223372036854775808)) (w : World) :
    Calls Try.prog 8 #[.agg #[.bool b1, .int .i64 v1], .agg #[.bool b2, .int .i64 v2]] w fun e w' => e = .returned (.bool true) ∧ Below w.heap.size w w' := by
  have P1 := FP.add_any b1 b2 v1 v2 h1 h2
  have P2 := FP.add_any b2 b1 v2 v1 h2 h1
  rw [addO_comm (rd b2 v2)] at P2
  have P3 := FP.mul_any b1 b2 v1 v2 h1 h2
  have P4 := FP.mul_any b2 b1 v2 v1 h2 h1
  rw [mulO_comm (rd b2 v2)] at P4
  have P5 := FP.sub_any b1 b2 v1 v2 h1 h2
  have P6 := FP.sub_any b2 b1 v2 v1 h2 h1
  have P7 := neg_laid (rd b1 v1) (rd b2 v2)
  have P8 := FP.mul_any b1 false v1 1000000 h1 (by decide)
  obtain ⟨z, hz⟩ : ∃ z, rightB b1 v1 = z := ⟨_, rfl⟩
  have rr := right_r b1 v1
  rw [hz] at rr
  have hzb : z = false ∨ b1 = true := by
    cases b1
    · left
      rw [← hz]
      have e : v1 = -9223372036854775808 := Decidable.byContradiction fun hne => g ⟨rfl, hne⟩
      rw [e]; decide
    · exact .inr rfl
  rw [rd_none g] at *
  rw [show addO none (rd b2 v2) = none from rfl, nb_none, nv_none] at P1 P2
  rw [show mulO none (rd b2 v2) = none from rfl, nb_none, nv_none] at P3 P4
  rw [show subO none (rd b2 v2) = none from rfl, nb_none, nv_none] at P5 P7
  rw [show mulO none (rd false 1000000) = none from rfl, nb_none, nv_none] at P8
  generalize subO (rd b2 v2) none = E at *
  have hfd : ∀ w : World, (Instr.field 23 (.agg #[.bool true, .int .i64 0]) 0).run Try.prog w = .ok (.bool true) w := fun _ => by kernel_rfl
  have A1 := Lib.hid P1; have A2 := Lib.hid P2; have A3 := Lib.hid P3; have A4 := Lib.hid P4; have A5 := Lib.hid P5; have A6 := Lib.hid P6; have A7 := Lib.hid P7; have A8 := Lib.hid P8; have R := Lib.hid rr; have HB := Lib.hid hzb
  clear P1 P2 P3 P4 P5 P6 P7 P8 rr hzb hz g h1 h2
  go_enter Try.func8, Try.ntmps8
  go_wp2_with fail
  refine (alive_c _).mono ?_; rintro e w1 ⟨rfl, hb1⟩; obtain ⟨hc1, hf1⟩ := bcell hb1
  have z1 : w.heap.size + 1 < w1.heap.size := (by have := hb1.size; simp at this; omega)
  have x1 : w.heap.size < w1.heap.size := by omega
  go_wp2_with fail
  refine (al_one _).mono ?_; rintro e w2 ⟨rfl, hb2⟩; obtain ⟨hc2, hf2⟩ := bcell hb2
  have z2 : w.heap.size + 1 < w2.heap.size := Nat.lt_of_lt_of_le z1 hb2.size
  have x2 : w.heap.size < w2.heap.size := by omega
  have HX := Lib.hid (below_next (FP.below_two hb1) hb2)
  go_wp2_with fail
  have K0 : (w2.alloc (.cells #[.bool false, .int .i64 1000000] 23)).cell? ⟨w.heap.size, 0, none⟩ = some (.bool b1) := by go_simp
  have K1 : (w2.alloc (.cells #[.bool false, .int .i64 1000000] 23)).cell? ⟨w.heap.size, 1, none⟩ = some (.int .i64 v1) := by go_simp
  have K2 : (w2.alloc (.cells #[.bool false, .int .i64 1000000] 23)).cell? ⟨w.heap.size + 1, 0, none⟩ = some (.bool b2) := by go_simp
  have K3 : (w2.alloc (.cells #[.bool false, .int .i64 1000000] 23)).cell? ⟨w.heap.size + 1, 1, none⟩ = some (.int .i64 v2) := by go_simp
  have K4 : (w2.alloc (.cells #[.bool false, .int .i64 1000000] 23)).cell? ⟨w2.heap.size, 0, none⟩ = some (.bool false) := by go_simp
  have K5 : (w2.alloc (.cells #[.bool false, .int .i64 1000000] 23)).cell? ⟨w2.heap.size, 1, none⟩ = some (.int .i64 1000000) := by go_simp
  have HY := Lib.hid (HX.out.alloc (by omega) (.cells #[.bool false, .int .i64 1000000] 23))
  clear hc1 hf1 hc2 hf2 hb1 hb2 z1 x1 z2 x2 HX
  generalize w2.alloc (.cells #[.bool false, .int .i64 1000000] 23) = W at *
  generalize w2.heap.size = q at *
  have k0 := World.block_lt_of_cell? W ⟨w.heap.size, 0, none⟩ K0
  have k1 := World.block_lt_of_cell? W ⟨w.heap.size + 1, 0, none⟩ K2
  go_region_held3 (fun y => y.cell? ⟨w.heap.size, 0, none⟩ = some (.bool b1) ∧ y.cell? ⟨w.heap.size, 1, none⟩ = some (.int .i64 v1) ∧ y.cell? ⟨w.heap.size + 1, 0, none⟩ = some (.bool b2) ∧ y.cell? ⟨w.heap.size + 1, 1, none⟩ = some (.int .i64 v2) ∧ w.heap.size < y.heap.size ∧ w.heap.size + 1 < y.heap.size)
    (first | go_keep | (refine FP.held2 ?_ (by assumption); assumption))
    (first
      | (go_at_call 19; with_reducible refine (A1.out _).mono ?_; rintro e w3 ⟨rfl, hb3⟩)
      | (go_at_call 19; with_reducible refine (A2.out _).mono ?_; rintro e w4 ⟨rfl, hb4⟩)
      | (go_at_call 27; with_reducible refine (A3.out _).mono ?_; rintro e w5 ⟨rfl, hb5⟩)
      | (go_at_call 27; with_reducible refine (A4.out _).mono ?_; rintro e w6 ⟨rfl, hb6⟩)
      | (go_at_call 21; with_reducible refine (A5.out _).mono ?_; rintro e w7 ⟨rfl, hb7⟩)
      | (go_at_call 21; with_reducible refine (A6.out _).mono ?_; rintro e w8 ⟨rfl, hb8⟩)
      | (go_at_call 23; with_reducible refine (A7.out _).mono ?_; rintro e w9 ⟨rfl, hb9⟩))
  have TT := below_next (below_next (below_next (below_next (below_next (below_next ((Below.refl W.heap.size W).drew.trans (hb3.mono (by simp))) hb4) hb5) hb6) hb7) hb8) hb9
  have L0 := (TT.cell (p := ⟨w.heap.size, 0, none⟩) k0).trans K0
  have L1 := (TT.cell (p := ⟨w.heap.size, 1, none⟩) k0).trans K1
  have L2 := (TT.cell (p := ⟨w.heap.size + 1, 0, none⟩) k1).trans K2
  have L3 := (TT.cell (p := ⟨w.heap.size + 1, 1, none⟩) k1).trans K3
  have L4 := (TT.cell (p := ⟨q, 0, none⟩) (World.block_lt_of_cell? W ⟨q, 0, none⟩ K4)).trans K4
  have L5 := (TT.cell (p := ⟨q, 1, none⟩) (World.block_lt_of_cell? W ⟨q, 0, none⟩ K4)).trans K5
  have HZ := Lib.hid (below_next HY.out TT)
  clear TT K0 K1 K2 K3 K4 K5 k0 k1 hb3 hb4 hb5 hb6 hb7 hb8 hb9 HY A2 A3 A4 A5 A6 A7
  go_wp2_with fail
  refine (R.out _).mono ?_; rintro e w10 ⟨rfl, hb10⟩; obtain ⟨hc10, hf10⟩ := bcell hb10
  have z9 := World.block_lt_of_cell? w9 ⟨w.heap.size, 0, none⟩ L0
  have y9 := World.block_lt_of_cell? w9 ⟨w.heap.size + 1, 0, none⟩ L2
  have x9 := World.block_lt_of_cell? w9 ⟨q, 0, none⟩ L4
  have z10 : w.heap.size < w10.heap.size := Nat.lt_of_lt_of_le z9 hb10.size
  have y10 : w.heap.size + 1 < w10.heap.size := Nat.lt_of_lt_of_le y9 hb10.size
  have HW := Lib.hid (below_next HZ.out hb10)
  have J0 : w10.cell? ⟨w.heap.size, 0, none⟩ = some (.bool b1) := by go_simp
  have J1 : w10.cell? ⟨w.heap.size, 1, none⟩ = some (.int .i64 v1) := by go_simp
  have J2 : w10.cell? ⟨w.heap.size + 1, 0, none⟩ = some (.bool b2) := by go_simp
  have J3 : w10.cell? ⟨w.heap.size + 1, 1, none⟩ = some (.int .i64 v2) := by go_simp
  have J4 : w10.cell? ⟨q, 0, none⟩ = some (.bool false) := by go_simp
  have J5 : w10.cell? ⟨q, 1, none⟩ = some (.int .i64 1000000) := by go_simp
  clear hc10 hf10 L0 L1 L2 L3 L4 L5 hb10 z9 y9 x9
  cases z
  · clear HB
    go_wp2_with fail
    refine (A8.out _).mono ?_; rintro e w11 ⟨rfl, hb11⟩; obtain ⟨hc11, hf11⟩ := bcell hb11
    go_wp2_with fail
    refine (A1.out _).mono ?_; rintro e w12 ⟨rfl, hb12⟩
    go_wp2
    go_ret
    exact ⟨rfl, below_next (below_next HW.out hb11) hb12⟩
  · obtain rfl : b1 = true := HB.out.resolve_left (by decide)
    clear HB
    go_wp2_with fail
    refine (A8.out _).mono ?_; rintro e w11 ⟨rfl, hb11⟩; obtain ⟨hc11, hf11⟩ := bcell hb11
    go_wp2_with fail
    refine (A1.out _).mono ?_; rintro e w12 ⟨rfl, hb12⟩
    go_wp2
    go_ret
    exact ⟨rfl, below_next (below_next HW.out hb11) hb12⟩

/-- The cells of four numbers lie on behind a call. -/
theorem held4 {x y : World} {a0 a1 a2 a3 : Nat} {p0 q0 p1 q1 p2 q2 p3 q3 : Value} (h : x.cell? ⟨a0, 0, none⟩ = some p0 ∧ x.cell? ⟨a0, 1, none⟩ = some q0 ∧ x.cell? ⟨a1, 0, none⟩ = some p1 ∧ x.cell? ⟨a1, 1, none⟩ = some q1 ∧ x.cell? ⟨a2, 0, none⟩ = some p2 ∧ x.cell? ⟨a2, 1, none⟩ = some q2 ∧ x.cell? ⟨a3, 0, none⟩ = some p3 ∧ x.cell? ⟨a3, 1, none⟩ = some q3)
    (hb : Below x.heap.size x y) : y.cell? ⟨a0, 0, none⟩ = some p0 ∧ y.cell? ⟨a0, 1, none⟩ = some q0 ∧ y.cell? ⟨a1, 0, none⟩ = some p1 ∧ y.cell? ⟨a1, 1, none⟩ = some q1 ∧ y.cell? ⟨a2, 0, none⟩ = some p2 ∧ y.cell? ⟨a2, 1, none⟩ = some q2 ∧ y.cell? ⟨a3, 0, none⟩ = some p3 ∧ y.cell? ⟨a3, 1, none⟩ = some q3 := by
  obtain ⟨c0, d0, c1, d1, c2, d2, c3, d3⟩ := h
  have c := fun (b o : Nat) (v : Value) (h : x.cell? ⟨b, o, none⟩ = some v) => (hb.cell (p := ⟨b, o, none⟩) (World.block_lt_of_cell? x ⟨b, o, none⟩ h)).trans h
  exact ⟨c _ _ _ c0, c _ _ _ d0, c _ _ _ c1, c _ _ _ d1, c _ _ _ c2, c _ _ _ d2, c _ _ _ c3, c _ _ _ d3⟩
set_option maxRecDepth 100000 in
set_option maxHeartbeats 2000000 in
theorem fixedLaws_some (b2 : Bool) (v1 v2 : Int) (h1 : -9223372036854775808 ≤ v1 ∧ v1 ≤ 9223372036854775807) (h2 : -9223372036854775808 ≤ v2 ∧ v2 ≤ 9223372036854775807) (g : v1 ≠ -9223372036854775808) (w : World) :
    Calls Try.prog 8 #[.agg #[.bool false, .int .i64 v1], .agg #[.bool b2, .int .i64 v2]] w fun e w' => e = .returned (.bool true) ∧ Below w.heap.size w w' := by
  obtain ⟨b1, hb1⟩ : ∃ b1, b1 = false := ⟨_, rfl⟩
  have hv : rd b1 v1 = some v1 := by rw [hb1]; exact rd_some rfl g
  have P1 := FP.add_any b1 b2 v1 v2 h1 h2
  have P2 := FP.add_any b2 b1 v2 v1 h2 h1
  rw [addO_comm (rd b2 v2)] at P2
  have P3 := FP.mul_any b1 b2 v1 v2 h1 h2
  have P4 := FP.mul_any b2 b1 v2 v1 h2 h1
  rw [mulO_comm (rd b2 v2)] at P4
  have P5 := FP.sub_any b1 b2 v1 v2 h1 h2
  have P6 := FP.sub_any b2 b1 v2 v1 h2 h1
  have P7 := neg_laid (rd b1 v1) (rd b2 v2)
  have P8 := FP.mul_any b1 false v1 1000000 h1 (by decide)
  have P9 := FP.div_any b1 false v1 1000000 h1 (by decide)
  rw [hv] at P1 P2 P3 P4 P5 P6 P7 P8 P9
  rw [show mulO (some v1) (rd false 1000000) = some v1 from mul_one' (by omega), nb_some, nv_some] at P8
  rw [show divO (some v1) (rd false 1000000) = some v1 from div_one' (by omega), nb_some, nv_some] at P9
  have rr := right_r b1 v1
  rw [show rightB b1 v1 = true from by rw [hb1]; show (v1 != -9223372036854775808) = true; rw [bne_iff_ne]; exact g] at rr
  have ho : addO (some v1) (rd b2 v2) = none ∨ ∃ s, addO (some v1) (rd b2 v2) = some s ∧ ∀ w : World, Calls Try.prog 21 #[.agg #[.bool false, .int .i64 s], .agg #[.bool b2, .int .i64 v2]] w fun e w' => e = .returned (.agg #[.bool false, .int .i64 v1]) ∧ Below w.heap.size w w' := by
    cases h : addO (some v1) (rd b2 v2) with
    | none => exact .inl rfl
    | some s =>
      right
      refine ⟨s, rfl, fun w => ?_⟩
      have hs := sum_in _ _ s h
      have k := FP.sub_any false b2 s v2 (by omega) h2 w
      rw [rd_some rfl (by omega)] at k
      cases hb : rd b2 v2 with
      | none => rw [hb] at h; simp [addO] at h
      | some b =>
        rw [hb] at h k
        rw [addO_back (by omega) h, nb_some, nv_some] at k
        exact k
  generalize addO (some v1) (rd b2 v2) = O at *
  generalize mulO (some v1) (rd b2 v2) = Q at *
  generalize subO (some v1) (rd b2 v2) = D at *
  generalize subO (rd b2 v2) (some v1) = E at *
  rw [← hb1]
  have A1 := Lib.hid P1; have A2 := Lib.hid P2; have A3 := Lib.hid P3; have A4 := Lib.hid P4; have A5 := Lib.hid P5; have A6 := Lib.hid P6; have A7 := Lib.hid P7; have A8 := Lib.hid P8; have A9 := Lib.hid P9; have R := Lib.hid rr; have HO := Lib.hid ho; have HB := Lib.hid hb1
  clear P1 P2 P3 P4 P5 P6 P7 P8 P9 rr ho hv g h1 h2 hb1
  go_enter Try.func8, Try.ntmps8
  go_wp2_with fail
  refine (alive_c _).mono ?_; rintro e w1 ⟨rfl, hb1⟩; obtain ⟨hc1, hf1⟩ := bcell hb1
  have z1 : w.heap.size + 1 < w1.heap.size := (by have := hb1.size; simp at this; omega)
  have x1 : w.heap.size < w1.heap.size := by omega
  go_wp2_with fail
  refine (al_one _).mono ?_; rintro e w2 ⟨rfl, hb2⟩; obtain ⟨hc2, hf2⟩ := bcell hb2
  have z2 : w.heap.size + 1 < w2.heap.size := Nat.lt_of_lt_of_le z1 hb2.size
  have x2 : w.heap.size < w2.heap.size := by omega
  have HX := Lib.hid (below_next (FP.below_two hb1) hb2)
  go_wp2_with fail
  have K0 : (w2.alloc (.cells #[.bool false, .int .i64 1000000] 23)).cell? ⟨w.heap.size, 0, none⟩ = some (.bool b1) := by go_simp
  have K1 : (w2.alloc (.cells #[.bool false, .int .i64 1000000] 23)).cell? ⟨w.heap.size, 1, none⟩ = some (.int .i64 v1) := by go_simp
  have K2 : (w2.alloc (.cells #[.bool false, .int .i64 1000000] 23)).cell? ⟨w.heap.size + 1, 0, none⟩ = some (.bool b2) := by go_simp
  have K3 : (w2.alloc (.cells #[.bool false, .int .i64 1000000] 23)).cell? ⟨w.heap.size + 1, 1, none⟩ = some (.int .i64 v2) := by go_simp
  have K4 : (w2.alloc (.cells #[.bool false, .int .i64 1000000] 23)).cell? ⟨w2.heap.size, 0, none⟩ = some (.bool false) := by go_simp
  have K5 : (w2.alloc (.cells #[.bool false, .int .i64 1000000] 23)).cell? ⟨w2.heap.size, 1, none⟩ = some (.int .i64 1000000) := by go_simp
  have HY := Lib.hid (HX.out.alloc (by omega) (.cells #[.bool false, .int .i64 1000000] 23))
  clear hc1 hf1 hc2 hf2 hb1 hb2 z1 x1 z2 x2 HX
  generalize w2.alloc (.cells #[.bool false, .int .i64 1000000] 23) = W at *
  generalize w2.heap.size = q at *
  have k0 := World.block_lt_of_cell? W ⟨w.heap.size, 0, none⟩ K0
  have k1 := World.block_lt_of_cell? W ⟨w.heap.size + 1, 0, none⟩ K2
  go_region_held3 (fun y => y.cell? ⟨w.heap.size, 0, none⟩ = some (.bool b1) ∧ y.cell? ⟨w.heap.size, 1, none⟩ = some (.int .i64 v1) ∧ y.cell? ⟨w.heap.size + 1, 0, none⟩ = some (.bool b2) ∧ y.cell? ⟨w.heap.size + 1, 1, none⟩ = some (.int .i64 v2) ∧ w.heap.size < y.heap.size ∧ w.heap.size + 1 < y.heap.size)
    (first | go_keep | (refine FP.held2 ?_ (by assumption); assumption))
    (first
      | (go_at_call 19; with_reducible refine (A1.out _).mono ?_; rintro e w3 ⟨rfl, hb3⟩)
      | (go_at_call 19; with_reducible refine (A2.out _).mono ?_; rintro e w4 ⟨rfl, hb4⟩)
      | (go_at_call 27; with_reducible refine (A3.out _).mono ?_; rintro e w5 ⟨rfl, hb5⟩)
      | (go_at_call 27; with_reducible refine (A4.out _).mono ?_; rintro e w6 ⟨rfl, hb6⟩)
      | (go_at_call 21; with_reducible refine (A5.out _).mono ?_; rintro e w7 ⟨rfl, hb7⟩)
      | (go_at_call 21; with_reducible refine (A6.out _).mono ?_; rintro e w8 ⟨rfl, hb8⟩)
      | (go_at_call 23; with_reducible refine (A7.out _).mono ?_; rintro e w9 ⟨rfl, hb9⟩))
  have TT := below_next (below_next (below_next (below_next (below_next (below_next ((Below.refl W.heap.size W).drew.trans (hb3.mono (by simp))) hb4) hb5) hb6) hb7) hb8) hb9
  have L0 := (TT.cell (p := ⟨w.heap.size, 0, none⟩) k0).trans K0
  have L1 := (TT.cell (p := ⟨w.heap.size, 1, none⟩) k0).trans K1
  have L2 := (TT.cell (p := ⟨w.heap.size + 1, 0, none⟩) k1).trans K2
  have L3 := (TT.cell (p := ⟨w.heap.size + 1, 1, none⟩) k1).trans K3
  have L4 := (TT.cell (p := ⟨q, 0, none⟩) (World.block_lt_of_cell? W ⟨q, 0, none⟩ K4)).trans K4
  have L5 := (TT.cell (p := ⟨q, 1, none⟩) (World.block_lt_of_cell? W ⟨q, 0, none⟩ K4)).trans K5
  have HZ := Lib.hid (below_next HY.out TT)
  clear TT K0 K1 K2 K3 K4 K5 k0 k1 hb3 hb4 hb5 hb6 hb7 hb8 hb9 HY A2 A3 A4 A5 A6 A7
  obtain rfl := HB.out
  clear HB
  go_wp2_with fail
  refine (R.out _).mono ?_; rintro e w10 ⟨rfl, hb10⟩; obtain ⟨hc10, hf10⟩ := bcell hb10
  have z9 := World.block_lt_of_cell? w9 ⟨w.heap.size, 0, none⟩ L0
  have y9 := World.block_lt_of_cell? w9 ⟨w.heap.size + 1, 0, none⟩ L2
  have x9 := World.block_lt_of_cell? w9 ⟨q, 0, none⟩ L4
  have z10 : w.heap.size < w10.heap.size := Nat.lt_of_lt_of_le z9 hb10.size
  have y10 : w.heap.size + 1 < w10.heap.size := Nat.lt_of_lt_of_le y9 hb10.size
  have x10 : q < w10.heap.size := Nat.lt_of_lt_of_le x9 hb10.size
  go_wp2_with fail
  refine (A1.out _).mono ?_; rintro e w11 ⟨rfl, hb11⟩; obtain ⟨hc11, hf11⟩ := bcell hb11
  have z11 : w.heap.size < w11.heap.size := Nat.lt_of_lt_of_le z10 hb11.size
  have y11 : w.heap.size + 1 < w11.heap.size := Nat.lt_of_lt_of_le y10 hb11.size
  have x11 : q < w11.heap.size := Nat.lt_of_lt_of_le x10 hb11.size
  have HW := Lib.hid (below_next (below_next HZ.out hb10) hb11)
  go_wp2_with fail
  have J : (w11.alloc (.cells #[.bool (nb O), .int .i64 (nv O)] 23)).cell? ⟨w.heap.size, 0, none⟩ = some (.bool false) ∧ (w11.alloc (.cells #[.bool (nb O), .int .i64 (nv O)] 23)).cell? ⟨w.heap.size, 1, none⟩ = some (.int .i64 v1) ∧ (w11.alloc (.cells #[.bool (nb O), .int .i64 (nv O)] 23)).cell? ⟨w.heap.size + 1, 0, none⟩ = some (.bool b2) ∧ (w11.alloc (.cells #[.bool (nb O), .int .i64 (nv O)] 23)).cell? ⟨w.heap.size + 1, 1, none⟩ = some (.int .i64 v2) ∧ (w11.alloc (.cells #[.bool (nb O), .int .i64 (nv O)] 23)).cell? ⟨q, 0, none⟩ = some (.bool false) ∧ (w11.alloc (.cells #[.bool (nb O), .int .i64 (nv O)] 23)).cell? ⟨q, 1, none⟩ = some (.int .i64 1000000) ∧ (w11.alloc (.cells #[.bool (nb O), .int .i64 (nv O)] 23)).cell? ⟨w11.heap.size, 0, none⟩ = some (.bool (nb O)) ∧ (w11.alloc (.cells #[.bool (nb O), .int .i64 (nv O)] 23)).cell? ⟨w11.heap.size, 1, none⟩ = some (.int .i64 (nv O)) := ⟨by go_simp, by go_simp, by go_simp, by go_simp, by go_simp, by go_simp, by go_simp, by go_simp⟩
  have HV := Lib.hid (HW.out.alloc (by omega) (.cells #[.bool (nb O), .int .i64 (nv O)] 23))
  clear hc10 hf10 hc11 hf11 hb10 hb11 L0 L1 L2 L3 L4 L5 z9 y9 x9 z10 y10 x10 HW z11 y11 x11
  generalize w11.alloc (.cells #[.bool (nb O), .int .i64 (nv O)] 23) = W2 at *
  generalize w11.heap.size = p at *
  rcases HO.out with rfl | ⟨s, rfl, hsub⟩
  · clear HO
    rw [nb_none, nv_none] at J
    obtain ⟨J0, J1, J2, J3, J4, J5, J6, J7⟩ := J
    refine wp_region_held_drew (S := fun y => y.cell? ⟨w.heap.size, 0, none⟩ = some (.bool false) ∧ y.cell? ⟨w.heap.size, 1, none⟩ = some (.int .i64 v1) ∧ y.cell? ⟨w.heap.size + 1, 0, none⟩ = some (.bool b2) ∧ y.cell? ⟨w.heap.size + 1, 1, none⟩ = some (.int .i64 v2) ∧ y.cell? ⟨q, 0, none⟩ = some (.bool false) ∧ y.cell? ⟨q, 1, none⟩ = some (.int .i64 1000000) ∧ y.cell? ⟨p, 0, none⟩ = some (.bool true) ∧ y.cell? ⟨p, 1, none⟩ = some (.int .i64 0)) (by kernel_rfl) ?hs (fun hHeld => ?hr)
    case hs => ((try dsimp only); first | go_keep | (refine held4 ?_ (by assumption); assumption))
    case hr =>
      refine wpAnyH_take (i := 0) (v := .agg #[.bool false, .int .i64 v1]) rfl (by kernel_rfl) (by kernel_rfl) (by kernel_rfl) (fun _ _ _ h => h) (Or.inl ⟨by rfl, fun w hSw => ?_⟩) (by assumption) ?_
      · ((try dsimp only at hSw); go_simp)
      change wpAnyH _ _ _ _ _ _ _ (Act.put _ (some 56) (.agg #[.bool false, .int .i64 v1])) _
      simp only [Act.put, List.setIfInBounds_toArray, List.set_cons_zero, List.set_cons_succ]
      refine wpAnyH_take (i := 1) (v := .agg #[.bool false, .int .i64 1000000]) rfl (by kernel_rfl) (by kernel_rfl) (by kernel_rfl) (fun _ _ _ h => h) (Or.inl ⟨by rfl, fun w hSw => ?_⟩) (by assumption) ?_
      · ((try dsimp only at hSw); go_simp)
      change wpAnyH _ _ _ _ _ _ _ (Act.put _ (some 57) (.agg #[.bool false, .int .i64 1000000])) _
      simp only [Act.put, List.setIfInBounds_toArray, List.set_cons_zero, List.set_cons_succ]
      refine wpAnyH_take (i := 3) (v := .agg #[.bool false, .int .i64 v1]) rfl (by kernel_rfl) (by kernel_rfl) (by kernel_rfl) (fun _ _ _ h => h) (Or.inl ⟨by rfl, fun w hSw => ?_⟩) (by assumption) ?_
      · ((try dsimp only at hSw); go_simp)
      change wpAnyH _ _ _ _ _ _ _ (Act.put _ (some 59) (.agg #[.bool false, .int .i64 v1])) _
      simp only [Act.put, List.setIfInBounds_toArray, List.set_cons_zero, List.set_cons_succ]
      refine wpAnyH_ready (rs := [2]) (by kernel_rfl) (by simp) ?_
      refine AllReadyH.cons rfl (fun K hK => ?_) AllReadyH.nil
      go_simp
      refine (A8.out _).mono ?_; rintro e w12 ⟨rfl, hb12⟩
      (try go_wp2_with fail)
      refine hK.out _ _ ?_ (fun hHeld => ?_)
      · ((try dsimp only); first | go_keep | (refine held4 ?_ (by assumption); assumption))
      clear hK K
      try simp only [Act.put, List.setIfInBounds_toArray, List.set_cons_zero, List.set_cons_succ]
      refine wpAnyH_take (i := 4) (v := .bool true) rfl (by kernel_rfl) (by kernel_rfl) (by kernel_rfl) (fun _ _ _ h => h) (Or.inl ⟨by rfl, fun w hSw => ?_⟩) (by assumption) ?_
      · ((try dsimp only at hSw); go_simp)
      change wpAnyH _ _ _ _ _ _ _ (Act.put _ (some 60) (.bool true)) _
      simp only [Act.put, List.setIfInBounds_toArray, List.set_cons_zero, List.set_cons_succ]
      refine wpAnyH_take (i := 5) (v := .bool true) rfl (by kernel_rfl) (by kernel_rfl) (by kernel_rfl) (fun _ _ _ h => h) (Or.inl ⟨by rfl, fun w hSw => ?_⟩) (by assumption) ?_
      · ((try dsimp only at hSw); go_simp)
      change wpAnyH _ _ _ _ _ _ _ (Act.put _ (some 61) (.bool true)) _
      simp only [Act.put, List.setIfInBounds_toArray, List.set_cons_zero, List.set_cons_succ]
      refine wpAnyH_take (i := 6) (v := .agg #[.bool false, .int .i64 v1]) rfl (by kernel_rfl) (by kernel_rfl) (by kernel_rfl) (fun _ _ _ h => h) (Or.inl ⟨by rfl, fun w hSw => ?_⟩) (by assumption) ?_
      · ((try dsimp only at hSw); go_simp)
      change wpAnyH _ _ _ _ _ _ _ (Act.put _ (some 62) (.agg #[.bool false, .int .i64 v1])) _
      simp only [Act.put, List.setIfInBounds_toArray, List.set_cons_zero, List.set_cons_succ]
      refine wpAnyH_take (i := 7) (v := .agg #[.bool false, .int .i64 1000000]) rfl (by kernel_rfl) (by kernel_rfl) (by kernel_rfl) (fun _ _ _ h => h) (Or.inl ⟨by rfl, fun w hSw => ?_⟩) (by assumption) ?_
      · ((try dsimp only at hSw); go_simp)
      change wpAnyH _ _ _ _ _ _ _ (Act.put _ (some 63) (.agg #[.bool false, .int .i64 1000000])) _
      simp only [Act.put, List.setIfInBounds_toArray, List.set_cons_zero, List.set_cons_succ]
      refine wpAnyH_take (i := 9) (v := .agg #[.bool false, .int .i64 v1]) rfl (by kernel_rfl) (by kernel_rfl) (by kernel_rfl) (fun _ _ _ h => h) (Or.inl ⟨by rfl, fun w hSw => ?_⟩) (by assumption) ?_
      · ((try dsimp only at hSw); go_simp)
      change wpAnyH _ _ _ _ _ _ _ (Act.put _ (some 65) (.agg #[.bool false, .int .i64 v1])) _
      simp only [Act.put, List.setIfInBounds_toArray, List.set_cons_zero, List.set_cons_succ]
      refine wpAnyH_ready (rs := [8]) (by kernel_rfl) (by simp) ?_
      refine AllReadyH.cons rfl (fun K hK => ?_) AllReadyH.nil
      go_simp
      refine (A9.out _).mono ?_; rintro e w13 ⟨rfl, hb13⟩
      (try go_wp2_with fail)
      refine hK.out _ _ ?_ (fun hHeld => ?_)
      · ((try dsimp only); first | go_keep | (refine held4 ?_ (by assumption); assumption))
      clear hK K
      try simp only [Act.put, List.setIfInBounds_toArray, List.set_cons_zero, List.set_cons_succ]
      refine wpAnyH_take (i := 10) (v := .bool true) rfl (by kernel_rfl) (by kernel_rfl) (by kernel_rfl) (fun _ _ _ h => h) (Or.inl ⟨by rfl, fun w hSw => ?_⟩) (by assumption) ?_
      · ((try dsimp only at hSw); go_simp)
      change wpAnyH _ _ _ _ _ _ _ (Act.put _ (some 66) (.bool true)) _
      simp only [Act.put, List.setIfInBounds_toArray, List.set_cons_zero, List.set_cons_succ]
      refine wpAnyH_take (i := 11) (v := .bool true) rfl (by kernel_rfl) (by kernel_rfl) (by kernel_rfl) (fun _ _ _ h => h) (Or.inl ⟨by rfl, fun w hSw => ?_⟩) (by assumption) ?_
      · ((try dsimp only at hSw); go_simp)
      change wpAnyH _ _ _ _ _ _ _ (Act.put _ (some 67) (.bool true)) _
      simp only [Act.put, List.setIfInBounds_toArray, List.set_cons_zero, List.set_cons_succ]
      refine wpAnyH_take (i := 12) (v := .bool true) rfl (by kernel_rfl) (by kernel_rfl) (by kernel_rfl) (fun _ _ _ h => h) (Or.inl ⟨by rfl, fun w hSw => ?_⟩) (by assumption) ?_
      · ((try dsimp only at hSw); go_simp)
      change wpAnyH _ _ _ _ _ _ _ (Act.put _ (some 68) (.bool true)) _
      simp only [Act.put, List.setIfInBounds_toArray, List.set_cons_zero, List.set_cons_succ]
      refine wpAnyH_take (i := 13) (v := .pointer (some ⟨p, 0, none⟩)) rfl (by kernel_rfl) (by kernel_rfl) (by kernel_rfl) (fun _ _ _ h => h) (Or.inl ⟨by rfl, fun w hSw => ?_⟩) (by assumption) ?_
      · ((try dsimp only at hSw); go_simp)
      change wpAnyH _ _ _ _ _ _ _ (Act.put _ (some 69) (.pointer (some ⟨p, 0, none⟩))) _
      simp only [Act.put, List.setIfInBounds_toArray, List.set_cons_zero, List.set_cons_succ]
      refine wpAnyH_take (i := 14) (v := .bool true) rfl (by kernel_rfl) (by kernel_rfl) (by kernel_rfl) (fun _ _ _ h => h) (Or.inl ⟨by rfl, fun w hSw => ?_⟩) (by assumption) ?_
      · ((try dsimp only at hSw); go_simp)
      change wpAnyH _ _ _ _ _ _ _ (Act.put _ (some 70) (.bool true)) _
      simp only [Act.put, List.setIfInBounds_toArray, List.set_cons_zero, List.set_cons_succ]
      refine wpAnyH_take (i := 15) (v := .bool true) rfl (by kernel_rfl) (by kernel_rfl) (by kernel_rfl) (fun _ _ _ h => h) (Or.inl ⟨by rfl, fun w hSw => ?_⟩) (by assumption) ?_
      · ((try dsimp only at hSw); go_simp)
      change wpAnyH _ _ _ _ _ _ _ (Act.put _ (some 71) (.bool true)) _
      simp only [Act.put, List.setIfInBounds_toArray, List.set_cons_zero, List.set_cons_succ]
      refine wpAnyH_take (i := 16) (v := undef) rfl (by kernel_rfl) (by kernel_rfl) (by kernel_rfl) (fun _ _ _ h => h) (Or.inr ⟨by rfl, rfl⟩) (by assumption) ?_
      change wpAnyH _ _ _ _ _ _ _ (Act.put _ (some 72) undef) _
      simp only [Act.put, List.setIfInBounds_toArray, List.set_cons_zero, List.set_cons_succ]
      refine wpAnyH_take (i := 17) (v := undef) rfl (by kernel_rfl) (by kernel_rfl) (by kernel_rfl) (fun _ _ _ h => h) (Or.inr ⟨by rfl, rfl⟩) (by assumption) ?_
      change wpAnyH _ _ _ _ _ _ _ (Act.put _ (some 73) undef) _
      simp only [Act.put, List.setIfInBounds_toArray, List.set_cons_zero, List.set_cons_succ]
      refine wpAnyH_take (i := 18) (v := undef) rfl (by kernel_rfl) (by kernel_rfl) (by kernel_rfl) (fun _ _ _ h => h) (Or.inr ⟨by rfl, rfl⟩) (by assumption) ?_
      change wpAnyH _ _ _ _ _ _ _ (Act.put _ (some 74) undef) _
      simp only [Act.put, List.setIfInBounds_toArray, List.set_cons_zero, List.set_cons_succ]
      refine wpAnyH_take (i := 19) (v := undef) rfl (by kernel_rfl) (by kernel_rfl) (by kernel_rfl) (fun _ _ _ h => h) (Or.inr ⟨by rfl, rfl⟩) (by assumption) ?_
      change wpAnyH _ _ _ _ _ _ _ (Act.put _ (some 75) undef) _
      simp only [Act.put, List.setIfInBounds_toArray, List.set_cons_zero, List.set_cons_succ]
      refine wpAnyH_take (i := 20) (v := undef) rfl (by kernel_rfl) (by kernel_rfl) (by kernel_rfl) (fun _ _ _ h => h) (Or.inr ⟨by rfl, rfl⟩) (by assumption) ?_
      change wpAnyH _ _ _ _ _ _ _ (Act.put _ (some 76) undef) _
      simp only [Act.put, List.setIfInBounds_toArray, List.set_cons_zero, List.set_cons_succ]
      refine wpAnyH_take (i := 21) (v := .bool true) rfl (by kernel_rfl) (by kernel_rfl) (by kernel_rfl) (fun _ _ _ h => h) (Or.inl ⟨by rfl, fun w hSw => ?_⟩) (by assumption) ?_
      · ((try dsimp only at hSw); go_simp)
      change wpAnyH _ _ _ _ _ _ _ (Act.put _ (some 77) (.bool true)) _
      simp only [Act.put, List.setIfInBounds_toArray, List.set_cons_zero, List.set_cons_succ]
      refine wpAnyH_take (i := 22) (v := .bool true) rfl (by kernel_rfl) (by kernel_rfl) (by kernel_rfl) (fun _ _ _ h => h) (Or.inl ⟨by rfl, fun w hSw => ?_⟩) (by assumption) ?_
      · ((try dsimp only at hSw); go_simp)
      change wpAnyH _ _ _ _ _ _ _ (Act.put _ (some 78) (.bool true)) _
      simp only [Act.put, List.setIfInBounds_toArray, List.set_cons_zero, List.set_cons_succ]
      refine wpAnyH_take (i := 23) (v := .bool true) rfl (by kernel_rfl) (by kernel_rfl) (by kernel_rfl) (fun _ _ _ h => h) (Or.inl ⟨by rfl, fun w hSw => ?_⟩) (by assumption) ?_
      · ((try dsimp only at hSw); go_simp)
      change wpAnyH _ _ _ _ _ _ _ (Act.put _ (some 4) (.bool true)) _
      simp only [Act.put, List.setIfInBounds_toArray, List.set_cons_zero, List.set_cons_succ]
      refine wpAnyH_done (by kernel_rfl) ?_ _
      go_wp2
      go_ret
      exact ⟨rfl, below_next (below_next HV.out ((Below.refl W2.heap.size W2).drew.trans (hb12.mono (by simp)))) hb13⟩
  · have HS := Lib.hid hsub
    clear hsub HO
    rw [nb_some, nv_some] at J
    obtain ⟨J0, J1, J2, J3, J4, J5, J6, J7⟩ := J
    go_region_held3 (fun y => y.cell? ⟨w.heap.size, 0, none⟩ = some (.bool false) ∧ y.cell? ⟨w.heap.size, 1, none⟩ = some (.int .i64 v1) ∧ y.cell? ⟨w.heap.size + 1, 0, none⟩ = some (.bool b2) ∧ y.cell? ⟨w.heap.size + 1, 1, none⟩ = some (.int .i64 v2) ∧ y.cell? ⟨q, 0, none⟩ = some (.bool false) ∧ y.cell? ⟨q, 1, none⟩ = some (.int .i64 1000000) ∧ y.cell? ⟨p, 0, none⟩ = some (.bool false) ∧ y.cell? ⟨p, 1, none⟩ = some (.int .i64 s))
      (first | go_keep | (refine held4 ?_ (by assumption); assumption))
      (first
        | (go_at_call 27; refine (A8.out _).mono ?_; rintro e w12 ⟨rfl, hb12⟩)
        | (go_at_call 29; refine (A9.out _).mono ?_; rintro e w13 ⟨rfl, hb13⟩)
        | (go_at_call 21; refine (HS.out _).mono ?_; rintro e w14 ⟨rfl, hb14⟩))
    all_goals go_wp2
    all_goals go_ret
    all_goals exact ⟨rfl, below_next (below_next (below_next HV.out ((Below.refl W2.heap.size W2).drew.trans (hb12.mono (by simp)))) hb13) hb14⟩
theorem fixedLaws_c (b1 b2 : Bool) (v1 v2 : Int) (h1 : -9223372036854775808 ≤ v1 ∧ v1 ≤ 9223372036854775807) (h2 : -9223372036854775808 ≤ v2 ∧ v2 ≤ 9223372036854775807) (w : World) :
    Calls Try.prog 8 #[.agg #[.bool b1, .int .i64 v1], .agg #[.bool b2, .int .i64 v2]] w fun e w' => e = .returned (.bool true) ∧ Below w.heap.size w w' := by
  by_cases g : b1 = false ∧ v1 ≠ -9223372036854775808
  · obtain ⟨rfl, hv⟩ := g
    exact fixedLaws_some b2 v1 v2 h1 h2 hv w
  · exact fixedLaws_none b1 b2 v1 v2 h1 h2 g w
end Go.Proofs.Ythnokbdkgehiaaa.FW
