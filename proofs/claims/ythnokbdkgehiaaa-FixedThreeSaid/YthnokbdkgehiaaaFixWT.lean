/-
  The statements of layer 2, walked: sums of three.
-/
import Derived.Test.YthnokbdkgehiaaaFixW
import Derived.Test.YthnokbdkgehiaaaLaws2
set_option linter.unusedSimpArgs false
set_option linter.unusedVariables false
namespace Go.Proofs.Ythnokbdkgehiaaa.FW
open Go.RowKit

/-- The cells of three numbers lie on behind a call. -/
theorem held3 {x y : World} {a0 a1 a2 : Nat} {p0 q0 p1 q1 p2 q2 : Value} (h : x.cell? ⟨a0, 0, none⟩ = some p0 ∧ x.cell? ⟨a0, 1, none⟩ = some q0 ∧ x.cell? ⟨a1, 0, none⟩ = some p1 ∧ x.cell? ⟨a1, 1, none⟩ = some q1 ∧ x.cell? ⟨a2, 0, none⟩ = some p2 ∧ x.cell? ⟨a2, 1, none⟩ = some q2)
    (hb : Below x.heap.size x y) : y.cell? ⟨a0, 0, none⟩ = some p0 ∧ y.cell? ⟨a0, 1, none⟩ = some q0 ∧ y.cell? ⟨a1, 0, none⟩ = some p1 ∧ y.cell? ⟨a1, 1, none⟩ = some q1 ∧ y.cell? ⟨a2, 0, none⟩ = some p2 ∧ y.cell? ⟨a2, 1, none⟩ = some q2 := by
  obtain ⟨c0, d0, c1, d1, c2, d2⟩ := h
  have c := fun (b o : Nat) (v : Value) (h : x.cell? ⟨b, o, none⟩ = some v) => (hb.cell (p := ⟨b, o, none⟩) (World.block_lt_of_cell? x ⟨b, o, none⟩ h)).trans h
  exact ⟨c _ _ _ c0, c _ _ _ d0, c _ _ _ c1, c _ _ _ d1, c _ _ _ c2, c _ _ _ d2⟩
theorem add_in (x y : Option Int) : inR (addO x y) := by
  intro t ht
  cases x with
  | none => simp [addO] at ht
  | some a => cases y with
    | none => simp [addO] at ht
    | some b =>
      have h : lim (a + b) = some t := ht
      unfold lim at h
      split at h
      · have e : a + b = t := by simpa using h
        omega
      · simp at h
theorem add_laid (x y : Option Int) (b : Bool) (v : Int) (h : -9223372036854775808 ≤ v ∧ v ≤ 9223372036854775807) (w : World) :
    Calls Try.prog 19 #[.agg #[.bool (nb (addO x y)), .int .i64 (nv (addO x y))], .agg #[.bool b, .int .i64 v]] w fun e w' => e = .returned (.agg #[.bool (nb (addO (addO x y) (rd b v))), .int .i64 (nv (addO (addO x y) (rd b v)))]) ∧ Below w.heap.size w w' := by
  have k := FP.add_any (nb (addO x y)) b (nv (addO x y)) v (FP.nv_in (add_in x y)) h w
  rw [FP.rd_back _ (add_in x y)] at k
  exact k
theorem laid_add (x y : Option Int) (b : Bool) (v : Int) (h : -9223372036854775808 ≤ v ∧ v ≤ 9223372036854775807) (w : World) :
    Calls Try.prog 19 #[.agg #[.bool b, .int .i64 v], .agg #[.bool (nb (addO x y)), .int .i64 (nv (addO x y))]] w fun e w' => e = .returned (.agg #[.bool (nb (addO (rd b v) (addO x y))), .int .i64 (nv (addO (rd b v) (addO x y)))]) ∧ Below w.heap.size w w' := by
  have k := FP.add_any b (nb (addO x y)) v (nv (addO x y)) h (FP.nv_in (add_in x y)) w
  rw [FP.rd_back _ (add_in x y)] at k
  exact k

set_option maxRecDepth 100000 in
set_option maxHeartbeats 2000000 in
theorem fixedThree_c (b1 b2 b3 : Bool) (v1 v2 v3 : Int) (h1 : -9223372036854775808 ≤ v1 ∧ v1 ≤ 9223372036854775807) (h2 : -9223372036854775808 ≤ v2 ∧ v2 ≤ 9223372036854775807) (h3 : -9223372036854775808 ≤ v3 ∧ v3 ≤ 9223372036854775807) (w : World) :
    Calls Try.prog 10 #[.agg #[.bool b1, .int .i64 v1], .agg #[.bool b2, .int .i64 v2], .agg #[.bool b3, .int .i64 v3]] w fun e w' => e = .returned (.bool true) ∧ Below w.heap.size w w' := by
  have P1 := FP.add_any b1 b2 v1 v2 h1 h2
  have P2 := add_laid (rd b1 v1) (rd b2 v2) b3 v3 h3
  have P3 := FP.add_any b2 b3 v2 v3 h2 h3
  have P4 := laid_add (rd b2 v2) (rd b3 v3) b1 v1 h1
  have hl := addO_assoc (rd b1 v1) (rd b2 v2) (rd b3 v3)
  generalize addO (addO (rd b1 v1) (rd b2 v2)) (rd b3 v3) = X at *
  generalize addO (rd b1 v1) (addO (rd b2 v2) (rd b3 v3)) = Y at *
  generalize addO (rd b1 v1) (rd b2 v2) = U at *
  generalize addO (rd b2 v2) (rd b3 v3) = V at *
  have H1 := Lib.hid P1; have H2 := Lib.hid P2; have H3 := Lib.hid P3; have H4 := Lib.hid P4; have HL := Lib.hid hl
  clear P1 P2 P3 P4 hl h1 h2 h3
  go_enter Try.func10, Try.ntmps10
  go_wp2_with fail
  refine (alive_c _).mono ?_; rintro e w1 ⟨rfl, hb1⟩; obtain ⟨hc1, hf1⟩ := bcell hb1
  have z1 : w.heap.size + 1 + 1 < w1.heap.size := (by have := hb1.size; simp at this; omega)
  have y1 : w.heap.size + 1 < w1.heap.size := by omega
  have x1 : w.heap.size < w1.heap.size := by omega
  have HX := Lib.hid (FP.below_three hb1)
  go_wp2_with fail
  have K : w1.cell? ⟨w.heap.size, 0, none⟩ = some (.bool b1) ∧ w1.cell? ⟨w.heap.size, 1, none⟩ = some (.int .i64 v1) ∧ w1.cell? ⟨w.heap.size + 1, 0, none⟩ = some (.bool b2) ∧ w1.cell? ⟨w.heap.size + 1, 1, none⟩ = some (.int .i64 v2) ∧ w1.cell? ⟨w.heap.size + 1 + 1, 0, none⟩ = some (.bool b3) ∧ w1.cell? ⟨w.heap.size + 1 + 1, 1, none⟩ = some (.int .i64 v3) := ⟨by go_simp, by go_simp, by go_simp, by go_simp, by go_simp, by go_simp⟩
  obtain ⟨c0, d0, c1, d1, c2, d2⟩ := K
  clear hc1 hf1 hb1
  have n1 : w.heap.size ≠ w1.heap.size := by omega
  have n1' : w.heap.size + 1 ≠ w1.heap.size := by omega
  have n1'' : w.heap.size + 1 + 1 ≠ w1.heap.size := by omega
  go_cut [7] (fun s wx => ∃ b : Nat, s = .pointer (some ⟨b, 0, none⟩) ∧ wx.cell? ⟨b, 0, none⟩ = some (.bool (nb X)) ∧ wx.cell? ⟨b, 1, none⟩ = some (.int .i64 (nv X)) ∧ Below w1.heap.size w1 wx)
  case first =>
    go_region_held3 (fun y => y.cell? ⟨w.heap.size, 0, none⟩ = some (.bool b1) ∧ y.cell? ⟨w.heap.size, 1, none⟩ = some (.int .i64 v1) ∧ y.cell? ⟨w.heap.size + 1, 0, none⟩ = some (.bool b2) ∧ y.cell? ⟨w.heap.size + 1, 1, none⟩ = some (.int .i64 v2) ∧ y.cell? ⟨w.heap.size + 1 + 1, 0, none⟩ = some (.bool b3) ∧ y.cell? ⟨w.heap.size + 1 + 1, 1, none⟩ = some (.int .i64 v3))
      (first | go_keep | assumption | (refine held3 ⟨c0, d0, c1, d1, c2, d2⟩ (below_put T3 ?_ _ _); omega) | (refine held3 ⟨c0, d0, c1, d1, c2, d2⟩ (T3.alloc ?_ _); omega))
      (first
        | (go_at_call_of 19 (U); with_reducible refine (H2.out _).mono ?_; rintro e w3 ⟨rfl, hb3⟩; have T3 : Below w1.heap.size w1 w3 := below_next (by first | exact T2 | exact T2.drew | (refine T2.alloc ?_ _; have := T2.size; omega) | (refine (T2.alloc ?_ _).drew; have := T2.size; omega) | (refine T2.drew.alloc ?_ _; have := T2.size; omega)) hb3; have q3 : w3.cell? ⟨w.heap.size, 0, none⟩ = some (.bool b1) ∧ w3.cell? ⟨w.heap.size, 1, none⟩ = some (.int .i64 v1) ∧ w3.cell? ⟨w.heap.size + 1, 0, none⟩ = some (.bool b2) ∧ w3.cell? ⟨w.heap.size + 1, 1, none⟩ = some (.int .i64 v2) ∧ w3.cell? ⟨w.heap.size + 1 + 1, 0, none⟩ = some (.bool b3) ∧ w3.cell? ⟨w.heap.size + 1 + 1, 1, none⟩ = some (.int .i64 v3) := held3 ⟨c0, d0, c1, d1, c2, d2⟩ T3; have t3 := T3.size; have s3 : w.heap.size + 1 + 1 < w3.heap.size := (by omega); have s3' : w.heap.size + 1 < w3.heap.size := (by omega); have s3'' : w.heap.size < w3.heap.size := (by omega); have n3 : w.heap.size ≠ w3.heap.size := (by omega); have n3' : w.heap.size + 1 ≠ w3.heap.size := (by omega); have n3'' : w.heap.size + 1 + 1 ≠ w3.heap.size := (by omega); obtain ⟨hc3, hf3⟩ := bcell hb3; (try (have r3 : w1.heap.size < w3.heap.size := (by have := hb3.size; simp at this; omega))); (try (have r3' : w2.heap.size < w3.heap.size := (by have := hb3.size; simp at this; omega))); obtain ⟨ca3, cb3, cc3, cd3, ce3, cf3⟩ := id q3)
        | (go_at_call 19; with_reducible refine (H1.out _).mono ?_; rintro e w2 ⟨rfl, hb2⟩; have T2 : Below w1.heap.size w1 w2 := below_next (by first | exact (Below.refl w1.heap.size w1) | exact (Below.refl w1.heap.size w1).drew | (refine (Below.refl w1.heap.size w1).alloc ?_ _; have := (Below.refl w1.heap.size w1).size; omega) | (refine ((Below.refl w1.heap.size w1).alloc ?_ _).drew; have := (Below.refl w1.heap.size w1).size; omega) | (refine (Below.refl w1.heap.size w1).drew.alloc ?_ _; have := (Below.refl w1.heap.size w1).size; omega)) hb2; have q2 : w2.cell? ⟨w.heap.size, 0, none⟩ = some (.bool b1) ∧ w2.cell? ⟨w.heap.size, 1, none⟩ = some (.int .i64 v1) ∧ w2.cell? ⟨w.heap.size + 1, 0, none⟩ = some (.bool b2) ∧ w2.cell? ⟨w.heap.size + 1, 1, none⟩ = some (.int .i64 v2) ∧ w2.cell? ⟨w.heap.size + 1 + 1, 0, none⟩ = some (.bool b3) ∧ w2.cell? ⟨w.heap.size + 1 + 1, 1, none⟩ = some (.int .i64 v3) := held3 ⟨c0, d0, c1, d1, c2, d2⟩ T2; have t2 := T2.size; have s2 : w.heap.size + 1 + 1 < w2.heap.size := (by omega); have s2' : w.heap.size + 1 < w2.heap.size := (by omega); have s2'' : w.heap.size < w2.heap.size := (by omega); have n2 : w.heap.size ≠ w2.heap.size := (by omega); have n2' : w.heap.size + 1 ≠ w2.heap.size := (by omega); have n2'' : w.heap.size + 1 + 1 ≠ w2.heap.size := (by omega); obtain ⟨hc2, hf2⟩ := bcell hb2; (try (have r2 : w1.heap.size < w2.heap.size := (by have := hb2.size; simp at this; omega))); (try (have r2' : w1.heap.size < w2.heap.size := (by have := hb2.size; simp at this; omega))); obtain ⟨ca2, cb2, cc2, cd2, ce2, cf2⟩ := id q2))
    all_goals (try go_wp2_with fail)
    all_goals go_meet
    all_goals refine ⟨_, rfl, ?_, ?_, ?_⟩
    all_goals (first | (go_simp; done) | (refine below_put T3 ?_ _ _; omega) | (refine T3.alloc ?_ _; omega))
  case rest =>
    obtain ⟨p, rfl, hx0, hx1, TX⟩ := hcut
    obtain ⟨c0', d0', c1', d1', c2', d2'⟩ := held3 ⟨c0, d0, c1, d1, c2, d2⟩ TX
    have HY := Lib.hid (below_next HX.out TX)
    have zc : w.heap.size + 1 + 1 < wc.heap.size := Nat.lt_of_lt_of_le z1 TX.size
    have yc : w.heap.size + 1 < wc.heap.size := by omega
    have xc : w.heap.size < wc.heap.size := by omega
    have px := World.block_lt_of_cell? wc ⟨p, 0, none⟩ hx0
    clear TX c0 d0 c1 d1 c2 d2 n1 n1' n1'' z1 y1 x1 HX
    go_wp2_with fail
    have n1 : w.heap.size ≠ wc.heap.size := by omega
    have n1' : w.heap.size + 1 ≠ wc.heap.size := by omega
    have n1'' : w.heap.size + 1 + 1 ≠ wc.heap.size := by omega
    go_cut [8] (fun s wx => ∃ b : Nat, s = .pointer (some ⟨b, 0, none⟩) ∧ wx.cell? ⟨b, 0, none⟩ = some (.bool (nb Y)) ∧ wx.cell? ⟨b, 1, none⟩ = some (.int .i64 (nv Y)) ∧ Below wc.heap.size wc wx)
    case first =>
      go_region_held3 (fun y => y.cell? ⟨w.heap.size, 0, none⟩ = some (.bool b1) ∧ y.cell? ⟨w.heap.size, 1, none⟩ = some (.int .i64 v1) ∧ y.cell? ⟨w.heap.size + 1, 0, none⟩ = some (.bool b2) ∧ y.cell? ⟨w.heap.size + 1, 1, none⟩ = some (.int .i64 v2) ∧ y.cell? ⟨w.heap.size + 1 + 1, 0, none⟩ = some (.bool b3) ∧ y.cell? ⟨w.heap.size + 1 + 1, 1, none⟩ = some (.int .i64 v3))
        (first | go_keep | assumption | (refine held3 ⟨c0', d0', c1', d1', c2', d2'⟩ (below_put T3 ?_ _ _); omega) | (refine held3 ⟨c0', d0', c1', d1', c2', d2'⟩ (T3.alloc ?_ _); omega))
        (first
          | (go_at_call_of 19 (V); with_reducible refine (H4.out _).mono ?_; rintro e w3 ⟨rfl, hb3⟩; have T3 : Below wc.heap.size wc w3 := below_next (by first | exact T2 | exact T2.drew | (refine T2.alloc ?_ _; have := T2.size; omega) | (refine (T2.alloc ?_ _).drew; have := T2.size; omega) | (refine T2.drew.alloc ?_ _; have := T2.size; omega)) hb3; have q3 : w3.cell? ⟨w.heap.size, 0, none⟩ = some (.bool b1) ∧ w3.cell? ⟨w.heap.size, 1, none⟩ = some (.int .i64 v1) ∧ w3.cell? ⟨w.heap.size + 1, 0, none⟩ = some (.bool b2) ∧ w3.cell? ⟨w.heap.size + 1, 1, none⟩ = some (.int .i64 v2) ∧ w3.cell? ⟨w.heap.size + 1 + 1, 0, none⟩ = some (.bool b3) ∧ w3.cell? ⟨w.heap.size + 1 + 1, 1, none⟩ = some (.int .i64 v3) := held3 ⟨c0', d0', c1', d1', c2', d2'⟩ T3; have t3 := T3.size; have s3 : w.heap.size + 1 + 1 < w3.heap.size := (by omega); have s3' : w.heap.size + 1 < w3.heap.size := (by omega); have s3'' : w.heap.size < w3.heap.size := (by omega); have n3 : w.heap.size ≠ w3.heap.size := (by omega); have n3' : w.heap.size + 1 ≠ w3.heap.size := (by omega); have n3'' : w.heap.size + 1 + 1 ≠ w3.heap.size := (by omega); obtain ⟨hc3, hf3⟩ := bcell hb3; (try (have r3 : wc.heap.size < w3.heap.size := (by have := hb3.size; simp at this; omega))); (try (have r3' : w2.heap.size < w3.heap.size := (by have := hb3.size; simp at this; omega))); obtain ⟨ca3, cb3, cc3, cd3, ce3, cf3⟩ := id q3)
          | (go_at_call 19; with_reducible refine (H3.out _).mono ?_; rintro e w2 ⟨rfl, hb2⟩; have T2 : Below wc.heap.size wc w2 := below_next (by first | exact (Below.refl wc.heap.size wc) | exact (Below.refl wc.heap.size wc).drew | (refine (Below.refl wc.heap.size wc).alloc ?_ _; have := (Below.refl wc.heap.size wc).size; omega) | (refine ((Below.refl wc.heap.size wc).alloc ?_ _).drew; have := (Below.refl wc.heap.size wc).size; omega) | (refine (Below.refl wc.heap.size wc).drew.alloc ?_ _; have := (Below.refl wc.heap.size wc).size; omega)) hb2; have q2 : w2.cell? ⟨w.heap.size, 0, none⟩ = some (.bool b1) ∧ w2.cell? ⟨w.heap.size, 1, none⟩ = some (.int .i64 v1) ∧ w2.cell? ⟨w.heap.size + 1, 0, none⟩ = some (.bool b2) ∧ w2.cell? ⟨w.heap.size + 1, 1, none⟩ = some (.int .i64 v2) ∧ w2.cell? ⟨w.heap.size + 1 + 1, 0, none⟩ = some (.bool b3) ∧ w2.cell? ⟨w.heap.size + 1 + 1, 1, none⟩ = some (.int .i64 v3) := held3 ⟨c0', d0', c1', d1', c2', d2'⟩ T2; have t2 := T2.size; have s2 : w.heap.size + 1 + 1 < w2.heap.size := (by omega); have s2' : w.heap.size + 1 < w2.heap.size := (by omega); have s2'' : w.heap.size < w2.heap.size := (by omega); have n2 : w.heap.size ≠ w2.heap.size := (by omega); have n2' : w.heap.size + 1 ≠ w2.heap.size := (by omega); have n2'' : w.heap.size + 1 + 1 ≠ w2.heap.size := (by omega); obtain ⟨hc2, hf2⟩ := bcell hb2; (try (have r2 : wc.heap.size < w2.heap.size := (by have := hb2.size; simp at this; omega))); (try (have r2' : w1.heap.size < w2.heap.size := (by have := hb2.size; simp at this; omega))); obtain ⟨ca2, cb2, cc2, cd2, ce2, cf2⟩ := id q2))
      all_goals (try go_wp2_with fail)
      all_goals go_meet
      all_goals refine ⟨_, rfl, ?_, ?_, ?_⟩
      all_goals (first | (go_simp; done) | (refine below_put T3 ?_ _ _; omega) | (refine T3.alloc ?_ _; omega))
    case rest =>
      obtain ⟨q, rfl, hy0, hy1, TY⟩ := hcut
      have gx0 := (TY.cell (p := ⟨p, 0, none⟩) px).trans hx0
      have gx1 := (TY.cell (p := ⟨p, 1, none⟩) px).trans hx1
      have HZ := Lib.hid (below_next HY.out TY)
      clear TY HY
      rcases HL.out with rfl | rfl | rfl
      all_goals go_wp2
      all_goals go_ret
      all_goals exact ⟨rfl, HZ.out⟩
end Go.Proofs.Ythnokbdkgehiaaa.FW
