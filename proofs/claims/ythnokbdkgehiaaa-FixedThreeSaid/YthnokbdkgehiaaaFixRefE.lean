/-
  Contracts of the document's own functions of layer 2, the fifth part: each for all arguments.
-/
import Derived.Test.YthnokbdkgehiaaaFixRefD
set_option linter.unusedSimpArgs false
set_option linter.unusedVariables false
namespace Go.Proofs.Ythnokbdkgehiaaa.FR
open Go.RowKit

theorem add_any (b1 b2 : Bool) (v1 v2 : Int) (h1 : -9223372036854775808 ≤ v1 ∧ v1 ≤ 9223372036854775807) (h2 : -9223372036854775808 ≤ v2 ∧ v2 ≤ 9223372036854775807) (w : World) :
    Calls Try.prog 20 #[.agg #[.bool b1, .int .i64 v1], .agg #[.bool b2, .int .i64 v2]] w fun e w' => e = .returned (.agg #[.bool (nb (addO (rd b1 v1) (rd b2 v2))), .int .i64 (nv (addO (rd b1 v1) (rd b2 v2)))]) ∧ Below w.heap.size w w' := by
  by_cases g1 : b1 = false ∧ v1 ≠ -9223372036854775808
  · by_cases g2 : b2 = false ∧ v2 ≠ -9223372036854775808
    · obtain ⟨rfl, k1⟩ := g1
      obtain ⟨rfl, k2⟩ := g2
      rw [rd_some rfl k1, rd_some rfl k2]
      exact add_yes v1 v2 (by omega) (by omega) (by omega) (by omega) w
    · have h := add_no b1 b2 v1 v2 _ _ (is_any b1 v1) (is_any b2 v2) (by rw [rd_none g2]; simp) w
      rw [rd_none g2]
      cases rd b1 v1 <;> exact h
  · have h := add_no b1 b2 v1 v2 _ _ (is_any b1 v1) (is_any b2 v2) (by rw [rd_none g1]; simp) w
    rw [rd_none g1]
    exact h
theorem mul_any (b1 b2 : Bool) (v1 v2 : Int) (h1 : -9223372036854775808 ≤ v1 ∧ v1 ≤ 9223372036854775807) (h2 : -9223372036854775808 ≤ v2 ∧ v2 ≤ 9223372036854775807) (w : World) :
    Calls Try.prog 28 #[.agg #[.bool b1, .int .i64 v1], .agg #[.bool b2, .int .i64 v2]] w fun e w' => e = .returned (.agg #[.bool (nb (mulO (rd b1 v1) (rd b2 v2))), .int .i64 (nv (mulO (rd b1 v1) (rd b2 v2)))]) ∧ Below w.heap.size w w' := by
  by_cases g1 : b1 = false ∧ v1 ≠ -9223372036854775808
  · by_cases g2 : b2 = false ∧ v2 ≠ -9223372036854775808
    · obtain ⟨rfl, k1⟩ := g1
      obtain ⟨rfl, k2⟩ := g2
      rw [rd_some rfl k1, rd_some rfl k2]
      exact mul_yes v1 v2 (by omega) (by omega) (by omega) (by omega) w
    · have h := mul_no b1 b2 v1 v2 _ _ (is_any b1 v1) (is_any b2 v2) (by rw [rd_none g2]; simp) w
      rw [rd_none g2]
      cases rd b1 v1 <;> exact h
  · have h := mul_no b1 b2 v1 v2 _ _ (is_any b1 v1) (is_any b2 v2) (by rw [rd_none g1]; simp) w
    rw [rd_none g1]
    exact h
theorem neg_any (b : Bool) (v : Int) (h1 : -9223372036854775808 ≤ v ∧ v ≤ 9223372036854775807) (w : World) :
    Calls Try.prog 24 #[.agg #[.bool b, .int .i64 v]] w fun e w' => e = .returned (.agg #[.bool (nb (negO (rd b v))), .int .i64 (nv (negO (rd b v)))]) ∧ Below w.heap.size w w' := by
  by_cases g1 : b = false ∧ v ≠ -9223372036854775808
  · obtain ⟨rfl, k1⟩ := g1
    rw [rd_some rfl k1]
    exact neg_yes v (by omega) (by omega) w
  · rw [rd_none g1]
    exact neg_no b v g1 w
theorem abs_any (b : Bool) (v : Int) (h1 : -9223372036854775808 ≤ v ∧ v ≤ 9223372036854775807) (w : World) :
    Calls Try.prog 26 #[.agg #[.bool b, .int .i64 v]] w fun e w' => e = .returned (.agg #[.bool (nb (absO (rd b v))), .int .i64 (nv (absO (rd b v)))]) ∧ Below w.heap.size w w' := by
  by_cases g1 : b = false ∧ v ≠ -9223372036854775808
  · obtain ⟨rfl, k1⟩ := g1
    rw [rd_some rfl k1]
    exact abs_yes v (by omega) (by omega) w
  · rw [rd_none g1]
    exact abs_no b v g1 w
theorem root_any (b : Bool) (v : Int) (h1 : -9223372036854775808 ≤ v ∧ v ≤ 9223372036854775807) (w : World) :
    Calls Try.prog 32 #[.agg #[.bool b, .int .i64 v]] w fun e w' => e = .returned (.agg #[.bool (nb (rootO (rd b v))), .int .i64 (nv (rootO (rd b v)))]) ∧ Below w.heap.size w w' := by
  by_cases g1 : b = false ∧ v ≠ -9223372036854775808
  · obtain ⟨rfl, k1⟩ := g1
    rw [rd_some rfl k1]
    exact root_yes' v (by omega) (by omega) w
  · rw [rd_none g1]
    exact root_no b v g1 w

/-- What is laid of an answer reads as that answer. -/
theorem rd_back (o : Option Int) (h : inR o) : rd (nb o) (nv o) = o := by
  cases o with
  | none => exact rd_none (by simp [nb])
  | some t => exact rd_some rfl (by have := h t rfl; show t ≠ _; omega)
theorem neg_in (b : Bool) (v : Int) (h1 : -9223372036854775808 ≤ v ∧ v ≤ 9223372036854775807) : inR (negO (rd b v)) := by
  intro t ht
  by_cases g1 : b = false ∧ v ≠ -9223372036854775808
  · rw [rd_some g1.1 g1.2] at ht
    have : -v = t := by simpa [negO] using ht
    omega
  · rw [rd_none g1] at ht
    simp [negO] at ht

set_option maxHeartbeats 1000000 in
theorem sub_any (b1 b2 : Bool) (v1 v2 : Int) (h1 : -9223372036854775808 ≤ v1 ∧ v1 ≤ 9223372036854775807) (h2 : -9223372036854775808 ≤ v2 ∧ v2 ≤ 9223372036854775807) (w : World) :
    Calls Try.prog 22 #[.agg #[.bool b1, .int .i64 v1], .agg #[.bool b2, .int .i64 v2]] w fun e w' => e = .returned (.agg #[.bool (nb (subO (rd b1 v1) (rd b2 v2))), .int .i64 (nv (subO (rd b1 v1) (rd b2 v2)))]) ∧ Below w.heap.size w w' := by
  have hin := neg_in b2 v2 h2
  have HN := neg_any b2 v2 h2
  have hb := rd_back _ hin
  have hr : -9223372036854775808 ≤ nv (negO (rd b2 v2)) ∧ nv (negO (rd b2 v2)) ≤ 9223372036854775807 := by
    cases ho : negO (rd b2 v2) with
    | none => rw [nv_none]; omega
    | some t => have := hin t ho; rw [nv_some]; omega
  have HA := add_any b1 (nb (negO (rd b2 v2))) v1 (nv (negO (rd b2 v2))) h1 hr
  rw [hb] at HA
  have hs : subO (rd b1 v1) (rd b2 v2) = addO (rd b1 v1) (negO (rd b2 v2)) := rfl
  rw [hs]
  generalize addO (rd b1 v1) (negO (rd b2 v2)) = O at HA ⊢
  generalize nb (negO (rd b2 v2)) = c at HN HA
  generalize nv (negO (rd b2 v2)) = x at HN HA
  have GN := Lib.hid HN; have GA := Lib.hid HA
  clear HN HA hin hb hr hs h1 h2
  go_enter Try.func22, Try.ntmps22
  go_wp2_with fail
  go_region_held3 (fun y => y.cell? ⟨w.heap.size, 0, none⟩ = some (.bool b1) ∧ y.cell? ⟨w.heap.size, 1, none⟩ = some (.int .i64 v1) ∧ y.cell? ⟨w.heap.size + 1, 0, none⟩ = some (.bool b2) ∧ y.cell? ⟨w.heap.size + 1, 1, none⟩ = some (.int .i64 v2))
    (first | go_keep)
    (first
      | (go_at_call 24; refine (GN.out _).mono ?_; rintro e w1 ⟨rfl, hb1⟩; obtain ⟨hc1, hf1⟩ := bcell hb1; have z1 : w.heap.size + 1 + 1 < w1.heap.size := (by have := hb1.size; simp at this; omega); have x1 : w.heap.size < w1.heap.size := (by omega); have y1 : w.heap.size + 1 < w1.heap.size := (by omega); have ne1 : w.heap.size + 1 + 1 ≠ w.heap.size := (by omega); have p0 : w1.cell? ⟨w.heap.size, 0, none⟩ = some (.bool b1) := (by go_simp); have p1 : w1.cell? ⟨w.heap.size, 1, none⟩ = some (.int .i64 v1) := (by go_simp); have p2 : w1.cell? ⟨w.heap.size + 1, 0, none⟩ = some (.bool b2) := (by go_simp); have p3 : w1.cell? ⟨w.heap.size + 1, 1, none⟩ = some (.int .i64 v2) := (by go_simp))
      | (go_at_call 20; refine (GA.out _).mono ?_; rintro e w2 ⟨rfl, hb2⟩; obtain ⟨hc2, hf2⟩ := bcell hb2; have q0 : w2.cell? ⟨w.heap.size, 0, none⟩ = some (.bool b1) := (by go_simp); have q1 : w2.cell? ⟨w.heap.size, 1, none⟩ = some (.int .i64 v1) := (by go_simp); have q2 : w2.cell? ⟨w.heap.size + 1, 0, none⟩ = some (.bool b2) := (by go_simp); have q3 : w2.cell? ⟨w.heap.size + 1, 1, none⟩ = some (.int .i64 v2) := (by go_simp)))
  all_goals go_wp2
  have HB1 : Below w.heap.size w w1 := ((((Below.refl _ _).alloc (Nat.le_refl _) _).alloc (by simp) _).alloc (by simp; omega) _).drew.trans (hb1.mono (by simp; omega))
  exact bodyPost_ret (v := .agg #[.bool (nb O), .int .i64 (nv O)]) (by simp [results, Try.results22, go_sem, hc1, hf1, hc2, hf2, z1]) rfl ⟨rfl, below_put (below_next HB1 hb2) (by omega) _ _⟩

/-- So many millionths. -/
def ofO (v : Int) : Option Int := rd false v
theorem of_yes (v : Int) (h : v ≠ -9223372036854775808) (w : World) :
    Calls Try.prog 16 #[.int .i64 v] w fun e w' => e = .returned (.agg #[.bool (nb (ofO v)), .int .i64 (nv (ofO v))]) ∧ Below w.heap.size w w' := by
  have ho : ofO v = some v := rd_some rfl h
  rw [ho]
  have HR := right_f v
  rw [show (v != -9223372036854775808) = true from by rw [bne_iff_ne]; exact h] at HR
  have GR := Lib.hid HR
  clear HR ho h
  go_enter Try.func16, Try.ntmps16
  go_wp2_with fail
  refine (GR.out _).mono ?_; rintro e w1 ⟨rfl, hb1⟩; obtain ⟨hc1, hf1⟩ := bcell hb1
  have z1 : w.heap.size + 1 < w1.heap.size := (by have := hb1.size; simp at this; omega)
  have x1 : w.heap.size < w1.heap.size := by omega
  go_wp2
  exact bodyPost_ret (v := .agg #[.bool false, .int .i64 v]) (by simp [results, Try.results16, go_sem, hc1, hf1, show w.heap.size < w.heap.size + 1 + 1 from by omega]) rfl ⟨rfl, below_put (below_two hb1) (by omega) _ _⟩
theorem of_no (v : Int) (h : v = -9223372036854775808) (w : World) :
    Calls Try.prog 16 #[.int .i64 v] w fun e w' => e = .returned (.agg #[.bool (nb (ofO v)), .int .i64 (nv (ofO v))]) ∧ Below w.heap.size w w' := by
  have ho : ofO v = none := rd_none (fun hh => hh.2 h)
  rw [ho]
  have HR := right_f v
  rw [show (v != -9223372036854775808) = false from by rw [bne_eq_false_iff_eq]; exact h] at HR
  have GR := Lib.hid HR
  clear HR ho h
  go_enter Try.func16, Try.ntmps16
  go_wp2_with fail
  refine (GR.out _).mono ?_; rintro e w1 ⟨rfl, hb1⟩; obtain ⟨hc1, hf1⟩ := bcell hb1
  have z1 : w.heap.size + 1 < w1.heap.size := (by have := hb1.size; simp at this; omega)
  have x1 : w.heap.size < w1.heap.size := by omega
  go_wp2_with fail
  refine (nothing_c _).mono ?_; rintro e w2 ⟨rfl, hb2⟩; obtain ⟨hc2, hf2⟩ := bcell hb2
  go_wp2
  exact bodyPost_ret (v := .agg #[.bool true, .int .i64 0]) (by simp [results, Try.results16, go_sem, hc1, hf1, hc2, hf2, x1, show w.heap.size < w.heap.size + 1 + 1 from by omega]) rfl ⟨rfl, below_put (below_next (below_two hb1) hb2) (by omega) _ _⟩
end Go.Proofs.Ythnokbdkgehiaaa.FR
