/-
  Contracts of the program's own functions of layer 2 (fixed), the fourth part: rounding to so many decimals. Beside it what the document's own functions of that layer return, each for all arguments.
-/
import Derived.Test.YthnokbdkgehiaaaFixPC
import Derived.Test.YthnokbdkgehiaaaFixRefG
set_option linter.unusedSimpArgs false
set_option linter.unusedVariables false
namespace Go.Proofs.Ythnokbdkgehiaaa.FP
open Go.RowKit

theorem round_word (m d n : Nat) (x : Int) (hm : m < 18446744073709551616) (hd0 : 0 < d) (hd : d < 18446744073709551616) (hn : rndV m d = n) (hx : rndE m d = x) (w : World) :
    Calls Try.prog 59 #[.agg #[.int .u64 0, .int .u64 (m : Nat)], .int .u64 d] w fun e w' => e = .returned (.tuple #[.int .u64 (n : Nat), .int .i64 x]) ∧ Below w.heap.size w w' := by
  have h := quo_q (0 * 18446744073709551616 + m) d n x (val_lt (by decide) hm) hd0 hd (by rw [Nat.zero_mul, Nat.zero_add]; exact hn) (by rw [Nat.zero_mul, Nat.zero_add]; exact hx) w
  rw [hi_val (by decide) hm, lo_val (by decide) hm] at h
  exact h
theorem tp_div {k : Nat} (h : k < 6) : FR.tp (6 - k) / 10 = FR.tp (6 - (k + 1)) := by
  have e : 6 - k = 6 - (k + 1) + 1 := by omega
  rw [e, FR.tp_succ]
  exact Nat.mul_div_cancel _ (by decide)

set_option maxRecDepth 100000 in
set_option maxHeartbeats 1000000 in
theorem round_yes (v : Int) (g : Nat) (hg : g ≤ 6) (h0 : -9223372036854775807 ≤ v) (h1 : v ≤ 9223372036854775807) (w : World) :
    Calls Try.prog 33 #[.agg #[.bool false, .int .i64 v], .int .i64 g] w fun e w' => e = .returned (.agg #[.bool (nb (FR.decO (some v) g)), .int .i64 (nv (FR.decO (some v) g))]) ∧ Below w.heap.size w w' := by
  have HM := Lib.hid (missing_yes v (by omega))
  obtain ⟨m, hm⟩ : ∃ m, v.natAbs = m := ⟨_, rfl⟩
  have hm64 : m < 18446744073709551616 := by omega
  have HS := Lib.hid (size_q v m (by omega) h1 hm)
  have hu := FR.tp_le (j := 6 - g) (by omega)
  have hu0 := FR.tp_pos (6 - g)
  obtain ⟨n, hn⟩ : ∃ n, rndV m (FR.tp (6 - g)) = n := ⟨_, rfl⟩
  obtain ⟨x, hx⟩ : ∃ x, rndE m (FR.tp (6 - g)) = x := ⟨_, rfl⟩
  have hn64 : n < 18446744073709551616 := by rw [← hn]; exact FR.rndV_lt _ _
  have HR := Lib.hid (round_word m (FR.tp (6 - g)) n x hm64 hu0 (by omega) hn hx)
  have HP := Lib.hid (mul_c n (FR.tp (6 - g)) hn64 (by omega))
  have ho : FR.decO (some v) g = sgO (hiOf (n * FR.tp (6 - g))) (loOf (n * FR.tp (6 - g))) (decide (v < 0)) := by rw [← hn, ← hm]; rfl
  rw [ho]
  have hs := signed_c (hiOf (n * FR.tp (6 - g))) (loOf (n * FR.tp (6 - g))) (decide (v < 0))
  generalize sgO (hiOf (n * FR.tp (6 - g))) (loOf (n * FR.tp (6 - g))) (decide (v < 0)) = O at hs ⊢
  have HG := Lib.hid hs
  clear hm hn hx ho hs hm64 hn64
  go_enter Try.func33, Try.ntmps33
  go_wp2_with fail
  refine (HM.out _).mono ?_; rintro e w1 ⟨rfl, hb1⟩; obtain ⟨hc1, hf1⟩ := bcell hb1
  have z1 : w.heap.size + 1 < w1.heap.size := (by have := hb1.size; simp at this; omega)
  have x1 : w.heap.size < w1.heap.size := by omega
  have HX := Lib.hid (below_two hb1)
  go_wp2
  go_loop [5, 20] (fun u i => ∃ k : Nat, k ≤ g ∧ i = .int .i64 k ∧ u = .int .u64 (FR.tp (6 - k) : Nat)) (fun _ i => g - (intOf i).toNat)
  case atStart => exact ⟨0, Nat.zero_le _, rfl, rfl⟩
  case round =>
    obtain ⟨k, hk, rfl, rfl⟩ := hrel
    by_cases hlt : k < g
    · have hs := Lib.hid (tp_div (k := k) (by omega))
      have hle := FR.tp_le (j := 6 - k) (by omega)
      generalize FR.tp (6 - k) = U at *
      go_wp2
      refine ⟨⟨k + 1, by omega, by go_num, ?_⟩, by simp [intOf]; omega⟩
      rw [← hs.out]
      go_num
    · obtain rfl : k = g := by omega
      clear hlt hg
      generalize FR.tp (6 - k) = T at *
      go_wp2_with fail
      refine (HS.out _).mono ?_; rintro e w' ⟨rfl, rfl⟩
      go_wp2_with fail
      refine (HR.out _).mono ?_; rintro e w2 ⟨rfl, hb2⟩; obtain ⟨hc2, hf2⟩ := bcell hb2
      have z2 : w.heap.size + 1 < w2.heap.size := Nat.lt_of_lt_of_le z1 hb2.size
      have x2 : w.heap.size < w2.heap.size := by omega
      have HY := Lib.hid (below_next HX.out hb2)
      have K1 : w2.cell? ⟨w.heap.size, 1, none⟩ = some (.int .i64 v) := by go_simp
      have K3 : w2.cell? ⟨w.heap.size + 1, 0, none⟩ = some (.bool false) := by go_simp
      have K4 : w2.cell? ⟨w.heap.size + 1, 1, none⟩ = some (.int .i64 0) := by go_simp
      have F3 : w2.frozen? ⟨w.heap.size + 1, 0, none⟩ = false := by go_simp
      have F4 : w2.frozen? ⟨w.heap.size + 1, 1, none⟩ = false := by go_simp
      clear hc1 hf1 hc2 hf2 hb1 hb2 z1 x1 HM HS HR HX
      go_wp2_with fail
      go_region_held3 (fun y => y.cell? ⟨w.heap.size, 1, none⟩ = some (.int .i64 v))
        (first | go_keep)
        (first
          | (go_at_call 48; refine (HP.out _).mono ?_; rintro e w3 ⟨rfl, hb3⟩; have K1 : w3.cell? ⟨w.heap.size, 1, none⟩ = some (.int .i64 v) := (hb3.cell (p := ⟨w.heap.size, 1, none⟩) (by first | exact x2 | exact Nat.lt_of_lt_of_le x2 HZ.out)).trans K1; have K3 : w3.cell? ⟨w.heap.size + 1, 0, none⟩ = some (.bool false) := (hb3.cell (p := ⟨w.heap.size + 1, 0, none⟩) (by first | exact z2 | exact Nat.lt_of_lt_of_le z2 HZ.out)).trans K3; have K4 : w3.cell? ⟨w.heap.size + 1, 1, none⟩ = some (.int .i64 0) := (hb3.cell (p := ⟨w.heap.size + 1, 1, none⟩) (by first | exact z2 | exact Nat.lt_of_lt_of_le z2 HZ.out)).trans K4; have F3 : w3.frozen? ⟨w.heap.size + 1, 0, none⟩ = false := (hb3.frozen (p := ⟨w.heap.size + 1, 0, none⟩) (by first | exact z2 | exact Nat.lt_of_lt_of_le z2 HZ.out)).trans F3; have F4 : w3.frozen? ⟨w.heap.size + 1, 1, none⟩ = false := (hb3.frozen (p := ⟨w.heap.size + 1, 1, none⟩) (by first | exact z2 | exact Nat.lt_of_lt_of_le z2 HZ.out)).trans F4; have HZ := Lib.hid hb3.size)
          | (go_at_call 47; refine (HG.out _).mono ?_; rintro e w4 ⟨rfl, hb4⟩; have K1 : w4.cell? ⟨w.heap.size, 1, none⟩ = some (.int .i64 v) := (hb4.cell (p := ⟨w.heap.size, 1, none⟩) (by first | exact x2 | exact Nat.lt_of_lt_of_le x2 HZ.out)).trans K1; have K3 : w4.cell? ⟨w.heap.size + 1, 0, none⟩ = some (.bool false) := (hb4.cell (p := ⟨w.heap.size + 1, 0, none⟩) (by first | exact z2 | exact Nat.lt_of_lt_of_le z2 HZ.out)).trans K3; have K4 : w4.cell? ⟨w.heap.size + 1, 1, none⟩ = some (.int .i64 0) := (hb4.cell (p := ⟨w.heap.size + 1, 1, none⟩) (by first | exact z2 | exact Nat.lt_of_lt_of_le z2 HZ.out)).trans K4; have F3 : w4.frozen? ⟨w.heap.size + 1, 0, none⟩ = false := (hb4.frozen (p := ⟨w.heap.size + 1, 0, none⟩) (by first | exact z2 | exact Nat.lt_of_lt_of_le z2 HZ.out)).trans F3; have F4 : w4.frozen? ⟨w.heap.size + 1, 1, none⟩ = false := (hb4.frozen (p := ⟨w.heap.size + 1, 1, none⟩) (by first | exact z2 | exact Nat.lt_of_lt_of_le z2 HZ.out)).trans F4))
      all_goals go_wp2
      all_goals
        exact bodyPost_ret (v := .agg #[.bool (nb O), .int .i64 (nv O)]) (by simp [results, Try.results33, go_sem, K3, K4, F3, F4]) rfl ⟨rfl, below_put (below_next (below_next HY.out.drew hb3) hb4) (by omega) _ _⟩

theorem round_no (b : Bool) (v d : Int) (h : ¬ (b = false ∧ v ≠ -9223372036854775808) ∨ d < 0 ∨ 6 < d) (w : World) :
    Calls Try.prog 33 #[.agg #[.bool b, .int .i64 v], .int .i64 d] w fun e w' => e = .returned (.agg #[.bool true, .int .i64 0]) ∧ Below w.heap.size w w' := by
  by_cases g1 : b = false ∧ v ≠ -9223372036854775808
  · obtain ⟨rfl, k1⟩ := g1
    have HP := Lib.hid (missing_yes v k1)
    have hd : d < 0 ∨ 6 < d := h.resolve_left (fun hh => hh ⟨rfl, k1⟩)
    clear h k1
    rcases hd with hd | hd
    · go_enter Try.func33, Try.ntmps33
      go_wp2_with fail
      refine (HP.out _).mono ?_; rintro e w1 ⟨rfl, hb1⟩; obtain ⟨hc1, hf1⟩ := bcell hb1
      have z1 : w.heap.size + 1 < w1.heap.size := (by have := hb1.size; simp at this; omega)
      go_wp2_with fail
      refine (nothing_c _).mono ?_; rintro e w2 ⟨rfl, hb2⟩; obtain ⟨hc2, hf2⟩ := bcell hb2
      go_wp2
      exact bodyPost_ret (v := .agg #[.bool true, .int .i64 0]) (by simp [results, Try.results33, go_sem, hc1, hf1, hc2, hf2, z1]) rfl ⟨rfl, below_put (below_next (below_two hb1) hb2) (by omega) _ _⟩
    · have hd' : ¬ d < 0 := by omega
      go_enter Try.func33, Try.ntmps33
      go_wp2_with fail
      refine (HP.out _).mono ?_; rintro e w1 ⟨rfl, hb1⟩; obtain ⟨hc1, hf1⟩ := bcell hb1
      have z1 : w.heap.size + 1 < w1.heap.size := (by have := hb1.size; simp at this; omega)
      go_wp2_with fail
      refine (nothing_c _).mono ?_; rintro e w2 ⟨rfl, hb2⟩; obtain ⟨hc2, hf2⟩ := bcell hb2
      go_wp2
      exact bodyPost_ret (v := .agg #[.bool true, .int .i64 0]) (by simp [results, Try.results33, go_sem, hc1, hf1, hc2, hf2, z1]) rfl ⟨rfl, below_put (below_next (below_two hb1) hb2) (by omega) _ _⟩
  · have HP := Lib.hid (missing_no b v g1)
    clear h g1
    go_enter Try.func33, Try.ntmps33
    go_wp2_with fail
    refine (HP.out _).mono ?_; rintro e w1 ⟨rfl, hb1⟩; obtain ⟨hc1, hf1⟩ := bcell hb1
    have z1 : w.heap.size + 1 < w1.heap.size := (by have := hb1.size; simp at this; omega)
    go_wp2_with fail
    refine (nothing_c _).mono ?_; rintro e w2 ⟨rfl, hb2⟩; obtain ⟨hc2, hf2⟩ := bcell hb2
    go_wp2
    exact bodyPost_ret (v := .agg #[.bool true, .int .i64 0]) (by simp [results, Try.results33, go_sem, hc1, hf1, hc2, hf2, z1]) rfl ⟨rfl, below_put (below_next (below_two hb1) hb2) (by omega) _ _⟩

/-- A number, rounded to any count of decimals. -/
def decI (o : Option Int) (d : Int) : Option Int := if 0 ≤ d ∧ d ≤ 6 then FR.decO o d.toNat else none
theorem round_any (b : Bool) (v d : Int) (h1 : -9223372036854775808 ≤ v ∧ v ≤ 9223372036854775807) (w : World) : Calls Try.prog 33 #[.agg #[.bool b, .int .i64 v], .int .i64 d] w fun e w' => e = .returned (.agg #[.bool (nb (decI (rd b v) d)), .int .i64 (nv (decI (rd b v) d))]) ∧ Below w.heap.size w w' := by
  by_cases g1 : b = false ∧ v ≠ -9223372036854775808
  · by_cases g2 : 0 ≤ d ∧ d ≤ 6
    · obtain ⟨rfl, k1⟩ := g1
      obtain ⟨g, rfl⟩ : ∃ g : Nat, d = g := ⟨d.toNat, by omega⟩
      rw [rd_some rfl k1, show decI (some v) g = FR.decO (some v) g from if_pos g2]
      exact round_yes v g (by omega) (by omega) (by omega) w
    · rw [show decI (rd b v) d = none from if_neg g2]
      exact round_no b v d (.inr (by omega)) w
  · rw [rd_none g1, show decI none d = none from by unfold decI; split <;> rfl]
    exact round_no b v d (.inl g1) w
end Go.Proofs.Ythnokbdkgehiaaa.FP

namespace Go.Proofs.Ythnokbdkgehiaaa.FR
open Go.RowKit
theorem round_any (b : Bool) (v d : Int) (h1 : -9223372036854775808 ≤ v ∧ v ≤ 9223372036854775807) (w : World) :
    Calls Try.prog 34 #[.agg #[.bool b, .int .i64 v], .int .i64 d] w fun e w' => e = .returned (.agg #[.bool (nb (FP.decI (rd b v) d)), .int .i64 (nv (FP.decI (rd b v) d))]) ∧ Below w.heap.size w w' := by
  by_cases g1 : b = false ∧ v ≠ -9223372036854775808
  · by_cases g2 : 0 ≤ d ∧ d ≤ 6
    · obtain ⟨rfl, k1⟩ := g1
      obtain ⟨g, rfl⟩ : ∃ g : Nat, d = g := ⟨d.toNat, by omega⟩
      rw [rd_some rfl k1, show FP.decI (some v) g = FR.decO (some v) g from if_pos g2]
      exact round_yes v g (by omega) (by omega) (by omega) w
    · rw [show FP.decI (rd b v) d = none from if_neg g2]
      exact round_no b v d (.inr (by omega)) w
  · rw [rd_none g1, show FP.decI none d = none from by unfold FP.decI; split <;> rfl]
    exact round_no b v d (.inl g1) w
theorem of_any (v : Int) (w : World) :
    Calls Try.prog 16 #[.int .i64 v] w fun e w' => e = .returned (.agg #[.bool (nb (rd false v)), .int .i64 (nv (rd false v))]) ∧ Below w.heap.size w w' := by
  by_cases h : v = -9223372036854775808
  · exact of_no v h w
  · exact of_yes v h w
theorem div_zero (a : Int) (ha0 : -9223372036854775807 ≤ a) (ha1 : a ≤ 9223372036854775807) (w : World) :
    Calls Try.prog 30 #[.agg #[.bool false, .int .i64 a], .agg #[.bool false, .int .i64 0]] w fun e w' => e = .returned (.agg #[.bool true, .int .i64 0]) ∧ Below w.heap.size w w' := by
  have HP := Lib.hid (is_yes a (by omega)); have HQ := Lib.hid (is_yes 0 (by omega))
  clear ha0 ha1
  go_enter Try.func30, Try.ntmps30
  go_wp2_with fail
  refine (HP.out _).mono ?_; rintro e w1 ⟨rfl, hb1⟩; obtain ⟨hc1, hf1⟩ := bcell hb1
  have z1 : w.heap.size + 1 + 1 < w1.heap.size := (by have := hb1.size; simp at this; omega)
  have y1 : w.heap.size + 1 < w1.heap.size := by omega
  have x1 : w.heap.size < w1.heap.size := by omega
  go_wp2_with fail
  refine (HQ.out _).mono ?_; rintro e w2 ⟨rfl, hb2⟩; obtain ⟨hc2, hf2⟩ := bcell hb2
  have z2 : w.heap.size + 1 + 1 < w2.heap.size := Nat.lt_of_lt_of_le z1 hb2.size
  have y2 : w.heap.size + 1 < w2.heap.size := by omega
  go_wp2_with fail
  refine (nothing_c _).mono ?_; rintro e w3 ⟨rfl, hb3⟩; obtain ⟨hc3, hf3⟩ := bcell hb3
  go_wp2
  exact bodyPost_ret (v := .agg #[.bool true, .int .i64 0]) (by simp [results, Try.results30, go_sem, hc1, hf1, hc2, hf2, hc3, hf3, z1, z2]) rfl ⟨rfl, below_put (below_next (below_next (below_three hb1) hb2) hb3) (by omega) _ _⟩
theorem div_any (b1 b2 : Bool) (v1 v2 : Int) (h1 : -9223372036854775808 ≤ v1 ∧ v1 ≤ 9223372036854775807) (h2 : -9223372036854775808 ≤ v2 ∧ v2 ≤ 9223372036854775807) (w : World) :
    Calls Try.prog 30 #[.agg #[.bool b1, .int .i64 v1], .agg #[.bool b2, .int .i64 v2]] w fun e w' => e = .returned (.agg #[.bool (nb (divO (rd b1 v1) (rd b2 v2))), .int .i64 (nv (divO (rd b1 v1) (rd b2 v2)))]) ∧ Below w.heap.size w w' := by
  by_cases g1 : b1 = false ∧ v1 ≠ -9223372036854775808
  · by_cases g2 : b2 = false ∧ v2 ≠ -9223372036854775808
    · obtain ⟨rfl, k1⟩ := g1
      obtain ⟨rfl, k2⟩ := g2
      rw [rd_some rfl k1, rd_some rfl k2]
      by_cases hz : v2 = 0
      · subst hz
        rw [show divO (some v1) (some 0) = none from by simp [divO]]
        exact div_zero v1 (by omega) (by omega) w
      · exact div_yes v1 v2 hz (by omega) (by omega) (by omega) (by omega) w
    · have h := div_no b1 b2 v1 v2 _ _ (is_any b1 v1) (is_any b2 v2) (by rw [rd_none g2]; simp) w
      rw [rd_none g2]
      cases rd b1 v1 <;> exact h
  · have h := div_no b1 b2 v1 v2 _ _ (is_any b1 v1) (is_any b2 v2) (by rw [rd_none g1]; simp) w
    rw [rd_none g1]
    exact h
end Go.Proofs.Ythnokbdkgehiaaa.FR
