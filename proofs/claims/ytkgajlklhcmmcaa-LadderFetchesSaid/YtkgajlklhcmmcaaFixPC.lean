/-
  Contracts of the program's own functions of layer 2 (fixed), the third part: quotients with a sign, products, quotients, roots, whole numbers.
-/
import Derived.Test.YtkgajlklhcmmcaaFixPB
import Derived.Test.YtkgajlklhcmmcaaWidePRound
import Derived.Test.YtkgajlklhcmmcaaWidePRoot
set_option linter.unusedSimpArgs false
set_option linter.unusedVariables false
namespace Go.Proofs.Ytkgajlklhcmmcaa.FP
open Go.RowKit

theorem rnd_cases (p d : Nat) (below : Bool) : (rndE p d = 3 ∧ rndO p d below = none) ∨ (rndE p d = 0 ∧ rndO p d below = signO (rndV p d) below ∧ rndV p d < 18446744073709551616) := by
  unfold rndE rndO rndV
  by_cases h : hiOf (upN p d) = 0
  · right; rw [if_pos h, if_pos h, if_pos h]; exact ⟨rfl, rfl, loOf_lt _⟩
  · left; rw [if_neg h, if_neg h]; exact ⟨rfl, rfl⟩
theorem quo_q (p d n : Nat) (x : Int) (hp : p < M) (hd0 : 0 < d) (hd : d < 18446744073709551616) (hn : rndV p d = n) (hx : rndE p d = x) (w : World) :
    Calls Try.prog 88 #[.agg #[.int .u64 (hiOf p : Nat), .int .u64 (loOf p : Nat)], .int .u64 d] w fun e w' => e = .returned (.tuple #[.int .u64 (n : Nat), .int .i64 x]) ∧ Below w.heap.size w w' := by
  subst hn hx
  exact round_c p d hp hd0 hd w
/-- A quotient of sizes, rounded, with a sign. -/
theorem quotient_c (below : Bool) (p d : Nat) (hp : p < M) (hd0 : 0 < d) (hd : d < 18446744073709551616) (w : World) :
    Calls Try.prog 83 #[.bool below, .agg #[.int .u64 (hiOf p : Nat), .int .u64 (loOf p : Nat)], .int .u64 d] w fun e w' => e = .returned (.agg #[.bool (nb (rndO p d below)), .int .i64 (nv (rndO p d below))]) ∧ Below w.heap.size w w' := by
  obtain ⟨n, hn⟩ : ∃ n, rndV p d = n := ⟨_, rfl⟩
  obtain ⟨x, hx⟩ : ∃ x, rndE p d = x := ⟨_, rfl⟩
  have HR := Lib.hid (quo_q p d n x hp hd0 hd hn hx)
  have hc := rnd_cases p d below
  rw [hn, hx] at hc
  obtain ⟨O, hO⟩ : ∃ O, rndO p d below = O := ⟨_, rfl⟩
  rw [hO] at hc ⊢
  clear hn hx hO hp hd0
  rcases hc with ⟨rfl, rfl⟩ | ⟨rfl, ho, hk⟩
  · go_enter Try.func83, Try.ntmps83
    go_wp2_with fail
    refine (HR.out _).mono ?_; rintro e w1 ⟨rfl, hb1⟩; obtain ⟨hc1, hf1⟩ := bcell hb1
    go_wp2_with fail
    refine (nothing_c _).mono ?_; rintro e w2 ⟨rfl, hb2⟩; obtain ⟨hc2, hf2⟩ := bcell hb2
    have z1 : w.heap.size + 1 < w1.heap.size := (by have := hb1.size; simp at this; omega)
    go_wp2
    exact bodyPost_ret (v := .agg #[.bool true, .int .i64 0]) (by simp [results, Try.results83, go_sem, hc1, hf1, hc2, hf2, z1]) rfl ⟨rfl, below_put (below_next (below_two hb1) hb2) (by omega) _ _⟩
  · have hs := signed_c 0 n below
    rw [show sgO 0 n below = O from (if_pos rfl).trans ho.symm] at hs
    have HS := Lib.hid hs
    clear hs ho hk
    go_enter Try.func83, Try.ntmps83
    go_wp2_with fail
    refine (HR.out _).mono ?_; rintro e w1 ⟨rfl, hb1⟩; obtain ⟨hc1, hf1⟩ := bcell hb1
    have z1 : w.heap.size + 1 < w1.heap.size := (by have := hb1.size; simp at this; omega)
    go_wp2_with fail
    refine (HS.out _).mono ?_; rintro e w2 ⟨rfl, hb2⟩; obtain ⟨hc2, hf2⟩ := bcell hb2
    go_wp2
    exact bodyPost_ret (v := .agg #[.bool (nb O), .int .i64 (nv O)]) (by simp [results, Try.results83, go_sem, hc1, hf1, hc2, hf2, z1]) rfl ⟨rfl, below_put (below_next (below_two hb1) hb2) (by omega) _ _⟩
theorem quotient_no (below : Bool) (p : Nat) (w : World) :
    Calls Try.prog 83 #[.bool below, .agg #[.int .u64 (hiOf p : Nat), .int .u64 (loOf p : Nat)], .int .u64 0] w fun e w' => e = .returned (.agg #[.bool true, .int .i64 0]) ∧ Below w.heap.size w w' := by
  have HR := Lib.hid (round_no p)
  go_enter Try.func83, Try.ntmps83
  go_wp2_with fail
  refine (HR.out _).mono ?_; rintro e w1 ⟨rfl, hb1⟩; obtain ⟨hc1, hf1⟩ := bcell hb1
  have z1 : w.heap.size + 1 < w1.heap.size := (by have := hb1.size; simp at this; omega)
  go_wp2_with fail
  refine (nothing_c _).mono ?_; rintro e w2 ⟨rfl, hb2⟩; obtain ⟨hc2, hf2⟩ := bcell hb2
  go_wp2
  exact bodyPost_ret (v := .agg #[.bool true, .int .i64 0]) (by simp [results, Try.results83, go_sem, hc1, hf1, hc2, hf2, z1]) rfl ⟨rfl, below_put (below_next (below_two hb1) hb2) (by omega) _ _⟩

/-- A quotient: where one of the two is nothing, so is the answer. -/
theorem div_no (b1 b2 : Bool) (v1 v2 : Int) (p q : Bool) (hp : Mis b1 v1 p) (hq : Mis b2 v2 q) (h : (p || q) = true) (w : World) :
    Calls Try.prog 72 #[.agg #[.bool b1, .int .i64 v1], .agg #[.bool b2, .int .i64 v2]] w fun e w' => e = .returned (.agg #[.bool true, .int .i64 0]) ∧ Below w.heap.size w w' := by
  have HP := Lib.hid hp; have HQ := Lib.hid hq
  clear hp hq
  cases p
  · obtain rfl : q = true := by simpa using h
    clear h
    go_enter Try.func72, Try.ntmps72
    go_wp2_with fail
    refine (HP.out _).mono ?_; rintro e w1 ⟨rfl, hb1⟩; obtain ⟨hc1, hf1⟩ := bcell hb1
    have z1 : w.heap.size + 1 + 1 < w1.heap.size := (by have := hb1.size; simp at this; omega)
    have y1 : w.heap.size + 1 < w1.heap.size := by omega
    have x1 : w.heap.size < w1.heap.size := by omega
    go_wp2_with fail
    refine (HQ.out _).mono ?_; rintro e w2 ⟨rfl, hb2⟩; obtain ⟨hc2, hf2⟩ := bcell hb2
    have z2 : w.heap.size + 1 + 1 < w2.heap.size := Nat.lt_of_lt_of_le z1 hb2.size
    go_wp2_with fail
    refine (nothing_c _).mono ?_; rintro e w3 ⟨rfl, hb3⟩; obtain ⟨hc3, hf3⟩ := bcell hb3
    go_wp2
    exact bodyPost_ret (v := .agg #[.bool true, .int .i64 0]) (by simp [results, Try.results72, go_sem, hc1, hf1, hc2, hf2, hc3, hf3, z1, z2]) rfl ⟨rfl, below_put (below_next (below_next (below_three hb1) hb2) hb3) (by omega) _ _⟩
  · clear h
    go_enter Try.func72, Try.ntmps72
    go_wp2_with fail
    refine (HP.out _).mono ?_; rintro e w1 ⟨rfl, hb1⟩; obtain ⟨hc1, hf1⟩ := bcell hb1
    have z1 : w.heap.size + 1 + 1 < w1.heap.size := (by have := hb1.size; simp at this; omega)
    go_wp2_with fail
    refine (nothing_c _).mono ?_; rintro e w2 ⟨rfl, hb2⟩; obtain ⟨hc2, hf2⟩ := bcell hb2
    go_wp2
    exact bodyPost_ret (v := .agg #[.bool true, .int .i64 0]) (by simp [results, Try.results72, go_sem, hc1, hf1, hc2, hf2, z1]) rfl ⟨rfl, below_put (below_next (below_three hb1) hb2) (by omega) _ _⟩

set_option maxRecDepth 100000 in
set_option maxHeartbeats 1000000 in
theorem div_yes (a b : Int) (ha0 : -9223372036854775807 ≤ a) (ha1 : a ≤ 9223372036854775807) (hb0 : -9223372036854775807 ≤ b) (hb1 : b ≤ 9223372036854775807) (w : World) :
    Calls Try.prog 72 #[.agg #[.bool false, .int .i64 a], .agg #[.bool false, .int .i64 b]] w fun e w' => e = .returned (.agg #[.bool (nb (divO (some a) (some b))), .int .i64 (nv (divO (some a) (some b)))]) ∧ Below w.heap.size w w' := by
  have hi := Lib.hid (missing_yes a (by omega))
  have hj := Lib.hid (missing_yes b (by omega))
  obtain ⟨m, hm⟩ : ∃ m, a.natAbs = m := ⟨_, rfl⟩
  obtain ⟨n, hn⟩ : ∃ n, b.natAbs = n := ⟨_, rfl⟩
  have hm64 : m < 18446744073709551616 := by omega
  have hn64 : n < 18446744073709551616 := by omega
  have hsa := Lib.hid (size_q a m (by omega) ha1 hm)
  have hsb := Lib.hid (size_q b n (by omega) hb1 hn)
  have hmul := Lib.hid (mul_c m 1000000 hm64 (by decide))
  obtain ⟨O, hO⟩ : ∃ O, divO (some a) (some b) = O := ⟨_, rfl⟩
  rw [hO]
  have hq : ∀ w : World, Calls Try.prog 83 #[.bool (decide (a < 0) != decide (b < 0)), .agg #[.int .u64 (hiOf (m * 1000000) : Nat), .int .u64 (loOf (m * 1000000) : Nat)], .int .u64 (n : Nat)] w fun e w' => e = .returned (.agg #[.bool (nb O), .int .i64 (nv O)]) ∧ Below w.heap.size w w' := by
    by_cases hz : b = 0
    · have h0 : n = 0 := by omega
      have h1 : O = none := by rw [← hO]; exact if_pos hz
      subst h0 h1
      exact quotient_no _ _
    · have h1 : O = rndO (m * 1000000) n (decide (a < 0) != decide (b < 0)) := by rw [← hO, ← hm, ← hn]; exact if_neg hz
      subst h1
      exact quotient_c _ _ n (prod_lt hm64 (by decide)) (by omega) hn64
  have hquo := Lib.hid hq
  clear hq hO
  clear hm hn hm64 hn64 ha0 ha1 hb0 hb1
  go_enter Try.func72, Try.ntmps72
  go_wp2_with fail
  refine (hi.out _).mono ?_; rintro e w1 ⟨rfl, hb1⟩; obtain ⟨hc1, hf1⟩ := bcell hb1
  have z1 : w.heap.size + 1 + 1 < w1.heap.size := (by have := hb1.size; simp at this; omega)
  have z1' : w.heap.size + 1 < w1.heap.size := by omega
  have z1'' : w.heap.size < w1.heap.size := by omega
  go_wp2_with fail
  refine (hj.out _).mono ?_; rintro e w2 ⟨rfl, hb2⟩; obtain ⟨hc2, hf2⟩ := bcell hb2
  have z2 : w.heap.size + 1 + 1 < w2.heap.size := Nat.lt_of_lt_of_le z1 hb2.size
  have z2' : w.heap.size + 1 < w2.heap.size := by omega
  have z2'' : w.heap.size < w2.heap.size := by omega
  have HX : Below w.heap.size w w2 := below_next (below_three hb1) hb2
  go_wp2_with fail
  have K1 : w2.cell? ⟨w.heap.size, 1, none⟩ = some (.int .i64 a) := by go_simp
  have K2 : w2.cell? ⟨w.heap.size + 1, 1, none⟩ = some (.int .i64 b) := by go_simp
  have K3 : w2.cell? ⟨w.heap.size + 1 + 1, 0, none⟩ = some (.bool false) := by go_simp
  have K4 : w2.cell? ⟨w.heap.size + 1 + 1, 1, none⟩ = some (.int .i64 0) := by go_simp
  have F3 : w2.frozen? ⟨w.heap.size + 1 + 1, 0, none⟩ = false := by go_simp
  have F4 : w2.frozen? ⟨w.heap.size + 1 + 1, 1, none⟩ = false := by go_simp
  clear hc1 hf1 hc2 hf2 hb1 hb2 z1 z1' z1'' hi hj
  have ne1 : w.heap.size + 1 + 1 ≠ w.heap.size := by omega
  have HZ := Lib.hid (Nat.le_refl w2.heap.size)
  go_region_held3 (fun y => y.cell? ⟨w.heap.size, 1, none⟩ = some (.int .i64 a) ∧ y.cell? ⟨w.heap.size + 1, 1, none⟩ = some (.int .i64 b))
    (first | go_keep)
    (first
      | (go_at_call_of 85 (a); refine (hsa.out _).mono ?_; rintro e w' ⟨rfl, rfl⟩)
      | (go_at_call_of 85 (b); refine (hsb.out _).mono ?_; rintro e w' ⟨rfl, rfl⟩)
      | (go_at_call 84; refine (hmul.out _).mono ?_; rintro e w3 ⟨rfl, hb3⟩; have K1 : w3.cell? ⟨w.heap.size, 1, none⟩ = some (.int .i64 a) := (hb3.cell (p := ⟨w.heap.size, 1, none⟩) (by first | exact z2'' | exact Nat.lt_of_lt_of_le z2'' HZ.out)).trans K1; have K2 : w3.cell? ⟨w.heap.size + 1, 1, none⟩ = some (.int .i64 b) := (hb3.cell (p := ⟨w.heap.size + 1, 1, none⟩) (by first | exact z2' | exact Nat.lt_of_lt_of_le z2' HZ.out)).trans K2; have K3 : w3.cell? ⟨w.heap.size + 1 + 1, 0, none⟩ = some (.bool false) := (hb3.cell (p := ⟨w.heap.size + 1 + 1, 0, none⟩) (by first | exact z2 | exact Nat.lt_of_lt_of_le z2 HZ.out)).trans K3; have K4 : w3.cell? ⟨w.heap.size + 1 + 1, 1, none⟩ = some (.int .i64 0) := (hb3.cell (p := ⟨w.heap.size + 1 + 1, 1, none⟩) (by first | exact z2 | exact Nat.lt_of_lt_of_le z2 HZ.out)).trans K4; have F3 : w3.frozen? ⟨w.heap.size + 1 + 1, 0, none⟩ = false := (hb3.frozen (p := ⟨w.heap.size + 1 + 1, 0, none⟩) (by first | exact z2 | exact Nat.lt_of_lt_of_le z2 HZ.out)).trans F3; have F4 : w3.frozen? ⟨w.heap.size + 1 + 1, 1, none⟩ = false := (hb3.frozen (p := ⟨w.heap.size + 1 + 1, 1, none⟩) (by first | exact z2 | exact Nat.lt_of_lt_of_le z2 HZ.out)).trans F4; have HZ := Lib.hid hb3.size)
      | (go_at_call 83; refine (hquo.out _).mono ?_; rintro e w4 ⟨rfl, hb4⟩; have K1 : w4.cell? ⟨w.heap.size, 1, none⟩ = some (.int .i64 a) := (hb4.cell (p := ⟨w.heap.size, 1, none⟩) (by first | exact z2'' | exact Nat.lt_of_lt_of_le z2'' HZ.out)).trans K1; have K2 : w4.cell? ⟨w.heap.size + 1, 1, none⟩ = some (.int .i64 b) := (hb4.cell (p := ⟨w.heap.size + 1, 1, none⟩) (by first | exact z2' | exact Nat.lt_of_lt_of_le z2' HZ.out)).trans K2; have K3 : w4.cell? ⟨w.heap.size + 1 + 1, 0, none⟩ = some (.bool false) := (hb4.cell (p := ⟨w.heap.size + 1 + 1, 0, none⟩) (by first | exact z2 | exact Nat.lt_of_lt_of_le z2 HZ.out)).trans K3; have K4 : w4.cell? ⟨w.heap.size + 1 + 1, 1, none⟩ = some (.int .i64 0) := (hb4.cell (p := ⟨w.heap.size + 1 + 1, 1, none⟩) (by first | exact z2 | exact Nat.lt_of_lt_of_le z2 HZ.out)).trans K4; have F3 : w4.frozen? ⟨w.heap.size + 1 + 1, 0, none⟩ = false := (hb4.frozen (p := ⟨w.heap.size + 1 + 1, 0, none⟩) (by first | exact z2 | exact Nat.lt_of_lt_of_le z2 HZ.out)).trans F3; have F4 : w4.frozen? ⟨w.heap.size + 1 + 1, 1, none⟩ = false := (hb4.frozen (p := ⟨w.heap.size + 1 + 1, 1, none⟩) (by first | exact z2 | exact Nat.lt_of_lt_of_le z2 HZ.out)).trans F4))
  all_goals go_wp2
  all_goals
    exact bodyPost_ret (v := .agg #[.bool (nb O), .int .i64 (nv O)]) (by simp [results, Try.results72, go_sem, K3, K4, F3, F4]) rfl ⟨rfl, below_put (below_next (below_next HX.drew hb3) hb4) (by omega) _ _⟩
theorem div_any (b1 b2 : Bool) (v1 v2 : Int) (h1 : -9223372036854775808 ≤ v1 ∧ v1 ≤ 9223372036854775807) (h2 : -9223372036854775808 ≤ v2 ∧ v2 ≤ 9223372036854775807) (w : World) :
    Calls Try.prog 72 #[.agg #[.bool b1, .int .i64 v1], .agg #[.bool b2, .int .i64 v2]] w fun e w' => e = .returned (.agg #[.bool (nb (divO (rd b1 v1) (rd b2 v2))), .int .i64 (nv (divO (rd b1 v1) (rd b2 v2)))]) ∧ Below w.heap.size w w' := by
  by_cases g1 : b1 = false ∧ v1 ≠ -9223372036854775808
  · by_cases g2 : b2 = false ∧ v2 ≠ -9223372036854775808
    · obtain ⟨rfl, k1⟩ := g1
      obtain ⟨rfl, k2⟩ := g2
      rw [rd_some rfl k1, rd_some rfl k2]
      exact div_yes v1 v2 (by omega) (by omega) (by omega) (by omega) w
    · have h := div_no b1 b2 v1 v2 _ _ (missing_c b1 v1) (missing_c b2 v2) (by rw [rd_none g2]; simp) w
      rw [rd_none g2]
      cases rd b1 v1 <;> exact h
  · have h := div_no b1 b2 v1 v2 _ _ (missing_c b1 v1) (missing_c b2 v2) (by rw [rd_none g1]; simp) w
    rw [rd_none g1]
    exact h

theorem int_c (n : Int) (h0 : -9223372036854775808 ≤ n) (h1 : n ≤ 9223372036854775807) (w : World) : Calls Try.prog 75 #[.int .i64 n] w fun e w' => e = .returned (.agg #[.bool (nb (intO n)), .int .i64 (nv (intO n))]) ∧ Below w.heap.size w w' := by
  obtain ⟨m, hm⟩ : ∃ m, n.natAbs = m := ⟨_, rfl⟩
  have hm64 : m < 18446744073709551616 := by omega
  have HS := Lib.hid (size_q n m h0 h1 hm)
  have HM := Lib.hid (mul_c m 1000000 hm64 (by decide))
  have hs := signed_c (hiOf (m * 1000000)) (loOf (m * 1000000)) (decide (n < 0))
  have ho : intO n = sgO (hiOf (m * 1000000)) (loOf (m * 1000000)) (decide (n < 0)) := by rw [← hm]; rfl
  rw [ho]
  generalize sgO (hiOf (m * 1000000)) (loOf (m * 1000000)) (decide (n < 0)) = O at hs ⊢
  have HG := Lib.hid hs
  clear hm ho hs h0 h1 hm64
  go_enter Try.func75, Try.ntmps75
  go_wp2_with fail
  refine (HS.out _).mono ?_; rintro e w' ⟨rfl, rfl⟩
  go_wp2_with fail
  refine (HM.out _).mono ?_; rintro e w1 ⟨rfl, hb1⟩; obtain ⟨hc1, hf1⟩ := bcell hb1
  have z1 : w.heap.size < w1.heap.size := (by have := hb1.size; simp at this; omega)
  go_wp2_with fail
  refine (HG.out _).mono ?_; rintro e w2 ⟨rfl, hb2⟩; obtain ⟨hc2, hf2⟩ := bcell hb2
  go_wp2
  exact bodyPost_ret (v := .agg #[.bool (nb O), .int .i64 (nv O)]) (by simp [results, Try.results75, go_sem, hc1, hf1, hc2, hf2, z1]) rfl ⟨rfl, below_put (below_next (below_box hb1) hb2) (by omega) _ _⟩
end Go.Proofs.Ytkgajlklhcmmcaa.FP
