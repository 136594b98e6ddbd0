/-
  Contracts of the document's own functions of layer 2, the third part: products and quotients where both count.
-/
import Derived.Test.YthnokbdkgehiaaaFixRefB
import Derived.Deep.DeepCutAuto
set_option linter.unusedSimpArgs false
set_option linter.unusedVariables false
namespace Go.Proofs.Ythnokbdkgehiaaa.FR
open Go.RowKit

/-- The rounded quotient of a number of 128 bits, its answer under names. -/
theorem rround_q (v d n : Nat) (x : Int) (hv : v < M) (hd0 : 0 < d) (hd : d < 18446744073709551616) (hn : rndV v d = n) (hx : rndE v d = x) (w : World) :
    Calls Try.prog 56 #[.agg #[.int .u64 (hiOf v : Nat), .int .u64 (loOf v : Nat)], .int .u64 d] w fun e w' =>
      e = .returned (.tuple #[.int .u64 (n : Nat), .int .i64 x]) ∧ Below w.heap.size w w' := by
  subst hn hx
  exact rround_c v d hv hd0 hd w
theorem rnd_cases (p d : Nat) (below : Bool) : (rndE p d = 3 ∧ rndO p d below = none) ∨ (rndE p d = 0 ∧ rndO p d below = signO (rndV p d) below ∧ rndV p d < 18446744073709551616) := by
  unfold rndE rndO rndV
  by_cases h : hiOf (upN p d) = 0
  · right; rw [if_pos h, if_pos h, if_pos h]; exact ⟨rfl, rfl, loOf_lt _⟩
  · left; rw [if_neg h, if_neg h]; exact ⟨rfl, rfl⟩

set_option maxRecDepth 100000 in
set_option maxHeartbeats 1000000 in
/-- A product, where both count. -/
theorem mul_yes (a b : Int) (ha0 : -9223372036854775807 ≤ a) (ha1 : a ≤ 9223372036854775807) (hb0 : -9223372036854775807 ≤ b) (hb1 : b ≤ 9223372036854775807) (w : World) :
    Calls Try.prog 28 #[.agg #[.bool false, .int .i64 a], .agg #[.bool false, .int .i64 b]] w fun e w' => e = .returned (.agg #[.bool (nb (mulO (some a) (some b))), .int .i64 (nv (mulO (some a) (some b)))]) ∧ Below w.heap.size w w' := by
  have hi := Lib.hid (is_yes a (by omega))
  have hj := Lib.hid (is_yes b (by omega))
  obtain ⟨m, hm⟩ : ∃ m, a.natAbs = m := ⟨_, rfl⟩
  obtain ⟨n, hn⟩ : ∃ n, b.natAbs = n := ⟨_, rfl⟩
  have hm64 : m < 18446744073709551616 := by omega
  have hn64 : n < 18446744073709551616 := by omega
  have hsa := Lib.hid (size_q a m (by omega) ha1 hm)
  have hsb := Lib.hid (size_q b n (by omega) hb1 hn)
  have hmul := Lib.hid (rmul_c m n hm64 hn64)
  obtain ⟨k, hk⟩ : ∃ k, rndV (m * n) 1000000 = k := ⟨_, rfl⟩
  obtain ⟨x, hx⟩ : ∃ x, rndE (m * n) 1000000 = x := ⟨_, rfl⟩
  have hrd := Lib.hid (rround_q (m * n) 1000000 k x (prod_lt hm64 hn64) (by decide) (by decide) hk hx)
  have hO : mulO (some a) (some b) = rndO (m * n) 1000000 (decide (a < 0) != decide (b < 0)) := by rw [← hm, ← hn]; rfl
  have hc := rnd_cases (m * n) 1000000 (decide (a < 0) != decide (b < 0))
  rw [hk, hx] at hc
  rw [hO]
  obtain ⟨O, hO'⟩ : ∃ O, rndO (m * n) 1000000 (decide (a < 0) != decide (b < 0)) = O := ⟨_, rfl⟩
  rw [hO'] at hc ⊢
  have HC := Lib.hid hc
  clear hm hn hk hx hO hO' hc
  go_enter Try.func28, Try.ntmps28
  go_wp2_with fail
  refine (hi.out _).mono ?_; rintro e w1 ⟨rfl, hb1⟩; obtain ⟨hc1, hf1⟩ := bcell hb1
  have z1 : w.heap.size + 1 + 1 < w1.heap.size := (by have := hb1.size; simp at this; omega)
  have z1' : w.heap.size + 1 < w1.heap.size := by omega
  have z1'' : w.heap.size < w1.heap.size := by omega
  go_wp2_with fail
  refine (hj.out _).mono ?_; rintro e w2 ⟨rfl, hb2⟩; obtain ⟨hc2, hf2⟩ := bcell hb2
  have z2 : w.heap.size + 1 + 1 < w2.heap.size := Nat.lt_of_lt_of_le z1 hb2.size
  have z2' : w.heap.size + 1 < w2.heap.size := by omega
  have z2'' : w.heap.size < w2.heap.size := by omega
  have HX : Below w.heap.size w w2 := below_next (below_three hb1) hb2
  go_wp2_with fail
  have K1 : w2.cell? ⟨w.heap.size, 1, none⟩ = some (.int .i64 a) := by go_simp
  have K2 : w2.cell? ⟨w.heap.size + 1, 1, none⟩ = some (.int .i64 b) := by go_simp
  have K3 : w2.cell? ⟨w.heap.size + 1 + 1, 0, none⟩ = some (.bool false) := by go_simp
  have K4 : w2.cell? ⟨w.heap.size + 1 + 1, 1, none⟩ = some (.int .i64 0) := by go_simp
  have F3 : w2.frozen? ⟨w.heap.size + 1 + 1, 0, none⟩ = false := by go_simp
  have F4 : w2.frozen? ⟨w.heap.size + 1 + 1, 1, none⟩ = false := by go_simp
  clear hc1 hf1 hc2 hf2 hb1 hb2 z1 z1' z1'' hi hj
  go_cut [5, 6] (fun s t wx => s = .int .u64 (k : Nat) ∧ t = .int .i64 x ∧ Below w2.heap.size w2 wx)
  case first =>
    go_region_held3 (fun y => y.cell? ⟨w.heap.size, 1, none⟩ = some (.int .i64 a) ∧ y.cell? ⟨w.heap.size + 1, 1, none⟩ = some (.int .i64 b))
      (first | go_keep)
      (first
        | (go_at_call_of 50 (a); refine (hsa.out _).mono ?_; rintro e w' ⟨rfl, rfl⟩)
        | (go_at_call_of 50 (b); refine (hsb.out _).mono ?_; rintro e w' ⟨rfl, rfl⟩)
        | (go_at_call 41; refine (hmul.out _).mono ?_; rintro e w3 ⟨rfl, hb3⟩; have K1 : w3.cell? ⟨w.heap.size, 1, none⟩ = some (.int .i64 a) := (hb3.cell (p := ⟨w.heap.size, 1, none⟩) (by exact z2'')).trans K1; have K2 : w3.cell? ⟨w.heap.size + 1, 1, none⟩ = some (.int .i64 b) := (hb3.cell (p := ⟨w.heap.size + 1, 1, none⟩) (by exact z2')).trans K2)
        | (go_at_call 56; refine (hrd.out _).mono ?_; rintro e w4 ⟨rfl, hb4⟩; have K1 : w4.cell? ⟨w.heap.size, 1, none⟩ = some (.int .i64 a) := (hb4.cell (p := ⟨w.heap.size, 1, none⟩) (World.block_lt_of_cell? w3 ⟨w.heap.size, 1, none⟩ K1)).trans K1; have K2 : w4.cell? ⟨w.heap.size + 1, 1, none⟩ = some (.int .i64 b) := (hb4.cell (p := ⟨w.heap.size + 1, 1, none⟩) (World.block_lt_of_cell? w3 ⟨w.heap.size + 1, 1, none⟩ K2)).trans K2))
    all_goals (try go_wp2_with fail)
    all_goals go_meet
    all_goals exact ⟨rfl, rfl, below_next (below_next ((Below.refl _ _).drew) hb3) hb4⟩
  case rest =>
    obtain ⟨rfl, rfl, hbx⟩ := hcut
    have c1 : wc.cell? ⟨w.heap.size, 1, none⟩ = some (.int .i64 a) := (hbx.cell (p := ⟨w.heap.size, 1, none⟩) (by exact z2'')).trans K1
    have c2 : wc.cell? ⟨w.heap.size + 1, 1, none⟩ = some (.int .i64 b) := (hbx.cell (p := ⟨w.heap.size + 1, 1, none⟩) (by exact z2')).trans K2
    have c3 : wc.cell? ⟨w.heap.size + 1 + 1, 0, none⟩ = some (.bool false) := (hbx.cell (p := ⟨w.heap.size + 1 + 1, 0, none⟩) (by exact z2)).trans K3
    have c4 : wc.cell? ⟨w.heap.size + 1 + 1, 1, none⟩ = some (.int .i64 0) := (hbx.cell (p := ⟨w.heap.size + 1 + 1, 1, none⟩) (by exact z2)).trans K4
    have f3 : wc.frozen? ⟨w.heap.size + 1 + 1, 0, none⟩ = false := (hbx.frozen (p := ⟨w.heap.size + 1 + 1, 0, none⟩) (by exact z2)).trans F3
    have f4 : wc.frozen? ⟨w.heap.size + 1 + 1, 1, none⟩ = false := (hbx.frozen (p := ⟨w.heap.size + 1 + 1, 1, none⟩) (by exact z2)).trans F4
    have zc : w.heap.size + 1 + 1 < wc.heap.size := Nat.lt_of_lt_of_le z2 hbx.size
    have HY := Lib.hid (below_next HX hbx)
    clear K1 K2 K3 K4 F3 F4 hbx HX hsa hsb hmul hrd z2 z2' z2''
    rcases HC.out with ⟨rfl, hO⟩ | ⟨rfl, hO, hk⟩
    · subst hO
      clear HC
      go_wp2_with fail
      refine (nothing_c _).mono ?_; rintro e w5 ⟨rfl, hb5⟩; obtain ⟨hc5, hf5⟩ := bcell hb5
      go_wp2
      exact bodyPost_ret (v := .agg #[.bool true, .int .i64 0]) (by simp [results, Try.results28, go_sem, hc5, hf5, c3, c4, f3, f4, zc]) rfl ⟨rfl, below_put (below_next HY.out hb5) (by omega) _ _⟩
    · have hsg := Lib.hid (signed_c k hk (decide (a < 0) != decide (b < 0)))
      rw [← hO] at hsg
      clear HC hO
      go_wp2_with fail
      refine (hsg.out _).mono ?_; rintro e w5 ⟨rfl, hb5⟩; obtain ⟨hc5, hf5⟩ := bcell hb5
      go_wp2
      exact bodyPost_ret (v := .agg #[.bool (nb O), .int .i64 (nv O)]) (by simp [results, Try.results28, go_sem, hc5, hf5, c3, c4, f3, f4, zc]) rfl ⟨rfl, below_put (below_next HY.out hb5) (by omega) _ _⟩

set_option maxRecDepth 100000 in
set_option maxHeartbeats 1000000 in
/-- A quotient, where both count and the second isn't 0. -/
theorem div_yes (a b : Int) (hnz : b ≠ 0) (ha0 : -9223372036854775807 ≤ a) (ha1 : a ≤ 9223372036854775807) (hb0 : -9223372036854775807 ≤ b) (hb1 : b ≤ 9223372036854775807) (w : World) :
    Calls Try.prog 30 #[.agg #[.bool false, .int .i64 a], .agg #[.bool false, .int .i64 b]] w fun e w' => e = .returned (.agg #[.bool (nb (divO (some a) (some b))), .int .i64 (nv (divO (some a) (some b)))]) ∧ Below w.heap.size w w' := by
  have hi := Lib.hid (is_yes a (by omega))
  have hj := Lib.hid (is_yes b (by omega))
  obtain ⟨m, hm⟩ : ∃ m, a.natAbs = m := ⟨_, rfl⟩
  obtain ⟨n, hn⟩ : ∃ n, b.natAbs = n := ⟨_, rfl⟩
  have hm64 : m < 18446744073709551616 := by omega
  have hn64 : n < 18446744073709551616 := by omega
  have hsa := Lib.hid (size_q a m (by omega) ha1 hm)
  have hsb := Lib.hid (size_q b n (by omega) hb1 hn)
  have hmul := Lib.hid (rmul_c m 1000000 hm64 (by decide))
  have hn0 : 0 < n := by omega
  have tb : (b == 0) = false := by rw [beq_eq_false_iff_ne]; exact hnz
  obtain ⟨k, hk⟩ : ∃ k, rndV (m * 1000000) n = k := ⟨_, rfl⟩
  obtain ⟨x, hx⟩ : ∃ x, rndE (m * 1000000) n = x := ⟨_, rfl⟩
  have hrd := Lib.hid (rround_q (m * 1000000) n k x (prod_lt hm64 (by decide)) hn0 hn64 hk hx)
  have hO : divO (some a) (some b) = rndO (m * 1000000) n (decide (a < 0) != decide (b < 0)) := by rw [← hm, ← hn]; exact if_neg hnz
  have hc := rnd_cases (m * 1000000) n (decide (a < 0) != decide (b < 0))
  rw [hk, hx] at hc
  rw [hO]
  obtain ⟨O, hO'⟩ : ∃ O, rndO (m * 1000000) n (decide (a < 0) != decide (b < 0)) = O := ⟨_, rfl⟩
  rw [hO'] at hc ⊢
  have HC := Lib.hid hc
  clear hm hn hk hx hO hO' hc hnz
  go_enter Try.func30, Try.ntmps30
  go_wp2_with fail
  refine (hi.out _).mono ?_; rintro e w1 ⟨rfl, hb1⟩; obtain ⟨hc1, hf1⟩ := bcell hb1
  have z1 : w.heap.size + 1 + 1 < w1.heap.size := (by have := hb1.size; simp at this; omega)
  have z1' : w.heap.size + 1 < w1.heap.size := by omega
  have z1'' : w.heap.size < w1.heap.size := by omega
  go_wp2_with fail
  refine (hj.out _).mono ?_; rintro e w2 ⟨rfl, hb2⟩; obtain ⟨hc2, hf2⟩ := bcell hb2
  have z2 : w.heap.size + 1 + 1 < w2.heap.size := Nat.lt_of_lt_of_le z1 hb2.size
  have z2' : w.heap.size + 1 < w2.heap.size := by omega
  have z2'' : w.heap.size < w2.heap.size := by omega
  have HX : Below w.heap.size w w2 := below_next (below_three hb1) hb2
  go_wp2_with fail
  have K1 : w2.cell? ⟨w.heap.size, 1, none⟩ = some (.int .i64 a) := by go_simp
  have K2 : w2.cell? ⟨w.heap.size + 1, 1, none⟩ = some (.int .i64 b) := by go_simp
  have K3 : w2.cell? ⟨w.heap.size + 1 + 1, 0, none⟩ = some (.bool false) := by go_simp
  have K4 : w2.cell? ⟨w.heap.size + 1 + 1, 1, none⟩ = some (.int .i64 0) := by go_simp
  have F3 : w2.frozen? ⟨w.heap.size + 1 + 1, 0, none⟩ = false := by go_simp
  have F4 : w2.frozen? ⟨w.heap.size + 1 + 1, 1, none⟩ = false := by go_simp
  clear hc1 hf1 hc2 hf2 hb1 hb2 z1 z1' z1'' hi hj
  go_cut [5, 6] (fun s t wx => s = .int .u64 (k : Nat) ∧ t = .int .i64 x ∧ Below w2.heap.size w2 wx)
  case first =>
    go_region_held3 (fun y => y.cell? ⟨w.heap.size, 1, none⟩ = some (.int .i64 a) ∧ y.cell? ⟨w.heap.size + 1, 1, none⟩ = some (.int .i64 b))
      (first | go_keep)
      (first
        | (go_at_call_of 50 (a); refine (hsa.out _).mono ?_; rintro e w' ⟨rfl, rfl⟩)
        | (go_at_call_of 50 (b); refine (hsb.out _).mono ?_; rintro e w' ⟨rfl, rfl⟩)
        | (go_at_call 41; refine (hmul.out _).mono ?_; rintro e w3 ⟨rfl, hb3⟩; have K1 : w3.cell? ⟨w.heap.size, 1, none⟩ = some (.int .i64 a) := (hb3.cell (p := ⟨w.heap.size, 1, none⟩) (by exact z2'')).trans K1; have K2 : w3.cell? ⟨w.heap.size + 1, 1, none⟩ = some (.int .i64 b) := (hb3.cell (p := ⟨w.heap.size + 1, 1, none⟩) (by exact z2')).trans K2)
        | (go_at_call 56; refine (hrd.out _).mono ?_; rintro e w4 ⟨rfl, hb4⟩; have K1 : w4.cell? ⟨w.heap.size, 1, none⟩ = some (.int .i64 a) := (hb4.cell (p := ⟨w.heap.size, 1, none⟩) (World.block_lt_of_cell? w3 ⟨w.heap.size, 1, none⟩ K1)).trans K1; have K2 : w4.cell? ⟨w.heap.size + 1, 1, none⟩ = some (.int .i64 b) := (hb4.cell (p := ⟨w.heap.size + 1, 1, none⟩) (World.block_lt_of_cell? w3 ⟨w.heap.size + 1, 1, none⟩ K2)).trans K2))
    all_goals (try go_wp2_with fail)
    all_goals go_meet
    all_goals exact ⟨rfl, rfl, below_next (below_next ((Below.refl _ _).drew) hb3) hb4⟩
  case rest =>
    obtain ⟨rfl, rfl, hbx⟩ := hcut
    have c1 : wc.cell? ⟨w.heap.size, 1, none⟩ = some (.int .i64 a) := (hbx.cell (p := ⟨w.heap.size, 1, none⟩) (by exact z2'')).trans K1
    have c2 : wc.cell? ⟨w.heap.size + 1, 1, none⟩ = some (.int .i64 b) := (hbx.cell (p := ⟨w.heap.size + 1, 1, none⟩) (by exact z2')).trans K2
    have c3 : wc.cell? ⟨w.heap.size + 1 + 1, 0, none⟩ = some (.bool false) := (hbx.cell (p := ⟨w.heap.size + 1 + 1, 0, none⟩) (by exact z2)).trans K3
    have c4 : wc.cell? ⟨w.heap.size + 1 + 1, 1, none⟩ = some (.int .i64 0) := (hbx.cell (p := ⟨w.heap.size + 1 + 1, 1, none⟩) (by exact z2)).trans K4
    have f3 : wc.frozen? ⟨w.heap.size + 1 + 1, 0, none⟩ = false := (hbx.frozen (p := ⟨w.heap.size + 1 + 1, 0, none⟩) (by exact z2)).trans F3
    have f4 : wc.frozen? ⟨w.heap.size + 1 + 1, 1, none⟩ = false := (hbx.frozen (p := ⟨w.heap.size + 1 + 1, 1, none⟩) (by exact z2)).trans F4
    have zc : w.heap.size + 1 + 1 < wc.heap.size := Nat.lt_of_lt_of_le z2 hbx.size
    have HY := Lib.hid (below_next HX hbx)
    clear K1 K2 K3 K4 F3 F4 hbx HX hsa hsb hmul hrd z2 z2' z2''
    rcases HC.out with ⟨rfl, hO⟩ | ⟨rfl, hO, hk⟩
    · subst hO
      clear HC
      go_wp2_with fail
      refine (nothing_c _).mono ?_; rintro e w5 ⟨rfl, hb5⟩; obtain ⟨hc5, hf5⟩ := bcell hb5
      go_wp2
      exact bodyPost_ret (v := .agg #[.bool true, .int .i64 0]) (by simp [results, Try.results30, go_sem, hc5, hf5, c3, c4, f3, f4, zc]) rfl ⟨rfl, below_put (below_next HY.out hb5) (by omega) _ _⟩
    · have hsg := Lib.hid (signed_c k hk (decide (a < 0) != decide (b < 0)))
      rw [← hO] at hsg
      clear HC hO
      go_wp2_with fail
      refine (hsg.out _).mono ?_; rintro e w5 ⟨rfl, hb5⟩; obtain ⟨hc5, hf5⟩ := bcell hb5
      go_wp2
      exact bodyPost_ret (v := .agg #[.bool (nb O), .int .i64 (nv O)]) (by simp [results, Try.results30, go_sem, hc5, hf5, c3, c4, f3, f4, zc]) rfl ⟨rfl, below_put (below_next HY.out hb5) (by omega) _ _⟩
end Go.Proofs.Ythnokbdkgehiaaa.FR
