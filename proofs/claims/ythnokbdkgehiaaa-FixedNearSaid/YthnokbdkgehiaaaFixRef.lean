/-
  Contracts of the document's own functions of layer 2 (isobarref02) over this seat's translation: what each returns, and that nothing that was there has turned.
-/
import Derived.Test.YthnokbdkgehiaaaMath2
import Derived.Test.YthnokbdkgehiaaaWideRRound
import Derived.Test.YthnokbdkgehiaaaWideRMul
import Derived.Test.YthnokbdkgehiaaaWideRRoot
import Derived.Deep.RegionHeld3
set_option linter.unusedSimpArgs false
set_option linter.unusedVariables false
namespace Go.Proofs.Ythnokbdkgehiaaa.FR
open Go.RowKit

theorem ret_num {b c : Bool} {x y : Int} (h : b = c) (k : x = y) : Ending.returned (.agg #[.bool b, .int .i64 x]) = .returned (.agg #[.bool c, .int .i64 y]) := by rw [h, k]

theorem below_two {w w1 : World} {o1 o2 : Obj} (hb : Below ((w.alloc o1).alloc o2).heap.size ((w.alloc o1).alloc o2) w1) : Below w.heap.size w w1 := (((Below.refl _ _).alloc (Nat.le_refl _) _).alloc (by simp) _).trans (hb.mono (by simp; omega))

theorem below_three {w w1 : World} {o1 o2 o3 : Obj} (hb : Below (((w.alloc o1).alloc o2).alloc o3).heap.size (((w.alloc o1).alloc o2).alloc o3) w1) : Below w.heap.size w w1 :=
  ((((Below.refl _ _).alloc (Nat.le_refl _) _).alloc (by simp) _).alloc (by simp; omega) _).trans (hb.mono (by simp; omega))

theorem nothing_c (w : World) : Calls Try.prog 46 #[] w fun e w' => e = .returned (.agg #[.bool true, .int .i64 0]) ∧ Below w.heap.size w w' := by
  go_enter Try.func46, Try.ntmps46
  go_wp2
  exact bodyPost_ret (v := .agg #[.bool true, .int .i64 0]) (by simp [results, Try.results46, go_sem]) rfl ⟨rfl, (Below.refl _ _).alloc (Nat.le_refl _) _⟩

/-- A number counts: it isn't nothing, and not -2^63. -/
theorem is_yes (v : Int) (h : v ≠ -9223372036854775808) (w : World) :
    Calls Try.prog 54 #[.agg #[.bool false, .int .i64 v]] w fun e w' => e = .returned (.bool true) ∧ Below w.heap.size w w' := by
  have t : (v != -9223372036854775808) = true := by rw [bne_iff_ne]; exact h
  have hr : ∀ W : World, Calls Try.prog 14 #[.agg #[.bool false, .int .i64 v]] W fun e w' => e = .returned (.bool true) ∧ Below W.heap.size W w' := fun W => by
    clear h
    go_enter Try.func14, Try.ntmps14
    go_wp2
    go_ret
    exact ⟨rfl, (Below.refl _ _).alloc (Nat.le_refl _) _⟩
  have HR := Lib.hid hr
  clear hr h t
  go_enter Try.func54, Try.ntmps54
  go_wp2_with fail
  refine (HR.out _).mono ?_; rintro e w1 ⟨rfl, hb1⟩; obtain ⟨hc1, hf1⟩ := bcell hb1
  go_wp2
  go_ret
  exact ⟨rfl, below_box hb1⟩
theorem is_no (b : Bool) (v : Int) (h : ¬ (b = false ∧ v ≠ -9223372036854775808)) (w : World) :
    Calls Try.prog 54 #[.agg #[.bool b, .int .i64 v]] w fun e w' => e = .returned (.bool false) ∧ Below w.heap.size w w' := by
  cases b
  · have hv : v = -9223372036854775808 := Decidable.byContradiction fun hne => h ⟨rfl, hne⟩
    have t : (v != -9223372036854775808) = false := by rw [bne_eq_false_iff_eq]; exact hv
    have hr : ∀ W : World, Calls Try.prog 14 #[.agg #[.bool false, .int .i64 v]] W fun e w' => e = .returned (.bool false) ∧ Below W.heap.size W w' := fun W => by
      clear h hv
      go_enter Try.func14, Try.ntmps14
      go_wp2
      go_ret
      exact ⟨rfl, (Below.refl _ _).alloc (Nat.le_refl _) _⟩
    have HR := Lib.hid hr
    clear hr h t hv
    go_enter Try.func54, Try.ntmps54
    go_wp2_with fail
    refine (HR.out _).mono ?_; rintro e w1 ⟨rfl, hb1⟩; obtain ⟨hc1, hf1⟩ := bcell hb1
    go_wp2
    go_ret
    exact ⟨rfl, below_box hb1⟩
  · have hr : ∀ W : World, Calls Try.prog 14 #[.agg #[.bool true, .int .i64 v]] W fun e w' => e = .returned (.bool (v == 0)) ∧ Below W.heap.size W w' := fun W => by
      clear h
      go_enter Try.func14, Try.ntmps14
      go_wp2
      go_ret
      exact ⟨rfl, (Below.refl _ _).alloc (Nat.le_refl _) _⟩
    have HR := Lib.hid hr
    clear hr h
    go_enter Try.func54, Try.ntmps54
    go_wp2_with fail
    refine (HR.out _).mono ?_; rintro e w1 ⟨rfl, hb1⟩; obtain ⟨hc1, hf1⟩ := bcell hb1
    generalize (v == 0) = z
    cases z
    all_goals
      go_wp2
      go_ret
      exact ⟨rfl, below_box hb1⟩

theorem size_c (v : Int) (h0 : -9223372036854775808 ≤ v) (h1 : v ≤ 9223372036854775807) (w : World) :
    Calls Try.prog 50 #[.int .i64 v] w fun e w' => e = .returned (.int .u64 (v.natAbs : Nat)) ∧ w = w' := by
  by_cases h : v < 0
  · go_enter Try.func50, Try.ntmps50
    go_wp2
    go_ret
    exact ⟨ret_u64 (by omega), rfl⟩
  · go_enter Try.func50, Try.ntmps50
    go_wp2
    go_ret
    exact ⟨ret_u64 (by omega), rfl⟩

theorem size_q (v : Int) (n : Nat) (h0 : -9223372036854775808 ≤ v) (h1 : v ≤ 9223372036854775807) (hn : v.natAbs = n) (w : World) :
    Calls Try.prog 50 #[.int .i64 v] w fun e w' => e = .returned (.int .u64 (n : Nat)) ∧ w = w' := by
  subst hn
  exact size_c v h0 h1 w

theorem signed_c (n : Nat) (hn : n < 18446744073709551616) (below : Bool) (w : World) :
    Calls Try.prog 51 #[.int .u64 n, .bool below] w fun e w' => e = .returned (.agg #[.bool (nb (signO n below)), .int .i64 (nv (signO n below))]) ∧ Below w.heap.size w w' := by
  obtain ⟨m, hm⟩ : ∃ m : Int, m = (n : Int) := ⟨_, rfl⟩
  rw [← hm]
  by_cases h : n ≤ 9223372036854775807
  · have hs : signO n below = some (if below then -m else m) := by rw [hm]; exact if_pos h
    have HS := Lib.hid hs
    have h1 : ¬ 9223372036854775807 < m := by omega
    have h2 : 0 ≤ m := by omega
    clear hs hm h hn
    cases below
    all_goals
      go_enter Try.func51, Try.ntmps51
      go_wp2
    · refine bodyPost_ret (v := .agg #[.bool false, .int .i64 m]) (by simp [results, Try.results51, go_sem]) rfl ⟨?_, (Below.refl _ _).alloc (Nat.le_refl _) _⟩
      rw [HS.out]; rfl
    · refine bodyPost_ret (v := .agg #[.bool false, .int .i64 (-m)]) (by simp [results, Try.results51, go_sem]) rfl ⟨?_, (Below.refl _ _).alloc (Nat.le_refl _) _⟩
      rw [HS.out]; rfl
  · have hs : signO n below = none := if_neg h
    have HS := Lib.hid hs
    have h1 : 9223372036854775807 < m := by omega
    clear hs hm h hn
    go_enter Try.func51, Try.ntmps51
    go_wp2_with (go_at_call 46; refine (nothing_c _).mono ?_; rintro e w1 ⟨rfl, hb1⟩; obtain ⟨hc1, hf1⟩ := bcell hb1)
    refine bodyPost_ret (v := .agg #[.bool true, .int .i64 0]) (by simp [results, Try.results51, go_sem, hc1, hf1]) rfl ⟨?_, below_put (below_box hb1) (Nat.le_refl _) _ _⟩
    rw [HS.out]; rfl

theorem neg_yes (v : Int) (h0 : -9223372036854775807 ≤ v) (h1 : v ≤ 9223372036854775807) (w : World) :
    Calls Try.prog 24 #[.agg #[.bool false, .int .i64 v]] w fun e w' => e = .returned (.agg #[.bool false, .int .i64 (-v)]) ∧ Below w.heap.size w w' := by
  have hi := Lib.hid (is_yes v (by omega))
  go_enter Try.func24, Try.ntmps24
  go_wp2_with (go_at_call 54; refine (hi.out _).mono ?_; rintro e w1 ⟨rfl, hb1⟩; obtain ⟨hc1, hf1⟩ := bcell hb1)
  exact bodyPost_ret (v := .agg #[.bool false, .int .i64 (-v)]) (by simp [results, Try.results24, go_sem, hc1, hf1]) rfl ⟨rfl, below_put (below_two hb1) (by omega) _ _⟩
theorem neg_no (b : Bool) (v : Int) (h : ¬ (b = false ∧ v ≠ -9223372036854775808)) (w : World) :
    Calls Try.prog 24 #[.agg #[.bool b, .int .i64 v]] w fun e w' => e = .returned (.agg #[.bool true, .int .i64 0]) ∧ Below w.heap.size w w' := by
  have hi := Lib.hid (is_no b v h)
  clear h
  go_enter Try.func24, Try.ntmps24
  go_wp2_with (first
    | (go_at_call 54; refine (hi.out _).mono ?_; rintro e w1 ⟨rfl, hb1⟩; obtain ⟨hc1, hf1⟩ := bcell hb1; have z1 : w.heap.size + 1 < w1.heap.size := (by have := hb1.size; simp at this; omega))
    | (go_at_call 46; refine (nothing_c _).mono ?_; rintro e w2 ⟨rfl, hb2⟩; obtain ⟨hc2, hf2⟩ := bcell hb2))
  exact bodyPost_ret (v := .agg #[.bool true, .int .i64 0]) (by simp [results, Try.results24, go_sem, hc1, hf1, hc2, hf2, z1]) rfl ⟨rfl, below_put (below_next (below_two hb1) hb2) (by omega) _ _⟩

set_option maxHeartbeats 1000000 in
/-- Sums, where both count. -/
theorem add_yes (a b : Int) (ha0 : -9223372036854775807 ≤ a) (ha1 : a ≤ 9223372036854775807) (hb0 : -9223372036854775807 ≤ b) (hb1 : b ≤ 9223372036854775807) (w : World) :
    Calls Try.prog 20 #[.agg #[.bool false, .int .i64 a], .agg #[.bool false, .int .i64 b]] w fun e w' => e = .returned (.agg #[.bool (nb (lim (a + b))), .int .i64 (nv (lim (a + b)))]) ∧ Below w.heap.size w w' := by
  have hi := Lib.hid (is_yes a (by omega))
  have hj := Lib.hid (is_yes b (by omega))
  by_cases hs : (a < 0 ↔ b < 0)
  · have hsum := Lib.hid (sign_sum hs)
    obtain ⟨m, hm⟩ : ∃ m, a.natAbs = m := ⟨_, rfl⟩
    obtain ⟨n, hn⟩ : ∃ n, b.natAbs = n := ⟨_, rfl⟩
    obtain ⟨S, hS⟩ : ∃ S, S = m + n := ⟨_, rfl⟩
    rw [hm, hn, ← hS] at hsum
    have hS64 : S < 18446744073709551616 := by omega
    have R : IntKind.u64.wrap ((m : Int) + n) = (S : Int) := by rw [hS]; exact Mul64.wrapN _ (by omega)
    have hsa := Lib.hid (size_q a m (by omega) ha1 hm)
    have hsb := Lib.hid (size_q b n (by omega) hb1 hn)
    have hsg := Lib.hid (signed_c S hS64 (decide (a < 0)))
    rw [hsum.out] at hsg
    clear hm hn hS
    have t : (decide (a < 0) == decide (b < 0)) = true := by rw [beq_iff_eq, decide_eq_decide]; exact hs
    clear hs
    go_enter Try.func20, Try.ntmps20
    go_wp2_with fail
    refine (hi.out _).mono ?_; rintro e w1 ⟨rfl, hb1⟩; obtain ⟨hc1, hf1⟩ := bcell hb1
    have z1 : w.heap.size + 1 + 1 < w1.heap.size := (by have := hb1.size; simp at this; omega)
    have z1' : w.heap.size + 1 < w1.heap.size := by omega
    have z1'' : w.heap.size < w1.heap.size := by omega
    go_wp2_with fail
    refine (hj.out _).mono ?_; rintro e w2 ⟨rfl, hb2⟩; obtain ⟨hc2, hf2⟩ := bcell hb2
    have z2 : w.heap.size + 1 + 1 < w2.heap.size := Nat.lt_of_lt_of_le z1 hb2.size
    have HX : Below w.heap.size w w2 := below_next (below_three hb1) hb2
    go_wp2_with fail
    have K1 : w2.cell? ⟨w.heap.size, 1, none⟩ = some (.int .i64 a) := by go_simp
    have K2 : w2.cell? ⟨w.heap.size + 1, 1, none⟩ = some (.int .i64 b) := by go_simp
    have K3 : w2.cell? ⟨w.heap.size + 1 + 1, 0, none⟩ = some (.bool false) := by go_simp
    have K4 : w2.cell? ⟨w.heap.size + 1 + 1, 1, none⟩ = some (.int .i64 0) := by go_simp
    have F3 : w2.frozen? ⟨w.heap.size + 1 + 1, 0, none⟩ = false := by go_simp
    have F4 : w2.frozen? ⟨w.heap.size + 1 + 1, 1, none⟩ = false := by go_simp
    clear hc1 hf1 hc2 hf2 hb1 hb2 z1 z1' z1'' hi hj
    have z2' : w.heap.size + 1 < w2.heap.size := by omega
    have z2'' : w.heap.size < w2.heap.size := by omega
    have ne1 : w.heap.size + 1 + 1 ≠ w.heap.size := by omega
    go_region_held3 (fun x => x.cell? ⟨w.heap.size, 1, none⟩ = some (.int .i64 a) ∧ x.cell? ⟨w.heap.size + 1, 1, none⟩ = some (.int .i64 b))
      (first | go_keep)
      (first
        | (go_at_call_of 50 (a); refine (hsa.out _).mono ?_; rintro e w' ⟨rfl, rfl⟩)
        | (go_at_call_of 50 (b); refine (hsb.out _).mono ?_; rintro e w' ⟨rfl, rfl⟩)
        | (go_at_call 51; refine (hsg.out _).mono ?_; rintro e w3 ⟨rfl, hb3⟩; have K1 : w3.cell? ⟨w.heap.size, 1, none⟩ = some (.int .i64 a) := (hb3.cell (p := ⟨w.heap.size, 1, none⟩) (by exact z2'')).trans K1; have K2 : w3.cell? ⟨w.heap.size + 1, 1, none⟩ = some (.int .i64 b) := (hb3.cell (p := ⟨w.heap.size + 1, 1, none⟩) (by exact z2')).trans K2; have K3 : w3.cell? ⟨w.heap.size + 1 + 1, 0, none⟩ = some (.bool false) := (hb3.cell (p := ⟨w.heap.size + 1 + 1, 0, none⟩) (by exact z2)).trans K3; have K4 : w3.cell? ⟨w.heap.size + 1 + 1, 1, none⟩ = some (.int .i64 0) := (hb3.cell (p := ⟨w.heap.size + 1 + 1, 1, none⟩) (by exact z2)).trans K4; have F3 : w3.frozen? ⟨w.heap.size + 1 + 1, 0, none⟩ = false := (hb3.frozen (p := ⟨w.heap.size + 1 + 1, 0, none⟩) (by exact z2)).trans F3; have F4 : w3.frozen? ⟨w.heap.size + 1 + 1, 1, none⟩ = false := (hb3.frozen (p := ⟨w.heap.size + 1 + 1, 1, none⟩) (by exact z2)).trans F4))
    all_goals go_wp2
    all_goals
      have HE := below_put (b := w.heap.size + 1 + 1) (below_next HX.drew hb3) (by omega) (.bool (nb (lim (a + b)))) (.int .i64 (nv (lim (a + b))))
      exact bodyPost_ret (v := .agg #[.bool (nb (lim (a + b))), .int .i64 (nv (lim (a + b)))]) (by simp [results, Try.results20, go_sem, K3, K4, F3, F4]) rfl ⟨rfl, HE⟩
  · have t : (decide (a < 0) == decide (b < 0)) = false := by rw [beq_eq_false_iff_ne]; intro hd; exact hs (decide_eq_decide.1 hd)
    have hl := Lib.hid (lim_in (t := a + b) (by omega))
    have l0 : -9223372036854775807 ≤ a + b := by omega
    have l1 : a + b ≤ 9223372036854775807 := by omega
    clear hs
    go_enter Try.func20, Try.ntmps20
    go_wp2_with fail
    refine (hi.out _).mono ?_; rintro e w1 ⟨rfl, hb1⟩; obtain ⟨hc1, hf1⟩ := bcell hb1
    have z1 : w.heap.size + 1 + 1 < w1.heap.size := (by have := hb1.size; simp at this; omega)
    have z1' : w.heap.size + 1 < w1.heap.size := by omega
    have z1'' : w.heap.size < w1.heap.size := by omega
    go_wp2_with fail
    refine (hj.out _).mono ?_; rintro e w2 ⟨rfl, hb2⟩; obtain ⟨hc2, hf2⟩ := bcell hb2
    have z2 : w.heap.size + 1 + 1 < w2.heap.size := Nat.lt_of_lt_of_le z1 hb2.size
    have HX : Below w.heap.size w w2 := below_next (below_three hb1) hb2
    go_wp2
    refine bodyPost_ret (v := .agg #[.bool false, .int .i64 (a + b)]) (by simp [results, Try.results20, go_sem, hc1, hf1, hc2, hf2, z1, z2]) rfl ⟨?_, below_put HX (by omega) _ _⟩
    rw [hl.out]; rfl
end Go.Proofs.Ythnokbdkgehiaaa.FR
