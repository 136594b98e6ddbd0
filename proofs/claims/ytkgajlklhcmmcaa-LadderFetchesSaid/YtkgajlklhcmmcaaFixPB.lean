/-
  Contracts of the program's own functions of layer 2 (fixed), the second part: sums, differences, which is greater.
-/
import Derived.Test.YtkgajlklhcmmcaaFixP
set_option linter.unusedSimpArgs false
set_option linter.unusedVariables false
namespace Go.Proofs.Ytkgajlklhcmmcaa.FP
open Go.RowKit

theorem i64_wrap (n : Int) : IntKind.i64.wrap n = (n + 9223372036854775808) % 18446744073709551616 - 9223372036854775808 := by
  simp [IntKind.wrap, IntKind.bits, IntKind.signed]
  split <;> omega
theorem i64_in {n : Int} (h0 : -9223372036854775808 ≤ n) (h1 : n ≤ 9223372036854775807) : IntKind.i64.wrap n = n := by rw [i64_wrap]; omega
theorem i64_up {n : Int} (h0 : 9223372036854775807 < n) (h1 : n ≤ 27670116110564327423) : IntKind.i64.wrap n = n - 18446744073709551616 := by rw [i64_wrap]; omega
theorem i64_down {n : Int} (h0 : n < -9223372036854775808) (h1 : -27670116110564327424 ≤ n) : IntKind.i64.wrap n = n + 18446744073709551616 := by rw [i64_wrap]; omega
/-- A sum: where one of the two is nothing, so is the answer. -/
theorem add_no (b1 b2 : Bool) (v1 v2 : Int) (p q : Bool) (hp : Mis b1 v1 p) (hq : Mis b2 v2 q) (h : (p || q) = true) (w : World) :
    Calls Try.prog 74 #[.agg #[.bool b1, .int .i64 v1], .agg #[.bool b2, .int .i64 v2]] w fun e w' => e = .returned (.agg #[.bool true, .int .i64 0]) ∧ Below w.heap.size w w' := by
  have HP := Lib.hid hp; have HQ := Lib.hid hq
  clear hp hq
  cases p
  · obtain rfl : q = true := by simpa using h
    clear h
    go_enter Try.func74, Try.ntmps74
    go_wp2_with fail
    refine (HP.out _).mono ?_; rintro e w1 ⟨rfl, hb1⟩; obtain ⟨hc1, hf1⟩ := bcell hb1
    have z1 : w.heap.size + 1 + 1 < w1.heap.size := (by have := hb1.size; simp at this; omega)
    have y1 : w.heap.size + 1 < w1.heap.size := by omega
    have x1 : w.heap.size < w1.heap.size := by omega
    go_wp2_with fail
    refine (HQ.out _).mono ?_; rintro e w2 ⟨rfl, hb2⟩; obtain ⟨hc2, hf2⟩ := bcell hb2
    have z2 : w.heap.size + 1 + 1 < w2.heap.size := Nat.lt_of_lt_of_le z1 hb2.size
    go_wp2_with fail
    refine (nothing_c _).mono ?_; rintro e w3 ⟨rfl, hb3⟩; obtain ⟨hc3, hf3⟩ := bcell hb3
    go_wp2
    exact bodyPost_ret (v := .agg #[.bool true, .int .i64 0]) (by simp [results, Try.results74, go_sem, hc1, hf1, hc2, hf2, hc3, hf3, z1, z2]) rfl ⟨rfl, below_put (below_next (below_next (below_three hb1) hb2) hb3) (by omega) _ _⟩
  · clear h
    go_enter Try.func74, Try.ntmps74
    go_wp2_with fail
    refine (HP.out _).mono ?_; rintro e w1 ⟨rfl, hb1⟩; obtain ⟨hc1, hf1⟩ := bcell hb1
    have z1 : w.heap.size + 1 + 1 < w1.heap.size := (by have := hb1.size; simp at this; omega)
    go_wp2_with fail
    refine (nothing_c _).mono ?_; rintro e w2 ⟨rfl, hb2⟩; obtain ⟨hc2, hf2⟩ := bcell hb2
    go_wp2
    exact bodyPost_ret (v := .agg #[.bool true, .int .i64 0]) (by simp [results, Try.results74, go_sem, hc1, hf1, hc2, hf2, z1]) rfl ⟨rfl, below_put (below_next (below_three hb1) hb2) (by omega) _ _⟩

/-- The cells of two numbers lie on behind a call. -/
theorem held2 {x y : World} {a0 a1 : Nat} {p0 q0 p1 q1 : Value} (h : x.cell? ⟨a0, 0, none⟩ = some p0 ∧ x.cell? ⟨a0, 1, none⟩ = some q0 ∧ x.cell? ⟨a1, 0, none⟩ = some p1 ∧ x.cell? ⟨a1, 1, none⟩ = some q1 ∧ a0 < x.heap.size ∧ a1 < x.heap.size)
    (hb : Below x.heap.size x y) : y.cell? ⟨a0, 0, none⟩ = some p0 ∧ y.cell? ⟨a0, 1, none⟩ = some q0 ∧ y.cell? ⟨a1, 0, none⟩ = some p1 ∧ y.cell? ⟨a1, 1, none⟩ = some q1 ∧ a0 < y.heap.size ∧ a1 < y.heap.size := by
  obtain ⟨c0, d0, c1, d1, l0, l1⟩ := h
  have c := fun (b o : Nat) (hlt : b < x.heap.size) => hb.cell (p := ⟨b, o, none⟩) hlt
  exact ⟨(c _ _ l0).trans c0, (c _ _ l0).trans d0, (c _ _ l1).trans c1, (c _ _ l1).trans d1, Nat.lt_of_lt_of_le l0 hb.size, Nat.lt_of_lt_of_le l1 hb.size⟩
theorem lim_rd {t : Int} (h : -9223372036854775808 ≤ t ∧ t ≤ 9223372036854775807) : rd false t = lim t := by
  by_cases g : t = -9223372036854775808
  · rw [rd_none (fun hh => hh.2 g), lim_out (by omega)]
  · rw [rd_some rfl g, lim_in (by omega)]
set_option maxHeartbeats 1000000 in
/-- Sums, where both count. -/
theorem add_yes (a b : Int) (ha0 : -9223372036854775807 ≤ a) (ha1 : a ≤ 9223372036854775807) (hb0 : -9223372036854775807 ≤ b) (hb1 : b ≤ 9223372036854775807) (w : World) :
    Calls Try.prog 74 #[.agg #[.bool false, .int .i64 a], .agg #[.bool false, .int .i64 b]] w fun e w' => e = .returned (.agg #[.bool (nb (addO (some a) (some b))), .int .i64 (nv (addO (some a) (some b)))]) ∧ Below w.heap.size w w' := by
  have hi := Lib.hid (missing_yes a (by omega))
  have hj := Lib.hid (missing_yes b (by omega))
  have hO : addO (some a) (some b) = lim (a + b) := rfl
  rw [hO]
  clear hO
  by_cases hr : -9223372036854775808 ≤ a + b ∧ a + b ≤ 9223372036854775807
  · obtain ⟨S, hS⟩ : ∃ S, S = a + b := ⟨_, rfl⟩
    have HL := Lib.hid (lim_rd hr)
    have R : IntKind.i64.wrap (a + b) = S := by rw [hS]; exact i64_in hr.1 hr.2
    have t : (decide (a < S) == decide (0 < b)) = true := by
      rw [beq_iff_eq, decide_eq_decide]; omega
    have HO := Lib.hid (of_c (a + b))
    rw [← hS] at HO HL ⊢
    clear hS ha0 ha1 hb0 hb1
    clear hr
    go_enter Try.func74, Try.ntmps74
    go_wp2_with fail
    refine (hi.out _).mono ?_; rintro e w1 ⟨rfl, hb1⟩; obtain ⟨hc1, hf1⟩ := bcell hb1
    have z1 : w.heap.size + 1 + 1 < w1.heap.size := (by have := hb1.size; simp at this; omega)
    have z1' : w.heap.size + 1 < w1.heap.size := by omega
    have z1'' : w.heap.size < w1.heap.size := by omega
    go_wp2_with fail
    refine (hj.out _).mono ?_; rintro e w2 ⟨rfl, hb2⟩; obtain ⟨hc2, hf2⟩ := bcell hb2
    have z2 : w.heap.size + 1 + 1 < w2.heap.size := Nat.lt_of_lt_of_le z1 hb2.size
    have z2' : w.heap.size + 1 < w2.heap.size := by omega
    have z2'' : w.heap.size < w2.heap.size := by omega
    have HX : Below w.heap.size w w2 := below_next (below_three hb1) hb2
    go_wp2_with fail
    refine (HO.out _).mono ?_; rintro e w3 ⟨rfl, hb3⟩; obtain ⟨hc3, hf3⟩ := bcell hb3
    go_wp2
    refine bodyPost_ret (v := .agg #[.bool (nb (rd false S)), .int .i64 (nv (rd false S))]) (by simp [results, Try.results74, go_sem, hc1, hf1, hc2, hf2, hc3, hf3, z1, z2]) rfl ⟨?_, below_put (below_next HX hb3) (by omega) _ _⟩
    rw [HL.out]
  · by_cases hu : 9223372036854775807 < a + b
    · obtain ⟨S, hS⟩ : ∃ S, S = a + b - 18446744073709551616 := ⟨_, rfl⟩
      have HL := Lib.hid (lim_out (t := a + b) (by omega))
      have R : IntKind.i64.wrap (a + b) = S := by rw [hS]; exact i64_up (by omega) (by omega)
      have t : (decide (a < S) == decide (0 < b)) = false := by
        have e1 : decide (a < S) = false := by rw [decide_eq_false_iff_not]; omega
        have e2 : decide (0 < b) = true := by rw [decide_eq_true_eq]; omega
        rw [e1, e2]; rfl
      generalize lim (a + b) = O at HL ⊢
      clear hS ha0 ha1 hb0 hb1 hu
      clear hr
      go_enter Try.func74, Try.ntmps74
      go_wp2_with fail
      refine (hi.out _).mono ?_; rintro e w1 ⟨rfl, hb1⟩; obtain ⟨hc1, hf1⟩ := bcell hb1
      have z1 : w.heap.size + 1 + 1 < w1.heap.size := (by have := hb1.size; simp at this; omega)
      have z1' : w.heap.size + 1 < w1.heap.size := by omega
      have z1'' : w.heap.size < w1.heap.size := by omega
      go_wp2_with fail
      refine (hj.out _).mono ?_; rintro e w2 ⟨rfl, hb2⟩; obtain ⟨hc2, hf2⟩ := bcell hb2
      have z2 : w.heap.size + 1 + 1 < w2.heap.size := Nat.lt_of_lt_of_le z1 hb2.size
      have z2' : w.heap.size + 1 < w2.heap.size := by omega
      have z2'' : w.heap.size < w2.heap.size := by omega
      have HX : Below w.heap.size w w2 := below_next (below_three hb1) hb2
      go_wp2_with fail
      refine (nothing_c _).mono ?_; rintro e w3 ⟨rfl, hb3⟩; obtain ⟨hc3, hf3⟩ := bcell hb3
      go_wp2
      refine bodyPost_ret (v := .agg #[.bool true, .int .i64 0]) (by simp [results, Try.results74, go_sem, hc1, hf1, hc2, hf2, hc3, hf3, z1, z2]) rfl ⟨?_, below_put (below_next HX hb3) (by omega) _ _⟩
      rw [HL.out]; rfl
    · obtain ⟨S, hS⟩ : ∃ S, S = a + b + 18446744073709551616 := ⟨_, rfl⟩
      have HL := Lib.hid (lim_out (t := a + b) (by omega))
      have R : IntKind.i64.wrap (a + b) = S := by rw [hS]; exact i64_down (by omega) (by omega)
      have t : (decide (a < S) == decide (0 < b)) = false := by
        have e1 : decide (a < S) = true := by rw [decide_eq_true_eq]; omega
        have e2 : decide (0 < b) = false := by rw [decide_eq_false_iff_not]; omega
        rw [e1, e2]; rfl
      generalize lim (a + b) = O at HL ⊢
      clear hS ha0 ha1 hb0 hb1 hu
      clear hr
      go_enter Try.func74, Try.ntmps74
      go_wp2_with fail
      refine (hi.out _).mono ?_; rintro e w1 ⟨rfl, hb1⟩; obtain ⟨hc1, hf1⟩ := bcell hb1
      have z1 : w.heap.size + 1 + 1 < w1.heap.size := (by have := hb1.size; simp at this; omega)
      have z1' : w.heap.size + 1 < w1.heap.size := by omega
      have z1'' : w.heap.size < w1.heap.size := by omega
      go_wp2_with fail
      refine (hj.out _).mono ?_; rintro e w2 ⟨rfl, hb2⟩; obtain ⟨hc2, hf2⟩ := bcell hb2
      have z2 : w.heap.size + 1 + 1 < w2.heap.size := Nat.lt_of_lt_of_le z1 hb2.size
      have z2' : w.heap.size + 1 < w2.heap.size := by omega
      have z2'' : w.heap.size < w2.heap.size := by omega
      have HX : Below w.heap.size w w2 := below_next (below_three hb1) hb2
      go_wp2_with fail
      refine (nothing_c _).mono ?_; rintro e w3 ⟨rfl, hb3⟩; obtain ⟨hc3, hf3⟩ := bcell hb3
      go_wp2
      refine bodyPost_ret (v := .agg #[.bool true, .int .i64 0]) (by simp [results, Try.results74, go_sem, hc1, hf1, hc2, hf2, hc3, hf3, z1, z2]) rfl ⟨?_, below_put (below_next HX hb3) (by omega) _ _⟩
      rw [HL.out]; rfl
theorem add_any (b1 b2 : Bool) (v1 v2 : Int) (h1 : -9223372036854775808 ≤ v1 ∧ v1 ≤ 9223372036854775807) (h2 : -9223372036854775808 ≤ v2 ∧ v2 ≤ 9223372036854775807) (w : World) :
    Calls Try.prog 74 #[.agg #[.bool b1, .int .i64 v1], .agg #[.bool b2, .int .i64 v2]] w fun e w' => e = .returned (.agg #[.bool (nb (addO (rd b1 v1) (rd b2 v2))), .int .i64 (nv (addO (rd b1 v1) (rd b2 v2)))]) ∧ Below w.heap.size w w' := by
  by_cases g1 : b1 = false ∧ v1 ≠ -9223372036854775808
  · by_cases g2 : b2 = false ∧ v2 ≠ -9223372036854775808
    · obtain ⟨rfl, k1⟩ := g1
      obtain ⟨rfl, k2⟩ := g2
      rw [rd_some rfl k1, rd_some rfl k2]
      exact add_yes v1 v2 (by omega) (by omega) (by omega) (by omega) w
    · have h := add_no b1 b2 v1 v2 _ _ (missing_c b1 v1) (missing_c b2 v2) (by rw [rd_none g2]; simp) w
      rw [rd_none g2]
      cases rd b1 v1 <;> exact h
  · have h := add_no b1 b2 v1 v2 _ _ (missing_c b1 v1) (missing_c b2 v2) (by rw [rd_none g1]; simp) w
    rw [rd_none g1]
    exact h

/-- The order of two whole numbers. -/
def ordI (x y : Int) : Int := if x < y then -1 else if y < x then 1 else 0
theorem nan_c (x : Int) (w : World) : Calls Try.prog 93 #[.int .i64 x] w fun e w' => e = .returned (.bool false) ∧ w = w' := by
  go_enter Try.func93, Try.ntmps93
  go_wp2
  go_ret
  exact ⟨by simp, rfl⟩
theorem order_c (x y : Int) (w : World) : Calls Try.prog 89 #[.int .i64 x, .int .i64 y] w fun e w' => e = .returned (.int .i64 (ordI x y)) ∧ w = w' := by
  have NX := Lib.hid (nan_c x); have NY := Lib.hid (nan_c y)
  by_cases h : x < y
  · have ho : ordI x y = -1 := if_pos h
    rw [ho]
    clear ho
    go_enter Try.func89, Try.ntmps89
    go_wp2_with fail
    refine (NX.out _).mono ?_; rintro e w' ⟨rfl, rfl⟩
    go_wp2_with fail
    refine (NY.out _).mono ?_; rintro e w' ⟨rfl, rfl⟩
    go_wp2
    go_ret
    exact ⟨rfl, rfl⟩
  · by_cases h2 : y < x
    · have ho : ordI x y = 1 := (if_neg h).trans (if_pos h2)
      rw [ho]
      clear ho
      go_enter Try.func89, Try.ntmps89
      go_wp2_with fail
      refine (NX.out _).mono ?_; rintro e w' ⟨rfl, rfl⟩
      go_wp2_with fail
      refine (NY.out _).mono ?_; rintro e w' ⟨rfl, rfl⟩
      go_wp2
      go_ret
      exact ⟨rfl, rfl⟩
    · have ho : ordI x y = 0 := (if_neg h).trans (if_neg h2)
      rw [ho]
      clear ho
      go_enter Try.func89, Try.ntmps89
      go_wp2_with fail
      refine (NX.out _).mono ?_; rintro e w' ⟨rfl, rfl⟩
      go_wp2_with fail
      refine (NY.out _).mono ?_; rintro e w' ⟨rfl, rfl⟩
      go_wp2
      go_ret
      exact ⟨rfl, rfl⟩
theorem ord_cmp {x y : Option Int} (hx : inR x) (hy : inR y) : ordI (rkO x) (rkO y) = cmpO x y := by
  cases x with
  | none => cases y with
    | none => rfl
    | some b => have := hy b rfl; exact if_pos (show (-9223372036854775808 : Int) < b from by omega)
  | some a => cases y with
    | none =>
      have := hx a rfl
      exact (if_neg (show ¬ a < (-9223372036854775808 : Int) from by omega)).trans (if_pos (show (-9223372036854775808 : Int) < a from by omega))
    | some b => rfl
set_option maxHeartbeats 1000000 in
theorem cmp_any (b1 b2 : Bool) (v1 v2 : Int) (h1 : -9223372036854775808 ≤ v1 ∧ v1 ≤ 9223372036854775807) (h2 : -9223372036854775808 ≤ v2 ∧ v2 ≤ 9223372036854775807) (w : World) :
    Calls Try.prog 87 #[.agg #[.bool b1, .int .i64 v1], .agg #[.bool b2, .int .i64 v2]] w fun e w' => e = .returned (.int .i64 (cmpO (rd b1 v1) (rd b2 v2))) ∧ Below w.heap.size w w' := by
  rw [← ord_cmp (rd_in b1 v1 h1) (rd_in b2 v2 h2)]
  have HX := rank_c b1 v1; have HY := rank_c b2 v2
  have HC := order_c (rkO (rd b1 v1)) (rkO (rd b2 v2))
  generalize rkO (rd b1 v1) = x at *
  generalize rkO (rd b2 v2) = y at *
  generalize ordI x y = O at *
  have GX := Lib.hid HX; have GY := Lib.hid HY; have GC := Lib.hid HC
  clear HX HY HC h1 h2
  go_enter Try.func87, Try.ntmps87
  go_wp2_with fail
  have k0 : w.heap.size < w.heap.size + 1 + 1 := by omega
  have k1 : w.heap.size + 1 < w.heap.size + 1 + 1 := by omega
  go_region_held3 (fun y => y.cell? ⟨w.heap.size, 0, none⟩ = some (.bool b1) ∧ y.cell? ⟨w.heap.size, 1, none⟩ = some (.int .i64 v1) ∧ y.cell? ⟨w.heap.size + 1, 0, none⟩ = some (.bool b2) ∧ y.cell? ⟨w.heap.size + 1, 1, none⟩ = some (.int .i64 v2) ∧ w.heap.size < y.heap.size ∧ w.heap.size + 1 < y.heap.size)
    (first | go_keep | (refine held2 ?_ (by assumption); assumption))
    (first
      | (go_at_call_of 90 (v1); refine (GX.out _).mono ?_; rintro e w1 ⟨rfl, hb1⟩)
      | (go_at_call_of 90 (v2); refine (GY.out _).mono ?_; rintro e w2 ⟨rfl, hb2⟩)
      | (go_at_call 89; refine (GC.out _).mono ?_; rintro e w' ⟨rfl, rfl⟩))
  all_goals go_wp2
  all_goals go_ret
  all_goals exact ⟨rfl, below_next (alloc_two.drew.trans (hb1.mono (by simp <;> omega))) hb2⟩

theorem less_any (b1 b2 : Bool) (v1 v2 : Int) (w : World) :
    Calls Try.prog 76 #[.agg #[.bool b1, .int .i64 v1], .agg #[.bool b2, .int .i64 v2]] w fun e w' => e = .returned (.agg #[.bool (nb (lessO (rd b1 v1) (rd b2 v2))), .int .i64 (nv (lessO (rd b1 v1) (rd b2 v2)))]) ∧ Below w.heap.size w w' := by
  have HC := Lib.hid (counted_c b2 v2)
  by_cases g1 : b1 = false ∧ v1 ≠ -9223372036854775808
  · have HP := Lib.hid (missing_yes v1 g1.2)
    obtain ⟨rfl, k1⟩ := g1
    rw [rd_some rfl k1]
    by_cases g2 : b2 = false ∧ v2 ≠ -9223372036854775808
    · have HQ := Lib.hid (missing_yes v2 g2.2)
      obtain ⟨rfl, k2⟩ := g2
      have h := HC.out
      rw [rd_some rfl k2] at h ⊢
      have HD := Lib.hid h
      clear h HC
      by_cases l : v2 < v1
      · rw [show lessO (some v1) (some v2) = some v2 from if_neg (by omega)]
        clear k1 k2
        go_enter Try.func76, Try.ntmps76
        go_wp2_with fail
        refine (HP.out _).mono ?_; rintro e w1 ⟨rfl, hb1⟩; obtain ⟨hc1, hf1⟩ := bcell hb1
        have z1 : w.heap.size + 1 + 1 < w1.heap.size := (by have := hb1.size; simp at this; omega)
        have y1 : w.heap.size + 1 < w1.heap.size := by omega
        have x1 : w.heap.size < w1.heap.size := by omega
        go_wp2_with fail
        refine (HQ.out _).mono ?_; rintro e w2 ⟨rfl, hb2⟩; obtain ⟨hc2, hf2⟩ := bcell hb2
        have z2 : w.heap.size + 1 + 1 < w2.heap.size := Nat.lt_of_lt_of_le z1 hb2.size
        have y2 : w.heap.size + 1 < w2.heap.size := by omega
        have x2 : w.heap.size < w2.heap.size := by omega
        go_wp2_with fail
        refine (HD.out _).mono ?_; rintro e w3 ⟨rfl, hb3⟩; obtain ⟨hc3, hf3⟩ := bcell hb3
        go_wp2
        exact bodyPost_ret (v := .agg #[.bool (nb (some v2)), .int .i64 (nv (some v2))]) (by simp [results, Try.results76, go_sem, hc1, hf1, hc2, hf2, hc3, hf3, z1, z2]) rfl ⟨rfl, below_put (below_next (below_next (below_three hb1) hb2) hb3) (by omega) _ _⟩
      · rw [show lessO (some v1) (some v2) = some v1 from if_pos (by omega)]
        clear k1 k2 HD
        go_enter Try.func76, Try.ntmps76
        go_wp2_with fail
        refine (HP.out _).mono ?_; rintro e w1 ⟨rfl, hb1⟩; obtain ⟨hc1, hf1⟩ := bcell hb1
        have z1 : w.heap.size + 1 + 1 < w1.heap.size := (by have := hb1.size; simp at this; omega)
        have y1 : w.heap.size + 1 < w1.heap.size := by omega
        have x1 : w.heap.size < w1.heap.size := by omega
        go_wp2_with fail
        refine (HQ.out _).mono ?_; rintro e w2 ⟨rfl, hb2⟩; obtain ⟨hc2, hf2⟩ := bcell hb2
        have z2 : w.heap.size + 1 + 1 < w2.heap.size := Nat.lt_of_lt_of_le z1 hb2.size
        have y2 : w.heap.size + 1 < w2.heap.size := by omega
        have x2 : w.heap.size < w2.heap.size := by omega
        go_wp2
        exact bodyPost_ret (v := .agg #[.bool false, .int .i64 v1]) (by simp [results, Try.results76, go_sem, hc1, hf1, hc2, hf2, z1, z2]) rfl ⟨rfl, below_put (below_next (below_three hb1) hb2) (by omega) _ _⟩
    · have HQ := Lib.hid (missing_no b2 v2 g2)
      rw [rd_none g2]
      clear g2 k1 HC
      go_enter Try.func76, Try.ntmps76
      go_wp2_with fail
      refine (HP.out _).mono ?_; rintro e w1 ⟨rfl, hb1⟩; obtain ⟨hc1, hf1⟩ := bcell hb1
      have z1 : w.heap.size + 1 + 1 < w1.heap.size := (by have := hb1.size; simp at this; omega)
      have y1 : w.heap.size + 1 < w1.heap.size := by omega
      have x1 : w.heap.size < w1.heap.size := by omega
      go_wp2_with fail
      refine (HQ.out _).mono ?_; rintro e w2 ⟨rfl, hb2⟩; obtain ⟨hc2, hf2⟩ := bcell hb2
      have z2 : w.heap.size + 1 + 1 < w2.heap.size := Nat.lt_of_lt_of_le z1 hb2.size
      have y2 : w.heap.size + 1 < w2.heap.size := by omega
      have x2 : w.heap.size < w2.heap.size := by omega
      go_wp2
      exact bodyPost_ret (v := .agg #[.bool false, .int .i64 v1]) (by simp [results, Try.results76, go_sem, hc1, hf1, hc2, hf2, z1, z2]) rfl ⟨rfl, below_put (below_next (below_three hb1) hb2) (by omega) _ _⟩
  · have HP := Lib.hid (missing_no b1 v1 g1)
    rw [rd_none g1, show lessO none (rd b2 v2) = rd b2 v2 from rfl]
    generalize rd b2 v2 = O at HC ⊢
    clear g1
    go_enter Try.func76, Try.ntmps76
    go_wp2_with fail
    refine (HP.out _).mono ?_; rintro e w1 ⟨rfl, hb1⟩; obtain ⟨hc1, hf1⟩ := bcell hb1
    have z1 : w.heap.size + 1 + 1 < w1.heap.size := (by have := hb1.size; simp at this; omega)
    have y1 : w.heap.size + 1 < w1.heap.size := by omega
    have x1 : w.heap.size < w1.heap.size := by omega
    go_wp2_with fail
    refine (HC.out _).mono ?_; rintro e w2 ⟨rfl, hb2⟩; obtain ⟨hc2, hf2⟩ := bcell hb2
    go_wp2
    exact bodyPost_ret (v := .agg #[.bool (nb O), .int .i64 (nv O)]) (by simp [results, Try.results76, go_sem, hc1, hf1, hc2, hf2, z1]) rfl ⟨rfl, below_put (below_next (below_three hb1) hb2) (by omega) _ _⟩

theorem more_cmp (x y : Option Int) : (cmpO x y < 0 → moreO x y = y) ∧ (¬ cmpO x y < 0 → moreO x y = x) := by
  cases x with
  | none => cases y with
    | none => exact ⟨fun _ => rfl, fun _ => rfl⟩
    | some b => exact ⟨fun _ => rfl, fun h => absurd (show (-1 : Int) < 0 from by decide) h⟩
  | some a => cases y with
    | none => exact ⟨fun h => absurd h (show ¬ (1 : Int) < 0 from by decide), fun _ => rfl⟩
    | some b =>
      show ((if a < b then (-1 : Int) else if b < a then 1 else 0) < 0 → (if b ≤ a then some a else some b) = some b) ∧ (¬ (if a < b then (-1 : Int) else if b < a then 1 else 0) < 0 → (if b ≤ a then some a else some b) = some a)
      by_cases h : a < b
      · rw [if_pos h, if_neg (by omega : ¬ b ≤ a)]
        exact ⟨fun _ => rfl, fun hh => absurd (by decide) hh⟩
      · rw [if_neg h, if_pos (by omega : b ≤ a)]
        refine ⟨fun hh => ?_, fun _ => rfl⟩
        split at hh <;> omega
theorem more_any (b1 b2 : Bool) (v1 v2 : Int) (h1 : -9223372036854775808 ≤ v1 ∧ v1 ≤ 9223372036854775807) (h2 : -9223372036854775808 ≤ v2 ∧ v2 ≤ 9223372036854775807) (w : World) :
    Calls Try.prog 77 #[.agg #[.bool b1, .int .i64 v1], .agg #[.bool b2, .int .i64 v2]] w fun e w' => e = .returned (.agg #[.bool (nb (moreO (rd b1 v1) (rd b2 v2))), .int .i64 (nv (moreO (rd b1 v1) (rd b2 v2)))]) ∧ Below w.heap.size w w' := by
  have HA := Lib.hid (counted_c b1 v1)
  have HB := Lib.hid (counted_c b2 v2)
  have HC := Lib.hid (cmp_any b1 b2 v1 v2 h1 h2)
  obtain ⟨m1, m2⟩ := more_cmp (rd b1 v1) (rd b2 v2)
  generalize cmpO (rd b1 v1) (rd b2 v2) = c at *
  by_cases l : c < 0
  · rw [m1 l]
    generalize rd b2 v2 = O at *
    clear m1 m2 h1 h2
    go_enter Try.func77, Try.ntmps77
    go_wp2_with fail
    refine (HC.out _).mono ?_; rintro e w1 ⟨rfl, hb1⟩; obtain ⟨hc1, hf1⟩ := bcell hb1
    have z1 : w.heap.size + 1 + 1 < w1.heap.size := (by have := hb1.size; simp at this; omega)
    have y1 : w.heap.size + 1 < w1.heap.size := by omega
    have x1 : w.heap.size < w1.heap.size := by omega
    go_wp2_with fail
    refine (HB.out _).mono ?_; rintro e w2 ⟨rfl, hb2⟩; obtain ⟨hc2, hf2⟩ := bcell hb2
    go_wp2
    exact bodyPost_ret (v := .agg #[.bool (nb O), .int .i64 (nv O)]) (by simp [results, Try.results77, go_sem, hc1, hf1, hc2, hf2, z1]) rfl ⟨rfl, below_put (below_next (below_three hb1) hb2) (by omega) _ _⟩
  · rw [m2 l]
    generalize rd b1 v1 = O at *
    clear m1 m2 h1 h2
    go_enter Try.func77, Try.ntmps77
    go_wp2_with fail
    refine (HC.out _).mono ?_; rintro e w1 ⟨rfl, hb1⟩; obtain ⟨hc1, hf1⟩ := bcell hb1
    have z1 : w.heap.size + 1 + 1 < w1.heap.size := (by have := hb1.size; simp at this; omega)
    have y1 : w.heap.size + 1 < w1.heap.size := by omega
    have x1 : w.heap.size < w1.heap.size := by omega
    go_wp2_with fail
    refine (HA.out _).mono ?_; rintro e w2 ⟨rfl, hb2⟩; obtain ⟨hc2, hf2⟩ := bcell hb2
    go_wp2
    exact bodyPost_ret (v := .agg #[.bool (nb O), .int .i64 (nv O)]) (by simp [results, Try.results77, go_sem, hc1, hf1, hc2, hf2, z1]) rfl ⟨rfl, below_put (below_next (below_three hb1) hb2) (by omega) _ _⟩
end Go.Proofs.Ytkgajlklhcmmcaa.FP
