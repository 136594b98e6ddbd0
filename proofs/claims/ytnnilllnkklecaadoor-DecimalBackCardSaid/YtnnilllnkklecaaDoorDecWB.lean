/-
  The statements of layer 3, walked, the second part: there and back.
-/
import Derived.Test.YtnnilllnkklecaaDoorDecW
set_option linter.unusedSimpArgs false
set_option linter.unusedVariables false
namespace Go.Proofs.YtnnilllnkklecaaDoor
theorem allD_le {l : List Nat} (h : allD l = true) : ∀ c ∈ l, c < 256 := by
  unfold allD at h
  rw [List.all_eq_true] at h
  intro c hc
  have := isD_bounds (h c hc)
  omega
theorem print_bytes (o : Option Int) (h : inR o) : ∀ c ∈ printS o, c < 256 := by
  cases o with
  | none => decide
  | some v =>
    show ∀ c ∈ (if v < 0 then [45] else []) ++ (digs (v.natAbs / 1000000) ++ evF (v.natAbs % 1000000)), c < 256
    intro c hc
    rw [List.mem_append, List.mem_append] at hc
    rcases hc with hc | hc | hc
    · split at hc
      · simp at hc; omega
      · simp at hc
    · exact allD_le (allD_digs _) c hc
    · unfold evF at hc
      split at hc
      · simp at hc
      · rcases List.mem_cons.1 hc with rfl | hc
        · decide
        · exact allD_le (allD_frF 6 _ (by omega)) c hc
end Go.Proofs.YtnnilllnkklecaaDoor
namespace Go.Proofs.YtnnilllnkklecaaDoor.DW
open Go.RowKit

theorem right_t (v : Int) (z : Bool) (hz : (v == 0) = z) (w : World) : Calls Tryd.prog 16 #[.agg #[.bool true, .int .i64 v]] w fun e w' => e = .returned (.bool z) ∧ Below w.heap.size w w' := by
  subst hz
  go_enter Tryd.func16, Tryd.ntmps16
  go_wp2
  go_ret
  exact ⟨rfl, (Below.refl _ _).alloc (Nat.le_refl _) _⟩
theorem print_no (b : Bool) (v : Int) (h1 : -9223372036854775808 ≤ v ∧ v ≤ 9223372036854775807) (g : ¬ (b = false ∧ v ≠ -9223372036854775808)) (w : World) (hG : G w) :
    Calls Tryd.prog 12 #[.agg #[.bool b, .int .i64 v]] w fun e w' => e = .returned (.string ⟨#[78, 111, 110, 101]⟩) ∧ Below w.heap.size w w' := by
  have h := DP.print_c b v h1 w hG
  rw [rd_none g, show str (printS none) = ⟨#[78, 111, 110, 101]⟩ from by decide +kernel] at h
  exact h
theorem parse_none (w : World) (hG : G w) : Calls Tryd.prog 8 #[.string ⟨#[78, 111, 110, 101]⟩] w fun e w' => e = .returned (.tuple #[.agg #[.bool false, .int .i64 0], .int .i64 2]) ∧ Below w.heap.size w w' := by
  have h := DP.parse_c ⟨#[78, 111, 110, 101]⟩ (by decide) w hG
  rw [show canP (bs ⟨#[78, 111, 110, 101]⟩) = (0, 2) from by decide +kernel] at h
  exact h
set_option maxRecDepth 100000 in
set_option maxHeartbeats 2000000 in
theorem back_some (v : Int) (h0 : -9223372036854775807 ≤ v) (h1 : v ≤ 9223372036854775807) (s : ByteArray) (hs : s.size ≤ 9223372036854775807) (w : World) (hG : G w) : Calls Tryd.prog 5 #[.agg #[.bool false, .int .i64 v], .string s] w fun e w' => e = .returned (.bool true) ∧ Below w.heap.size w w' := by
  have HG := Lib.hid hG
  have p1 := DP.print_c false v (by omega)
  rw [rd_some rfl (by omega)] at p1
  have hsz : (str (printS (some v))).size ≤ 21 := by rw [str_size]; exact print_length h0 h1
  have p2 := DP.parse_c (str (printS (some v))) (by omega)
  rw [bs_str (print_bytes _ (fun t h => by cases h; exact ⟨h0, h1⟩)), print_back h0 h1] at p2
  have p3 := DR.right_f v true (by rw [bne_iff_ne]; omega)
  generalize str (printS (some v)) = TX at *
  have tsz := Lib.hid (show decide ((TX.size : Int) ≤ 21) = true from decide_eq_true (by omega))
  have P1 := Lib.hid p1; have P2 := Lib.hid p2; have P3 := Lib.hid p3
  clear p1 p2 p3 h0 h1
  by_cases hy : (canP (bs s)).2 = 0
  · obtain ⟨x, hxx⟩ : ∃ x, (canP (bs s)).1 = x := ⟨_, rfl⟩
    have hy : (x, (0 : Int)) = canP (bs s) := by rw [← hxx, ← hy]
    have Q1 := DP.parse_c s hs
    have hx : canP (bs s) = (x, 0) := hy.symm
    have hr := canP_range hx
    rw [hx] at Q1
    have Q2 := DP.print_c false x (by omega)
    rw [rd_some rfl (by omega)] at Q2
    have Q3 := DP.parse_c (str (printS (some x))) (by rw [str_size]; have := print_length hr.1 hr.2; omega)
    rw [bs_str (print_bytes _ (fun t h => by cases h; exact hr)), print_back hr.1 hr.2] at Q3
    have Q4 := DR.right_f x true (by rw [bne_iff_ne]; omega)
    generalize str (printS (some x)) = E at *
    have H1 := Lib.hid Q1; have H2 := Lib.hid Q2; have H3 := Lib.hid Q3; have H4 := Lib.hid Q4
    clear Q1 Q2 Q3 Q4 hr hx hy hxx hs
    go_enter Tryd.func5, Tryd.ntmps5
    go_wp2_with fail
    refine (alive_c _ (by first | exact HG.out | exact HG.out.alloc _ | exact HG.out.drew | exact (HG.out.alloc _).drew | exact HG.out.drew.alloc _ | exact (HG.out.alloc _).alloc _)).mono ?_; rintro e w1 ⟨rfl, hb1⟩; have gw1 := Lib.hid (G.below (by first | exact HG.out | exact HG.out.alloc _ | exact HG.out.drew | exact (HG.out.alloc _).drew | exact HG.out.drew.alloc _ | exact (HG.out.alloc _).alloc _) hb1); obtain ⟨hc1, hf1⟩ := bcell hb1
    have z1 : w.heap.size < w1.heap.size := (by have := hb1.size; simp at this; omega)
    go_wp2_with fail
    refine (H1.out _ (by first | exact gw1.out | exact gw1.out.alloc _ | exact gw1.out.drew | exact (gw1.out.alloc _).drew | exact gw1.out.drew.alloc _ | exact (gw1.out.alloc _).alloc _)).mono ?_; rintro e w2 ⟨rfl, hb2⟩; have gw2 := Lib.hid (G.below (by first | exact gw1.out | exact gw1.out.alloc _ | exact gw1.out.drew | exact (gw1.out.alloc _).drew | exact gw1.out.drew.alloc _ | exact (gw1.out.alloc _).alloc _) hb2); obtain ⟨hc2, hf2⟩ := bcell hb2
    have z2 : w.heap.size < w2.heap.size := Nat.lt_of_lt_of_le z1 hb2.size
    have HX := Lib.hid (below_next (below_box hb1) hb2)
    go_wp2_with fail
    refine (H2.out _ (by first | exact gw2.out | exact gw2.out.alloc _ | exact gw2.out.drew | exact (gw2.out.alloc _).drew | exact gw2.out.drew.alloc _ | exact (gw2.out.alloc _).alloc _)).mono ?_; rintro e w3 ⟨rfl, hb3⟩; have gw3 := Lib.hid (G.below (by first | exact gw2.out | exact gw2.out.alloc _ | exact gw2.out.drew | exact (gw2.out.alloc _).drew | exact gw2.out.drew.alloc _ | exact (gw2.out.alloc _).alloc _) hb3); obtain ⟨hc3, hf3⟩ := bcell hb3
    have y3 : w2.heap.size < w3.heap.size := (by have := hb3.size; simp at this; omega)
    have z3 : w.heap.size < w3.heap.size := by omega
    go_wp2_with fail
    refine (H3.out _ (by first | exact gw3.out | exact gw3.out.alloc _ | exact gw3.out.drew | exact (gw3.out.alloc _).drew | exact gw3.out.drew.alloc _ | exact (gw3.out.alloc _).alloc _)).mono ?_; rintro e w4 ⟨rfl, hb4⟩; have gw4 := Lib.hid (G.below (by first | exact gw3.out | exact gw3.out.alloc _ | exact gw3.out.drew | exact (gw3.out.alloc _).drew | exact gw3.out.drew.alloc _ | exact (gw3.out.alloc _).alloc _) hb4); obtain ⟨hc4, hf4⟩ := bcell hb4
    have y4 : w2.heap.size < w4.heap.size := Nat.lt_of_lt_of_le y3 hb4.size
    have z4 : w.heap.size < w4.heap.size := by omega
    have HY := Lib.hid (below_next (below_next HX.out (below_box hb3)) hb4)
    go_wp2_with fail
    refine (H4.out _).mono ?_; rintro e w5 ⟨rfl, hb5⟩; have gw5 := Lib.hid (G.below (by first | exact gw4.out | exact gw4.out.alloc _ | exact gw4.out.drew | exact (gw4.out.alloc _).drew | exact gw4.out.drew.alloc _ | exact (gw4.out.alloc _).alloc _) hb5); obtain ⟨hc5, hf5⟩ := bcell hb5
    have z5 : w.heap.size < w5.heap.size := (by have := hb5.size; simp at this; omega)
    have HZ := Lib.hid (below_next HY.out (below_box hb5))
    have K0 : w5.cell? ⟨w.heap.size, 0, none⟩ = some (.bool false) := by go_simp
    have K1 : w5.cell? ⟨w.heap.size, 1, none⟩ = some (.int .i64 v) := by go_simp
    clear hc1 hf1 hc2 hf2 hc3 hf3 hc4 hf4 hc5 hf5 hb1 hb2 hb3 hb4 hb5 z1 z2 z3 z4 y3 y4 HX HY
    go_wp2_with fail
    refine (P1.out _ (by first | exact gw5.out | exact gw5.out.alloc _ | exact gw5.out.drew | exact (gw5.out.alloc _).drew | exact gw5.out.drew.alloc _ | exact (gw5.out.alloc _).alloc _)).mono ?_; rintro e w6 ⟨rfl, hb6⟩; have gw6 := Lib.hid (G.below (by first | exact gw5.out | exact gw5.out.alloc _ | exact gw5.out.drew | exact (gw5.out.alloc _).drew | exact gw5.out.drew.alloc _ | exact (gw5.out.alloc _).alloc _) hb6); obtain ⟨hc6, hf6⟩ := bcell hb6
    have z6 : w.heap.size < w6.heap.size := Nat.lt_of_lt_of_le z5 hb6.size
    have HU := Lib.hid (below_next HZ.out hb6)
    go_wp2_with fail
    refine (P2.out _ (by first | exact gw6.out | exact gw6.out.alloc _ | exact gw6.out.drew | exact (gw6.out.alloc _).drew | exact gw6.out.drew.alloc _ | exact (gw6.out.alloc _).alloc _)).mono ?_; rintro e w7 ⟨rfl, hb7⟩; have gw7 := Lib.hid (G.below (by first | exact gw6.out | exact gw6.out.alloc _ | exact gw6.out.drew | exact (gw6.out.alloc _).drew | exact gw6.out.drew.alloc _ | exact (gw6.out.alloc _).alloc _) hb7); obtain ⟨hc7, hf7⟩ := bcell hb7
    have z7 : w.heap.size < w7.heap.size := Nat.lt_of_lt_of_le z6 hb7.size
    have HV := Lib.hid (below_next HU.out hb7)
    go_wp2_with fail
    refine (P3.out _).mono ?_; rintro e w8 ⟨rfl, hb8⟩; have gw8 := Lib.hid (G.below (by first | exact gw7.out | exact gw7.out.alloc _ | exact gw7.out.drew | exact (gw7.out.alloc _).drew | exact gw7.out.drew.alloc _ | exact (gw7.out.alloc _).alloc _) hb8); obtain ⟨hc8, hf8⟩ := bcell hb8
    have y8 : w7.heap.size < w8.heap.size := (by have := hb8.size; simp at this; omega)
    have z8 : w.heap.size < w8.heap.size := by omega
    have HW := Lib.hid (below_next HV.out (below_box hb8))
    go_wp2
    go_ret
    exact ⟨congrArg (fun z => Ending.returned (.bool z)) tsz.out, HW.out⟩
  · have Q1 := DP.parse_c s hs
    have ty : ((canP (bs s)).2 == 0) = false := by rw [beq_eq_false_iff_ne]; exact hy
    generalize (canP (bs s)).1 = x at *
    generalize (canP (bs s)).2 = y at *
    have H1 := Lib.hid Q1
    clear Q1 hy hs
    go_enter Tryd.func5, Tryd.ntmps5
    go_wp2_with fail
    refine (alive_c _ (by first | exact HG.out | exact HG.out.alloc _ | exact HG.out.drew | exact (HG.out.alloc _).drew | exact HG.out.drew.alloc _ | exact (HG.out.alloc _).alloc _)).mono ?_; rintro e w1 ⟨rfl, hb1⟩; have gw1 := Lib.hid (G.below (by first | exact HG.out | exact HG.out.alloc _ | exact HG.out.drew | exact (HG.out.alloc _).drew | exact HG.out.drew.alloc _ | exact (HG.out.alloc _).alloc _) hb1); obtain ⟨hc1, hf1⟩ := bcell hb1
    have z1 : w.heap.size < w1.heap.size := (by have := hb1.size; simp at this; omega)
    go_wp2_with fail
    refine (H1.out _ (by first | exact gw1.out | exact gw1.out.alloc _ | exact gw1.out.drew | exact (gw1.out.alloc _).drew | exact gw1.out.drew.alloc _ | exact (gw1.out.alloc _).alloc _)).mono ?_; rintro e w2 ⟨rfl, hb2⟩; have gw2 := Lib.hid (G.below (by first | exact gw1.out | exact gw1.out.alloc _ | exact gw1.out.drew | exact (gw1.out.alloc _).drew | exact gw1.out.drew.alloc _ | exact (gw1.out.alloc _).alloc _) hb2); obtain ⟨hc2, hf2⟩ := bcell hb2
    have z2 : w.heap.size < w2.heap.size := Nat.lt_of_lt_of_le z1 hb2.size
    have HX := Lib.hid (below_next (below_box hb1) hb2)
    go_wp2_with fail
    refine (P1.out _ (by first | exact gw2.out | exact gw2.out.alloc _ | exact gw2.out.drew | exact (gw2.out.alloc _).drew | exact gw2.out.drew.alloc _ | exact (gw2.out.alloc _).alloc _)).mono ?_; rintro e w6 ⟨rfl, hb6⟩; have gw6 := Lib.hid (G.below (by first | exact gw2.out | exact gw2.out.alloc _ | exact gw2.out.drew | exact (gw2.out.alloc _).drew | exact gw2.out.drew.alloc _ | exact (gw2.out.alloc _).alloc _) hb6); obtain ⟨hc6, hf6⟩ := bcell hb6
    have z6 : w.heap.size < w6.heap.size := (by have := hb6.size; simp at this; omega)
    have HU := Lib.hid (below_next HX.out (below_box hb6))
    go_wp2_with fail
    refine (P2.out _ (by first | exact gw6.out | exact gw6.out.alloc _ | exact gw6.out.drew | exact (gw6.out.alloc _).drew | exact gw6.out.drew.alloc _ | exact (gw6.out.alloc _).alloc _)).mono ?_; rintro e w7 ⟨rfl, hb7⟩; have gw7 := Lib.hid (G.below (by first | exact gw6.out | exact gw6.out.alloc _ | exact gw6.out.drew | exact (gw6.out.alloc _).drew | exact gw6.out.drew.alloc _ | exact (gw6.out.alloc _).alloc _) hb7); obtain ⟨hc7, hf7⟩ := bcell hb7
    have z7 : w.heap.size < w7.heap.size := Nat.lt_of_lt_of_le z6 hb7.size
    have HV := Lib.hid (below_next HU.out hb7)
    go_wp2_with fail
    refine (P3.out _).mono ?_; rintro e w8 ⟨rfl, hb8⟩; have gw8 := Lib.hid (G.below (by first | exact gw7.out | exact gw7.out.alloc _ | exact gw7.out.drew | exact (gw7.out.alloc _).drew | exact gw7.out.drew.alloc _ | exact (gw7.out.alloc _).alloc _) hb8); obtain ⟨hc8, hf8⟩ := bcell hb8
    have y8 : w7.heap.size < w8.heap.size := (by have := hb8.size; simp at this; omega)
    have z8 : w.heap.size < w8.heap.size := by omega
    have HW := Lib.hid (below_next HV.out (below_box hb8))
    go_wp2
    go_ret
    exact ⟨congrArg (fun z => Ending.returned (.bool z)) tsz.out, HW.out⟩
set_option maxRecDepth 100000 in
set_option maxHeartbeats 2000000 in
theorem back_low (v : Int) (hv : v = -9223372036854775808) (s : ByteArray) (hs : s.size ≤ 9223372036854775807) (w : World) (hG : G w) : Calls Tryd.prog 5 #[.agg #[.bool false, .int .i64 v], .string s] w fun e w' => e = .returned (.bool true) ∧ Below w.heap.size w w' := by
  have HG := Lib.hid hG
  have p1 := print_no false v (by omega) (fun h => h.2 hv)
  have p2 := parse_none
  have p3 := DR.right_f v false (by rw [bne_eq_false_iff_eq]; exact hv)
  have P1 := Lib.hid p1; have P2 := Lib.hid p2; have P3 := Lib.hid p3
  clear p1 p2 p3 hv
  by_cases hy : (canP (bs s)).2 = 0
  · obtain ⟨x, hxx⟩ : ∃ x, (canP (bs s)).1 = x := ⟨_, rfl⟩
    have hy : (x, (0 : Int)) = canP (bs s) := by rw [← hxx, ← hy]
    have Q1 := DP.parse_c s hs
    have hx : canP (bs s) = (x, 0) := hy.symm
    have hr := canP_range hx
    rw [hx] at Q1
    have Q2 := DP.print_c false x (by omega)
    rw [rd_some rfl (by omega)] at Q2
    have Q3 := DP.parse_c (str (printS (some x))) (by rw [str_size]; have := print_length hr.1 hr.2; omega)
    rw [bs_str (print_bytes _ (fun t h => by cases h; exact hr)), print_back hr.1 hr.2] at Q3
    have Q4 := DR.right_f x true (by rw [bne_iff_ne]; omega)
    generalize str (printS (some x)) = E at *
    have H1 := Lib.hid Q1; have H2 := Lib.hid Q2; have H3 := Lib.hid Q3; have H4 := Lib.hid Q4
    clear Q1 Q2 Q3 Q4 hr hx hy hxx hs
    go_enter Tryd.func5, Tryd.ntmps5
    go_wp2_with fail
    refine (alive_c _ (by first | exact HG.out | exact HG.out.alloc _ | exact HG.out.drew | exact (HG.out.alloc _).drew | exact HG.out.drew.alloc _ | exact (HG.out.alloc _).alloc _)).mono ?_; rintro e w1 ⟨rfl, hb1⟩; have gw1 := Lib.hid (G.below (by first | exact HG.out | exact HG.out.alloc _ | exact HG.out.drew | exact (HG.out.alloc _).drew | exact HG.out.drew.alloc _ | exact (HG.out.alloc _).alloc _) hb1); obtain ⟨hc1, hf1⟩ := bcell hb1
    have z1 : w.heap.size < w1.heap.size := (by have := hb1.size; simp at this; omega)
    go_wp2_with fail
    refine (H1.out _ (by first | exact gw1.out | exact gw1.out.alloc _ | exact gw1.out.drew | exact (gw1.out.alloc _).drew | exact gw1.out.drew.alloc _ | exact (gw1.out.alloc _).alloc _)).mono ?_; rintro e w2 ⟨rfl, hb2⟩; have gw2 := Lib.hid (G.below (by first | exact gw1.out | exact gw1.out.alloc _ | exact gw1.out.drew | exact (gw1.out.alloc _).drew | exact gw1.out.drew.alloc _ | exact (gw1.out.alloc _).alloc _) hb2); obtain ⟨hc2, hf2⟩ := bcell hb2
    have z2 : w.heap.size < w2.heap.size := Nat.lt_of_lt_of_le z1 hb2.size
    have HX := Lib.hid (below_next (below_box hb1) hb2)
    go_wp2_with fail
    refine (H2.out _ (by first | exact gw2.out | exact gw2.out.alloc _ | exact gw2.out.drew | exact (gw2.out.alloc _).drew | exact gw2.out.drew.alloc _ | exact (gw2.out.alloc _).alloc _)).mono ?_; rintro e w3 ⟨rfl, hb3⟩; have gw3 := Lib.hid (G.below (by first | exact gw2.out | exact gw2.out.alloc _ | exact gw2.out.drew | exact (gw2.out.alloc _).drew | exact gw2.out.drew.alloc _ | exact (gw2.out.alloc _).alloc _) hb3); obtain ⟨hc3, hf3⟩ := bcell hb3
    have y3 : w2.heap.size < w3.heap.size := (by have := hb3.size; simp at this; omega)
    have z3 : w.heap.size < w3.heap.size := by omega
    go_wp2_with fail
    refine (H3.out _ (by first | exact gw3.out | exact gw3.out.alloc _ | exact gw3.out.drew | exact (gw3.out.alloc _).drew | exact gw3.out.drew.alloc _ | exact (gw3.out.alloc _).alloc _)).mono ?_; rintro e w4 ⟨rfl, hb4⟩; have gw4 := Lib.hid (G.below (by first | exact gw3.out | exact gw3.out.alloc _ | exact gw3.out.drew | exact (gw3.out.alloc _).drew | exact gw3.out.drew.alloc _ | exact (gw3.out.alloc _).alloc _) hb4); obtain ⟨hc4, hf4⟩ := bcell hb4
    have y4 : w2.heap.size < w4.heap.size := Nat.lt_of_lt_of_le y3 hb4.size
    have z4 : w.heap.size < w4.heap.size := by omega
    have HY := Lib.hid (below_next (below_next HX.out (below_box hb3)) hb4)
    go_wp2_with fail
    refine (H4.out _).mono ?_; rintro e w5 ⟨rfl, hb5⟩; have gw5 := Lib.hid (G.below (by first | exact gw4.out | exact gw4.out.alloc _ | exact gw4.out.drew | exact (gw4.out.alloc _).drew | exact gw4.out.drew.alloc _ | exact (gw4.out.alloc _).alloc _) hb5); obtain ⟨hc5, hf5⟩ := bcell hb5
    have z5 : w.heap.size < w5.heap.size := (by have := hb5.size; simp at this; omega)
    have HZ := Lib.hid (below_next HY.out (below_box hb5))
    have K0 : w5.cell? ⟨w.heap.size, 0, none⟩ = some (.bool false) := by go_simp
    have K1 : w5.cell? ⟨w.heap.size, 1, none⟩ = some (.int .i64 v) := by go_simp
    clear hc1 hf1 hc2 hf2 hc3 hf3 hc4 hf4 hc5 hf5 hb1 hb2 hb3 hb4 hb5 z1 z2 z3 z4 y3 y4 HX HY
    go_wp2_with fail
    refine (P1.out _ (by first | exact gw5.out | exact gw5.out.alloc _ | exact gw5.out.drew | exact (gw5.out.alloc _).drew | exact gw5.out.drew.alloc _ | exact (gw5.out.alloc _).alloc _)).mono ?_; rintro e w6 ⟨rfl, hb6⟩; have gw6 := Lib.hid (G.below (by first | exact gw5.out | exact gw5.out.alloc _ | exact gw5.out.drew | exact (gw5.out.alloc _).drew | exact gw5.out.drew.alloc _ | exact (gw5.out.alloc _).alloc _) hb6); obtain ⟨hc6, hf6⟩ := bcell hb6
    have z6 : w.heap.size < w6.heap.size := Nat.lt_of_lt_of_le z5 hb6.size
    have HU := Lib.hid (below_next HZ.out hb6)
    go_wp2_with fail
    refine (P2.out _ (by first | exact gw6.out | exact gw6.out.alloc _ | exact gw6.out.drew | exact (gw6.out.alloc _).drew | exact gw6.out.drew.alloc _ | exact (gw6.out.alloc _).alloc _)).mono ?_; rintro e w7 ⟨rfl, hb7⟩; have gw7 := Lib.hid (G.below (by first | exact gw6.out | exact gw6.out.alloc _ | exact gw6.out.drew | exact (gw6.out.alloc _).drew | exact gw6.out.drew.alloc _ | exact (gw6.out.alloc _).alloc _) hb7); obtain ⟨hc7, hf7⟩ := bcell hb7
    have z7 : w.heap.size < w7.heap.size := Nat.lt_of_lt_of_le z6 hb7.size
    have HV := Lib.hid (below_next HU.out hb7)
    go_wp2_with fail
    refine (P3.out _).mono ?_; rintro e w8 ⟨rfl, hb8⟩; have gw8 := Lib.hid (G.below (by first | exact gw7.out | exact gw7.out.alloc _ | exact gw7.out.drew | exact (gw7.out.alloc _).drew | exact gw7.out.drew.alloc _ | exact (gw7.out.alloc _).alloc _) hb8); obtain ⟨hc8, hf8⟩ := bcell hb8
    have y8 : w7.heap.size < w8.heap.size := (by have := hb8.size; simp at this; omega)
    have z8 : w.heap.size < w8.heap.size := by omega
    have HW := Lib.hid (below_next HV.out (below_box hb8))
    go_wp2
    go_ret
    exact ⟨rfl, HW.out⟩
  · have Q1 := DP.parse_c s hs
    have ty : ((canP (bs s)).2 == 0) = false := by rw [beq_eq_false_iff_ne]; exact hy
    generalize (canP (bs s)).1 = x at *
    generalize (canP (bs s)).2 = y at *
    have H1 := Lib.hid Q1
    clear Q1 hy hs
    go_enter Tryd.func5, Tryd.ntmps5
    go_wp2_with fail
    refine (alive_c _ (by first | exact HG.out | exact HG.out.alloc _ | exact HG.out.drew | exact (HG.out.alloc _).drew | exact HG.out.drew.alloc _ | exact (HG.out.alloc _).alloc _)).mono ?_; rintro e w1 ⟨rfl, hb1⟩; have gw1 := Lib.hid (G.below (by first | exact HG.out | exact HG.out.alloc _ | exact HG.out.drew | exact (HG.out.alloc _).drew | exact HG.out.drew.alloc _ | exact (HG.out.alloc _).alloc _) hb1); obtain ⟨hc1, hf1⟩ := bcell hb1
    have z1 : w.heap.size < w1.heap.size := (by have := hb1.size; simp at this; omega)
    go_wp2_with fail
    refine (H1.out _ (by first | exact gw1.out | exact gw1.out.alloc _ | exact gw1.out.drew | exact (gw1.out.alloc _).drew | exact gw1.out.drew.alloc _ | exact (gw1.out.alloc _).alloc _)).mono ?_; rintro e w2 ⟨rfl, hb2⟩; have gw2 := Lib.hid (G.below (by first | exact gw1.out | exact gw1.out.alloc _ | exact gw1.out.drew | exact (gw1.out.alloc _).drew | exact gw1.out.drew.alloc _ | exact (gw1.out.alloc _).alloc _) hb2); obtain ⟨hc2, hf2⟩ := bcell hb2
    have z2 : w.heap.size < w2.heap.size := Nat.lt_of_lt_of_le z1 hb2.size
    have HX := Lib.hid (below_next (below_box hb1) hb2)
    go_wp2_with fail
    refine (P1.out _ (by first | exact gw2.out | exact gw2.out.alloc _ | exact gw2.out.drew | exact (gw2.out.alloc _).drew | exact gw2.out.drew.alloc _ | exact (gw2.out.alloc _).alloc _)).mono ?_; rintro e w6 ⟨rfl, hb6⟩; have gw6 := Lib.hid (G.below (by first | exact gw2.out | exact gw2.out.alloc _ | exact gw2.out.drew | exact (gw2.out.alloc _).drew | exact gw2.out.drew.alloc _ | exact (gw2.out.alloc _).alloc _) hb6); obtain ⟨hc6, hf6⟩ := bcell hb6
    have z6 : w.heap.size < w6.heap.size := (by have := hb6.size; simp at this; omega)
    have HU := Lib.hid (below_next HX.out (below_box hb6))
    go_wp2_with fail
    refine (P2.out _ (by first | exact gw6.out | exact gw6.out.alloc _ | exact gw6.out.drew | exact (gw6.out.alloc _).drew | exact gw6.out.drew.alloc _ | exact (gw6.out.alloc _).alloc _)).mono ?_; rintro e w7 ⟨rfl, hb7⟩; have gw7 := Lib.hid (G.below (by first | exact gw6.out | exact gw6.out.alloc _ | exact gw6.out.drew | exact (gw6.out.alloc _).drew | exact gw6.out.drew.alloc _ | exact (gw6.out.alloc _).alloc _) hb7); obtain ⟨hc7, hf7⟩ := bcell hb7
    have z7 : w.heap.size < w7.heap.size := Nat.lt_of_lt_of_le z6 hb7.size
    have HV := Lib.hid (below_next HU.out hb7)
    go_wp2_with fail
    refine (P3.out _).mono ?_; rintro e w8 ⟨rfl, hb8⟩; have gw8 := Lib.hid (G.below (by first | exact gw7.out | exact gw7.out.alloc _ | exact gw7.out.drew | exact (gw7.out.alloc _).drew | exact gw7.out.drew.alloc _ | exact (gw7.out.alloc _).alloc _) hb8); obtain ⟨hc8, hf8⟩ := bcell hb8
    have y8 : w7.heap.size < w8.heap.size := (by have := hb8.size; simp at this; omega)
    have z8 : w.heap.size < w8.heap.size := by omega
    have HW := Lib.hid (below_next HV.out (below_box hb8))
    go_wp2
    go_ret
    exact ⟨rfl, HW.out⟩
set_option maxRecDepth 100000 in
set_option maxHeartbeats 2000000 in
theorem back_null (v : Int) (h1 : -9223372036854775808 ≤ v ∧ v ≤ 9223372036854775807) (s : ByteArray) (hs : s.size ≤ 9223372036854775807) (w : World) (hG : G w) : Calls Tryd.prog 5 #[.agg #[.bool true, .int .i64 v], .string s] w fun e w' => e = .returned (.bool true) ∧ Below w.heap.size w w' := by
  have HG := Lib.hid hG
  have p1 := print_no true v h1 (fun h => absurd h.1 (by decide))
  have p2 := parse_none
  obtain ⟨z, hz⟩ : ∃ z, (v == 0) = z := ⟨_, rfl⟩
  have p3 := right_t v z hz
  have P1 := Lib.hid p1; have P2 := Lib.hid p2; have P3 := Lib.hid p3
  clear p1 p2 p3 hz h1
  by_cases hy : (canP (bs s)).2 = 0
  · obtain ⟨x, hxx⟩ : ∃ x, (canP (bs s)).1 = x := ⟨_, rfl⟩
    have hy : (x, (0 : Int)) = canP (bs s) := by rw [← hxx, ← hy]
    have Q1 := DP.parse_c s hs
    have hx : canP (bs s) = (x, 0) := hy.symm
    have hr := canP_range hx
    rw [hx] at Q1
    have Q2 := DP.print_c false x (by omega)
    rw [rd_some rfl (by omega)] at Q2
    have Q3 := DP.parse_c (str (printS (some x))) (by rw [str_size]; have := print_length hr.1 hr.2; omega)
    rw [bs_str (print_bytes _ (fun t h => by cases h; exact hr)), print_back hr.1 hr.2] at Q3
    have Q4 := DR.right_f x true (by rw [bne_iff_ne]; omega)
    generalize str (printS (some x)) = E at *
    have H1 := Lib.hid Q1; have H2 := Lib.hid Q2; have H3 := Lib.hid Q3; have H4 := Lib.hid Q4
    clear Q1 Q2 Q3 Q4 hr hx hy hxx hs
    go_enter Tryd.func5, Tryd.ntmps5
    go_wp2_with fail
    refine (alive_c _ (by first | exact HG.out | exact HG.out.alloc _ | exact HG.out.drew | exact (HG.out.alloc _).drew | exact HG.out.drew.alloc _ | exact (HG.out.alloc _).alloc _)).mono ?_; rintro e w1 ⟨rfl, hb1⟩; have gw1 := Lib.hid (G.below (by first | exact HG.out | exact HG.out.alloc _ | exact HG.out.drew | exact (HG.out.alloc _).drew | exact HG.out.drew.alloc _ | exact (HG.out.alloc _).alloc _) hb1); obtain ⟨hc1, hf1⟩ := bcell hb1
    have z1 : w.heap.size < w1.heap.size := (by have := hb1.size; simp at this; omega)
    go_wp2_with fail
    refine (H1.out _ (by first | exact gw1.out | exact gw1.out.alloc _ | exact gw1.out.drew | exact (gw1.out.alloc _).drew | exact gw1.out.drew.alloc _ | exact (gw1.out.alloc _).alloc _)).mono ?_; rintro e w2 ⟨rfl, hb2⟩; have gw2 := Lib.hid (G.below (by first | exact gw1.out | exact gw1.out.alloc _ | exact gw1.out.drew | exact (gw1.out.alloc _).drew | exact gw1.out.drew.alloc _ | exact (gw1.out.alloc _).alloc _) hb2); obtain ⟨hc2, hf2⟩ := bcell hb2
    have z2 : w.heap.size < w2.heap.size := Nat.lt_of_lt_of_le z1 hb2.size
    have HX := Lib.hid (below_next (below_box hb1) hb2)
    go_wp2_with fail
    refine (H2.out _ (by first | exact gw2.out | exact gw2.out.alloc _ | exact gw2.out.drew | exact (gw2.out.alloc _).drew | exact gw2.out.drew.alloc _ | exact (gw2.out.alloc _).alloc _)).mono ?_; rintro e w3 ⟨rfl, hb3⟩; have gw3 := Lib.hid (G.below (by first | exact gw2.out | exact gw2.out.alloc _ | exact gw2.out.drew | exact (gw2.out.alloc _).drew | exact gw2.out.drew.alloc _ | exact (gw2.out.alloc _).alloc _) hb3); obtain ⟨hc3, hf3⟩ := bcell hb3
    have y3 : w2.heap.size < w3.heap.size := (by have := hb3.size; simp at this; omega)
    have z3 : w.heap.size < w3.heap.size := by omega
    go_wp2_with fail
    refine (H3.out _ (by first | exact gw3.out | exact gw3.out.alloc _ | exact gw3.out.drew | exact (gw3.out.alloc _).drew | exact gw3.out.drew.alloc _ | exact (gw3.out.alloc _).alloc _)).mono ?_; rintro e w4 ⟨rfl, hb4⟩; have gw4 := Lib.hid (G.below (by first | exact gw3.out | exact gw3.out.alloc _ | exact gw3.out.drew | exact (gw3.out.alloc _).drew | exact gw3.out.drew.alloc _ | exact (gw3.out.alloc _).alloc _) hb4); obtain ⟨hc4, hf4⟩ := bcell hb4
    have y4 : w2.heap.size < w4.heap.size := Nat.lt_of_lt_of_le y3 hb4.size
    have z4 : w.heap.size < w4.heap.size := by omega
    have HY := Lib.hid (below_next (below_next HX.out (below_box hb3)) hb4)
    go_wp2_with fail
    refine (H4.out _).mono ?_; rintro e w5 ⟨rfl, hb5⟩; have gw5 := Lib.hid (G.below (by first | exact gw4.out | exact gw4.out.alloc _ | exact gw4.out.drew | exact (gw4.out.alloc _).drew | exact gw4.out.drew.alloc _ | exact (gw4.out.alloc _).alloc _) hb5); obtain ⟨hc5, hf5⟩ := bcell hb5
    have z5 : w.heap.size < w5.heap.size := (by have := hb5.size; simp at this; omega)
    have HZ := Lib.hid (below_next HY.out (below_box hb5))
    have K0 : w5.cell? ⟨w.heap.size, 0, none⟩ = some (.bool true) := by go_simp
    have K1 : w5.cell? ⟨w.heap.size, 1, none⟩ = some (.int .i64 v) := by go_simp
    clear hc1 hf1 hc2 hf2 hc3 hf3 hc4 hf4 hc5 hf5 hb1 hb2 hb3 hb4 hb5 z1 z2 z3 z4 y3 y4 HX HY
    go_wp2_with fail
    refine (P1.out _ (by first | exact gw5.out | exact gw5.out.alloc _ | exact gw5.out.drew | exact (gw5.out.alloc _).drew | exact gw5.out.drew.alloc _ | exact (gw5.out.alloc _).alloc _)).mono ?_; rintro e w6 ⟨rfl, hb6⟩; have gw6 := Lib.hid (G.below (by first | exact gw5.out | exact gw5.out.alloc _ | exact gw5.out.drew | exact (gw5.out.alloc _).drew | exact gw5.out.drew.alloc _ | exact (gw5.out.alloc _).alloc _) hb6); obtain ⟨hc6, hf6⟩ := bcell hb6
    have z6 : w.heap.size < w6.heap.size := Nat.lt_of_lt_of_le z5 hb6.size
    have HU := Lib.hid (below_next HZ.out hb6)
    go_wp2_with fail
    refine (P2.out _ (by first | exact gw6.out | exact gw6.out.alloc _ | exact gw6.out.drew | exact (gw6.out.alloc _).drew | exact gw6.out.drew.alloc _ | exact (gw6.out.alloc _).alloc _)).mono ?_; rintro e w7 ⟨rfl, hb7⟩; have gw7 := Lib.hid (G.below (by first | exact gw6.out | exact gw6.out.alloc _ | exact gw6.out.drew | exact (gw6.out.alloc _).drew | exact gw6.out.drew.alloc _ | exact (gw6.out.alloc _).alloc _) hb7); obtain ⟨hc7, hf7⟩ := bcell hb7
    have z7 : w.heap.size < w7.heap.size := Nat.lt_of_lt_of_le z6 hb7.size
    have HV := Lib.hid (below_next HU.out hb7)
    go_wp2_with fail
    refine (P3.out _).mono ?_; rintro e w8 ⟨rfl, hb8⟩; have gw8 := Lib.hid (G.below (by first | exact gw7.out | exact gw7.out.alloc _ | exact gw7.out.drew | exact (gw7.out.alloc _).drew | exact gw7.out.drew.alloc _ | exact (gw7.out.alloc _).alloc _) hb8); obtain ⟨hc8, hf8⟩ := bcell hb8
    have y8 : w7.heap.size < w8.heap.size := (by have := hb8.size; simp at this; omega)
    have z8 : w.heap.size < w8.heap.size := by omega
    have HW := Lib.hid (below_next HV.out (below_box hb8))
    cases z
    all_goals
      go_wp2
      go_ret
      exact ⟨rfl, HW.out⟩
  · have Q1 := DP.parse_c s hs
    have ty : ((canP (bs s)).2 == 0) = false := by rw [beq_eq_false_iff_ne]; exact hy
    generalize (canP (bs s)).1 = x at *
    generalize (canP (bs s)).2 = y at *
    have H1 := Lib.hid Q1
    clear Q1 hy hs
    go_enter Tryd.func5, Tryd.ntmps5
    go_wp2_with fail
    refine (alive_c _ (by first | exact HG.out | exact HG.out.alloc _ | exact HG.out.drew | exact (HG.out.alloc _).drew | exact HG.out.drew.alloc _ | exact (HG.out.alloc _).alloc _)).mono ?_; rintro e w1 ⟨rfl, hb1⟩; have gw1 := Lib.hid (G.below (by first | exact HG.out | exact HG.out.alloc _ | exact HG.out.drew | exact (HG.out.alloc _).drew | exact HG.out.drew.alloc _ | exact (HG.out.alloc _).alloc _) hb1); obtain ⟨hc1, hf1⟩ := bcell hb1
    have z1 : w.heap.size < w1.heap.size := (by have := hb1.size; simp at this; omega)
    go_wp2_with fail
    refine (H1.out _ (by first | exact gw1.out | exact gw1.out.alloc _ | exact gw1.out.drew | exact (gw1.out.alloc _).drew | exact gw1.out.drew.alloc _ | exact (gw1.out.alloc _).alloc _)).mono ?_; rintro e w2 ⟨rfl, hb2⟩; have gw2 := Lib.hid (G.below (by first | exact gw1.out | exact gw1.out.alloc _ | exact gw1.out.drew | exact (gw1.out.alloc _).drew | exact gw1.out.drew.alloc _ | exact (gw1.out.alloc _).alloc _) hb2); obtain ⟨hc2, hf2⟩ := bcell hb2
    have z2 : w.heap.size < w2.heap.size := Nat.lt_of_lt_of_le z1 hb2.size
    have HX := Lib.hid (below_next (below_box hb1) hb2)
    go_wp2_with fail
    refine (P1.out _ (by first | exact gw2.out | exact gw2.out.alloc _ | exact gw2.out.drew | exact (gw2.out.alloc _).drew | exact gw2.out.drew.alloc _ | exact (gw2.out.alloc _).alloc _)).mono ?_; rintro e w6 ⟨rfl, hb6⟩; have gw6 := Lib.hid (G.below (by first | exact gw2.out | exact gw2.out.alloc _ | exact gw2.out.drew | exact (gw2.out.alloc _).drew | exact gw2.out.drew.alloc _ | exact (gw2.out.alloc _).alloc _) hb6); obtain ⟨hc6, hf6⟩ := bcell hb6
    have z6 : w.heap.size < w6.heap.size := (by have := hb6.size; simp at this; omega)
    have HU := Lib.hid (below_next HX.out (below_box hb6))
    go_wp2_with fail
    refine (P2.out _ (by first | exact gw6.out | exact gw6.out.alloc _ | exact gw6.out.drew | exact (gw6.out.alloc _).drew | exact gw6.out.drew.alloc _ | exact (gw6.out.alloc _).alloc _)).mono ?_; rintro e w7 ⟨rfl, hb7⟩; have gw7 := Lib.hid (G.below (by first | exact gw6.out | exact gw6.out.alloc _ | exact gw6.out.drew | exact (gw6.out.alloc _).drew | exact gw6.out.drew.alloc _ | exact (gw6.out.alloc _).alloc _) hb7); obtain ⟨hc7, hf7⟩ := bcell hb7
    have z7 : w.heap.size < w7.heap.size := Nat.lt_of_lt_of_le z6 hb7.size
    have HV := Lib.hid (below_next HU.out hb7)
    go_wp2_with fail
    refine (P3.out _).mono ?_; rintro e w8 ⟨rfl, hb8⟩; have gw8 := Lib.hid (G.below (by first | exact gw7.out | exact gw7.out.alloc _ | exact gw7.out.drew | exact (gw7.out.alloc _).drew | exact gw7.out.drew.alloc _ | exact (gw7.out.alloc _).alloc _) hb8); obtain ⟨hc8, hf8⟩ := bcell hb8
    have y8 : w7.heap.size < w8.heap.size := (by have := hb8.size; simp at this; omega)
    have z8 : w.heap.size < w8.heap.size := by omega
    have HW := Lib.hid (below_next HV.out (below_box hb8))
    cases z
    all_goals
      go_wp2
      go_ret
      exact ⟨rfl, HW.out⟩
theorem decimalBack_c (b : Bool) (v : Int) (h1 : -9223372036854775808 ≤ v ∧ v ≤ 9223372036854775807) (s : ByteArray) (hs : s.size ≤ 9223372036854775807) (w : World) (hG : G w) : Calls Tryd.prog 5 #[.agg #[.bool b, .int .i64 v], .string s] w fun e w' => e = .returned (.bool true) ∧ Below w.heap.size w w' := by
  cases b
  · by_cases hv : v = -9223372036854775808
    · exact back_low v hv s hs w hG
    · exact back_some v (by omega) h1.2 s hs w hG
  · exact back_null v h1 s hs w hG
end Go.Proofs.YtnnilllnkklecaaDoor.DW
