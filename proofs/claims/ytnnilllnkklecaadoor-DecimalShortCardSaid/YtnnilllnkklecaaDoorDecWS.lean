/-
  The statements of layer 3, walked, the third part: no text that is shorter says it.
-/
import Derived.Test.YtnnilllnkklecaaDoorDecWB
set_option linter.unusedSimpArgs false
set_option linter.unusedVariables false
namespace Go.Proofs.YtnnilllnkklecaaDoor
theorem bs_front (s : ByteArray) (n : Nat) : bs (s.extract 0 n) = (bs s).take n := by
  obtain ⟨⟨l⟩⟩ := s
  simp [bs, ByteArray.extract_mk]
end Go.Proofs.YtnnilllnkklecaaDoor
namespace Go.Proofs.YtnnilllnkklecaaDoor.DW
open Go.RowKit

set_option maxRecDepth 100000 in
set_option maxHeartbeats 2000000 in
theorem short_some (v : Int) (h0 : -9223372036854775807 ≤ v) (h1 : v ≤ 9223372036854775807) (w : World) (hG : G w) : Calls Tryd.prog 6 #[.agg #[.bool false, .int .i64 v]] w fun e w' => e = .returned (.bool true) ∧ Below w.heap.size w w' := by
  have HG := Lib.hid hG
  have p1 := DP.print_c false v (by omega)
  rw [rd_some rfl (by omega)] at p1
  have hbs : bs (str (printS (some v))) = printS (some v) := bs_str (print_bytes _ (fun t h => by cases h; exact ⟨h0, h1⟩))
  obtain ⟨TX, hTX⟩ : ∃ TX, str (printS (some v)) = TX := ⟨_, rfl⟩
  rw [hTX] at p1 hbs
  have hsz : TX.size ≤ 21 := by rw [← hTX, str_size]; exact print_length h0 h1
  have hsz1 : 1 ≤ TX.size := by
    rw [← bs_length, hbs]
    show 1 ≤ ((if v < 0 then [45] else []) ++ sizeS v.natAbs).length
    have := List.length_pos_iff.2 (sizeS_ne v.natAbs)
    rw [List.length_append]; omega
  obtain ⟨n, hn⟩ : ∃ n, TX.size - 1 = n := ⟨_, rfl⟩
  obtain ⟨A, hA⟩ : ∃ A, TX.extract 0 n = A := ⟨_, rfl⟩
  obtain ⟨B, hB⟩ : ∃ B, TX.extract 1 TX.size = B := ⟨_, rfl⟩
  have hAb : bs A = (printS (some v)).dropLast := by
    rw [← hA, bs_front, hbs, List.dropLast_eq_take, ← hn, ← hbs, bs_length]
  have hBb : bs B = (printS (some v)).drop 1 := by rw [← hB, DR.bs_tail TX (by omega), hbs]
  have hAs : A.size ≤ 21 := by rw [← bs_length, hAb, List.length_dropLast, ← hbs, bs_length]; omega
  have hBs : B.size ≤ 21 := by rw [← bs_length, hBb, List.length_drop, ← hbs, bs_length]; omega
  have q1 := DP.parse_c A (by omega)
  have q2 := DP.parse_c B (by omega)
  rw [hAb] at q1
  rw [hBb] at q2
  have s1 := short_last v
  have s2 := short_first h0 h1
  have p3 := DR.right_f v true (by rw [bne_iff_ne]; omega)
  have hn1 : (TX.size : Int) - 1 = (n : Int) := by omega
  have hn2 : (n : Int) ≤ TX.size := by omega
  have hn3 : (1 : Int) ≤ TX.size := by omega
  have t1 : ¬ (canP (printS (some v)).dropLast).2 = 0 ∨ ((canP (printS (some v)).dropLast).2 = 0 ∧ ¬ (canP (printS (some v)).dropLast).1 = v) := by
    by_cases h : (canP (printS (some v)).dropLast).2 = 0
    · right
      refine ⟨h, ?_⟩
      intro e
      exact s1 (Prod.ext e h)
    · left; exact h
  have t2 : ¬ (canP ((printS (some v)).drop 1)).2 = 0 ∨ ((canP ((printS (some v)).drop 1)).2 = 0 ∧ (((canP ((printS (some v)).drop 1)).1 = v ∧ 0 < v ∧ v < 1000000) ∨ (¬ (canP ((printS (some v)).drop 1)).1 = v ∧ ¬ 0 < v) ∨ (¬ (canP ((printS (some v)).drop 1)).1 = v ∧ 0 < v ∧ ¬ v < 1000000))) := by
    by_cases h : (canP ((printS (some v)).drop 1)).2 = 0
    · right
      refine ⟨h, ?_⟩
      have e := s2.resolve_left (fun hh => hh h)
      rw [decide_eq_decide] at e
      by_cases g : (canP ((printS (some v)).drop 1)).1 = v
      · exact .inl ⟨g, e.2 g⟩
      · right
        have e' : ¬ (0 < v ∧ v < 1000000) := fun hh => g (e.1 hh)
        by_cases k : 0 < v
        · exact .inr ⟨g, k, fun hh => e' ⟨k, hh⟩⟩
        · exact .inl ⟨g, k⟩
    · left; exact h
  generalize (canP (printS (some v)).dropLast).1 = x1 at *
  generalize (canP (printS (some v)).dropLast).2 = y1 at *
  generalize (canP ((printS (some v)).drop 1)).1 = x2 at *
  generalize (canP ((printS (some v)).drop 1)).2 = y2 at *
  have P1 := Lib.hid p1; have P3 := Lib.hid p3; have Q1 := Lib.hid q1; have Q2 := Lib.hid q2; have T1 := Lib.hid t1; have T2 := Lib.hid t2
  clear p1 p3 q1 q2 t1 t2 s1 s2 hAb hBb hbs hTX hn h0 h1
  go_enter Tryd.func6, Tryd.ntmps6
  go_wp2_with fail
  refine (alive_c _ (by first | exact HG.out | exact HG.out.alloc _ | exact HG.out.drew | exact (HG.out.alloc _).drew | exact HG.out.drew.alloc _ | exact (HG.out.alloc _).alloc _)).mono ?_; rintro e w1 ⟨rfl, hb1⟩; have gw1 := Lib.hid (G.below (by first | exact HG.out | exact HG.out.alloc _ | exact HG.out.drew | exact (HG.out.alloc _).drew | exact HG.out.drew.alloc _ | exact (HG.out.alloc _).alloc _) hb1); obtain ⟨hc1, hf1⟩ := bcell hb1
  have z1 : w.heap.size < w1.heap.size := (by have := hb1.size; simp at this; omega)
  go_wp2_with fail
  refine (P1.out _ (by first | exact gw1.out | exact gw1.out.alloc _ | exact gw1.out.drew | exact (gw1.out.alloc _).drew | exact gw1.out.drew.alloc _ | exact (gw1.out.alloc _).alloc _)).mono ?_; rintro e w2 ⟨rfl, hb2⟩; have gw2 := Lib.hid (G.below (by first | exact gw1.out | exact gw1.out.alloc _ | exact gw1.out.drew | exact (gw1.out.alloc _).drew | exact gw1.out.drew.alloc _ | exact (gw1.out.alloc _).alloc _) hb2); obtain ⟨hc2, hf2⟩ := bcell hb2
  have z2 : w.heap.size < w2.heap.size := Nat.lt_of_lt_of_le z1 hb2.size
  go_wp2_with fail
  refine (P3.out _).mono ?_; rintro e w3 ⟨rfl, hb3⟩; have gw3 := Lib.hid (G.below (by first | exact gw2.out | exact gw2.out.alloc _ | exact gw2.out.drew | exact (gw2.out.alloc _).drew | exact gw2.out.drew.alloc _ | exact (gw2.out.alloc _).alloc _) hb3); obtain ⟨hc3, hf3⟩ := bcell hb3
  have z3 : w.heap.size < w3.heap.size := Nat.lt_of_lt_of_le z2 hb3.size
  have HX := Lib.hid (below_next (below_next (below_box hb1) hb2) hb3)
  go_wp2_with fail
  refine (Q1.out _ (by first | exact gw3.out | exact gw3.out.alloc _ | exact gw3.out.drew | exact (gw3.out.alloc _).drew | exact gw3.out.drew.alloc _ | exact (gw3.out.alloc _).alloc _)).mono ?_; rintro e w4 ⟨rfl, hb4⟩; have gw4 := Lib.hid (G.below (by first | exact gw3.out | exact gw3.out.alloc _ | exact gw3.out.drew | exact (gw3.out.alloc _).drew | exact gw3.out.drew.alloc _ | exact (gw3.out.alloc _).alloc _) hb4); obtain ⟨hc4, hf4⟩ := bcell hb4
  have z4 : w.heap.size < w4.heap.size := Nat.lt_of_lt_of_le z3 hb4.size
  have HY := Lib.hid (below_next HX.out hb4)
  go_wp2_with fail
  refine (Q2.out _ (by first | exact gw4.out | exact gw4.out.alloc _ | exact gw4.out.drew | exact (gw4.out.alloc _).drew | exact gw4.out.drew.alloc _ | exact (gw4.out.alloc _).alloc _)).mono ?_; rintro e w5 ⟨rfl, hb5⟩; have gw5 := Lib.hid (G.below (by first | exact gw4.out | exact gw4.out.alloc _ | exact gw4.out.drew | exact (gw4.out.alloc _).drew | exact gw4.out.drew.alloc _ | exact (gw4.out.alloc _).alloc _) hb5); obtain ⟨hc5, hf5⟩ := bcell hb5
  have y5 : w4.heap.size < w5.heap.size := (by have := hb5.size; simp at this; omega)
  have z5 : w.heap.size < w5.heap.size := by omega
  have HZ := Lib.hid (below_next HY.out (below_box hb5))
  have K0 : w5.cell? ⟨w.heap.size, 0, none⟩ = some (.bool false) := by go_simp
  have K1 : w5.cell? ⟨w.heap.size, 1, none⟩ = some (.int .i64 v) := by go_simp
  have K2 : w5.cell? ⟨w4.heap.size, 0, none⟩ = some (.bool false) := by go_simp
  have K3 : w5.cell? ⟨w4.heap.size, 1, none⟩ = some (.int .i64 x1) := by go_simp
  clear hc1 hf1 hc2 hf2 hc3 hf3 hc4 hf4 hc5 hf5 hb1 hb2 hb3 hb4 hb5 z1 z2 z3 z4 HX HY P1 P3 Q1 Q2
  have HW := Lib.hid (HZ.out.alloc (by omega) (.cells #[.bool false, .int .i64 x2] 24))
  clear HZ
  rcases T1.out with ta | ⟨rfl, ta⟩
  all_goals
    clear T1
    rcases T2.out with tb | ⟨rfl, ⟨rfl, tb, tc⟩ | ⟨tb, tc⟩ | ⟨tb, tc, td⟩⟩
    all_goals
      clear T2
      go_wp2
      all_goals go_ret
      all_goals first | exact ⟨rfl, HW.out⟩ | (refine ⟨?_, HW.out⟩; simp; omega)
set_option maxRecDepth 100000 in
set_option maxHeartbeats 2000000 in
theorem short_low (v : Int) (hv : v = -9223372036854775808) (w : World) (hG : G w) : Calls Tryd.prog 6 #[.agg #[.bool false, .int .i64 v]] w fun e w' => e = .returned (.bool true) ∧ Below w.heap.size w w' := by
  have HG := Lib.hid hG
  have p1 := print_no false v (by omega) (fun h => h.2 hv)
  have p3 := DR.right_f v false (by rw [bne_eq_false_iff_eq]; exact hv)
  have P1 := Lib.hid p1; have P3 := Lib.hid p3
  clear p1 p3 hv
  go_enter Tryd.func6, Tryd.ntmps6
  go_wp2_with fail
  refine (alive_c _ (by first | exact HG.out | exact HG.out.alloc _ | exact HG.out.drew | exact (HG.out.alloc _).drew | exact HG.out.drew.alloc _ | exact (HG.out.alloc _).alloc _)).mono ?_; rintro e w1 ⟨rfl, hb1⟩; have gw1 := Lib.hid (G.below (by first | exact HG.out | exact HG.out.alloc _ | exact HG.out.drew | exact (HG.out.alloc _).drew | exact HG.out.drew.alloc _ | exact (HG.out.alloc _).alloc _) hb1); obtain ⟨hc1, hf1⟩ := bcell hb1
  have z1 : w.heap.size < w1.heap.size := (by have := hb1.size; simp at this; omega)
  go_wp2_with fail
  refine (P1.out _ (by first | exact gw1.out | exact gw1.out.alloc _ | exact gw1.out.drew | exact (gw1.out.alloc _).drew | exact gw1.out.drew.alloc _ | exact (gw1.out.alloc _).alloc _)).mono ?_; rintro e w2 ⟨rfl, hb2⟩; have gw2 := Lib.hid (G.below (by first | exact gw1.out | exact gw1.out.alloc _ | exact gw1.out.drew | exact (gw1.out.alloc _).drew | exact gw1.out.drew.alloc _ | exact (gw1.out.alloc _).alloc _) hb2); obtain ⟨hc2, hf2⟩ := bcell hb2
  have z2 : w.heap.size < w2.heap.size := Nat.lt_of_lt_of_le z1 hb2.size
  go_wp2_with fail
  refine (P3.out _).mono ?_; rintro e w3 ⟨rfl, hb3⟩; have gw3 := Lib.hid (G.below (by first | exact gw2.out | exact gw2.out.alloc _ | exact gw2.out.drew | exact (gw2.out.alloc _).drew | exact gw2.out.drew.alloc _ | exact (gw2.out.alloc _).alloc _) hb3); obtain ⟨hc3, hf3⟩ := bcell hb3
  have z3 : w.heap.size < w3.heap.size := Nat.lt_of_lt_of_le z2 hb3.size
  have HX := Lib.hid (below_next (below_next (below_box hb1) hb2) hb3)
  go_wp2
  go_ret
  exact ⟨rfl, HX.out⟩
set_option maxRecDepth 100000 in
set_option maxHeartbeats 2000000 in
theorem short_null (v : Int) (h1 : -9223372036854775808 ≤ v ∧ v ≤ 9223372036854775807) (w : World) (hG : G w) : Calls Tryd.prog 6 #[.agg #[.bool true, .int .i64 v]] w fun e w' => e = .returned (.bool true) ∧ Below w.heap.size w w' := by
  have HG := Lib.hid hG
  have p1 := print_no true v h1 (fun h => absurd h.1 (by decide))
  obtain ⟨z, hz⟩ : ∃ z, (v == 0) = z := ⟨_, rfl⟩
  have p3 := right_t v z hz
  have P1 := Lib.hid p1; have P3 := Lib.hid p3
  clear p1 p3 hz h1
  go_enter Tryd.func6, Tryd.ntmps6
  go_wp2_with fail
  refine (alive_c _ (by first | exact HG.out | exact HG.out.alloc _ | exact HG.out.drew | exact (HG.out.alloc _).drew | exact HG.out.drew.alloc _ | exact (HG.out.alloc _).alloc _)).mono ?_; rintro e w1 ⟨rfl, hb1⟩; have gw1 := Lib.hid (G.below (by first | exact HG.out | exact HG.out.alloc _ | exact HG.out.drew | exact (HG.out.alloc _).drew | exact HG.out.drew.alloc _ | exact (HG.out.alloc _).alloc _) hb1); obtain ⟨hc1, hf1⟩ := bcell hb1
  have z1 : w.heap.size < w1.heap.size := (by have := hb1.size; simp at this; omega)
  go_wp2_with fail
  refine (P1.out _ (by first | exact gw1.out | exact gw1.out.alloc _ | exact gw1.out.drew | exact (gw1.out.alloc _).drew | exact gw1.out.drew.alloc _ | exact (gw1.out.alloc _).alloc _)).mono ?_; rintro e w2 ⟨rfl, hb2⟩; have gw2 := Lib.hid (G.below (by first | exact gw1.out | exact gw1.out.alloc _ | exact gw1.out.drew | exact (gw1.out.alloc _).drew | exact gw1.out.drew.alloc _ | exact (gw1.out.alloc _).alloc _) hb2); obtain ⟨hc2, hf2⟩ := bcell hb2
  have z2 : w.heap.size < w2.heap.size := Nat.lt_of_lt_of_le z1 hb2.size
  go_wp2_with fail
  refine (P3.out _).mono ?_; rintro e w3 ⟨rfl, hb3⟩; have gw3 := Lib.hid (G.below (by first | exact gw2.out | exact gw2.out.alloc _ | exact gw2.out.drew | exact (gw2.out.alloc _).drew | exact gw2.out.drew.alloc _ | exact (gw2.out.alloc _).alloc _) hb3); obtain ⟨hc3, hf3⟩ := bcell hb3
  have z3 : w.heap.size < w3.heap.size := Nat.lt_of_lt_of_le z2 hb3.size
  have HX := Lib.hid (below_next (below_next (below_box hb1) hb2) hb3)
  cases z
  all_goals
    go_wp2
    go_ret
    exact ⟨rfl, HX.out⟩
theorem decimalShort_c (b : Bool) (v : Int) (h1 : -9223372036854775808 ≤ v ∧ v ≤ 9223372036854775807) (w : World) (hG : G w) : Calls Tryd.prog 6 #[.agg #[.bool b, .int .i64 v]] w fun e w' => e = .returned (.bool true) ∧ Below w.heap.size w w' := by
  cases b
  · by_cases hv : v = -9223372036854775808
    · exact short_low v hv w hG
    · exact short_some v (by omega) h1.2 w hG
  · exact short_null v h1 w hG
end Go.Proofs.YtnnilllnkklecaaDoor.DW
