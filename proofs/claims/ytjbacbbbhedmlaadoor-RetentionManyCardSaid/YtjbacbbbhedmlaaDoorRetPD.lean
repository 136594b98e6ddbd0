/-
  Contracts of the program's functions of layer 10: Reach, follows, Together.
-/
import Derived.Test.YtjbacbbbhedmlaaDoorRetRH
set_option linter.unusedSimpArgs false
set_option linter.unusedVariables false
namespace Go.Proofs.YtjbacbbbhedmlaaDoor.RP
open Go.RowKit RR
set_option maxRecDepth 100000 in
set_option maxHeartbeats 1000000 in
theorem reach_c (x y : Int) (w : World) : Calls Tryd.prog 17 #[.agg #[.int .i64 x, .int .i64 y]] w fun e w' => e = .returned (.int .i64 (rgReach (x, y))) ∧ Below w.heap.size w w' := by
  obtain ⟨r, hr⟩ : ∃ r, rgReach (x, y) = r := ⟨_, rfl⟩
  rw [hr]
  have hr2 : (if rgOk (x, y) then x * y else 0) = r := hr
  have HR := Lib.hid hr2
  clear hr hr2
  by_cases h0 : 1 ≤ x
  · by_cases h1 : x ≤ 86400
    · by_cases h2 : 1 ≤ y
      · by_cases h3 : y ≤ 400
        · have e : x * y = r := by have h := HR.out; rw [rgOk_yes h0 h1 h2 h3] at h; exact h
          have hxy0 : 0 ≤ x * y := Int.mul_nonneg (by omega) (by omega)
          have hxy1 : x * y ≤ 86400 * 400 := Int.mul_le_mul (by omega) (by omega) (by omega) (by omega)
          rw [e] at hxy0 hxy1
          clear HR
          go_enter Tryd.func17, Tryd.ntmps17
          go_wp2
          go_ret
          exact ⟨rfl, alloc_below _ _⟩
        · obtain rfl : r = 0 := by have h := HR.out; rw [rgOk_no (by omega)] at h; exact h.symm
          clear HR
          go_enter Tryd.func17, Tryd.ntmps17
          go_wp2
          go_ret
          exact ⟨rfl, alloc_below _ _⟩
      · obtain rfl : r = 0 := by have h := HR.out; rw [rgOk_no (by omega)] at h; exact h.symm
        clear HR
        go_enter Tryd.func17, Tryd.ntmps17
        go_wp2
        go_ret
        exact ⟨rfl, alloc_below _ _⟩
    · obtain rfl : r = 0 := by have h := HR.out; rw [rgOk_no (by omega)] at h; exact h.symm
      clear HR
      go_enter Tryd.func17, Tryd.ntmps17
      go_wp2
      go_ret
      exact ⟨rfl, alloc_below _ _⟩
  · obtain rfl : r = 0 := by have h := HR.out; rw [rgOk_no (by omega)] at h; exact h.symm
    clear HR
    go_enter Tryd.func17, Tryd.ntmps17
    go_wp2
    go_ret
    exact ⟨rfl, alloc_below _ _⟩
theorem one_cell (w : World) (a0 a1 : Value) (t : TypeId) : (w.alloc (.cells #[a0, a1] t)).cell? ⟨w.heap.size, 0, none⟩ = some a0 ∧ (w.alloc (.cells #[a0, a1] t)).cell? ⟨w.heap.size, 1, none⟩ = some a1 :=
  ⟨cell_of_row _ _ 0 _ _ (0, 0) (heap_alloc_new w _), cell_of_row _ _ 1 _ _ (0, 0) (heap_alloc_new w _)⟩
set_option maxRecDepth 100000 in
set_option maxHeartbeats 2000000 in
theorem follows_c (x y x1 y1 : Int) (h0 : rgOk (x, y) = true) (h1 : rgOk (x1, y1) = true) (w : World) :
    Calls Tryd.prog 31 #[.agg #[.int .i64 x, .int .i64 y], .agg #[.int .i64 x1, .int .i64 y1]] w fun e w' => e = .returned (.bool (rgFits (x1, y1) (x, y))) ∧ Below w.heap.size w w' := by
  obtain ⟨d, hd⟩ : ∃ d, rgFits (x1, y1) (x, y) = d := ⟨_, rfl⟩
  rw [hd]
  have hr0 : rgReach (x, y) = x * y := if_pos h0
  have hr1 : rgReach (x1, y1) = x1 * y1 := if_pos h1
  have SM0 := fun (X : World) => reach_c x y X
  have SM1 := fun (X : World) => reach_c x1 y1 X
  rw [hr0] at SM0
  rw [hr1] at SM1
  have ok0 := of_decide_eq_true h0
  have ok1 := of_decide_eq_true h1
  simp only at ok0 ok1
  obtain ⟨P0, hP0⟩ : ∃ P, x * y = P := ⟨_, rfl⟩
  obtain ⟨P1, hP1⟩ : ∃ P, x1 * y1 = P := ⟨_, rfl⟩
  have hfit : rgFits (x1, y1) (x, y) = decide (x1 < x ∧ x % x1 = 0 ∧ P1 < P0 ∧ x / x1 ≤ y1) := by rw [← hP0, ← hP1]; rfl
  rw [hP0] at SM0
  rw [hP1] at SM1
  rw [hd] at hfit
  have HF := Lib.hid hfit
  have S0 := Lib.hid SM0; have S1 := Lib.hid SM1
  have x1p : 0 < x1 := by omega
  have x0p : 0 < x := by omega
  obtain ⟨q, hq⟩ : ∃ q, x / x1 = q := ⟨_, rfl⟩
  have hq0 : 0 ≤ q := by rw [← hq]; exact Int.ediv_nonneg (by omega) (by omega)
  have hq1 : q ≤ 86400 := by rw [← hq]; exact Int.le_trans (Int.ediv_le_self _ (by omega)) (by omega)
  rw [hq] at HF
  obtain ⟨⟨k0, k1⟩, ⟨k2, k3⟩, kb⟩ := two_cells w (.int .i64 x) (.int .i64 y) (.int .i64 x1) (.int .i64 y1) 32
  obtain ⟨wc, hwc⟩ : ∃ wc, ((w.alloc (.cells #[.int .i64 x, .int .i64 y] 32)).alloc (.cells #[.int .i64 x1, .int .i64 y1] 32)) = wc := ⟨_, rfl⟩
  have k0 : wc.cell? ⟨w.heap.size, 0, none⟩ = some (.int .i64 x) := by rw [← hwc]; exact k0
  have k1 : wc.cell? ⟨w.heap.size, 1, none⟩ = some (.int .i64 y) := by rw [← hwc]; exact k1
  have k2 : wc.cell? ⟨w.heap.size + 1, 0, none⟩ = some (.int .i64 x1) := by rw [← hwc]; exact k2
  have k3 : wc.cell? ⟨w.heap.size + 1, 1, none⟩ = some (.int .i64 y1) := by rw [← hwc]; exact k3
  have KB := Lib.hid (show Below w.heap.size w wc from by rw [← hwc]; exact bnext (alloc_below _ _) (alloc_below _ _))
  have Y0 : ∀ z : Laid wc, z.W.cell? ⟨w.heap.size, 0, none⟩ = some (.int .i64 x) := fun z => cellb z.h k0
  have Y1 : ∀ z : Laid wc, z.W.cell? ⟨w.heap.size, 1, none⟩ = some (.int .i64 y) := fun z => cellb z.h k1
  have Y2 : ∀ z : Laid wc, z.W.cell? ⟨w.heap.size + 1, 0, none⟩ = some (.int .i64 x1) := fun z => cellb z.h k2
  have Y3 : ∀ z : Laid wc, z.W.cell? ⟨w.heap.size + 1, 1, none⟩ = some (.int .i64 y1) := fun z => cellb z.h k3
  have HWC := Lib.hid hwc
  clear hr0 hr1 SM0 SM1 h0 h1 hfit hd hP0 hP1 kb hwc
  by_cases h1 : x1 < x
  · have d1 : decide (x1 < x) = true := decide_eq_true h1
    by_cases h2 : x % x1 = 0
    · have h2b : (x % x1 == 0) = true := by rw [h2]; rfl
      by_cases h3 : P1 < P0
      · have d3 : decide (P1 < P0) = true := decide_eq_true h3
        by_cases h4 : q ≤ y1
        · have d4 : decide (q ≤ y1) = true := decide_eq_true h4
          obtain rfl : d = true := HF.out.trans (decide_eq_true ⟨h1, h2, h3, h4⟩)
          clear HF
          go_enter Tryd.func31, Tryd.ntmps31
          go_wp2_with fail
          rw [HWC.out]
          refine wp_region_laid (by kernel_rfl) (by kernel_rfl) ?_
          repeat (go_big_quiet_step (first | (go_at_call_of 17 (x); with_reducible exact Calls.laid (S0.out _)) | (go_at_call_of 17 (x1); with_reducible exact Calls.laid (S1.out _))))
          refine wpQuiet_nil ?_
          intro _ hw'
          obtain ⟨pq, hw''⟩ := hw'
          subst hw''
          go_wp2
          go_ret
          exact ⟨rfl, bnext KB.out pq.h⟩
        · have d4 : decide (q ≤ y1) = false := decide_eq_false h4
          obtain rfl : d = false := HF.out.trans (decide_eq_false (fun h => by omega))
          clear HF
          go_enter Tryd.func31, Tryd.ntmps31
          go_wp2_with fail
          rw [HWC.out]
          refine wp_region_laid (by kernel_rfl) (by kernel_rfl) ?_
          repeat (go_big_quiet_step (first | (go_at_call_of 17 (x); with_reducible exact Calls.laid (S0.out _)) | (go_at_call_of 17 (x1); with_reducible exact Calls.laid (S1.out _))))
          refine wpQuiet_nil ?_
          intro _ hw'
          obtain ⟨pq, hw''⟩ := hw'
          subst hw''
          go_wp2
          go_ret
          exact ⟨rfl, bnext KB.out pq.h⟩
      · have d3 : decide (P1 < P0) = false := decide_eq_false h3
        obtain rfl : d = false := HF.out.trans (decide_eq_false (fun h => by omega))
        clear HF
        go_enter Tryd.func31, Tryd.ntmps31
        go_wp2_with fail
        rw [HWC.out]
        refine wp_region_laid (by kernel_rfl) (by kernel_rfl) ?_
        repeat (go_big_quiet_step (first | (go_at_call_of 17 (x); with_reducible exact Calls.laid (S0.out _)) | (go_at_call_of 17 (x1); with_reducible exact Calls.laid (S1.out _))))
        refine wpQuiet_nil ?_
        intro _ hw'
        obtain ⟨pq, hw''⟩ := hw'
        subst hw''
        go_wp2
        go_ret
        exact ⟨rfl, bnext KB.out pq.h⟩
    · have h2b : (x % x1 == 0) = false := beq_false_of_ne h2
      obtain rfl : d = false := HF.out.trans (decide_eq_false (fun h => by exact h2 h.2.1))
      clear HF
      go_enter Tryd.func31, Tryd.ntmps31
      go_wp2_with fail
      rw [HWC.out]
      refine wp_region_laid (by kernel_rfl) (by kernel_rfl) ?_
      repeat (go_big_quiet_step (first | (go_at_call_of 17 (x); with_reducible exact Calls.laid (S0.out _)) | (go_at_call_of 17 (x1); with_reducible exact Calls.laid (S1.out _))))
      refine wpQuiet_nil ?_
      intro _ hw'
      obtain ⟨pq, hw''⟩ := hw'
      subst hw''
      go_wp2
      go_ret
      exact ⟨rfl, bnext KB.out pq.h⟩
  · have d1 : decide (x1 < x) = false := decide_eq_false h1
    obtain rfl : d = false := HF.out.trans (decide_eq_false (fun h => by omega))
    clear HF
    go_enter Tryd.func31, Tryd.ntmps31
    go_wp2_with fail
    rw [HWC.out]
    refine wp_region_laid (by kernel_rfl) (by kernel_rfl) ?_
    repeat (go_big_quiet_step (first | (go_at_call_of 17 (x); with_reducible exact Calls.laid (S0.out _)) | (go_at_call_of 17 (x1); with_reducible exact Calls.laid (S1.out _))))
    refine wpQuiet_nil ?_
    intro _ hw'
    obtain ⟨pq, hw''⟩ := hw'
    subst hw''
    go_wp2
    go_ret
    exact ⟨rfl, bnext KB.out pq.h⟩
end Go.Proofs.YtjbacbbbhedmlaaDoor.RP
