/-
  Contracts of the program's functions of layer 10: Reach, follows, Together.
-/
import Derived.Test.YtodlgbihdehmbaaGreatDoorRetRHP
set_option linter.unusedSimpArgs false
set_option linter.unusedVariables false
namespace Go.Proofs.YtodlgbihdehmbaaGreatDoor.RP
open Go.RowKit RR
set_option maxRecDepth 100000 in
set_option maxHeartbeats 1000000 in
theorem reach_c (x y : Int) (w : World) : Calls Tryz.prog 67 #[.agg #[.int .i64 x, .int .i64 y]] w fun e w' => e = .returned (.int .i64 (rgReach (x, y))) ∧ Below w.heap.size w w' := by
  obtain ⟨r, hr⟩ : ∃ r, rgReach (x, y) = r := ⟨_, rfl⟩
  rw [hr]
  have hr2 : (if rgOk (x, y) then x * y else 0) = r := hr
  have HR := Lib.hid hr2
  clear hr hr2
  by_cases h0 : 1 ≤ x
  · by_cases h1 : x ≤ 86400
    · by_cases h2 : 1 ≤ y
      · by_cases h3 : y ≤ 400
        · have e : x * y = r := by have h := HR.out; rw [rgOk_yes h0 h1 h2 h3] at h; exact h
          have hxy0 : 0 ≤ x * y := Int.mul_nonneg (by omega) (by omega)
          have hxy1 : x * y ≤ 86400 * 400 := Int.mul_le_mul (by omega) (by omega) (by omega) (by omega)
          rw [e] at hxy0 hxy1
          clear HR
          go_enter Tryz.func67, Tryz.ntmps67
          go_wp2
          go_ret
          exact ⟨rfl, alloc_below _ _⟩
        · obtain rfl : r = 0 := by have h := HR.out; rw [rgOk_no (by omega)] at h; exact h.symm
          clear HR
          go_enter Tryz.func67, Tryz.ntmps67
          go_wp2
          go_ret
          exact ⟨rfl, alloc_below _ _⟩
      · obtain rfl : r = 0 := by have h := HR.out; rw [rgOk_no (by omega)] at h; exact h.symm
        clear HR
        go_enter Tryz.func67, Tryz.ntmps67
        go_wp2
        go_ret
        exact ⟨rfl, alloc_below _ _⟩
    · obtain rfl : r = 0 := by have h := HR.out; rw [rgOk_no (by omega)] at h; exact h.symm
      clear HR
      go_enter Tryz.func67, Tryz.ntmps67
      go_wp2
      go_ret
      exact ⟨rfl, alloc_below _ _⟩
  · obtain rfl : r = 0 := by have h := HR.out; rw [rgOk_no (by omega)] at h; exact h.symm
    clear HR
    go_enter Tryz.func67, Tryz.ntmps67
    go_wp2
    go_ret
    exact ⟨rfl, alloc_below _ _⟩
theorem one_cell (w : World) (a0 a1 : Value) (t : TypeId) : (w.alloc (.cells #[a0, a1] t)).cell? ⟨w.heap.size, 0, none⟩ = some a0 ∧ (w.alloc (.cells #[a0, a1] t)).cell? ⟨w.heap.size, 1, none⟩ = some a1 :=
  ⟨cell_of_row _ _ 0 _ _ (0, 0) (heap_alloc_new w _), cell_of_row _ _ 1 _ _ (0, 0) (heap_alloc_new w _)⟩
set_option maxRecDepth 100000 in
set_option maxHeartbeats 2000000 in
theorem follows_c (x y x1 y1 : Int) (h0 : rgOk (x, y) = true) (h1 : rgOk (x1, y1) = true) (w : World) :
    Calls Tryz.prog 68 #[.agg #[.int .i64 x, .int .i64 y], .agg #[.int .i64 x1, .int .i64 y1]] w fun e w' => e = .returned (.bool (rgFits (x1, y1) (x, y))) ∧ Below w.heap.size w w' := by
  obtain ⟨d, hd⟩ : ∃ d, rgFits (x1, y1) (x, y) = d := ⟨_, rfl⟩
  rw [hd]
  have hr0 : rgReach (x, y) = x * y := if_pos h0
  have hr1 : rgReach (x1, y1) = x1 * y1 := if_pos h1
  have SM0 := fun (X : World) => reach_c x y X
  have SM1 := fun (X : World) => reach_c x1 y1 X
  rw [hr0] at SM0
  rw [hr1] at SM1
  have ok0 := of_decide_eq_true h0
  have ok1 := of_decide_eq_true h1
  simp only at ok0 ok1
  obtain ⟨P0, hP0⟩ : ∃ P, x * y = P := ⟨_, rfl⟩
  obtain ⟨P1, hP1⟩ : ∃ P, x1 * y1 = P := ⟨_, rfl⟩
  have hfit : rgFits (x1, y1) (x, y) = decide (x1 < x ∧ x % x1 = 0 ∧ P1 < P0 ∧ x / x1 ≤ y1) := by rw [← hP0, ← hP1]; rfl
  rw [hP0] at SM0
  rw [hP1] at SM1
  rw [hd] at hfit
  have HF := Lib.hid hfit
  have S0 := Lib.hid SM0; have S1 := Lib.hid SM1
  have x1p : 0 < x1 := by omega
  have x0p : 0 < x := by omega
  obtain ⟨q, hq⟩ : ∃ q, x / x1 = q := ⟨_, rfl⟩
  have hq0 : 0 ≤ q := by rw [← hq]; exact Int.ediv_nonneg (by omega) (by omega)
  have hq1 : q ≤ 86400 := by rw [← hq]; exact Int.le_trans (Int.ediv_le_self _ (by omega)) (by omega)
  rw [hq] at HF
  obtain ⟨⟨k0, k1⟩, ⟨k2, k3⟩, kb⟩ := two_cells w (.int .i64 x) (.int .i64 y) (.int .i64 x1) (.int .i64 y1) 49
  obtain ⟨wc, hwc⟩ : ∃ wc, ((w.alloc (.cells #[.int .i64 x, .int .i64 y] 49)).alloc (.cells #[.int .i64 x1, .int .i64 y1] 49)) = wc := ⟨_, rfl⟩
  have k0 : wc.cell? ⟨w.heap.size, 0, none⟩ = some (.int .i64 x) := by rw [← hwc]; exact k0
  have k1 : wc.cell? ⟨w.heap.size, 1, none⟩ = some (.int .i64 y) := by rw [← hwc]; exact k1
  have k2 : wc.cell? ⟨w.heap.size + 1, 0, none⟩ = some (.int .i64 x1) := by rw [← hwc]; exact k2
  have k3 : wc.cell? ⟨w.heap.size + 1, 1, none⟩ = some (.int .i64 y1) := by rw [← hwc]; exact k3
  have KB := Lib.hid (show Below w.heap.size w wc from by rw [← hwc]; exact bnext (alloc_below _ _) (alloc_below _ _))
  have Y0 : ∀ z : Laid wc, z.W.cell? ⟨w.heap.size, 0, none⟩ = some (.int .i64 x) := fun z => cellb z.h k0
  have Y1 : ∀ z : Laid wc, z.W.cell? ⟨w.heap.size, 1, none⟩ = some (.int .i64 y) := fun z => cellb z.h k1
  have Y2 : ∀ z : Laid wc, z.W.cell? ⟨w.heap.size + 1, 0, none⟩ = some (.int .i64 x1) := fun z => cellb z.h k2
  have Y3 : ∀ z : Laid wc, z.W.cell? ⟨w.heap.size + 1, 1, none⟩ = some (.int .i64 y1) := fun z => cellb z.h k3
  have HWC := Lib.hid hwc
  clear hr0 hr1 SM0 SM1 h0 h1 hfit hd hP0 hP1 kb hwc
  by_cases h1 : x1 < x
  · have d1 : decide (x1 < x) = true := decide_eq_true h1
    by_cases h2 : x % x1 = 0
    · have h2b : (x % x1 == 0) = true := by rw [h2]; rfl
      by_cases h3 : P1 < P0
      · have d3 : decide (P1 < P0) = true := decide_eq_true h3
        by_cases h4 : q ≤ y1
        · have d4 : decide (q ≤ y1) = true := decide_eq_true h4
          obtain rfl : d = true := HF.out.trans (decide_eq_true ⟨h1, h2, h3, h4⟩)
          clear HF
          go_enter Tryz.func68, Tryz.ntmps68
          go_wp2_with fail
          rw [HWC.out]
          refine wp_region_laid (by kernel_rfl) (by kernel_rfl) ?_
          repeat (go_big_quiet_step (first | (go_at_call_of 67 (x); with_reducible exact Calls.laid (S0.out _)) | (go_at_call_of 67 (x1); with_reducible exact Calls.laid (S1.out _))))
          refine wpQuiet_nil ?_
          intro _ hw'
          obtain ⟨pq, hw''⟩ := hw'
          subst hw''
          go_wp2
          go_ret
          exact ⟨rfl, bnext KB.out pq.h⟩
        · have d4 : decide (q ≤ y1) = false := decide_eq_false h4
          obtain rfl : d = false := HF.out.trans (decide_eq_false (fun h => by omega))
          clear HF
          go_enter Tryz.func68, Tryz.ntmps68
          go_wp2_with fail
          rw [HWC.out]
          refine wp_region_laid (by kernel_rfl) (by kernel_rfl) ?_
          repeat (go_big_quiet_step (first | (go_at_call_of 67 (x); with_reducible exact Calls.laid (S0.out _)) | (go_at_call_of 67 (x1); with_reducible exact Calls.laid (S1.out _))))
          refine wpQuiet_nil ?_
          intro _ hw'
          obtain ⟨pq, hw''⟩ := hw'
          subst hw''
          go_wp2
          go_ret
          exact ⟨rfl, bnext KB.out pq.h⟩
      · have d3 : decide (P1 < P0) = false := decide_eq_false h3
        obtain rfl : d = false := HF.out.trans (decide_eq_false (fun h => by omega))
        clear HF
        go_enter Tryz.func68, Tryz.ntmps68
        go_wp2_with fail
        rw [HWC.out]
        refine wp_region_laid (by kernel_rfl) (by kernel_rfl) ?_
        repeat (go_big_quiet_step (first | (go_at_call_of 67 (x); with_reducible exact Calls.laid (S0.out _)) | (go_at_call_of 67 (x1); with_reducible exact Calls.laid (S1.out _))))
        refine wpQuiet_nil ?_
        intro _ hw'
        obtain ⟨pq, hw''⟩ := hw'
        subst hw''
        go_wp2
        go_ret
        exact ⟨rfl, bnext KB.out pq.h⟩
    · have h2b : (x % x1 == 0) = false := beq_false_of_ne h2
      obtain rfl : d = false := HF.out.trans (decide_eq_false (fun h => by exact h2 h.2.1))
      clear HF
      go_enter Tryz.func68, Tryz.ntmps68
      go_wp2_with fail
      rw [HWC.out]
      refine wp_region_laid (by kernel_rfl) (by kernel_rfl) ?_
      repeat (go_big_quiet_step (first | (go_at_call_of 67 (x); with_reducible exact Calls.laid (S0.out _)) | (go_at_call_of 67 (x1); with_reducible exact Calls.laid (S1.out _))))
      refine wpQuiet_nil ?_
      intro _ hw'
      obtain ⟨pq, hw''⟩ := hw'
      subst hw''
      go_wp2
      go_ret
      exact ⟨rfl, bnext KB.out pq.h⟩
  · have d1 : decide (x1 < x) = false := decide_eq_false h1
    obtain rfl : d = false := HF.out.trans (decide_eq_false (fun h => by omega))
    clear HF
    go_enter Tryz.func68, Tryz.ntmps68
    go_wp2_with fail
    rw [HWC.out]
    refine wp_region_laid (by kernel_rfl) (by kernel_rfl) ?_
    repeat (go_big_quiet_step (first | (go_at_call_of 67 (x); with_reducible exact Calls.laid (S0.out _)) | (go_at_call_of 67 (x1); with_reducible exact Calls.laid (S1.out _))))
    refine wpQuiet_nil ?_
    intro _ hw'
    obtain ⟨pq, hw''⟩ := hw'
    subst hw''
    go_wp2
    go_ret
    exact ⟨rfl, bnext KB.out pq.h⟩
end Go.Proofs.YtodlgbihdehmbaaGreatDoor.RP
/-
  Contracts of the program's functions of layer 10: Together.
-/
set_option linter.unusedSimpArgs false
set_option linter.unusedVariables false
namespace Go.Proofs.YtodlgbihdehmbaaGreatDoor.RP
open Go.RowKit RR
set_option maxRecDepth 100000 in
set_option maxHeartbeats 4000000 in
theorem together_c (v : Value) (l : List (Int × Int)) (hl : l.length ≤ 100000) (w : World) (f : RgOut w v l) :
    Calls Tryz.prog 45 #[v] w fun e w' => e = .returned (.bool (tog l)) ∧ Below w.heap.size w w' := by
  obtain ⟨A, c, rfl, hc, hx⟩ := f
  obtain ⟨n, hn⟩ : ∃ n, l.length = n := ⟨_, rfl⟩
  rw [hn] at hl hc ⊢
  obtain ⟨d, hd⟩ : ∃ d, tog l = d := ⟨_, rfl⟩
  rw [hd]
  have HX := Lib.hid hx; have HN := Lib.hid hn; have HD := Lib.hid hd
  clear hx hn hd
  go_enter Tryz.func45, Tryz.ntmps45
  go_wp2
  go_loopw [7] (fun i wr => ∃ k : Nat, k ≤ n ∧ i = .int .i64 k ∧ Hid ((∀ (j : Nat) (g : Int × Int), j < k → l[j]? = some g → rgOk g = true) ∧ (∀ (j : Nat) (a b : Int × Int), j + 1 < k → l[j]? = some a → l[j + 1]? = some b → rgFits a b = true) ∧ Below w.heap.size w wr)) (fun i _ => n - (intOf i).toNat)
  case atStart => exact ⟨0, Nat.zero_le _, rfl, fun j g h => absurd h (Nat.not_lt_zero j), fun j a b h => absurd h (Nat.not_lt_zero _), Below.refl _ _⟩
  case round =>
    obtain ⟨k, hk, rfl, HI⟩ := hrel
    by_cases hlt : k < n
    · have hkl : k < l.length := by rw [HN.out]; exact hlt
      obtain ⟨b, off, rfl, ha⟩ := HX.out (by intro e; rw [e] at hkl; exact absurd hkl (Nat.not_lt_zero _))
      have hp0 := List.getElem?_eq_getElem hkl
      obtain ⟨⟨x, y⟩, hp⟩ : ∃ p, l[k] = p := ⟨_, rfl⟩
      rw [hp] at hp0
      have haw := ha.below HI.out.2.2
      obtain ⟨c0, c1⟩ := haw k _ hp0
      simp only at c0 c1
      have SM0 := fun (X : World) => reach_c x y X
      obtain ⟨a0, a1⟩ := one_cell wr (.int .i64 x) (.int .i64 y) 49
      obtain ⟨wc, hwc⟩ : ∃ wc, (wr.alloc (.cells #[.int .i64 x, .int .i64 y] 49)) = wc := ⟨_, rfl⟩
      rw [hwc] at a0 a1
      have hbc : Below wr.heap.size wr wc := by rw [← hwc]; exact alloc_below _ _
      have KB := Lib.hid (bnext HI.out.2.2 hbc)
      have Y0 : ∀ z : Laid wc, z.W.cell? ⟨wr.heap.size, 0, none⟩ = some (.int .i64 x) := fun z => cellb z.h a0
      have Y1 : ∀ z : Laid wc, z.W.cell? ⟨wr.heap.size, 1, none⟩ = some (.int .i64 y) := fun z => cellb z.h a1
      have HWC := Lib.hid hwc; have HP := Lib.hid hp0; have S0 := Lib.hid SM0
      have STOP := Lib.hid (show rgOk (x, y) = false → d = false from fun h => by rw [← HD.out]; exact tog_single HP.out h)
      by_cases ho : rgOk (x, y) = true
      · have hr0 : rgReach (x, y) = x * y := if_pos ho
        obtain ⟨P0, hP0⟩ : ∃ P, x * y = P := ⟨_, rfl⟩
        have ok0 := of_decide_eq_true ho
        simp only at ok0
        have hP1 : P0 ≠ 0 := by
          rw [← hP0]
          have := Int.mul_pos (show 0 < x by omega) (show 0 < y by omega)
          omega
        have hPb : (P0 == 0) = false := beq_false_of_ne hP1
        rw [hr0, hP0] at S0
        have OK0 := Lib.hid ho
        have NEXT := Lib.hid (show ∀ (j : Nat) (g : Int × Int), j < k + 1 → l[j]? = some g → rgOk g = true from fun j g h1 h2 => by
          rcases Nat.lt_or_ge j k with h | h
          · exact HI.out.1 j g h h2
          · obtain rfl : j = k := by omega
            rw [HP.out] at h2
            obtain rfl := Option.some.inj h2
            exact OK0.out)
        by_cases hk0 : k = 0
        · have PAIR := Lib.hid (show ∀ (j : Nat) (a b : Int × Int), j + 1 < k + 1 → l[j]? = some a → l[j + 1]? = some b → rgFits a b = true from fun j a b h => absurd h (by omega))
          clear SM0 hr0 hP0 hP1 ok0 ho hp0 hp ha haw hwc hbc hkl a0 a1
          subst hk0
          simp only [Nat.zero_mul, Nat.add_zero] at c0 c1
          go_wp2_with fail
          rw [HWC.out]
          refine wp_region_laid (by kernel_rfl) (by kernel_rfl) ?_
          repeat (go_big_quiet_step (first | (go_at_call 67; with_reducible exact Calls.laid (S0.out _))))
          refine wpQuiet_nil ?_
          intro _ hw'
          obtain ⟨pq, hw''⟩ := hw'
          subst hw''
          go_wp2
          go_roundw
          case rel => exact ⟨0 + 1, by omega, by go_num, NEXT.out, PAIR.out, bnext KB.out pq.h⟩
          case measure => simp [intOf]; omega
        · have hkl1 : k - 1 < l.length := by omega
          have hp1 := List.getElem?_eq_getElem hkl1
          obtain ⟨⟨x1, y1⟩, hpp⟩ : ∃ p, l[k - 1] = p := ⟨_, rfl⟩
          rw [hpp] at hp1
          obtain ⟨e0, e1⟩ := haw (k - 1) _ hp1
          simp only at e0 e1
          have ho1 := HI.out.1 (k - 1) _ (by omega) hp1
          have FW := fun (X : World) => follows_c x y x1 y1 ho ho1 X
          obtain ⟨t, ht⟩ : ∃ t, rgFits (x1, y1) (x, y) = t := ⟨_, rfl⟩
          rw [ht] at FW
          have NO := Lib.hid (show t = false → d = false from fun h => by
            rw [← HD.out]
            exact tog_pair hp1 (by rw [show k - 1 + 1 = k from by omega]; exact hp0) (ht.trans h))
          have PAIR := Lib.hid (show t = true → ∀ (j : Nat) (a b : Int × Int), j + 1 < k + 1 → l[j]? = some a → l[j + 1]? = some b → rgFits a b = true from fun h j a b h1 h2 h3 => by
            rcases Nat.lt_or_ge (j + 1) k with h4 | h4
            · exact HI.out.2.1 j a b h4 h2 h3
            · obtain rfl : j = k - 1 := by omega
              rw [hp1] at h2
              obtain rfl := Option.some.inj h2
              rw [show k - 1 + 1 = k from by omega, hp0] at h3
              obtain rfl := Option.some.inj h3
              exact ht.trans h)
          have hbl : b < wr.heap.size := World.block_lt_of_cell? wr _ e0
          have Y2 : ∀ z : Laid wc, z.W.cell? ⟨b, off + (k - 1) * 2, none⟩ = some (.int .i64 x1) := fun z => cellb z.h (cellb hbc e0)
          have Y3 : ∀ z : Laid wc, z.W.cell? ⟨b, off + (k - 1) * 2 + 1, none⟩ = some (.int .i64 y1) := fun z => cellb z.h (cellb hbc e1)
          have hkd : decide ((0 : Int) < (k : Int)) = true := decide_eq_true (by omega)
          have hkn : decide (0 < k) = true := decide_eq_true (by omega)
          have hkp : (0 : Int) < (k : Int) := by omega
          have hqi : (k : Int) - 1 = ((k - 1 : Nat) : Int) := by omega
          have hqw : IntKind.i64.wrap ((k - 1 : Nat) : Int) = ((k - 1 : Nat) : Int) := by rw [IntKind.wrap_i64]; omega
          have hqw2 : IntKind.i64.wrap ((k : Int) - 1) = ((k - 1 : Nat) : Int) := by rw [IntKind.wrap_i64]; omega
          have hql : k - 1 < n := by omega
          have FF := Lib.hid FW
          generalize k - 1 = q1 at *
          clear SM0 hr0 hP0 hP1 ok0 ho ho1 hp0 hp hp1 hpp ha haw hwc hbc hk0 hkl hkl1 a0 a1 e0 e1 FW ht
          cases t
          · obtain rfl : d = false := NO.out rfl
            go_wp2_with fail
            rw [HWC.out]
            refine wp_region_laid (by kernel_rfl) (by kernel_rfl) ?_
            repeat (go_big_quiet_step (first | (go_at_call 67; with_reducible exact Calls.laid (S0.out _)) | (go_at_call 68; with_reducible exact Calls.laid (FF.out _))))
            refine wpQuiet_nil ?_
            intro _ hw'
            obtain ⟨pq, hw''⟩ := hw'
            subst hw''
            go_wp2
            go_ret
            exact ⟨rfl, bnext KB.out pq.h⟩
          · have PR := Lib.hid (PAIR.out rfl)
            clear PAIR NO
            go_wp2_with fail
            rw [HWC.out]
            refine wp_region_laid (by kernel_rfl) (by kernel_rfl) ?_
            repeat (go_big_quiet_step (first | (go_at_call 67; with_reducible exact Calls.laid (S0.out _)) | (go_at_call 68; with_reducible exact Calls.laid (FF.out _))))
            refine wpQuiet_nil ?_
            intro _ hw'
            obtain ⟨pq, hw''⟩ := hw'
            subst hw''
            go_wp2
            go_roundw
            case rel => exact ⟨k + 1, by omega, by go_num, NEXT.out, PR.out, bnext KB.out pq.h⟩
            case measure => simp [intOf]; omega
      · have hof : rgOk (x, y) = false := by simpa using ho
        obtain rfl : d = false := STOP.out hof
        have hr0 : rgReach (x, y) = 0 := if_neg ho
        rw [hr0] at S0
        clear SM0 hr0 ho hof hp0 hp ha haw hwc hbc hkl a0 a1 STOP
        go_wp2_with fail
        rw [HWC.out]
        refine wp_region_laid (by kernel_rfl) (by kernel_rfl) ?_
        repeat (go_big_quiet_step (first | (go_at_call 67; with_reducible exact Calls.laid (S0.out _))))
        refine wpQuiet_nil ?_
        intro _ hw'
        obtain ⟨pq, hw''⟩ := hw'
        subst hw''
        go_wp2
        go_ret
        exact ⟨rfl, bnext KB.out pq.h⟩
    · obtain rfl : k = n := by omega
      have hT : tog l = decide (1 ≤ k ∧ k ≤ 4) := by
        have h := tog_iff l
        rw [HN.out] at h
        have h2 := fun (j : Nat) (g : Int × Int) (hj : l[j]? = some g) => HI.out.1 j g (by rw [← HN.out]; exact (List.getElem?_eq_some_iff.1 hj).1) hj
        have h3 := fun (j : Nat) (a b : Int × Int) (h4 : l[j]? = some a) (h5 : l[j + 1]? = some b) => HI.out.2.1 j a b (by rw [← HN.out]; exact (List.getElem?_eq_some_iff.1 h5).1) h4 h5
        rw [Bool.eq_iff_iff, h, decide_eq_true_eq]
        exact ⟨fun h => h.1, fun h => ⟨h, h2, h3⟩⟩
      have HT := Lib.hid (HD.out.symm.trans hT)
      have BEL := Lib.hid HI.out.2.2
      clear hT HI HD
      by_cases h1 : 1 ≤ k
      · by_cases h4 : k ≤ 4
        · obtain rfl : d = true := HT.out.trans (decide_eq_true ⟨h1, h4⟩)
          have i1 : (1 : Int) ≤ (k : Int) := by omega
          have i4 : (k : Int) ≤ 4 := by omega
          go_wp2
          go_ret
          exact ⟨rfl, BEL.out⟩
        · obtain rfl : d = false := HT.out.trans (decide_eq_false (fun h => h4 h.2))
          have i1 : (1 : Int) ≤ (k : Int) := by omega
          have i4 : ¬ (k : Int) ≤ 4 := by omega
          go_wp2
          go_ret
          exact ⟨rfl, BEL.out⟩
      · obtain rfl : d = false := HT.out.trans (decide_eq_false (fun h => h1 h.1))
        have i1 : ¬ (1 : Int) ≤ (k : Int) := by omega
        go_wp2
        go_ret
        exact ⟨rfl, BEL.out⟩
end Go.Proofs.YtodlgbihdehmbaaGreatDoor.RP
