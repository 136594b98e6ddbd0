/-
  Contracts of the document's own functions of layer 10: Together.
-/
import Derived.Test.YtodlgbihdehmbaaGreatDoorRetRGP
import Derived.Deep.RegionHeld3
import Derived.Deep.DeepCutAuto
import Derived.Deep.CutRange
set_option linter.unusedSimpArgs false
set_option linter.unusedVariables false
namespace Go.Proofs.YtodlgbihdehmbaaGreatDoor.RR
open Go.RowKit
theorem tog_len {l : List (Int × Int)} (h : ¬ (1 ≤ l.length ∧ l.length ≤ 4)) : tog l = false := by
  unfold tog; rw [decide_eq_false h]; rfl
theorem tog_single {l : List (Int × Int)} {k : Nat} {g : Int × Int} (hk : l[k]? = some g) (h : rgOk g = false) : tog l = false := by
  cases ht : tog l with
  | false => rfl
  | true => have := ((tog_iff l).1 ht).2.1 k g hk; rw [h] at this; cases this
theorem tog_pair {l : List (Int × Int)} {k : Nat} {a b : Int × Int} (ha : l[k]? = some a) (hb : l[k + 1]? = some b) (h : rgFits a b = false) : tog l = false := by
  cases ht : tog l with
  | false => rfl
  | true => have := ((tog_iff l).1 ht).2.2 k a b ha hb; rw [h] at this; cases this
theorem two_cells (w : World) (a0 a1 b0 b1 : Value) (t : TypeId) :
    (((w.alloc (.cells #[a0, a1] t)).alloc (.cells #[b0, b1] t)).drew.cell? ⟨w.heap.size, 0, none⟩ = some a0 ∧ ((w.alloc (.cells #[a0, a1] t)).alloc (.cells #[b0, b1] t)).drew.cell? ⟨w.heap.size, 1, none⟩ = some a1) ∧
    (((w.alloc (.cells #[a0, a1] t)).alloc (.cells #[b0, b1] t)).drew.cell? ⟨w.heap.size + 1, 0, none⟩ = some b0 ∧ ((w.alloc (.cells #[a0, a1] t)).alloc (.cells #[b0, b1] t)).drew.cell? ⟨w.heap.size + 1, 1, none⟩ = some b1) ∧
    Below w.heap.size w ((w.alloc (.cells #[a0, a1] t)).alloc (.cells #[b0, b1] t)).drew := by
  have h1 : ((w.alloc (.cells #[a0, a1] t)).alloc (.cells #[b0, b1] t)).heap[w.heap.size]? = some (.cells #[a0, a1] t) := (Below.heap_alloc _ _ _ (by simp)).trans (heap_alloc_new w _)
  have h2 : ((w.alloc (.cells #[a0, a1] t)).alloc (.cells #[b0, b1] t)).heap[w.heap.size + 1]? = some (.cells #[b0, b1] t) := by
    have := heap_alloc_new (w.alloc (.cells #[a0, a1] t)) (.cells #[b0, b1] t)
    rwa [World.size_alloc] at this
  refine ⟨⟨?_, ?_⟩, ⟨?_, ?_⟩, Below.drew (bnext (alloc_below _ _) (alloc_below _ _))⟩
  · exact cell_of_row _ _ 0 _ _ (0, 0) h1
  · exact cell_of_row _ _ 1 _ _ (0, 0) h1
  · exact cell_of_row _ _ 0 _ _ (0, 0) h2
  · exact cell_of_row _ _ 1 _ _ (0, 0) h2
set_option maxRecDepth 100000 in
set_option maxHeartbeats 4000000 in
theorem together_c (v : Value) (l : List (Int × Int)) (hl : l.length ≤ 100000) (w : World) (f : RgOut w v l) :
    Calls Tryz.prog 48 #[v] w fun e w' => e = .returned (.bool (tog l)) ∧ Below w.heap.size w w' := by
  obtain ⟨A, c, rfl, hc, hx⟩ := f
  obtain ⟨n, hn⟩ : ∃ n, l.length = n := ⟨_, rfl⟩
  rw [hn] at hl hc ⊢
  obtain ⟨d, hd⟩ : ∃ d, tog l = d := ⟨_, rfl⟩
  rw [hd]
  have HX := Lib.hid hx; have HN := Lib.hid hn; have HD := Lib.hid hd
  clear hx hn hd
  by_cases hlen : 1 ≤ n ∧ n ≤ 4
  · obtain ⟨l1, l4⟩ := hlen
    have l1i : (1 : Int) ≤ (n : Int) := by omega
    have l4i : (n : Int) ≤ 4 := by omega
    go_enter Tryz.func48, Tryz.ntmps48
    go_wp2
    go_loopw [3] (fun i wr => ∃ k : Nat, k ≤ n ∧ i = .int .i64 k ∧ Hid ((∀ (j : Nat) (g : Int × Int), j < k → l[j]? = some g → rgOk g = true) ∧ Below w.heap.size w wr)) (fun i _ => n - (intOf i).toNat)
    case atStart => exact ⟨0, Nat.zero_le _, rfl, fun j g h => absurd h (Nat.not_lt_zero j), Below.refl _ _⟩
    case round =>
      obtain ⟨k, hk, rfl, HI⟩ := hrel
      by_cases hlt : k < n
      · have hkl : k < l.length := by rw [HN.out]; exact hlt
        obtain ⟨b, off, rfl, ha⟩ := HX.out (by intro e; rw [e] at hkl; exact absurd hkl (Nat.not_lt_zero _))
        have hp0 := List.getElem?_eq_getElem hkl
        obtain ⟨c0, c1⟩ := (ha.below HI.out.2) k _ hp0
        have hs := single_c l[k].1 l[k].2 wr
        obtain ⟨⟨x, y⟩, hp⟩ : ∃ p, l[k] = p := ⟨_, rfl⟩
        rw [hp] at hp0 c0 c1 hs
        have HP := Lib.hid hp0; have HS := Lib.hid hs
        clear hs hp0 hp ha hkl
        cases ho : rgOk (x, y)
        · obtain rfl : d = false := by rw [← HD.out]; exact tog_single HP.out ho
          rw [ho] at HS
          go_wp2_with fail
          refine HS.out.mono ?_; rintro e w1 ⟨rfl, hb1⟩
          go_wp2
          go_ret
          exact ⟨rfl, bnext HI.out.2 hb1⟩
        · rw [ho] at HS
          have HO := Lib.hid ho
          clear ho
          go_wp2_with fail
          refine HS.out.mono ?_; rintro e w1 ⟨rfl, hb1⟩
          have HB := Lib.hid (bnext HI.out.2 hb1)
          clear hb1
          go_wp2
          go_roundw
          case rel =>
            refine ⟨k + 1, by omega, by go_num, fun j g h1 h2 => ?_, HB.out⟩
            rcases Nat.lt_or_ge j k with h | h
            · exact HI.out.1 j g h h2
            · obtain rfl : j = k := by omega
              rw [HP.out] at h2
              obtain rfl := Option.some.inj h2
              exact HO.out
          case measure => simp [intOf]; omega
      · obtain rfl : k = n := by omega
        have OKS := Lib.hid (show ∀ (j : Nat) (g : Int × Int), l[j]? = some g → rgOk g = true from fun j g h => HI.out.1 j g (by rw [← HN.out]; exact (List.getElem?_eq_some_iff.1 h).1) h)
        have BEL := Lib.hid HI.out.2
        clear HI hlt
        go_wp2
        go_loopw [4] (fun i w2 => ∃ q : Nat, 1 ≤ q ∧ q ≤ k ∧ i = .int .i64 q ∧ Hid ((∀ (j : Nat) (a b : Int × Int), j + 1 < q → l[j]? = some a → l[j + 1]? = some b → rgFits a b = true) ∧ Below w.heap.size w w2)) (fun i _ => k - (intOf i).toNat)
        case atStart => exact ⟨1, Nat.le_refl _, l1, rfl, fun j a b h => absurd h (by omega), BEL.out⟩
        case round =>
          obtain ⟨q, hq1, hqk, rfl, HI⟩ := hrel
          by_cases hlt : q < k
          · have hkl : q < l.length := by rw [HN.out]; exact hlt
            have hkl1 : q - 1 < l.length := by omega
            obtain ⟨b, off, rfl, ha⟩ := HX.out (by intro e; rw [e] at hkl; exact absurd hkl (Nat.not_lt_zero _))
            have hp0 := List.getElem?_eq_getElem hkl
            have hp1 := List.getElem?_eq_getElem hkl1
            obtain ⟨⟨x, y⟩, hp⟩ : ∃ p, l[q] = p := ⟨_, rfl⟩
            obtain ⟨⟨x1, y1⟩, hpp⟩ : ∃ p, l[q - 1] = p := ⟨_, rfl⟩
            rw [hp] at hp0
            rw [hpp] at hp1
            obtain ⟨c0, c1⟩ := (ha.below HI.out.2) q _ hp0
            obtain ⟨e0, e1⟩ := (ha.below HI.out.2) (q - 1) _ hp1
            have hok0 := OKS.out q _ hp0
            have hok1 := OKS.out (q - 1) _ hp1
            have hno : rgFits (x1, y1) (x, y) = false → d = false := fun h => by
              rw [← HD.out]
              exact tog_pair hp1 (by rw [show q - 1 + 1 = q from by omega]; exact hp0) h
            have hyes : rgFits (x1, y1) (x, y) = true → ∀ (j : Nat) (a b : Int × Int), j + 1 < q + 1 → l[j]? = some a → l[j + 1]? = some b → rgFits a b = true := fun h j a b h1 h2 h3 => by
              rcases Nat.lt_or_ge (j + 1) q with h4 | h4
              · exact HI.out.1 j a b h4 h2 h3
              · obtain rfl : j = q - 1 := by omega
                rw [hp1] at h2
                obtain rfl := Option.some.inj h2
                rw [show q - 1 + 1 = q from by omega, hp0] at h3
                obtain rfl := Option.some.inj h3
                exact h
            have hr0 : rgReach (x, y) = x * y := if_pos hok0
            have hr1 : rgReach (x1, y1) = x1 * y1 := if_pos hok1
            have SM0 := fun (X : World) => reach_c x y X
            have SM1 := fun (X : World) => reach_c x1 y1 X
            rw [hr0] at SM0
            rw [hr1] at SM1
            have ok0 := of_decide_eq_true hok0
            have ok1 := of_decide_eq_true hok1
            simp only at ok0 ok1
            have hqi : (q : Int) - 1 = ((q - 1 : Nat) : Int) := by omega
            have hql : q - 1 < k := by omega
            have NO := Lib.hid hno; have YES := Lib.hid hyes
            obtain ⟨P0, hP0⟩ : ∃ P, x * y = P := ⟨_, rfl⟩
            obtain ⟨P1, hP1⟩ : ∃ P, x1 * y1 = P := ⟨_, rfl⟩
            have hfit : rgFits (x1, y1) (x, y) = decide (x1 < x ∧ x % x1 = 0 ∧ P1 < P0 ∧ x / x1 ≤ y1) := by rw [← hP0, ← hP1]; rfl
            rw [hP0] at SM0
            rw [hP1] at SM1
            rw [hfit] at NO YES
            have S0 := Lib.hid SM0; have S1 := Lib.hid SM1
            have x1p : 0 < x1 := by omega
            have hbl : b < wr.heap.size := World.block_lt_of_cell? wr _ c0
            have hqw : IntKind.i64.wrap ((q - 1 : Nat) : Int) = ((q - 1 : Nat) : Int) := by rw [IntKind.wrap_i64]; omega
            have x0p : 0 < x := by omega
            generalize q - 1 = q1 at *
            clear hno hyes hr0 hr1 SM0 SM1 hok0 hok1 hp0 hp1 ha hkl hkl1 hp hpp hfit hP0 hP1
            go_wp2_with fail
            go_cut [5, 6] from 33 to 41 (fun t5 t6 wx => ∃ B5 B6 : Nat, t5 = .pointer (some ⟨B5, 0, none⟩) ∧ t6 = .pointer (some ⟨B6, 0, none⟩) ∧ (wx.cell? ⟨B5, 0, none⟩ = some (.int .i64 x1) ∧ wx.cell? ⟨B5, 1, none⟩ = some (.int .i64 y1) ∧ wx.cell? ⟨B6, 0, none⟩ = some (.int .i64 x) ∧ wx.cell? ⟨B6, 1, none⟩ = some (.int .i64 y)) ∧ Hid (Below wr.heap.size wr wx))
            case first =>
              go_region_held3 (fun Y => Y.cell? ⟨b, off + q * 2, none⟩ = some (.int .i64 x) ∧ Y.cell? ⟨b, off + q * 2 + 1, none⟩ = some (.int .i64 y) ∧ Y.cell? ⟨b, off + q1 * 2, none⟩ = some (.int .i64 x1) ∧ Y.cell? ⟨b, off + q1 * 2 + 1, none⟩ = some (.int .i64 y1))
                (first | go_keep)
                (fail)
              all_goals (go_wp2_with fail)
              all_goals go_meet
              case rel => 
                obtain ⟨⟨k0, k1⟩, ⟨k2, k3⟩, kb⟩ := two_cells wr (.int .i64 x1) (.int .i64 y1) (.int .i64 x) (.int .i64 y) 49
                exact ⟨_, _, rfl, rfl, ⟨k0, k1, k2, k3⟩, Lib.hid kb⟩
              case rel =>
                obtain ⟨⟨k0, k1⟩, ⟨k2, k3⟩, kb⟩ := two_cells wr (.int .i64 x) (.int .i64 y) (.int .i64 x1) (.int .i64 y1) 49
                exact ⟨_, _, rfl, rfl, ⟨k2, k3, k0, k1⟩, Lib.hid kb⟩
            case rest =>
              obtain ⟨B5, B6, rfl, rfl, ⟨k0, k1, k2, k3⟩, HB⟩ := hcut
              have Y0 : ∀ z : Laid wc, z.W.cell? ⟨B5, 0, none⟩ = some (.int .i64 x1) := fun z => cellb z.h k0
              have Y1 : ∀ z : Laid wc, z.W.cell? ⟨B5, 1, none⟩ = some (.int .i64 y1) := fun z => cellb z.h k1
              have Y2 : ∀ z : Laid wc, z.W.cell? ⟨B6, 0, none⟩ = some (.int .i64 x) := fun z => cellb z.h k2
              have Y3 : ∀ z : Laid wc, z.W.cell? ⟨B6, 1, none⟩ = some (.int .i64 y) := fun z => cellb z.h k3
              by_cases h1 : x ≤ x1
              · have d1 : decide (x ≤ x1) = true := decide_eq_true h1
                obtain rfl : d = false := NO.out (decide_eq_false (fun h => by omega))
                clear NO YES
                go_wp2_with fail
                refine wp_region_laid (by kernel_rfl) (by kernel_rfl) ?_
                repeat (go_big_quiet_step (first | (go_at_call_of 70 (x); with_reducible exact Calls.laid (S0.out _)) | (go_at_call_of 70 (x1); with_reducible exact Calls.laid (S1.out _))))
                refine wpQuiet_nil ?_
                intro _ hw'
                obtain ⟨pq, hw''⟩ := hw'
                subst hw''
                go_wp2
                go_ret
                exact ⟨rfl, bnext HI.out.2 (bnext HB.out pq.h)⟩
              · have d1 : decide (x ≤ x1) = false := decide_eq_false h1
                by_cases h2 : x % x1 = 0
                · have h2b : (x % x1 == 0) = true := by rw [h2]; rfl
                  by_cases h3 : P0 ≤ P1
                  · have d3 : decide (P0 ≤ P1) = true := decide_eq_true h3
                    obtain rfl : d = false := NO.out (decide_eq_false (fun h => by omega))
                    clear NO YES
                    go_wp2_with fail
                    refine wp_region_laid (by kernel_rfl) (by kernel_rfl) ?_
                    repeat (go_big_quiet_step (first | (go_at_call_of 70 (x); with_reducible exact Calls.laid (S0.out _)) | (go_at_call_of 70 (x1); with_reducible exact Calls.laid (S1.out _))))
                    refine wpQuiet_nil ?_
                    intro _ hw'
                    obtain ⟨pq, hw''⟩ := hw'
                    subst hw''
                    go_wp2
                    go_ret
                    exact ⟨rfl, bnext HI.out.2 (bnext HB.out pq.h)⟩
                  · have d3 : decide (P0 ≤ P1) = false := decide_eq_false h3
                    by_cases h4 : y1 < x / x1
                    · have d4 : decide (y1 < x / x1) = true := decide_eq_true h4
                      obtain rfl : d = false := NO.out (decide_eq_false (fun h => by omega))
                      clear NO YES
                      go_wp2_with fail
                      refine wp_region_laid (by kernel_rfl) (by kernel_rfl) ?_
                      repeat (go_big_quiet_step (first | (go_at_call_of 70 (x); with_reducible exact Calls.laid (S0.out _)) | (go_at_call_of 70 (x1); with_reducible exact Calls.laid (S1.out _))))
                      refine wpQuiet_nil ?_
                      intro _ hw'
                      obtain ⟨pq, hw''⟩ := hw'
                      subst hw''
                      go_wp2
                      go_ret
                      exact ⟨rfl, bnext HI.out.2 (bnext HB.out pq.h)⟩
                    · have d4 : decide (y1 < x / x1) = false := decide_eq_false h4
                      have GO := Lib.hid (YES.out (decide_eq_true ⟨by omega, h2, by omega, by omega⟩))
                      clear NO YES
                      go_wp2_with fail
                      refine wp_region_laid (by kernel_rfl) (by kernel_rfl) ?_
                      repeat (go_big_quiet_step (first | (go_at_call_of 70 (x); with_reducible exact Calls.laid (S0.out _)) | (go_at_call_of 70 (x1); with_reducible exact Calls.laid (S1.out _))))
                      refine wpQuiet_nil ?_
                      intro _ hw'
                      obtain ⟨pq, hw''⟩ := hw'
                      subst hw''
                      go_wp2
                      go_roundw
                      case rel => exact ⟨q + 1, by omega, by omega, by go_num, GO.out, bnext HI.out.2 (bnext HB.out pq.h)⟩
                      case measure => simp [intOf]; omega
                · have h2b : (x % x1 == 0) = false := beq_false_of_ne h2
                  have h2c : (x % x1 != 0) = true := by rw [bne, h2b]; rfl
                  obtain rfl : d = false := NO.out (decide_eq_false (fun h => by exact h2 h.2.1))
                  clear NO YES
                  go_wp2_with fail
                  refine wp_region_laid (by kernel_rfl) (by kernel_rfl) ?_
                  repeat (go_big_quiet_step (first | (go_at_call_of 70 (x); with_reducible exact Calls.laid (S0.out _)) | (go_at_call_of 70 (x1); with_reducible exact Calls.laid (S1.out _))))
                  refine wpQuiet_nil ?_
                  intro _ hw'
                  obtain ⟨pq, hw''⟩ := hw'
                  subst hw''
                  go_wp2
                  go_ret
                  exact ⟨rfl, bnext HI.out.2 (bnext HB.out pq.h)⟩
          · obtain rfl : q = k := by omega
            obtain rfl : d = true := by
              rw [← HD.out]
              refine (tog_iff l).2 ⟨by rw [HN.out]; exact ⟨l1, l4⟩, OKS.out, fun j a b h1 h2 => HI.out.1 j a b (by rw [← HN.out]; exact (List.getElem?_eq_some_iff.1 h2).1) h1 h2⟩
            go_wp2
            go_ret
            exact ⟨rfl, HI.out.2⟩
  · obtain rfl : d = false := by rw [← HD.out]; exact tog_len (by rw [HN.out]; exact hlen)
    by_cases h0 : n < 1
    · have h0i : (n : Int) < 1 := by omega
      go_enter Tryz.func48, Tryz.ntmps48
      go_wp2
      go_ret
      exact ⟨rfl, Below.refl _ _⟩
    · have h0i : (1 : Int) ≤ (n : Int) := by omega
      have h4i : (4 : Int) < (n : Int) := by omega
      go_enter Tryz.func48, Tryz.ntmps48
      go_wp2
      go_ret
      exact ⟨rfl, Below.refl _ _⟩
end Go.Proofs.YtodlgbihdehmbaaGreatDoor.RR
