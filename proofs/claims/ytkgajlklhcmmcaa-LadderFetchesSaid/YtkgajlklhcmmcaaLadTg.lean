/-
  Contracts of layer 10 that ladders want: Single, Reach, Together, of the document's own and of the program.
-/
import Derived.Test.YtkgajlklhcmmcaaLadMath
import Derived.Test.YtkgajlklhcmmcaaRinRow
import Derived.Deep.RegionHeld3
import Derived.Deep.DeepCutAuto
import Derived.Deep.CutRange
set_option linter.unusedSimpArgs false
set_option linter.unusedVariables false
namespace Go.Proofs.Ytkgajlklhcmmcaa.RR
open Go.RowKit
theorem rgOk_yes {x y : Int} (h1 : 1 ≤ x) (h2 : x ≤ 86400) (h3 : 1 ≤ y) (h4 : y ≤ 400) : rgOk (x, y) = true := decide_eq_true ⟨h1, h2, h3, h4⟩
theorem rgOk_no {x y : Int} (h : ¬ (1 ≤ x ∧ x ≤ 86400 ∧ 1 ≤ y ∧ y ≤ 400)) : rgOk (x, y) = false := decide_eq_false h
set_option maxRecDepth 100000 in
set_option maxHeartbeats 1000000 in
theorem single_c (x y : Int) (w : World) : Calls Try.prog 67 #[.agg #[.int .i64 x, .int .i64 y]] w fun e w' => e = .returned (.bool (rgOk (x, y))) ∧ Below w.heap.size w w' := by
  obtain ⟨d, hd⟩ : ∃ d, rgOk (x, y) = d := ⟨_, rfl⟩
  rw [hd]
  have HD := Lib.hid hd
  clear hd
  by_cases h0 : 1 ≤ x
  · by_cases h1 : x ≤ 86400
    · by_cases h2 : 1 ≤ y
      · by_cases h3 : y ≤ 400
        · obtain rfl : d = true := by rw [← HD.out]; exact rgOk_yes h0 h1 h2 h3
          go_enter Try.func67, Try.ntmps67
          go_wp2
          go_ret
          exact ⟨rfl, alloc_below _ _⟩
        · obtain rfl : d = false := by rw [← HD.out]; exact rgOk_no (by omega)
          go_enter Try.func67, Try.ntmps67
          go_wp2
          go_ret
          exact ⟨rfl, alloc_below _ _⟩
      · obtain rfl : d = false := by rw [← HD.out]; exact rgOk_no (by omega)
        go_enter Try.func67, Try.ntmps67
        go_wp2
        go_ret
        exact ⟨rfl, alloc_below _ _⟩
    · obtain rfl : d = false := by rw [← HD.out]; exact rgOk_no (by omega)
      go_enter Try.func67, Try.ntmps67
      go_wp2
      go_ret
      exact ⟨rfl, alloc_below _ _⟩
  · obtain rfl : d = false := by rw [← HD.out]; exact rgOk_no (by omega)
    go_enter Try.func67, Try.ntmps67
    go_wp2
    go_ret
    exact ⟨rfl, alloc_below _ _⟩
set_option maxRecDepth 100000 in
set_option maxHeartbeats 1000000 in
theorem reach_c (x y : Int) (w : World) : Calls Try.prog 68 #[.agg #[.int .i64 x, .int .i64 y]] w fun e w' => e = .returned (.int .i64 (rgReach (x, y))) ∧ Below w.heap.size w w' := by
  have hs := fun W => single_c x y W
  obtain ⟨d, hd⟩ : ∃ d, rgOk (x, y) = d := ⟨_, rfl⟩
  obtain ⟨r, hr⟩ : ∃ r, rgReach (x, y) = r := ⟨_, rfl⟩
  have hr2 := hr
  unfold rgReach at hr2
  rw [hd] at hs hr2
  rw [hr]
  have HS := Lib.hid hs
  cases d
  · have e : r = 0 := hr2.symm
    subst e
    clear hs hr hr2 hd
    go_enter Try.func68, Try.ntmps68
    go_wp2_with fail
    refine (HS.out _).mono ?_; rintro e w1 ⟨rfl, hb1⟩
    go_wp2
    go_ret
    exact ⟨rfl, bnext (alloc_below _ _) hb1⟩
  · have e : x * y = r := hr2
    have hok := of_decide_eq_true hd
    have hxy0 : 0 ≤ x * y := Int.mul_nonneg (by omega) (by omega)
    have hxy1 : x * y ≤ 86400 * 400 := Int.mul_le_mul (by omega) (by omega) (by omega) (by omega)
    rw [e] at hxy0 hxy1
    clear hs hr hr2 hd hok
    go_enter Try.func68, Try.ntmps68
    go_wp2_with fail
    refine (HS.out _).mono ?_; rintro e w1 ⟨rfl, hb1⟩
    have hlt1 := hb1.size
    obtain ⟨kc, kf⟩ : (∀ o, w1.cell? ⟨w.heap.size, o, none⟩ = (w.alloc (.cells #[.int .i64 x, .int .i64 y] 43)).cell? ⟨w.heap.size, o, none⟩) ∧ True := ⟨fun o => hb1.cell (by simp), trivial⟩
    have c0 : w1.cell? ⟨w.heap.size, 0, none⟩ = some (.int .i64 x) := by rw [kc]; simp [go_sem]
    have c1 : w1.cell? ⟨w.heap.size, 1, none⟩ = some (.int .i64 y) := by rw [kc]; simp [go_sem]
    have HB := Lib.hid (bnext (alloc_below w (.cells #[.int .i64 x, .int .i64 y] 43)) hb1)
    clear hb1 kc
    go_wp2
    go_ret
    exact ⟨rfl, HB.out⟩
theorem tog_len {l : List (Int × Int)} (h : ¬ (1 ≤ l.length ∧ l.length ≤ 4)) : tog l = false := by
  unfold tog; rw [decide_eq_false h]; rfl
theorem tog_single {l : List (Int × Int)} {k : Nat} {g : Int × Int} (hk : l[k]? = some g) (h : rgOk g = false) : tog l = false := by
  cases ht : tog l with
  | false => rfl
  | true => have := ((tog_iff l).1 ht).2.1 k g hk; rw [h] at this; cases this
theorem tog_pair {l : List (Int × Int)} {k : Nat} {a b : Int × Int} (ha : l[k]? = some a) (hb : l[k + 1]? = some b) (h : rgFits a b = false) : tog l = false := by
  cases ht : tog l with
  | false => rfl
  | true => have := ((tog_iff l).1 ht).2.2 k a b ha hb; rw [h] at this; cases this
theorem two_cells (w : World) (a0 a1 b0 b1 : Value) (t : TypeId) :
    (((w.alloc (.cells #[a0, a1] t)).alloc (.cells #[b0, b1] t)).drew.cell? ⟨w.heap.size, 0, none⟩ = some a0 ∧ ((w.alloc (.cells #[a0, a1] t)).alloc (.cells #[b0, b1] t)).drew.cell? ⟨w.heap.size, 1, none⟩ = some a1) ∧
    (((w.alloc (.cells #[a0, a1] t)).alloc (.cells #[b0, b1] t)).drew.cell? ⟨w.heap.size + 1, 0, none⟩ = some b0 ∧ ((w.alloc (.cells #[a0, a1] t)).alloc (.cells #[b0, b1] t)).drew.cell? ⟨w.heap.size + 1, 1, none⟩ = some b1) ∧
    Below w.heap.size w ((w.alloc (.cells #[a0, a1] t)).alloc (.cells #[b0, b1] t)).drew := by
  have h1 : ((w.alloc (.cells #[a0, a1] t)).alloc (.cells #[b0, b1] t)).heap[w.heap.size]? = some (.cells #[a0, a1] t) := (Below.heap_alloc _ _ _ (by simp)).trans (heap_alloc_new w _)
  have h2 : ((w.alloc (.cells #[a0, a1] t)).alloc (.cells #[b0, b1] t)).heap[w.heap.size + 1]? = some (.cells #[b0, b1] t) := by
    have := heap_alloc_new (w.alloc (.cells #[a0, a1] t)) (.cells #[b0, b1] t)
    rwa [World.size_alloc] at this
  refine ⟨⟨?_, ?_⟩, ⟨?_, ?_⟩, Below.drew (bnext (alloc_below _ _) (alloc_below _ _))⟩
  · exact cell_of_row _ _ 0 _ _ (0, 0) h1
  · exact cell_of_row _ _ 1 _ _ (0, 0) h1
  · exact cell_of_row _ _ 0 _ _ (0, 0) h2
  · exact cell_of_row _ _ 1 _ _ (0, 0) h2
set_option maxRecDepth 100000 in
set_option maxHeartbeats 4000000 in
theorem together_c (v : Value) (l : List (Int × Int)) (hl : l.length ≤ 100000) (w : World) (f : RgOut w v l) :
    Calls Try.prog 46 #[v] w fun e w' => e = .returned (.bool (tog l)) ∧ Below w.heap.size w w' := by
  obtain ⟨A, c, rfl, hc, hx⟩ := f
  obtain ⟨n, hn⟩ : ∃ n, l.length = n := ⟨_, rfl⟩
  rw [hn] at hl hc ⊢
  obtain ⟨d, hd⟩ : ∃ d, tog l = d := ⟨_, rfl⟩
  rw [hd]
  have HX := Lib.hid hx; have HN := Lib.hid hn; have HD := Lib.hid hd
  clear hx hn hd
  by_cases hlen : 1 ≤ n ∧ n ≤ 4
  · obtain ⟨l1, l4⟩ := hlen
    have l1i : (1 : Int) ≤ (n : Int) := by omega
    have l4i : (n : Int) ≤ 4 := by omega
    go_enter Try.func46, Try.ntmps46
    go_wp2
    go_loopw [3] (fun i wr => ∃ k : Nat, k ≤ n ∧ i = .int .i64 k ∧ Hid ((∀ (j : Nat) (g : Int × Int), j < k → l[j]? = some g → rgOk g = true) ∧ Below w.heap.size w wr)) (fun i _ => n - (intOf i).toNat)
    case atStart => exact ⟨0, Nat.zero_le _, rfl, fun j g h => absurd h (Nat.not_lt_zero j), Below.refl _ _⟩
    case round =>
      obtain ⟨k, hk, rfl, HI⟩ := hrel
      by_cases hlt : k < n
      · have hkl : k < l.length := by rw [HN.out]; exact hlt
        obtain ⟨b, off, rfl, ha⟩ := HX.out (by intro e; rw [e] at hkl; exact absurd hkl (Nat.not_lt_zero _))
        have hp0 := List.getElem?_eq_getElem hkl
        obtain ⟨c0, c1⟩ := (ha.below HI.out.2) k _ hp0
        have hs := single_c l[k].1 l[k].2 wr
        obtain ⟨⟨x, y⟩, hp⟩ : ∃ p, l[k] = p := ⟨_, rfl⟩
        rw [hp] at hp0 c0 c1 hs
        have HP := Lib.hid hp0; have HS := Lib.hid hs
        clear hs hp0 hp ha hkl
        cases ho : rgOk (x, y)
        · obtain rfl : d = false := by rw [← HD.out]; exact tog_single HP.out ho
          rw [ho] at HS
          go_wp2_with fail
          refine HS.out.mono ?_; rintro e w1 ⟨rfl, hb1⟩
          go_wp2
          go_ret
          exact ⟨rfl, bnext HI.out.2 hb1⟩
        · rw [ho] at HS
          have HO := Lib.hid ho
          clear ho
          go_wp2_with fail
          refine HS.out.mono ?_; rintro e w1 ⟨rfl, hb1⟩
          have HB := Lib.hid (bnext HI.out.2 hb1)
          clear hb1
          go_wp2
          go_roundw
          case rel =>
            refine ⟨k + 1, by omega, by go_num, fun j g h1 h2 => ?_, HB.out⟩
            rcases Nat.lt_or_ge j k with h | h
            · exact HI.out.1 j g h h2
            · obtain rfl : j = k := by omega
              rw [HP.out] at h2
              obtain rfl := Option.some.inj h2
              exact HO.out
          case measure => simp [intOf]; omega
      · obtain rfl : k = n := by omega
        have OKS := Lib.hid (show ∀ (j : Nat) (g : Int × Int), l[j]? = some g → rgOk g = true from fun j g h => HI.out.1 j g (by rw [← HN.out]; exact (List.getElem?_eq_some_iff.1 h).1) h)
        have BEL := Lib.hid HI.out.2
        clear HI hlt
        go_wp2
        go_loopw [4] (fun i w2 => ∃ q : Nat, 1 ≤ q ∧ q ≤ k ∧ i = .int .i64 q ∧ Hid ((∀ (j : Nat) (a b : Int × Int), j + 1 < q → l[j]? = some a → l[j + 1]? = some b → rgFits a b = true) ∧ Below w.heap.size w w2)) (fun i _ => k - (intOf i).toNat)
        case atStart => exact ⟨1, Nat.le_refl _, l1, rfl, fun j a b h => absurd h (by omega), BEL.out⟩
        case round =>
          obtain ⟨q, hq1, hqk, rfl, HI⟩ := hrel
          by_cases hlt : q < k
          · have hkl : q < l.length := by rw [HN.out]; exact hlt
            have hkl1 : q - 1 < l.length := by omega
            obtain ⟨b, off, rfl, ha⟩ := HX.out (by intro e; rw [e] at hkl; exact absurd hkl (Nat.not_lt_zero _))
            have hp0 := List.getElem?_eq_getElem hkl
            have hp1 := List.getElem?_eq_getElem hkl1
            obtain ⟨⟨x, y⟩, hp⟩ : ∃ p, l[q] = p := ⟨_, rfl⟩
            obtain ⟨⟨x1, y1⟩, hpp⟩ : ∃ p, l[q - 1] = p := ⟨_, rfl⟩
            rw [hp] at hp0
            rw [hpp] at hp1
            obtain ⟨c0, c1⟩ := (ha.below HI.out.2) q _ hp0
            obtain ⟨e0, e1⟩ := (ha.below HI.out.2) (q - 1) _ hp1
            have hok0 := OKS.out q _ hp0
            have hok1 := OKS.out (q - 1) _ hp1
            have hno : rgFits (x1, y1) (x, y) = false → d = false := fun h => by
              rw [← HD.out]
              exact tog_pair hp1 (by rw [show q - 1 + 1 = q from by omega]; exact hp0) h
            have hyes : rgFits (x1, y1) (x, y) = true → ∀ (j : Nat) (a b : Int × Int), j + 1 < q + 1 → l[j]? = some a → l[j + 1]? = some b → rgFits a b = true := fun h j a b h1 h2 h3 => by
              rcases Nat.lt_or_ge (j + 1) q with h4 | h4
              · exact HI.out.1 j a b h4 h2 h3
              · obtain rfl : j = q - 1 := by omega
                rw [hp1] at h2
                obtain rfl := Option.some.inj h2
                rw [show q - 1 + 1 = q from by omega, hp0] at h3
                obtain rfl := Option.some.inj h3
                exact h
            have hr0 : rgReach (x, y) = x * y := if_pos hok0
            have hr1 : rgReach (x1, y1) = x1 * y1 := if_pos hok1
            have SM0 := fun (X : World) => reach_c x y X
            have SM1 := fun (X : World) => reach_c x1 y1 X
            rw [hr0] at SM0
            rw [hr1] at SM1
            have ok0 := of_decide_eq_true hok0
            have ok1 := of_decide_eq_true hok1
            simp only at ok0 ok1
            have hqi : (q : Int) - 1 = ((q - 1 : Nat) : Int) := by omega
            have hql : q - 1 < k := by omega
            have NO := Lib.hid hno; have YES := Lib.hid hyes
            obtain ⟨P0, hP0⟩ : ∃ P, x * y = P := ⟨_, rfl⟩
            obtain ⟨P1, hP1⟩ : ∃ P, x1 * y1 = P := ⟨_, rfl⟩
            have hfit : rgFits (x1, y1) (x, y) = decide (x1 < x ∧ x % x1 = 0 ∧ P1 < P0 ∧ x / x1 ≤ y1) := by rw [← hP0, ← hP1]; rfl
            rw [hP0] at SM0
            rw [hP1] at SM1
            rw [hfit] at NO YES
            have S0 := Lib.hid SM0; have S1 := Lib.hid SM1
            have x1p : 0 < x1 := by omega
            have hbl : b < wr.heap.size := World.block_lt_of_cell? wr _ c0
            have hqw : IntKind.i64.wrap ((q - 1 : Nat) : Int) = ((q - 1 : Nat) : Int) := by rw [IntKind.wrap_i64]; omega
            have x0p : 0 < x := by omega
            generalize q - 1 = q1 at *
            clear hno hyes hr0 hr1 SM0 SM1 hok0 hok1 hp0 hp1 ha hkl hkl1 hp hpp hfit hP0 hP1
            go_wp2_with fail
            go_cut [5, 6] from 33 to 41 (fun t5 t6 wx => ∃ B5 B6 : Nat, t5 = .pointer (some ⟨B5, 0, none⟩) ∧ t6 = .pointer (some ⟨B6, 0, none⟩) ∧ (wx.cell? ⟨B5, 0, none⟩ = some (.int .i64 x1) ∧ wx.cell? ⟨B5, 1, none⟩ = some (.int .i64 y1) ∧ wx.cell? ⟨B6, 0, none⟩ = some (.int .i64 x) ∧ wx.cell? ⟨B6, 1, none⟩ = some (.int .i64 y)) ∧ Hid (Below wr.heap.size wr wx))
            case first =>
              go_region_held3 (fun Y => Y.cell? ⟨b, off + q * 2, none⟩ = some (.int .i64 x) ∧ Y.cell? ⟨b, off + q * 2 + 1, none⟩ = some (.int .i64 y) ∧ Y.cell? ⟨b, off + q1 * 2, none⟩ = some (.int .i64 x1) ∧ Y.cell? ⟨b, off + q1 * 2 + 1, none⟩ = some (.int .i64 y1))
                (first | go_keep)
                (fail)
              all_goals (go_wp2_with fail)
              all_goals go_meet
              case rel => 
                obtain ⟨⟨k0, k1⟩, ⟨k2, k3⟩, kb⟩ := two_cells wr (.int .i64 x1) (.int .i64 y1) (.int .i64 x) (.int .i64 y) 43
                exact ⟨_, _, rfl, rfl, ⟨k0, k1, k2, k3⟩, Lib.hid kb⟩
              case rel =>
                obtain ⟨⟨k0, k1⟩, ⟨k2, k3⟩, kb⟩ := two_cells wr (.int .i64 x) (.int .i64 y) (.int .i64 x1) (.int .i64 y1) 43
                exact ⟨_, _, rfl, rfl, ⟨k2, k3, k0, k1⟩, Lib.hid kb⟩
            case rest =>
              obtain ⟨B5, B6, rfl, rfl, ⟨k0, k1, k2, k3⟩, HB⟩ := hcut
              have Y0 : ∀ z : Laid wc, z.W.cell? ⟨B5, 0, none⟩ = some (.int .i64 x1) := fun z => cellb z.h k0
              have Y1 : ∀ z : Laid wc, z.W.cell? ⟨B5, 1, none⟩ = some (.int .i64 y1) := fun z => cellb z.h k1
              have Y2 : ∀ z : Laid wc, z.W.cell? ⟨B6, 0, none⟩ = some (.int .i64 x) := fun z => cellb z.h k2
              have Y3 : ∀ z : Laid wc, z.W.cell? ⟨B6, 1, none⟩ = some (.int .i64 y) := fun z => cellb z.h k3
              by_cases h1 : x ≤ x1
              · have d1 : decide (x ≤ x1) = true := decide_eq_true h1
                obtain rfl : d = false := NO.out (decide_eq_false (fun h => by omega))
                clear NO YES
                go_wp2_with fail
                refine wp_region_laid (by kernel_rfl) (by kernel_rfl) ?_
                repeat (go_big_quiet_step (first | (go_at_call_of 68 (x); with_reducible exact Calls.laid (S0.out _)) | (go_at_call_of 68 (x1); with_reducible exact Calls.laid (S1.out _))))
                refine wpQuiet_nil ?_
                intro _ hw'
                obtain ⟨pq, hw''⟩ := hw'
                subst hw''
                go_wp2
                go_ret
                exact ⟨rfl, bnext HI.out.2 (bnext HB.out pq.h)⟩
              · have d1 : decide (x ≤ x1) = false := decide_eq_false h1
                by_cases h2 : x % x1 = 0
                · have h2b : (x % x1 == 0) = true := by rw [h2]; rfl
                  by_cases h3 : P0 ≤ P1
                  · have d3 : decide (P0 ≤ P1) = true := decide_eq_true h3
                    obtain rfl : d = false := NO.out (decide_eq_false (fun h => by omega))
                    clear NO YES
                    go_wp2_with fail
                    refine wp_region_laid (by kernel_rfl) (by kernel_rfl) ?_
                    repeat (go_big_quiet_step (first | (go_at_call_of 68 (x); with_reducible exact Calls.laid (S0.out _)) | (go_at_call_of 68 (x1); with_reducible exact Calls.laid (S1.out _))))
                    refine wpQuiet_nil ?_
                    intro _ hw'
                    obtain ⟨pq, hw''⟩ := hw'
                    subst hw''
                    go_wp2
                    go_ret
                    exact ⟨rfl, bnext HI.out.2 (bnext HB.out pq.h)⟩
                  · have d3 : decide (P0 ≤ P1) = false := decide_eq_false h3
                    by_cases h4 : y1 < x / x1
                    · have d4 : decide (y1 < x / x1) = true := decide_eq_true h4
                      obtain rfl : d = false := NO.out (decide_eq_false (fun h => by omega))
                      clear NO YES
                      go_wp2_with fail
                      refine wp_region_laid (by kernel_rfl) (by kernel_rfl) ?_
                      repeat (go_big_quiet_step (first | (go_at_call_of 68 (x); with_reducible exact Calls.laid (S0.out _)) | (go_at_call_of 68 (x1); with_reducible exact Calls.laid (S1.out _))))
                      refine wpQuiet_nil ?_
                      intro _ hw'
                      obtain ⟨pq, hw''⟩ := hw'
                      subst hw''
                      go_wp2
                      go_ret
                      exact ⟨rfl, bnext HI.out.2 (bnext HB.out pq.h)⟩
                    · have d4 : decide (y1 < x / x1) = false := decide_eq_false h4
                      have GO := Lib.hid (YES.out (decide_eq_true ⟨by omega, h2, by omega, by omega⟩))
                      clear NO YES
                      go_wp2_with fail
                      refine wp_region_laid (by kernel_rfl) (by kernel_rfl) ?_
                      repeat (go_big_quiet_step (first | (go_at_call_of 68 (x); with_reducible exact Calls.laid (S0.out _)) | (go_at_call_of 68 (x1); with_reducible exact Calls.laid (S1.out _))))
                      refine wpQuiet_nil ?_
                      intro _ hw'
                      obtain ⟨pq, hw''⟩ := hw'
                      subst hw''
                      go_wp2
                      go_roundw
                      case rel => exact ⟨q + 1, by omega, by omega, by go_num, GO.out, bnext HI.out.2 (bnext HB.out pq.h)⟩
                      case measure => simp [intOf]; omega
                · have h2b : (x % x1 == 0) = false := beq_false_of_ne h2
                  have h2c : (x % x1 != 0) = true := by rw [bne, h2b]; rfl
                  obtain rfl : d = false := NO.out (decide_eq_false (fun h => by exact h2 h.2.1))
                  clear NO YES
                  go_wp2_with fail
                  refine wp_region_laid (by kernel_rfl) (by kernel_rfl) ?_
                  repeat (go_big_quiet_step (first | (go_at_call_of 68 (x); with_reducible exact Calls.laid (S0.out _)) | (go_at_call_of 68 (x1); with_reducible exact Calls.laid (S1.out _))))
                  refine wpQuiet_nil ?_
                  intro _ hw'
                  obtain ⟨pq, hw''⟩ := hw'
                  subst hw''
                  go_wp2
                  go_ret
                  exact ⟨rfl, bnext HI.out.2 (bnext HB.out pq.h)⟩
          · obtain rfl : q = k := by omega
            obtain rfl : d = true := by
              rw [← HD.out]
              refine (tog_iff l).2 ⟨by rw [HN.out]; exact ⟨l1, l4⟩, OKS.out, fun j a b h1 h2 => HI.out.1 j a b (by rw [← HN.out]; exact (List.getElem?_eq_some_iff.1 h2).1) h1 h2⟩
            go_wp2
            go_ret
            exact ⟨rfl, HI.out.2⟩
  · obtain rfl : d = false := by rw [← HD.out]; exact tog_len (by rw [HN.out]; exact hlen)
    by_cases h0 : n < 1
    · have h0i : (n : Int) < 1 := by omega
      go_enter Try.func46, Try.ntmps46
      go_wp2
      go_ret
      exact ⟨rfl, Below.refl _ _⟩
    · have h0i : (1 : Int) ≤ (n : Int) := by omega
      have h4i : (4 : Int) < (n : Int) := by omega
      go_enter Try.func46, Try.ntmps46
      go_wp2
      go_ret
      exact ⟨rfl, Below.refl _ _⟩
end Go.Proofs.Ytkgajlklhcmmcaa.RR
namespace Go.Proofs.Ytkgajlklhcmmcaa.RP
open Go.RowKit RR
set_option maxRecDepth 100000 in
set_option maxHeartbeats 1000000 in
theorem reach_c (x y : Int) (w : World) : Calls Try.prog 41 #[.agg #[.int .i64 x, .int .i64 y]] w fun e w' => e = .returned (.int .i64 (rgReach (x, y))) ∧ Below w.heap.size w w' := by
  obtain ⟨r, hr⟩ : ∃ r, rgReach (x, y) = r := ⟨_, rfl⟩
  rw [hr]
  have hr2 : (if rgOk (x, y) then x * y else 0) = r := hr
  have HR := Lib.hid hr2
  clear hr hr2
  by_cases h0 : 1 ≤ x
  · by_cases h1 : x ≤ 86400
    · by_cases h2 : 1 ≤ y
      · by_cases h3 : y ≤ 400
        · have e : x * y = r := by have h := HR.out; rw [rgOk_yes h0 h1 h2 h3] at h; exact h
          have hxy0 : 0 ≤ x * y := Int.mul_nonneg (by omega) (by omega)
          have hxy1 : x * y ≤ 86400 * 400 := Int.mul_le_mul (by omega) (by omega) (by omega) (by omega)
          rw [e] at hxy0 hxy1
          clear HR
          go_enter Try.func41, Try.ntmps41
          go_wp2
          go_ret
          exact ⟨rfl, alloc_below _ _⟩
        · obtain rfl : r = 0 := by have h := HR.out; rw [rgOk_no (by omega)] at h; exact h.symm
          clear HR
          go_enter Try.func41, Try.ntmps41
          go_wp2
          go_ret
          exact ⟨rfl, alloc_below _ _⟩
      · obtain rfl : r = 0 := by have h := HR.out; rw [rgOk_no (by omega)] at h; exact h.symm
        clear HR
        go_enter Try.func41, Try.ntmps41
        go_wp2
        go_ret
        exact ⟨rfl, alloc_below _ _⟩
    · obtain rfl : r = 0 := by have h := HR.out; rw [rgOk_no (by omega)] at h; exact h.symm
      clear HR
      go_enter Try.func41, Try.ntmps41
      go_wp2
      go_ret
      exact ⟨rfl, alloc_below _ _⟩
  · obtain rfl : r = 0 := by have h := HR.out; rw [rgOk_no (by omega)] at h; exact h.symm
    clear HR
    go_enter Try.func41, Try.ntmps41
    go_wp2
    go_ret
    exact ⟨rfl, alloc_below _ _⟩
theorem one_cell (w : World) (a0 a1 : Value) (t : TypeId) : (w.alloc (.cells #[a0, a1] t)).cell? ⟨w.heap.size, 0, none⟩ = some a0 ∧ (w.alloc (.cells #[a0, a1] t)).cell? ⟨w.heap.size, 1, none⟩ = some a1 :=
  ⟨cell_of_row _ _ 0 _ _ (0, 0) (heap_alloc_new w _), cell_of_row _ _ 1 _ _ (0, 0) (heap_alloc_new w _)⟩
set_option maxRecDepth 100000 in
set_option maxHeartbeats 2000000 in
theorem follows_c (x y x1 y1 : Int) (h0 : rgOk (x, y) = true) (h1 : rgOk (x1, y1) = true) (w : World) :
    Calls Try.prog 52 #[.agg #[.int .i64 x, .int .i64 y], .agg #[.int .i64 x1, .int .i64 y1]] w fun e w' => e = .returned (.bool (rgFits (x1, y1) (x, y))) ∧ Below w.heap.size w w' := by
  obtain ⟨d, hd⟩ : ∃ d, rgFits (x1, y1) (x, y) = d := ⟨_, rfl⟩
  rw [hd]
  have hr0 : rgReach (x, y) = x * y := if_pos h0
  have hr1 : rgReach (x1, y1) = x1 * y1 := if_pos h1
  have SM0 := fun (X : World) => reach_c x y X
  have SM1 := fun (X : World) => reach_c x1 y1 X
  rw [hr0] at SM0
  rw [hr1] at SM1
  have ok0 := of_decide_eq_true h0
  have ok1 := of_decide_eq_true h1
  simp only at ok0 ok1
  obtain ⟨P0, hP0⟩ : ∃ P, x * y = P := ⟨_, rfl⟩
  obtain ⟨P1, hP1⟩ : ∃ P, x1 * y1 = P := ⟨_, rfl⟩
  have hfit : rgFits (x1, y1) (x, y) = decide (x1 < x ∧ x % x1 = 0 ∧ P1 < P0 ∧ x / x1 ≤ y1) := by rw [← hP0, ← hP1]; rfl
  rw [hP0] at SM0
  rw [hP1] at SM1
  rw [hd] at hfit
  have HF := Lib.hid hfit
  have S0 := Lib.hid SM0; have S1 := Lib.hid SM1
  have x1p : 0 < x1 := by omega
  have x0p : 0 < x := by omega
  obtain ⟨q, hq⟩ : ∃ q, x / x1 = q := ⟨_, rfl⟩
  have hq0 : 0 ≤ q := by rw [← hq]; exact Int.ediv_nonneg (by omega) (by omega)
  have hq1 : q ≤ 86400 := by rw [← hq]; exact Int.le_trans (Int.ediv_le_self _ (by omega)) (by omega)
  rw [hq] at HF
  obtain ⟨⟨k0, k1⟩, ⟨k2, k3⟩, kb⟩ := two_cells w (.int .i64 x) (.int .i64 y) (.int .i64 x1) (.int .i64 y1) 43
  obtain ⟨wc, hwc⟩ : ∃ wc, ((w.alloc (.cells #[.int .i64 x, .int .i64 y] 43)).alloc (.cells #[.int .i64 x1, .int .i64 y1] 43)) = wc := ⟨_, rfl⟩
  have k0 : wc.cell? ⟨w.heap.size, 0, none⟩ = some (.int .i64 x) := by rw [← hwc]; exact k0
  have k1 : wc.cell? ⟨w.heap.size, 1, none⟩ = some (.int .i64 y) := by rw [← hwc]; exact k1
  have k2 : wc.cell? ⟨w.heap.size + 1, 0, none⟩ = some (.int .i64 x1) := by rw [← hwc]; exact k2
  have k3 : wc.cell? ⟨w.heap.size + 1, 1, none⟩ = some (.int .i64 y1) := by rw [← hwc]; exact k3
  have KB := Lib.hid (show Below w.heap.size w wc from by rw [← hwc]; exact bnext (alloc_below _ _) (alloc_below _ _))
  have Y0 : ∀ z : Laid wc, z.W.cell? ⟨w.heap.size, 0, none⟩ = some (.int .i64 x) := fun z => cellb z.h k0
  have Y1 : ∀ z : Laid wc, z.W.cell? ⟨w.heap.size, 1, none⟩ = some (.int .i64 y) := fun z => cellb z.h k1
  have Y2 : ∀ z : Laid wc, z.W.cell? ⟨w.heap.size + 1, 0, none⟩ = some (.int .i64 x1) := fun z => cellb z.h k2
  have Y3 : ∀ z : Laid wc, z.W.cell? ⟨w.heap.size + 1, 1, none⟩ = some (.int .i64 y1) := fun z => cellb z.h k3
  have HWC := Lib.hid hwc
  clear hr0 hr1 SM0 SM1 h0 h1 hfit hd hP0 hP1 kb hwc
  by_cases h1 : x1 < x
  · have d1 : decide (x1 < x) = true := decide_eq_true h1
    by_cases h2 : x % x1 = 0
    · have h2b : (x % x1 == 0) = true := by rw [h2]; rfl
      by_cases h3 : P1 < P0
      · have d3 : decide (P1 < P0) = true := decide_eq_true h3
        by_cases h4 : q ≤ y1
        · have d4 : decide (q ≤ y1) = true := decide_eq_true h4
          obtain rfl : d = true := HF.out.trans (decide_eq_true ⟨h1, h2, h3, h4⟩)
          clear HF
          go_enter Try.func52, Try.ntmps52
          go_wp2_with fail
          rw [HWC.out]
          refine wp_region_laid (by kernel_rfl) (by kernel_rfl) ?_
          repeat (go_big_quiet_step (first | (go_at_call_of 41 (x); with_reducible exact Calls.laid (S0.out _)) | (go_at_call_of 41 (x1); with_reducible exact Calls.laid (S1.out _))))
          refine wpQuiet_nil ?_
          intro _ hw'
          obtain ⟨pq, hw''⟩ := hw'
          subst hw''
          go_wp2
          go_ret
          exact ⟨rfl, bnext KB.out pq.h⟩
        · have d4 : decide (q ≤ y1) = false := decide_eq_false h4
          obtain rfl : d = false := HF.out.trans (decide_eq_false (fun h => by omega))
          clear HF
          go_enter Try.func52, Try.ntmps52
          go_wp2_with fail
          rw [HWC.out]
          refine wp_region_laid (by kernel_rfl) (by kernel_rfl) ?_
          repeat (go_big_quiet_step (first | (go_at_call_of 41 (x); with_reducible exact Calls.laid (S0.out _)) | (go_at_call_of 41 (x1); with_reducible exact Calls.laid (S1.out _))))
          refine wpQuiet_nil ?_
          intro _ hw'
          obtain ⟨pq, hw''⟩ := hw'
          subst hw''
          go_wp2
          go_ret
          exact ⟨rfl, bnext KB.out pq.h⟩
      · have d3 : decide (P1 < P0) = false := decide_eq_false h3
        obtain rfl : d = false := HF.out.trans (decide_eq_false (fun h => by omega))
        clear HF
        go_enter Try.func52, Try.ntmps52
        go_wp2_with fail
        rw [HWC.out]
        refine wp_region_laid (by kernel_rfl) (by kernel_rfl) ?_
        repeat (go_big_quiet_step (first | (go_at_call_of 41 (x); with_reducible exact Calls.laid (S0.out _)) | (go_at_call_of 41 (x1); with_reducible exact Calls.laid (S1.out _))))
        refine wpQuiet_nil ?_
        intro _ hw'
        obtain ⟨pq, hw''⟩ := hw'
        subst hw''
        go_wp2
        go_ret
        exact ⟨rfl, bnext KB.out pq.h⟩
    · have h2b : (x % x1 == 0) = false := beq_false_of_ne h2
      obtain rfl : d = false := HF.out.trans (decide_eq_false (fun h => by exact h2 h.2.1))
      clear HF
      go_enter Try.func52, Try.ntmps52
      go_wp2_with fail
      rw [HWC.out]
      refine wp_region_laid (by kernel_rfl) (by kernel_rfl) ?_
      repeat (go_big_quiet_step (first | (go_at_call_of 41 (x); with_reducible exact Calls.laid (S0.out _)) | (go_at_call_of 41 (x1); with_reducible exact Calls.laid (S1.out _))))
      refine wpQuiet_nil ?_
      intro _ hw'
      obtain ⟨pq, hw''⟩ := hw'
      subst hw''
      go_wp2
      go_ret
      exact ⟨rfl, bnext KB.out pq.h⟩
  · have d1 : decide (x1 < x) = false := decide_eq_false h1
    obtain rfl : d = false := HF.out.trans (decide_eq_false (fun h => by omega))
    clear HF
    go_enter Try.func52, Try.ntmps52
    go_wp2_with fail
    rw [HWC.out]
    refine wp_region_laid (by kernel_rfl) (by kernel_rfl) ?_
    repeat (go_big_quiet_step (first | (go_at_call_of 41 (x); with_reducible exact Calls.laid (S0.out _)) | (go_at_call_of 41 (x1); with_reducible exact Calls.laid (S1.out _))))
    refine wpQuiet_nil ?_
    intro _ hw'
    obtain ⟨pq, hw''⟩ := hw'
    subst hw''
    go_wp2
    go_ret
    exact ⟨rfl, bnext KB.out pq.h⟩
set_option maxRecDepth 100000 in
set_option maxHeartbeats 4000000 in
theorem together_c (v : Value) (l : List (Int × Int)) (hl : l.length ≤ 100000) (w : World) (f : RgOut w v l) :
    Calls Try.prog 28 #[v] w fun e w' => e = .returned (.bool (tog l)) ∧ Below w.heap.size w w' := by
  obtain ⟨A, c, rfl, hc, hx⟩ := f
  obtain ⟨n, hn⟩ : ∃ n, l.length = n := ⟨_, rfl⟩
  rw [hn] at hl hc ⊢
  obtain ⟨d, hd⟩ : ∃ d, tog l = d := ⟨_, rfl⟩
  rw [hd]
  have HX := Lib.hid hx; have HN := Lib.hid hn; have HD := Lib.hid hd
  clear hx hn hd
  go_enter Try.func28, Try.ntmps28
  go_wp2
  go_loopw [7] (fun i wr => ∃ k : Nat, k ≤ n ∧ i = .int .i64 k ∧ Hid ((∀ (j : Nat) (g : Int × Int), j < k → l[j]? = some g → rgOk g = true) ∧ (∀ (j : Nat) (a b : Int × Int), j + 1 < k → l[j]? = some a → l[j + 1]? = some b → rgFits a b = true) ∧ Below w.heap.size w wr)) (fun i _ => n - (intOf i).toNat)
  case atStart => exact ⟨0, Nat.zero_le _, rfl, fun j g h => absurd h (Nat.not_lt_zero j), fun j a b h => absurd h (Nat.not_lt_zero _), Below.refl _ _⟩
  case round =>
    obtain ⟨k, hk, rfl, HI⟩ := hrel
    by_cases hlt : k < n
    · have hkl : k < l.length := by rw [HN.out]; exact hlt
      obtain ⟨b, off, rfl, ha⟩ := HX.out (by intro e; rw [e] at hkl; exact absurd hkl (Nat.not_lt_zero _))
      have hp0 := List.getElem?_eq_getElem hkl
      obtain ⟨⟨x, y⟩, hp⟩ : ∃ p, l[k] = p := ⟨_, rfl⟩
      rw [hp] at hp0
      have haw := ha.below HI.out.2.2
      obtain ⟨c0, c1⟩ := haw k _ hp0
      simp only at c0 c1
      have SM0 := fun (X : World) => reach_c x y X
      obtain ⟨a0, a1⟩ := one_cell wr (.int .i64 x) (.int .i64 y) 43
      obtain ⟨wc, hwc⟩ : ∃ wc, (wr.alloc (.cells #[.int .i64 x, .int .i64 y] 43)) = wc := ⟨_, rfl⟩
      rw [hwc] at a0 a1
      have hbc : Below wr.heap.size wr wc := by rw [← hwc]; exact alloc_below _ _
      have KB := Lib.hid (bnext HI.out.2.2 hbc)
      have Y0 : ∀ z : Laid wc, z.W.cell? ⟨wr.heap.size, 0, none⟩ = some (.int .i64 x) := fun z => cellb z.h a0
      have Y1 : ∀ z : Laid wc, z.W.cell? ⟨wr.heap.size, 1, none⟩ = some (.int .i64 y) := fun z => cellb z.h a1
      have HWC := Lib.hid hwc; have HP := Lib.hid hp0; have S0 := Lib.hid SM0
      have STOP := Lib.hid (show rgOk (x, y) = false → d = false from fun h => by rw [← HD.out]; exact tog_single HP.out h)
      by_cases ho : rgOk (x, y) = true
      · have hr0 : rgReach (x, y) = x * y := if_pos ho
        obtain ⟨P0, hP0⟩ : ∃ P, x * y = P := ⟨_, rfl⟩
        have ok0 := of_decide_eq_true ho
        simp only at ok0
        have hP1 : P0 ≠ 0 := by
          rw [← hP0]
          have := Int.mul_pos (show 0 < x by omega) (show 0 < y by omega)
          omega
        have hPb : (P0 == 0) = false := beq_false_of_ne hP1
        rw [hr0, hP0] at S0
        have OK0 := Lib.hid ho
        have NEXT := Lib.hid (show ∀ (j : Nat) (g : Int × Int), j < k + 1 → l[j]? = some g → rgOk g = true from fun j g h1 h2 => by
          rcases Nat.lt_or_ge j k with h | h
          · exact HI.out.1 j g h h2
          · obtain rfl : j = k := by omega
            rw [HP.out] at h2
            obtain rfl := Option.some.inj h2
            exact OK0.out)
        by_cases hk0 : k = 0
        · have PAIR := Lib.hid (show ∀ (j : Nat) (a b : Int × Int), j + 1 < k + 1 → l[j]? = some a → l[j + 1]? = some b → rgFits a b = true from fun j a b h => absurd h (by omega))
          clear SM0 hr0 hP0 hP1 ok0 ho hp0 hp ha haw hwc hbc hkl a0 a1
          subst hk0
          simp only [Nat.zero_mul, Nat.add_zero] at c0 c1
          go_wp2_with fail
          rw [HWC.out]
          refine wp_region_laid (by kernel_rfl) (by kernel_rfl) ?_
          repeat (go_big_quiet_step (first | (go_at_call 41; with_reducible exact Calls.laid (S0.out _))))
          refine wpQuiet_nil ?_
          intro _ hw'
          obtain ⟨pq, hw''⟩ := hw'
          subst hw''
          go_wp2
          go_roundw
          case rel => exact ⟨0 + 1, by omega, by go_num, NEXT.out, PAIR.out, bnext KB.out pq.h⟩
          case measure => simp [intOf]; omega
        · have hkl1 : k - 1 < l.length := by omega
          have hp1 := List.getElem?_eq_getElem hkl1
          obtain ⟨⟨x1, y1⟩, hpp⟩ : ∃ p, l[k - 1] = p := ⟨_, rfl⟩
          rw [hpp] at hp1
          obtain ⟨e0, e1⟩ := haw (k - 1) _ hp1
          simp only at e0 e1
          have ho1 := HI.out.1 (k - 1) _ (by omega) hp1
          have FW := fun (X : World) => follows_c x y x1 y1 ho ho1 X
          obtain ⟨t, ht⟩ : ∃ t, rgFits (x1, y1) (x, y) = t := ⟨_, rfl⟩
          rw [ht] at FW
          have NO := Lib.hid (show t = false → d = false from fun h => by
            rw [← HD.out]
            exact tog_pair hp1 (by rw [show k - 1 + 1 = k from by omega]; exact hp0) (ht.trans h))
          have PAIR := Lib.hid (show t = true → ∀ (j : Nat) (a b : Int × Int), j + 1 < k + 1 → l[j]? = some a → l[j + 1]? = some b → rgFits a b = true from fun h j a b h1 h2 h3 => by
            rcases Nat.lt_or_ge (j + 1) k with h4 | h4
            · exact HI.out.2.1 j a b h4 h2 h3
            · obtain rfl : j = k - 1 := by omega
              rw [hp1] at h2
              obtain rfl := Option.some.inj h2
              rw [show k - 1 + 1 = k from by omega, hp0] at h3
              obtain rfl := Option.some.inj h3
              exact ht.trans h)
          have hbl : b < wr.heap.size := World.block_lt_of_cell? wr _ e0
          have Y2 : ∀ z : Laid wc, z.W.cell? ⟨b, off + (k - 1) * 2, none⟩ = some (.int .i64 x1) := fun z => cellb z.h (cellb hbc e0)
          have Y3 : ∀ z : Laid wc, z.W.cell? ⟨b, off + (k - 1) * 2 + 1, none⟩ = some (.int .i64 y1) := fun z => cellb z.h (cellb hbc e1)
          have hkd : decide ((0 : Int) < (k : Int)) = true := decide_eq_true (by omega)
          have hkn : decide (0 < k) = true := decide_eq_true (by omega)
          have hkp : (0 : Int) < (k : Int) := by omega
          have hqi : (k : Int) - 1 = ((k - 1 : Nat) : Int) := by omega
          have hqw : IntKind.i64.wrap ((k - 1 : Nat) : Int) = ((k - 1 : Nat) : Int) := by rw [IntKind.wrap_i64]; omega
          have hqw2 : IntKind.i64.wrap ((k : Int) - 1) = ((k - 1 : Nat) : Int) := by rw [IntKind.wrap_i64]; omega
          have hql : k - 1 < n := by omega
          have FF := Lib.hid FW
          generalize k - 1 = q1 at *
          clear SM0 hr0 hP0 hP1 ok0 ho ho1 hp0 hp hp1 hpp ha haw hwc hbc hk0 hkl hkl1 a0 a1 e0 e1 FW ht
          cases t
          · obtain rfl : d = false := NO.out rfl
            go_wp2_with fail
            rw [HWC.out]
            refine wp_region_laid (by kernel_rfl) (by kernel_rfl) ?_
            repeat (go_big_quiet_step (first | (go_at_call 41; with_reducible exact Calls.laid (S0.out _)) | (go_at_call 52; with_reducible exact Calls.laid (FF.out _))))
            refine wpQuiet_nil ?_
            intro _ hw'
            obtain ⟨pq, hw''⟩ := hw'
            subst hw''
            go_wp2
            go_ret
            exact ⟨rfl, bnext KB.out pq.h⟩
          · have PR := Lib.hid (PAIR.out rfl)
            clear PAIR NO
            go_wp2_with fail
            rw [HWC.out]
            refine wp_region_laid (by kernel_rfl) (by kernel_rfl) ?_
            repeat (go_big_quiet_step (first | (go_at_call 41; with_reducible exact Calls.laid (S0.out _)) | (go_at_call 52; with_reducible exact Calls.laid (FF.out _))))
            refine wpQuiet_nil ?_
            intro _ hw'
            obtain ⟨pq, hw''⟩ := hw'
            subst hw''
            go_wp2
            go_roundw
            case rel => exact ⟨k + 1, by omega, by go_num, NEXT.out, PR.out, bnext KB.out pq.h⟩
            case measure => simp [intOf]; omega
      · have hof : rgOk (x, y) = false := by simpa using ho
        obtain rfl : d = false := STOP.out hof
        have hr0 : rgReach (x, y) = 0 := if_neg ho
        rw [hr0] at S0
        clear SM0 hr0 ho hof hp0 hp ha haw hwc hbc hkl a0 a1 STOP
        go_wp2_with fail
        rw [HWC.out]
        refine wp_region_laid (by kernel_rfl) (by kernel_rfl) ?_
        repeat (go_big_quiet_step (first | (go_at_call 41; with_reducible exact Calls.laid (S0.out _))))
        refine wpQuiet_nil ?_
        intro _ hw'
        obtain ⟨pq, hw''⟩ := hw'
        subst hw''
        go_wp2
        go_ret
        exact ⟨rfl, bnext KB.out pq.h⟩
    · obtain rfl : k = n := by omega
      have hT : tog l = decide (1 ≤ k ∧ k ≤ 4) := by
        have h := tog_iff l
        rw [HN.out] at h
        have h2 := fun (j : Nat) (g : Int × Int) (hj : l[j]? = some g) => HI.out.1 j g (by rw [← HN.out]; exact (List.getElem?_eq_some_iff.1 hj).1) hj
        have h3 := fun (j : Nat) (a b : Int × Int) (h4 : l[j]? = some a) (h5 : l[j + 1]? = some b) => HI.out.2.1 j a b (by rw [← HN.out]; exact (List.getElem?_eq_some_iff.1 h5).1) h4 h5
        rw [Bool.eq_iff_iff, h, decide_eq_true_eq]
        exact ⟨fun h => h.1, fun h => ⟨h, h2, h3⟩⟩
      have HT := Lib.hid (HD.out.symm.trans hT)
      have BEL := Lib.hid HI.out.2.2
      clear hT HI HD
      by_cases h1 : 1 ≤ k
      · by_cases h4 : k ≤ 4
        · obtain rfl : d = true := HT.out.trans (decide_eq_true ⟨h1, h4⟩)
          have i1 : (1 : Int) ≤ (k : Int) := by omega
          have i4 : (k : Int) ≤ 4 := by omega
          go_wp2
          go_ret
          exact ⟨rfl, BEL.out⟩
        · obtain rfl : d = false := HT.out.trans (decide_eq_false (fun h => h4 h.2))
          have i1 : (1 : Int) ≤ (k : Int) := by omega
          have i4 : ¬ (k : Int) ≤ 4 := by omega
          go_wp2
          go_ret
          exact ⟨rfl, BEL.out⟩
      · obtain rfl : d = false := HT.out.trans (decide_eq_false (fun h => h1 h.1))
        have i1 : ¬ (1 : Int) ≤ (k : Int) := by omega
        go_wp2
        go_ret
        exact ⟨rfl, BEL.out⟩
end Go.Proofs.Ytkgajlklhcmmcaa.RP
