/-
  Contracts of the document's own functions of layer 13 (isobarref13): times; whether a ring is right; the slot of a time.
-/
import Derived.Test.YtkgajlklhcmmcaaRinPB
set_option linter.unusedSimpArgs false
set_option linter.unusedVariables false
namespace Go.Proofs.Ytkgajlklhcmmcaa.IR
open Go.RowKit
theorem timed_c (t : Int) (w : World) : Calls Try.prog 23 #[.int .i64 t] w fun e w' => e = .returned (.bool (rTm t)) ∧ w = w' := by
  by_cases h1 : 0 ≤ t
  · by_cases h2 : t ≤ 1099511627776
    · rw [rTm_iff.2 ⟨h1, h2⟩]
      go_enter Try.func23, Try.ntmps23
      go_wp2
      go_ret
      exact ⟨rfl, rfl⟩
    · rw [show rTm t = false from Bool.eq_false_iff.2 fun h => h2 (rTm_iff.1 h).2]
      go_enter Try.func23, Try.ntmps23
      go_wp2
      go_ret
      exact ⟨rfl, rfl⟩
  · rw [show rTm t = false from Bool.eq_false_iff.2 fun h => h1 (rTm_iff.1 h).1]
    go_enter Try.func23, Try.ntmps23
    go_wp2
    go_ret
    exact ⟨rfl, rfl⟩
theorem nothing_c (w : World) : Calls Try.prog 50 #[] w fun e w' => e = .returned (.agg #[.bool true, .int .i64 0]) ∧ Below w.heap.size w w' := by
  go_enter Try.func50, Try.ntmps50
  go_wp2
  exact bodyPost_ret (v := .agg #[.bool true, .int .i64 0]) (by simp [results, Try.results50, go_sem]) rfl ⟨rfl, (Below.refl _ _).alloc (Nat.le_refl _) _⟩
theorem timed_b (t : Int) (w : World) : Calls Try.prog 23 #[.int .i64 t] w fun e w' => e = .returned (.bool (rTm t)) ∧ Below w.heap.size w w' := (timed_c t w).mono fun _ _ ⟨h1, h2⟩ => ⟨h1, by rw [← h2]; exact Below.refl _ _⟩
set_option maxRecDepth 100000 in
set_option maxHeartbeats 4000000 in
theorem right_c (s : Int) (v : Value) (l : List (Int × Int)) (hl : l.length ≤ 140737488351232) (w : World) (f : RgOut w v l) :
    Calls Try.prog 48 #[.agg #[.int .i64 s, v]] w fun e w' => e = .returned (.bool (rRight s l)) ∧ Below w.heap.size w w' := by
  obtain ⟨A, c, rfl, hc, hx⟩ := f
  obtain ⟨n, hn⟩ : ∃ n, l.length = n := ⟨_, rfl⟩
  obtain ⟨d, hd⟩ : ∃ d, rRight s l = d := ⟨_, rfl⟩
  rw [hd]
  have hiff := @rRight_iff s l
  rw [hn] at hiff hc hl ⊢
  have HX := Lib.hid hx; have HN := Lib.hid hn; have HD := Lib.hid hd; have HI0 := Lib.hid hiff
  obtain ⟨k0, k1, -, -⟩ := two_new w (.int .i64 s) (.slice A n c) 53
  obtain ⟨wp, hwp⟩ : ∃ wp, w.alloc (.cells #[.int .i64 s, .slice A n c] 53) = wp := ⟨_, rfl⟩
  have hbp := alloc_below w (.cells #[.int .i64 s, .slice A n c] 53)
  rw [hwp] at k0 k1 hbp
  have HWP := Lib.hid hwp
  have KP := Lib.hid hbp
  clear hx hn hd hiff hwp hbp
  have NO := Lib.hid (show ¬ (1 ≤ s ∧ s ≤ 86400 ∧ 1 ≤ (n : Int) ∧ (n : Int) ≤ 400) → d = false from fun h => by
    rw [← HD.out]; exact Bool.eq_false_iff.2 fun hr => h (rMay_iff.1 (HI0.out.1 hr).1))
  by_cases h1 : s < 1
  · obtain rfl := NO.out (by omega)
    go_enter Try.func48, Try.ntmps48
    go_wp2_with fail
    rw [HWP.out]
    go_wp2
    go_ret
    exact ⟨rfl, KP.out⟩
  · by_cases h2 : s > 86400
    · obtain rfl := NO.out (by omega)
      go_enter Try.func48, Try.ntmps48
      go_wp2_with fail
      rw [HWP.out]
      go_wp2
      go_ret
      exact ⟨rfl, KP.out⟩
    · by_cases h3 : (n : Int) < 1
      · obtain rfl := NO.out (by omega)
        go_enter Try.func48, Try.ntmps48
        go_wp2_with fail
        rw [HWP.out]
        go_wp2
        go_ret
        exact ⟨rfl, KP.out⟩
      · by_cases h4 : (n : Int) > 400
        · obtain rfl := NO.out (by omega)
          go_enter Try.func48, Try.ntmps48
          go_wp2_with fail
          rw [HWP.out]
          go_wp2
          go_ret
          exact ⟨rfl, KP.out⟩
        · have HM := Lib.hid (show rMay s n = true from rMay_iff.2 (by omega))
          clear NO
          go_enter Try.func48, Try.ntmps48
          go_wp2_with fail
          rw [HWP.out]
          go_wp2
          have K0 := Lib.hid k0; have K1 := Lib.hid k1
          have s0 : 0 < s := by omega
          have n0 : 0 < (n : Int) := by omega
          have hl2 : n ≤ 400 := by omega
          clear k0 k1
          go_loopw [3] (fun i wr => ∃ k : Nat, k ≤ n ∧ i = .int .i64 k ∧ Hid ((∀ (j : Nat) (g : Int × Int), j < k → l[j]? = some g → rOk s n j g = true) ∧ Below wp.heap.size wp wr)) (fun i _ => n - (intOf i).toNat)
          case atStart => exact ⟨0, Nat.zero_le _, rfl, fun j g h => absurd h (Nat.not_lt_zero j), Below.refl _ _⟩
          case round =>
            obtain ⟨k, hk, rfl, HI⟩ := hrel
            have k0 := cellb HI.out.2 K0.out; have k1 := cellb HI.out.2 K1.out
            by_cases hlt : k < n
            · have hkl : k < l.length := by rw [HN.out]; exact hlt
              obtain ⟨b, off, rfl, ha⟩ := HX.out (by intro e; rw [e] at hkl; exact absurd hkl (Nat.not_lt_zero _))
              have hp0 := List.getElem?_eq_getElem hkl
              obtain ⟨⟨x, y⟩, hp⟩ : ∃ p, l[k] = p := ⟨_, rfl⟩
              rw [hp] at hp0
              have KW := bnext KP.out HI.out.2
              obtain ⟨c0, c1⟩ := (ha.below KW) k _ hp0
              simp only at c0 c1
              obtain ⟨a0, a1, -, -⟩ := two_new wr (.int .i64 x) (.int .i64 y) 50
              obtain ⟨wc, hwc⟩ : ∃ wc, (wr.alloc (.cells #[.int .i64 x, .int .i64 y] 50)) = wc := ⟨_, rfl⟩
              have hbc := alloc_below wr (.cells #[.int .i64 x, .int .i64 y] 50)
              rw [hwc] at a0 a1 hbc
              have KB := Lib.hid (bnext HI.out.2 hbc)
              have KBW := Lib.hid (bnext KW hbc)
              have Y0 : ∀ z : Laid wc, z.W.cell? ⟨wr.heap.size, 0, none⟩ = some (.int .i64 x) := fun z => cellb z.h a0
              have Y1 : ∀ z : Laid wc, z.W.cell? ⟨wr.heap.size, 1, none⟩ = some (.int .i64 y) := fun z => cellb z.h a1
              have Y2 : ∀ z : Laid wc, z.W.cell? ⟨w.heap.size, 0, none⟩ = some (.int .i64 s) := fun z => cellb z.h (cellb hbc k0)
              have Y3 : ∀ z : Laid wc, z.W.cell? ⟨w.heap.size, 1, none⟩ = some (.slice (some ⟨b, off, none⟩) n c) := fun z => cellb z.h (cellb hbc k1)
              have HWC := Lib.hid hwc; have HP := Lib.hid hp0
              have NEXT := Lib.hid (show rOk s n k (x, y) = true → ∀ (j : Nat) (g : Int × Int), j < k + 1 → l[j]? = some g → rOk s n j g = true from fun ho j g h1 h2 => by
                rcases Nat.lt_or_ge j k with h | h
                · exact HI.out.1 j g h h2
                · obtain rfl : j = k := by omega
                  rw [HP.out] at h2
                  obtain rfl := Option.some.inj h2
                  exact ho)
              have STOP := Lib.hid (show rOk s n k (x, y) = false → d = false from fun h => by
                rw [← HD.out]; exact Bool.eq_false_iff.2 fun hr => by have := (HI0.out.1 hr).2 k _ HP.out; rw [h] at this; cases this)
              clear hwc hp hp0 hkl ha KW hbc
              by_cases he : x = -1
              · subst he
                clear Y0 Y1 Y2 Y3
                by_cases hy : y = 0
                · subst hy
                  have NX := Lib.hid (NEXT.out rfl)
                  clear NEXT STOP
                  go_wp2_with fail
                  rw [HWC.out]
                  go_wp2
                  go_roundw
                  case rel => exact ⟨k + 1, by omega, by go_num, NX.out, KB.out⟩
                  case measure => simp [intOf]; omega
                · obtain rfl := STOP.out (Bool.eq_false_iff.2 fun h => hy (by have := (rOk_emp h).1 rfl; injection this))
                  clear NEXT STOP
                  go_wp2_with fail
                  rw [HWC.out]
                  go_wp2
                  go_ret
                  exact ⟨rfl, KBW.out⟩
              · have hno : ¬ rFits s n k (x, y) = true → d = false := fun h => STOP.out (Bool.eq_false_iff.2 fun h2 => h (rOk_full h2 he))
                have STOP2 := Lib.hid hno
                clear hno STOP
                obtain ⟨T, hT⟩ : ∃ T, rTm x = T := ⟨_, rfl⟩
                have IT := timed_b x
                rw [hT] at IT
                have IT := Lib.hid IT
                cases T
                · obtain rfl := STOP2.out (fun h => by rw [rTm_iff.2 (rFits_iff.1 h).1] at hT; cases hT)
                  clear hT NEXT STOP2
                  go_wp2_with fail
                  rw [HWC.out]
                  go_wp2_with fail
                  refine wp_region_laid (by kernel_rfl) (by kernel_rfl) ?_
                  repeat (go_big_quiet_step (first | (go_at_call 23; with_reducible exact Calls.laid (IT.out _))))
                  refine wpQuiet_nil ?_
                  intro _ hw'
                  obtain ⟨pq, hw''⟩ := hw'
                  subst hw''
                  go_wp2
                  go_ret
                  exact ⟨rfl, bnext KBW.out pq.h⟩
                · have hx := rTm_iff.1 hT
                  clear hT
                  have x0 := hx.1
                  by_cases hm : x % s = 0
                  · have hmb : (x % s != 0) = false := by rw [hm]; rfl
                    obtain ⟨q, hq⟩ : ∃ q, x / s = q := ⟨_, rfl⟩
                    have q0 : 0 ≤ q := by rw [← hq]; exact Int.ediv_nonneg x0 (by omega)
                    have q1 : q ≤ 1099511627776 := by rw [← hq]; exact Int.le_trans (Int.ediv_le_self _ x0) hx.2
                    obtain ⟨p, hpp⟩ : ∃ p, q % (n : Int) = p := ⟨_, rfl⟩
                    have hqw : RowKit.wrap64 (x.tdiv s) = q := by rw [Int.tdiv_eq_ediv_of_nonneg x0, hq, IntWalk.wrap64_in q (by omega)]
                    have hqm : q.tmod (n : Int) = p := by rw [Int.tmod_eq_emod_of_nonneg q0, hpp]
                    have hpl : rPl s n x = p := by unfold rPl; rw [hq, hpp]
                    by_cases hpk : p = (k : Int)
                    · subst hpk
                      have hkb : ((k : Int) != (k : Int)) = false := by simp
                      have hkb2 : (k != k) = false := by simp
                      by_cases hv : y = -9223372036854775808
                      · obtain rfl := STOP2.out (fun h => (rFits_iff.1 h).2.2.2 hv)
                        subst hv
                        clear NEXT STOP2 hpl hx
                        go_wp2_with fail
                        rw [HWC.out]
                        go_wp2_with fail
                        refine wp_region_laid (by kernel_rfl) (by kernel_rfl) ?_
                        repeat (go_big_quiet_step (first | (go_at_call 23; with_reducible exact Calls.laid (IT.out _))))
                        refine wpQuiet_nil ?_
                        intro _ hw'
                        obtain ⟨pq, hw''⟩ := hw'
                        subst hw''
                        go_wp2
                        go_ret
                        exact ⟨rfl, bnext KBW.out pq.h⟩
                      · have hvb : (y == -9223372036854775808) = false := by simp [hv]
                        have NX := Lib.hid (NEXT.out (by unfold rOk; rw [Bool.or_eq_true]; exact Or.inr (rFits_iff.2 ⟨hx, hm, hpl, hv⟩)))
                        clear NEXT STOP2 hpl hx
                        go_wp2_with fail
                        rw [HWC.out]
                        go_wp2_with fail
                        refine wp_region_laid (by kernel_rfl) (by kernel_rfl) ?_
                        repeat (go_big_quiet_step (first | (go_at_call 23; with_reducible exact Calls.laid (IT.out _))))
                        refine wpQuiet_nil ?_
                        intro _ hw'
                        obtain ⟨pq, hw''⟩ := hw'
                        subst hw''
                        go_wp2
                        go_roundw
                        case rel => exact ⟨k + 1, by omega, by go_num, NX.out, bnext KB.out pq.h⟩
                        case measure => simp [intOf]; omega
                    · have hkb : (p != (k : Int)) = true := by simp [hpk]
                      obtain rfl := STOP2.out (fun h => hpk (hpl.symm.trans (rFits_iff.1 h).2.2.1))
                      clear NEXT STOP2 hpl hx
                      go_wp2_with fail
                      rw [HWC.out]
                      go_wp2_with fail
                      refine wp_region_laid (by kernel_rfl) (by kernel_rfl) ?_
                      repeat (go_big_quiet_step (first | (go_at_call 23; with_reducible exact Calls.laid (IT.out _))))
                      refine wpQuiet_nil ?_
                      intro _ hw'
                      obtain ⟨pq, hw''⟩ := hw'
                      subst hw''
                      go_wp2
                      go_ret
                      exact ⟨rfl, bnext KBW.out pq.h⟩
                  · have hmb : (x % s != 0) = true := by simp [hm]
                    obtain rfl := STOP2.out (fun h => hm (rFits_iff.1 h).2.1)
                    clear NEXT STOP2 hx
                    go_wp2_with fail
                    rw [HWC.out]
                    go_wp2_with fail
                    refine wp_region_laid (by kernel_rfl) (by kernel_rfl) ?_
                    repeat (go_big_quiet_step (first | (go_at_call 23; with_reducible exact Calls.laid (IT.out _))))
                    refine wpQuiet_nil ?_
                    intro _ hw'
                    obtain ⟨pq, hw''⟩ := hw'
                    subst hw''
                    go_wp2
                    go_ret
                    exact ⟨rfl, bnext KBW.out pq.h⟩
            · obtain rfl : k = n := by omega
              obtain rfl : d = true := by
                rw [← HD.out]
                refine HI0.out.2 ⟨HM.out, fun i g hg => HI.out.1 i g ?_ hg⟩
                have := (List.getElem?_eq_some_iff.1 hg).1
                rw [HN.out] at this
                exact this
              go_wp2
              go_ret
              exact ⟨rfl, bnext KP.out HI.out.2⟩
set_option maxRecDepth 100000 in
set_option maxHeartbeats 1000000 in
theorem align_c (s t : Int) (v : Value) (l : List (Int × Int)) (hl : l.length ≤ 140737488351232) (w : World) (f : RgOut w v l) :
    Calls Try.prog 49 #[.agg #[.int .i64 s, v], .int .i64 t] w fun e w' => e = .returned (.tuple #[.int .i64 (if rRight s l = true ∧ rTm t = true then rAt s t else 0), .int .i64 (if rRight s l = true ∧ rTm t = true then 0 else 1)]) ∧ Below w.heap.size w w' := by
  have RC := fun (W : World) (h : Below w.heap.size w W) => right_c s v l hl W (f.below h)
  obtain ⟨A, c, rfl, hc, -⟩ := id f
  obtain ⟨n, hn⟩ : ∃ n, l.length = n := ⟨_, rfl⟩
  have IT := Lib.hid (timed_c t)
  obtain ⟨d, hd⟩ : ∃ d, rRight s l = d := ⟨_, rfl⟩
  have hr := @rRight_iff s l
  rw [hn] at RC hr hc hl ⊢
  rw [hd] at RC hr ⊢
  obtain ⟨k0, k1, -, -⟩ := two_new w (.int .i64 s) (.slice A n c) 53
  obtain ⟨wp, hwp⟩ : ∃ wp, w.alloc (.cells #[.int .i64 s, .slice A n c] 53) = wp := ⟨_, rfl⟩
  have hbp := alloc_below w (.cells #[.int .i64 s, .slice A n c] 53)
  rw [hwp] at k0 k1 hbp
  have HWP := Lib.hid hwp
  have KP := Lib.hid hbp
  have RC := Lib.hid (RC wp hbp)
  clear f hn hd hwp hbp
  cases d
  · rw [if_neg (fun h => by cases h.1), if_neg (fun h => by cases h.1)]
    clear hr
    go_enter Try.func49, Try.ntmps49
    go_wp2_with fail
    rw [HWP.out]
    refine RC.out.mono ?_; rintro _ w1 ⟨rfl, hb1⟩
    have KB := Lib.hid (bnext KP.out hb1)
    go_wp2
    exact bodyPost_ret (v := .tuple #[.int .i64 0, .int .i64 1]) (by simp [results, Try.results49, go_sem]) rfl ⟨rfl, KB.out⟩
  · obtain ⟨m1, m2, m3, m4⟩ := rMay_iff.1 (hr.1 rfl).1
    clear hr
    cases ht : rTm t
    · rw [if_neg (fun h => by cases h.2), if_neg (fun h => by cases h.2)]
      rw [ht] at IT
      clear ht
      go_enter Try.func49, Try.ntmps49
      go_wp2_with fail
      rw [HWP.out]
      refine RC.out.mono ?_; rintro _ w1 ⟨rfl, hb1⟩
      have KB := Lib.hid (bnext KP.out hb1)
      go_wp2_with fail
      refine (IT.out _).mono ?_; rintro _ w2 ⟨rfl, rfl⟩
      go_wp2
      exact bodyPost_ret (v := .tuple #[.int .i64 0, .int .i64 1]) (by simp [results, Try.results49, go_sem]) rfl ⟨rfl, KB.out⟩
    · rw [if_pos ⟨rfl, rfl⟩, if_pos ⟨rfl, rfl⟩]
      have hx := rTm_iff.1 ht
      rw [ht] at IT
      clear ht
      have s0 : 0 < s := by omega
      obtain ⟨t0, t1⟩ := hx
      obtain ⟨r, hr⟩ : ∃ r, t % s = r := ⟨_, rfl⟩
      have r0 : 0 ≤ r := by rw [← hr]; exact Int.emod_nonneg _ (by omega)
      have r1 : r < s := by rw [← hr]; exact Int.emod_lt_of_pos _ (by omega)
      have AT := Lib.hid (show rAt s t = t - r from by unfold rAt; rw [hr])
      have w1 : IntKind.i64.wrap (t - r) = t - r := by rw [IntKind.wrap_i64]; omega
      go_enter Try.func49, Try.ntmps49
      go_wp2_with fail
      rw [HWP.out]
      refine RC.out.mono ?_; rintro _ w1 ⟨rfl, hb1⟩
      have KB := Lib.hid (bnext KP.out hb1)
      have k0 := cellb hb1 k0; have k1 := cellb hb1 k1
      clear hb1
      go_wp2_with fail
      refine (IT.out _).mono ?_; rintro _ w2 ⟨rfl, rfl⟩
      go_wp2
      exact bodyPost_ret (v := .tuple #[.int .i64 (t - r), .int .i64 0]) (by simp [results, Try.results49, go_sem]) rfl ⟨by rw [AT.out], KB.out⟩
end Go.Proofs.Ytkgajlklhcmmcaa.IR
