/-
  Contracts of the program's functions of layer 13: whether a ring is right; the slot of a time.
-/
import Derived.Test.YtkgajlklhcmmcaaRinPB
set_option linter.unusedSimpArgs false
set_option linter.unusedVariables false
namespace Go.Proofs.Ytkgajlklhcmmcaa.IP
open Go.RowKit
set_option maxRecDepth 100000 in
set_option maxHeartbeats 4000000 in
theorem right_c (s : Int) (v : Value) (l : List (Int × Int)) (hl : l.length ≤ 140737488351232) (w : World) (f : RgOut w v l) :
    Calls Try.prog 38 #[.agg #[.int .i64 s, v]] w fun e w' => e = .returned (.bool (rRight s l)) ∧ Below w.heap.size w w' := by
  obtain ⟨A, c, rfl, hc, hx⟩ := f
  obtain ⟨n, hn⟩ : ∃ n, l.length = n := ⟨_, rfl⟩
  have MB := mayBe_c s n
  obtain ⟨d, hd⟩ : ∃ d, rRight s l = d := ⟨_, rfl⟩
  rw [hd]
  have hiff := @rRight_iff s l
  rw [hn] at hiff hc hl ⊢
  have HX := Lib.hid hx; have HN := Lib.hid hn; have HD := Lib.hid hd; have HI0 := Lib.hid hiff; have MB := Lib.hid MB
  obtain ⟨k0, k1, -, -⟩ := two_new w (.int .i64 s) (.slice A n c) 53
  obtain ⟨wp, hwp⟩ : ∃ wp, w.alloc (.cells #[.int .i64 s, .slice A n c] 53) = wp := ⟨_, rfl⟩
  have hbp := alloc_below w (.cells #[.int .i64 s, .slice A n c] 53)
  rw [hwp] at k0 k1 hbp
  have HWP := Lib.hid hwp
  have KP := Lib.hid hbp
  clear hx hn hd hiff hwp hbp
  cases hm : rMay s n
  · obtain rfl : d = false := by
      rw [← HD.out]; exact Bool.eq_false_iff.2 fun h => by have := (HI0.out.1 h).1; rw [hm] at this; cases this
    rw [hm] at MB
    clear hm
    go_enter Try.func38, Try.ntmps38
    go_wp2_with fail
    rw [HWP.out]
    refine (MB.out _).mono ?_; rintro _ w1 ⟨rfl, rfl⟩
    go_wp2
    go_ret
    exact ⟨rfl, KP.out⟩
  · have hm2 := rMay_iff.1 hm
    have SA := Lib.hid (fun i x y => standsAt_c s A n c i x y ⟨hm2.1, hm2.2.1⟩ (by omega))
    have hn400 : n ≤ 400 := by omega
    have HM := Lib.hid hm
    rw [hm] at MB
    clear hm hm2
    go_enter Try.func38, Try.ntmps38
    go_wp2_with fail
    rw [HWP.out]
    refine (MB.out _).mono ?_; rintro _ w1 ⟨rfl, rfl⟩
    go_wp2
    have K0 := Lib.hid k0; have K1 := Lib.hid k1
    clear k0 k1
    go_loopw [15] (fun i wr => ∃ k : Nat, k ≤ n ∧ i = .int .i64 k ∧ Hid ((∀ (j : Nat) (g : Int × Int), j < k → l[j]? = some g → rOk s n j g = true) ∧ Below wp.heap.size wp wr)) (fun i _ => n - (intOf i).toNat)
    case atStart => exact ⟨0, Nat.zero_le _, rfl, fun j g h => absurd h (Nat.not_lt_zero j), Below.refl _ _⟩
    case round =>
      obtain ⟨k, hk, rfl, HI⟩ := hrel
      by_cases hlt : k < n
      · have hkl : k < l.length := by rw [HN.out]; exact hlt
        obtain ⟨b, off, rfl, ha⟩ := HX.out (by intro e; rw [e] at hkl; exact absurd hkl (Nat.not_lt_zero _))
        have hp0 := List.getElem?_eq_getElem hkl
        obtain ⟨⟨x, y⟩, hp⟩ : ∃ p, l[k] = p := ⟨_, rfl⟩
        rw [hp] at hp0
        have KW := bnext KP.out HI.out.2
        obtain ⟨c0, c1⟩ := (ha.below KW) k _ hp0
        simp only at c0 c1
        have k0 := cellb HI.out.2 K0.out; have k1 := cellb HI.out.2 K1.out
        obtain ⟨a0, a1, -, -⟩ := two_new wr (.int .i64 x) (.int .i64 y) 50
        obtain ⟨wc, hwc⟩ : ∃ wc, (wr.alloc (.cells #[.int .i64 x, .int .i64 y] 50)) = wc := ⟨_, rfl⟩
        have hbc := alloc_below wr (.cells #[.int .i64 x, .int .i64 y] 50)
        rw [hwc] at a0 a1 hbc
        have KB := Lib.hid (bnext HI.out.2 hbc)
        have KBW := Lib.hid (bnext KW hbc)
        have Y0 : ∀ z : Laid wc, z.W.cell? ⟨wr.heap.size, 0, none⟩ = some (.int .i64 x) := fun z => cellb z.h a0
        have Y1 : ∀ z : Laid wc, z.W.cell? ⟨wr.heap.size, 1, none⟩ = some (.int .i64 y) := fun z => cellb z.h a1
        have Y2 : ∀ z : Laid wc, z.W.cell? ⟨w.heap.size, 0, none⟩ = some (.int .i64 s) := fun z => cellb z.h (cellb hbc k0)
        have Y3 : ∀ z : Laid wc, z.W.cell? ⟨w.heap.size, 1, none⟩ = some (.slice (some ⟨b, off, none⟩) n c) := fun z => cellb z.h (cellb hbc k1)
        have HWC := Lib.hid hwc; have HP := Lib.hid hp0
        have SA1 := SA.out k x y
        have EM := Lib.hid empty_c
        have hok : rOk s n k (x, y) = (rEmp (x, y) || rFits s n k (x, y)) := rfl
        obtain ⟨t, ht⟩ : ∃ t, rFits s n k (x, y) = t := ⟨_, rfl⟩
        rw [ht] at hok SA1
        have SA2 := Lib.hid SA1
        have NEXT := Lib.hid (show rOk s n k (x, y) = true → ∀ (j : Nat) (g : Int × Int), j < k + 1 → l[j]? = some g → rOk s n j g = true from fun ho j g h1 h2 => by
          rcases Nat.lt_or_ge j k with h | h
          · exact HI.out.1 j g h h2
          · obtain rfl : j = k := by omega
            rw [HP.out] at h2
            obtain rfl := Option.some.inj h2
            exact ho)
        have STOP := Lib.hid (show rOk s n k (x, y) = false → d = false from fun h => by
          rw [← HD.out]; exact Bool.eq_false_iff.2 fun hr => by have := (HI0.out.1 hr).2 k _ HP.out; rw [h] at this; cases this)
        clear ht hwc hp hp0 hkl SA1 SA ha KW hbc a0 a1
        by_cases he : x = -1 ∧ y = 0
        · obtain ⟨rfl, rfl⟩ := he
          have NX := Lib.hid (NEXT.out (by rw [hok]; rfl))
          clear NEXT STOP hok
          go_wp2_with fail
          rw [HWC.out]
          refine wp_region_laid (by kernel_rfl) (by kernel_rfl) ?_
          repeat (go_big_quiet_step (first | (go_at_call 55; with_reducible exact Calls.laid (EM.out _))))
          refine wpQuiet_nil ?_
          intro _ hw'
          obtain ⟨pq, hw''⟩ := hw'
          subst hw''
          go_wp2
          go_roundw
          case rel => exact ⟨k + 1, by omega, by go_num, NX.out, bnext KB.out pq.h⟩
          case measure => simp [intOf]; omega
        · have hb : (decide (x = -1) && decide (y = 0)) = false := by
            rw [Bool.eq_false_iff]; intro h; rw [Bool.and_eq_true, decide_eq_true_iff, decide_eq_true_iff] at h; exact he h
          have hno : rEmp (x, y) = false := Bool.eq_false_iff.2 fun h => he (by have := rEmp_iff.1 h; injection this with h1 h2; exact ⟨h1, h2⟩)
          rw [hno, Bool.false_or] at hok
          have hne : (x == -1 && y == 0) = false := by
            rw [Bool.eq_false_iff]; intro h; rw [Bool.and_eq_true, beq_iff_eq, beq_iff_eq] at h; exact he h
          have NX := Lib.hid (fun ht => NEXT.out (by rw [hok]; exact ht))
          have ST := Lib.hid (fun ht => STOP.out (by rw [hok]; exact ht))
          clear NEXT STOP hok he hno
          have two : ¬ x = -1 ∨ (x = -1 ∧ ¬ y = 0) := by
            by_cases h : x = -1
            · refine Or.inr ⟨h, fun h2 => ?_⟩; rw [h, h2] at hne; exact absurd hne (by decide)
            · exact Or.inl h
          clear hb hne
          cases t
          · obtain rfl := ST.out rfl
            clear NX
            rcases two with h1 | ⟨rfl, h1⟩
            all_goals
              go_wp2_with fail
              rw [HWC.out]
              refine wp_region_laid (by kernel_rfl) (by kernel_rfl) ?_
              repeat (go_big_quiet_step (first | (go_at_call 55; with_reducible exact Calls.laid (EM.out _)) | (go_at_call 63; with_reducible exact Calls.laid (SA2.out _))))
              refine wpQuiet_nil ?_
              intro _ hw'
              obtain ⟨pq, hw''⟩ := hw'
              subst hw''
              go_wp2
              go_ret
              exact ⟨rfl, bnext KBW.out pq.h⟩
          · have NX2 := Lib.hid (NX.out rfl)
            clear NX
            rcases two with h1 | ⟨rfl, h1⟩
            all_goals
              go_wp2_with fail
              rw [HWC.out]
              refine wp_region_laid (by kernel_rfl) (by kernel_rfl) ?_
              repeat (go_big_quiet_step (first | (go_at_call 55; with_reducible exact Calls.laid (EM.out _)) | (go_at_call 63; with_reducible exact Calls.laid (SA2.out _))))
              refine wpQuiet_nil ?_
              intro _ hw'
              obtain ⟨pq, hw''⟩ := hw'
              subst hw''
              go_wp2
              go_roundw
              case rel => exact ⟨k + 1, by omega, by go_num, NX2.out, bnext KB.out pq.h⟩
              case measure => simp [intOf]; omega
      · obtain rfl : k = n := by omega
        obtain rfl : d = true := by
          rw [← HD.out]
          refine HI0.out.2 ⟨HM.out, fun i g hg => HI.out.1 i g ?_ hg⟩
          have := (List.getElem?_eq_some_iff.1 hg).1
          rw [HN.out] at this
          exact this
        go_wp2
        go_ret
        exact ⟨rfl, bnext KP.out HI.out.2⟩
set_option maxRecDepth 100000 in
set_option maxHeartbeats 1000000 in
theorem align_c (s t : Int) (v : Value) (l : List (Int × Int)) (hl : l.length ≤ 140737488351232) (w : World) (f : RgOut w v l) :
    Calls Try.prog 59 #[.agg #[.int .i64 s, v], .int .i64 t] w fun e w' => e = .returned (.tuple #[.int .i64 (if rRight s l = true ∧ rTm t = true then rAt s t else 0), .int .i64 (if rRight s l = true ∧ rTm t = true then 0 else 1)]) ∧ Below w.heap.size w w' := by
  have RC := fun (W : World) (h : Below w.heap.size w W) => right_c s v l hl W (f.below h)
  obtain ⟨A, c, rfl, hc, -⟩ := id f
  obtain ⟨n, hn⟩ : ∃ n, l.length = n := ⟨_, rfl⟩
  have IT := Lib.hid (isTime_c t)
  obtain ⟨d, hd⟩ : ∃ d, rRight s l = d := ⟨_, rfl⟩
  have hr := @rRight_iff s l
  rw [hn] at RC hr hc hl ⊢
  rw [hd] at RC hr ⊢
  obtain ⟨k0, k1, -, -⟩ := two_new w (.int .i64 s) (.slice A n c) 53
  obtain ⟨wp, hwp⟩ : ∃ wp, w.alloc (.cells #[.int .i64 s, .slice A n c] 53) = wp := ⟨_, rfl⟩
  have hbp := alloc_below w (.cells #[.int .i64 s, .slice A n c] 53)
  rw [hwp] at k0 k1 hbp
  have HWP := Lib.hid hwp
  have KP := Lib.hid hbp
  have RC := Lib.hid (RC wp hbp)
  clear f hn hd hwp hbp
  cases d
  · rw [if_neg (fun h => by cases h.1), if_neg (fun h => by cases h.1)]
    clear hr
    go_enter Try.func59, Try.ntmps59
    go_wp2_with fail
    rw [HWP.out]
    refine RC.out.mono ?_; rintro _ w1 ⟨rfl, hb1⟩
    have KB := Lib.hid (bnext KP.out hb1)
    go_wp2
    exact bodyPost_ret (v := .tuple #[.int .i64 0, .int .i64 1]) (by simp [results, Try.results59, go_sem]) rfl ⟨rfl, KB.out⟩
  · obtain ⟨m1, m2, m3, m4⟩ := rMay_iff.1 (hr.1 rfl).1
    clear hr
    cases ht : rTm t
    · rw [if_neg (fun h => by cases h.2), if_neg (fun h => by cases h.2)]
      rw [ht] at IT
      clear ht
      go_enter Try.func59, Try.ntmps59
      go_wp2_with fail
      rw [HWP.out]
      refine RC.out.mono ?_; rintro _ w1 ⟨rfl, hb1⟩
      have KB := Lib.hid (bnext KP.out hb1)
      go_wp2_with fail
      refine (IT.out _).mono ?_; rintro _ w2 ⟨rfl, rfl⟩
      go_wp2
      exact bodyPost_ret (v := .tuple #[.int .i64 0, .int .i64 1]) (by simp [results, Try.results59, go_sem]) rfl ⟨rfl, KB.out⟩
    · rw [if_pos ⟨rfl, rfl⟩, if_pos ⟨rfl, rfl⟩]
      have hx := rTm_iff.1 ht
      rw [ht] at IT
      clear ht
      have s0 : 0 < s := by omega
      obtain ⟨t0, t1⟩ := hx
      obtain ⟨r, hr⟩ : ∃ r, t % s = r := ⟨_, rfl⟩
      have r0 : 0 ≤ r := by rw [← hr]; exact Int.emod_nonneg _ (by omega)
      have r1 : r < s := by rw [← hr]; exact Int.emod_lt_of_pos _ (by omega)
      have AT := Lib.hid (show rAt s t = t - r from by unfold rAt; rw [hr])
      have w1 : IntKind.i64.wrap (t - r) = t - r := by rw [IntKind.wrap_i64]; omega
      go_enter Try.func59, Try.ntmps59
      go_wp2_with fail
      rw [HWP.out]
      refine RC.out.mono ?_; rintro _ w1 ⟨rfl, hb1⟩
      have KB := Lib.hid (bnext KP.out hb1)
      have k0 := cellb hb1 k0; have k1 := cellb hb1 k1
      clear hb1
      go_wp2_with fail
      refine (IT.out _).mono ?_; rintro _ w2 ⟨rfl, rfl⟩
      go_wp2
      exact bodyPost_ret (v := .tuple #[.int .i64 (t - r), .int .i64 0]) (by simp [results, Try.results59, go_sem]) rfl ⟨by rw [AT.out], KB.out⟩
end Go.Proofs.Ytkgajlklhcmmcaa.IP
