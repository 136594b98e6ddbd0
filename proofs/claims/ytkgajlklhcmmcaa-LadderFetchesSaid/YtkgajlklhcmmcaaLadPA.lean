/-
  Contracts of the program's functions of layer 14: the small ones.
-/
import Derived.Test.YtkgajlklhcmmcaaLadBox
import Derived.Test.YtkgajlklhcmmcaaLadTg
import Derived.Test.YtkgajlklhcmmcaaRinPE
set_option linter.unusedSimpArgs false
set_option linter.unusedVariables false
namespace Go.Proofs.Ytkgajlklhcmmcaa.AP
open Go.RowKit IP
theorem isTime_c (t : Int) (w : World) : Calls Try.prog 17 #[.int .i64 t] w fun e w' => e = .returned (.bool (rTm t)) ∧ w = w' := by
  by_cases h1 : 0 ≤ t
  · by_cases h2 : t ≤ 1099511627776
    · rw [rTm_iff.2 ⟨h1, h2⟩]
      go_enter Try.func17, Try.ntmps17
      go_wp2
      go_ret
      exact ⟨rfl, rfl⟩
    · rw [show rTm t = false from Bool.eq_false_iff.2 fun h => h2 (rTm_iff.1 h).2]
      go_enter Try.func17, Try.ntmps17
      go_wp2
      go_ret
      exact ⟨rfl, rfl⟩
  · rw [show rTm t = false from Bool.eq_false_iff.2 fun h => h1 (rTm_iff.1 h).1]
    go_enter Try.func17, Try.ntmps17
    go_wp2
    go_ret
    exact ⟨rfl, rfl⟩
theorem isTime_b (t : Int) (w : World) : Calls Try.prog 17 #[.int .i64 t] w fun e w' => e = .returned (.bool (rTm t)) ∧ Below w.heap.size w w' := (isTime_c t w).mono fun _ _ ⟨h1, h2⟩ => ⟨h1, by rw [← h2]; exact Below.refl _ _⟩
theorem isValue_c (v : Int) (w : World) : Calls Try.prog 32 #[.int .i64 v] w fun e w' => e = .returned (.bool (rV v)) ∧ Below w.heap.size w w' := by
  have hr := right_f v
  rw [rV_bne] at hr
  generalize rV v = d at *
  have HR := Lib.hid hr
  clear hr
  go_enter Try.func32, Try.ntmps32
  go_wp2_with fail
  refine (HR.out _).mono ?_; rintro e w1 ⟨rfl, hb1⟩
  go_wp2
  go_ret
  exact ⟨rfl, hb1⟩
theorem isWay_c (s n : Int) (w : World) : Calls Try.prog 29 #[.int .i64 s, .int .i64 n] w fun e w' => e = .returned (.bool (lWay s n)) ∧ w = w' := by
  obtain ⟨d, hd⟩ : ∃ d, lWay s n = d := ⟨_, rfl⟩
  rw [hd]
  have HY := Lib.hid (show 1 ≤ s ∧ s ≤ 5 ∧ 0 ≤ n ∧ n ≤ 1000000 → d = true from fun h => by rw [← hd]; exact lWay_iff.2 h)
  have HN := Lib.hid (show ¬ (1 ≤ s ∧ s ≤ 5 ∧ 0 ≤ n ∧ n ≤ 1000000) → d = false from fun h => by rw [← hd]; exact Bool.eq_false_iff.2 fun hh => h (lWay_iff.1 hh))
  clear hd
  by_cases h0 : 1 ≤ s
  · by_cases h1 : s ≤ 5
    · by_cases h2 : 0 ≤ n
      · by_cases h3 : n ≤ 1000000
        · obtain rfl := HY.out ⟨h0, h1, h2, h3⟩
          go_enter Try.func29, Try.ntmps29
          go_wp2
          go_ret
          exact ⟨rfl, rfl⟩
        · obtain rfl := HN.out (by omega)
          go_enter Try.func29, Try.ntmps29
          go_wp2
          go_ret
          exact ⟨rfl, rfl⟩
      · obtain rfl := HN.out (by omega)
        go_enter Try.func29, Try.ntmps29
        go_wp2
        go_ret
        exact ⟨rfl, rfl⟩
    · obtain rfl := HN.out (by omega)
      go_enter Try.func29, Try.ntmps29
      go_wp2
      go_ret
      exact ⟨rfl, rfl⟩
  · obtain rfl := HN.out (by omega)
    go_enter Try.func29, Try.ntmps29
    go_wp2
    go_ret
    exact ⟨rfl, rfl⟩
theorem isWay_b (m f : Int) (w : World) : Calls Try.prog 29 #[.int .i64 m, .int .i64 f] w fun e w' => e = .returned (.bool (lWay m f)) ∧ Below w.heap.size w w' := (isWay_c m f w).mono fun _ _ ⟨h1, h2⟩ => ⟨h1, by rw [← h2]; exact Below.refl _ _⟩
theorem nothing_c (w : World) : Calls Try.prog 71 #[] w fun e w' => e = .returned (.agg #[.bool true, .int .i64 0]) ∧ Below w.heap.size w w' := by
  go_enter Try.func71, Try.ntmps71
  go_wp2
  exact bodyPost_ret (v := .agg #[.bool true, .int .i64 0]) (by simp [results, Try.results71, go_sem]) rfl ⟨rfl, (Below.refl _ _).alloc (Nat.le_refl _) _⟩
set_option maxHeartbeats 2000000 in
theorem rung_c (s : Int) (A : Option Addr) (n c : Nat) (w : World) : Calls Try.prog 39 #[.agg #[.int .i64 s, .slice A n c]] w fun e w' => e = .returned (.agg #[.int .i64 s, .int .i64 (n : Int)]) ∧ Below w.heap.size w w' := by
  go_enter Try.func39, Try.ntmps39
  go_wp2
  exact bodyPost_ret (v := .agg #[.int .i64 s, .int .i64 (n : Int)]) (by simp [results, Try.results39, go_sem]) rfl ⟨rfl, bnext (alloc_below _ _) (alloc_below _ _)⟩
set_option maxHeartbeats 2000000 in
theorem reach_c (s : Int) (A : Option Addr) (n c : Nat) (hs : 1 ≤ s ∧ s ≤ 86400) (hn : 1 ≤ n ∧ n ≤ 400) (w : World) : Calls Try.prog 19 #[.agg #[.int .i64 s, .slice A n c]] w fun e w' => e = .returned (.int .i64 (s * (n : Int))) ∧ Below w.heap.size w w' := by
  obtain ⟨b1, hb, hz⟩ := bx_new1 w #[.int .i64 s, .slice A n c] 53
  obtain ⟨wc, hwc⟩ : ∃ wc, (w.alloc (.cells #[.int .i64 s, .slice A n c] 53)) = wc := ⟨_, rfl⟩
  rw [hwc] at b1 hb hz
  obtain ⟨k0, k1, -, -⟩ := b1.two
  have R1 := Lib.hid (fun W => rung_c s A n c W)
  have hr := fun W => RP.reach_c s (n : Int) W
  rw [show rgReach (s, (n : Int)) = s * (n : Int) from if_pos (decide_eq_true ⟨hs.1, hs.2, by simp only; omega, by simp only; omega⟩)] at hr
  have R2 := Lib.hid hr
  obtain ⟨q, hq⟩ : ∃ q, s * (n : Int) = q := ⟨_, rfl⟩
  rw [hq] at R2 ⊢
  have KB := Lib.hid hb; have HWC := Lib.hid hwc
  clear b1 hb hz hwc hr hs hn hq
  go_enter Try.func19, Try.ntmps19
  go_wp2_with fail
  rw [HWC.out]
  refine (R1.out _).mono ?_; rintro _ w1 ⟨rfl, hb1⟩
  go_wp2_with fail
  refine (R2.out _).mono ?_; rintro _ w2 ⟨rfl, hb2⟩
  have KX := Lib.hid (bnext (bnext KB.out hb1) hb2)
  go_wp2
  go_ret
  exact ⟨rfl, KX.out⟩
set_option maxHeartbeats 2000000 in
theorem slotOf_c (s t : Int) (v : Value) (l : List (Int × Int)) (hr : rRight s l = true) (ht : rTm t = true) (w : World) (f : RgOut w v l) : Calls Try.prog 34 #[.agg #[.int .i64 s, v], .int .i64 t] w fun e w' => e = .returned (.int .i64 (rAt s t)) ∧ Below w.heap.size w w' := by
  obtain ⟨m1, m2, m3, m4⟩ := rMay_iff.1 (rRight_iff.1 hr).1
  have AL := fun (W : World) (h : Below w.heap.size w W) => align_c s t v l (by omega) W (f.below h)
  rw [if_pos ⟨hr, ht⟩, if_pos ⟨hr, ht⟩] at AL
  obtain ⟨A, c, rfl, hc, -⟩ := id f
  obtain ⟨n, hn⟩ : ∃ n, l.length = n := ⟨_, rfl⟩
  obtain ⟨u, hu⟩ : ∃ u, rAt s t = u := ⟨_, rfl⟩
  rw [hn, hu] at AL
  rw [hn, hu]
  obtain ⟨b1, hb, hz⟩ := bx_new1 w #[.int .i64 s, .slice A n c] 53
  obtain ⟨wc, hwc⟩ : ∃ wc, (w.alloc (.cells #[.int .i64 s, .slice A n c] 53)) = wc := ⟨_, rfl⟩
  rw [hwc] at b1 hb hz
  obtain ⟨k0, k1, -, -⟩ := b1.two
  have AL := Lib.hid (AL wc hb)
  have KB := Lib.hid hb; have HWC := Lib.hid hwc
  clear b1 hb hz hwc f hc hn hu hr ht m1 m2 m3 m4
  go_enter Try.func34, Try.ntmps34
  go_wp2_with fail
  rw [HWC.out]
  refine AL.out.mono ?_; rintro _ w1 ⟨rfl, hb1⟩
  have KX := Lib.hid (bnext KB.out hb1)
  go_wp2
  go_ret
  exact ⟨rfl, KX.out⟩
set_option maxHeartbeats 4000000 in
theorem set_c (s t x : Int) (v : Value) (l : List (Int × Int)) (hl : l.length ≤ 100000) (w : World) (f : RgOut w v l) :
    Calls Try.prog 36 #[.agg #[.int .i64 s, v], .int .i64 t, .int .i64 x] w fun e w' => ∃ A c, e = .returned (.agg #[.int .i64 s, .slice A l.length c]) ∧ RgNew w.heap.size w' (.slice A l.length c) (setL s l t x) ∧ Below w.heap.size w w' := by
  have ST := fun (W : World) (h : Below w.heap.size w W) => IP.set_c s t x v l hl W (f.below h)
  obtain ⟨A, c, rfl, hc, -⟩ := id f
  obtain ⟨n, hn⟩ : ∃ n, l.length = n := ⟨_, rfl⟩
  obtain ⟨e, he⟩ : ∃ e, setE s l t x = e := ⟨_, rfl⟩
  have SL := setL_length s l t x
  obtain ⟨L, hL⟩ : ∃ L, setL s l t x = L := ⟨_, rfl⟩
  rw [hL] at ST SL
  rw [hL]
  rw [hn] at ST SL hc
  rw [hn]
  rw [he] at ST
  obtain ⟨b1, b2, hb, hz⟩ := bx_new2 w #[.int .i64 s, .slice A n c] #[.int .i64 0, .slice none 0 0] 53 53
  obtain ⟨wc, hwc⟩ : ∃ wc, ((w.alloc (.cells #[.int .i64 s, .slice A n c] 53)).alloc (.cells #[.int .i64 0, .slice none 0 0] 53)) = wc := ⟨_, rfl⟩
  rw [hwc] at b1 b2 hb hz
  obtain ⟨k0, k1, -, -⟩ := b1.two
  have ST := Lib.hid (ST wc hb)
  have B1 := Lib.hid b1; have B2 := Lib.hid b2
  have KB := Lib.hid hb; have HWC := Lib.hid hwc; have HZ := Lib.hid hz
  clear b1 b2 hb hz hwc f hc hn he hL SL hl
  go_enter Try.func36, Try.ntmps36
  go_wp2_with fail
  rw [HWC.out]
  refine ST.out.mono ?_; rintro _ w1 ⟨A1, c1, rfl, hN, hb1⟩
  obtain ⟨k0, k1, k2, k3⟩ := (B1.out.below hb1).two
  obtain ⟨j0, j1, j2, j3⟩ := (B2.out.below hb1).two
  have KX := Lib.hid (bnext KB.out hb1)
  have HN := Lib.hid hN
  have ZW := Lib.hid hb1.size
  clear hb1 hN
  go_wp2
  refine bodyPost_ret (v := .agg #[.int .i64 s, .slice A1 n c1]) (by simp [results, Try.results36, go_sem, k0, k1, k2, k3, j0, j1, j2, j3]) rfl ⟨A1, c1, rfl, ?_, ?_⟩
  · have hz := HZ.out; have hw := ZW.out
    refine (HN.out.keep (fun g h1 h2 _ => ?_)).mono (by omega)
    rw [heap_setCell_other _ _ g _ (by show g ≠ w.heap.size + 1; omega), heap_setCell_other _ _ g _ (by show g ≠ w.heap.size + 1; omega), heap_setCell_other _ _ g _ (by show g ≠ w.heap.size; omega), heap_setCell_other _ _ g _ (by show g ≠ w.heap.size; omega)]
  · exact below_put2 (below_put2 KX.out (Nat.le_refl _) _ _) (by omega) _ _
end Go.Proofs.Ytkgajlklhcmmcaa.AP
