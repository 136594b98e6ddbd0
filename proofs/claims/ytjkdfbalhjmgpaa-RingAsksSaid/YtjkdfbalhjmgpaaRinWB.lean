/-
  Walks of the statements of layer 13: spans; slots are set.
-/
import Derived.Test.YtjkdfbalhjmgpaaRinWA
import Derived.Test.YtjkdfbalhjmgpaaRinRC
import Derived.Test.YtjkdfbalhjmgpaaRinRD
import Derived.Test.YtjkdfbalhjmgpaaRinRE
set_option linter.unusedSimpArgs false
set_option linter.unusedVariables false
namespace Go.Proofs.Ytjkdfbalhjmgpaa.IW
open Go.RowKit IP
theorem same_self (s : Int) (a b : Value) (M : List (Int × Int)) (h1 : M.length ≤ 100000) (W : World) (f1 : RgOut W a M) (f2 : RgOut W b M) :
    Calls Try.prog 20 #[.agg #[.int .i64 s, a], .agg #[.int .i64 s, b]] W fun e w' => e = .returned (.bool true) ∧ Below W.heap.size W w' :=
  (IR.same_c s s a b M M h1 h1 W f1 f2).mono (by rintro e w' ⟨rfl, h⟩; exact ⟨by simp, h⟩)
theorem set_fin0 {s : Int} {l : List (Int × Int)} {t x : Int} (h : setE s l t x = 0) : rRight s (setL s l t x) = true ∧ rGet s (setL s l t x) t = some x ∧ x ≠ -9223372036854775808 := by
  unfold setE at h
  unfold setL
  cases hs : rSet s l t x with
  | none => rw [hs] at h; exact absurd h (by decide)
  | some m =>
    refine ⟨(rSet_right hs).1, rSet_get hs, ?_⟩
    unfold rSet at hs
    split at hs
    · rename_i hc; exact hc.2
    · cases hs
theorem rSpan_len (s : Int) (l : List (Int × Int)) (f u : Int) : (rSpan s l f u).1.length ≤ 2000 := by
  unfold rSpan
  split
  · unfold rCnt
    split
    · exact Nat.zero_le _
    · simp only [List.length_map, List.length_range]; omega
  · exact Nat.zero_le _
set_option maxRecDepth 100000 in
set_option maxHeartbeats 4000000 in
theorem ringSpans_c (s f u : Int) (v : Value) (l : List (Int × Int)) (w : World) (o : RgOut w v l) :
    Calls Try.prog 5 #[.agg #[.int .i64 s, v], .int .i64 f, .int .i64 u] w fun e w' => e = .returned (.bool true) ∧ Below w.heap.size w w' := by
  obtain ⟨A, c, rfl, hc, -⟩ := id o
  obtain ⟨n, hn⟩ : ∃ n, l.length = n := ⟨_, rfl⟩
  have SP := fun (hl : l.length ≤ 100000) (W : World) (h : Below w.heap.size w W) => span_c s f u (.slice A l.length c) l hl W (o.below h)
  have SR := fun (hl : l.length ≤ 100000) (W : World) (h : Below w.heap.size w W) => IR.span_c s f u (.slice A l.length c) l hl W (o.below h)
  obtain ⟨⟨SL, SE⟩, hS⟩ : ∃ S, rSpan s l f u = S := ⟨_, rfl⟩
  have hlen := rSpan_len s l f u
  rw [hS] at SP SR hlen
  simp only at SP SR hlen
  rw [hn] at SP SR ⊢
  obtain ⟨k0, k1, -, -⟩ := two_new w (.int .i64 s) (.slice A n c) 24
  obtain ⟨wp, hwp⟩ : ∃ wp, w.alloc (.cells #[.int .i64 s, .slice A n c] 24) = wp := ⟨_, rfl⟩
  have hbp := alloc_below w (.cells #[.int .i64 s, .slice A n c] 24)
  rw [hwp] at k0 k1 hbp
  have HWP := Lib.hid hwp; have KP := Lib.hid hbp
  have SP := Lib.hid SP; have SR := Lib.hid SR; have HL := Lib.hid hlen
  have AL := Lib.hid (alive_c wp)
  have GR := Lib.hid (great_c s A n c)
  clear hn hS hwp hbp hlen o
  go_enter Try.func5, Try.ntmps5
  go_wp2_with fail
  rw [HWP.out]
  refine AL.out.mono ?_; rintro _ w1 ⟨rfl, hb1⟩
  have k0 := cellb hb1 k0; have k1 := cellb hb1 k1
  have B1 := Lib.hid (bnext KP.out hb1)
  clear hb1
  go_wp2_with fail
  refine (GR.out _).mono ?_; rintro _ w2 ⟨rfl, hb2⟩
  have k0 := cellb hb2 k0; have k1 := cellb hb2 k1
  have B2 := Lib.hid (bnext B1.out hb2)
  clear hb2
  by_cases hg : 1000 < n
  · rw [decide_eq_true hg]
    go_wp2_with fail
    go_ret
    exact ⟨rfl, B2.out⟩
  · rw [decide_eq_false hg]
    have SP2 := Lib.hid (SP.out (by omega) w2 B2.out)
    go_wp2_with fail
    refine SP2.out.mono ?_; rintro _ w3 ⟨u3, rfl, h3, hb3⟩
    have k0 := cellb hb3 k0; have k1 := cellb hb3 k1
    have B3 := Lib.hid (bnext B2.out hb3)
    have O3 := h3.out
    obtain ⟨A3, c3, rfl, -, -⟩ := id O3
    have O3 := Lib.hid O3
    have SR2 := Lib.hid (SR.out (by omega) w3 B3.out)
    clear hb3 h3
    go_wp2_with fail
    refine SR2.out.mono ?_; rintro _ w4 ⟨u4, rfl, h4, hb4⟩
    have B4 := Lib.hid (bnext B3.out hb4)
    have O4 := h4.out
    obtain ⟨A4, c4, rfl, -, -⟩ := id O4
    have SM := IR.numSame_c (.slice A3 SL.length c3) (.slice A4 SL.length c4) SL SL (by have := HL.out; omega) (by have := HL.out; omega) w4 (O3.out.below hb4) O4
    rw [decide_eq_true rfl] at SM
    have SM := Lib.hid SM
    clear hb4 h4 O4
    go_wp2_with fail
    refine SM.out.mono ?_; rintro _ w5 ⟨rfl, hb5⟩
    have B5 := Lib.hid (bnext B4.out hb5)
    clear hb5
    go_wp2
    go_ret
    exact ⟨by simp, B5.out⟩
set_option maxRecDepth 100000 in
set_option maxHeartbeats 4000000 in
theorem ringSets_c (s t x : Int) (v : Value) (l : List (Int × Int)) (w : World) (o : RgOut w v l) :
    Calls Try.prog 4 #[.agg #[.int .i64 s, v], .int .i64 t, .int .i64 x] w fun e w' => e = .returned (.bool true) ∧ Below w.heap.size w w' := by
  obtain ⟨A, c, rfl, hc, -⟩ := id o
  obtain ⟨n, hn⟩ : ∃ n, l.length = n := ⟨_, rfl⟩
  have CP := fun (hl : l.length ≤ 100000) (W : World) (h : Below w.heap.size w W) => IR.copy_c s (.slice A l.length c) l hl W (o.below h)
  have SP := fun (hl : l.length ≤ 100000) (u : Value) (W : World) (h : RgOut W u l) => set_c s t x u l hl W h
  have SR := fun (hl : l.length ≤ 100000) (W : World) (h : Below w.heap.size w W) => IR.set_c s t x (.slice A l.length c) l hl W (o.below h)
  have OUT := fun (W : World) (h : Below w.heap.size w W) => o.below h
  have SL := setL_length s l t x
  have SME := fun (a b : Value) (M : List (Int × Int)) (h1 : M.length ≤ 100000) (W : World) (f1 : RgOut W a M) (f2 : RgOut W b M) => same_self s a b M h1 W f1 f2
  have RI := fun (u : Value) (h1 : (setL s l t x).length ≤ 140737488351232) (W : World) (f1 : RgOut W u (setL s l t x)) => right_c s u (setL s l t x) h1 W f1
  have GE := fun (u : Value) (h1 : (setL s l t x).length ≤ 140737488351232) (W : World) (f1 : RgOut W u (setL s l t x)) => get_c s t u (setL s l t x) h1 W f1
  have YES := fun (h : setE s l t x = 0) => set_fin0 h
  obtain ⟨M, hM⟩ : ∃ M, setL s l t x = M := ⟨_, rfl⟩
  obtain ⟨E, hE⟩ : ∃ E, setE s l t x = E := ⟨_, rfl⟩
  have hE01 : E = 0 ∨ E = 1 := by rw [← hE]; unfold setE; split <;> simp
  rw [hM, hE] at SP SR YES
  rw [hM] at SL RI GE
  rw [hn] at CP SP SR OUT SL ⊢
  obtain ⟨k0, k1, -, -⟩ := two_new w (.int .i64 s) (.slice A n c) 24
  obtain ⟨wp, hwp⟩ : ∃ wp, w.alloc (.cells #[.int .i64 s, .slice A n c] 24) = wp := ⟨_, rfl⟩
  have hbp := alloc_below w (.cells #[.int .i64 s, .slice A n c] 24)
  rw [hwp] at k0 k1 hbp
  have HWP := Lib.hid hwp; have KP := Lib.hid hbp
  have CP := Lib.hid CP; have SP := Lib.hid SP; have SR := Lib.hid SR; have OUT := Lib.hid OUT; have SL := Lib.hid SL; have SME := Lib.hid SME; have RI := Lib.hid RI; have GE := Lib.hid GE; have YES := Lib.hid YES; have HN := Lib.hid hn
  have AL := Lib.hid (alive_c wp)
  have GR := Lib.hid (great_c s A n c)
  have HE01 := Lib.hid hE01
  clear hn hM hE hwp hbp o hE01
  go_enter Try.func4, Try.ntmps4
  go_wp2_with fail
  rw [HWP.out]
  refine AL.out.mono ?_; rintro _ w1 ⟨rfl, hb1⟩
  have k0 := cellb hb1 k0; have k1 := cellb hb1 k1
  have B1 := Lib.hid (bnext KP.out hb1)
  clear hb1
  go_wp2_with fail
  refine (GR.out _).mono ?_; rintro _ w2 ⟨rfl, hb2⟩
  have k0 := cellb hb2 k0; have k1 := cellb hb2 k1
  have B2 := Lib.hid (bnext B1.out hb2)
  clear hb2
  by_cases hg : 1000 < n
  · rw [decide_eq_true hg]
    go_wp2_with fail
    go_ret
    exact ⟨rfl, B2.out⟩
  · rw [decide_eq_false hg]
    have CP2 := Lib.hid (CP.out (by omega) w2 B2.out)
    go_wp2_with fail
    refine CP2.out.mono ?_; rintro _ w3 ⟨A3, c3, rfl, h3, hb3⟩
    have k0 := cellb hb3 k0; have k1 := cellb hb3 k1
    obtain ⟨⟨q0, q1⟩, hb4⟩ := ring_new w3 s A3 n c3
    obtain ⟨w4, hw4⟩ : ∃ w4, w3.alloc (.cells #[.int .i64 s, .slice A3 n c3] 24) = w4 := ⟨_, rfl⟩
    rw [hw4] at q0 q1 hb4
    have k0 := cellb hb4 k0; have k1 := cellb hb4 k1
    have HW4 := Lib.hid hw4
    have B4 := Lib.hid (bnext (bnext B2.out hb3) hb4)
    have OWN4 := Lib.hid (h3.out.below hb4)
    have SP2 := Lib.hid (SP.out (by omega) _ w4 OWN4.out)
    clear hb3 hb4 h3 hw4
    go_wp2_with fail
    rw [HW4.out]
    refine SP2.out.mono ?_; rintro _ w5 ⟨A5, c5, rfl, h5, hb5⟩
    have k0 := cellb hb5 k0; have k1 := cellb hb5 k1; have q0 := cellb hb5 q0; have q1 := cellb hb5 q1
    have j0 := cellb (alloc_below w5 (.cells #[.int .i64 s, .slice A5 n c5] 24)) k0
    have j1 := cellb (alloc_below w5 (.cells #[.int .i64 s, .slice A5 n c5] 24)) k1
    obtain ⟨⟨y0, y1⟩, hb6⟩ := ring_new w5 s A5 n c5
    obtain ⟨w6, hw6⟩ : ∃ w6, w5.alloc (.cells #[.int .i64 s, .slice A5 n c5] 24) = w6 := ⟨_, rfl⟩
    rw [hw6] at y0 y1 hb6
    have k0 := cellb hb6 k0; have k1 := cellb hb6 k1; have q0 := cellb hb6 q0; have q1 := cellb hb6 q1
    have HW6 := Lib.hid hw6
    have B6 := Lib.hid (bnext (bnext B4.out hb5) hb6)
    have OWN6 := Lib.hid (OWN4.out.below (bnext hb5 hb6))
    have NEW6 := Lib.hid (h5.out.below hb6)
    have SR2 := Lib.hid (SR.out (by omega) w6 B6.out)
    clear hb5 hb6 h5 hw6
    go_wp2_with fail
    rw [HW6.out]
    clear j0 j1
    refine SR2.out.mono ?_; rintro _ w7 ⟨u7, rfl, h7, hb7⟩
    obtain ⟨A7, c7, rfl, -, -⟩ := id h7
    rw [SL.out] at h7
    rw [SL.out]
    have k0 := cellb hb7 k0; have k1 := cellb hb7 k1; have q0 := cellb hb7 q0; have q1 := cellb hb7 q1; have y0 := cellb hb7 y0; have y1 := cellb hb7 y1
    have ii := alloc_below w7 (.cells #[.int .i64 s, .slice A7 n c7] 24)
    have k0' := cellb ii k0; have k1' := cellb ii k1; have q0' := cellb ii q0; have q1' := cellb ii q1; have y0' := cellb ii y0; have y1' := cellb ii y1
    obtain ⟨⟨z0, z1⟩, hb8⟩ := ring_new w7 s A7 n c7
    obtain ⟨w8, hw8⟩ : ∃ w8, w7.alloc (.cells #[.int .i64 s, .slice A7 n c7] 24) = w8 := ⟨_, rfl⟩
    rw [hw8] at z0 z1 hb8
    have k0 := cellb hb8 k0; have k1 := cellb hb8 k1; have q0 := cellb hb8 q0; have q1 := cellb hb8 q1; have y0 := cellb hb8 y0; have y1 := cellb hb8 y1
    have HW8 := Lib.hid hw8
    have B8 := Lib.hid (bnext (bnext B6.out hb7) hb8)
    have OWN8 := Lib.hid (OWN6.out.below (bnext hb7 hb8))
    have NEW8 := Lib.hid (NEW6.out.below (bnext hb7 hb8))
    have REF8 := Lib.hid (h7.below hb8)
    have SM1 := SME.out _ _ M (by rw [SL.out]; omega) w8 NEW8.out REF8.out
    have SM1 := Lib.hid SM1
    clear hb7 hb8 h7 hw8 ii
    go_wp2_with fail
    rw [HW8.out]
    clear k0' k1' q0' q1' y0' y1'
    refine SM1.out.mono ?_; rintro _ w9 ⟨rfl, hb9⟩
    have k0 := cellb hb9 k0; have k1 := cellb hb9 k1; have q0 := cellb hb9 q0; have q1 := cellb hb9 q1; have y0 := cellb hb9 y0; have y1 := cellb hb9 y1
    have B9 := Lib.hid (bnext B8.out hb9)
    have NEW9 := Lib.hid (NEW8.out.below hb9)
    have SM2 := SME.out _ _ l (by rw [HN.out]; omega) w9 (OWN8.out.below hb9) (OUT.out w9 B9.out)
    have SM2 := Lib.hid SM2
    clear hb9
    go_wp2_with fail
    refine SM2.out.mono ?_; rintro _ w10 ⟨rfl, hb10⟩
    have y0 := cellb hb10 y0; have y1 := cellb hb10 y1
    have B10 := Lib.hid (bnext B9.out hb10)
    have NEW10 := Lib.hid (NEW9.out.below hb10)
    clear hb10 k0 k1 q0 q1
    rcases HE01.out with rfl | rfl
    · obtain ⟨hr, hgt, hx⟩ := YES.out rfl
      have RI2 := RI.out _ (by rw [SL.out]; omega) w10 NEW10.out
      rw [hr] at RI2
      have RI2 := Lib.hid RI2
      have GE2 := Lib.hid (GE.out (.slice A5 n c5) (by rw [SL.out]; omega))
      have HGT := Lib.hid hgt
      clear hr hgt
      go_wp2_with fail
      refine RI2.out.mono ?_; rintro _ w11 ⟨rfl, hb11⟩
      have y0 := cellb hb11 y0; have y1 := cellb hb11 y1
      have B11 := Lib.hid (bnext B10.out hb11)
      have GE3 := GE2.out w11 (NEW10.out.below hb11)
      rw [HGT.out, show (nuC (some x)).toArray = #[.bool false, .int .i64 x] from rfl] at GE3
      have GE3 := Lib.hid GE3
      clear hb11
      go_wp2_with fail
      refine GE3.out.mono ?_; rintro _ w12 ⟨rfl, hb12⟩
      have B12 := Lib.hid (bnext B11.out hb12)
      clear hb12
      go_wp2
      go_ret
      exact ⟨by simp, B12.out⟩
    · go_wp2_with fail
      go_ret
      exact ⟨by simp, B10.out⟩
end Go.Proofs.Ytjkdfbalhjmgpaa.IW
