/-
  Contracts of the program's own functions of layer 4 (floats), the fourth part: From, To.
-/
import Derived.Test.YtcppcfjejalggaaFloPC
import Derived.Test.YtcppcfjejalggaaFloRow
import Derived.Deep.QuietTactic
set_option linter.unusedSimpArgs false
set_option linter.unusedVariables false
namespace Go.Proofs.Ytcppcfjejalggaa.LP
open Go.RowKit
set_option maxRecDepth 100000 in
theorem from_nan (n : Nat) (hn : n < 18446744073709551616) (h : fKind n = 0) (w : World) : Calls Try.prog 9 #[.float .f64 n] w fun e w' => e = .returned (.tuple #[.agg #[.bool true, .int .i64 0], .int .i64 0]) ∧ Below w.heap.size w w' := by
  have k := kind_w n hn
  rw [h] at k
  have K := Lib.hid k
  clear k h
  go_enter Try.func9, Try.ntmps9
  go_wp2_with fail
  refine (K.out _).mono ?_; rintro e w1 ⟨rfl, rfl⟩
  go_wp2
  exact bodyPost_ret (v := .tuple #[.agg #[.bool true, .int .i64 0], .int .i64 0]) (by simp [results, Try.results9, go_sem]) rfl ⟨rfl, (Below.refl _ _).alloc (Nat.le_refl _) _⟩
set_option maxRecDepth 100000 in
theorem from_inf (n : Nat) (hn : n < 18446744073709551616) (k : Int) (hk : fKind n = k) (h : k = 1 ∨ k = 6) (w : World) : Calls Try.prog 9 #[.float .f64 n] w fun e w' => e = .returned (.tuple #[.agg #[.bool false, .int .i64 0], .int .i64 3]) ∧ Below w.heap.size w w' := by
  have c := kind_w n hn
  rw [hk] at c
  have K := Lib.hid c
  clear c hk
  rcases h with rfl | rfl
  all_goals
    go_enter Try.func9, Try.ntmps9
    go_wp2_with fail
    refine (K.out _).mono ?_; rintro e w1 ⟨rfl, rfl⟩
    go_wp2
    exact bodyPost_ret (v := .tuple #[.agg #[.bool false, .int .i64 0], .int .i64 3]) (by simp [results, Try.results9, go_sem]) rfl ⟨rfl, (Below.refl _ _).alloc (Nat.le_refl _) _⟩
set_option maxRecDepth 100000 in
set_option maxHeartbeats 2000000 in
theorem from_err (n a : Nat) (k V E : Int) (hV : 0 ≤ V) (hV1 : V < 18446744073709551616) (he : E = 3 ∨ (E = 0 ∧ 9223372036854775807 < V)) (h0 : k ≠ 0) (h1 : k ≠ 1) (h6 : k ≠ 6)
    (kc : ∀ w, Calls Try.prog 11 #[.float .f64 n] w fun e w' => e = .returned (.int .i64 k) ∧ w = w')
    (ac : ∀ w, Calls Try.prog 27 #[.float .f64 n] w fun e w' => e = .returned (.float .f64 a) ∧ w = w')
    (mc : ∀ w, Calls Try.prog 26 #[.float .f64 a] w fun e w' => e = .returned (.tuple #[.int .u64 V, .int .i64 E]) ∧ Below w.heap.size w w')
    (w : World) : Calls Try.prog 9 #[.float .f64 n] w fun e w' => e = .returned (.tuple #[.agg #[.bool false, .int .i64 0], .int .i64 3]) ∧ Below w.heap.size w w' := by
  have K := Lib.hid kc; have AC := Lib.hid ac; have MC := Lib.hid mc
  clear kc ac mc
  rcases he with rfl | ⟨rfl, he⟩
  all_goals
    go_enter Try.func9, Try.ntmps9
    go_wp2_with fail
    refine (K.out _).mono ?_; rintro e w1 ⟨rfl, rfl⟩
    go_wp2_with fail
    refine (AC.out _).mono ?_; rintro e w1 ⟨rfl, rfl⟩
    go_wp2_with fail
    refine (MC.out _).mono ?_; rintro e w2 ⟨rfl, hb2⟩; obtain ⟨hc2, hf2⟩ := bcell hb2
    have H2 := Lib.hid hb2
    clear hb2
    go_wp2
    exact bodyPost_ret (v := .tuple #[.agg #[.bool false, .int .i64 0], .int .i64 3]) (by simp [results, Try.results9, go_sem, hc2, hf2]) rfl ⟨rfl, below_put (below_box H2.out) (Nat.le_refl _) _ _⟩
set_option maxRecDepth 100000 in
set_option maxHeartbeats 2000000 in
theorem from_ok (n a : Nat) (k V : Int) (neg : Bool) (hV : 0 ≤ V) (hV1 : V ≤ 9223372036854775807) (h0 : k ≠ 0) (h1 : k ≠ 1) (h6 : k ≠ 6)
    (kc : ∀ w, Calls Try.prog 11 #[.float .f64 n] w fun e w' => e = .returned (.int .i64 k) ∧ w = w')
    (ac : ∀ w, Calls Try.prog 27 #[.float .f64 n] w fun e w' => e = .returned (.float .f64 a) ∧ w = w')
    (mc : ∀ w, Calls Try.prog 26 #[.float .f64 a] w fun e w' => e = .returned (.tuple #[.int .u64 V, .int .i64 0]) ∧ Below w.heap.size w w')
    (o : (FloatKind.f64.format.order n 0 == some .lt) = neg)
    (w : World) : Calls Try.prog 9 #[.float .f64 n] w fun e w' => e = .returned (.tuple #[.agg #[.bool false, .int .i64 (if neg = true then -V else V)], .int .i64 0]) ∧ Below w.heap.size w w' := by
  have K := Lib.hid kc; have AC := Lib.hid ac; have MC := Lib.hid mc
  clear kc ac mc
  have g : ∀ x : Int, x ≠ -9223372036854775808 → ∀ w, Calls Try.prog 28 #[.int .i64 x] w fun e w' => e = .returned (.agg #[.bool false, .int .i64 x]) ∧ Below w.heap.size w w' := by
    intro x hx w
    have h := FP.of_c x w
    rw [rd_some rfl hx, nb_some, nv_some] at h
    exact h
  cases neg
  · have G := Lib.hid (g V (by omega))
    clear g
    go_enter Try.func9, Try.ntmps9
    go_wp2_with fail
    refine (K.out _).mono ?_; rintro e w1 ⟨rfl, rfl⟩
    go_wp2_with fail
    refine (AC.out _).mono ?_; rintro e w1 ⟨rfl, rfl⟩
    go_wp2_with fail
    refine (MC.out _).mono ?_; rintro e w2 ⟨rfl, hb2⟩; obtain ⟨hc2, hf2⟩ := bcell hb2
    have z2 : w.heap.size < w2.heap.size := (by have := hb2.size; simp at this; omega)
    have H2 := Lib.hid hb2
    clear hb2
    go_wp2_with fail
    refine (G.out _).mono ?_; rintro e w3 ⟨rfl, hb3⟩; obtain ⟨hc3, hf3⟩ := bcell hb3
    have H3 := Lib.hid hb3
    clear hb3
    go_wp2
    exact bodyPost_ret (v := .tuple #[.agg #[.bool false, .int .i64 V], .int .i64 0]) (by simp [results, Try.results9, go_sem, hc2, hf2, hc3, hf3, z2]) rfl ⟨rfl, below_put (below_next (below_box H2.out) H3.out) (Nat.le_refl _) _ _⟩
  · have G := Lib.hid (g (-V) (by omega))
    clear g
    go_enter Try.func9, Try.ntmps9
    go_wp2_with fail
    refine (K.out _).mono ?_; rintro e w1 ⟨rfl, rfl⟩
    go_wp2_with fail
    refine (AC.out _).mono ?_; rintro e w1 ⟨rfl, rfl⟩
    go_wp2_with fail
    refine (MC.out _).mono ?_; rintro e w2 ⟨rfl, hb2⟩; obtain ⟨hc2, hf2⟩ := bcell hb2
    have z2 : w.heap.size < w2.heap.size := (by have := hb2.size; simp at this; omega)
    have H2 := Lib.hid hb2
    clear hb2
    go_wp2_with fail
    refine (G.out _).mono ?_; rintro e w3 ⟨rfl, hb3⟩; obtain ⟨hc3, hf3⟩ := bcell hb3
    have H3 := Lib.hid hb3
    clear hb3
    go_wp2
    exact bodyPost_ret (v := .tuple #[.agg #[.bool false, .int .i64 (-V)], .int .i64 0]) (by simp [results, Try.results9, go_sem, hc2, hf2, hc3, hf3, z2]) rfl ⟨rfl, below_put (below_next (below_box H2.out) H3.out) (Nat.le_refl _) _ _⟩
theorem abs_parts {n : Nat} (hn : n < 18446744073709551616) : fM (fAbs n) = fM n ∧ fE (fAbs n) = fE n := by
  have hx : fExp (fAbs n) = fExp n := by unfold fExp fAbs; omega
  have hf : fFrc (fAbs n) = fFrc n := by unfold fFrc fAbs; omega
  unfold fM fE
  rw [hx, hf]
  exact ⟨rfl, rfl⟩
theorem from_c (n : Nat) (hn : n < 18446744073709551616) (w : World) :
    Calls Try.prog 9 #[.float .f64 n] w fun e w' => e = .returned (.tuple #[.agg #[.bool (frN n).1, .int .i64 (frN n).2.1], .int .i64 (frN n).2.2]) ∧ Below w.heap.size w w' := by
  have hk := kind_abs hn
  by_cases h0 : fKind n = 0
  · rw [frN_nan h0]; exact from_nan n hn h0 w
  · by_cases h1 : fKind n = 1 ∨ fKind n = 6
    · have hf : frN n = (false, 0, 3) := by unfold frN; rw [if_neg h0, if_pos h1]
      rw [hf]; exact from_inf n hn _ rfl h1 w
    · have hN : ¬ 9218868437227405312 < fAbs n := fun h => by rw [if_pos h] at hk; exact h0 hk
      rw [if_neg hN] at hk
      have hI : ¬ fAbs n = 9218868437227405312 := fun h => by
        rw [if_pos h] at hk
        apply h1
        rw [hk]
        cases fSgn n
        · exact .inr rfl
        · exact .inl rfl
      have hfin : fAbs n < 9218868437227405312 := by omega
      have hfr : frM (fAbs n) = frM n := by unfold frM; rw [(abs_parts hn).1, (abs_parts hn).2]
      have mc := mil_c (fAbs n) _ _ hfin rfl rfl
      rw [hfr] at mc
      by_cases hb : frM n < 18446744073709551616
      · rw [if_pos hb, if_pos hb] at mc
        by_cases hc : 9223372036854775807 < frM n
        · have hf : frN n = (false, 0, 3) := by unfold frN; rw [if_neg h0, if_neg h1, if_pos hc]
          rw [hf]
          exact from_err n _ _ _ _ (by omega) (by omega) (.inr ⟨rfl, by omega⟩) h0 (fun h => h1 (.inl h)) (fun h => h1 (.inr h)) (kind_w n hn) (abs_c n hn) mc w
        · have hf : frN n = (false, if fSgn n then -(frM n : Int) else (frM n : Int), 0) := by unfold frN; rw [if_neg h0, if_neg h1, if_neg hc]
          have o := ord_c (n := n) (c := 0) hn (by decide) (by omega) (by decide) key_zero
          have hkey := key_of n
          obtain ⟨B, hB⟩ : ∃ B, (FloatKind.f64.format.order n 0 == some .lt) = B := ⟨_, rfl⟩
          have hval : (if B = true then -(frM n : Int) else (frM n : Int)) = (if fSgn n then -(frM n : Int) else (frM n : Int)) := by
            by_cases hz : fAbs n = 0
            · have hz2 : frM n = 0 := by rw [← hfr, hz]; decide +kernel
              rw [hz2]; split <;> split <;> rfl
            · rw [← hB, o]
              cases hs : fSgn n
              · rw [hs, if_neg (by decide)] at hkey
                rw [gt_of (by omega)]; rfl
              · rw [hs, if_pos rfl] at hkey
                rw [lt_of (by omega)]; rfl
          rw [hf, ← hval]
          exact from_ok n _ _ (frM n) B (by omega) (by omega) h0 (fun h => h1 (.inl h)) (fun h => h1 (.inr h)) (kind_w n hn) (abs_c n hn) mc hB w
      · rw [if_neg hb, if_neg hb] at mc
        have hf : frN n = (false, 0, 3) := by unfold frN; rw [if_neg h0, if_neg h1, if_pos (by omega)]
        rw [hf]
        exact from_err n _ _ _ _ (by decide) (by decide) (.inl rfl) h0 (fun h => h1 (.inl h)) (fun h => h1 (.inr h)) (kind_w n hn) (abs_c n hn) mc w
set_option maxRecDepth 100000 in
set_option maxHeartbeats 2000000 in
theorem near_in (c z A P Q N R : Nat) (r q' : Int) (hz : z ≤ 64)
    (lz : ∀ w, Calls Try.prog 54 #[.int .u64 (c : Nat)] w fun e w' => e = .returned (.int .i64 (z : Nat)) ∧ w = w')
    (sh : IntKind.u64.wrap ((c : Int) * 2 ^ z) = (A : Nat))
    (mu : ∀ w, Calls Try.prog 47 #[.int .u64 (A : Nat), .int .u64 262144] w fun e w' => e = .returned (.agg #[.int .u64 (hiOf P : Nat), .int .u64 (loOf P : Nat)]) ∧ Below w.heap.size w w')
    (dv : ∀ w, Calls Try.prog 55 #[.agg #[.int .u64 (hiOf P : Nat), .int .u64 (loOf P : Nat)], .int .u64 1000000] w fun e w' => e = .returned (.tuple #[.agg #[.int .u64 (hiOf Q : Nat), .int .u64 (loOf Q : Nat)], .int .u64 r, .int .i64 0]) ∧ Below w.heap.size w w')
    (hq : (r = 0 ∧ q' = (loOf Q : Nat)) ∨ (r ≠ 0 ∧ bits .or .u64 (loOf Q : Nat) 1 = q'))
    (cv : ∀ w, (convert 33 22 (.int .u64 q')).run Try.prog w = .ok (.float .f64 N) w)
    (ld : ∀ w, Calls Try.prog 48 #[.float .f64 N, .int .i64 (-18 - (z : Int))] w fun e w' => e = .returned (.float .f64 R) ∧ w = w')
    (w : World) : Calls Try.prog 36 #[.int .u64 (c : Nat)] w fun e w' => e = .returned (.float .f64 R) ∧ Below w.heap.size w w' := by
  have LZ := Lib.hid lz; have MU := Lib.hid mu; have DV := Lib.hid dv; have LD := Lib.hid ld
  clear lz mu dv ld
  generalize (hiOf P : Int) = p1 at *
  generalize (loOf P : Int) = p2 at *
  generalize (hiOf Q : Int) = q1 at *
  generalize (loOf Q : Int) = q2 at *
  rcases hq with ⟨rfl, rfl⟩ | ⟨hr, ho⟩
  · go_enter Try.func36, Try.ntmps36
    go_wp2_with fail
    refine (LZ.out _).mono ?_; rintro e w1 ⟨rfl, rfl⟩
    go_wp2_with fail
    refine (MU.out _).mono ?_; rintro e w2 ⟨rfl, hb2⟩
    have H2 := Lib.hid hb2
    clear hb2
    go_wp2_with fail
    refine (DV.out _).mono ?_; rintro e w3 ⟨rfl, hb3⟩
    have H3 := Lib.hid (below_next H2.out hb3)
    clear hb3
    go_wp2_with fail
    refine (LD.out _).mono ?_; rintro e w4 ⟨rfl, rfl⟩
    go_wp2
    go_ret
    exact ⟨rfl, H3.out.alloc H3.out.size _⟩
  · have t : (r != 0) = true := by rw [bne_iff_ne]; exact hr
    clear hr
    go_enter Try.func36, Try.ntmps36
    go_wp2_with fail
    refine (LZ.out _).mono ?_; rintro e w1 ⟨rfl, rfl⟩
    go_wp2_with fail
    refine (MU.out _).mono ?_; rintro e w2 ⟨rfl, hb2⟩
    have H2 := Lib.hid hb2
    clear hb2
    go_wp2_with fail
    refine (DV.out _).mono ?_; rintro e w3 ⟨rfl, hb3⟩
    have H3 := Lib.hid (below_next H2.out hb3)
    clear hb3
    go_wp2_with fail
    refine (LD.out _).mono ?_; rintro e w4 ⟨rfl, rfl⟩
    go_wp2
    go_ret
    exact ⟨rfl, H3.out.alloc H3.out.size _⟩
theorem near_zero (w : World) : Calls Try.prog 36 #[.int .u64 0] w fun e w' => e = .returned (.float .f64 0) ∧ Below w.heap.size w w' := by
  have hl : 64 - (Lib.bitLen 0 : Int) = ((64 : Nat) : Int) := by decide
  have h0 : floatOfInt .f64 0 = 0 := by decide +kernel
  exact near_in 0 64 0 0 0 0 0 0 0 (by decide) (lz_c 0 64 (by decide) hl) (by decide) (mul_c 0 262144 (by decide) (by decide)) (div_c 0 1000000 (by decide) (by decide) (by decide)) (.inl ⟨rfl, by decide⟩)
    (fun w => by rw [run_convert_int_float w _ _ .u64 .f64 0 (by kernel_rfl) (by kernel_rfl), h0]) (ldexp_zero _) w
/-- The float nearest to a number above 0. -/
theorem near_c (c : Nat) (h0 : 0 < c) (hc : c ≤ 9223372036854775807) (w : World) : ∃ k, KK c k ∧ 9 ≤ k ∧ k ≤ 72 ∧ Calls Try.prog 36 #[.int .u64 (c : Nat)] w fun e w' => e = .returned (.float .f64 (toPos c k)) ∧ Below w.heap.size w w' := by
  obtain ⟨z, hz, hl, h1, h2⟩ := norm_is (y := c) h0 (by omega)
  obtain ⟨N, k, hN, hK, hk1, hk2, hNk, hn1, hn2, hq⟩ := to_pos h0 hc hz h1 h2 rfl rfl
  refine ⟨k, hK, hk1, hk2, ?_⟩
  obtain ⟨A, hA⟩ : ∃ A, c * 2 ^ z = A := ⟨_, rfl⟩
  have hsh : IntKind.u64.wrap ((c : Int) * 2 ^ z) = (A : Nat) := by
    have e : (c : Int) * 2 ^ z = ((c * 2 ^ z : Nat) : Int) := by simp
    rw [e, hA, IntKind.wrap_u64]; omega
  rw [hA] at hN hq h2
  have hM : M = 340282366920938463463374607431768211456 := rfl
  have mu := mul_c A 262144 (by omega) (by decide)
  have dv := div_c (A * 262144) 1000000 (by omega) (by decide) (by decide)
  have hQ : A * 262144 / 1000000 < 18446744073709551616 := by omega
  have hlo := lo_small hQ
  have hr := rhe_range hK
  have htp : toPos c k = (1074 - k) * 4503599627370496 + rhe (c * 2 ^ k) 1000000 := rfl
  have cv : ∀ w, (convert 33 22 (.int .u64 ((A * 262144 / 1000000 + (if A * 262144 % 1000000 ≠ 0 ∧ A * 262144 / 1000000 % 2 = 0 then 1 else 0) : Nat) : Int))).run Try.prog w = .ok (.float .f64 N) w := fun w => by
    rw [run_convert_int_float w _ _ .u64 .f64 _ (by kernel_rfl) (by kernel_rfl), hN]
  have hX : ∃ X F Y, N = X * 4503599627370496 + F ∧ 1 ≤ X ∧ X < 2047 ∧ F < 4503599627370496 ∧ (X : Int) + (-18 - (z : Int)) = (Y : Nat) ∧ 1 ≤ Y ∧ Y < 2047 ∧ Y * 4503599627370496 + F = toPos c k := by
    refine ⟨N / 4503599627370496, N % 4503599627370496, N / 4503599627370496 - (18 + z), by omega, by omega, by omega, Nat.mod_lt _ (by decide), by omega, by omega, by omega, by omega⟩
  obtain ⟨X, F, Y, e1, e2, e3, e4, e5, e6, e7, e8⟩ := hX
  have ld := ldexp_c N X F Y _ e1 e2 e3 e4 e5 e6 e7
  rw [e8] at ld
  refine near_in c z A (A * 262144) (A * 262144 / 1000000) N (toPos c k) _ _ (by omega) (lz_c c z (by omega) hl) hsh mu dv ?_ cv ld w
  rw [hlo]
  generalize A * 262144 / 1000000 = q at *
  generalize A * 262144 % 1000000 = r at *
  by_cases hr0 : r = 0
  · subst hr0; exact .inl ⟨rfl, by rw [if_neg (fun h => h.1 rfl)]; rfl⟩
  · refine .inr ⟨by omega, ?_⟩
    rw [or_one q (by omega)]
    by_cases he : q % 2 = 0
    · rw [if_pos he, if_pos ⟨hr0, he⟩]
    · rw [if_neg he, if_neg (fun h => he h.2)]
theorem nan_val_c (w : World) : Calls Try.prog 35 #[] w fun e w' => e = .returned (.float .f64 9221120237041090561) ∧ w = w' := by
  have h : ∀ w : World, (callFunc 25 #[.int .u64 9221120237041090561]).run Try.prog w = .ok (.value (.float .f64 9221120237041090561)) w := fun w => LR.from_run 9221120237041090561 w
  go_enter Try.func35, Try.ntmps35
  go_wp2
  go_ret
  exact ⟨rfl, rfl⟩
set_option maxRecDepth 100000 in
set_option maxHeartbeats 2000000 in
theorem to_none (b : Bool) (v : Int) (g : ¬ (b = false ∧ v ≠ -9223372036854775808)) (h1 : -9223372036854775808 ≤ v ∧ v ≤ 9223372036854775807) (w : World) :
    Calls Try.prog 13 #[.agg #[.bool b, .int .i64 v]] w fun e w' => ∃ n : Nat, n < 18446744073709551616 ∧ fKind n = 0 ∧ e = .returned (.float .f64 n) ∧ Below w.heap.size w w' := by
  have N := Lib.hid nan_val_c
  have hk : fKind 9221120237041090561 = 0 := by decide +kernel
  have HK := Lib.hid hk
  clear hk
  cases b
  · have hv : v = -9223372036854775808 := by
      by_cases h : v = -9223372036854775808
      · exact h
      · exact absurd ⟨rfl, h⟩ g
    subst hv
    have r := FP.right_f (-9223372036854775808)
    rw [show ((-9223372036854775808 : Int) != -9223372036854775808) = false from by decide] at r
    have R := Lib.hid r
    clear r g h1
    go_enter Try.func13, Try.ntmps13
    go_wp2_with fail
    refine (R.out _).mono ?_; rintro e w1 ⟨rfl, hb1⟩
    have H1 := Lib.hid hb1
    clear hb1
    go_wp2_with fail
    refine (N.out _).mono ?_; rintro e w2 ⟨rfl, rfl⟩
    go_wp2
    go_ret
    exact ⟨_, by decide, HK.out, rfl, below_box H1.out⟩
  · clear g h1
    go_enter Try.func13, Try.ntmps13
    go_wp2_with fail
    refine (N.out _).mono ?_; rintro e w2 ⟨rfl, rfl⟩
    go_wp2
    go_ret
    exact ⟨_, by decide, HK.out, rfl, (Below.refl _ _).alloc (Nat.le_refl _) _⟩
end Go.Proofs.Ytcppcfjejalggaa.LP
