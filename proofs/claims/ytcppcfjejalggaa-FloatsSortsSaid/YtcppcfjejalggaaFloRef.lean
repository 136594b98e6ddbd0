/-
  Contracts of the document's own functions of layer 4 (isobarref04), the first part: a float's parts, its kind, the order.
-/
import Derived.Test.YtcppcfjejalggaaFloMath
set_option linter.unusedSimpArgs false
set_option linter.unusedVariables false
namespace Go.Proofs.Ytcppcfjejalggaa.LR
open Go.RowKit
theorem bits_run (n : Nat) (w : World) : (callFunc 16 #[.float .f64 n]).run Try.prog w = .ok (.value (.int .u64 n)) w := by
  rw [run_callFunc_extern Try.func16 (by kernel_rfl) (by kernel_rfl) (by kernel_rfl) (e := Extern.MathFloatBits.float64bits) (by kernel_rfl)]
  rfl
theorem from_run (n : Nat) (w : World) : (callFunc 25 #[.int .u64 n]).run Try.prog w = .ok (.value (.float .f64 n)) w := by
  rw [run_callFunc_extern Try.func25 (by kernel_rfl) (by kernel_rfl) (by kernel_rfl) (e := Extern.MathFloatBits.float64frombits) (by kernel_rfl)]
  rfl
theorem ret_parts {a b : Bool} {x y : Int} {u v : Int} (h : a = b) (k : x = y) (l : u = v) : Ending.returned (.tuple #[.bool a, .int .u64 x, .int .i64 u]) = .returned (.tuple #[.bool b, .int .u64 y, .int .i64 v]) := by rw [h, k, l]
set_option maxRecDepth 100000 in
set_option maxHeartbeats 1000000 in
theorem parts_c (n : Nat) (hn : n < 18446744073709551616) (w : World) : Calls Try.prog 29 #[.float .f64 n] w fun e w' => e = .returned (.tuple #[.bool (fSgn n), .int .u64 (fM n : Nat), .int .i64 (fE n)]) ∧ w = w' := by
  have HB := bits_run n
  have A1 := exp_and n hn
  have A2 := frc_and n hn
  have A3 := frc_or (frc_lt n)
  have A4 := sgn_bit hn
  have hx := exp_lt n
  have hf := frc_lt n
  have hM : fM n = if fExp n = 2047 then fFrc n else if fExp n = 0 then fFrc n else fFrc n + 4503599627370496 := rfl
  have hE : fE n = if fExp n = 2047 then 1000 else if fExp n = 0 then -1074 else (fExp n : Int) - 1075 := rfl
  obtain ⟨N, hN⟩ : ∃ N : Int, (n : Int) = N := ⟨_, rfl⟩
  rw [hN] at A1 A2 A4 HB
  have HM := Lib.hid hM; have HE := Lib.hid hE
  clear hM hE
  generalize fExp n = x at *
  generalize fFrc n = f at *
  generalize fSgn n = sg at *
  have hN0 : 0 ≤ N := by omega
  have hN1 : N < 18446744073709551616 := by omega
  obtain ⟨G, hG⟩ : ∃ G : Int, ((f + 4503599627370496 : Nat) : Int) = G := ⟨_, rfl⟩
  rw [hG] at A3
  have HG := Lib.hid hG
  clear hG hn hN
  by_cases h1 : x = 2047
  · have t1 : ((x : Int) == 2047) = true := by rw [beq_iff_eq]; omega
    have H1 := Lib.hid h1
    clear h1
    go_enter Try.func29, Try.ntmps29
    go_wp2
    exact bodyPost_ret (v := .tuple #[.bool sg, .int .u64 f, .int .i64 1000]) (by simp [results, Try.results29, go_sem]) rfl ⟨ret_parts rfl (by rw [HM.out, if_pos H1.out]) (by rw [HE.out, if_pos H1.out]), rfl⟩
  · have t1 : ((x : Int) == 2047) = false := by rw [beq_eq_false_iff_ne]; omega
    by_cases h2 : x = 0
    · have t2 : ((x : Int) == 0) = true := by rw [beq_iff_eq]; omega
      have H1 := Lib.hid h1; have H2 := Lib.hid h2
      clear h1 h2
      go_enter Try.func29, Try.ntmps29
      go_wp2
      exact bodyPost_ret (v := .tuple #[.bool sg, .int .u64 f, .int .i64 (-1074)]) (by simp [results, Try.results29, go_sem]) rfl ⟨ret_parts rfl (by rw [HM.out, if_neg H1.out, if_pos H2.out]) (by rw [HE.out, if_neg H1.out, if_pos H2.out]), rfl⟩
    · have t2 : ((x : Int) == 0) = false := by rw [beq_eq_false_iff_ne]; omega
      have H1 := Lib.hid h1; have H2 := Lib.hid h2
      clear h1 h2
      go_enter Try.func29, Try.ntmps29
      go_wp2
      exact bodyPost_ret (v := .tuple #[.bool sg, .int .u64 G, .int .i64 ((x : Int) - 1075)]) (by simp [results, Try.results29, go_sem]) rfl ⟨ret_parts rfl (by rw [HM.out, if_neg H1.out, if_neg H2.out, HG.out]) (by rw [HE.out, if_neg H1.out, if_neg H2.out]), rfl⟩
theorem kind_c (n : Nat) (hn : n < 18446744073709551616) (w : World) : Calls Try.prog 12 #[.float .f64 n] w fun e w' => e = .returned (.int .i64 (fKind n)) ∧ w = w' := by
  have hp := parts_c n hn
  have hK : fKind n = if fE n = 1000 then (if fM n ≠ 0 then 0 else if fSgn n then 1 else 6) else if fM n = 0 then (if fSgn n then 3 else 4) else (if fSgn n then 2 else 5) := rfl
  generalize fM n = M at *
  generalize fE n = E at *
  generalize fSgn n = sg at *
  have HP := Lib.hid hp
  clear hp
  by_cases hE : E = 1000
  · subst hE
    by_cases hM : M = 0
    · subst hM
      cases sg
      · have HK := Lib.hid (show fKind n = 6 from by rw [hK, if_pos rfl, if_neg (by simp), if_neg (by simp)])
        clear hK hn
        go_enter Try.func12, Try.ntmps12
        go_wp2_with fail
        refine (HP.out _).mono ?_; rintro e w' ⟨rfl, rfl⟩
        go_wp2
        go_ret
        exact ⟨by rw [HK.out]; rfl, rfl⟩
      · have HK := Lib.hid (show fKind n = 1 from by rw [hK, if_pos rfl, if_neg (by simp), if_pos rfl])
        clear hK hn
        go_enter Try.func12, Try.ntmps12
        go_wp2_with fail
        refine (HP.out _).mono ?_; rintro e w' ⟨rfl, rfl⟩
        go_wp2
        go_ret
        exact ⟨by rw [HK.out]; rfl, rfl⟩
    · have tM : ((M : Int) == 0) = false := by rw [beq_eq_false_iff_ne]; omega
      have HK := Lib.hid (show fKind n = 0 from by rw [hK, if_pos rfl, if_pos hM])
      clear hK hn
      go_enter Try.func12, Try.ntmps12
      go_wp2_with fail
      refine (HP.out _).mono ?_; rintro e w' ⟨rfl, rfl⟩
      go_wp2
      go_ret
      exact ⟨by rw [HK.out]; rfl, rfl⟩
  · have tE : (E == 1000) = false := by rw [beq_eq_false_iff_ne]; exact hE
    by_cases hM : M = 0
    · subst hM
      cases sg
      · have HK := Lib.hid (show fKind n = 4 from by rw [hK, if_neg hE, if_pos rfl, if_neg (by simp)])
        clear hK hn
        go_enter Try.func12, Try.ntmps12
        go_wp2_with fail
        refine (HP.out _).mono ?_; rintro e w' ⟨rfl, rfl⟩
        go_wp2
        go_ret
        exact ⟨by rw [HK.out]; rfl, rfl⟩
      · have HK := Lib.hid (show fKind n = 3 from by rw [hK, if_neg hE, if_pos rfl, if_pos rfl])
        clear hK hn
        go_enter Try.func12, Try.ntmps12
        go_wp2_with fail
        refine (HP.out _).mono ?_; rintro e w' ⟨rfl, rfl⟩
        go_wp2
        go_ret
        exact ⟨by rw [HK.out]; rfl, rfl⟩
    · have tM : ((M : Int) == 0) = false := by rw [beq_eq_false_iff_ne]; omega
      cases sg
      · have HK := Lib.hid (show fKind n = 5 from by rw [hK, if_neg hE, if_neg hM, if_neg (by simp)])
        clear hK hn
        go_enter Try.func12, Try.ntmps12
        go_wp2_with fail
        refine (HP.out _).mono ?_; rintro e w' ⟨rfl, rfl⟩
        go_wp2
        go_ret
        exact ⟨by rw [HK.out]; rfl, rfl⟩
      · have HK := Lib.hid (show fKind n = 2 from by rw [hK, if_neg hE, if_neg hM, if_pos rfl])
        clear hK hn
        go_enter Try.func12, Try.ntmps12
        go_wp2_with fail
        refine (HP.out _).mono ?_; rintro e w' ⟨rfl, rfl⟩
        go_wp2
        go_ret
        exact ⟨by rw [HK.out]; rfl, rfl⟩
set_option maxRecDepth 100000 in
set_option maxHeartbeats 1000000 in
theorem cmp_c (a b : Nat) (ha : a < 18446744073709551616) (hb : b < 18446744073709551616) (w : World) : Calls Try.prog 18 #[.float .f64 a, .float .f64 b] w fun e w' => e = .returned (.int .i64 (fCmp a b)) ∧ w = w' := by
  have ka := kind_c a ha; have kb := kind_c b hb
  have BA := bits_run a; have BB := bits_run b
  have hC : fCmp a b = if fKind a ≠ fKind b then (if fKind a < fKind b then -1 else 1) else if (fKind a ≠ 2 ∧ fKind a ≠ 5) ∨ a = b then 0 else if decide (a < b) = decide (fKind a = 5) then -1 else 1 := rfl
  generalize fKind a = k at *
  generalize fKind b = l at *
  have HA := Lib.hid ka; have HB := Lib.hid kb
  clear ka kb ha hb
  by_cases hkl : k = l
  · subst hkl
    rw [if_neg (fun h : k ≠ k => h rfl)] at hC
    by_cases h2 : k = 2
    · subst h2
      by_cases hab : a = b
      · subst hab
        have HC := Lib.hid (show fCmp a a = 0 from by rw [hC, if_pos (.inr rfl)])
        clear hC
        go_enter Try.func18, Try.ntmps18
        go_wp2_with fail
        refine (HA.out _).mono ?_; rintro e w' ⟨rfl, rfl⟩
        go_wp2_with fail
        refine (HB.out _).mono ?_; rintro e w' ⟨rfl, rfl⟩
        go_wp2
        go_ret
        exact ⟨by rw [HC.out]; rfl, rfl⟩
      · have tab : ((a : Int) == b) = false := by rw [beq_eq_false_iff_ne]; omega
        have n0 : ¬ (((2 : Int) ≠ 2 ∧ (2 : Int) ≠ 5) ∨ a = b) := by rintro (h | h); exact h.1 rfl; exact hab h
        by_cases hlt : a < b
        · have tlt : (a : Int) < b := by omega
          have HC := Lib.hid (show fCmp a b = 1 from by rw [hC, if_neg n0, decide_eq_true hlt]; rfl)
          clear hC
          go_enter Try.func18, Try.ntmps18
          go_wp2_with fail
          refine (HA.out _).mono ?_; rintro e w' ⟨rfl, rfl⟩
          go_wp2_with fail
          refine (HB.out _).mono ?_; rintro e w' ⟨rfl, rfl⟩
          go_wp2
          go_ret
          exact ⟨by rw [HC.out]; rfl, rfl⟩
        · have tlt : ¬ (a : Int) < b := by omega
          have HC := Lib.hid (show fCmp a b = -1 from by rw [hC, if_neg n0, decide_eq_false hlt]; rfl)
          clear hC
          go_enter Try.func18, Try.ntmps18
          go_wp2_with fail
          refine (HA.out _).mono ?_; rintro e w' ⟨rfl, rfl⟩
          go_wp2_with fail
          refine (HB.out _).mono ?_; rintro e w' ⟨rfl, rfl⟩
          go_wp2
          go_ret
          exact ⟨by rw [HC.out]; rfl, rfl⟩
    · by_cases h5 : k = 5
      · subst h5
        by_cases hab : a = b
        · subst hab
          have HC := Lib.hid (show fCmp a a = 0 from by rw [hC, if_pos (.inr rfl)])
          clear hC
          go_enter Try.func18, Try.ntmps18
          go_wp2_with fail
          refine (HA.out _).mono ?_; rintro e w' ⟨rfl, rfl⟩
          go_wp2_with fail
          refine (HB.out _).mono ?_; rintro e w' ⟨rfl, rfl⟩
          go_wp2
          go_ret
          exact ⟨by rw [HC.out]; rfl, rfl⟩
        · have tab : ((a : Int) == b) = false := by rw [beq_eq_false_iff_ne]; omega
          have n0 : ¬ (((5 : Int) ≠ 2 ∧ (5 : Int) ≠ 5) ∨ a = b) := by rintro (h | h); exact h.2 rfl; exact hab h
          by_cases hlt : a < b
          · have tlt : (a : Int) < b := by omega
            have HC := Lib.hid (show fCmp a b = -1 from by rw [hC, if_neg n0, decide_eq_true hlt]; rfl)
            clear hC
            go_enter Try.func18, Try.ntmps18
            go_wp2_with fail
            refine (HA.out _).mono ?_; rintro e w' ⟨rfl, rfl⟩
            go_wp2_with fail
            refine (HB.out _).mono ?_; rintro e w' ⟨rfl, rfl⟩
            go_wp2
            go_ret
            exact ⟨by rw [HC.out]; rfl, rfl⟩
          · have tlt : ¬ (a : Int) < b := by omega
            have HC := Lib.hid (show fCmp a b = 1 from by rw [hC, if_neg n0, decide_eq_false hlt]; rfl)
            clear hC
            go_enter Try.func18, Try.ntmps18
            go_wp2_with fail
            refine (HA.out _).mono ?_; rintro e w' ⟨rfl, rfl⟩
            go_wp2_with fail
            refine (HB.out _).mono ?_; rintro e w' ⟨rfl, rfl⟩
            go_wp2
            go_ret
            exact ⟨by rw [HC.out]; rfl, rfl⟩
      · have t2 : (k == 2) = false := by rw [beq_eq_false_iff_ne]; exact h2
        have t5 : (k == 5) = false := by rw [beq_eq_false_iff_ne]; exact h5
        have HC := Lib.hid (show fCmp a b = 0 from by rw [hC, if_pos (.inl ⟨h2, h5⟩)])
        clear hC
        go_enter Try.func18, Try.ntmps18
        go_wp2_with fail
        refine (HA.out _).mono ?_; rintro e w' ⟨rfl, rfl⟩
        go_wp2_with fail
        refine (HB.out _).mono ?_; rintro e w' ⟨rfl, rfl⟩
        go_wp2
        go_ret
        exact ⟨by rw [HC.out]; rfl, rfl⟩
  · have tkl : (k == l) = false := by rw [beq_eq_false_iff_ne]; exact hkl
    by_cases hlt : k < l
    · have HC := Lib.hid (show fCmp a b = -1 from by rw [hC, if_pos hkl, if_pos hlt])
      clear hC
      go_enter Try.func18, Try.ntmps18
      go_wp2_with fail
      refine (HA.out _).mono ?_; rintro e w' ⟨rfl, rfl⟩
      go_wp2_with fail
      refine (HB.out _).mono ?_; rintro e w' ⟨rfl, rfl⟩
      go_wp2
      go_ret
      exact ⟨by rw [HC.out]; rfl, rfl⟩
    · have HC := Lib.hid (show fCmp a b = 1 from by rw [hC, if_pos hkl, if_neg hlt])
      clear hC
      go_enter Try.func18, Try.ntmps18
      go_wp2_with fail
      refine (HA.out _).mono ?_; rintro e w' ⟨rfl, rfl⟩
      go_wp2_with fail
      refine (HB.out _).mono ?_; rintro e w' ⟨rfl, rfl⟩
      go_wp2
      go_ret
      exact ⟨by rw [HC.out]; rfl, rfl⟩
end Go.Proofs.Ytcppcfjejalggaa.LR
