/-
  Contracts over this seat of translation: isobar/wide.Div: what each returns, and that nothing that was there has turned.
-/
import Derived.Test.YtkgajlklhcmmcaaShelf
import Derived.Test.YtkgajlklhcmmcaaWideKit
namespace Go.Proofs.Ytkgajlklhcmmcaa
open Go.RowKit
set_option maxRecDepth 100000 in
set_option maxHeartbeats 1000000 in
/-- No upper half: one division of words. -/
theorem div64_low (l y : Nat) (hl : l < 18446744073709551616) (hy0 : 0 < y) (hy : y < 18446744073709551616) (w : World) :
    Calls Try.prog 94 #[.int .u64 0, .int .u64 l, .int .u64 y] w fun e w' => e = .returned (.tuple #[.int .u64 (l / y : Nat), .int .u64 (l % y : Nat)]) ∧ Below w.heap.size w w' := by
  have t : ((y : Int) == 0) = false := by rw [beq_eq_false_iff_ne]; omega
  go_enter Try.func94, Try.ntmps94
  go_wp2_with fail
  go_quiet (fail)
  go_wp2
  go_ret2
  refine ⟨ret_two ?_ ?_, below_drewN (Below.refl _ _) _⟩
  · have : l / y ≤ l := Nat.div_le_self _ _
    rw [← Int.natCast_ediv]
    exact Mul64.wrapN _ (by omega)
  · simp

theorem lz_c (y s : Nat) (hy : y < 18446744073709551616) (hs : 64 - (Lib.bitLen y : Int) = (s : Int)) (w : World) :
    Calls Try.prog 96 #[.int .u64 y] w fun e w' => e = .returned (.int .i64 (s : Nat)) ∧ w = w' := by
  have h := Try.bits_LeadingZeros64 (y : Int) w (by omega) (by omega)
  rw [Int.toNat_natCast, hs] at h
  exact h.mono fun _ _ ⟨a, b⟩ => ⟨a, b.symm⟩

set_option maxRecDepth 100000 in
set_option maxHeartbeats 2000000 in
theorem div64_c (h l y : Nat) (hh : h < y) (h0 : 0 < h) (hl : l < 18446744073709551616) (hy : y < 18446744073709551616) (w : World) :
    Calls Try.prog 94 #[.int .u64 h, .int .u64 l, .int .u64 y] w fun e w' => e = .returned (.tuple #[.int .u64 ((h * 18446744073709551616 + l) / y : Nat), .int .u64 ((h * 18446744073709551616 + l) % y : Nat)]) ∧ Below w.heap.size w w' := by
  obtain ⟨s, hs63, hs, hn1, hn2⟩ := norm_is (y := y) (by omega) hy
  have t : ((y : Int) == 0) = false := by rw [beq_eq_false_iff_ne]; omega
  have t1 : ¬ y ≤ h := by omega
  have t2 : ((h : Int) == 0) = false := by rw [beq_eq_false_iff_ne]; omega
  have Hs := Lib.hid hs
  obtain ⟨Y1, Y0, U, L1, L0, e1, e2, e3, e4, e5, e6, e7, D, l0, eT⟩ := setup hh hl hs63 hn1 hn2
  obtain ⟨Y, hY⟩ : ∃ Y, Y = y * 2 ^ s := ⟨_, rfl⟩
  obtain ⟨L, hL⟩ : ∃ L, L = l * 2 ^ s % 18446744073709551616 := ⟨_, rfl⟩
  have R1 : IntKind.u64.wrap ((y : Int) * 2 ^ s) = (Y : Int) := by
    rw [show (y : Int) * 2 ^ s = ((y * 2 ^ s : Nat) : Int) from by simp, ← hY]
    exact Mul64.wrapN _ (by omega)
  have R5 : IntKind.u64.wrap ((l : Int) * 2 ^ s) = (L : Int) := by
    rw [show (l : Int) * 2 ^ s = ((l * 2 ^ s : Nat) : Int) from by simp, hL]
    exact Mul64.wrapM _
  have R4 : bits .or .u64 (IntKind.u64.wrap ((h : Int) * 2 ^ s)) ((l : Int) / 2 ^ (64 - s)) = (U : Int) := by
    rw [show (h : Int) * 2 ^ s = ((h * 2 ^ s : Nat) : Int) from by simp, show (l : Int) / 2 ^ (64 - s) = ((l / 2 ^ (64 - s) : Nat) : Int) from by simp, Mul64.wrapN _ e5, ← e4]
    exact bits_or_u64_nat _ _ e5 (Nat.lt_of_le_of_lt (Nat.div_le_self _ _) hl)
  rw [← hY] at e1 e2 e3 hn1 hn2
  rw [← hL] at e6 e7
  have hL64 : L < 18446744073709551616 := by rw [hL]; exact Nat.mod_lt _ (by decide)
  have R2 : (Y : Int) / 4294967296 = (Y1 : Int) := by omega
  have R3 : bits .and .u64 (Y : Int) 4294967295 = (Y0 : Int) := by rw [Mul64.maskN _ hn2, e2]
  have R6 : (L : Int) / 4294967296 = (L1 : Int) := by omega
  have R7 : bits .and .u64 (L : Int) 4294967295 = (L0 : Int) := by rw [Mul64.maskN _ hL64, e7]
  obtain ⟨d1, d2, d0, dc, du⟩ := D
  obtain ⟨Q, hQ⟩ : ∃ Q, Q = U / Y1 := ⟨_, rfl⟩
  obtain ⟨P, hP⟩ : ∃ P, P = Q * Y1 := ⟨_, rfl⟩
  obtain ⟨R, hR⟩ : ∃ R, R = U % Y1 := ⟨_, rfl⟩
  have R8 : (U : Int) / (Y1 : Int) = (Q : Int) := by rw [hQ]; simp
  have hPU : P + R = U := by rw [hP, hQ, hR, Nat.mul_comm]; exact Nat.div_add_mod _ _
  have R9 : IntKind.u64.wrap ((Q : Int) * Y1) = (P : Int) := by
    rw [show (Q : Int) * Y1 = ((Q * Y1 : Nat) : Int) from by simp, ← hP]
    exact Mul64.wrapN _ (by omega)
  have R10 : (U : Int) - P = (R : Int) := by omega
  have hPle : P ≤ U := by omega
  have hQle : Q ≤ 4294967297 := by rw [hQ]; exact (guess_start ⟨d1, d2, d0, dc, du⟩).le
  have D : Digit U Y1 Y0 L1 := ⟨d1, d2, d0, dc, du⟩
  have hY' := Lib.hid hY; have eT' := Lib.hid eT; have e3' := Lib.hid e3; have hQ' := Lib.hid hQ; have hR' := Lib.hid hR
  have hU64 : U < 18446744073709551616 := by omega
  have eYe : Y = Y1 * 4294967296 + Y0 := e3
  obtain ⟨Q1, hQ1⟩ : ∃ Q1, Q1 = (U * 4294967296 + L1) / Y := ⟨_, rfl⟩
  obtain ⟨V, hV⟩ : ∃ V, V = (U * 4294967296 + L1) % Y := ⟨_, rfl⟩
  obtain ⟨P1, hP1⟩ : ∃ P1, P1 = Q1 * Y % 18446744073709551616 := ⟨_, rfl⟩
  have hVY0 : V < Y := by rw [hV]; exact Nat.mod_lt _ (by omega)
  have hVY : V < Y1 * 4294967296 + Y0 := by omega
  have hQ1l : Q1 ≤ 4294967295 := digit_lt (by omega) hQ1 (by omega) dc
  have T1 : IntKind.u64.wrap ((Q1 : Int) * Y) = (P1 : Int) := by
    rw [show (Q1 : Int) * Y = ((Q1 * Y : Nat) : Int) from by simp, hP1]
    exact Mul64.wrapM _
  have T2 : IntKind.u64.wrap (IntKind.u64.wrap (IntKind.u64.wrap ((U : Int) * 4294967296) + L1) - P1) = (V : Int) := sub_wrap hn2 (by omega) hQ1 hV hP1
  obtain ⟨Qb, hQb⟩ : ∃ Q, Q = V / Y1 := ⟨_, rfl⟩
  obtain ⟨Pb, hPb⟩ : ∃ P, P = Qb * Y1 := ⟨_, rfl⟩
  obtain ⟨Rb, hRb⟩ : ∃ R, R = V % Y1 := ⟨_, rfl⟩
  have T3 : (V : Int) / (Y1 : Int) = (Qb : Int) := by rw [hQb]; simp
  have hPbV : Pb + Rb = V := by rw [hPb, hQb, hRb, Nat.mul_comm]; exact Nat.div_add_mod _ _
  have T4 : IntKind.u64.wrap ((Qb : Int) * Y1) = (Pb : Int) := by
    rw [show (Qb : Int) * Y1 = ((Qb * Y1 : Nat) : Int) from by simp, ← hPb]
    exact Mul64.wrapN _ (by omega)
  have T5 : (V : Int) - Pb = (Rb : Int) := by omega
  have hPble : Pb ≤ V := by omega
  have hQble : Qb ≤ 4294967297 := by rw [hQb]; exact (guess_start (c := L0) ⟨d1, d2, d0, l0, hVY⟩).le
  obtain ⟨Q0, hQ0⟩ : ∃ Q0, Q0 = (V * 4294967296 + L0) / Y := ⟨_, rfl⟩
  obtain ⟨P0, hP0⟩ : ∃ P0, P0 = Q0 * Y % 18446744073709551616 := ⟨_, rfl⟩
  obtain ⟨W0, hW0⟩ : ∃ W0, W0 = (V * 4294967296 + L0) % Y := ⟨_, rfl⟩
  have hQ0l : Q0 ≤ 4294967295 := digit_lt (by omega) hQ0 (by omega) l0
  have T6 : IntKind.u64.wrap ((Q0 : Int) * Y) = (P0 : Int) := by
    rw [show (Q0 : Int) * Y = ((Q0 * Y : Nat) : Int) from by simp, hP0]
    exact Mul64.wrapM _
  have T7 : IntKind.u64.wrap (IntKind.u64.wrap (IntKind.u64.wrap ((V : Int) * 4294967296) + L0) - P0) = (W0 : Int) := sub_wrap hn2 (by omega) hQ0 hW0 hP0
  have hend : Q1 * 4294967296 + Q0 = (h * 18446744073709551616 + l) / y ∧ W0 / 2 ^ s = (h * 18446744073709551616 + l) % y := by
    have hd := digits (T := h * 18446744073709551616 + l) (y := y) (s := s) (u := U) (l1 := L1) (l0 := L0) (Y := Y) (by omega) hY'.out eT'.out
    rw [← hQ1, ← hV, ← hQ0, ← hW0] at hd
    exact hd
  have Hend := Lib.hid hend
  have hQb' := Lib.hid hQb; have hRb' := Lib.hid hRb; have Q1eq := Lib.hid hQ1; have Q0eq := Lib.hid hQ0
  clear hs e1 e2 e3 e4 e5 e6 e7 eT hY hL hQ hP hR hPU eYe hQ1 hV hP1 hQb hPb hRb hPbV hQ0 hP0 hW0 hend
  go_enter Try.func94, Try.ntmps94
  go_upto_block 0 with (go_at_call 96; refine (lz_c y s hy Hs.out _).mono ?_; rintro e w' ⟨rfl, rfl⟩)
  go_cut [15, 16] (fun q r wx => q = .int .u64 (Q1 : Nat) ∧ w = wx)
  case first =>
    go_wp2_with fail
    go_loopw [15, 16] (fun q r wx => ∃ a b : Nat, q = .int .u64 a ∧ r = .int .u64 b ∧ Guess U Y1 Y0 L1 a b ∧ wx = w) (fun q _ _ => (intOf q).toNat)
    case atStart =>
      exact ⟨Q, R, rfl, rfl, by rw [hQ'.out, hR'.out]; exact guess_start D, rfl⟩
    case round =>
      obtain ⟨a, b, rfl, rfl, G, rfl⟩ := hrel
      have HD := Lib.hid D
      have HG := Lib.hid G
      obtain ⟨ge, gl, gr, gu⟩ := G
      clear ge gu D R1 R2 R3 R4 R5 R6 R7 R8 R9 R10 T1 T2 T3 T4 T5 T6
      obtain ⟨A, hA⟩ : ∃ A : Int, A = (a : Int) := ⟨_, rfl⟩
      obtain ⟨C, hC⟩ : ∃ C : Int, C = (b : Int) := ⟨_, rfl⟩
      rw [← hA, ← hC]
      have i1 : 0 ≤ A := by omega
      have i2 : A ≤ 4294967297 := by omega
      have i3 : 0 ≤ C := by omega
      have i4 : C < 4294967296 := by omega
      have HA := Lib.hid hA
      have HC := Lib.hid hC
      clear gl gr
      by_cases hyes : 4294967296 ≤ a ∨ 4294967296 * b + L1 < a * Y0
      · obtain ⟨ha, s1, s2, s3⟩ := guess_step HD.out HG.out hyes
        have ha' : 1 ≤ A := by omega
        have Ha := Lib.hid ha
        have S1 := Lib.hid s1
        have S3 := Lib.hid s3
        have S2 := Lib.hid s2
        clear s1 s3 s2 ha
        by_cases hbig : 4294967296 ≤ a
        · have hb' : 4294967296 ≤ A := by omega
          clear hyes hbig hA hC
          go_wp2
          · have hx : 4294967296 ≤ C + (Y1 : Int) := by assumption
            go_meet
            exact ⟨ival (brk HD.out Ha.out S1.out S2.out S3.out HA.out HC.out hx Q1eq.out e3'.out), rfl⟩
          · have hx : C + (Y1 : Int) < 4294967296 := by omega
            exact ⟨⟨a - 1, b + Y1, ival (by have := HA.out; have := Ha.out; omega), ival (by have := HC.out; omega), ⟨S1.out, by have := S2.out; omega, by have := HC.out; omega, S3.out⟩, trivial⟩, by simp [intOf]; omega⟩
        · have hb' : ¬ 4294967296 ≤ A := by omega
          have hm := small_prod (q := a) (y0 := Y0) (by omega) d0
          obtain ⟨m, hm'⟩ : ∃ m : Int, m = ((a * Y0 : Nat) : Int) := ⟨_, rfl⟩
          have R1 : IntKind.u64.wrap (A * Y0) = m := by
            rw [hA, show (a : Int) * Y0 = ((a * Y0 : Nat) : Int) from by simp, hm']
            exact Mul64.wrapN _ hm
          have ht : 4294967296 * C + L1 < m := by omega
          have hm0 : 0 ≤ m := by omega
          clear hm' hyes hA hC hbig hm
          go_wp2
          · have hx : 4294967296 ≤ C + (Y1 : Int) := by assumption
            go_meet
            exact ⟨ival (brk HD.out Ha.out S1.out S2.out S3.out HA.out HC.out hx Q1eq.out e3'.out), rfl⟩
          · have hx : C + (Y1 : Int) < 4294967296 := by omega
            exact ⟨⟨a - 1, b + Y1, ival (by have := HA.out; have := Ha.out; omega), ival (by have := HC.out; omega), ⟨S1.out, by have := S2.out; omega, by have := HC.out; omega, S3.out⟩, trivial⟩, by simp [intOf]; omega⟩
      · have hb' : ¬ 4294967296 ≤ A := by omega
        have hm := small_prod (q := a) (y0 := Y0) (by omega) d0
        obtain ⟨m, hm'⟩ : ∃ m : Int, m = ((a * Y0 : Nat) : Int) := ⟨_, rfl⟩
        have hno : ¬ 4294967296 * b + L1 < a * Y0 := by omega
        have HE := Lib.hid (guess_end HD.out HG.out hno)
        have R1 : IntKind.u64.wrap (A * Y0) = m := by
          rw [hA, show (a : Int) * Y0 = ((a * Y0 : Nat) : Int) from by simp, hm']
          exact Mul64.wrapN _ hm
        have ht : ¬ 4294967296 * C + L1 < m := by omega
        clear hm' hyes hno hA hC hm
        go_wp2
        go_meet
        exact ⟨ival (by rw [HA.out, Q1eq.out, e3'.out, HE.out]), rfl⟩
  case rest =>
  obtain ⟨rfl, rfl⟩ := hcut
  have D2 : Digit V Y1 Y0 L0 := ⟨d1, d2, d0, l0, hVY⟩
  go_upto_block 2 with fail
  go_cut [18, 16] (fun q r wx => q = .int .u64 (Q0 : Nat) ∧ w = wx)
  case first =>
    go_wp2_with fail
    go_loopw [18, 16] (fun q r wx => ∃ a b : Nat, q = .int .u64 a ∧ r = .int .u64 b ∧ Guess V Y1 Y0 L0 a b ∧ wx = w) (fun q _ _ => (intOf q).toNat)
    case atStart =>
      exact ⟨Qb, Rb, rfl, rfl, by rw [hQb'.out, hRb'.out]; exact guess_start D2, rfl⟩
    case round =>
      obtain ⟨a, b, rfl, rfl, G, rfl⟩ := hrel
      have HD := Lib.hid D2
      have HG := Lib.hid G
      obtain ⟨ge, gl, gr, gu⟩ := G
      clear ge gu D R1 R2 R3 R4 R5 R6 R7 R8 R9 R10 T1 T2 T3 T4 T5 T6 T7 D2
      obtain ⟨A, hA⟩ : ∃ A : Int, A = (a : Int) := ⟨_, rfl⟩
      obtain ⟨C, hC⟩ : ∃ C : Int, C = (b : Int) := ⟨_, rfl⟩
      rw [← hA, ← hC]
      have i1 : 0 ≤ A := by omega
      have i2 : A ≤ 4294967297 := by omega
      have i3 : 0 ≤ C := by omega
      have i4 : C < 4294967296 := by omega
      have HA := Lib.hid hA
      have HC := Lib.hid hC
      clear gl gr
      by_cases hyes : 4294967296 ≤ a ∨ 4294967296 * b + L0 < a * Y0
      · obtain ⟨ha, s1, s2, s3⟩ := guess_step HD.out HG.out hyes
        have ha' : 1 ≤ A := by omega
        have Ha := Lib.hid ha
        have S1 := Lib.hid s1
        have S3 := Lib.hid s3
        have S2 := Lib.hid s2
        clear s1 s3 s2 ha
        by_cases hbig : 4294967296 ≤ a
        · have hb' : 4294967296 ≤ A := by omega
          clear hyes hbig hA hC
          go_wp2
          · have hx : 4294967296 ≤ C + (Y1 : Int) := by assumption
            go_meet
            exact ⟨ival (brk HD.out Ha.out S1.out S2.out S3.out HA.out HC.out hx Q0eq.out e3'.out), rfl⟩
          · have hx : C + (Y1 : Int) < 4294967296 := by omega
            exact ⟨⟨a - 1, b + Y1, ival (by have := HA.out; have := Ha.out; omega), ival (by have := HC.out; omega), ⟨S1.out, by have := S2.out; omega, by have := HC.out; omega, S3.out⟩, trivial⟩, by simp [intOf]; omega⟩
        · have hb' : ¬ 4294967296 ≤ A := by omega
          have hm := small_prod (q := a) (y0 := Y0) (by omega) d0
          obtain ⟨m, hm'⟩ : ∃ m : Int, m = ((a * Y0 : Nat) : Int) := ⟨_, rfl⟩
          have R1 : IntKind.u64.wrap (A * Y0) = m := by
            rw [hA, show (a : Int) * Y0 = ((a * Y0 : Nat) : Int) from by simp, hm']
            exact Mul64.wrapN _ hm
          have ht : 4294967296 * C + L0 < m := by omega
          have hm0 : 0 ≤ m := by omega
          clear hm' hyes hA hC hbig hm
          go_wp2
          · have hx : 4294967296 ≤ C + (Y1 : Int) := by assumption
            go_meet
            exact ⟨ival (brk HD.out Ha.out S1.out S2.out S3.out HA.out HC.out hx Q0eq.out e3'.out), rfl⟩
          · have hx : C + (Y1 : Int) < 4294967296 := by omega
            exact ⟨⟨a - 1, b + Y1, ival (by have := HA.out; have := Ha.out; omega), ival (by have := HC.out; omega), ⟨S1.out, by have := S2.out; omega, by have := HC.out; omega, S3.out⟩, trivial⟩, by simp [intOf]; omega⟩
      · have hb' : ¬ 4294967296 ≤ A := by omega
        have hm := small_prod (q := a) (y0 := Y0) (by omega) d0
        obtain ⟨m, hm'⟩ : ∃ m : Int, m = ((a * Y0 : Nat) : Int) := ⟨_, rfl⟩
        have hno : ¬ 4294967296 * b + L0 < a * Y0 := by omega
        have HE := Lib.hid (guess_end HD.out HG.out hno)
        have R1 : IntKind.u64.wrap (A * Y0) = m := by
          rw [hA, show (a : Int) * Y0 = ((a * Y0 : Nat) : Int) from by simp, hm']
          exact Mul64.wrapN _ hm
        have ht : ¬ 4294967296 * C + L0 < m := by omega
        clear hm' hyes hno hA hC hm
        go_wp2
        go_meet
        exact ⟨ival (by rw [HA.out, Q0eq.out, e3'.out, HE.out]), rfl⟩
  case rest =>
  obtain ⟨rfl, rfl⟩ := hcut
  go_wp2
  go_ret2
  refine ⟨ret_two ?_ ?_, Below.refl _ _⟩
  · rw [← Hend.out.1]; omega
  · rw [← Hend.out.2]; simp


/-- A quotient of words, whatever the upper half. -/
theorem div64_any (h l y : Nat) (hh : h < y) (hl : l < 18446744073709551616) (hy : y < 18446744073709551616) (w : World) :
    Calls Try.prog 94 #[.int .u64 h, .int .u64 l, .int .u64 y] w fun e w' => e = .returned (.tuple #[.int .u64 ((h * 18446744073709551616 + l) / y : Nat), .int .u64 ((h * 18446744073709551616 + l) % y : Nat)]) ∧ Below w.heap.size w w' := by
  rcases Nat.eq_zero_or_pos h with h0 | h0
  · subst h0
    have := div64_low l y hl (by omega) hy w
    rw [Nat.zero_mul, Nat.zero_add]
    exact this
  · exact div64_c h l y hh h0 hl hy w
theorem div64_q (h l y q r : Nat) (hh : h < y) (hl : l < 18446744073709551616) (hy : y < 18446744073709551616) (hq : (h * 18446744073709551616 + l) / y = q) (hr : (h * 18446744073709551616 + l) % y = r) (w : World) :
    Calls Try.prog 94 #[.int .u64 h, .int .u64 l, .int .u64 y] w fun e w' => e = .returned (.tuple #[.int .u64 (q : Nat), .int .u64 (r : Nat)]) ∧ Below w.heap.size w w' := by
  subst hq hr
  exact div64_any h l y hh hl hy w

set_option maxRecDepth 100000 in
theorem div_no (v : Nat) (w : World) :
    Calls Try.prog 91 #[.agg #[.int .u64 (hiOf v : Nat), .int .u64 (loOf v : Nat)], .int .u64 0] w fun e w' =>
      e = .returned (.tuple #[.agg #[.int .u64 0, .int .u64 0], .int .u64 0, .int .i64 1]) ∧ Below w.heap.size w w' := by
  go_enter Try.func91, Try.ntmps91
  go_wp2
  exact bodyPost_ret (v := .tuple #[.agg #[.int .u64 0, .int .u64 0], .int .u64 0, .int .i64 1]) (by simp [results, Try.results91, go_sem]) rfl
        ⟨rfl, ((Below.refl _ _).alloc (Nat.le_refl _) _).alloc (by simp) _⟩

set_option maxRecDepth 100000 in
set_option maxHeartbeats 1000000 in
theorem div_c (v d : Nat) (hv : v < M) (hd0 : 0 < d) (hd : d < 18446744073709551616) (w : World) :
    Calls Try.prog 91 #[.agg #[.int .u64 (hiOf v : Nat), .int .u64 (loOf v : Nat)], .int .u64 d] w fun e w' =>
      e = .returned (.tuple #[.agg #[.int .u64 (hiOf (v / d) : Nat), .int .u64 (loOf (v / d) : Nat)], .int .u64 (v % d : Nat), .int .i64 0]) ∧ Below w.heap.size w w' := by
  obtain ⟨g1, g2, g3⟩ := long_div hv hd0 hd
  have hh := hiOf_lt v
  have hl := loOf_lt v
  have r1 : hiOf v % d < d := Nat.mod_lt _ hd0
  have b1 : hiOf v / d ≤ hiOf v := Nat.div_le_self _ _
  obtain ⟨R, hR⟩ : ∃ R, hiOf v % d = R := ⟨_, rfl⟩
  obtain ⟨Q, hQ⟩ : ∃ Q, hiOf v / d = Q := ⟨_, rfl⟩
  rw [hR] at g2 g3 r1
  rw [hQ] at g1 b1
  have td : ((d : Int) == 0) = false := by rw [beq_eq_false_iff_ne]; omega
  have T1 : (hiOf v : Int) / (d : Int) = (Q : Int) := by rw [← hQ]; simp
  have T2 : (hiOf v : Int) % (d : Int) = (R : Int) := by rw [← hR]; simp
  have G1 := Lib.hid g1
  have G2 := Lib.hid g2
  have G3 := Lib.hid g3
  clear g1 g2 g3 hR hQ hv
  go_enter Try.func91, Try.ntmps91
  go_wp2_with fail
  go_quiet (fail)
  go_wp2_with (go_at_call 94; refine (div64_q R (loOf v) d _ _ r1 hl hd G2.out G3.out _).mono ?_; rintro e w1 ⟨rfl, hb1⟩; obtain ⟨hc, hf⟩ := bcell hb1; have hz1 : w.heap.size + 1 + 1 ≤ w1.heap.size := (by simpa using hb1.size))
  have hb0 : Below w.heap.size w w1 := (below_drewN (((Below.refl _ _).alloc (Nat.le_refl _) _).alloc (by simp) _) _).trans (hb1.mono (by simp; omega))
  refine bodyPost_ret (v := .tuple #[.agg #[.int .u64 (Q : Nat), .int .u64 (loOf (v / d) : Nat)], .int .u64 ((v : Int) % d), .int .i64 0]) (by simp [results, Try.results91, go_sem, hc]) rfl
    ⟨ret_div (by rw [G1.out]) rfl (by simp), below_put hb0 (by omega) _ _⟩

theorem div_q (v d q r : Nat) (hv : v < M) (hd0 : 0 < d) (hd : d < 18446744073709551616) (hq : v / d = q) (hr : v % d = r) (w : World) :
    Calls Try.prog 91 #[.agg #[.int .u64 (hiOf v : Nat), .int .u64 (loOf v : Nat)], .int .u64 d] w fun e w' =>
      e = .returned (.tuple #[.agg #[.int .u64 (hiOf q : Nat), .int .u64 (loOf q : Nat)], .int .u64 (r : Nat), .int .i64 0]) ∧ Below w.heap.size w w' := by
  subst hq hr
  exact div_c v d hv hd0 hd w

end Go.Proofs.Ytkgajlklhcmmcaa
