/-
  Contracts over this seat of translation: isobar/isobarref01.Div, isobar/isobarref01.bit, isobar/isobarref01.with: what each returns, and that nothing that was there has turned.
-/
import Derived.Test.YthnokbdkgehiaaaWideRAdd
namespace Go.Proofs.Ythnokbdkgehiaaa
open Go.RowKit
set_option maxRecDepth 100000 in
theorem rdiv_no (v : Nat) (w : World) :
    Calls Try.prog 66 #[.agg #[.int .u64 (hiOf v : Nat), .int .u64 (loOf v : Nat)], .int .u64 0] w fun e w' =>
      e = .returned (.tuple #[.agg #[.int .u64 0, .int .u64 0], .int .u64 0, .int .i64 1]) ∧ Below w.heap.size w w' := by
  go_enter Try.func66, Try.ntmps66
  go_wp2
  exact bodyPost_ret (v := .tuple #[.agg #[.int .u64 0, .int .u64 0], .int .u64 0, .int .i64 1]) (by simp [results, Try.results66, go_sem]) rfl
        ⟨rfl, ((Below.refl _ _).alloc (Nat.le_refl _) _).alloc (by simp) _⟩

set_option maxRecDepth 100000 in
set_option maxHeartbeats 1000000 in
theorem rdiv_c (v d : Nat) (hv : v < M) (hd0 : 0 < d) (hd : d < 18446744073709551616) (w : World) :
    Calls Try.prog 66 #[.agg #[.int .u64 (hiOf v : Nat), .int .u64 (loOf v : Nat)], .int .u64 d] w fun e w' =>
      e = .returned (.tuple #[.agg #[.int .u64 (hiOf (v / d) : Nat), .int .u64 (loOf (v / d) : Nat)], .int .u64 (v % d : Nat), .int .i64 0]) ∧ Below w.heap.size w w' := by
  have HV := Lib.hid hv
  have td : ((d : Int) == 0) = false := by rw [beq_eq_false_iff_ne]; omega
  clear hv
  go_enter Try.func66, Try.ntmps66
  go_wp2
  go_loopw [8, 9] (fun r i wr => ∃ j : Nat, j ≤ 128 ∧ i = .int .i64 ((j : Int) - 1) ∧ r = .int .u64 (rN v d j : Nat) ∧ Has wr (w.heap.size) v ∧ Has wr (w.heap.size + 1) 0 ∧ Has wr (w.heap.size + 1 + 1) (qN v d j) ∧ Below w.heap.size w wr)
    (fun _ i _ => (intOf i + 1).toNat)
  case atStart =>
    have e1 := div_start (d := d) HV.out
    refine ⟨128, by omega, rfl, ?_, ⟨by simp; omega, by go_simp, by go_simp, by go_simp, by go_simp⟩, ⟨by simp, by rw [hi0]; go_simp, by rw [lo0]; go_simp, by go_simp, by go_simp⟩, ?_, ?_⟩
    · rw [e1.2]; simp
    · rw [e1.1]
      exact ⟨by simp, by rw [hi0]; go_simp, by rw [lo0]; go_simp, by go_simp, by go_simp⟩
    · exact (((Below.refl _ _).alloc (Nat.le_refl _) _).alloc (by simp) _).alloc (by simp; omega) _
  case round =>
    obtain ⟨j, hj, rfl, rfl, h0, h1, h2, hb⟩ := hrel
    have H0 := Lib.hid h0; have H1 := Lib.hid h1; have H2 := Lib.hid h2; have HB := Lib.hid hb
    obtain ⟨h0s, h0h, h0l, -, -⟩ := h0
    obtain ⟨h2s, h2h, h2l, h2fh, h2fl⟩ := h2
    cases j with
    | succ i =>
      have e1 : ((i + 1 : Nat) : Int) - 1 = (i : Int) := by omega
      rw [e1]
      have hbn := bitN_le v i
      have hr := rN_lt (v := v) (j := i + 1) hd0
      have HQ := Lib.hid (q_bit (v := v) (d := d) (i := i))
      have hq := qN_lt (d := d) (j := i + 1) HV.out
      have hO := twice_or (rN v d (i + 1)) (bitN v i) (by omega) hbn
      have HY := Lib.hid (div_step_yes (v := v) (i := i) hd0)
      have HN := Lib.hid (div_step_no (v := v) (i := i) hd0)
      clear e1 h1 hb
      obtain ⟨R, hR⟩ : ∃ R, R = rN v d (i + 1) := ⟨_, rfl⟩
      rw [← hR] at hO hr HY HN ⊢
      obtain ⟨S, hS⟩ : ∃ S, S = (2 * R + bitN v i) % 18446744073709551616 := ⟨_, rfl⟩
      rw [← hS] at hO
      have hS64 : S < 18446744073709551616 := by omega
      have HS := Lib.hid hS
      have HR := Lib.hid hR
      clear hR
      by_cases hy : d ≤ 2 * R + bitN v i
      · have hW : IntKind.u64.wrap ((S : Int) - d) = ((2 * R + bitN v i - d : Nat) : Int) := by rw [IntKind.wrap_u64]; omega
        have HW := Lib.hid hW
        have Hy := Lib.hid hy
        by_cases ht : R / 9223372036854775808 = 1
        · have t : ((R : Int) / 9223372036854775808 == 1) = true := by rw [beq_iff_eq]; omega
          clear hS hW hy ht
          go_wp2_with (first
            | (go_at_call 63; refine (bit_c _ HV.out _ (by omega) _).mono ?_; rintro e w1 ⟨rfl, hb1⟩; obtain ⟨hc, hf⟩ := bcell hb1; have hz1 : w.heap.size + 1 + 1 < w1.heap.size := Nat.lt_of_lt_of_le h2s hb1.size)
            | (go_at_call 64; refine (with_c _ hq _ (by omega) HQ.out _).mono ?_; rintro e w2 ⟨rfl, hb2⟩; obtain ⟨hc2, hf2⟩ := bcell hb2; have hz2 : w.heap.size + 1 + 1 < w2.heap.size := Nat.lt_of_lt_of_le hz1 hb2.size))
          have hy' := HY.out Hy.out
          refine ⟨⟨i, by omega, rfl, by rw [HW.out, hy'.2], ((H0.out.below hb1).below hb2).put_other (by omega) _ _, ((H1.out.below hb1).below hb2).put_other (by omega) _ _, ?_, below_put (HB.out.trans ((below_next hb1 hb2).mono HB.out.size)) (by omega) _ _⟩, by simp [intOf]⟩
          rw [hy'.1]
          exact ((H2.out.below hb1).below hb2).put _
        · have t : ((R : Int) / 9223372036854775808 == 1) = false := by rw [beq_eq_false_iff_ne]; omega
          have t2 : d ≤ S := by omega
          have HS2 : Hid (S = 2 * R + bitN v i) := (by omega : S = 2 * R + bitN v i)
          clear hS hW hy ht
          go_wp2_with (first
            | (go_at_call 63; refine (bit_c _ HV.out _ (by omega) _).mono ?_; rintro e w1 ⟨rfl, hb1⟩; obtain ⟨hc, hf⟩ := bcell hb1; have hz1 : w.heap.size + 1 + 1 < w1.heap.size := Nat.lt_of_lt_of_le h2s hb1.size)
            | (go_at_call 64; refine (with_c _ hq _ (by omega) HQ.out _).mono ?_; rintro e w2 ⟨rfl, hb2⟩; obtain ⟨hc2, hf2⟩ := bcell hb2; have hz2 : w.heap.size + 1 + 1 < w2.heap.size := Nat.lt_of_lt_of_le hz1 hb2.size))
          have hy' := HY.out Hy.out
          refine ⟨⟨i, by omega, rfl, by rw [hy'.2]; have := HS2.out; have := Hy.out; go_num, ((H0.out.below hb1).below hb2).put_other (by omega) _ _, ((H1.out.below hb1).below hb2).put_other (by omega) _ _, ?_, below_put (HB.out.trans ((below_next hb1 hb2).mono HB.out.size)) (by omega) _ _⟩, by simp [intOf]⟩
          rw [hy'.1]
          exact ((H2.out.below hb1).below hb2).put _
      · have Hy := Lib.hid hy
        have t : ((R : Int) / 9223372036854775808 == 1) = false := by rw [beq_eq_false_iff_ne]; omega
        have t2 : ¬ d ≤ S := by omega
        have HS2 : Hid (S = 2 * R + bitN v i) := (by omega : S = 2 * R + bitN v i)
        clear hS hy
        go_wp2_with (go_at_call 63; refine (bit_c _ HV.out _ (by omega) _).mono ?_; rintro e w1 ⟨rfl, hb1⟩; obtain ⟨hc, hf⟩ := bcell hb1; have hz1 : w.heap.size + 1 + 1 < w1.heap.size := Nat.lt_of_lt_of_le h2s hb1.size)
        have hy' := HN.out Hy.out
        refine ⟨⟨i, by omega, rfl, by rw [hy'.2, HS2.out], H0.out.below hb1, H1.out.below hb1, ?_, HB.out.trans (hb1.mono HB.out.size)⟩, by simp [intOf]⟩
        rw [hy'.1]
        exact H2.out.below hb1
    | zero =>
      obtain ⟨h1s, h1h, h1l, h1fh, h1fl⟩ := h1
      have he := div_end v d
      have HE := Lib.hid he
      clear he hb h0s h0h h0l
      go_wp2
      refine bodyPost_ret (v := .tuple #[.agg #[.int .u64 (hiOf (qN v d 0) : Nat), .int .u64 (loOf (qN v d 0) : Nat)], .int .u64 (rN v d 0 : Nat), .int .i64 0]) (by simp [results, Try.results66, go_sem, h1h, h1l]) rfl
        ⟨ret_div (by rw [HE.out.1]) (by rw [HE.out.1]) (by rw [HE.out.2]), below_put HB.out (by omega) _ _⟩

theorem rdiv_q (v d q r : Nat) (hv : v < M) (hd0 : 0 < d) (hd : d < 18446744073709551616) (hq : v / d = q) (hr : v % d = r) (w : World) :
    Calls Try.prog 66 #[.agg #[.int .u64 (hiOf v : Nat), .int .u64 (loOf v : Nat)], .int .u64 d] w fun e w' =>
      e = .returned (.tuple #[.agg #[.int .u64 (hiOf q : Nat), .int .u64 (loOf q : Nat)], .int .u64 (r : Nat), .int .i64 0]) ∧ Below w.heap.size w w' := by
  subst hq hr
  exact rdiv_c v d hv hd0 hd w

end Go.Proofs.Ythnokbdkgehiaaa
