/-
  Contracts over this seat of translation: isobar/isobarref01.Mul, isobar/isobarref01.Add, isobar/isobarref01.Double: what each returns, and that nothing that was there has turned.
-/
import Derived.Test.YtcppcfjejalggaaWideRAdd
import Derived.Test.YtcppcfjejalggaaWideRDbl
namespace Go.Proofs.Ytcppcfjejalggaa
open Go.RowKit
set_option maxRecDepth 100000 in
set_option maxHeartbeats 1000000 in
theorem rmul_c (x y : Nat) (hx : x < 18446744073709551616) (hy : y < 18446744073709551616) (w : World) :
    Calls Try.prog 30 #[.int .u64 x, .int .u64 y] w fun e w' => e = .returned (.agg #[.int .u64 (hiOf (x * y) : Nat), .int .u64 (loOf (x * y) : Nat)]) ∧ Below w.heap.size w w' := by
  go_enter Try.func30, Try.ntmps30
  go_wp2
  go_loopw [7] (fun i wr => ∃ k : Nat, k ≤ 64 ∧ i = .int .i64 k ∧ Has wr (w.heap.size) 0 ∧ Has wr (w.heap.size + 1) (x * (y % 2 ^ k)) ∧ Has wr (w.heap.size + 1 + 1) (x * 2 ^ k) ∧ Below w.heap.size w wr)
    (fun i _ => 64 - (intOf i).toNat)
  case atStart =>
    have e1 : x * (y % 2 ^ 0) = 0 := by simp [Nat.mod_one]
    have e2 : hiOf (x * 2 ^ 0) = 0 := by simp only [Nat.pow_zero, Nat.mul_one]; unfold hiOf; omega
    have e3 : loOf (x * 2 ^ 0) = x := by simp only [Nat.pow_zero, Nat.mul_one]; unfold loOf; omega
    refine ⟨0, by omega, rfl, ⟨by simp; omega, by rw [hi0]; go_simp, by rw [lo0]; go_simp, by go_simp, by go_simp⟩, ?_, ⟨by simp, by rw [e2]; go_simp, by rw [e3]; go_simp, by go_simp, by go_simp⟩, ?_⟩
    · rw [e1]
      exact ⟨by simp, by rw [hi0]; go_simp, by rw [lo0]; go_simp, by go_simp, by go_simp⟩
    · exact (((Below.refl _ _).alloc (Nat.le_refl _) _).alloc (by simp) _).alloc (by simp; omega) _
  case round =>
    obtain ⟨k, hk, rfl, h0, h1, h2, hb⟩ := hrel
    have H0 := Lib.hid h0; have H1 := Lib.hid h1; have H2 := Lib.hid h2; have HB := Lib.hid hb
    obtain ⟨h1s, h1h, h1l, h1fh, h1fl⟩ := h1
    obtain ⟨h2s, h2h, h2l, h2fh, h2fl⟩ := h2
    by_cases hlt : k < 64
    · have HA := Lib.hid (and_bit y k hy)
      have hp1 := some_lt (k := k) hx hy
      have hp2 := part_lt (k := k) hx (by omega)
      have hs1 := mul_step x y k
      have HS := Lib.hid hs1
      have hbn := bitN_le y k
      clear h0 hb hs1
      by_cases hbit : bitN y k = 1
      · have t : (bits .and .u64 ((y : Int) / 2 ^ k) 1 == 1) = true := by rw [HA.out, beq_iff_eq]; unfold bitN at hbit; omega
        have HBit := Lib.hid hbit
        clear hbit
        go_wp2_with (first
          | (go_at_call 32; refine (radd_c _ _ hp1 hp2 _).mono ?_; rintro e w1 ⟨rfl, hb1⟩; obtain ⟨hc, hf⟩ := bcell hb1; have hz1 : w.heap.size + 1 + 1 < w1.heap.size := Nat.lt_of_lt_of_le h2s hb1.size)
          | (go_at_call 31; refine (dblm_c _ _).mono ?_; rintro e w2 ⟨rfl, hb2⟩; obtain ⟨hc2, hf2⟩ := bcell hb2))
        have K1 := (H1.out.below hb1).put (x * (y % 2 ^ k) + x * 2 ^ k)
        have K0 := (H0.out.below hb1).put_other (b := w.heap.size + 1) (by omega) (.int .u64 (hiOf (x * (y % 2 ^ k) + x * 2 ^ k) : Nat)) (.int .u64 (loOf (x * (y % 2 ^ k) + x * 2 ^ k) : Nat))
        have K2 := (H2.out.below hb1).put_other (b := w.heap.size + 1) (by omega) (.int .u64 (hiOf (x * (y % 2 ^ k) + x * 2 ^ k) : Nat)) (.int .u64 (loOf (x * (y % 2 ^ k) + x * 2 ^ k) : Nat))
        have KB := below_put (b := w.heap.size + 1) (HB.out.trans (hb1.mono HB.out.size)) (by omega) (.int .u64 (hiOf (x * (y % 2 ^ k) + x * 2 ^ k) : Nat)) (.int .u64 (loOf (x * (y % 2 ^ k) + x * 2 ^ k) : Nat))
        have hs := HS.out
        rw [HBit.out, Nat.mul_one] at hs
        refine ⟨⟨k + 1, by omega, by go_num, (K0.below hb2).put_other (by omega) _ _, ?_, ?_, below_put (KB.trans (hb2.mono KB.size)) (by omega) _ _⟩, by simp [intOf]; omega⟩
        · rw [hs]
          exact (K1.below hb2).put_other (by omega) _ _
        · rw [← twice_part]
          exact (K2.below hb2).put _
      · have t : (bits .and .u64 ((y : Int) / 2 ^ k) 1 == 1) = false := by rw [HA.out, beq_eq_false_iff_ne]; unfold bitN at hbit hbn; omega
        have HBit := Lib.hid hbit
        clear hbit
        go_wp2_with (go_at_call 31; refine (dblm_c _ _).mono ?_; rintro e w1 ⟨rfl, hb1⟩; obtain ⟨hc, hf⟩ := bcell hb1)
        have hs := HS.out
        rw [show bitN y k = 0 from by have := HBit.out; omega, Nat.mul_zero, Nat.add_zero] at hs
        refine ⟨⟨k + 1, by omega, by go_num, (H0.out.below hb1).put_other (by omega) _ _, ?_, ?_, below_put (HB.out.trans (hb1.mono HB.out.size)) (by omega) _ _⟩, by simp [intOf]; omega⟩
        · rw [hs]
          exact (H1.out.below hb1).put_other (by omega) _ _
        · rw [← twice_part]
          exact (H2.out.below hb1).put _
    · obtain rfl : k = 64 := by omega
      obtain ⟨h0s, h0h, h0l, h0fh, h0fl⟩ := h0
      clear hb h2s h2h h2l h2fh h2fl
      go_wp2
      have e : y % 2 ^ 64 = y := Nat.mod_eq_of_lt hy
      refine bodyPost_ret (v := .agg #[.int .u64 (hiOf (x * (y % 2 ^ 64)) : Nat), .int .u64 (loOf (x * (y % 2 ^ 64)) : Nat)]) (by simp [results, Try.results30, go_sem, h0h, h0l]) rfl
        ⟨ret_wide (by rw [e]) (by rw [e]), below_put HB.out (by omega) _ _⟩

end Go.Proofs.Ytcppcfjejalggaa
