/-
  The document's own product and shift, bit by bit: the contracts of isobarref01.Mul and isobarref01.Shift.
-/
import Derived.Test.YtbkjmcpdeckcgaaRefA
import Derived.Test.YtbkjmcpdeckcgaaMathB
namespace Go.Proofs.Ytbkjmcpdeckcgaa
open Go.RowKit

theorem Has.alloc {w : World} {b v : Nat} (h : Has w b v) (o : Obj) : Has (w.alloc o) b v := h.below ((Below.refl _ _).alloc (Nat.le_refl _) o)

/-- Twice a number that is known but for 2^128. -/
theorem dblm_c (s : Nat) (w : World) :
    Calls Try.prog 24 #[.agg #[.int .u64 (hiOf s : Nat), .int .u64 (loOf s : Nat)]] w fun e w' =>
      e = .returned (.tuple #[.agg #[.int .u64 (hiOf (2 * s) : Nat), .int .u64 (loOf (2 * s) : Nat)], .bool (ovf (2 * (s % M)))]) ∧ Below w.heap.size w w' := by
  have h := dbl_c (s % M) (Nat.mod_lt _ (by decide)) w
  rw [mod_hi, mod_lo, (dbl_mod_hi s).1, (dbl_mod_hi s).2] at h
  exact h

set_option maxRecDepth 100000 in
set_option maxHeartbeats 1000000 in
theorem rmul_c (x y : Nat) (hx : x < 18446744073709551616) (hy : y < 18446744073709551616) (w : World) :
    Calls Try.prog 10 #[.int .u64 x, .int .u64 y] w fun e w' => e = .returned (.agg #[.int .u64 (hiOf (x * y) : Nat), .int .u64 (loOf (x * y) : Nat)]) ∧ Below w.heap.size w w' := by
  go_enter Try.func10, Try.ntmps10
  go_wp2
  go_loopw [7] (fun i wr => ∃ k : Nat, k ≤ 64 ∧ i = .int .i64 k ∧ Has wr (w.heap.size) 0 ∧ Has wr (w.heap.size + 1) (x * (y % 2 ^ k)) ∧ Has wr (w.heap.size + 1 + 1) (x * 2 ^ k) ∧ Below w.heap.size w wr)
    (fun i _ => 64 - (intOf i).toNat)
  case atStart =>
    have e1 : x * (y % 2 ^ 0) = 0 := by simp [Nat.mod_one]
    have e2 : hiOf (x * 2 ^ 0) = 0 := by simp only [Nat.pow_zero, Nat.mul_one]; unfold hiOf; omega
    have e3 : loOf (x * 2 ^ 0) = x := by simp only [Nat.pow_zero, Nat.mul_one]; unfold loOf; omega
    refine ⟨0, by omega, rfl, ⟨by simp; omega, by rw [hi0]; go_simp, by rw [lo0]; go_simp, by go_simp, by go_simp⟩, ?_, ⟨by simp, by rw [e2]; go_simp, by rw [e3]; go_simp, by go_simp, by go_simp⟩, ?_⟩
    · rw [e1]
      exact ⟨by simp, by rw [hi0]; go_simp, by rw [lo0]; go_simp, by go_simp, by go_simp⟩
    · exact (((Below.refl _ _).alloc (Nat.le_refl _) _).alloc (by simp) _).alloc (by simp; omega) _
  case round =>
    obtain ⟨k, hk, rfl, h0, h1, h2, hb⟩ := hrel
    have H0 := Lib.hid h0; have H1 := Lib.hid h1; have H2 := Lib.hid h2; have HB := Lib.hid hb
    obtain ⟨h1s, h1h, h1l, h1fh, h1fl⟩ := h1
    obtain ⟨h2s, h2h, h2l, h2fh, h2fl⟩ := h2
    by_cases hlt : k < 64
    · have HA := Lib.hid (and_bit y k hy)
      have hp1 := some_lt (k := k) hx hy
      have hp2 := part_lt (k := k) hx (by omega)
      have hs1 := mul_step x y k
      have HS := Lib.hid hs1
      have hbn := bitN_le y k
      clear h0 hb hs1
      by_cases hbit : bitN y k = 1
      · have t : (bits .and .u64 ((y : Int) / 2 ^ k) 1 == 1) = true := by rw [HA.out, beq_iff_eq]; unfold bitN at hbit; omega
        have HBit := Lib.hid hbit
        clear hbit
        go_wp2_with (first
          | (go_at_call 12; refine (radd_c _ _ hp1 hp2 _).mono ?_; rintro e w1 ⟨rfl, hb1⟩; obtain ⟨hc, hf⟩ := bcell hb1; have hz1 : w.heap.size + 1 + 1 < w1.heap.size := Nat.lt_of_lt_of_le h2s hb1.size)
          | (go_at_call 24; refine (dblm_c _ _).mono ?_; rintro e w2 ⟨rfl, hb2⟩; obtain ⟨hc2, hf2⟩ := bcell hb2))
        have K1 := (H1.out.below hb1).put (x * (y % 2 ^ k) + x * 2 ^ k)
        have K0 := (H0.out.below hb1).put_other (b := w.heap.size + 1) (by omega) (.int .u64 (hiOf (x * (y % 2 ^ k) + x * 2 ^ k) : Nat)) (.int .u64 (loOf (x * (y % 2 ^ k) + x * 2 ^ k) : Nat))
        have K2 := (H2.out.below hb1).put_other (b := w.heap.size + 1) (by omega) (.int .u64 (hiOf (x * (y % 2 ^ k) + x * 2 ^ k) : Nat)) (.int .u64 (loOf (x * (y % 2 ^ k) + x * 2 ^ k) : Nat))
        have KB := below_put (b := w.heap.size + 1) (HB.out.trans (hb1.mono HB.out.size)) (by omega) (.int .u64 (hiOf (x * (y % 2 ^ k) + x * 2 ^ k) : Nat)) (.int .u64 (loOf (x * (y % 2 ^ k) + x * 2 ^ k) : Nat))
        have hs := HS.out
        rw [HBit.out, Nat.mul_one] at hs
        refine ⟨⟨k + 1, by omega, by go_num, (K0.below hb2).put_other (by omega) _ _, ?_, ?_, below_put (KB.trans (hb2.mono KB.size)) (by omega) _ _⟩, by simp [intOf]; omega⟩
        · rw [hs]
          exact (K1.below hb2).put_other (by omega) _ _
        · rw [← twice_part]
          exact (K2.below hb2).put _
      · have t : (bits .and .u64 ((y : Int) / 2 ^ k) 1 == 1) = false := by rw [HA.out, beq_eq_false_iff_ne]; unfold bitN at hbit hbn; omega
        have HBit := Lib.hid hbit
        clear hbit
        go_wp2_with (go_at_call 24; refine (dblm_c _ _).mono ?_; rintro e w1 ⟨rfl, hb1⟩; obtain ⟨hc, hf⟩ := bcell hb1)
        have hs := HS.out
        rw [show bitN y k = 0 from by have := HBit.out; omega, Nat.mul_zero, Nat.add_zero] at hs
        refine ⟨⟨k + 1, by omega, by go_num, (H0.out.below hb1).put_other (by omega) _ _, ?_, ?_, below_put (HB.out.trans (hb1.mono HB.out.size)) (by omega) _ _⟩, by simp [intOf]; omega⟩
        · rw [hs]
          exact (H1.out.below hb1).put_other (by omega) _ _
        · rw [← twice_part]
          exact (H2.out.below hb1).put _
    · obtain rfl : k = 64 := by omega
      obtain ⟨h0s, h0h, h0l, h0fh, h0fl⟩ := h0
      clear hb h2s h2h h2l h2fh h2fl
      go_wp2
      have e : y % 2 ^ 64 = y := Nat.mod_eq_of_lt hy
      refine bodyPost_ret (v := .agg #[.int .u64 (hiOf (x * (y % 2 ^ 64)) : Nat), .int .u64 (loOf (x * (y % 2 ^ 64)) : Nat)]) (by simp [results, Try.results10, go_sem, h0h, h0l]) rfl
        ⟨ret_wide (by rw [e]) (by rw [e]), below_put HB.out (by omega) _ _⟩

set_option maxRecDepth 100000 in
theorem rshift_no (v : Nat) (n : Int) (hn : n < 0 ∨ 127 < n) (w : World) :
    Calls Try.prog 20 #[.agg #[.int .u64 (hiOf v : Nat), .int .u64 (loOf v : Nat)], .int .i64 n] w fun e w' =>
      e = .returned (.tuple #[.agg #[.int .u64 (hiOf v : Nat), .int .u64 (loOf v : Nat)], .bool false]) ∧ Below w.heap.size w w' := by
  rcases hn with hn | hn
  · go_enter Try.func20, Try.ntmps20
    go_wp2
    exact bodyPost_ret (v := .tuple #[.agg #[.int .u64 (hiOf v : Nat), .int .u64 (loOf v : Nat)], .bool false]) (by simp [results, Try.results20, go_sem]) rfl
        ⟨rfl, ((Below.refl _ _).alloc (Nat.le_refl _) _).alloc (by simp) _⟩
  · have hn' : ¬ n < 0 := by omega
    go_enter Try.func20, Try.ntmps20
    go_wp2
    exact bodyPost_ret (v := .tuple #[.agg #[.int .u64 (hiOf v : Nat), .int .u64 (loOf v : Nat)], .bool false]) (by simp [results, Try.results20, go_sem]) rfl
        ⟨rfl, ((Below.refl _ _).alloc (Nat.le_refl _) _).alloc (by simp) _⟩

set_option maxRecDepth 100000 in
set_option maxHeartbeats 1000000 in
theorem rshift_c (v n : Nat) (hv : v < M) (hn : n ≤ 127) (w : World) :
    Calls Try.prog 20 #[.agg #[.int .u64 (hiOf v : Nat), .int .u64 (loOf v : Nat)], .int .i64 n] w fun e w' =>
      e = .returned (.tuple #[.agg #[.int .u64 (hiOf (v * 2 ^ n) : Nat), .int .u64 (loOf (v * 2 ^ n) : Nat)], .bool (okN v n)]) ∧ Below w.heap.size w w' := by
  have HV := Lib.hid hv
  clear hv
  go_enter Try.func20, Try.ntmps20
  go_wp2
  go_loopw [6, 7] (fun o i wr => ∃ k : Nat, k ≤ n ∧ i = .int .i64 k ∧ o = .bool (okN v k) ∧ Has wr (w.heap.size) (v * 2 ^ k) ∧ Has wr (w.heap.size + 1) 0 ∧ Below w.heap.size w wr)
    (fun _ i _ => n - (intOf i).toNat)
  case atStart =>
    have e1 : okN v 0 = true := by have := HV.out; unfold okN; simpa using this
    have e2 : v * 2 ^ 0 = v := by simp
    refine ⟨0, by omega, rfl, by rw [e1], ?_, ⟨by simp, by rw [hi0]; go_simp, by rw [lo0]; go_simp, by go_simp, by go_simp⟩, ?_⟩
    · rw [e2]
      exact ⟨by simp; omega, by go_simp, by go_simp, by go_simp, by go_simp⟩
    · exact ((Below.refl _ _).alloc (Nat.le_refl _) _).alloc (by simp) _
  case round =>
    obtain ⟨k, hk, rfl, rfl, h0, h1, hb⟩ := hrel
    have H0 := Lib.hid h0; have H1 := Lib.hid h1; have HB := Lib.hid hb
    obtain ⟨h0s, h0h, h0l, h0fh, h0fl⟩ := h0
    by_cases hlt : k < n
    · clear h1 hb
      have hs := Lib.hid (ok_step v k)
      generalize okN v k = ok at hs ⊢
      cases ok
      all_goals
        go_wp2_with (go_at_call 24; refine (dblm_c _ _).mono ?_; rintro e w1 ⟨rfl, hb1⟩; obtain ⟨hc, hf⟩ := bcell hb1; have hz1 : w.heap.size < w1.heap.size := Nat.lt_of_lt_of_le h0s hb1.size)
        have hs' := hs.out
        simp only [Bool.false_and, Bool.true_and] at hs'
        have K0 := (((H0.out.below hb1).put (2 * (v * 2 ^ k))).alloc (.cells #[.int .u64 (hiOf (2 * (v * 2 ^ k)) : Nat), .int .u64 (loOf (2 * (v * 2 ^ k)) : Nat)] 25))
        rw [twice_part] at K0
        refine ⟨⟨k + 1, by omega, by go_num, by rw [hs'], ?_, ((H1.out.below hb1).put_other (by omega) _ _).alloc _, (below_put (HB.out.trans (hb1.mono HB.out.size)) (by omega) _ _).alloc ?_ _⟩, by simp [intOf]; omega⟩
        · rw [twice_part]
          exact K0
        · have := HB.out.size
          have := hb1.size
          simp [World.setCell]
          omega
    · obtain rfl : k = n := by omega
      obtain ⟨h1s, h1h, h1l, h1fh, h1fl⟩ := h1
      clear hb
      go_wp2
      exact bodyPost_ret (v := .tuple #[.agg #[.int .u64 (hiOf (v * 2 ^ k) : Nat), .int .u64 (loOf (v * 2 ^ k) : Nat)], .bool (okN v k)]) (by simp [results, Try.results20, go_sem, h1h, h1l]) rfl
        ⟨rfl, below_put HB.out (by omega) _ _⟩
end Go.Proofs.Ytbkjmcpdeckcgaa
