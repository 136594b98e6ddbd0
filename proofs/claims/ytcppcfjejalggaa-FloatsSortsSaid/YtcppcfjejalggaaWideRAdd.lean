/-
  Contracts over this seat of translation: isobar/isobarref01.Add, isobar/isobarref01.bit, isobar/isobarref01.with: what each returns, and that nothing that was there has turned.
-/
import Derived.Test.YtcppcfjejalggaaWideKit
namespace Go.Proofs.Ytcppcfjejalggaa
open Go.RowKit
theorem bit_c (v : Nat) (hv : v < M) (i : Nat) (hi : i < 128) (w : World) :
    Calls Try.prog 52 #[.agg #[.int .u64 (hiOf v : Nat), .int .u64 (loOf v : Nat)], .int .i64 i] w fun e w' => e = .returned (.int .u64 (bitN v i : Nat)) ∧ Below w.heap.size w w' := by
  have hh := hiOf_lt v
  have hl := loOf_lt v
  by_cases h : 64 ≤ i
  · have HE := Lib.hid (bit_hi hv h)
    have HA := Lib.hid (and_bit (hiOf v) (i - 64) hh)
    go_enter Try.func52, Try.ntmps52
    go_wp2
    go_ret
    exact ⟨ret_u64 (by rw [← HE.out]; exact HA.out), (Below.refl _ _).alloc (Nat.le_refl _) _⟩
  · have HE := Lib.hid (bit_lo (v := v) (i := i) (by omega))
    have HA := Lib.hid (and_bit (loOf v) i hl)
    go_enter Try.func52, Try.ntmps52
    go_wp2
    go_ret
    exact ⟨ret_u64 (by rw [← HE.out]; exact HA.out), (Below.refl _ _).alloc (Nat.le_refl _) _⟩

theorem with_c (v : Nat) (hv : v < M) (i : Nat) (hi : i < 128) (hb : bitN v i = 0) (w : World) :
    Calls Try.prog 53 #[.agg #[.int .u64 (hiOf v : Nat), .int .u64 (loOf v : Nat)], .int .i64 i] w fun e w' => e = .returned (.agg #[.int .u64 (hiOf (v + 2 ^ i) : Nat), .int .u64 (loOf (v + 2 ^ i) : Nat)]) ∧ Below w.heap.size w w' := by
  have hh := hiOf_lt v
  have hl := loOf_lt v
  by_cases h : 64 ≤ i
  · have H := Lib.hid (with_hi hv h hi hb)
    have O := Lib.hid (or_wrap (hiOf v) (i - 64) hh (by omega))
    clear hb
    go_enter Try.func53, Try.ntmps53
    go_wp2
    exact bodyPost_ret (v := .agg #[.int .u64 (bits .or .u64 (hiOf v : Int) (IntKind.u64.wrap (2 ^ (i - 64)))), .int .u64 (loOf v : Nat)]) (by simp [results, Try.results53, go_sem]) rfl
      ⟨ret_wide (by rw [O.out, H.out.1]) (by rw [← H.out.2.1]), ((Below.refl _ _).alloc (Nat.le_refl _) _).alloc (by simp) _⟩
  · have H := Lib.hid (with_lo hv (by omega : i < 64) hb)
    have O := Lib.hid (or_wrap (loOf v) i hl (by omega))
    clear hb
    go_enter Try.func53, Try.ntmps53
    go_wp2
    exact bodyPost_ret (v := .agg #[.int .u64 (hiOf v : Nat), .int .u64 (bits .or .u64 (loOf v : Int) (IntKind.u64.wrap (2 ^ i)))]) (by simp [results, Try.results53, go_sem]) rfl
      ⟨ret_wide (by rw [← H.out.2.1]) (by rw [O.out, H.out.1]), ((Below.refl _ _).alloc (Nat.le_refl _) _).alloc (by simp) _⟩

set_option maxRecDepth 100000 in
set_option maxHeartbeats 1000000 in
theorem radd_c (u v : Nat) (hu : u < M) (hv : v < M) (w : World) :
    Calls Try.prog 32 #[.agg #[.int .u64 (hiOf u : Nat), .int .u64 (loOf u : Nat)], .agg #[.int .u64 (hiOf v : Nat), .int .u64 (loOf v : Nat)]] w fun e w' =>
      e = .returned (.tuple #[.agg #[.int .u64 (hiOf (u + v) : Nat), .int .u64 (loOf (u + v) : Nat)], .bool (ovf (u + v))]) ∧ Below w.heap.size w w' := by
  go_enter Try.func32, Try.ntmps32
  go_wp2
  go_loopw [7, 8] (fun c i wr => ∃ k : Nat, k ≤ 128 ∧ i = .int .i64 k ∧ c = .int .u64 (ca u v k : Nat) ∧ Has wr (w.heap.size) u ∧ Has wr (w.heap.size + 1) v ∧ Has wr (w.heap.size + 1 + 1) 0 ∧ Has wr (w.heap.size + 1 + 1 + 1) (po u v k) ∧ Below w.heap.size w wr)
    (fun _ i _ => 128 - (intOf i).toNat)
  case atStart =>
    refine ⟨0, by omega, rfl, ?_, ⟨by simp; omega, by go_simp, by go_simp, by go_simp, by go_simp⟩, ⟨by simp, by go_simp, by go_simp, by go_simp, by go_simp⟩, ⟨by simp, by rw [hi0]; go_simp, by rw [lo0]; go_simp, by go_simp, by go_simp⟩, ?_, ?_⟩
    · simp [ca, Nat.mod_one]
    · have e : po u v 0 = 0 := by simp [po, Nat.mod_one]
      rw [e]
      exact ⟨by simp, by rw [hi0]; go_simp, by rw [lo0]; go_simp, by go_simp, by go_simp⟩
    · exact ((((Below.refl _ _).alloc (Nat.le_refl _) _).alloc (by simp) _).alloc (by simp; omega) _).alloc (by simp; omega) _
  case round =>
    obtain ⟨k, hk, rfl, rfl, h0, h1, h2, h3, hb⟩ := hrel
    have H0 := Lib.hid h0; have H1 := Lib.hid h1; have H2 := Lib.hid h2; have H3 := Lib.hid h3; have HB := Lib.hid hb
    obtain ⟨h0s, h0h, h0l, -, -⟩ := h0
    obtain ⟨h1s, h1h, h1l, -, -⟩ := h1
    have hc1 := ca_le u v k
    have hb1 := bitN_le u k
    have hb2 := bitN_le v k
    by_cases hlt : k < 128
    · obtain ⟨S, hS⟩ : ∃ S, S = bitN u k + bitN v k + ca u v k := ⟨_, rfl⟩
      have hS3 : S ≤ 3 := by omega
      have HS := Lib.hid hS
      clear hS
      clear h2 h3 hb
      go_wp2_with fail
      go_cut [9] (fun s wx => s = .int .u64 (S : Nat) ∧ Below wr.heap.size wr wx)
      case first =>
        have HX : Below wr.heap.size wr wr.drew := (Below.refl _ _).drew
        have hsz := h1s
        clear h0s h1s
        go_region_with (go_at_call 52; refine (bit_c _ (by assumption) _ (by omega) _).mono ?_; rintro e w1 ⟨rfl, hb1⟩; have h0h : w1.cell? ⟨w.heap.size, 0, none⟩ = some (.int .u64 (hiOf u : Nat)) := (hb1.cell (p := ⟨w.heap.size, 0, none⟩) (by exact Nat.lt_of_succ_lt hsz)).trans h0h; have h0l : w1.cell? ⟨w.heap.size, 1, none⟩ = some (.int .u64 (loOf u : Nat)) := (hb1.cell (p := ⟨w.heap.size, 1, none⟩) (by exact Nat.lt_of_succ_lt hsz)).trans h0l; have h1h : w1.cell? ⟨w.heap.size + 1, 0, none⟩ = some (.int .u64 (hiOf v : Nat)) := (hb1.cell (p := ⟨w.heap.size + 1, 0, none⟩) (by exact hsz)).trans h1h; have h1l : w1.cell? ⟨w.heap.size + 1, 1, none⟩ = some (.int .u64 (loOf v : Nat)) := (hb1.cell (p := ⟨w.heap.size + 1, 1, none⟩) (by exact hsz)).trans h1l; have HX : Below wr.heap.size wr w1 := below_next HX hb1; have hsz : w.heap.size + 1 < w1.heap.size := Nat.lt_of_lt_of_le hsz hb1.size)
        all_goals (try go_wp2_with fail)
        all_goals go_meet
        all_goals exact ⟨by rw [HS.out, wrap_sum3 _ _ _ (by omega)], HX⟩
      case rest =>
        obtain ⟨rfl, hbx⟩ := hcut
        have HBX := Lib.hid hbx
        have K3 := H3.out.below hbx
        have H3' := Lib.hid K3
        obtain ⟨k3s, k3h, k3l, k3fh, k3fl⟩ := K3
        clear h0h h0l h1h h1l hbx h0s h1s hu hv
        have hz : bitN (po u v k) k = 0 := bit_of_lt (po_lt u v k)
        have hpm : po u v k < M := Nat.lt_of_lt_of_le (po_lt u v k) (pow_le_M hk)
        have HZ := Lib.hid hz
        clear hz
        by_cases hS1 : S % 2 = 1
        · have t : (bits .and .u64 (S : Int) 1 == 1) = true := by rw [and_one_u64 _ (by omega) (by omega), beq_iff_eq]; omega
          have hS1' := Lib.hid hS1
          clear hS1
          go_wp2_with (go_at_call 53; refine (with_c _ hpm _ hlt HZ.out _).mono ?_; rintro e w1 ⟨rfl, hb1⟩; obtain ⟨hc, hf⟩ := bcell hb1)
          have hs := add_step u v k
          rw [← HS.out, hS1'.out] at hs
          have hbw := below_next HBX.out hb1
          refine ⟨⟨k + 1, by omega, by go_num, by rw [hs.1]; go_num, (H0.out.below hbw).put_other (by omega) _ _, (H1.out.below hbw).put_other (by omega) _ _, (H2.out.below hbw).put_other (by omega) _ _, ?_, ?_⟩, by simp [intOf]; omega⟩
          · rw [hs.2, Nat.mul_one]
            exact (H3'.out.below hb1).put _
          · exact below_put (HB.out.trans (hbw.mono HB.out.size)) (by omega) _ _
        · have t : (bits .and .u64 (S : Int) 1 == 1) = false := by rw [and_one_u64 _ (by omega) (by omega), beq_eq_false_iff_ne]; omega
          have hS1' : Hid (S % 2 = 0) := (by omega : S % 2 = 0)
          clear hS1
          go_wp2
          have hs := add_step u v k
          rw [← HS.out, hS1'.out, Nat.mul_zero, Nat.add_zero] at hs
          have hbw := HBX.out
          refine ⟨⟨k + 1, by omega, by go_num, by rw [hs.1]; go_num, H0.out.below hbw, H1.out.below hbw, H2.out.below hbw, ?_, HB.out.trans (hbw.mono HB.out.size)⟩, by simp [intOf]; omega⟩
          rw [hs.2]
          exact H3'.out
    · obtain rfl : k = 128 := by omega
      have HE := Lib.hid (add_end hu hv)
      obtain ⟨h2s, h2h, h2l, h2fh, h2fl⟩ := h2
      obtain ⟨h3s, h3h, h3l, h3fh, h3fl⟩ := h3
      clear hb h0h h0l h1h h1l h0s h1s hu hv
      go_wp2
      refine bodyPost_ret (v := .tuple #[.agg #[.int .u64 (hiOf (po u v 128) : Nat), .int .u64 (loOf (po u v 128) : Nat)], .bool ((ca u v 128 : Int) == 1)]) (by simp [results, Try.results32, go_sem, h2h, h2l]) rfl
        ⟨ret_wide_b (by rw [HE.out.1]) (by rw [HE.out.2.1]) ?_, below_put HB.out (by omega) _ _⟩
      rw [← HE.out.2.2, Bool.eq_iff_iff, beq_iff_eq, decide_eq_true_eq]
      omega


theorem radd1_c (u : Nat) (hu : u < M) (w : World) :
    Calls Try.prog 32 #[.agg #[.int .u64 (hiOf u : Nat), .int .u64 (loOf u : Nat)], .agg #[.int .u64 0, .int .u64 1]] w fun e w' =>
      e = .returned (.tuple #[.agg #[.int .u64 (hiOf (u + 1) : Nat), .int .u64 (loOf (u + 1) : Nat)], .bool (ovf (u + 1))]) ∧ Below w.heap.size w w' :=
  radd_c u 1 hu (by decide) w

end Go.Proofs.Ytcppcfjejalggaa
