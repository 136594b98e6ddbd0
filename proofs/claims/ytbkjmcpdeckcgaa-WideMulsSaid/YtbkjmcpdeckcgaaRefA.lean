/-
  The document's own sum, bit by bit: the contract of isobarref01.Add.
-/
import Derived.Test.YtbkjmcpdeckcgaaLeaf
import Derived.Deep.DeepCutAuto
import Derived.Deep.RegionWith
namespace Go.Proofs.Ytbkjmcpdeckcgaa
open Go.RowKit

theorem hi0 : ((hiOf 0 : Nat) : Int) = 0 := rfl
theorem lo0 : ((loOf 0 : Nat) : Int) = 0 := rfl
theorem bcell {W w1 : World} (hb : Below W.heap.size W w1) : (∀ b o, b < W.heap.size → w1.cell? ⟨b, o, none⟩ = W.cell? ⟨b, o, none⟩) ∧ (∀ b o, b < W.heap.size → w1.frozen? ⟨b, o, none⟩ = W.frozen? ⟨b, o, none⟩) :=
  ⟨fun b o h => hb.cell (p := ⟨b, o, none⟩) h, fun b o h => hb.frozen (p := ⟨b, o, none⟩) h⟩

theorem below_next {a b c : World} (h : Below a.heap.size a b) (k : Below b.heap.size b c) : Below a.heap.size a c := h.trans (k.mono h.size)
/-- A block of two words: what it holds, and that it may be written. -/
structure Has (w : World) (b : Nat) (v : Nat) : Prop where
  lt : b < w.heap.size
  hi : w.cell? ⟨b, 0, none⟩ = some (.int .u64 (hiOf v : Nat))
  lo : w.cell? ⟨b, 1, none⟩ = some (.int .u64 (loOf v : Nat))
  fh : w.frozen? ⟨b, 0, none⟩ = false
  fl : w.frozen? ⟨b, 1, none⟩ = false
theorem Has.below {w w1 : World} {b v : Nat} (h : Has w b v) (hb : Below w.heap.size w w1) : Has w1 b v :=
  ⟨Nat.lt_of_lt_of_le h.lt hb.size, (hb.cell (p := ⟨b, 0, none⟩) h.lt).trans h.hi, (hb.cell (p := ⟨b, 1, none⟩) h.lt).trans h.lo, (hb.frozen (p := ⟨b, 0, none⟩) h.lt).trans h.fh, (hb.frozen (p := ⟨b, 1, none⟩) h.lt).trans h.fl⟩

theorem Has.other {w : World} {b v : Nat} (h : Has w b v) {a : Addr} (ha : a.block ≠ b) (u : Value) : Has (w.setCell a u) b v := by
  have e : (w.setCell a u).heap[b]? = w.heap[b]? := Below.heap_setCell _ _ _ _ (fun e => ha e.symm)
  exact ⟨by simpa [World.setCell] using h.lt, (World.cell?_of_block (w := w) (a := ⟨b, 0, none⟩) e).trans h.hi, (World.cell?_of_block (w := w) (a := ⟨b, 1, none⟩) e).trans h.lo,
    (World.frozen?_of_block (w := w) (a := ⟨b, 0, none⟩) e).trans h.fh, (World.frozen?_of_block (w := w) (a := ⟨b, 1, none⟩) e).trans h.fl⟩
theorem Has.put {w : World} {b v : Nat} (h : Has w b v) (x : Nat) : Has ((w.setCell ⟨b, 0, none⟩ (.int .u64 (hiOf x : Nat))).setCell ⟨b, 1, none⟩ (.int .u64 (loOf x : Nat))) b x := by
  obtain ⟨h0, h1, h2, h3, h4⟩ := h
  exact ⟨by simpa [World.setCell] using h0, by go_simp, by go_simp, by go_simp, by go_simp⟩
theorem Has.put_other {w : World} {b b' v : Nat} (h : Has w b' v) (hne : b ≠ b') (p q : Value) : Has ((w.setCell ⟨b, 0, none⟩ p).setCell ⟨b, 1, none⟩ q) b' v :=
  (h.other (a := ⟨b, 0, none⟩) hne p).other (a := ⟨b, 1, none⟩) hne q
theorem below_put {B b : Nat} {a w : World} (h : Below B a w) (hB : B ≤ b) (p q : Value) : Below B a ((w.setCell ⟨b, 0, none⟩ p).setCell ⟨b, 1, none⟩ q) :=
  (h.setCell (p := ⟨b, 0, none⟩) hB p).setCell (p := ⟨b, 1, none⟩) hB q

theorem wrap_sum3 (a b c : Nat) (h : a + b + c < 18446744073709551616) : IntKind.u64.wrap (IntKind.u64.wrap ((a : Int) + b) + c) = ((a + b + c : Nat) : Int) := by
  rw [IntKind.wrap_u64, IntKind.wrap_u64]; omega

set_option maxRecDepth 100000 in
set_option maxHeartbeats 1000000 in
theorem radd_c (u v : Nat) (hu : u < M) (hv : v < M) (w : World) :
    Calls Try.prog 12 #[.agg #[.int .u64 (hiOf u : Nat), .int .u64 (loOf u : Nat)], .agg #[.int .u64 (hiOf v : Nat), .int .u64 (loOf v : Nat)]] w fun e w' =>
      e = .returned (.tuple #[.agg #[.int .u64 (hiOf (u + v) : Nat), .int .u64 (loOf (u + v) : Nat)], .bool (ovf (u + v))]) ∧ Below w.heap.size w w' := by
  go_enter Try.func12, Try.ntmps12
  go_wp2
  go_loopw [7, 8] (fun c i wr => ∃ k : Nat, k ≤ 128 ∧ i = .int .i64 k ∧ c = .int .u64 (ca u v k : Nat) ∧ Has wr (w.heap.size) u ∧ Has wr (w.heap.size + 1) v ∧ Has wr (w.heap.size + 1 + 1) 0 ∧ Has wr (w.heap.size + 1 + 1 + 1) (po u v k) ∧ Below w.heap.size w wr)
    (fun _ i _ => 128 - (intOf i).toNat)
  case atStart =>
    refine ⟨0, by omega, rfl, ?_, ⟨by simp; omega, by go_simp, by go_simp, by go_simp, by go_simp⟩, ⟨by simp, by go_simp, by go_simp, by go_simp, by go_simp⟩, ⟨by simp, by rw [hi0]; go_simp, by rw [lo0]; go_simp, by go_simp, by go_simp⟩, ?_, ?_⟩
    · simp [ca, Nat.mod_one]
    · have e : po u v 0 = 0 := by simp [po, Nat.mod_one]
      rw [e]
      exact ⟨by simp, by rw [hi0]; go_simp, by rw [lo0]; go_simp, by go_simp, by go_simp⟩
    · exact ((((Below.refl _ _).alloc (Nat.le_refl _) _).alloc (by simp) _).alloc (by simp; omega) _).alloc (by simp; omega) _
  case round =>
    obtain ⟨k, hk, rfl, rfl, h0, h1, h2, h3, hb⟩ := hrel
    have H0 := Lib.hid h0; have H1 := Lib.hid h1; have H2 := Lib.hid h2; have H3 := Lib.hid h3; have HB := Lib.hid hb
    obtain ⟨h0s, h0h, h0l, -, -⟩ := h0
    obtain ⟨h1s, h1h, h1l, -, -⟩ := h1
    have hc1 := ca_le u v k
    have hb1 := bitN_le u k
    have hb2 := bitN_le v k
    by_cases hlt : k < 128
    · obtain ⟨S, hS⟩ : ∃ S, S = bitN u k + bitN v k + ca u v k := ⟨_, rfl⟩
      have hS3 : S ≤ 3 := by omega
      have HS := Lib.hid hS
      clear hS
      clear h2 h3 hb
      go_wp2_with fail
      go_cut [9] (fun s wx => s = .int .u64 (S : Nat) ∧ Below wr.heap.size wr wx)
      case first =>
        have HX : Below wr.heap.size wr wr.drew := (Below.refl _ _).drew
        have hsz := h1s
        clear h0s h1s
        go_region_with (go_at_call 26; refine (bit_c _ (by assumption) _ (by omega) _).mono ?_; rintro e w1 ⟨rfl, hb1⟩; have h0h : w1.cell? ⟨w.heap.size, 0, none⟩ = some (.int .u64 (hiOf u : Nat)) := (hb1.cell (p := ⟨w.heap.size, 0, none⟩) (by exact Nat.lt_of_succ_lt hsz)).trans h0h; have h0l : w1.cell? ⟨w.heap.size, 1, none⟩ = some (.int .u64 (loOf u : Nat)) := (hb1.cell (p := ⟨w.heap.size, 1, none⟩) (by exact Nat.lt_of_succ_lt hsz)).trans h0l; have h1h : w1.cell? ⟨w.heap.size + 1, 0, none⟩ = some (.int .u64 (hiOf v : Nat)) := (hb1.cell (p := ⟨w.heap.size + 1, 0, none⟩) (by exact hsz)).trans h1h; have h1l : w1.cell? ⟨w.heap.size + 1, 1, none⟩ = some (.int .u64 (loOf v : Nat)) := (hb1.cell (p := ⟨w.heap.size + 1, 1, none⟩) (by exact hsz)).trans h1l; have HX : Below wr.heap.size wr w1 := below_next HX hb1; have hsz : w.heap.size + 1 < w1.heap.size := Nat.lt_of_lt_of_le hsz hb1.size)
        all_goals (try go_wp2_with fail)
        all_goals go_meet
        all_goals exact ⟨by rw [HS.out, wrap_sum3 _ _ _ (by omega)], HX⟩
      case rest =>
        obtain ⟨rfl, hbx⟩ := hcut
        have HBX := Lib.hid hbx
        have K3 := H3.out.below hbx
        have H3' := Lib.hid K3
        obtain ⟨k3s, k3h, k3l, k3fh, k3fl⟩ := K3
        clear h0h h0l h1h h1l hbx h0s h1s hu hv
        have hz : bitN (po u v k) k = 0 := bit_of_lt (po_lt u v k)
        have hpm : po u v k < M := Nat.lt_of_lt_of_le (po_lt u v k) (pow_le_M hk)
        have HZ := Lib.hid hz
        clear hz
        by_cases hS1 : S % 2 = 1
        · have t : (bits .and .u64 (S : Int) 1 == 1) = true := by rw [and_one_u64 _ (by omega) (by omega), beq_iff_eq]; omega
          have hS1' := Lib.hid hS1
          clear hS1
          go_wp2_with (go_at_call 27; refine (with_c _ hpm _ hlt HZ.out _).mono ?_; rintro e w1 ⟨rfl, hb1⟩; obtain ⟨hc, hf⟩ := bcell hb1)
          have hs := add_step u v k
          rw [← HS.out, hS1'.out] at hs
          have hbw := below_next HBX.out hb1
          refine ⟨⟨k + 1, by omega, by go_num, by rw [hs.1]; go_num, (H0.out.below hbw).put_other (by omega) _ _, (H1.out.below hbw).put_other (by omega) _ _, (H2.out.below hbw).put_other (by omega) _ _, ?_, ?_⟩, by simp [intOf]; omega⟩
          · rw [hs.2, Nat.mul_one]
            exact (H3'.out.below hb1).put _
          · exact below_put (HB.out.trans (hbw.mono HB.out.size)) (by omega) _ _
        · have t : (bits .and .u64 (S : Int) 1 == 1) = false := by rw [and_one_u64 _ (by omega) (by omega), beq_eq_false_iff_ne]; omega
          have hS1' : Hid (S % 2 = 0) := (by omega : S % 2 = 0)
          clear hS1
          go_wp2
          have hs := add_step u v k
          rw [← HS.out, hS1'.out, Nat.mul_zero, Nat.add_zero] at hs
          have hbw := HBX.out
          refine ⟨⟨k + 1, by omega, by go_num, by rw [hs.1]; go_num, H0.out.below hbw, H1.out.below hbw, H2.out.below hbw, ?_, HB.out.trans (hbw.mono HB.out.size)⟩, by simp [intOf]; omega⟩
          rw [hs.2]
          exact H3'.out
    · obtain rfl : k = 128 := by omega
      have HE := Lib.hid (add_end hu hv)
      obtain ⟨h2s, h2h, h2l, h2fh, h2fl⟩ := h2
      obtain ⟨h3s, h3h, h3l, h3fh, h3fl⟩ := h3
      clear hb h0h h0l h1h h1l h0s h1s hu hv
      go_wp2
      refine bodyPost_ret (v := .tuple #[.agg #[.int .u64 (hiOf (po u v 128) : Nat), .int .u64 (loOf (po u v 128) : Nat)], .bool ((ca u v 128 : Int) == 1)]) (by simp [results, Try.results12, go_sem, h2h, h2l]) rfl
        ⟨ret_wide_b (by rw [HE.out.1]) (by rw [HE.out.2.1]) ?_, below_put HB.out (by omega) _ _⟩
      rw [← HE.out.2.2, Bool.eq_iff_iff, beq_iff_eq, decide_eq_true_eq]
      omega
end Go.Proofs.Ytbkjmcpdeckcgaa
