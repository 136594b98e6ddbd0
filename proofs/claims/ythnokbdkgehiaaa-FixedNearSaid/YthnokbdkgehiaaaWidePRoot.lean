/-
  Contracts over this seat of translation: isobar/wide.Mul, isobar/wide.Less, isobar/wide.Root: what each returns, and that nothing that was there has turned.
-/
import Derived.Test.YthnokbdkgehiaaaWidePMul
import Derived.Test.YthnokbdkgehiaaaWidePLess
namespace Go.Proofs.Ythnokbdkgehiaaa
open Go.RowKit
set_option maxRecDepth 100000 in
set_option maxHeartbeats 1000000 in
theorem root_c (v : Nat) (hv : v < M) (w : World) :
    Calls Try.prog 57 #[.agg #[.int .u64 (hiOf v : Nat), .int .u64 (loOf v : Nat)]] w fun e w' => e = .returned (.int .u64 (rt v : Nat)) ∧ Below w.heap.size w w' := by
  have HV := Lib.hid hv
  clear hv
  go_enter Try.func57, Try.ntmps57
  go_wp2
  go_loopw [3, 4] (fun n i wr => ∃ j a p : Nat, j ≤ 64 ∧ i = .int .u64 p ∧ p = 2 ^ j / 2 ∧ n = .int .u64 a ∧ a % 2 ^ j = 0 ∧ a + 2 ^ j ≤ 18446744073709551616 ∧ rootFrom v j a = rt v ∧ Has wr (w.heap.size) v ∧ Below w.heap.size w wr)
    (fun _ i _ => (intOf i).toNat)
  case atStart =>
    refine ⟨64, 0, 9223372036854775808, by omega, rfl, by decide, rfl, by simp, by omega, rfl, ⟨by simp, by go_simp, by go_simp, by go_simp, by go_simp⟩, (Below.refl _ _).alloc (Nat.le_refl _) _⟩
  case round =>
    obtain ⟨j, a, p, hj, rfl, hp, rfl, hm, hr, hroot, h0, hb⟩ := hrel
    have H0 := Lib.hid h0; have HB := Lib.hid hb; have HM := Lib.hid hm; have HR := Lib.hid hroot
    obtain ⟨h0s, h0h, h0l, h0fh, h0fl⟩ := h0
    clear hm hroot hb
    cases j with
    | succ j =>
      obtain ⟨r1, r2, r3⟩ := root_room hr
      have hp' : p = 2 ^ j := by rw [hp, Nat.pow_succ]; omega
      have hp0 : 0 < p := by rw [hp']; exact Nat.pow_pos (by decide)
      have hp64 : p < 18446744073709551616 := by rw [hp']; omega
      have HO' := Lib.hid (root_or HM.out)
      obtain ⟨m, hm⟩ : ∃ m, m = a + 2 ^ j := ⟨_, rfl⟩
      have hm64 : m < 18446744073709551616 := by omega
      have HOr := Lib.hid ((bits_or_u64_nat a p (Nat.lt_of_le_of_lt (Nat.le_add_right _ _) r3) hp64).trans (congrArg Nat.cast (by rw [hp']; exact (root_or HM.out).1.trans hm.symm : (a ||| p : Nat) = m)))
      obtain ⟨b, hb⟩ : ∃ b : Bool, b = decide (m * m ≤ v) := ⟨_, rfl⟩
      have t : ((p : Int) != 0) = true := by rw [bne_iff_ne]; omega
      have Hm := Lib.hid hm
      have Hb := Lib.hid hb
      have Hr := Lib.hid r1
      have Hr2 := Lib.hid r2
      have Hp := Lib.hid hp'
      clear hm hb r1 r2 r3 hr hp hp'
      go_wp2_with fail
      rw [HOr.out]
      have HX : Below wr.heap.size wr wr.drew := (Below.refl _ _).drew
      go_cut [18] (fun t wx => t = .bool b ∧ Below wr.heap.size wr wx)
      case first =>
        go_region_with (first
          | (go_at_call 48; refine (mul_c _ _ hm64 hm64 _).mono ?_; rintro e w1 ⟨rfl, hb1⟩; have h0h : w1.cell? ⟨w.heap.size, 0, none⟩ = some (.int .u64 (hiOf v : Nat)) := (hb1.cell (p := ⟨w.heap.size, 0, none⟩) (by exact h0s)).trans h0h; have h0l : w1.cell? ⟨w.heap.size, 1, none⟩ = some (.int .u64 (loOf v : Nat)) := (hb1.cell (p := ⟨w.heap.size, 1, none⟩) (by exact h0s)).trans h0l; have HX : Below wr.heap.size wr w1 := below_next HX hb1)
          | (go_at_call 67; refine (less_c _ _ HV.out (prod_lt hm64 hm64) _).mono ?_; rintro e w2 ⟨rfl, hb2⟩; have HX : Below wr.heap.size wr w2 := below_next HX hb2))
        all_goals (try go_wp2_with fail)
        all_goals go_meet
        all_goals exact ⟨by rw [Hb.out, not_less], HX⟩
      case rest =>
        obtain ⟨rfl, hbx⟩ := hcut
        have HBX := Lib.hid hbx
        clear hbx
        cases b
        · have hle : ¬ m * m ≤ v := by have := Hb.out; simpa using this.symm
          have Hle := Lib.hid hle
          clear hle
          go_wp2
          have ho := HO'.out
          have hmm := Hm.out
          rw [hmm] at Hle
          refine ⟨⟨j, a, p / 2, by omega, by go_num, by rw [Hp.out], rfl, ho.2.2, Hr2.out, by rw [← root_no Hle.out]; exact HR.out, H0.out.below HBX.out, HB.out.trans (HBX.out.mono HB.out.size)⟩, by simp [intOf]; omega⟩
        · have hle : m * m ≤ v := by have := Hb.out; simpa using this.symm
          have Hle := Lib.hid hle
          clear hle
          go_wp2
          have ho := HO'.out
          have hmm := Hm.out
          rw [hmm] at Hle
          refine ⟨⟨j, m, p / 2, by omega, by go_num, by rw [Hp.out], rfl, by rw [hmm]; exact ho.2.1, by rw [hmm]; exact Hr.out, by rw [hmm, ← root_yes Hle.out]; exact HR.out, H0.out.below HBX.out, HB.out.trans (HBX.out.mono HB.out.size)⟩, by simp [intOf]; omega⟩
    | zero =>
      obtain rfl : p = 0 := by rw [hp]
      clear hp hr
      go_wp2
      go_ret
      exact ⟨ret_u64 (congrArg Nat.cast HR.out), HB.out⟩

end Go.Proofs.Ythnokbdkgehiaaa
