/-
  Contracts of the document's own functions of layer 2, the sixth part: whole numbers, and rounding to so many decimals.
-/
import Derived.Test.YthnokbdkgehiaaaFixRefE
set_option linter.unusedSimpArgs false
set_option linter.unusedVariables false
namespace Go.Proofs.Ythnokbdkgehiaaa.FR
open Go.RowKit

set_option maxHeartbeats 1000000 in
theorem int_c (n : Int) (h0 : -9223372036854775808 ≤ n) (h1 : n ≤ 9223372036854775807) (w : World) :
    Calls Try.prog 18 #[.int .i64 n] w fun e w' => e = .returned (.agg #[.bool (nb (intO n)), .int .i64 (nv (intO n))]) ∧ Below w.heap.size w w' := by
  obtain ⟨m, hm⟩ : ∃ m, n.natAbs = m := ⟨_, rfl⟩
  have hm64 : m < 18446744073709551616 := by omega
  have HS := Lib.hid (size_q n m h0 h1 hm)
  have HM := Lib.hid (rmul_c m 1000000 hm64 (by decide))
  have ho : intO n = if hiOf (m * 1000000) = 0 then signO (loOf (m * 1000000)) (decide (n < 0)) else none := by rw [← hm]; rfl
  have HG := signed_c (loOf (m * 1000000)) (loOf_lt _) (decide (n < 0))
  by_cases hz : hiOf (m * 1000000) = 0
  · rw [if_pos hz] at ho
    rw [ho]
    obtain ⟨O, hO⟩ : ∃ O, signO (loOf (m * 1000000)) (decide (n < 0)) = O := ⟨_, rfl⟩
    rw [hO] at HG ⊢
    have GG := Lib.hid HG
    have t : ((hiOf (m * 1000000) : Int) != 0) = false := by rw [bne_eq_false_iff_eq]; omega
    clear HG ho hO hm hz
    go_enter Try.func18, Try.ntmps18
    go_wp2_with fail
    refine (HS.out _).mono ?_; rintro e w' ⟨rfl, rfl⟩
    go_wp2_with fail
    refine (HM.out _).mono ?_; rintro e w1 ⟨rfl, hb1⟩; obtain ⟨hc1, hf1⟩ := bcell hb1
    have z1 : w.heap.size < w1.heap.size := (by have := hb1.size; simp at this; omega)
    have z1' : w.heap.size < w1.heap.size + 1 := by omega
    go_wp2_with fail
    refine (GG.out _).mono ?_; rintro e w2 ⟨rfl, hb2⟩; obtain ⟨hc2, hf2⟩ := bcell hb2
    go_wp2
    exact bodyPost_ret (v := .agg #[.bool (nb O), .int .i64 (nv O)]) (by simp [results, Try.results18, go_sem, hc1, hf1, hc2, hf2, z1, z1']) rfl ⟨rfl, below_put (below_next (below_box hb1) (below_box hb2)) (by omega) _ _⟩
  · rw [if_neg hz] at ho
    rw [ho]
    have t : ((hiOf (m * 1000000) : Int) != 0) = true := by rw [bne_iff_ne]; omega
    clear HG ho hm hz
    go_enter Try.func18, Try.ntmps18
    go_wp2_with fail
    refine (HS.out _).mono ?_; rintro e w' ⟨rfl, rfl⟩
    go_wp2_with fail
    refine (HM.out _).mono ?_; rintro e w1 ⟨rfl, hb1⟩; obtain ⟨hc1, hf1⟩ := bcell hb1
    have z1 : w.heap.size < w1.heap.size := (by have := hb1.size; simp at this; omega)
    have z1' : w.heap.size < w1.heap.size + 1 := by omega
    go_wp2_with fail
    refine (nothing_c _).mono ?_; rintro e w2 ⟨rfl, hb2⟩; obtain ⟨hc2, hf2⟩ := bcell hb2
    go_wp2
    exact bodyPost_ret (v := .agg #[.bool true, .int .i64 0]) (by simp [results, Try.results18, go_sem, hc1, hf1, hc2, hf2, z1, z1']) rfl ⟨rfl, below_put (below_next (below_box hb1) (below_box hb2)) (by omega) _ _⟩
end Go.Proofs.Ythnokbdkgehiaaa.FR
