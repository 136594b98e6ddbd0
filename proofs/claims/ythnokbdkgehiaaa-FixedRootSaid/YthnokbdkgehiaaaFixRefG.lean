/-
  Contracts of the document's own functions of layer 2, the seventh part: rounding to so many decimals.
-/
import Derived.Test.YthnokbdkgehiaaaFixRefF
set_option linter.unusedSimpArgs false
set_option linter.unusedVariables false
namespace Go.Proofs.Ythnokbdkgehiaaa.FR
open Go.RowKit

/-- A power of ten. -/
def tp (j : Nat) : Nat := 10 ^ j
theorem tp_succ (j : Nat) : tp (j + 1) = tp j * 10 := Nat.pow_succ ..
theorem tp_le {j : Nat} (h : j ≤ 6) : tp j ≤ 1000000 := by
  have : 10 ^ j ≤ 10 ^ 6 := Nat.pow_le_pow_right (by decide) h
  exact this
theorem tp_pos (j : Nat) : 0 < tp j := Nat.pow_pos (by decide)
/-- A number, rounded to g decimals. -/
def decO (x : Option Int) (g : Nat) : Option Int := match x with
  | some a => if hiOf (rndV a.natAbs (tp (6 - g)) * tp (6 - g)) = 0 then signO (loOf (rndV a.natAbs (tp (6 - g)) * tp (6 - g))) (decide (a < 0)) else none
  | none => none
theorem round_word (m d n : Nat) (x : Int) (hm : m < 18446744073709551616) (hd0 : 0 < d) (hd : d < 18446744073709551616) (hn : rndV m d = n) (hx : rndE m d = x) (w : World) :
    Calls Try.prog 56 #[.agg #[.int .u64 0, .int .u64 (m : Nat)], .int .u64 d] w fun e w' => e = .returned (.tuple #[.int .u64 (n : Nat), .int .i64 x]) ∧ Below w.heap.size w w' := by
  have h := rround_q (0 * 18446744073709551616 + m) d n x (val_lt (by decide) hm) hd0 hd (by rw [Nat.zero_mul, Nat.zero_add]; exact hn) (by rw [Nat.zero_mul, Nat.zero_add]; exact hx) w
  rw [hi_val (by decide) hm, lo_val (by decide) hm] at h
  exact h
theorem rndV_lt (p d : Nat) : rndV p d < 18446744073709551616 := by
  unfold rndV
  split
  · exact loOf_lt _
  · decide

set_option maxRecDepth 100000 in
set_option maxHeartbeats 1000000 in
theorem round_yes (v : Int) (g : Nat) (hg : g ≤ 6) (h0 : -9223372036854775807 ≤ v) (h1 : v ≤ 9223372036854775807) (w : World) :
    Calls Try.prog 34 #[.agg #[.bool false, .int .i64 v], .int .i64 g] w fun e w' => e = .returned (.agg #[.bool (nb (decO (some v) g)), .int .i64 (nv (decO (some v) g))]) ∧ Below w.heap.size w w' := by
  have HP := Lib.hid (is_yes v (by omega))
  obtain ⟨m, hm⟩ : ∃ m, v.natAbs = m := ⟨_, rfl⟩
  have hm64 : m < 18446744073709551616 := by omega
  have HS := Lib.hid (size_q v m (by omega) h1 hm)
  have hu := tp_le (j := 6 - g) (by omega)
  have hu0 := tp_pos (6 - g)
  obtain ⟨n, hn⟩ : ∃ n, rndV m (tp (6 - g)) = n := ⟨_, rfl⟩
  obtain ⟨x, hx⟩ : ∃ x, rndE m (tp (6 - g)) = x := ⟨_, rfl⟩
  have hn64 : n < 18446744073709551616 := by rw [← hn]; exact rndV_lt _ _
  have HR := Lib.hid (round_word m (tp (6 - g)) n x hm64 hu0 (by omega) hn hx)
  have HM := Lib.hid (rmul_c n (tp (6 - g)) hn64 (by omega))
  have ho : decO (some v) g = if hiOf (n * tp (6 - g)) = 0 then signO (loOf (n * tp (6 - g))) (decide (v < 0)) else none := by rw [← hn, ← hm]; rfl
  have HG := signed_c (loOf (n * tp (6 - g))) (loOf_lt _) (decide (v < 0))
  have GO := Lib.hid ho
  have GG := Lib.hid HG
  clear hm hn hx ho HG
  go_enter Try.func34, Try.ntmps34
  go_wp2_with fail
  refine (HP.out _).mono ?_; rintro e w1 ⟨rfl, hb1⟩; obtain ⟨hc1, hf1⟩ := bcell hb1
  have z1 : w.heap.size + 1 < w1.heap.size := (by have := hb1.size; simp at this; omega)
  have x1 : w.heap.size < w1.heap.size := by omega
  go_wp2
  go_loop [5, 6] (fun u i => ∃ k : Nat, k ≤ 6 ∧ g ≤ k ∧ i = .int .i64 k ∧ u = .int .u64 (tp (k - g) : Nat)) (fun _ i => 6 - (intOf i).toNat)
  case atStart => exact ⟨g, hg, Nat.le_refl _, rfl, by rw [Nat.sub_self]; rfl⟩
  case round =>
    obtain ⟨k, hk, hgk, rfl, rfl⟩ := hrel
    have hle := tp_le (j := k - g) (by omega)
    by_cases hlt : k < 6
    · have hs := Lib.hid (tp_succ (k - g))
      go_wp2
      refine ⟨⟨k + 1, by omega, by omega, by go_num, ?_⟩, by simp [intOf]; omega⟩
      rw [show k + 1 - g = k - g + 1 from by omega, hs.out]
      go_num
    · obtain rfl : k = 6 := by omega
      clear hlt
      generalize tp (6 - g) = T at *
      go_wp2_with fail
      refine (HS.out _).mono ?_; rintro e w' ⟨rfl, rfl⟩
      go_wp2_with fail
      refine (HR.out _).mono ?_; rintro e w2 ⟨rfl, hb2⟩; obtain ⟨hc2, hf2⟩ := bcell hb2
      have z2 : w.heap.size + 1 < w2.heap.size := Nat.lt_of_lt_of_le z1 hb2.size
      have x2 : w.heap.size < w2.heap.size := by omega
      go_wp2_with fail
      refine (HM.out _).mono ?_; rintro e w3 ⟨rfl, hb3⟩; obtain ⟨hc3, hf3⟩ := bcell hb3
      have z3 : w.heap.size + 1 < w3.heap.size := Nat.lt_of_lt_of_le z2 hb3.size
      have x3 : w.heap.size < w3.heap.size := by omega
      have z3' : w.heap.size + 1 < w3.heap.size + 1 := by omega
      have x3' : w.heap.size < w3.heap.size + 1 := by omega
      have HX := Lib.hid (below_next (below_next (below_two hb1) hb2) hb3)
      by_cases hz : hiOf (n * T) = 0
      · have Ho := Lib.hid (GO.out.trans (if_pos hz))
        have t : ((hiOf (n * T) : Int) != 0) = false := by rw [bne_eq_false_iff_eq]; omega
        clear hz GO
        go_wp2_with fail
        refine (GG.out _).mono ?_; rintro e w4 ⟨rfl, hb4⟩; obtain ⟨hc4, hf4⟩ := bcell hb4
        go_wp2
        refine bodyPost_ret (v := .agg #[.bool (nb (signO (loOf (n * T)) (decide (v < 0)))), .int .i64 (nv (signO (loOf (n * T)) (decide (v < 0))))]) (by simp [results, Try.results34, go_sem, hc1, hf1, hc2, hf2, hc3, hf3, hc4, hf4, z1, z2, z3, z3']) rfl ⟨?_, below_put (below_next HX.out (below_box hb4)) (by omega) _ _⟩
        rw [Ho.out]
      · have Ho := Lib.hid (GO.out.trans (if_neg hz))
        have t : ((hiOf (n * T) : Int) != 0) = true := by rw [bne_iff_ne]; omega
        clear hz GO GG
        go_wp2_with fail
        refine (nothing_c _).mono ?_; rintro e w4 ⟨rfl, hb4⟩; obtain ⟨hc4, hf4⟩ := bcell hb4
        go_wp2
        refine bodyPost_ret (v := .agg #[.bool true, .int .i64 0]) (by simp [results, Try.results34, go_sem, hc1, hf1, hc2, hf2, hc3, hf3, hc4, hf4, z1, z2, z3, z3']) rfl ⟨?_, below_put (below_next HX.out (below_box hb4)) (by omega) _ _⟩
        rw [Ho.out]; rfl

theorem round_no (b : Bool) (v d : Int) (h : ¬ (b = false ∧ v ≠ -9223372036854775808) ∨ d < 0 ∨ 6 < d) (w : World) :
    Calls Try.prog 34 #[.agg #[.bool b, .int .i64 v], .int .i64 d] w fun e w' => e = .returned (.agg #[.bool true, .int .i64 0]) ∧ Below w.heap.size w w' := by
  by_cases g1 : b = false ∧ v ≠ -9223372036854775808
  · obtain ⟨rfl, k1⟩ := g1
    have HP := Lib.hid (is_yes v k1)
    have hd : d < 0 ∨ 6 < d := h.resolve_left (fun hh => hh ⟨rfl, k1⟩)
    clear h k1
    rcases hd with hd | hd
    · skip
      go_enter Try.func34, Try.ntmps34
      go_wp2_with fail
      refine (HP.out _).mono ?_; rintro e w1 ⟨rfl, hb1⟩; obtain ⟨hc1, hf1⟩ := bcell hb1
      have z1 : w.heap.size + 1 < w1.heap.size := (by have := hb1.size; simp at this; omega)
      go_wp2_with fail
      refine (nothing_c _).mono ?_; rintro e w2 ⟨rfl, hb2⟩; obtain ⟨hc2, hf2⟩ := bcell hb2
      go_wp2
      exact bodyPost_ret (v := .agg #[.bool true, .int .i64 0]) (by simp [results, Try.results34, go_sem, hc1, hf1, hc2, hf2, z1]) rfl ⟨rfl, below_put (below_next (below_two hb1) hb2) (by omega) _ _⟩
    · have hd' : ¬ d < 0 := by omega
      go_enter Try.func34, Try.ntmps34
      go_wp2_with fail
      refine (HP.out _).mono ?_; rintro e w1 ⟨rfl, hb1⟩; obtain ⟨hc1, hf1⟩ := bcell hb1
      have z1 : w.heap.size + 1 < w1.heap.size := (by have := hb1.size; simp at this; omega)
      go_wp2_with fail
      refine (nothing_c _).mono ?_; rintro e w2 ⟨rfl, hb2⟩; obtain ⟨hc2, hf2⟩ := bcell hb2
      go_wp2
      exact bodyPost_ret (v := .agg #[.bool true, .int .i64 0]) (by simp [results, Try.results34, go_sem, hc1, hf1, hc2, hf2, z1]) rfl ⟨rfl, below_put (below_next (below_two hb1) hb2) (by omega) _ _⟩
  · have HP := Lib.hid (is_no b v g1)
    clear h g1
    go_enter Try.func34, Try.ntmps34
    go_wp2_with fail
    refine (HP.out _).mono ?_; rintro e w1 ⟨rfl, hb1⟩; obtain ⟨hc1, hf1⟩ := bcell hb1
    have z1 : w.heap.size + 1 < w1.heap.size := (by have := hb1.size; simp at this; omega)
    go_wp2_with fail
    refine (nothing_c _).mono ?_; rintro e w2 ⟨rfl, hb2⟩; obtain ⟨hc2, hf2⟩ := bcell hb2
    go_wp2
    exact bodyPost_ret (v := .agg #[.bool true, .int .i64 0]) (by simp [results, Try.results34, go_sem, hc1, hf1, hc2, hf2, z1]) rfl ⟨rfl, below_put (below_next (below_two hb1) hb2) (by omega) _ _⟩
end Go.Proofs.Ythnokbdkgehiaaa.FR
