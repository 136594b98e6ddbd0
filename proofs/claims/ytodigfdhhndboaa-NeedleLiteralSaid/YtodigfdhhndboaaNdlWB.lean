/-
  The statements of layer 9, walked: what is within a text.
-/
import Derived.Test.YtodigfdhhndboaaNdlWA
import Derived.Laws.DeepStrings4
set_option linter.unusedSimpArgs false
set_option linter.unusedVariables false
namespace Go.Proofs.Ytodigfdhhndboaa.NW
open Go Go.RowKit
set_option maxRecDepth 100000 in
set_option maxHeartbeats 4000000 in
theorem within_c (t s : ByteArray) (ht : t.size ≤ 100000) (hs : s.size ≤ 100000) (w : World) : Calls Try.prog 21 #[.string t, .string s] w fun e w' => e = .returned (.bool (wiB (bs t) (bs s))) ∧ w = w' := by
  obtain ⟨d, hd⟩ : ∃ d, wiB (bs t) (bs s) = d := ⟨_, rfl⟩
  rw [hd]
  have HD := Lib.hid hd
  clear hd
  obtain ⟨n, hn⟩ : ∃ n, s.size = n := ⟨_, rfl⟩
  obtain ⟨m, hm⟩ : ∃ m, t.size = m := ⟨_, rfl⟩
  have HDT := Lib.hid (fun (k : Nat) (h1 : k + n ≤ m) (h2 : seg (bs t) k (k + n) = bs s) => show d = true from by
    rw [← HD.out]
    rw [wiB_iff]
    exact ⟨k, by rw [bs_length, bs_length, hn, hm]; exact h1, by rw [bs_length, hn]; exact h2⟩)
  have HDF := Lib.hid (fun (h : ∀ k, k + n ≤ m → ¬ seg (bs t) k (k + n) = bs s) => show d = false from by
    rw [← HD.out, Bool.eq_false_iff, ne_eq, wiB_iff]
    rintro ⟨j, h1, h2⟩
    rw [bs_length, hn] at h1 h2
    rw [bs_length, hm] at h1
    exact h j h1 h2)
  have HNN := Lib.hid hn; have HMM := Lib.hid hm
  clear hn hm
  go_enter Try.func21, Try.ntmps21
  go_wp2
  go_loop [5] (fun kv => ∃ k : Nat, kv = .int .i64 (k : Nat) ∧ k ≤ m + 1 ∧ Hid (∀ j, j < k → j + n ≤ m → ¬ seg (bs t) j (j + n) = bs s)) (fun kv => m + 1 - (intOf kv).toNat)
  case atStart => exact ⟨0, rfl, Nat.zero_le _, fun j hj => absurd hj (Nat.not_lt_zero j)⟩
  case round =>
    obtain ⟨k, rfl, hk, HN⟩ := hrel
    have hnn := HNN.out; have hmm := HMM.out
    by_cases hlt : k + n ≤ m
    · have hkn : (k : Int) ≤ (t.size : Int) - (s.size : Int) := by omega
      have HE := Lib.hid (toList_eq (t.extract k (k + s.size)) s)
      have hsz : k + s.size ≤ t.size := by omega
      have HLT := Lib.hid hlt
      clear hlt
      by_cases he : seg (bs t) k (k + n) = bs s
      · have hq : ((t.extract k (k + s.size)).toList == s.toList) = true := by rw [HE.out, decide_eq_true_eq, seg_extract, hnn]; exact he
        have HT := Lib.hid (HDT.out k HLT.out he)
        clear he hnn hmm
        go_wp2
        go_ret
        exact ⟨by rw [HT.out]; rfl, rfl⟩
      · have hq : ((t.extract k (k + s.size)).toList == s.toList) = false := by rw [HE.out, decide_eq_false_iff_not, seg_extract, hnn]; exact he
        have HN2 := Lib.hid (show ∀ j, j < k + 1 → j + n ≤ m → ¬ seg (bs t) j (j + n) = bs s from fun j hj h => by
          by_cases e : j = k
          · rw [e]; exact he
          · exact HN.out j (by omega) h)
        clear he hnn hmm
        go_wp2
        go_round
        case rel => exact ⟨k + 1, by go_num, by have := HLT.out; omega, HN2⟩
        case measure => have := HLT.out; simp [intOf]; omega
    · have hkn : ¬ (k : Int) ≤ (t.size : Int) - (s.size : Int) := by omega
      have HF := Lib.hid (HDF.out (fun j hj => HN.out j (by omega) hj))
      clear hnn hmm hlt
      go_wp2
      go_ret
      exact ⟨by rw [HF.out]; rfl, rfl⟩
end Go.Proofs.Ytodigfdhhndboaa.NW
