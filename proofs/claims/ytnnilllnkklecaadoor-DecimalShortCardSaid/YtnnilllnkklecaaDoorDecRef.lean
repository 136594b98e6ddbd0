/-
  Contracts of the document's own functions of layer 3 (isobarref03): digits and whole texts.
-/
import Derived.Test.YtnnilllnkklecaaDoorDecMath
import Derived.Test.YtnnilllnkklecaaDoorWideKit
set_option linter.unusedSimpArgs false
set_option linter.unusedVariables false
namespace Go.Proofs.YtnnilllnkklecaaDoor.DR
open Go.RowKit

theorem digit_c (c : Int) (w : World) : Calls Tryd.prog 22 #[.int .u8 c] w fun e w' => e = .returned (.bool (isD c)) ∧ w = w' := by
  by_cases h1 : 48 ≤ c
  · by_cases h2 : c ≤ 57
    · rw [show isD c = true from by simp [isD, h1, h2]]
      go_enter Tryd.func22, Tryd.ntmps22
      go_wp2
      go_ret
      exact ⟨rfl, rfl⟩
    · rw [show isD c = false from by simp [isD, h2]]
      go_enter Tryd.func22, Tryd.ntmps22
      go_wp2
      go_ret
      exact ⟨rfl, rfl⟩
  · rw [show isD c = false from by simp [isD, h1]]
    go_enter Tryd.func22, Tryd.ntmps22
    go_wp2
    go_ret
    exact ⟨rfl, rfl⟩

theorem ret_whole {a b : Nat} {x y : Int} (h : a = b) (k : x = y) : Ending.returned (.tuple #[.int .i64 (a : Int), .int .i64 x]) = .returned (.tuple #[.int .i64 (b : Int), .int .i64 y]) := by rw [h, k]
set_option maxRecDepth 100000 in
set_option maxHeartbeats 1000000 in
theorem whole_c (s : ByteArray) (hs : s.size ≤ 9223372036854775807) (w : World) :
    Calls Tryd.prog 11 #[.string s] w fun e w' => e = .returned (.tuple #[.int .i64 (wholeV (bs s) : Nat), .int .i64 (wholeE (bs s))]) ∧ w = w' := by
  by_cases hl : 64 < s.size
  · go_enter Tryd.func11, Tryd.ntmps11
    go_wp2
    go_ret2
    have hL : 64 < (bs s).length := by rw [bs_length]; exact hl
    exact ⟨ret_whole (a := 0) (if_pos hL).symm (if_pos hL).symm, rfl⟩
  have hLN : ¬ 64 < (bs s).length := by rw [bs_length]; exact hl
  have HL := Lib.hid hLN
  clear hLN
  obtain ⟨z, hz⟩ : ∃ z, s.toList.isEmpty = z := ⟨_, rfl⟩
  have HZ := Lib.hid (show z = true ↔ bs s = [] from by
    rw [← hz, List.isEmpty_iff, ByteArray.toList_eq]
    simp [bs])
  go_enter Tryd.func11, Tryd.ntmps11
  go_wp2
  go_loop [5] (fun i => ∃ k : Nat, k ≤ s.size ∧ i = .int .i64 k ∧ Hid (∀ j, j < k → isD (byteAt (bs s) j) = true)) (fun i => s.size - (intOf i).toNat)
  case atStart => exact ⟨0, Nat.zero_le _, rfl, fun j h => absurd h (Nat.not_lt_zero j)⟩
  case round =>
    obtain ⟨k, hk, rfl, HD⟩ := hrel
    by_cases hlt : k < s.size
    · obtain ⟨c, hc⟩ : ∃ c, byteAt (bs s) k = c := ⟨_, rfl⟩
      have hb : (s[k]'hlt).toNat = c := (at_byte hlt).trans hc
      have hc1 : c ≤ 255 := by rw [← hc]; exact byte_le s k
      have HC := Lib.hid hc
      clear hc
      go_wp2_with fail
      refine (digit_c c _).mono ?_; rintro e w' ⟨rfl, rfl⟩
      cases hd : isD c
      · go_wp2
        go_ret2
        have hA := allD_no (l := bs s) (k := k) (by rw [bs_length]; exact hlt) (by rw [HC.out]; exact hd)
        refine ⟨ret_whole (a := 0) ?_ ?_, rfl⟩
        · unfold wholeV; rw [if_neg HL.out, if_pos (.inl hA)]
        · unfold wholeE; rw [if_neg HL.out, if_pos (.inl hA)]
      · go_wp2
        refine ⟨⟨k + 1, by omega, by go_num, fun j hj => ?_⟩, by simp [intOf]; omega⟩
        by_cases he : j = k
        · rw [he, HC.out]; exact hd
        · exact HD.out j (by omega)
    · obtain rfl : k = s.size := by omega
      have hA := Lib.hid (allD_yes (l := bs s) (fun j hj => HD.out j (by rw [bs_length] at hj; exact hj)))
      clear hlt HD
      cases z
      · have hne := Lib.hid (show ¬ bs s = [] from fun e => by have := HZ.out.2 e; simp at this)
        clear HZ
        go_wp2_with fail
        go_loop [4, 6] (fun n i => ∃ (k : Nat) (N : Int), k ≤ s.size ∧ i = .int .i64 k ∧ n = .int .i64 N ∧ 0 ≤ N ∧ N ≤ 1099511627776 ∧ Hid (N = (val ((bs s).take k) : Nat))) (fun _ i => s.size - (intOf i).toNat)
        case atStart => exact ⟨0, 0, Nat.zero_le _, rfl, rfl, by omega, by omega, rfl⟩
        case round =>
          obtain ⟨k, N, hk, rfl, rfl, hN0, hN1, HN⟩ := hrel
          by_cases hlt : k < s.size
          · obtain ⟨c, hc⟩ : ∃ c, byteAt (bs s) k = c := ⟨_, rfl⟩
            have hb : (s[k]'hlt).toNat = c := (at_byte hlt).trans hc
            have hlt' : k < (bs s).length := by rw [bs_length]; exact hlt
            have hd := isD_bounds (allD_at hA.out hlt')
            rw [hc] at hd
            have hc0 := hd.1
            have hc1 := hd.2
            have hv := val_snoc ((bs s).take k) c
            rw [← hc, ← take_snoc hlt', hc] at hv
            have HV := Lib.hid hv
            have hle := Lib.hid (val_take_le (bs s) (k + 1))
            clear hc hd hv hlt'
            by_cases hbig : 1099511627776 < N * 10 + ((c : Int) - 48)
            · go_wp2
              go_ret2
              have hB : 1099511627776 < val (bs s) := by have := HN.out; have := HV.out; have := hle.out; omega
              refine ⟨ret_whole (a := 0) ?_ ?_, rfl⟩
              · unfold wholeV; rw [if_neg HL.out, if_neg (by rw [hA.out]; simp [hne.out]), if_pos hB]
              · unfold wholeE; rw [if_neg HL.out, if_neg (by rw [hA.out]; simp [hne.out]), if_pos hB]
            · go_wp2
              refine ⟨⟨k + 1, N * 10 + ((c : Int) - 48), by omega, by go_num, rfl, by omega, by omega, ?_⟩, by simp [intOf]; omega⟩
              show N * 10 + ((c : Int) - 48) = _
              have := HN.out; have := HV.out; omega
          · obtain rfl : k = s.size := by omega
            go_wp2
            go_ret2
            have hT : (bs s).take s.size = bs s := by rw [← bs_length, List.take_length]
            have hN := HN.out
            rw [hT] at hN
            have hB : ¬ 1099511627776 < val (bs s) := by omega
            refine ⟨?_, rfl⟩
            rw [hN]
            refine ret_whole ?_ ?_
            · unfold wholeV; rw [if_neg HL.out, if_neg (by rw [hA.out]; simp [hne.out]), if_neg hB]
            · unfold wholeE; rw [if_neg HL.out, if_neg (by rw [hA.out]; simp [hne.out]), if_neg hB]
      · have hne := Lib.hid (HZ.out.1 rfl)
        clear HZ
        go_wp2
        go_ret2
        refine ⟨ret_whole (a := 0) ?_ ?_, rfl⟩
        · unfold wholeV; rw [if_neg HL.out, if_pos (.inr hne.out)]
        · unfold wholeE; rw [if_neg HL.out, if_pos (.inr hne.out)]
end Go.Proofs.YtnnilllnkklecaaDoor.DR
