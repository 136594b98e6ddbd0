/-
  Contracts of the document's own functions of layer 15: Byte, Plain; lists of texts.
-/
import Derived.Test.YtkgmglncdiccfaaDoorGlbTx
import Derived.StillTailTactics
import Derived.Deep.Cut
set_option linter.unusedSimpArgs false
set_option linter.unusedVariables false
namespace Go.Proofs.YtkgmglncdiccfaaDoor.GR
open Go.RowKit
theorem isB_alone {c : Nat} (h1 : ¬ (97 ≤ c ∧ c ≤ 122)) (h2 : ¬ (65 ≤ c ∧ c ≤ 90)) (h3 : ¬ (48 ≤ c ∧ c ≤ 57)) : isB c = [95, 45, 58, 37, 35, 64, 43, 61].contains c := by
  unfold isB
  rw [← Bool.decide_and, ← Bool.decide_and, ← Bool.decide_and, decide_eq_false h1, decide_eq_false h2, decide_eq_false h3]
  rfl
theorem isB_in {c : Nat} (h : (97 ≤ c ∧ c ≤ 122) ∨ (65 ≤ c ∧ c ≤ 90) ∨ (48 ≤ c ∧ c ≤ 57)) : isB c = true := by
  unfold isB
  rw [← Bool.decide_and, ← Bool.decide_and, ← Bool.decide_and]
  rcases h with h | h | h <;> rw [decide_eq_true h] <;> simp
set_option maxRecDepth 100000 in
set_option maxHeartbeats 2000000 in
theorem byte_0 (c : Nat) (hc : c < 256) (hr : c ≤ 47) (w : World) :
    Calls Tryd.prog 38 #[.int .u8 (c : Nat)] w fun e w' => e = .returned (.bool (isB c)) ∧ w' = w := by
  have f97 : ¬ (97 : Int) ≤ (c : Int) := by omega
  have f122 : (c : Int) ≤ (122 : Int) := by omega
  have f65 : ¬ (65 : Int) ≤ (c : Int) := by omega
  have f90 : (c : Int) ≤ (90 : Int) := by omega
  have f48 : ¬ (48 : Int) ≤ (c : Int) := by omega
  have f57 : (c : Int) ≤ (57 : Int) := by omega
  rw [isB_alone (c := c) (by omega) (by omega) (by omega)]
  obtain ⟨d, hd⟩ : ∃ d, [95, 45, 58, 37, 35, 64, 43, 61].contains c = d := ⟨_, rfl⟩
  rw [hd]
  have HD := Lib.hid hd
  clear hd
  go_enter Tryd.func38, Tryd.ntmps38
  go_wp2
  obtain ⟨S, hS⟩ : ∃ S : ByteArray, (⟨#[95, 45, 58, 37, 35, 64, 43, 61]⟩ : ByteArray) = S := ⟨_, rfl⟩
  have hz : S.size = 8 := by rw [← hS]; rfl
  have HB := Lib.hid (show bs S = [95, 45, 58, 37, 35, 64, 43, 61] by rw [← hS]; rfl)
  rw [hS]
  clear hS
  go_loop [4] (fun kv => ∃ k : Nat, kv = .int .i64 (k : Nat) ∧ k ≤ S.size ∧ Hid (∀ j, j < k → (bs S).getD j 0 ≠ c)) (fun kv => S.size - (intOf kv).toNat)
  case atStart => exact ⟨0, rfl, Nat.zero_le _, fun j hj => absurd hj (Nat.not_lt_zero j)⟩
  case round =>
    obtain ⟨k, rfl, hk, HN⟩ := hrel
    by_cases hlt : k < S.size
    · obtain ⟨b, hb1, hb2, hb3⟩ := bs_get hlt
      have hki : (k : Int) < (S.size : Int) := by omega
      by_cases hbc : b = c
      · subst hbc
        have HDF := Lib.hid (show true = d by
          rw [← HD.out]
          have hlen : k < (bs S).length := by rw [bs_length]; exact hlt
          have : b ∈ bs S := by
            rw [← hb1, List.getD_eq_getElem?_getD, List.getElem?_eq_getElem hlen]
            exact List.getElem_mem _
          rw [HB.out] at this
          exact (List.contains_iff_mem.2 this).symm)
        clear hb1
        go_wp2
        go_ret
        exact ⟨congrArg (fun z => Ending.returned (.bool z)) HDF.out, rfl⟩
      · have hbi : ((b : Int) == (c : Int)) = false := beq_false_of_ne (by omega)
        have HNX := Lib.hid (show ∀ j, j < k + 1 → (bs S).getD j 0 ≠ c from fun j hj => by
          by_cases e : j = k
          · rw [e, hb1]; exact hbc
          · exact HN.out j (by omega))
        have hbi2 : ¬ (b : Int) = (c : Int) := by omega
        clear hb1
        go_wp2
        go_round
        case rel => exact ⟨k + 1, by go_num, by omega, HNX⟩
        case measure => simp [intOf]; omega
    · obtain rfl : k = S.size := by omega
      have HDF := Lib.hid (show false = d by
        rw [← HD.out]
        symm
        rw [Bool.eq_false_iff]
        intro h
        have hm := List.contains_iff_mem.1 h
        rw [← HB.out] at hm
        obtain ⟨j, hj⟩ := List.getElem?_of_mem hm
        have hlt := (List.getElem?_eq_some_iff.1 hj).1
        rw [bs_length] at hlt
        exact HN.out j hlt (by rw [List.getD_eq_getElem?_getD, hj]; rfl))
      go_wp2
      go_ret
      exact ⟨congrArg (fun z => Ending.returned (.bool z)) HDF.out, rfl⟩
set_option maxRecDepth 100000 in
set_option maxHeartbeats 2000000 in
theorem byte_1 (c : Nat) (hc : c < 256) (hr : 48 ≤ c ∧ c ≤ 57) (w : World) :
    Calls Tryd.prog 38 #[.int .u8 (c : Nat)] w fun e w' => e = .returned (.bool (isB c)) ∧ w' = w := by
  have f97 : ¬ (97 : Int) ≤ (c : Int) := by omega
  have f122 : (c : Int) ≤ (122 : Int) := by omega
  have f65 : ¬ (65 : Int) ≤ (c : Int) := by omega
  have f90 : (c : Int) ≤ (90 : Int) := by omega
  have f48 : (48 : Int) ≤ (c : Int) := by omega
  have f57 : (c : Int) ≤ (57 : Int) := by omega
  rw [isB_in (c := c) (by omega)]
  go_enter Tryd.func38, Tryd.ntmps38
  go_wp2
  go_ret
  exact ⟨rfl, rfl⟩
set_option maxRecDepth 100000 in
set_option maxHeartbeats 2000000 in
theorem byte_2 (c : Nat) (hc : c < 256) (hr : 58 ≤ c ∧ c ≤ 64) (w : World) :
    Calls Tryd.prog 38 #[.int .u8 (c : Nat)] w fun e w' => e = .returned (.bool (isB c)) ∧ w' = w := by
  have f97 : ¬ (97 : Int) ≤ (c : Int) := by omega
  have f122 : (c : Int) ≤ (122 : Int) := by omega
  have f65 : ¬ (65 : Int) ≤ (c : Int) := by omega
  have f90 : (c : Int) ≤ (90 : Int) := by omega
  have f48 : (48 : Int) ≤ (c : Int) := by omega
  have f57 : ¬ (c : Int) ≤ (57 : Int) := by omega
  rw [isB_alone (c := c) (by omega) (by omega) (by omega)]
  obtain ⟨d, hd⟩ : ∃ d, [95, 45, 58, 37, 35, 64, 43, 61].contains c = d := ⟨_, rfl⟩
  rw [hd]
  have HD := Lib.hid hd
  clear hd
  go_enter Tryd.func38, Tryd.ntmps38
  go_wp2
  obtain ⟨S, hS⟩ : ∃ S : ByteArray, (⟨#[95, 45, 58, 37, 35, 64, 43, 61]⟩ : ByteArray) = S := ⟨_, rfl⟩
  have hz : S.size = 8 := by rw [← hS]; rfl
  have HB := Lib.hid (show bs S = [95, 45, 58, 37, 35, 64, 43, 61] by rw [← hS]; rfl)
  rw [hS]
  clear hS
  go_loop [4] (fun kv => ∃ k : Nat, kv = .int .i64 (k : Nat) ∧ k ≤ S.size ∧ Hid (∀ j, j < k → (bs S).getD j 0 ≠ c)) (fun kv => S.size - (intOf kv).toNat)
  case atStart => exact ⟨0, rfl, Nat.zero_le _, fun j hj => absurd hj (Nat.not_lt_zero j)⟩
  case round =>
    obtain ⟨k, rfl, hk, HN⟩ := hrel
    by_cases hlt : k < S.size
    · obtain ⟨b, hb1, hb2, hb3⟩ := bs_get hlt
      have hki : (k : Int) < (S.size : Int) := by omega
      by_cases hbc : b = c
      · subst hbc
        have HDF := Lib.hid (show true = d by
          rw [← HD.out]
          have hlen : k < (bs S).length := by rw [bs_length]; exact hlt
          have : b ∈ bs S := by
            rw [← hb1, List.getD_eq_getElem?_getD, List.getElem?_eq_getElem hlen]
            exact List.getElem_mem _
          rw [HB.out] at this
          exact (List.contains_iff_mem.2 this).symm)
        clear hb1
        go_wp2
        go_ret
        exact ⟨congrArg (fun z => Ending.returned (.bool z)) HDF.out, rfl⟩
      · have hbi : ((b : Int) == (c : Int)) = false := beq_false_of_ne (by omega)
        have HNX := Lib.hid (show ∀ j, j < k + 1 → (bs S).getD j 0 ≠ c from fun j hj => by
          by_cases e : j = k
          · rw [e, hb1]; exact hbc
          · exact HN.out j (by omega))
        have hbi2 : ¬ (b : Int) = (c : Int) := by omega
        clear hb1
        go_wp2
        go_round
        case rel => exact ⟨k + 1, by go_num, by omega, HNX⟩
        case measure => simp [intOf]; omega
    · obtain rfl : k = S.size := by omega
      have HDF := Lib.hid (show false = d by
        rw [← HD.out]
        symm
        rw [Bool.eq_false_iff]
        intro h
        have hm := List.contains_iff_mem.1 h
        rw [← HB.out] at hm
        obtain ⟨j, hj⟩ := List.getElem?_of_mem hm
        have hlt := (List.getElem?_eq_some_iff.1 hj).1
        rw [bs_length] at hlt
        exact HN.out j hlt (by rw [List.getD_eq_getElem?_getD, hj]; rfl))
      go_wp2
      go_ret
      exact ⟨congrArg (fun z => Ending.returned (.bool z)) HDF.out, rfl⟩
set_option maxRecDepth 100000 in
set_option maxHeartbeats 2000000 in
theorem byte_3 (c : Nat) (hc : c < 256) (hr : 65 ≤ c ∧ c ≤ 90) (w : World) :
    Calls Tryd.prog 38 #[.int .u8 (c : Nat)] w fun e w' => e = .returned (.bool (isB c)) ∧ w' = w := by
  have f97 : ¬ (97 : Int) ≤ (c : Int) := by omega
  have f122 : (c : Int) ≤ (122 : Int) := by omega
  have f65 : (65 : Int) ≤ (c : Int) := by omega
  have f90 : (c : Int) ≤ (90 : Int) := by omega
  have f48 : (48 : Int) ≤ (c : Int) := by omega
  have f57 : ¬ (c : Int) ≤ (57 : Int) := by omega
  rw [isB_in (c := c) (by omega)]
  go_enter Tryd.func38, Tryd.ntmps38
  go_wp2
  go_ret
  exact ⟨rfl, rfl⟩
set_option maxRecDepth 100000 in
set_option maxHeartbeats 2000000 in
theorem byte_4 (c : Nat) (hc : c < 256) (hr : 91 ≤ c ∧ c ≤ 96) (w : World) :
    Calls Tryd.prog 38 #[.int .u8 (c : Nat)] w fun e w' => e = .returned (.bool (isB c)) ∧ w' = w := by
  have f97 : ¬ (97 : Int) ≤ (c : Int) := by omega
  have f122 : (c : Int) ≤ (122 : Int) := by omega
  have f65 : (65 : Int) ≤ (c : Int) := by omega
  have f90 : ¬ (c : Int) ≤ (90 : Int) := by omega
  have f48 : (48 : Int) ≤ (c : Int) := by omega
  have f57 : ¬ (c : Int) ≤ (57 : Int) := by omega
  rw [isB_alone (c := c) (by omega) (by omega) (by omega)]
  obtain ⟨d, hd⟩ : ∃ d, [95, 45, 58, 37, 35, 64, 43, 61].contains c = d := ⟨_, rfl⟩
  rw [hd]
  have HD := Lib.hid hd
  clear hd
  go_enter Tryd.func38, Tryd.ntmps38
  go_wp2
  obtain ⟨S, hS⟩ : ∃ S : ByteArray, (⟨#[95, 45, 58, 37, 35, 64, 43, 61]⟩ : ByteArray) = S := ⟨_, rfl⟩
  have hz : S.size = 8 := by rw [← hS]; rfl
  have HB := Lib.hid (show bs S = [95, 45, 58, 37, 35, 64, 43, 61] by rw [← hS]; rfl)
  rw [hS]
  clear hS
  go_loop [4] (fun kv => ∃ k : Nat, kv = .int .i64 (k : Nat) ∧ k ≤ S.size ∧ Hid (∀ j, j < k → (bs S).getD j 0 ≠ c)) (fun kv => S.size - (intOf kv).toNat)
  case atStart => exact ⟨0, rfl, Nat.zero_le _, fun j hj => absurd hj (Nat.not_lt_zero j)⟩
  case round =>
    obtain ⟨k, rfl, hk, HN⟩ := hrel
    by_cases hlt : k < S.size
    · obtain ⟨b, hb1, hb2, hb3⟩ := bs_get hlt
      have hki : (k : Int) < (S.size : Int) := by omega
      by_cases hbc : b = c
      · subst hbc
        have HDF := Lib.hid (show true = d by
          rw [← HD.out]
          have hlen : k < (bs S).length := by rw [bs_length]; exact hlt
          have : b ∈ bs S := by
            rw [← hb1, List.getD_eq_getElem?_getD, List.getElem?_eq_getElem hlen]
            exact List.getElem_mem _
          rw [HB.out] at this
          exact (List.contains_iff_mem.2 this).symm)
        clear hb1
        go_wp2
        go_ret
        exact ⟨congrArg (fun z => Ending.returned (.bool z)) HDF.out, rfl⟩
      · have hbi : ((b : Int) == (c : Int)) = false := beq_false_of_ne (by omega)
        have HNX := Lib.hid (show ∀ j, j < k + 1 → (bs S).getD j 0 ≠ c from fun j hj => by
          by_cases e : j = k
          · rw [e, hb1]; exact hbc
          · exact HN.out j (by omega))
        have hbi2 : ¬ (b : Int) = (c : Int) := by omega
        clear hb1
        go_wp2
        go_round
        case rel => exact ⟨k + 1, by go_num, by omega, HNX⟩
        case measure => simp [intOf]; omega
    · obtain rfl : k = S.size := by omega
      have HDF := Lib.hid (show false = d by
        rw [← HD.out]
        symm
        rw [Bool.eq_false_iff]
        intro h
        have hm := List.contains_iff_mem.1 h
        rw [← HB.out] at hm
        obtain ⟨j, hj⟩ := List.getElem?_of_mem hm
        have hlt := (List.getElem?_eq_some_iff.1 hj).1
        rw [bs_length] at hlt
        exact HN.out j hlt (by rw [List.getD_eq_getElem?_getD, hj]; rfl))
      go_wp2
      go_ret
      exact ⟨congrArg (fun z => Ending.returned (.bool z)) HDF.out, rfl⟩
set_option maxRecDepth 100000 in
set_option maxHeartbeats 2000000 in
theorem byte_5 (c : Nat) (hc : c < 256) (hr : 97 ≤ c ∧ c ≤ 122) (w : World) :
    Calls Tryd.prog 38 #[.int .u8 (c : Nat)] w fun e w' => e = .returned (.bool (isB c)) ∧ w' = w := by
  have f97 : (97 : Int) ≤ (c : Int) := by omega
  have f122 : (c : Int) ≤ (122 : Int) := by omega
  have f65 : (65 : Int) ≤ (c : Int) := by omega
  have f90 : ¬ (c : Int) ≤ (90 : Int) := by omega
  have f48 : (48 : Int) ≤ (c : Int) := by omega
  have f57 : ¬ (c : Int) ≤ (57 : Int) := by omega
  rw [isB_in (c := c) (by omega)]
  go_enter Tryd.func38, Tryd.ntmps38
  go_wp2
  go_ret
  exact ⟨rfl, rfl⟩
set_option maxRecDepth 100000 in
set_option maxHeartbeats 2000000 in
theorem byte_6 (c : Nat) (hc : c < 256) (hr : 123 ≤ c) (w : World) :
    Calls Tryd.prog 38 #[.int .u8 (c : Nat)] w fun e w' => e = .returned (.bool (isB c)) ∧ w' = w := by
  have f97 : (97 : Int) ≤ (c : Int) := by omega
  have f122 : ¬ (c : Int) ≤ (122 : Int) := by omega
  have f65 : (65 : Int) ≤ (c : Int) := by omega
  have f90 : ¬ (c : Int) ≤ (90 : Int) := by omega
  have f48 : (48 : Int) ≤ (c : Int) := by omega
  have f57 : ¬ (c : Int) ≤ (57 : Int) := by omega
  rw [isB_alone (c := c) (by omega) (by omega) (by omega)]
  obtain ⟨d, hd⟩ : ∃ d, [95, 45, 58, 37, 35, 64, 43, 61].contains c = d := ⟨_, rfl⟩
  rw [hd]
  have HD := Lib.hid hd
  clear hd
  go_enter Tryd.func38, Tryd.ntmps38
  go_wp2
  obtain ⟨S, hS⟩ : ∃ S : ByteArray, (⟨#[95, 45, 58, 37, 35, 64, 43, 61]⟩ : ByteArray) = S := ⟨_, rfl⟩
  have hz : S.size = 8 := by rw [← hS]; rfl
  have HB := Lib.hid (show bs S = [95, 45, 58, 37, 35, 64, 43, 61] by rw [← hS]; rfl)
  rw [hS]
  clear hS
  go_loop [4] (fun kv => ∃ k : Nat, kv = .int .i64 (k : Nat) ∧ k ≤ S.size ∧ Hid (∀ j, j < k → (bs S).getD j 0 ≠ c)) (fun kv => S.size - (intOf kv).toNat)
  case atStart => exact ⟨0, rfl, Nat.zero_le _, fun j hj => absurd hj (Nat.not_lt_zero j)⟩
  case round =>
    obtain ⟨k, rfl, hk, HN⟩ := hrel
    by_cases hlt : k < S.size
    · obtain ⟨b, hb1, hb2, hb3⟩ := bs_get hlt
      have hki : (k : Int) < (S.size : Int) := by omega
      by_cases hbc : b = c
      · subst hbc
        have HDF := Lib.hid (show true = d by
          rw [← HD.out]
          have hlen : k < (bs S).length := by rw [bs_length]; exact hlt
          have : b ∈ bs S := by
            rw [← hb1, List.getD_eq_getElem?_getD, List.getElem?_eq_getElem hlen]
            exact List.getElem_mem _
          rw [HB.out] at this
          exact (List.contains_iff_mem.2 this).symm)
        clear hb1
        go_wp2
        go_ret
        exact ⟨congrArg (fun z => Ending.returned (.bool z)) HDF.out, rfl⟩
      · have hbi : ((b : Int) == (c : Int)) = false := beq_false_of_ne (by omega)
        have HNX := Lib.hid (show ∀ j, j < k + 1 → (bs S).getD j 0 ≠ c from fun j hj => by
          by_cases e : j = k
          · rw [e, hb1]; exact hbc
          · exact HN.out j (by omega))
        have hbi2 : ¬ (b : Int) = (c : Int) := by omega
        clear hb1
        go_wp2
        go_round
        case rel => exact ⟨k + 1, by go_num, by omega, HNX⟩
        case measure => simp [intOf]; omega
    · obtain rfl : k = S.size := by omega
      have HDF := Lib.hid (show false = d by
        rw [← HD.out]
        symm
        rw [Bool.eq_false_iff]
        intro h
        have hm := List.contains_iff_mem.1 h
        rw [← HB.out] at hm
        obtain ⟨j, hj⟩ := List.getElem?_of_mem hm
        have hlt := (List.getElem?_eq_some_iff.1 hj).1
        rw [bs_length] at hlt
        exact HN.out j hlt (by rw [List.getD_eq_getElem?_getD, hj]; rfl))
      go_wp2
      go_ret
      exact ⟨congrArg (fun z => Ending.returned (.bool z)) HDF.out, rfl⟩
theorem byte_c (c : Nat) (hc : c < 256) (w : World) :
    Calls Tryd.prog 38 #[.int .u8 (c : Nat)] w fun e w' => e = .returned (.bool (isB c)) ∧ w' = w := by
  have h : c ≤ 47 ∨ (48 ≤ c ∧ c ≤ 57) ∨ (58 ≤ c ∧ c ≤ 64) ∨ (65 ≤ c ∧ c ≤ 90) ∨ (91 ≤ c ∧ c ≤ 96) ∨ (97 ≤ c ∧ c ≤ 122) ∨ 123 ≤ c := by omega
  rcases h with h | h | h | h | h | h | h
  · exact byte_0 c hc h w
  · exact byte_1 c hc h w
  · exact byte_2 c hc h w
  · exact byte_3 c hc h w
  · exact byte_4 c hc h w
  · exact byte_5 c hc h w
  · exact byte_6 c hc h w
/-- Has a text just name bytes? -/
def gPlain (s : List Nat) : Bool := decide (s ≠ []) && s.all isB
/-- A row of texts, as it is read. -/
def TxOut (w : World) (v : Value) (l : List (List Nat)) : Prop := ∃ A cap, v = .slice A l.length cap ∧ l.length ≤ cap ∧ (l ≠ [] → ∃ b, A = some ⟨b, 0, none⟩ ∧ TxAt w b l)
theorem TxOut.below {w w' : World} {v : Value} {l : List (List Nat)} (h : TxOut w v l) (hb : Below w.heap.size w w') : TxOut w' v l := by
  obtain ⟨A, cap, hv, hc, hx⟩ := h
  refine ⟨A, cap, hv, hc, fun hn => ?_⟩
  obtain ⟨b, hA, hf⟩ := hx hn
  exact ⟨b, hA, hf.below hb⟩
theorem TxOut.of {B : Nat} {w : World} {v : Value} {l : List (List Nat)} (h : TxNew B w v l) : TxOut w v l := by
  obtain ⟨A, c, rfl, hc, hx⟩ := h.form
  refine ⟨A, c, rfl, hc, fun hn => ?_⟩
  obtain ⟨g, rfl, _, _, ha⟩ := hx (List.length_pos_iff.2 hn)
  exact ⟨g, rfl, ha⟩
set_option maxRecDepth 100000 in
set_option maxHeartbeats 1000000 in
theorem texts_c {v1 v2 : Value} {l : List (List Nat)} (hl : l.length ≤ 100000) {w : World} (f1 : TxOut w v1 l) (f2 : TxOut w v2 l) :
    Calls Tryd.prog 13 #[v1, v2] w fun e w' => e = .returned (.bool true) ∧ Below w.heap.size w w' := by
  obtain ⟨A1, c1, rfl, hc1, _⟩ := id f1
  obtain ⟨A2, c2, rfl, hc2, _⟩ := id f2
  have F1 := Lib.hid f1; have F2 := Lib.hid f2
  clear f1 f2
  obtain ⟨n, hn⟩ : ∃ n, l.length = n := ⟨_, rfl⟩
  have HN := Lib.hid hn
  rw [hn] at hl hc1 hc2 F1 F2 ⊢
  clear hn
  go_enter Tryd.func13, Tryd.ntmps13
  go_wp2
  go_loopw [5] (fun i wr => ∃ k : Nat, k ≤ n ∧ i = .int .i64 k ∧ Hid (Below w.heap.size w wr)) (fun i _ => n - (intOf i).toNat)
  case atStart => exact ⟨0, Nat.zero_le _, rfl, Below.refl _ _⟩
  case round =>
    obtain ⟨k, hk, rfl, HI⟩ := hrel
    by_cases hlt : k < n
    · have hkl : k < l.length := by rw [HN.out]; exact hlt
      have hne : l ≠ [] := by intro e; rw [e] at hkl; exact absurd hkl (Nat.not_lt_zero _)
      obtain ⟨A, c, hv, _, hx⟩ := F1.out.below HI.out
      obtain ⟨A', c', hv', _, hx'⟩ := F2.out.below HI.out
      injection hv with e1 _ _; subst e1
      injection hv' with e1 _ _; subst e1
      obtain ⟨b1, rfl, a1⟩ := hx hne
      obtain ⟨b2, rfl, a2⟩ := hx' hne
      have hp := List.getElem?_eq_getElem hkl
      have y1 := a1 k _ hp
      have y2 := a2 k _ hp
      generalize l[k] = t at *
      generalize str t = T at *
      clear hp a1 a2 hx hx' hkl hne
      go_wp2
      go_region
      go_wp2
      go_roundw
      case rel => exact ⟨k + 1, by omega, by go_num, Below.drew HI.out⟩
      case measure => simp [intOf]; omega
    · obtain rfl : k = n := by omega
      go_wp2
      go_ret
      exact ⟨rfl, HI.out⟩
end Go.Proofs.YtkgmglncdiccfaaDoor.GR
