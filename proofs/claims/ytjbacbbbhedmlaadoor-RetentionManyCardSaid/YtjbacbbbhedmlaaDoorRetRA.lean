/-
  Contracts of the document's own functions of layer 10 (isobarref10): digits, units, spans.
-/
import Derived.Test.YtjbacbbbhedmlaaDoorRetRow
set_option linter.unusedSimpArgs false
set_option linter.unusedVariables false
namespace Go.Proofs.YtjbacbbbhedmlaaDoor.RR
open Go.RowKit
def dgt (c : Nat) : Bool := isD c
/-- How many digits a text begins with. -/
def dk (l : List Nat) : Nat := (l.takeWhile dgt).length
theorem dk_le (l : List Nat) : dk l ≤ l.length := (List.takeWhile_sublist _).length_le
theorem dk_at {l : List Nat} : ∀ {k : Nat}, k ≤ l.length → (∀ j, j < k → isD (byteAt l j) = true) → (k = l.length ∨ isD (byteAt l k) = false) → dk l = k := by
  induction l with
  | nil => intro k hk _ _; have : k = 0 := by simpa using hk
           subst this; rfl
  | cons c l ih =>
    intro k hk h1 h2
    cases k with
    | zero =>
      rcases h2 with h2 | h2
      · simp at h2
      · have h3 : isD (c : Int) = false := h2
        unfold dk
        rw [List.takeWhile_cons_of_neg (by unfold dgt; rw [h3]; decide)]; rfl
    | succ k =>
      have h0 : isD (c : Int) = true := h1 0 (by omega)
      have h4 := ih (k := k) (by simpa using hk) (fun j hj => h1 (j + 1) (by omega)) (h2.imp (fun h => by simpa using h) (fun h => h))
      unfold dk at h4 ⊢
      rw [List.takeWhile_cons_of_pos (p := dgt) h0, List.length_cons, h4]
theorem dk_all {l : List Nat} (h : dk l = l.length) : allD l = true := by
  unfold allD
  have : l.takeWhile dgt = l := List.Sublist.eq_of_length (List.takeWhile_sublist dgt) (show (l.takeWhile dgt).length = l.length from h)
  have h2 := List.all_takeWhile (p := dgt) (l := l)
  rw [this] at h2
  exact h2
theorem ret_n2 {a b c d : Int} (h : a = c) (k : b = d) : Ending.returned (.tuple #[.int .i64 a, .int .i64 b]) = .returned (.tuple #[.int .i64 c, .int .i64 d]) := by rw [h, k]
theorem cap_step (v c : Nat) : min (min v 1099511627777 * 10 + (c - 48)) 1099511627777 = min (v * 10 + (c - 48)) 1099511627777 := by omega
/-- What is read of digits, one above 2^40 at most. -/
def capV (l : List Nat) : Nat := min (val l) 1099511627777
theorem capV_le (l : List Nat) : capV l ≤ 1099511627777 := Nat.min_le_right _ _
theorem capV_snoc (l : List Nat) (c : Nat) : capV (l ++ [c]) = min (capV l * 10 + (c - 48)) 1099511627777 := by
  unfold capV; rw [val_snoc, cap_step]
set_option maxRecDepth 100000 in
set_option maxHeartbeats 1000000 in
theorem number_c (s : ByteArray) (hs : s.size ≤ 9223372036854775807) (w : World) :
    Calls Tryd.prog 26 #[.string s] w fun e w' => e = .returned (.tuple #[.int .i64 (capV ((bs s).take (dk (bs s))) : Nat), .int .i64 (dk (bs s) : Nat)]) ∧ w = w' := by
  obtain ⟨d, hd⟩ : ∃ d, dk (bs s) = d := ⟨_, rfl⟩
  rw [hd]
  have HD := Lib.hid hd
  clear hd
  go_enter Tryd.func26, Tryd.ntmps26
  go_wp2
  go_loop [4, 5] (fun n i => ∃ (k : Nat) (N : Int), k ≤ s.size ∧ i = .int .i64 k ∧ n = .int .i64 N ∧ 0 ≤ N ∧ N ≤ 1099511627777 ∧ Hid (N = (capV ((bs s).take k) : Nat) ∧ ∀ j, j < k → isD (byteAt (bs s) j) = true)) (fun _ i => s.size - (intOf i).toNat)
  case atStart => exact ⟨0, 0, Nat.zero_le _, rfl, rfl, by omega, by omega, rfl, fun j h => absurd h (Nat.not_lt_zero j)⟩
  case round =>
    obtain ⟨k, N, hk, rfl, rfl, hN0, hN1, HI⟩ := hrel
    by_cases hlt : k < s.size
    · obtain ⟨c, hc⟩ : ∃ c, byteAt (bs s) k = c := ⟨_, rfl⟩
      have hb : (s[k]'hlt).toNat = c := (at_byte hlt).trans hc
      have hc1 : c ≤ 255 := by rw [← hc]; exact byte_le s k
      have hlt' : k < (bs s).length := by rw [bs_length]; exact hlt
      have HC := Lib.hid hc
      have stop : isD c = false → d = k := fun h => by
        rw [← HD.out]
        exact dk_at (by omega) HI.out.2 (.inr (by rw [HC.out]; exact h))
      have hv := capV_snoc ((bs s).take k) c
      rw [← hc, ← take_snoc hlt', hc] at hv
      have STOP := Lib.hid stop; have HV := Lib.hid hv
      clear hc hlt' stop hv
      by_cases h1 : 48 ≤ c
      · by_cases h2 : c ≤ 57
        · have hdc := Lib.hid (show isD (c : Int) = true by simp [isD]; omega)
          obtain ⟨M, hM⟩ : ∃ M, min (N * 10 + ((c : Int) - 48)) 1099511627777 = M := ⟨_, rfl⟩
          have hM0 : 0 ≤ M := by omega
          have hM1 : M ≤ 1099511627777 := by omega
          have hMV : M = (capV ((bs s).take (k + 1)) : Nat) := by
            rw [HV.out]
            have := HI.out.1
            omega
          have HMV := Lib.hid hMV
          clear hMV
          go_wp2
          refine ⟨⟨k + 1, M, by omega, by go_num, ?_, hM0, hM1, HMV.out, fun j hj => ?_⟩, by simp [intOf]; omega⟩
          · congr 1
            rw [← hM]
            split <;> omega
          · by_cases he : j = k
            · rw [he, HC.out]; exact hdc.out
            · exact HI.out.2 j (by omega)
        · have HE := Lib.hid (STOP.out (by simp [isD]; omega))
          go_wp2
          go_ret2
          exact ⟨ret_n2 (by rw [HE.out]; exact HI.out.1) (by rw [HE.out]), rfl⟩
      · have HE := Lib.hid (STOP.out (by simp [isD]; omega))
        go_wp2
        go_ret2
        exact ⟨ret_n2 (by rw [HE.out]; exact HI.out.1) (by rw [HE.out]), rfl⟩
    · obtain rfl : k = s.size := by omega
      have e : d = s.size := by
        rw [← HD.out]
        exact dk_at (by rw [bs_length]; omega) HI.out.2 (.inl (bs_length s).symm)
      have HE := Lib.hid e
      clear e
      go_wp2
      go_ret2
      exact ⟨ret_n2 (by rw [HE.out]; exact HI.out.1) (by rw [HE.out]), rfl⟩
end Go.Proofs.YtjbacbbbhedmlaaDoor.RR
