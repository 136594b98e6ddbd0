/-
  Contracts of the document's own functions of layer 10 (isobarref10): digits, units, spans.
-/
import Derived.Test.YtodlgbihdehmbaaGreatDoorRetRowP
set_option linter.unusedSimpArgs false
set_option linter.unusedVariables false
namespace Go.Proofs.YtodlgbihdehmbaaGreatDoor.RR
open Go.RowKit
def dgt (c : Nat) : Bool := isD c
/-- How many digits a text begins with. -/
def dk (l : List Nat) : Nat := (l.takeWhile dgt).length
theorem dk_le (l : List Nat) : dk l ≤ l.length := (List.takeWhile_sublist _).length_le
theorem dk_at {l : List Nat} : ∀ {k : Nat}, k ≤ l.length → (∀ j, j < k → isD (byteAt l j) = true) → (k = l.length ∨ isD (byteAt l k) = false) → dk l = k := by
  induction l with
  | nil => intro k hk _ _; have : k = 0 := by simpa using hk
           subst this; rfl
  | cons c l ih =>
    intro k hk h1 h2
    cases k with
    | zero =>
      rcases h2 with h2 | h2
      · simp at h2
      · have h3 : isD (c : Int) = false := h2
        unfold dk
        rw [List.takeWhile_cons_of_neg (by unfold dgt; rw [h3]; decide)]; rfl
    | succ k =>
      have h0 : isD (c : Int) = true := h1 0 (by omega)
      have h4 := ih (k := k) (by simpa using hk) (fun j hj => h1 (j + 1) (by omega)) (h2.imp (fun h => by simpa using h) (fun h => h))
      unfold dk at h4 ⊢
      rw [List.takeWhile_cons_of_pos (p := dgt) h0, List.length_cons, h4]
theorem dk_all {l : List Nat} (h : dk l = l.length) : allD l = true := by
  unfold allD
  have : l.takeWhile dgt = l := List.Sublist.eq_of_length (List.takeWhile_sublist dgt) (show (l.takeWhile dgt).length = l.length from h)
  have h2 := List.all_takeWhile (p := dgt) (l := l)
  rw [this] at h2
  exact h2
theorem ret_n2 {a b c d : Int} (h : a = c) (k : b = d) : Ending.returned (.tuple #[.int .i64 a, .int .i64 b]) = .returned (.tuple #[.int .i64 c, .int .i64 d]) := by rw [h, k]
theorem cap_step (v c : Nat) : min (min v 1099511627777 * 10 + (c - 48)) 1099511627777 = min (v * 10 + (c - 48)) 1099511627777 := by omega
/-- What is read of digits, one above 2^40 at most. -/
def capV (l : List Nat) : Nat := min (val l) 1099511627777
theorem capV_le (l : List Nat) : capV l ≤ 1099511627777 := Nat.min_le_right _ _
theorem capV_snoc (l : List Nat) (c : Nat) : capV (l ++ [c]) = min (capV l * 10 + (c - 48)) 1099511627777 := by
  unfold capV; rw [val_snoc, cap_step]
set_option maxRecDepth 100000 in
set_option maxHeartbeats 1000000 in
theorem number_c (s : ByteArray) (hs : s.size ≤ 9223372036854775807) (w : World) :
    Calls Tryz.prog 83 #[.string s] w fun e w' => e = .returned (.tuple #[.int .i64 (capV ((bs s).take (dk (bs s))) : Nat), .int .i64 (dk (bs s) : Nat)]) ∧ w = w' := by
  obtain ⟨d, hd⟩ : ∃ d, dk (bs s) = d := ⟨_, rfl⟩
  rw [hd]
  have HD := Lib.hid hd
  clear hd
  go_enter Tryz.func83, Tryz.ntmps83
  go_wp2
  go_loop [4, 5] (fun n i => ∃ (k : Nat) (N : Int), k ≤ s.size ∧ i = .int .i64 k ∧ n = .int .i64 N ∧ 0 ≤ N ∧ N ≤ 1099511627777 ∧ Hid (N = (capV ((bs s).take k) : Nat) ∧ ∀ j, j < k → isD (byteAt (bs s) j) = true)) (fun _ i => s.size - (intOf i).toNat)
  case atStart => exact ⟨0, 0, Nat.zero_le _, rfl, rfl, by omega, by omega, rfl, fun j h => absurd h (Nat.not_lt_zero j)⟩
  case round =>
    obtain ⟨k, N, hk, rfl, rfl, hN0, hN1, HI⟩ := hrel
    by_cases hlt : k < s.size
    · obtain ⟨c, hc⟩ : ∃ c, byteAt (bs s) k = c := ⟨_, rfl⟩
      have hb : (s[k]'hlt).toNat = c := (at_byte hlt).trans hc
      have hc1 : c ≤ 255 := by rw [← hc]; exact byte_le s k
      have hlt' : k < (bs s).length := by rw [bs_length]; exact hlt
      have HC := Lib.hid hc
      have stop : isD c = false → d = k := fun h => by
        rw [← HD.out]
        exact dk_at (by omega) HI.out.2 (.inr (by rw [HC.out]; exact h))
      have hv := capV_snoc ((bs s).take k) c
      rw [← hc, ← take_snoc hlt', hc] at hv
      have STOP := Lib.hid stop; have HV := Lib.hid hv
      clear hc hlt' stop hv
      by_cases h1 : 48 ≤ c
      · by_cases h2 : c ≤ 57
        · have hdc := Lib.hid (show isD (c : Int) = true by simp [isD]; omega)
          obtain ⟨M, hM⟩ : ∃ M, min (N * 10 + ((c : Int) - 48)) 1099511627777 = M := ⟨_, rfl⟩
          have hM0 : 0 ≤ M := by omega
          have hM1 : M ≤ 1099511627777 := by omega
          have hMV : M = (capV ((bs s).take (k + 1)) : Nat) := by
            rw [HV.out]
            have := HI.out.1
            omega
          have HMV := Lib.hid hMV
          clear hMV
          go_wp2
          refine ⟨⟨k + 1, M, by omega, by go_num, ?_, hM0, hM1, HMV.out, fun j hj => ?_⟩, by simp [intOf]; omega⟩
          · first
            | (congr 1; done)
            | (congr 1; rw [← hM]; split <;> omega)
          · by_cases he : j = k
            · rw [he, HC.out]; exact hdc.out
            · exact HI.out.2 j (by omega)
        · have HE := Lib.hid (STOP.out (by simp [isD]; omega))
          go_wp2
          go_ret2
          exact ⟨ret_n2 (by rw [HE.out]; exact HI.out.1) (by rw [HE.out]), rfl⟩
      · have HE := Lib.hid (STOP.out (by simp [isD]; omega))
        go_wp2
        go_ret2
        exact ⟨ret_n2 (by rw [HE.out]; exact HI.out.1) (by rw [HE.out]), rfl⟩
    · obtain rfl : k = s.size := by omega
      have e : d = s.size := by
        rw [← HD.out]
        exact dk_at (by rw [bs_length]; omega) HI.out.2 (.inl (bs_length s).symm)
      have HE := Lib.hid e
      clear e
      go_wp2
      go_ret2
      exact ⟨ret_n2 (by rw [HE.out]; exact HI.out.1) (by rw [HE.out]), rfl⟩
end Go.Proofs.YtodlgbihdehmbaaGreatDoor.RR
/-
  Contracts of the document's own functions of layer 10 (isobarref10): units, spans, amounts.
-/
set_option linter.unusedSimpArgs false
set_option linter.unusedVariables false
namespace Go.Proofs.YtodlgbihdehmbaaGreatDoor.RR
open Go.RowKit
set_option maxRecDepth 100000 in
set_option maxHeartbeats 1000000 in
theorem unit_c (c : Nat) (hc : c ≤ 255) (w : World) : Calls Tryz.prog 116 #[.int .u8 (c : Int)] w fun e w' => e = .returned (.int .i64 (un c : Nat)) ∧ w = w' := by
  obtain ⟨u, hu⟩ : ∃ u, un c = u := ⟨_, rfl⟩
  rw [hu]
  unfold un at hu
  have HU := Lib.hid hu
  clear hu
  by_cases h1 : c = 115
  · have := HU.out; rw [if_pos h1] at this; subst this; subst h1
    go_enter Tryz.func116, Tryz.ntmps116
    go_wp2
    go_ret
    exact ⟨rfl, rfl⟩
  by_cases h2 : c = 109
  · have := HU.out; rw [if_neg h1, if_pos h2] at this; subst this; subst h2
    go_enter Tryz.func116, Tryz.ntmps116
    go_wp2
    go_ret
    exact ⟨rfl, rfl⟩
  by_cases h3 : c = 104
  · have := HU.out; rw [if_neg h1, if_neg h2, if_pos h3] at this; subst this; subst h3
    go_enter Tryz.func116, Tryz.ntmps116
    go_wp2
    go_ret
    exact ⟨rfl, rfl⟩
  by_cases h4 : c = 100
  · have := HU.out; rw [if_neg h1, if_neg h2, if_neg h3, if_pos h4] at this; subst this; subst h4
    go_enter Tryz.func116, Tryz.ntmps116
    go_wp2
    go_ret
    exact ⟨rfl, rfl⟩
  by_cases h5 : c = 119
  · have := HU.out; rw [if_neg h1, if_neg h2, if_neg h3, if_neg h4, if_pos h5] at this; subst this; subst h5
    go_enter Tryz.func116, Tryz.ntmps116
    go_wp2
    go_ret
    exact ⟨rfl, rfl⟩
  by_cases h6 : c = 121
  · have := HU.out; rw [if_neg h1, if_neg h2, if_neg h3, if_neg h4, if_neg h5, if_pos h6] at this; subst this; subst h6
    go_enter Tryz.func116, Tryz.ntmps116
    go_wp2
    go_ret
    exact ⟨rfl, rfl⟩
  have := HU.out
  rw [if_neg h1, if_neg h2, if_neg h3, if_neg h4, if_neg h5, if_neg h6] at this
  subst this
  have i1 : ¬ (c : Int) = 115 := by omega
  have i2 : ¬ (c : Int) = 109 := by omega
  have i3 : ¬ (c : Int) = 104 := by omega
  have i4 : ¬ (c : Int) = 100 := by omega
  have i5 : ¬ (c : Int) = 119 := by omega
  have i6 : ¬ (c : Int) = 121 := by omega
  clear h1 h2 h3 h4 h5 h6 HU
  go_enter Tryz.func116, Tryz.ntmps116
  go_wp2
  go_ret
  exact ⟨rfl, rfl⟩
theorem dk_take {l : List Nat} : allD (l.take (dk l)) = true := by
  have : l.take (dk l) = l.takeWhile dgt := by
    have h := List.takeWhile_append_dropWhile (p := dgt) (l := l)
    unfold dk
    conv => lhs; rw [← h]
    rw [List.take_left' (by rw [h])]
  rw [this]
  exact List.all_takeWhile (p := dgt)
theorem amt_span {l : List Nat} (h0 : dk l ≠ 0) (h1 : dk l + 1 = l.length) (h2 : un (byteAt l (dk l)) ≠ 0) : amt l = some (val (l.take (dk l)) * un (byteAt l (dk l)), true) := by
  have e : lastB l = byteAt l (dk l) := by unfold lastB; rw [show l.length - 1 = dk l from by omega]
  have ed : l.dropLast = l.take (dk l) := by rw [List.dropLast_eq_take, show l.length - 1 = dk l from by omega]
  unfold amt
  rw [e, if_pos h2, ed, if_pos ⟨dk_take, fun hn => h0 (by have := congrArg List.length hn; rw [List.length_take, List.length_nil] at this; omega)⟩]
theorem span_amt {l : List Nat} {n : Nat} (h : amt l = some (n, true)) : dk l ≠ 0 ∧ dk l + 1 = l.length ∧ un (byteAt l (dk l)) ≠ 0 := by
  unfold amt at h
  split at h
  · rename_i hu
    split at h
    · rename_i hd
      obtain ⟨hd, hne⟩ := hd
      have hl : l ≠ [] := fun e => hne (by rw [e]; rfl)
      have hp := List.length_pos_iff.2 hl
      have hk : dk l = l.length - 1 := by
        refine dk_at (by omega) (fun j hj => ?_) (.inr ?_)
        · have h3 := allD_at hd (k := j) (by simp; omega)
          unfold byteAt at h3 ⊢
          rw [List.getD_eq_getElem?_getD, List.getElem?_dropLast, if_pos hj] at h3
          rw [List.getD_eq_getElem?_getD]; exact h3
        · cases hx : isD (byteAt l (l.length - 1)) with
          | false => rfl
          | true => exact absurd (un_digit hx) hu
      have hp2 := List.length_pos_iff.2 hne
      rw [List.length_dropLast] at hp2
      refine ⟨by omega, by omega, by rw [hk]; exact hu⟩
    · cases h
  · split at h <;> simp at h
theorem span_no {l : List Nat} (h : dk l = 0 ∨ dk l + 1 ≠ l.length ∨ un (byteAt l (dk l)) = 0) : spanV l = (0, 2) := by
  unfold spanV
  split
  · rename_i n hn
    obtain ⟨h1, h2, h3⟩ := span_amt hn
    rcases h with h | h | h
    · exact absurd h h1
    · exact absurd h2 h
    · exact absurd h h3
  · rfl
theorem span_far {v u : Nat} (hu : 0 < u) (h : 1099511627776 / u < min v 1099511627777) : 1099511627776 < v * u := by
  have h1 : 1099511627776 / u < v := by omega
  exact (Nat.div_lt_iff_lt_mul hu).1 h1
theorem span_near {v u : Nat} (hu : 0 < u) (h : ¬ 1099511627776 / u < min v 1099511627777) : min v 1099511627777 = v ∧ v * u ≤ 1099511627776 := by
  have h0 : 1099511627776 / u ≤ 1099511627776 := Nat.div_le_self _ _
  have h1 : v ≤ 1099511627776 / u := by omega
  exact ⟨by omega, (Nat.le_div_iff_mul_le hu).1 h1⟩
theorem q40 (u : Nat) : (1099511627776 : Int) / (u : Int) = ((1099511627776 / u : Nat) : Int) := (Int.natCast_ediv 1099511627776 u).symm
set_option maxRecDepth 100000 in
set_option maxHeartbeats 1000000 in
theorem span_c (s : ByteArray) (hs : s.size ≤ 9223372036854775807) (w : World) :
    Calls Tryz.prog 84 #[.string s] w fun e w' => e = .returned (.tuple #[.int .i64 (spanV (bs s)).1, .int .i64 (spanV (bs s)).2]) ∧ w = w' := by
  have hn := number_c s hs w
  have hno := span_no (l := bs s)
  have hyes := amt_span (l := bs s)
  have hkl := dk_le (bs s)
  rw [bs_length] at hno hyes hkl
  have hby : ∀ h : dk (bs s) < s.size, (s[dk (bs s)]'h).toNat = byteAt (bs s) (dk (bs s)) := fun h => at_byte h
  obtain ⟨A, hA⟩ : ∃ A, (spanV (bs s)).1 = A := ⟨_, rfl⟩
  obtain ⟨E, hE⟩ : ∃ E, (spanV (bs s)).2 = E := ⟨_, rfl⟩
  rw [hA, hE]
  have hAE : spanV (bs s) = (A, E) := by rw [← hA, ← hE]
  clear hA hE
  have hV : spanV (bs s) = match amt (bs s) with
    | some (n, true) => if 1099511627776 < n then (0, 3) else ((n : Int), 0)
    | _ => (0, 2) := rfl
  rw [hAE] at hno hV
  obtain ⟨c, hc⟩ : ∃ c, byteAt (bs s) (dk (bs s)) = c := ⟨_, rfl⟩
  have hc1 : c ≤ 255 := by rw [← hc]; exact byte_le s _
  rw [hc] at hno hyes hby
  obtain ⟨v, hv⟩ : ∃ v, val ((bs s).take (dk (bs s))) = v := ⟨_, rfl⟩
  have hcv : capV ((bs s).take (dk (bs s))) = min v 1099511627777 := by unfold capV; rw [hv]
  rw [hcv] at hn
  rw [hv] at hyes
  clear hv hcv hc hAE
  generalize dk (bs s) = k at *
  generalize amt (bs s) = M at *
  have HN := Lib.hid hn; have HNO := Lib.hid hno; have HYES := Lib.hid hyes; have HV := Lib.hid hV
  clear hn hno hyes hV
  have pair : ∀ {x y : Int}, (A, E) = (x, y) → Hid (A = x ∧ E = y) := fun h => by injection h with h1 h2; exact Lib.hid ⟨h1, h2⟩
  obtain ⟨m, hm⟩ : ∃ m, min v 1099511627777 = m := ⟨_, rfl⟩
  rw [hm] at HN
  have hmle : m ≤ 1099511627777 := by omega
  have HM := Lib.hid hm
  clear hm
  have u1 := unit_c c hc1 w
  obtain ⟨u, hu⟩ : ∃ u, un c = u := ⟨_, rfl⟩
  have hule : u ≤ 31536000 := by rw [← hu]; exact un_le c
  rw [hu] at u1 HNO HYES
  have U1 := Lib.hid u1
  clear u1 hu
  by_cases h0 : k = 0
  · have P := pair (HNO.out (.inl h0))
    subst h0
    clear hby HNO HYES HV pair
    go_enter Tryz.func84, Tryz.ntmps84
    go_wp2_with fail
    refine HN.out.mono ?_; rintro e w1 ⟨rfl, rfl⟩
    go_wp2
    go_ret2
    exact ⟨ret_n2 P.out.1.symm P.out.2.symm, rfl⟩
  by_cases h1 : k + 1 = s.size
  · have hlt : k < s.size := by omega
    have hb := hby hlt
    have hk1 : ((k : Int) == 0) = false := by rw [beq_eq_false_iff_ne]; omega
    have hk2 : (s.size : Int) - 1 = (k : Int) := by omega
    by_cases hu0 : u = 0
    · have P := pair (HNO.out (.inr (.inr hu0)))
      subst hu0
      clear hby HNO HYES HV pair h0 h1
      go_enter Tryz.func84, Tryz.ntmps84
      go_wp2_with fail
      refine HN.out.mono ?_; rintro e w1 ⟨rfl, rfl⟩
      go_wp2_with ((with_reducible refine U1.out.mono ?_); rintro e w1 ⟨rfl, rfl⟩)
      go_ret2
      exact ⟨ret_n2 P.out.1.symm P.out.2.symm, rfl⟩
    · have hM := HYES.out h0 h1 hu0
      have hV := HV.out
      rw [hM] at hV
      have hup : 0 < u := Nat.pos_of_ne_zero hu0
      have hq := q40 u
      have far := span_far (v := v) hup
      have near := span_near (v := v) hup
      rw [HM.out] at far near
      generalize 1099511627776 / u = q at *
      have hui : ((u : Int) == 0) = false := by rw [beq_eq_false_iff_ne]; omega
      by_cases hf : q < m
      · have hV2 : (A, E) = (0, 3) := by rw [hV]; exact if_pos (far hf)
        have P := pair hV2
        clear hby HNO HYES HV pair h0 h1 hV hV2 hM far near
        go_enter Tryz.func84, Tryz.ntmps84
        go_wp2_with fail
        refine HN.out.mono ?_; rintro e w1 ⟨rfl, rfl⟩
        go_wp2_with ((with_reducible refine U1.out.mono ?_); rintro e w1 ⟨rfl, rfl⟩)
        go_ret2
        exact ⟨ret_n2 P.out.1.symm P.out.2.symm, rfl⟩
      · obtain ⟨e1, e2⟩ := near hf
        have hV2 : (A, E) = (((v * u : Nat) : Int), 0) := by rw [hV]; exact if_neg (by omega)
        have P := pair hV2
        have hmu : m * u ≤ 1099511627776 := by rw [e1]; exact e2
        have E1 := Lib.hid e1
        have hmi : (m : Int) * (u : Int) ≤ 1099511627776 := by rw [← Int.natCast_mul]; omega
        have hmi0 : (0 : Int) ≤ (m : Int) * (u : Int) := by rw [← Int.natCast_mul]; omega
        have PP : Hid ((m : Int) * (u : Int) = A) := Lib.hid (by rw [P.out.1, E1.out]; exact (Int.natCast_mul v u).symm)
        generalize hmul : (m : Int) * (u : Int) = MU at *
        clear hby HNO HYES HV pair h0 h1 hV hV2 hM far near e1 e2 hmu
        have HMUL := hmul
        go_enter Tryz.func84, Tryz.ntmps84
        go_wp2_with fail
        refine HN.out.mono ?_; rintro e w1 ⟨rfl, rfl⟩
        go_wp2_with ((with_reducible refine U1.out.mono ?_); rintro e w1 ⟨rfl, rfl⟩)
        go_ret2
        exact ⟨ret_n2 PP.out P.out.2.symm, rfl⟩
  · have P := pair (HNO.out (.inr (.inl h1)))
    have hk1 : ¬ (k : Int) = 0 := by omega
    have hk2 : ¬ (k : Int) = (s.size : Int) - 1 := by omega
    clear hby HNO HYES HV pair h0 h1
    go_enter Tryz.func84, Tryz.ntmps84
    go_wp2_with fail
    refine HN.out.mono ?_; rintro e w1 ⟨rfl, rfl⟩
    go_wp2
    go_ret2
    exact ⟨ret_n2 P.out.1.symm P.out.2.symm, rfl⟩
end Go.Proofs.YtodlgbihdehmbaaGreatDoor.RR
