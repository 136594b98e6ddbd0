/-
  Contracts of the document's own functions of layer 10 (isobarref10): amounts; a text's parts; a text without blanks around it.
-/
import Derived.Test.YtodlgbihdehmbaaGreatDoorRetRBP
import Derived.Test.YtodlgbihdehmbaaGreatDoorRetTxP
set_option linter.unusedSimpArgs false
set_option linter.unusedVariables false
namespace Go.Proofs.YtodlgbihdehmbaaGreatDoor.RR
open Go.RowKit
/-- A span's text, or digits alone, as the document's own function answers it. -/
def eitV (l : List Nat) : Int × Bool × Int := match amt l with
  | none => (0, false, 2)
  | some (n, s) => if 1099511627776 < n then (0, !s, 3) else ((n : Int), !s, 0)
theorem amt_alone {l : List Nat} (h0 : dk l ≠ 0) (h1 : dk l = l.length) : amt l = some (val l, false) := by
  have hd := dk_all h1
  have hne : l ≠ [] := fun e => h0 (by rw [h1, e]; rfl)
  have hp := List.length_pos_iff.2 hne
  have hu : un (lastB l) = 0 := un_digit (allD_at hd (by omega))
  unfold amt
  rw [if_neg (by rw [hu]; simp), if_pos ⟨hd, hne⟩]
theorem amt_other {l : List Nat} (h : dk l = 0 ∨ dk l ≠ l.length) : eitV l = ((spanV l).1, false, (spanV l).2) := by
  unfold eitV spanV
  cases hm : amt l with
  | none => rfl
  | some x =>
    obtain ⟨n, s⟩ := x
    cases s with
    | true => simp only; split <;> rfl
    | false =>
      exfalso
      unfold amt at hm
      split at hm
      · split at hm <;> simp at hm
      · split at hm
        · rename_i hd
          have e : dk l = l.length := by
            refine dk_at (Nat.le_refl _) (fun j hj => allD_at hd.1 hj) (.inl rfl)
          have := List.length_pos_iff.2 hd.2
          rcases h with h | h
          · omega
          · exact h e
        · cases hm
theorem ret_eit {a b c d : Int} {p q : Bool} (h : a = c) (k : p = q) (j : b = d) : Ending.returned (.tuple #[.int .i64 a, .bool p, .int .i64 b]) = .returned (.tuple #[.int .i64 c, .bool q, .int .i64 d]) := by rw [h, k, j]
set_option maxRecDepth 100000 in
set_option maxHeartbeats 1000000 in
theorem either_c (s : ByteArray) (hs : s.size ≤ 9223372036854775807) (w : World) :
    Calls Tryz.prog 62 #[.string s] w fun e w' => e = .returned (.tuple #[.int .i64 (eitV (bs s)).1, .bool (eitV (bs s)).2.1, .int .i64 (eitV (bs s)).2.2]) ∧ w = w' := by
  have hn := number_c s hs w
  have hsp := span_c s hs w
  have ha := amt_alone (l := bs s)
  have ho := amt_other (l := bs s)
  have hT : dk (bs s) = (bs s).length → (bs s).take (dk (bs s)) = bs s := fun e => by rw [e, List.take_length]
  rw [bs_length] at ha ho hT
  obtain ⟨X, hX⟩ : ∃ X, eitV (bs s) = X := ⟨_, rfl⟩
  have hV : eitV (bs s) = match amt (bs s) with
    | none => (0, false, 2)
    | some (n, s) => if 1099511627776 < n then (0, !s, 3) else ((n : Int), !s, 0) := rfl
  rw [hX] at hV ho ⊢
  obtain ⟨x1, x2, x3⟩ := X
  obtain ⟨y1, hy1⟩ : ∃ y, (spanV (bs s)).1 = y := ⟨_, rfl⟩
  obtain ⟨y2, hy2⟩ : ∃ y, (spanV (bs s)).2 = y := ⟨_, rfl⟩
  rw [hy1, hy2] at hsp ho
  obtain ⟨v, hv⟩ : ∃ v, val (bs s) = v := ⟨_, rfl⟩
  have hcv : dk (bs s) = s.size → capV ((bs s).take (dk (bs s))) = min v 1099511627777 := fun e => by rw [hT e]; unfold capV; rw [hv]
  have hc7 := capV_le ((bs s).take (dk (bs s)))
  rw [hv] at ha
  generalize capV ((bs s).take (dk (bs s))) = m at *
  clear hT hX hy1 hy2 hv
  generalize dk (bs s) = k at *
  generalize amt (bs s) = M at *
  have HN := Lib.hid hn; have HS := Lib.hid hsp
  clear hn hsp
  have HV := Lib.hid hV
  clear hV
  by_cases h0 : k = 0
  · have P := Lib.hid (ho (.inl h0))
    subst h0
    clear ha ho hcv HV
    go_enter Tryz.func62, Tryz.ntmps62
    go_wp2_with fail
    refine HN.out.mono ?_; rintro e w1 ⟨rfl, rfl⟩
    go_wp2_with fail
    refine HS.out.mono ?_; rintro e w1 ⟨rfl, rfl⟩
    go_wp2
    refine bodyPost_ret (results_tmp3 rfl _ _ _) rfl ?_
    refine ⟨?_, rfl⟩
    have h := P.out
    injection h with h1 h2
    injection h2 with h2 h3
    exact ret_eit h1.symm h2.symm h3.symm
  by_cases h1 : k = s.size
  · have hA := ha h0 h1
    have hm := hcv h1
    have hV := HV.out
    rw [hA] at hV
    have hkp : (0 : Int) < (k : Int) := by omega
    have hki : (s.size : Int) = (k : Int) := by omega
    by_cases hf : 1099511627776 < v
    · have P := Lib.hid (show (x1, x2, x3) = ((0 : Int), true, (3 : Int)) by rw [hV]; exact if_pos hf)
      have hmf : (1099511627776 : Int) < (m : Int) := by omega
      clear ha ho hcv HV hA hV hm h1 hf
      go_enter Tryz.func62, Tryz.ntmps62
      go_wp2_with fail
      refine HN.out.mono ?_; rintro e w1 ⟨rfl, rfl⟩
      go_wp2
      refine bodyPost_ret (results_tmp3 rfl _ _ _) rfl ?_
      refine ⟨?_, rfl⟩
      have h := P.out
      injection h with h1 h2
      injection h2 with h2 h3
      exact ret_eit h1.symm h2.symm h3.symm
    · have P := Lib.hid (show (x1, x2, x3) = ((m : Int), true, (0 : Int)) by rw [hV]; refine (if_neg hf).trans ?_; rw [show v = m from by omega]; rfl)
      have hmf : (m : Int) ≤ 1099511627776 := by omega
      clear ha ho hcv HV hA hV hm h1 hf
      go_enter Tryz.func62, Tryz.ntmps62
      go_wp2_with fail
      refine HN.out.mono ?_; rintro e w1 ⟨rfl, rfl⟩
      go_wp2
      refine bodyPost_ret (results_tmp3 rfl _ _ _) rfl ?_
      refine ⟨?_, rfl⟩
      have h := P.out
      injection h with h1 h2
      injection h2 with h2 h3
      exact ret_eit h1.symm h2.symm h3.symm
  · have P := Lib.hid (ho (.inr h1))
    have hkp : (0 : Int) < (k : Int) := by omega
    have hki : ((k : Int) == (s.size : Int)) = false := by rw [beq_eq_false_iff_ne]; omega
    clear ha ho hcv HV
    go_enter Tryz.func62, Tryz.ntmps62
    go_wp2_with fail
    refine HN.out.mono ?_; rintro e w1 ⟨rfl, rfl⟩
    go_wp2_with fail
    refine HS.out.mono ?_; rintro e w1 ⟨rfl, rfl⟩
    go_wp2
    refine bodyPost_ret (results_tmp3 rfl _ _ _) rfl ?_
    refine ⟨?_, rfl⟩
    have h := P.out
    injection h with h1 h2
    injection h2 with h2 h3
    exact ret_eit h1.symm h2.symm h3.symm
end Go.Proofs.YtodlgbihdehmbaaGreatDoor.RR
