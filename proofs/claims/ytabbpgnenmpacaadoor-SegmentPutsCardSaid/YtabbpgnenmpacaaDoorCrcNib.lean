/-
  Plain facts on the table of layer 5: what four bits put on the rest, and a byte gone through in two halves.
-/
import Derived.Test.YtabbpgnenmpacaaDoorCrcMath
set_option linter.unusedSimpArgs false
set_option linter.unusedVariables false
namespace Go.Proofs.YtabbpgnenmpacaaDoor
/-- What four bits put on the rest. -/
def nibTab : List Int := [0, 274646895, 549293790, 820201905, 1098587580, 1361435347, 1640403810, 1905808397, 2197175160, 2460548119, 2722870694, 2987750089, 3280807620, 3553878443, 3811616794, 4084100981]
theorem nib_at : ∀ k, k < 16 → nibTab.getD k 0 = ((cBits 4 k : Nat) : Int) := by decide +kernel
theorem xor_nib (s : Nat) : s = (s % 16) ^^^ (16 * (s / 16)) := by
  have h : s % 16 + 16 * (s / 16) = (s % 16) ^^^ (16 * (s / 16)) := by
    have e := Nat.two_pow_add_eq_or_of_lt (i := 4) (b := s % 16) (by omega) (s / 16)
    have e2 : 2 ^ 4 * (s / 16) ||| s % 16 = s % 16 ^^^ 2 ^ 4 * (s / 16) := by
      apply Nat.eq_of_testBit_eq
      intro j
      rw [Nat.testBit_or, Nat.testBit_xor, Nat.testBit_two_pow_mul]
      by_cases hj : j < 4
      · have : ¬ (4 ≤ j) := by omega
        simp [this]
      · have hz : (s % 16).testBit j = false := Nat.testBit_lt_two_pow (Nat.lt_of_lt_of_le (show s % 16 < 2 ^ 4 by omega) (Nat.pow_le_pow_right (by decide) (by omega)))
        simp [hz]
    have e3 := e.trans e2
    simp only [show (2 : Nat) ^ 4 = 16 from rfl] at e3
    omega
  omega
theorem cBits_four (s : Nat) : cBits 4 s = (s / 16) ^^^ cBits 4 (s % 16) := by
  have e : cBits 4 s = cBits 4 ((s % 16) ^^^ (16 * (s / 16))) := by rw [← xor_nib s]
  rw [e, cBits_xor, show 16 * (s / 16) = 2 ^ 4 * (s / 16) from rfl, cBits_up 4, Nat.xor_comm]
theorem cBits_eight (t : Nat) : cBits 8 t = cBits 4 (cBits 4 t) := cBits_add 4 4 t
/-- A byte put on in two halves is as if it were put on at once. -/
theorem cByte_halves (s x : Nat) (hx : x < 256) : cByte s x = cBits 4 (cBits 4 (s ^^^ x % 16) ^^^ x / 16) := by
  unfold cByte
  rw [cBits_eight]
  have e : s ^^^ x = (s ^^^ x % 16) ^^^ (2 ^ 4 * (x / 16)) := by
    rw [Nat.xor_assoc]
    exact congrArg (s ^^^ ·) (xor_nib x)
  rw [e, cBits_xor 4, cBits_up 4]
/-- So with the bits of the byte taken at the table's place. -/
theorem cBits_four_at (s x : Nat) (hx : x < 16) : cBits 4 (s ^^^ x) = (s / 16) ^^^ cBits 4 (s % 16 ^^^ x) := by
  rw [cBits_xor, cBits_four s, Nat.xor_assoc, ← cBits_xor]
/-- Four bytes as a number, and as its bytes again. -/
theorem le4_leB {y0 y1 y2 y3 : Nat} (h0 : y0 < 256) (h1 : y1 < 256) (h2 : y2 < 256) (h3 : y3 < 256) : le4 (leB [y0, y1, y2, y3]) = [y0, y1, y2, y3] := by
  unfold le4 leB leB leB leB leB
  congr 1
  · omega
  congr 1
  · omega
  congr 1
  · omega
  congr 1
  omega
/-- What is checked, by the number that the last four bytes are. -/
theorem cChk_by {l : List Nat} (hb : Bytes l) {m : Nat} (hm : l.length = m + 4) : cChk l = if leB (l.drop m) = cSum (l.take m) then (l.take m, 0) else ([], 8) := by
  have hd : (l.drop m).length = 4 := by rw [List.length_drop]; omega
  have hs := cSum_lt (l := l.take m) (fun b h => hb b (List.mem_of_mem_take h))
  have hbd : Bytes (l.drop m) := fun b h => hb b (List.mem_of_mem_drop h)
  have e : cPut (l.take m) = l ↔ leB (l.drop m) = cSum (l.take m) := by
    constructor
    · intro h
      have h2 : le4 (cSum (l.take m)) = l.drop m := by
        have h3 : l.take m ++ le4 (cSum (l.take m)) = l.take m ++ l.drop m := by rw [List.take_append_drop]; exact h
        exact List.append_cancel_left h3
      rw [← h2]
      exact leB_le4 hs
    · intro h
      unfold cPut
      rw [← h]
      have h4 : le4 (leB (l.drop m)) = l.drop m := by
        generalize l.drop m = q at hd hbd
        match q, hd with
        | [y0, y1, y2, y3], _ => exact le4_leB (hbd y0 (by simp)) (hbd y1 (by simp)) (hbd y2 (by simp)) (hbd y3 (by simp))
      rw [h4, List.take_append_drop]
  unfold cChk
  rw [if_neg (by omega), hm, Nat.add_sub_cancel]
  by_cases h : leB (l.drop m) = cSum (l.take m)
  · rw [if_pos h, if_pos (e.2 h)]
  · rw [if_neg h, if_neg (fun h2 => h (e.1 h2))]
end Go.Proofs.YtabbpgnenmpacaaDoor
