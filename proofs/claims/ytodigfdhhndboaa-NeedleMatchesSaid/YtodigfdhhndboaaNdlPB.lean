/-
  Contracts of the program's own functions of layer 9: Fits, through.
-/
import Derived.Test.YtodigfdhhndboaaNdlPlc
import Derived.WalkKit
import Derived.WalkSmall
import Derived.Laws.BitsAllLaws
import Derived.Carry
set_option linter.unusedSimpArgs false
set_option linter.unusedVariables false
namespace Go.Proofs.Ytodigfdhhndboaa.NP
open Go.RowKit
set_option maxRecDepth 100000 in
set_option maxHeartbeats 1000000 in
theorem fits_c (i : NI) (hi : i.ok) (b : Nat) (hb : b < 256) (w : World) :
    Calls Try.prog 13 #[.agg #[.int .u64 (i.s0 : Nat), .int .u64 (i.s1 : Nat), .int .u64 (i.s2 : Nat), .int .u64 (i.s3 : Nat), .bool i.star], .int .u8 (b : Nat)] w fun e w' => e = .returned (.bool (ndFits i b)) ∧ Below w.heap.size w w' := by
  obtain ⟨d, hd⟩ : ∃ d, ndFits i b = d := ⟨_, rfl⟩
  rw [hd]
  obtain ⟨s0, s1, s2, s3, st⟩ := i
  have h6 : b / 64 = 0 ∨ b / 64 = 1 ∨ b / 64 = 2 ∨ b / 64 = 3 := by omega
  rcases h6 with h | h | h | h
  · have e : ndFits ⟨s0, s1, s2, s3, st⟩ b = s0.testBit (b % 64) := by unfold ndFits; rw [h]; rfl
    rw [e, ← fit_bit s0 (b % 64) hi.1] at hd
    have HD := Lib.hid hd
    clear hd e hi
    go_enter Try.func13, Try.ntmps13
    go_wp2
    go_ret
    exact ⟨by rw [HD.out]; rfl, (Below.refl _ _).alloc (Nat.le_refl _) _⟩
  · have e : ndFits ⟨s0, s1, s2, s3, st⟩ b = s1.testBit (b % 64) := by unfold ndFits; rw [h]; rfl
    rw [e, ← fit_bit s1 (b % 64) hi.2.1] at hd
    have HD := Lib.hid hd
    clear hd e hi
    go_enter Try.func13, Try.ntmps13
    go_wp2
    go_ret
    exact ⟨by rw [HD.out]; rfl, (Below.refl _ _).alloc (Nat.le_refl _) _⟩
  · have e : ndFits ⟨s0, s1, s2, s3, st⟩ b = s2.testBit (b % 64) := by unfold ndFits; rw [h]; rfl
    rw [e, ← fit_bit s2 (b % 64) hi.2.2.1] at hd
    have HD := Lib.hid hd
    clear hd e hi
    go_enter Try.func13, Try.ntmps13
    go_wp2
    go_ret
    exact ⟨by rw [HD.out]; rfl, (Below.refl _ _).alloc (Nat.le_refl _) _⟩
  · have e : ndFits ⟨s0, s1, s2, s3, st⟩ b = s3.testBit (b % 64) := by unfold ndFits; rw [h]; rfl
    rw [e, ← fit_bit s3 (b % 64) hi.2.2.2] at hd
    have HD := Lib.hid hd
    clear hd e hi
    go_enter Try.func13, Try.ntmps13
    go_wp2
    go_ret
    exact ⟨by rw [HD.out]; rfl, (Below.refl _ _).alloc (Nat.le_refl _) _⟩
set_option maxRecDepth 100000 in
set_option maxHeartbeats 1000000 in
theorem through_c (B : Nat) (v u : Value) (row : List Nat) (is : List NI) (hr : row.length ≤ 2001) (hi : is.length ≤ 1000) (w : World) (hv : PlNew B w v row) (hu : ItLow B w u is) :
    Calls Try.prog 27 #[v, u] w fun e w' => e = .returned (.bool (ndThrough is row)) ∧ w' = w := by
  have HV := Lib.hid hv
  obtain ⟨AV, cv, hve, hcv, hgv⟩ := hv.form
  obtain ⟨AU, cu, hue, hcu, hgu⟩ := hu
  subst hve hue
  obtain ⟨d, hd⟩ : ∃ d, ndThrough is row = d := ⟨_, rfl⟩
  rw [hd]
  obtain ⟨n, hn⟩ : ∃ n, row.length = n := ⟨_, rfl⟩
  obtain ⟨m, hm⟩ : ∃ m, is.length = m := ⟨_, rfl⟩
  rw [hn] at HV hr hcv ⊢
  rw [hm] at hi hcu ⊢
  by_cases h0 : 0 < n
  · have hne : row ≠ [] := by intro e; rw [e] at hn; simp at hn; omega
    obtain ⟨g, rfl⟩ := hgv hne
    have hcl := (HV.out).cellAt (k := n - 1) (by omega)
    obtain ⟨x, hx⟩ : ∃ x, row.getD (n - 1) 0 = x := ⟨_, rfl⟩
    rw [hx] at hcl
    have hw1 : IntKind.i64.wrap ((n : Int) - 1) = ((n - 1 : Nat) : Int) := by
      rw [IntKind.wrap_i64]; omega
    have he : d = decide ((x : Int) = (m : Int)) := by
      rw [← hd]
      unfold ndThrough
      rw [decide_eq_true hne, Bool.true_and, hn, hx, hm, decide_eq_decide]
      omega
    have HE := Lib.hid he
    clear hd he hn hm hx hgv hgu hne hv
    go_enter Try.func27, Try.ntmps27
    by_cases hxm : (x : Int) = (m : Int)
    · go_wp2
      go_ret
      exact ⟨by rw [HE.out, decide_eq_true hxm]; rfl, rfl⟩
    · go_wp2
      go_ret
      exact ⟨by rw [HE.out, decide_eq_false hxm]; exact congrArg (fun z => Ending.returned (.bool z)) (beq_false_of_ne hxm), rfl⟩
  · obtain rfl : n = 0 := by omega
    have he : d = false := by
      rw [← hd]
      unfold ndThrough
      rw [List.eq_nil_of_length_eq_zero hn]
      rfl
    subst he
    clear hd hn hm hgv hgu hv
    go_enter Try.func27, Try.ntmps27
    go_wp2
    go_ret
    exact ⟨rfl, rfl⟩
end Go.Proofs.Ytodigfdhhndboaa.NP
