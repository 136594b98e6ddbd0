/-
  Contracts of the document's own functions of layer 9 (isobarref09): Fits.
-/
import Derived.Test.YtodigfdhhndboaaNdlRow
import Derived.WalkKit
import Derived.WalkSmall
import Derived.Laws.BitsAllLaws
import Derived.Carry
set_option linter.unusedSimpArgs false
set_option linter.unusedVariables false
namespace Go.Proofs.Ytodigfdhhndboaa.NR
open Go.RowKit
set_option maxRecDepth 100000 in
set_option maxHeartbeats 1000000 in
theorem fits_c (i : NI) (hi : i.ok) (b : Nat) (hb : b < 256) (w : World) :
    Calls Try.prog 14 #[.agg #[.int .u64 (i.s0 : Nat), .int .u64 (i.s1 : Nat), .int .u64 (i.s2 : Nat), .int .u64 (i.s3 : Nat), .bool i.star], .int .u8 (b : Nat)] w fun e w' => e = .returned (.bool (ndFits i b)) ∧ Below w.heap.size w w' := by
  obtain ⟨d, hd⟩ : ∃ d, ndFits i b = d := ⟨_, rfl⟩
  rw [hd]
  obtain ⟨s0, s1, s2, s3, st⟩ := i
  have h6 : b / 64 = 0 ∨ b / 64 = 1 ∨ b / 64 = 2 ∨ b / 64 = 3 := by omega
  rcases h6 with h | h | h | h
  · have e : ndFits ⟨s0, s1, s2, s3, st⟩ b = s0.testBit (b % 64) := by unfold ndFits; rw [h]; rfl
    rw [e, ← fit_bit s0 (b % 64) hi.1] at hd
    have HD := Lib.hid hd
    clear hd e hi
    go_enter Try.func14, Try.ntmps14
    go_wp2
    go_ret
    exact ⟨by rw [HD.out]; rfl, (Below.refl _ _).alloc (Nat.le_refl _) _⟩
  · have e : ndFits ⟨s0, s1, s2, s3, st⟩ b = s1.testBit (b % 64) := by unfold ndFits; rw [h]; rfl
    rw [e, ← fit_bit s1 (b % 64) hi.2.1] at hd
    have HD := Lib.hid hd
    clear hd e hi
    go_enter Try.func14, Try.ntmps14
    go_wp2
    go_ret
    exact ⟨by rw [HD.out]; rfl, (Below.refl _ _).alloc (Nat.le_refl _) _⟩
  · have e : ndFits ⟨s0, s1, s2, s3, st⟩ b = s2.testBit (b % 64) := by unfold ndFits; rw [h]; rfl
    rw [e, ← fit_bit s2 (b % 64) hi.2.2.1] at hd
    have HD := Lib.hid hd
    clear hd e hi
    go_enter Try.func14, Try.ntmps14
    go_wp2
    go_ret
    exact ⟨by rw [HD.out]; rfl, (Below.refl _ _).alloc (Nat.le_refl _) _⟩
  · have e : ndFits ⟨s0, s1, s2, s3, st⟩ b = s3.testBit (b % 64) := by unfold ndFits; rw [h]; rfl
    rw [e, ← fit_bit s3 (b % 64) hi.2.2.2] at hd
    have HD := Lib.hid hd
    clear hd e hi
    go_enter Try.func14, Try.ntmps14
    go_wp2
    go_ret
    exact ⟨by rw [HD.out]; rfl, (Below.refl _ _).alloc (Nat.le_refl _) _⟩
end Go.Proofs.Ytodigfdhhndboaa.NR
