/-
  Contracts of the document's own functions of layer 4 (isobarref04), the second part: a difference of two wide numbers, and one doubled.
-/
import Derived.Test.YtcppcfjejalggaaFloRef
import Derived.Test.YtcppcfjejalggaaWideRDbl
set_option linter.unusedSimpArgs false
set_option linter.unusedVariables false
namespace Go.Proofs.Ytcppcfjejalggaa.LR
open Go.RowKit
set_option maxRecDepth 100000 in
set_option maxHeartbeats 1000000 in
theorem less_c (u v : Nat) (hu : u < M) (hvu : v ≤ u) (w : World) :
    Calls Try.prog 40 #[.agg #[.int .u64 (hiOf u : Nat), .int .u64 (loOf u : Nat)], .agg #[.int .u64 (hiOf v : Nat), .int .u64 (loOf v : Nat)]] w fun e w' => e = .returned (.agg #[.int .u64 (hiOf (u - v) : Nat), .int .u64 (loOf (u - v) : Nat)]) ∧ Below w.heap.size w w' := by
  obtain ⟨a, ha⟩ : ∃ a : Int, a = (hiOf u : Nat) := ⟨_, rfl⟩
  obtain ⟨b, hb⟩ : ∃ b : Int, b = (loOf u : Nat) := ⟨_, rfl⟩
  obtain ⟨c, hc⟩ : ∃ c : Int, c = (hiOf v : Nat) := ⟨_, rfl⟩
  obtain ⟨d, hd⟩ : ∃ d : Int, d = (loOf v : Nat) := ⟨_, rfl⟩
  rw [← ha, ← hb, ← hc, ← hd]
  have hM : M = 340282366920938463463374607431768211456 := rfl
  have H := Lib.hid (show (if b < d then (a - c - 1 = (hiOf (u - v) : Nat) ∧ b - d + 18446744073709551616 = (loOf (u - v) : Nat)) else (a - c = (hiOf (u - v) : Nat) ∧ b - d = (loOf (u - v) : Nat))) from by
    unfold hiOf loOf at *
    split <;> omega)
  have hb0 : 0 ≤ b ∧ b < 18446744073709551616 := by have := loOf_lt u; omega
  have hd0 : 0 ≤ d ∧ d < 18446744073709551616 := by have := loOf_lt v; omega
  by_cases hlt : b < d
  · have h := H.out
    rw [if_pos hlt] at h
    obtain ⟨P, hP⟩ : ∃ P : Int, P = (hiOf (u - v) : Nat) := ⟨_, rfl⟩
    obtain ⟨Q, hQ⟩ : ∃ Q : Int, Q = (loOf (u - v) : Nat) := ⟨_, rfl⟩
    rw [← hP, ← hQ] at h ⊢
    have hP0 : 0 ≤ P ∧ P < 18446744073709551616 := by have := hiOf_lt (u - v); omega
    obtain ⟨X, hX⟩ : ∃ X : Int, IntKind.u64.wrap (a - c) = X := ⟨_, rfl⟩
    have W2 : IntKind.u64.wrap (X - 1) = P := by rw [← hX, IntKind.wrap_u64, IntKind.wrap_u64]; omega
    have W3 : IntKind.u64.wrap (b - d) = Q := by rw [IntKind.wrap_u64]; omega
    clear h H hP hQ ha hb hc hd hM hu hvu hb0 hd0 hP0
    go_enter Try.func40, Try.ntmps40
    go_wp2
    exact bodyPost_ret (v := .agg #[.int .u64 P, .int .u64 Q]) (by simp [results, Try.results40, go_sem]) rfl ⟨rfl, (((Below.refl _ _).alloc (Nat.le_refl _) _).alloc (by simp) _).alloc (by simp; omega) _⟩
  · have h := H.out
    rw [if_neg hlt] at h
    obtain ⟨P, hP⟩ : ∃ P : Int, P = (hiOf (u - v) : Nat) := ⟨_, rfl⟩
    obtain ⟨Q, hQ⟩ : ∃ Q : Int, Q = (loOf (u - v) : Nat) := ⟨_, rfl⟩
    rw [← hP, ← hQ] at h ⊢
    have hP0 : 0 ≤ P ∧ P < 18446744073709551616 := by have := hiOf_lt (u - v); omega
    obtain ⟨X, hX⟩ : ∃ X : Int, IntKind.u64.wrap (a - c) = X := ⟨_, rfl⟩
    have W2 : IntKind.u64.wrap (X - 0) = P := by rw [← hX, IntKind.wrap_u64, IntKind.wrap_u64]; omega
    have W2' : IntKind.u64.wrap X = P := by rw [← hX, IntKind.wrap_u64, IntKind.wrap_u64]; omega
    have W4 : X = P := by rw [← hX, IntKind.wrap_u64]; omega
    have W3 : IntKind.u64.wrap (b - d) = Q := by rw [IntKind.wrap_u64]; omega
    clear h H hP hQ ha hb hc hd hM hu hvu hb0 hd0 hP0
    subst W4
    go_enter Try.func40, Try.ntmps40
    go_wp2
    exact bodyPost_ret (v := .agg #[.int .u64 X, .int .u64 Q]) (by simp [results, Try.results40, go_sem]) rfl ⟨rfl, (((Below.refl _ _).alloc (Nat.le_refl _) _).alloc (by simp) _).alloc (by simp; omega) _⟩
theorem twice_c (v : Nat) (hv : v < M) (w : World) :
    Calls Try.prog 39 #[.agg #[.int .u64 (hiOf v : Nat), .int .u64 (loOf v : Nat)]] w fun e w' => e = .returned (.agg #[.int .u64 (hiOf (2 * v) : Nat), .int .u64 (loOf (2 * v) : Nat)]) ∧ Below w.heap.size w w' := by
  have h := dbl_c v hv
  generalize (hiOf v : Int) = a at *
  generalize (loOf v : Int) = b at *
  generalize (hiOf (2 * v) : Int) = p at *
  generalize (loOf (2 * v) : Int) = q at *
  have H := Lib.hid h
  clear h
  go_enter Try.func39, Try.ntmps39
  go_wp2_with fail
  refine (H.out _).mono ?_; rintro e w1 ⟨rfl, hb1⟩; obtain ⟨hc1, hf1⟩ := bcell hb1
  have z1 : w.heap.size + 1 < w1.heap.size := (by have := hb1.size; simp at this; omega)
  have HX : Below w.heap.size w w1 := (((Below.refl _ _).alloc (Nat.le_refl _) _).alloc (by simp) _).trans (hb1.mono (by simp; omega))
  go_wp2
  exact bodyPost_ret (v := .agg #[.int .u64 p, .int .u64 q]) (by simp [results, Try.results39, go_sem, hc1, hf1, z1]) rfl ⟨rfl, (below_put (b := w.heap.size + 1) HX (by omega) _ _).alloc (by simp; omega) _⟩
end Go.Proofs.Ytcppcfjejalggaa.LR
