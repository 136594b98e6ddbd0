/-
  Contracts of the program's functions of layer 10: units.
-/
import Derived.Test.YtjbacbbbhedmlaaDoorRetG
set_option linter.unusedSimpArgs false
set_option linter.unusedVariables false
namespace Go.Proofs.YtjbacbbbhedmlaaDoor.RP
open Go.RowKit
def utab : List Nat := [115, 109, 104, 100, 119, 121]
theorem ret_ib {a b : Int} {x y : Bool} (h : a = b) (k : x = y) : Ending.returned (.tuple #[.int .i64 a, .bool x]) = .returned (.tuple #[.int .i64 b, .bool y]) := by rw [h, k]
theorem ix0 (w : World) : (Instr.index 89 (.agg #[.int .u8 115, .int .i64 1, .int .u8 109, .int .i64 60, .int .u8 104, .int .i64 3600, .int .u8 100, .int .i64 86400, .int .u8 119, .int .i64 604800, .int .u8 121, .int .i64 31536000]) (.int .i64 0)).run Tryd.prog w = .ok (.agg #[.int .u8 115, .int .i64 1]) w := by kernel_rfl
theorem ix1 (w : World) : (Instr.index 89 (.agg #[.int .u8 115, .int .i64 1, .int .u8 109, .int .i64 60, .int .u8 104, .int .i64 3600, .int .u8 100, .int .i64 86400, .int .u8 119, .int .i64 604800, .int .u8 121, .int .i64 31536000]) (.int .i64 1)).run Tryd.prog w = .ok (.agg #[.int .u8 109, .int .i64 60]) w := by kernel_rfl
theorem ix2 (w : World) : (Instr.index 89 (.agg #[.int .u8 115, .int .i64 1, .int .u8 109, .int .i64 60, .int .u8 104, .int .i64 3600, .int .u8 100, .int .i64 86400, .int .u8 119, .int .i64 604800, .int .u8 121, .int .i64 31536000]) (.int .i64 2)).run Tryd.prog w = .ok (.agg #[.int .u8 104, .int .i64 3600]) w := by kernel_rfl
theorem ix3 (w : World) : (Instr.index 89 (.agg #[.int .u8 115, .int .i64 1, .int .u8 109, .int .i64 60, .int .u8 104, .int .i64 3600, .int .u8 100, .int .i64 86400, .int .u8 119, .int .i64 604800, .int .u8 121, .int .i64 31536000]) (.int .i64 3)).run Tryd.prog w = .ok (.agg #[.int .u8 100, .int .i64 86400]) w := by kernel_rfl
theorem ix4 (w : World) : (Instr.index 89 (.agg #[.int .u8 115, .int .i64 1, .int .u8 109, .int .i64 60, .int .u8 104, .int .i64 3600, .int .u8 100, .int .i64 86400, .int .u8 119, .int .i64 604800, .int .u8 121, .int .i64 31536000]) (.int .i64 4)).run Tryd.prog w = .ok (.agg #[.int .u8 119, .int .i64 604800]) w := by kernel_rfl
theorem ix5 (w : World) : (Instr.index 89 (.agg #[.int .u8 115, .int .i64 1, .int .u8 109, .int .i64 60, .int .u8 104, .int .i64 3600, .int .u8 100, .int .i64 86400, .int .u8 119, .int .i64 604800, .int .u8 121, .int .i64 31536000]) (.int .i64 5)).run Tryd.prog w = .ok (.agg #[.int .u8 121, .int .i64 31536000]) w := by kernel_rfl
theorem un_zero {c : Nat} (h : ∀ j x, j < 6 → utab[j]? = some x → c ≠ x) : un c = 0 := by
  have h0 := h 0 115 (by decide) rfl
  have h1 := h 1 109 (by decide) rfl
  have h2 := h 2 104 (by decide) rfl
  have h3 := h 3 100 (by decide) rfl
  have h4 := h 4 119 (by decide) rfl
  have h5 := h 5 121 (by decide) rfl
  unfold un
  rw [if_neg h0, if_neg h1, if_neg h2, if_neg h3, if_neg h4, if_neg h5]
set_option maxRecDepth 100000 in
set_option maxHeartbeats 2000000 in
theorem unitOf_c (c : Nat) (hc : c ≤ 255) (w : World) (g : G w) :
    Calls Tryd.prog 42 #[.int .u8 (c : Int)] w fun e w' => e = .returned (.tuple #[.int .i64 (if un c = 0 then 1 else un c : Nat), .bool (decide (un c ≠ 0))]) ∧ Below w.heap.size w w' := by
  obtain ⟨U, hU⟩ : ∃ U, (if un c = 0 then 1 else un c : Nat) = U := ⟨_, rfl⟩
  obtain ⟨d, hd⟩ : ∃ d, decide (un c ≠ 0) = d := ⟨_, rfl⟩
  rw [hU, hd]
  have HU := Lib.hid hU; have HD := Lib.hid hd
  obtain ⟨a0, b0⟩ := g.un0
  obtain ⟨a1, b1⟩ := g.un1
  obtain ⟨a2, b2⟩ := g.un2
  obtain ⟨a3, b3⟩ := g.un3
  obtain ⟨a4, b4⟩ := g.un4
  obtain ⟨a5, b5⟩ := g.un5
  have x0 := ix0; have x1 := ix1; have x2 := ix2; have x3 := ix3; have x4 := ix4; have x5 := ix5
  clear hU hd g
  go_enter Tryd.func42, Tryd.ntmps42
  go_wp2
  go_loopw [7] (fun i wr => ∃ k : Nat, k ≤ 6 ∧ i = .int .i64 (([0, 1, 2, 3, 4, 5, 6] : List Int).getD k 0) ∧ Hid ((∀ j x, j < k → utab[j]? = some x → c ≠ x) ∧ Below w.heap.size w wr)) (fun i _ => 6 - (intOf i).toNat)
  case atStart => exact ⟨0, Nat.zero_le _, rfl, fun j x h => absurd h (Nat.not_lt_zero j), Below.refl _ _⟩
  case round =>
    clear a0 b0 a1 b1 a2 b2 a3 b3 a4 b4 a5 b5
    obtain ⟨k, hk, rfl, HI⟩ := hrel
    have NEXT := Lib.hid (show ∀ x, utab[k]? = some x → c ≠ x → ∀ j y, j < k + 1 → utab[j]? = some y → c ≠ y from fun x hx hcx j y hj hy => by
      rcases Nat.lt_or_ge j k with h | h
      · exact HI.out.1 j y h hy
      · obtain rfl : j = k := by omega
        rw [hx] at hy
        obtain rfl := Option.some.inj hy
        exact hcx)
    have BEL := Lib.hid HI.out.2
    have ZERO := Lib.hid (fun (h : k = 6) => un_zero (c := c) (by subst h; exact HI.out.1))
    clear HI
    rcases (show k = 0 ∨ k = 1 ∨ k = 2 ∨ k = 3 ∨ k = 4 ∨ k = 5 ∨ k = 6 by omega) with rfl | rfl | rfl | rfl | rfl | rfl | rfl
    · simp only [List.getD_cons_zero, List.getD_cons_succ]
      by_cases hcx : c = 115
      · obtain rfl : U = 1 := by rw [← HU.out, hcx]; rfl
        obtain rfl : d = true := by rw [← HD.out, hcx]; rfl
        subst hcx
        clear NEXT ZERO
        go_wp2
        go_ret2
        exact ⟨rfl, bnext BEL.out (alloc_below _ _)⟩
      · have NX := Lib.hid (NEXT.out 115 rfl hcx)
        have hci : ((c : Int) == 115) = false := by rw [beq_eq_false_iff_ne]; omega
        have hci2 : ((115 : Int) == (c : Int)) = false := by rw [beq_eq_false_iff_ne]; omega
        clear NEXT ZERO hcx
        go_wp2
        go_roundw
        case rel => exact ⟨1, by decide, rfl, NX.out, bnext BEL.out (alloc_below _ _)⟩
        case measure => simp [intOf]
    · simp only [List.getD_cons_zero, List.getD_cons_succ]
      by_cases hcx : c = 109
      · obtain rfl : U = 60 := by rw [← HU.out, hcx]; rfl
        obtain rfl : d = true := by rw [← HD.out, hcx]; rfl
        subst hcx
        clear NEXT ZERO
        go_wp2
        go_ret2
        exact ⟨rfl, bnext BEL.out (alloc_below _ _)⟩
      · have NX := Lib.hid (NEXT.out 109 rfl hcx)
        have hci : ((c : Int) == 109) = false := by rw [beq_eq_false_iff_ne]; omega
        have hci2 : ((109 : Int) == (c : Int)) = false := by rw [beq_eq_false_iff_ne]; omega
        clear NEXT ZERO hcx
        go_wp2
        go_roundw
        case rel => exact ⟨2, by decide, rfl, NX.out, bnext BEL.out (alloc_below _ _)⟩
        case measure => simp [intOf]
    · simp only [List.getD_cons_zero, List.getD_cons_succ]
      by_cases hcx : c = 104
      · obtain rfl : U = 3600 := by rw [← HU.out, hcx]; rfl
        obtain rfl : d = true := by rw [← HD.out, hcx]; rfl
        subst hcx
        clear NEXT ZERO
        go_wp2
        go_ret2
        exact ⟨rfl, bnext BEL.out (alloc_below _ _)⟩
      · have NX := Lib.hid (NEXT.out 104 rfl hcx)
        have hci : ((c : Int) == 104) = false := by rw [beq_eq_false_iff_ne]; omega
        have hci2 : ((104 : Int) == (c : Int)) = false := by rw [beq_eq_false_iff_ne]; omega
        clear NEXT ZERO hcx
        go_wp2
        go_roundw
        case rel => exact ⟨3, by decide, rfl, NX.out, bnext BEL.out (alloc_below _ _)⟩
        case measure => simp [intOf]
    · simp only [List.getD_cons_zero, List.getD_cons_succ]
      by_cases hcx : c = 100
      · obtain rfl : U = 86400 := by rw [← HU.out, hcx]; rfl
        obtain rfl : d = true := by rw [← HD.out, hcx]; rfl
        subst hcx
        clear NEXT ZERO
        go_wp2
        go_ret2
        exact ⟨rfl, bnext BEL.out (alloc_below _ _)⟩
      · have NX := Lib.hid (NEXT.out 100 rfl hcx)
        have hci : ((c : Int) == 100) = false := by rw [beq_eq_false_iff_ne]; omega
        have hci2 : ((100 : Int) == (c : Int)) = false := by rw [beq_eq_false_iff_ne]; omega
        clear NEXT ZERO hcx
        go_wp2
        go_roundw
        case rel => exact ⟨4, by decide, rfl, NX.out, bnext BEL.out (alloc_below _ _)⟩
        case measure => simp [intOf]
    · simp only [List.getD_cons_zero, List.getD_cons_succ]
      by_cases hcx : c = 119
      · obtain rfl : U = 604800 := by rw [← HU.out, hcx]; rfl
        obtain rfl : d = true := by rw [← HD.out, hcx]; rfl
        subst hcx
        clear NEXT ZERO
        go_wp2
        go_ret2
        exact ⟨rfl, bnext BEL.out (alloc_below _ _)⟩
      · have NX := Lib.hid (NEXT.out 119 rfl hcx)
        have hci : ((c : Int) == 119) = false := by rw [beq_eq_false_iff_ne]; omega
        have hci2 : ((119 : Int) == (c : Int)) = false := by rw [beq_eq_false_iff_ne]; omega
        clear NEXT ZERO hcx
        go_wp2
        go_roundw
        case rel => exact ⟨5, by decide, rfl, NX.out, bnext BEL.out (alloc_below _ _)⟩
        case measure => simp [intOf]
    · simp only [List.getD_cons_zero, List.getD_cons_succ]
      by_cases hcx : c = 121
      · obtain rfl : U = 31536000 := by rw [← HU.out, hcx]; rfl
        obtain rfl : d = true := by rw [← HD.out, hcx]; rfl
        subst hcx
        clear NEXT ZERO
        go_wp2
        go_ret2
        exact ⟨rfl, bnext BEL.out (alloc_below _ _)⟩
      · have NX := Lib.hid (NEXT.out 121 rfl hcx)
        have hci : ((c : Int) == 121) = false := by rw [beq_eq_false_iff_ne]; omega
        have hci2 : ((121 : Int) == (c : Int)) = false := by rw [beq_eq_false_iff_ne]; omega
        clear NEXT ZERO hcx
        go_wp2
        go_roundw
        case rel => exact ⟨6, by decide, rfl, NX.out, bnext BEL.out (alloc_below _ _)⟩
        case measure => simp [intOf]
    · simp only [List.getD_cons_zero, List.getD_cons_succ]
      have hz := ZERO.out rfl
      obtain rfl : U = 1 := by rw [← HU.out, hz]; rfl
      obtain rfl : d = false := by rw [← HD.out, hz]; rfl
      clear NEXT ZERO hz
      go_wp2
      go_ret2
      exact ⟨rfl, BEL.out⟩
end Go.Proofs.YtjbacbbbhedmlaaDoor.RP
