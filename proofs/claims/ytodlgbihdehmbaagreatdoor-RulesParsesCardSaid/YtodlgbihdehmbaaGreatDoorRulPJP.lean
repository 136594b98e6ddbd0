/-
  Contracts of the program's functions of layer 12: methods' names and numbers.
-/
import Derived.Test.YtodlgbihdehmbaaGreatDoorRulPBP
set_option linter.unusedSimpArgs false
set_option linter.unusedVariables false
namespace Go.Proofs.YtodlgbihdehmbaaGreatDoor
open Go.RowKit Cf Cf.KR Cf.KP
/-- The methods' table lies as it is laid. -/
def Mt (w : World) : Prop := ∀ k : Nat, k ≤ 5 → w.cell? ⟨0, k, none⟩ = some (.string (str (mName k)))
theorem Mt.below {w w' : World} (h : Mt w) (hb : Below w.heap.size w w') : Mt w' := fun k hk => cellb hb (h k hk)
theorem mName_byt (m : Int) : Byt (mName m) := by
  unfold Byt mName
  split
  · decide
  · split
    · decide
    · split
      · decide
      · split
        · decide
        · split
          · decide
          · intro c hc; cases hc
theorem mNum_at {n : List Nat} {m : Int} (h : 1 ≤ m ∧ m ≤ 5) (e : mName m = n) : mNum n = (m, true) := by rw [← e]; exact mNum_near h
theorem mNum_no {n : List Nat} (h : ∀ m : Int, 1 ≤ m ∧ m ≤ 5 → mName m ≠ n) : mNum n = (0, false) := by
  unfold mNum
  rw [if_neg (fun e => h 1 (by decide) e.symm), if_neg (fun e => h 2 (by decide) e.symm), if_neg (fun e => h 3 (by decide) e.symm), if_neg (fun e => h 4 (by decide) e.symm), if_neg (fun e => h 5 (by decide) e.symm)]
theorem ret_ib {a b : Int} {p q : Bool} (h : a = b) (k : p = q) : Ending.returned (.tuple #[.int .i64 a, .bool p]) = .returned (.tuple #[.int .i64 b, .bool q]) := by rw [h, k]
namespace LP
set_option maxRecDepth 100000 in
theorem name_p (m : Int) (w : World) (t : Mt w) : Calls Tryz.prog 16 #[.int .i64 m] w fun e w' => e = .returned (.string (str (mName m))) ∧ w = w' := by
  have IM := Lib.hid (isMethod_p m w)
  by_cases h : 1 ≤ m ∧ m ≤ 5
  · rw [decide_eq_true h] at IM
    obtain ⟨k, rfl⟩ : ∃ k : Nat, m = k := ⟨m.toNat, by omega⟩
    have hc := t k (by omega)
    have h6 : k < 6 := by omega
    generalize str (mName (k : Int)) = X at *
    clear t
    go_enter Tryz.func16, Tryz.ntmps16
    go_wp2_with (go_at_call 35; refine IM.out.mono ?_; rintro _ w2 ⟨rfl, rfl⟩)
    go_ret
    exact ⟨rfl, rfl⟩
  · rw [decide_eq_false h] at IM
    have hf := mName_far (m := m) (by omega)
    rw [hf]
    clear t
    go_enter Tryz.func16, Tryz.ntmps16
    go_wp2_with (go_at_call 35; refine IM.out.mono ?_; rintro _ w2 ⟨rfl, rfl⟩)
    go_ret
    exact ⟨rfl, rfl⟩
theorem mx0 (X0 X1 X2 X3 X4 X5 : ByteArray) (w : World) : (Instr.index 80 (.agg #[.string X0, .string X1, .string X2, .string X3, .string X4, .string X5]) (.int .i64 0)).run Tryz.prog w = .ok (.string X0) w := by kernel_rfl
theorem mx1 (X0 X1 X2 X3 X4 X5 : ByteArray) (w : World) : (Instr.index 80 (.agg #[.string X0, .string X1, .string X2, .string X3, .string X4, .string X5]) (.int .i64 1)).run Tryz.prog w = .ok (.string X1) w := by kernel_rfl
theorem mx2 (X0 X1 X2 X3 X4 X5 : ByteArray) (w : World) : (Instr.index 80 (.agg #[.string X0, .string X1, .string X2, .string X3, .string X4, .string X5]) (.int .i64 2)).run Tryz.prog w = .ok (.string X2) w := by kernel_rfl
theorem mx3 (X0 X1 X2 X3 X4 X5 : ByteArray) (w : World) : (Instr.index 80 (.agg #[.string X0, .string X1, .string X2, .string X3, .string X4, .string X5]) (.int .i64 3)).run Tryz.prog w = .ok (.string X3) w := by kernel_rfl
theorem mx4 (X0 X1 X2 X3 X4 X5 : ByteArray) (w : World) : (Instr.index 80 (.agg #[.string X0, .string X1, .string X2, .string X3, .string X4, .string X5]) (.int .i64 4)).run Tryz.prog w = .ok (.string X4) w := by kernel_rfl
theorem mx5 (X0 X1 X2 X3 X4 X5 : ByteArray) (w : World) : (Instr.index 80 (.agg #[.string X0, .string X1, .string X2, .string X3, .string X4, .string X5]) (.int .i64 5)).run Tryz.prog w = .ok (.string X5) w := by kernel_rfl
set_option maxRecDepth 100000 in
set_option maxHeartbeats 2000000 in
theorem method_p (nm : ByteArray) (w : World) (t : Mt w) : Calls Tryz.prog 12 #[.string nm] w fun e w' => e = .returned (.tuple #[.int .i64 (mNum (bs nm)).1, .bool (mNum (bs nm)).2]) ∧ Below w.heap.size w w' := by
  have t0 := t 0 (by decide); have t1 := t 1 (by decide); have t2 := t 2 (by decide); have t3 := t 3 (by decide); have t4 := t 4 (by decide); have t5 := t 5 (by decide)
  have E1 := Lib.hid (toList_str (mName_byt 1) nm); have E2 := Lib.hid (toList_str (mName_byt 2) nm); have E3 := Lib.hid (toList_str (mName_byt 3) nm); have E4 := Lib.hid (toList_str (mName_byt 4) nm); have E5 := Lib.hid (toList_str (mName_byt 5) nm)
  obtain ⟨X0, hX0⟩ : ∃ X, str (mName 0) = X := ⟨_, rfl⟩
  obtain ⟨X1, hX1⟩ : ∃ X, str (mName 1) = X := ⟨_, rfl⟩
  obtain ⟨X2, hX2⟩ : ∃ X, str (mName 2) = X := ⟨_, rfl⟩
  obtain ⟨X3, hX3⟩ : ∃ X, str (mName 3) = X := ⟨_, rfl⟩
  obtain ⟨X4, hX4⟩ : ∃ X, str (mName 4) = X := ⟨_, rfl⟩
  obtain ⟨X5, hX5⟩ : ∃ X, str (mName 5) = X := ⟨_, rfl⟩
  rw [show ((0 : Nat) : Int) = 0 from rfl, hX0] at t0
  rw [show ((1 : Nat) : Int) = 1 from rfl, hX1] at t1
  rw [show ((2 : Nat) : Int) = 2 from rfl, hX2] at t2
  rw [show ((3 : Nat) : Int) = 3 from rfl, hX3] at t3
  rw [show ((4 : Nat) : Int) = 4 from rfl, hX4] at t4
  rw [show ((5 : Nat) : Int) = 5 from rfl, hX5] at t5
  rw [hX1] at E1
  rw [hX2] at E2
  rw [hX3] at E3
  rw [hX4] at E4
  rw [hX5] at E5
  clear hX0 hX1 hX2 hX3 hX4 hX5 t
  have hsz : ∀ h, (Tryz.prog.types[9]'h).size = 1 := fun _ => by kernel_rfl
  go_enter Tryz.func12, Tryz.ntmps12
  go_wp2
  go_loopw [7] (fun i wr => ∃ k : Int, (0 ≤ k ∧ k ≤ 6) ∧ i = .int .i64 k ∧ Hid ((∀ m : Int, 1 ≤ m ∧ m < k → mName m ≠ bs nm) ∧ Below w.heap.size w wr)) (fun i _ => 6 - (intOf i).toNat)
  case atStart => exact ⟨0, by omega, rfl, fun m hm => by omega, Below.refl _ _⟩
  case round =>
    obtain ⟨k, hk, rfl, HI⟩ := hrel
    rcases (show k = 0 ∨ k = 1 ∨ k = 2 ∨ k = 3 ∨ k = 4 ∨ k = 5 ∨ k = 6 by omega) with rfl | rfl | rfl | rfl | rfl | rfl | rfl
    · have IM := Lib.hid (isMethod_p 0 wr)
      have ix := fun W => mx0 X0 X1 X2 X3 X4 X5 W
      rw [decide_eq_false (by decide : ¬ ((1 : Int) ≤ 0 ∧ (0 : Int) ≤ 5))] at IM
      go_wp2_with (go_at_call 35; refine IM.out.mono ?_; rintro _ w2 ⟨rfl, rfl⟩)
      go_roundw
      case rel => exact ⟨1, by omega, rfl, fun m hm => by omega, HI.out.2⟩
      case measure => simp [intOf]
    · have IM := Lib.hid (isMethod_p 1 wr)
      have ix := fun W => mx1 X0 X1 X2 X3 X4 X5 W
      rw [decide_eq_true (by decide : (1 : Int) ≤ 1 ∧ (1 : Int) ≤ 5)] at IM
      by_cases he : mName 1 = bs nm
      · have CE := E1.out
        rw [decide_eq_true he] at CE
        have HE := Lib.hid (mNum_at (m := 1) (by decide) he)
        clear he
        go_wp2_with (go_at_call 35; refine IM.out.mono ?_; rintro _ w2 ⟨rfl, rfl⟩)
        go_ret2
        exact ⟨ret_ib (by rw [HE.out]) (by rw [HE.out]), HI.out.2⟩
      · have CE := E1.out
        rw [decide_eq_false he] at CE
        have NEXT := Lib.hid (show ∀ m : Int, 1 ≤ m ∧ m < 2 → mName m ≠ bs nm from fun m hm e => by
          by_cases h : m = 1
          · rw [h] at e; exact he e
          · exact HI.out.1 m (by omega) e)
        clear he
        go_wp2_with (go_at_call 35; refine IM.out.mono ?_; rintro _ w2 ⟨rfl, rfl⟩)
        go_roundw
        case rel => exact ⟨2, by omega, rfl, NEXT.out, HI.out.2⟩
        case measure => simp [intOf]
    · have IM := Lib.hid (isMethod_p 2 wr)
      have ix := fun W => mx2 X0 X1 X2 X3 X4 X5 W
      rw [decide_eq_true (by decide : (1 : Int) ≤ 2 ∧ (2 : Int) ≤ 5)] at IM
      by_cases he : mName 2 = bs nm
      · have CE := E2.out
        rw [decide_eq_true he] at CE
        have HE := Lib.hid (mNum_at (m := 2) (by decide) he)
        clear he
        go_wp2_with (go_at_call 35; refine IM.out.mono ?_; rintro _ w2 ⟨rfl, rfl⟩)
        go_ret2
        exact ⟨ret_ib (by rw [HE.out]) (by rw [HE.out]), HI.out.2⟩
      · have CE := E2.out
        rw [decide_eq_false he] at CE
        have NEXT := Lib.hid (show ∀ m : Int, 1 ≤ m ∧ m < 3 → mName m ≠ bs nm from fun m hm e => by
          by_cases h : m = 2
          · rw [h] at e; exact he e
          · exact HI.out.1 m (by omega) e)
        clear he
        go_wp2_with (go_at_call 35; refine IM.out.mono ?_; rintro _ w2 ⟨rfl, rfl⟩)
        go_roundw
        case rel => exact ⟨3, by omega, rfl, NEXT.out, HI.out.2⟩
        case measure => simp [intOf]
    · have IM := Lib.hid (isMethod_p 3 wr)
      have ix := fun W => mx3 X0 X1 X2 X3 X4 X5 W
      rw [decide_eq_true (by decide : (1 : Int) ≤ 3 ∧ (3 : Int) ≤ 5)] at IM
      by_cases he : mName 3 = bs nm
      · have CE := E3.out
        rw [decide_eq_true he] at CE
        have HE := Lib.hid (mNum_at (m := 3) (by decide) he)
        clear he
        go_wp2_with (go_at_call 35; refine IM.out.mono ?_; rintro _ w2 ⟨rfl, rfl⟩)
        go_ret2
        exact ⟨ret_ib (by rw [HE.out]) (by rw [HE.out]), HI.out.2⟩
      · have CE := E3.out
        rw [decide_eq_false he] at CE
        have NEXT := Lib.hid (show ∀ m : Int, 1 ≤ m ∧ m < 4 → mName m ≠ bs nm from fun m hm e => by
          by_cases h : m = 3
          · rw [h] at e; exact he e
          · exact HI.out.1 m (by omega) e)
        clear he
        go_wp2_with (go_at_call 35; refine IM.out.mono ?_; rintro _ w2 ⟨rfl, rfl⟩)
        go_roundw
        case rel => exact ⟨4, by omega, rfl, NEXT.out, HI.out.2⟩
        case measure => simp [intOf]
    · have IM := Lib.hid (isMethod_p 4 wr)
      have ix := fun W => mx4 X0 X1 X2 X3 X4 X5 W
      rw [decide_eq_true (by decide : (1 : Int) ≤ 4 ∧ (4 : Int) ≤ 5)] at IM
      by_cases he : mName 4 = bs nm
      · have CE := E4.out
        rw [decide_eq_true he] at CE
        have HE := Lib.hid (mNum_at (m := 4) (by decide) he)
        clear he
        go_wp2_with (go_at_call 35; refine IM.out.mono ?_; rintro _ w2 ⟨rfl, rfl⟩)
        go_ret2
        exact ⟨ret_ib (by rw [HE.out]) (by rw [HE.out]), HI.out.2⟩
      · have CE := E4.out
        rw [decide_eq_false he] at CE
        have NEXT := Lib.hid (show ∀ m : Int, 1 ≤ m ∧ m < 5 → mName m ≠ bs nm from fun m hm e => by
          by_cases h : m = 4
          · rw [h] at e; exact he e
          · exact HI.out.1 m (by omega) e)
        clear he
        go_wp2_with (go_at_call 35; refine IM.out.mono ?_; rintro _ w2 ⟨rfl, rfl⟩)
        go_roundw
        case rel => exact ⟨5, by omega, rfl, NEXT.out, HI.out.2⟩
        case measure => simp [intOf]
    · have IM := Lib.hid (isMethod_p 5 wr)
      have ix := fun W => mx5 X0 X1 X2 X3 X4 X5 W
      rw [decide_eq_true (by decide : (1 : Int) ≤ 5 ∧ (5 : Int) ≤ 5)] at IM
      by_cases he : mName 5 = bs nm
      · have CE := E5.out
        rw [decide_eq_true he] at CE
        have HE := Lib.hid (mNum_at (m := 5) (by decide) he)
        clear he
        go_wp2_with (go_at_call 35; refine IM.out.mono ?_; rintro _ w2 ⟨rfl, rfl⟩)
        go_ret2
        exact ⟨ret_ib (by rw [HE.out]) (by rw [HE.out]), HI.out.2⟩
      · have CE := E5.out
        rw [decide_eq_false he] at CE
        have NEXT := Lib.hid (show ∀ m : Int, 1 ≤ m ∧ m < 6 → mName m ≠ bs nm from fun m hm e => by
          by_cases h : m = 5
          · rw [h] at e; exact he e
          · exact HI.out.1 m (by omega) e)
        clear he
        go_wp2_with (go_at_call 35; refine IM.out.mono ?_; rintro _ w2 ⟨rfl, rfl⟩)
        go_roundw
        case rel => exact ⟨6, by omega, rfl, NEXT.out, HI.out.2⟩
        case measure => simp [intOf]
    · have HE := Lib.hid (mNum_no (n := bs nm) (fun m hm => HI.out.1 m (by omega)))
      go_wp2
      go_ret2
      exact ⟨ret_ib (by rw [HE.out]) (by rw [HE.out]), HI.out.2⟩
end LP
end Go.Proofs.YtodlgbihdehmbaaGreatDoor
