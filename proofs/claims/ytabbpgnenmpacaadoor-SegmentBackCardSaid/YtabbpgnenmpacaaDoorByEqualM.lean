/-
  The library's bytes.Equal, as a contract.
-/
import Derived.Test.YtabbpgnenmpacaaDoorByConvM
import Derived.Test.YtabbpgnenmpacaaDoorCrcRefM
import Derived.Lib.Hide
set_option linter.unusedSimpArgs false
set_option linter.unusedVariables false
namespace Go.Proofs.YtabbpgnenmpacaaDoor.SP
open Go.RowKit
set_option maxRecDepth 100000 in
set_option maxHeartbeats 1000000 in
theorem equal_c (v1 v2 : Value) (a b : List Nat) (ha : Bytes a) (hb : Bytes b) (w : World) (h1 : ByOut w v1 a) (h2 : ByOut w v2 b) :
    Calls Tryd.prog 39 #[v1, v2] w fun e w' => e = .returned (.bool (decide (a = b))) ∧ w = w' := by
  obtain ⟨A1, c1, rfl, _, _⟩ := id h1
  obtain ⟨A2, c2, rfl, _, _⟩ := id h2
  have k1 := conv_by ha h1
  have k2 := conv_by hb h2
  have hd : ((strB a).toList == (strB b).toList) = decide (a = b) := by
    rw [ByteArray.toList_eq, ByteArray.toList_eq]
    by_cases h : a = b
    · rw [h, decide_eq_true rfl]; exact beq_self_eq_true _
    · rw [decide_eq_false h, beq_eq_false_iff_ne]
      intro h9
      apply h
      unfold strB at h9
      simp only [List.toList_toArray] at h9
      exact map_ofNat_inj ha hb h9
  generalize strB a = s1 at *
  generalize strB b = s2 at *
  have HD := Lib.hid hd
  clear hd h1 h2
  go_enter Tryd.func39, Tryd.ntmps39
  go_wp2
  go_ret
  exact ⟨congrArg (fun z => Ending.returned (.bool z)) HD.out, rfl⟩
end Go.Proofs.YtabbpgnenmpacaaDoor.SP
