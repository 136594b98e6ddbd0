/-
  Contracts of the document's own functions of layer 3 (isobarref03), the second part: numbers as text.
-/
import Derived.Test.YtnnilllnkklecaaDoorDecRef
set_option linter.unusedSimpArgs false
set_option linter.unusedVariables false
namespace Go.Proofs.YtnnilllnkklecaaDoor.DR
open Go.RowKit

theorem digits_c (n : Nat) (hn : n < 18446744073709551616) (w : World) :
    Calls Tryd.prog 28 #[.int .u64 n] w fun e w' => e = .returned (.string (str (digs n))) ∧ w = w' := by
  go_enter Tryd.func28, Tryd.ntmps28
  go_wp2
  go_loop [0, 3] (fun x s => ∃ (m : Nat) (T : ByteArray) (S : List Nat), x = .int .u64 m ∧ s = .string T ∧ m ≤ n ∧ T.size ≤ 20 ∧ Hid (T = str S ∧ S.length = T.size ∧ ((S = [] ∧ m = n) ∨ (S ≠ [] ∧ digs n = pre m ++ S))))
    (fun x s => (intOf x).toNat + (match s with | .string b => if b.size = 0 then 1 else 0 | _ => 0))
  case atStart => exact ⟨n, ⟨#[]⟩, [], rfl, rfl, Nat.le_refl _, by decide, rfl, rfl, .inl ⟨rfl, rfl⟩⟩
  case round =>
    obtain ⟨m, T, S, rfl, rfl, hm, hS, HI⟩ := hrel
    obtain ⟨z, hz⟩ : ∃ z, T.toList.isEmpty = z := ⟨_, rfl⟩
    have HZ := Lib.hid (show z = true ↔ S = [] from by
      obtain ⟨rfl, hl, -⟩ := HI.out
      rw [← hz, List.isEmpty_iff, ByteArray.toList_eq]
      simp [str])
    have hcat : ¬ 9223372036854775807 < 1 + T.size := by omega
    by_cases hm0 : m = 0
    · subst hm0
      cases z
      · have hS' := Lib.hid (show digs n = S from by
          rcases HI.out.2.2 with ⟨h, -⟩ | ⟨-, h⟩
          · exact absurd (HZ.out.2 h) (by decide)
          · exact h)
        have hT := Lib.hid HI.out.1
        clear HI HZ
        go_wp2
        go_ret
        refine ⟨?_, rfl⟩
        rw [hT.out, hS'.out]; rfl
      · have hS' := Lib.hid (HZ.out.1 rfl)
        have hn0 := Lib.hid (show n = 0 from by
          rcases HI.out.2.2 with ⟨-, h⟩ | ⟨h, -⟩
          · exact h.symm
          · exact absurd hS'.out h)
        have hT := Lib.hid (show T = ⟨#[]⟩ from by rw [HI.out.1, hS'.out]; rfl)
        have hTs : T.size = 0 := by rw [hT.out]; rfl
        obtain ⟨D, hD⟩ : ∃ D, (ByteArray.mk #[48, 49, 50, 51, 52, 53, 54, 55, 56, 57]).extract 0 1 = D := ⟨_, rfl⟩
        have hDs : D.size = 1 := by rw [← hD]; rfl
        have HD := Lib.hid hD
        clear HI HZ
        go_wp2
        refine ⟨⟨0, D ++ T, [48], rfl, rfl, Nat.zero_le _, ?_, ?_⟩, ?_⟩
        · rw [ByteArray.size_append]; omega
        · refine ⟨?_, ?_, .inr ⟨by simp, ?_⟩⟩
          · rw [hT.out, ← HD.out]; decide +kernel
          · rw [ByteArray.size_append]; simp; omega
          · rw [hn0.out, digs_small (by decide)]; rfl
        · simp [intOf, ByteArray.size_append, hDs, hTs]
    · obtain ⟨r, hr⟩ : ∃ r, m % 10 = r := ⟨_, rfl⟩
      have hr10 : r < 10 := by omega
      have R : (m : Int) % 10 = (r : Int) := by omega
      obtain ⟨D, hD⟩ : ∃ D, (ByteArray.mk #[48, 49, 50, 51, 52, 53, 54, 55, 56, 57]).extract r (r + 1) = D := ⟨_, rfl⟩
      have hDs : D.size = 1 := by rw [← hD, dig_ext hr10]; rfl
      have hDr := Lib.hid (show D = str [48 + r] from by rw [← hD, dig_ext hr10])
      have e0 : (0 : Int) ≤ r := by omega
      have e1 : (r : Int) ≤ r + 1 := by omega
      have e2 : (r : Int) + 1 ≤ 10 := by omega
      have e3 : (r : Int) < 10 := by omega
      have HR := Lib.hid hr
      clear hr hr10
      go_wp2
      have hdig := Lib.hid (show digs n = pre (m / 10) ++ ((48 + r) :: S) from by
        rw [← HR.out]
        rcases HI.out.2.2 with ⟨h, rfl⟩ | ⟨-, h⟩
        · rw [h, digs_pre]
        · rw [h, pre_step hm0])
      have hlen : 1 + T.size ≤ 20 := by
        have h20 := digs_length64 hn
        rw [hdig.out, List.length_append, List.length_cons] at h20
        have := HI.out.2.1
        omega
      refine ⟨⟨m / 10, D ++ T, (48 + r) :: S, by go_num, rfl, by omega, ?_, ?_⟩, ?_⟩
      · rw [ByteArray.size_append]; omega
      · refine ⟨?_, ?_, .inr ⟨by simp, hdig.out⟩⟩
        · rw [hDr.out, HI.out.1, str_append]; rfl
        · rw [ByteArray.size_append, List.length_cons, HI.out.2.1]; omega
      · have hne : ¬ (D ++ T).size = 0 := by rw [ByteArray.size_append]; omega
        show (intOf (.int .u64 ((m : Int) / 10))).toNat + (if (D ++ T).size = 0 then 1 else 0) < (intOf (.int .u64 (m : Int))).toNat + (if T.size = 0 then 1 else 0)
        rw [if_neg hne]
        simp only [intOf]
        omega
end Go.Proofs.YtnnilllnkklecaaDoor.DR
