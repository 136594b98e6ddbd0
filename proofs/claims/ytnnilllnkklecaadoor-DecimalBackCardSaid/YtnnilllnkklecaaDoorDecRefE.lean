/-
  Contracts of the document's own functions of layer 3 (isobarref03), the fifth part: any number printed; numbers joined.
-/
import Derived.Test.YtnnilllnkklecaaDoorDecRefC
import Derived.Test.YtnnilllnkklecaaDoorDecBack
set_option linter.unusedSimpArgs false
set_option linter.unusedVariables false
namespace Go.Proofs.YtnnilllnkklecaaDoor
open Go.RowKit
theorem printS_none : printS none = [78, 111, 110, 101] := rfl
/-- The first n of a row of numbers, printed, with commas between. -/
def joinF (B : Nat → Bool) (V : Nat → Int) : Nat → List Nat
  | 0 => []
  | n + 1 => joinF B V n ++ ((if n = 0 then [] else [44]) ++ printS (rd (B n) (V n)))
/-- A row of numbers in memory. -/
def RowAt (w : World) (b off len : Nat) (B : Nat → Bool) (V : Nat → Int) : Prop :=
  ∀ i, i < len → w.cell? ⟨b, off + i * 2, none⟩ = some (.bool (B i)) ∧ w.cell? ⟨b, off + i * 2 + 1, none⟩ = some (.int .i64 (V i))
theorem RowAt.below {w w' : World} {b off len : Nat} {B : Nat → Bool} {V : Nat → Int} (h : RowAt w b off len B V) (hb : Below w.heap.size w w') : RowAt w' b off len B V := fun i hi =>
  ⟨(hb.cell (p := ⟨b, off + i * 2, none⟩) (World.block_lt_of_cell? w ⟨b, off + i * 2, none⟩ (h i hi).1)).trans (h i hi).1, (hb.cell (p := ⟨b, off + i * 2 + 1, none⟩) (World.block_lt_of_cell? w ⟨b, off + i * 2 + 1, none⟩ (h i hi).2)).trans (h i hi).2⟩
theorem print_length_any (b : Bool) (v : Int) (h : -9223372036854775808 ≤ v ∧ v ≤ 9223372036854775807) : (printS (rd b v)).length ≤ 21 := by
  by_cases g : b = false ∧ v ≠ -9223372036854775808
  · rw [rd_some g.1 g.2]
    exact print_length (by omega) h.2
  · rw [rd_none g]; decide
end Go.Proofs.YtnnilllnkklecaaDoor
namespace Go.Proofs.YtnnilllnkklecaaDoor.DR
open Go.RowKit

theorem str44 : (ByteArray.mk #[44]) = str [44] := by decide +kernel
theorem strNone : (ByteArray.mk #[78, 111, 110, 101]) = str [78, 111, 110, 101] := by decide +kernel
theorem print_none (b : Bool) (v : Int) (h : ¬ (b = false ∧ v ≠ -9223372036854775808)) (w : World) :
    Calls Tryd.prog 13 #[.agg #[.bool b, .int .i64 v]] w fun e w' => e = .returned (.string (str (printS none))) ∧ Below w.heap.size w w' := by
  cases b
  · have hv : v = -9223372036854775808 := Decidable.byContradiction fun hne => h ⟨rfl, hne⟩
    have HR := Lib.hid (right_f v false (by rw [bne_eq_false_iff_eq]; exact hv))
    clear h hv
    go_enter Tryd.func13, Tryd.ntmps13
    go_wp2_with fail
    refine (HR.out _).mono ?_; rintro e w1 ⟨rfl, hb1⟩
    go_wp2
    go_ret
    exact ⟨ret_str strNone, below_box hb1⟩
  · clear h
    go_enter Tryd.func13, Tryd.ntmps13
    go_wp2
    go_ret
    exact ⟨ret_str strNone, (Below.refl _ _).alloc (Nat.le_refl _) _⟩
theorem print_c (b : Bool) (v : Int) (h1 : -9223372036854775808 ≤ v ∧ v ≤ 9223372036854775807) (w : World) :
    Calls Tryd.prog 13 #[.agg #[.bool b, .int .i64 v]] w fun e w' => e = .returned (.string (str (printS (rd b v)))) ∧ Below w.heap.size w w' := by
  by_cases g : b = false ∧ v ≠ -9223372036854775808
  · obtain ⟨rfl, hv⟩ := g
    rw [rd_some rfl hv]
    exact print_some v (by omega) (by omega) w
  · rw [rd_none g]
    exact print_none b v g w

set_option maxRecDepth 100000 in
set_option maxHeartbeats 1000000 in
theorem join_c (b off len cap : Nat) (hl : len ≤ 3000) (B : Nat → Bool) (V : Nat → Int) (hV : ∀ i, i < len → -9223372036854775808 ≤ V i ∧ V i ≤ 9223372036854775807) (w : World) (hw : RowAt w b off len B V) :
    Calls Tryd.prog 15 #[.slice (some ⟨b, off, none⟩) len cap] w fun e w' => e = .returned (.string (str (joinF B V len))) ∧ Below w.heap.size w w' := by
  have HV := Lib.hid hV; have HW := Lib.hid hw
  clear hV hw
  go_enter Tryd.func15, Tryd.ntmps15
  go_wp2
  go_loopw [3, 4] (fun s i wr => ∃ (k : Nat) (T : ByteArray), k ≤ len ∧ i = .int .i64 k ∧ s = .string T ∧ T.size ≤ 30 * k ∧ Hid (T = str (joinF B V k) ∧ Below w.heap.size w wr)) (fun _ i _ => len - (intOf i).toNat)
  case atStart => exact ⟨0, ⟨#[]⟩, Nat.zero_le _, rfl, rfl, by decide, rfl, Below.refl _ _⟩
  case round =>
    obtain ⟨k, T, hk, rfl, rfl, hT, HI⟩ := hrel
    by_cases hlt : k < len
    · have HR := Lib.hid (HW.out.below HI.out.2)
      obtain ⟨r0, r1⟩ := HR.out k hlt
      obtain ⟨E, hE⟩ : ∃ E, str (printS (rd (B k) (V k))) = E := ⟨_, rfl⟩
      have hEs : E.size ≤ 21 := by rw [← hE, str_size]; exact print_length_any _ _ (HV.out k hlt)
      have hp := print_c (B k) (V k) (HV.out k hlt)
      rw [hE] at hp
      have HP := Lib.hid hp
      have HE := Lib.hid hE
      clear hp hE
      by_cases hk0 : k = 0
      · have hk1 : ¬ (0 : Int) < k := by omega
        have H0 := Lib.hid hk0
        clear hk0
        go_wp2_with fail
        refine (HP.out _).mono ?_; rintro e w1 ⟨rfl, hb1⟩
        go_wp2
        refine ⟨⟨k + 1, T ++ E, by omega, by go_num, rfl, ?_, ?_, below_next HI.out.2 hb1⟩, by simp [intOf] <;> omega⟩
        · rw [ByteArray.size_append]; omega
        · show T ++ E = str (joinF B V k ++ ((if k = 0 then [] else [44]) ++ printS (rd (B k) (V k))))
          rw [HI.out.1, ← HE.out, str_append, if_pos H0.out, List.nil_append]
      · have hk1 : (0 : Int) < k := by omega
        go_wp2_with fail
        refine (HP.out _).mono ?_; rintro e w1 ⟨rfl, hb1⟩
        go_wp2
        refine ⟨⟨k + 1, T ++ ⟨#[44]⟩ ++ E, by omega, by go_num, rfl, ?_, ?_, below_next HI.out.2 hb1⟩, by simp [intOf] <;> omega⟩
        · rw [ByteArray.size_append, ByteArray.size_append]
          show T.size + 1 + E.size ≤ _
          omega
        · show T ++ ⟨#[44]⟩ ++ E = str (joinF B V k ++ ((if k = 0 then [] else [44]) ++ printS (rd (B k) (V k))))
          rw [HI.out.1, ← HE.out, str44, str_append, str_append, if_neg hk0, List.append_assoc]
    · obtain rfl : k = len := by omega
      go_wp2
      go_ret
      exact ⟨ret_str HI.out.1, HI.out.2⟩
theorem join_nil (a : Option Addr) (cap : Nat) (B : Nat → Bool) (V : Nat → Int) (w : World) :
    Calls Tryd.prog 15 #[.slice a 0 cap] w fun e w' => e = .returned (.string (str (joinF B V 0))) ∧ Below w.heap.size w w' := by
  go_enter Tryd.func15, Tryd.ntmps15
  go_wp2
  go_loop [3, 4] (fun s i => s = .string ⟨#[]⟩ ∧ i = .int .i64 0) (fun _ _ => 0)
  case atStart => exact ⟨rfl, rfl⟩
  case round =>
    obtain ⟨rfl, rfl⟩ := hrel
    go_wp2
    go_ret
    exact ⟨rfl, Below.refl _ _⟩
end Go.Proofs.YtnnilllnkklecaaDoor.DR
