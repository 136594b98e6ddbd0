/-
  Contracts of the document's own functions of layer 3 (isobarref03), the third part: a number printed.
-/
import Derived.Test.YtnnilllnkklecaaDoorDecRefB
set_option linter.unusedSimpArgs false
set_option linter.unusedVariables false
namespace Go.Proofs.YtnnilllnkklecaaDoor.DR
open Go.RowKit

theorem right_f (v : Int) (t : Bool) (ht : (v != -9223372036854775808) = t) (w : World) : Calls Tryd.prog 16 #[.agg #[.bool false, .int .i64 v]] w fun e w' => e = .returned (.bool t) ∧ Below w.heap.size w w' := by
  subst ht
  go_enter Tryd.func16, Tryd.ntmps16
  go_wp2
  go_ret
  exact ⟨rfl, (Below.refl _ _).alloc (Nat.le_refl _) _⟩

/-- A string's length, for a loop's measure. -/
def szV : Value → Nat
  | .string b => b.size
  | _ => 0
theorem str0 : (ByteArray.mk #[]) = str [] := rfl
theorem str45 : (ByteArray.mk #[45]) = str [45] := by decide +kernel
theorem str46 : (ByteArray.mk #[46]) = str [46] := by decide +kernel
theorem ret_str {a b : ByteArray} (h : a = b) : Ending.returned (.string a) = .returned (.string b) := by rw [h]
set_option maxRecDepth 100000 in
set_option maxHeartbeats 1000000 in
theorem print_some (v : Int) (h0 : -9223372036854775807 ≤ v) (h1 : v ≤ 9223372036854775807) (w : World) :
    Calls Tryd.prog 13 #[.agg #[.bool false, .int .i64 v]] w fun e w' => e = .returned (.string (str (printS (some v)))) ∧ Below w.heap.size w w' := by
  have HR := Lib.hid (right_f v true (by rw [bne_iff_ne]; omega))
  obtain ⟨a, ha⟩ : ∃ a : Int, a = (v.natAbs : Int) := ⟨_, rfl⟩
  obtain ⟨g, hg⟩ : ∃ g : List Nat, (if v < 0 then [45] else []) = g := ⟨_, rfl⟩
  have a0 : 0 ≤ a := by omega
  have a1 : a ≤ 9223372036854775807 := by omega
  obtain ⟨q, hq⟩ : ∃ q : Nat, v.natAbs / 1000000 = q := ⟨_, rfl⟩
  obtain ⟨p, hp⟩ : ∃ p : Nat, v.natAbs % 1000000 = p := ⟨_, rfl⟩
  obtain ⟨ev, hev⟩ : ∃ ev, (if p = 0 then [] else 46 :: frF 6 p) = ev := ⟨_, rfl⟩
  have hP : printS (some v) = g ++ (digs q ++ ev) := by
    show (if v < 0 then [45] else []) ++ (digs (v.natAbs / 1000000) ++ (if v.natAbs % 1000000 = 0 then [] else 46 :: frF 6 (v.natAbs % 1000000))) = _
    rw [hg, hq, hp, hev]
  have HP := Lib.hid hP
  have Q : a / 1000000 = (q : Int) := by omega
  have R : a % 1000000 = (p : Int) := by omega
  have hp1 : p < 1000000 := by omega
  have hq64 : q < 18446744073709551616 := by omega
  have HD := Lib.hid (digits_c q hq64)
  have hlen := digs_length64 hq64
  obtain ⟨D, hD⟩ : ∃ D, str (digs q) = D := ⟨_, rfl⟩
  have hDs : D.size ≤ 20 := by rw [← hD, str_size]; exact hlen
  rw [hD] at HD
  have HDe := Lib.hid hD
  clear hD hP hp
  by_cases l : v < 0
  · have Rn : IntKind.i64.wrap (-v) = a := by rw [show -v = a from by omega]; exact (by simp [IntKind.wrap, IntKind.bits, IntKind.signed]; split <;> omega)
    have hna : -v = a := by omega
    have HG := Lib.hid (show g = [45] from by rw [← hg, if_pos l])
    clear hq64 hlen hq hg ha
    go_enter Tryd.func13, Tryd.ntmps13
    go_wp2_with fail
    refine (HR.out _).mono ?_; rintro e w1 ⟨rfl, hb1⟩; obtain ⟨hc1, hf1⟩ := bcell hb1
    go_wp2_with fail
    refine (HD.out _).mono ?_; rintro e w' ⟨rfl, rfl⟩
    have HB := Lib.hid (below_box hb1)
    clear hc1 hf1 hb1
    by_cases hp0 : p = 0
    · subst hp0
      have HE := Lib.hid (show ev = [] from by rw [← hev]; simp)
      go_wp2
      go_ret
      refine ⟨ret_str ?_, HB.out⟩
      rw [HP.out, HG.out, HE.out, ← HDe.out, str45, str_append]
      simp
    · have HE := Lib.hid (show ev = 46 :: frF 6 p from by rw [← hev, if_neg hp0])
      have hD' := Lib.hid (show ByteArray.mk #[45] ++ D ++ ByteArray.mk #[46] = str (g ++ (digs q ++ [46])) from by
        rw [← HDe.out, str45, str46, str_append, str_append, HG.out, List.append_assoc])
      have hpz : ((p : Int) == 0) = false := by rw [beq_eq_false_iff_ne]; omega
      go_wp2_with fail
      simp only [R, hpz]
      go_loop [5, 6] (fun s u => ∃ (k x : Nat) (T : ByteArray), u = .int .i64 x ∧ s = .string T ∧ x < 1000000 ∧ T.size + k ≤ 40 ∧ Hid (k ≤ 6 ∧ x % 10 ^ (6 - k) = 0 ∧ ∃ F : List Nat, T = str F ∧ printS (some v) = F ++ frF k x)) (fun s _ => 64 - szV s)
      case atStart =>
        refine ⟨6, p, _, rfl, rfl, hp1, ?_, by decide, by rw [Nat.sub_self]; exact Nat.mod_one _, _, hD'.out, ?_⟩
        · rw [hD'.out, str_size]
          have e : (digs q).length = D.size := by rw [← HDe.out, str_size]
          rw [HG.out]; simp; omega
        · rw [HP.out, HE.out]; simp
      case round =>
        obtain ⟨k, x, T, rfl, rfl, hx, hT, HI⟩ := hrel
        by_cases hx0 : x = 0
        · subst hx0
          go_wp2
          go_ret
          refine ⟨ret_str ?_, HB.out⟩
          obtain ⟨-, -, F, hF, hpr⟩ := HI.out
          rw [hF, hpr, frF_zero, List.append_nil]
        · obtain ⟨r, hr⟩ : ∃ r, x / 100000 = r := ⟨_, rfl⟩
          have hr10 : r < 10 := by omega
          have Rr : (x : Int) / 100000 = (r : Int) := by omega
          obtain ⟨y, hy⟩ : ∃ y, x % 100000 * 10 = y := ⟨_, rfl⟩
          have Ry : (x : Int) % 100000 * 10 = (y : Int) := by omega
          have hy1 : y < 1000000 := by omega
          obtain ⟨E, hE⟩ : ∃ E, str (digs r) = E := ⟨_, rfl⟩
          have hd := digits_c r (by omega)
          rw [hE] at hd
          have HX := Lib.hid hd
          have hEs : E.size = 1 := by rw [← hE, digs_small hr10]; rfl
          have HE' := Lib.hid (show E = str [48 + r] from by rw [← hE, digs_small hr10])
          have HN := Lib.hid (show ∃ j, k = j + 1 ∧ j ≤ 5 ∧ y % 10 ^ (6 - j) = 0 ∧ frF k x = (48 + r) :: frF j y from by
            obtain ⟨hk6, hmod, -⟩ := HI.out
            cases k with
            | zero => exact absurd (fr_end hmod hx) hx0
            | succ j =>
              refine ⟨j, rfl, by omega, ?_, by rw [frF_step hx0, hr, hy]⟩
              rw [← hy, show 6 - j = 6 - (j + 1) + 1 from by omega]
              exact fr_div hmod (by omega))
          clear hr hy hd hE hr10
          go_wp2_with fail
          refine (HX.out _).mono ?_; rintro e w' ⟨rfl, rfl⟩
          go_wp2
          obtain ⟨j, hkj, hj5, hmod, hfr⟩ := HN.out
          obtain ⟨-, -, F, hF, hpr⟩ := HI.out
          have hA : (T ++ E).size + j ≤ 40 := by rw [ByteArray.size_append]; omega
          have hB := Lib.hid (show j ≤ 6 ∧ y % 10 ^ (6 - j) = 0 ∧ ∃ F : List Nat, T ++ E = str F ∧ printS (some v) = F ++ frF j y from
            ⟨by omega, hmod, F ++ [48 + r], by rw [hF, HE'.out, str_append], by rw [hpr, hfr]; simp⟩)
          have hM : 64 - (T ++ E).size < 64 - T.size := by rw [ByteArray.size_append]; omega
          first
            | exact ⟨⟨j, y, T ++ E, by first | rfl | rw [Ry], rfl, hy1, hA, hB⟩, hM⟩
            | (go_round
               case rel =>
                 refine ⟨trivial, ?_⟩
                 (repeat apply Exists.intro)
                 exact ⟨⟨j, y, T ++ E, by first | rfl | rw [Ry], rfl, hy1, hA, hB⟩, rfl⟩
               case measure => exact hM)
  · have hna : v = a := by omega
    have HG := Lib.hid (show g = [] from by rw [← hg, if_neg l])
    clear hq64 hlen hq hg ha
    subst hna
    go_enter Tryd.func13, Tryd.ntmps13
    go_wp2_with fail
    refine (HR.out _).mono ?_; rintro e w1 ⟨rfl, hb1⟩; obtain ⟨hc1, hf1⟩ := bcell hb1
    go_wp2_with fail
    refine (HD.out _).mono ?_; rintro e w' ⟨rfl, rfl⟩
    have HB := Lib.hid (below_box hb1)
    clear hc1 hf1 hb1
    by_cases hp0 : p = 0
    · subst hp0
      have HE := Lib.hid (show ev = [] from by rw [← hev]; simp)
      go_wp2
      go_ret
      refine ⟨ret_str ?_, HB.out⟩
      rw [HP.out, HG.out, HE.out, ← HDe.out, str0, str_append]
      simp
    · have HE := Lib.hid (show ev = 46 :: frF 6 p from by rw [← hev, if_neg hp0])
      have hD' := Lib.hid (show ByteArray.mk #[] ++ D ++ ByteArray.mk #[46] = str (g ++ (digs q ++ [46])) from by
        rw [← HDe.out, str0, str46, str_append, str_append, HG.out, List.append_assoc])
      have hpz : ((p : Int) == 0) = false := by rw [beq_eq_false_iff_ne]; omega
      go_wp2_with fail
      simp only [R, hpz]
      go_loop [5, 6] (fun s u => ∃ (k x : Nat) (T : ByteArray), u = .int .i64 x ∧ s = .string T ∧ x < 1000000 ∧ T.size + k ≤ 40 ∧ Hid (k ≤ 6 ∧ x % 10 ^ (6 - k) = 0 ∧ ∃ F : List Nat, T = str F ∧ printS (some v) = F ++ frF k x)) (fun s _ => 64 - szV s)
      case atStart =>
        refine ⟨6, p, _, rfl, rfl, hp1, ?_, by decide, by rw [Nat.sub_self]; exact Nat.mod_one _, _, hD'.out, ?_⟩
        · rw [hD'.out, str_size]
          have e : (digs q).length = D.size := by rw [← HDe.out, str_size]
          rw [HG.out]; simp; omega
        · rw [HP.out, HE.out]; simp
      case round =>
        obtain ⟨k, x, T, rfl, rfl, hx, hT, HI⟩ := hrel
        by_cases hx0 : x = 0
        · subst hx0
          go_wp2
          go_ret
          refine ⟨ret_str ?_, HB.out⟩
          obtain ⟨-, -, F, hF, hpr⟩ := HI.out
          rw [hF, hpr, frF_zero, List.append_nil]
        · obtain ⟨r, hr⟩ : ∃ r, x / 100000 = r := ⟨_, rfl⟩
          have hr10 : r < 10 := by omega
          have Rr : (x : Int) / 100000 = (r : Int) := by omega
          obtain ⟨y, hy⟩ : ∃ y, x % 100000 * 10 = y := ⟨_, rfl⟩
          have Ry : (x : Int) % 100000 * 10 = (y : Int) := by omega
          have hy1 : y < 1000000 := by omega
          obtain ⟨E, hE⟩ : ∃ E, str (digs r) = E := ⟨_, rfl⟩
          have hd := digits_c r (by omega)
          rw [hE] at hd
          have HX := Lib.hid hd
          have hEs : E.size = 1 := by rw [← hE, digs_small hr10]; rfl
          have HE' := Lib.hid (show E = str [48 + r] from by rw [← hE, digs_small hr10])
          have HN := Lib.hid (show ∃ j, k = j + 1 ∧ j ≤ 5 ∧ y % 10 ^ (6 - j) = 0 ∧ frF k x = (48 + r) :: frF j y from by
            obtain ⟨hk6, hmod, -⟩ := HI.out
            cases k with
            | zero => exact absurd (fr_end hmod hx) hx0
            | succ j =>
              refine ⟨j, rfl, by omega, ?_, by rw [frF_step hx0, hr, hy]⟩
              rw [← hy, show 6 - j = 6 - (j + 1) + 1 from by omega]
              exact fr_div hmod (by omega))
          clear hr hy hd hE hr10
          go_wp2_with fail
          refine (HX.out _).mono ?_; rintro e w' ⟨rfl, rfl⟩
          go_wp2
          obtain ⟨j, hkj, hj5, hmod, hfr⟩ := HN.out
          obtain ⟨-, -, F, hF, hpr⟩ := HI.out
          have hA : (T ++ E).size + j ≤ 40 := by rw [ByteArray.size_append]; omega
          have hB := Lib.hid (show j ≤ 6 ∧ y % 10 ^ (6 - j) = 0 ∧ ∃ F : List Nat, T ++ E = str F ∧ printS (some v) = F ++ frF j y from
            ⟨by omega, hmod, F ++ [48 + r], by rw [hF, HE'.out, str_append], by rw [hpr, hfr]; simp⟩)
          have hM : 64 - (T ++ E).size < 64 - T.size := by rw [ByteArray.size_append]; omega
          first
            | exact ⟨⟨j, y, T ++ E, by first | rfl | rw [Ry], rfl, hy1, hA, hB⟩, hM⟩
            | (go_round
               case rel =>
                 refine ⟨trivial, ?_⟩
                 (repeat apply Exists.intro)
                 exact ⟨⟨j, y, T ++ E, by first | rfl | rw [Ry], rfl, hy1, hA, hB⟩, rfl⟩
               case measure => exact hM)
end Go.Proofs.YtnnilllnkklecaaDoor.DR
