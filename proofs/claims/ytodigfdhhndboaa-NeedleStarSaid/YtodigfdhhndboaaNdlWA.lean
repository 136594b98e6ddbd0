/-
  The statements of layer 9, walked: the fixed fact, what is too long, what is plain, what is within a text.
-/
import Derived.Test.YtodigfdhhndboaaNdlPM
import Derived.Laws.Cover1
set_option linter.unusedSimpArgs false
set_option linter.unusedVariables false
namespace Go.Proofs.Ytodigfdhhndboaa.NW
open Go Go.RowKit
theorem great_c (s : ByteArray) (w : World) : Calls Try.prog 15 #[.string s] w fun e w' => e = .returned (.bool (decide ((500 : Int) < (s.size : Int)))) ∧ w = w' := by
  go_enter Try.func15, Try.ntmps15
  go_wp2
  go_ret
  exact ⟨rfl, rfl⟩
theorem m1 : ndMatch [94, 97, 46, 42, 98, 36] [97, 120, 120, 98] = (true, 0) := by decide +kernel
theorem m2 : ndMatch [94, 97, 46, 42, 98, 36] [97, 120, 120, 98, 99] = (false, 0) := by decide +kernel
theorem m3 : ndMatch [97, 42, 42] [97] = (false, 10) := by decide +kernel
set_option maxRecDepth 100000 in
set_option maxHeartbeats 2000000 in
theorem alive_c (w : World) : Calls Try.prog 9 #[] w fun e w' => e = .returned (.bool true) ∧ Below w.heap.size w w' := by
  have M1 := Lib.hid (fun (W : World) => by
    have h := NP.match_c ⟨#[94, 97, 46, 42, 98, 36]⟩ ⟨#[97, 120, 120, 98]⟩ (by decide) (by decide) W
    rw [show ndMatch (bs ⟨#[94, 97, 46, 42, 98, 36]⟩) (bs ⟨#[97, 120, 120, 98]⟩) = (true, 0) from m1] at h
    exact h)
  have M2 := Lib.hid (fun (W : World) => by
    have h := NP.match_c ⟨#[94, 97, 46, 42, 98, 36]⟩ ⟨#[97, 120, 120, 98, 99]⟩ (by decide) (by decide) W
    rw [show ndMatch (bs ⟨#[94, 97, 46, 42, 98, 36]⟩) (bs ⟨#[97, 120, 120, 98, 99]⟩) = (false, 0) from m2] at h
    exact h)
  have M3 := Lib.hid (fun (W : World) => by
    have h := NP.match_c ⟨#[97, 42, 42]⟩ ⟨#[97]⟩ (by decide) (by decide) W
    rw [show ndMatch (bs ⟨#[97, 42, 42]⟩) (bs ⟨#[97]⟩) = (false, 10) from m3] at h
    exact h)
  go_enter Try.func9, Try.ntmps9
  go_wp2_with fail
  refine (M1.out _).mono ?_; rintro _ w1 ⟨rfl, hb1⟩
  have B1 := Lib.hid hb1
  clear hb1
  go_wp2_with fail
  refine (M2.out _).mono ?_; rintro _ w2 ⟨rfl, hb2⟩
  have B2 := Lib.hid (bnext B1.out hb2)
  clear hb2
  go_wp2_with fail
  refine (M3.out _).mono ?_; rintro _ w3 ⟨rfl, hb3⟩
  have B3 := Lib.hid (bnext B2.out hb3)
  clear hb3
  go_wp2
  go_ret
  exact ⟨rfl, B3.out⟩
/-- A letter, a digit, _ or -. -/
def plB (c : Nat) : Bool := (decide (97 ≤ c) && decide (c ≤ 122)) || (decide (65 ≤ c) && decide (c ≤ 90)) || (decide (48 ≤ c) && decide (c ≤ 57)) || decide (c = 95) || decide (c = 45)
theorem plB_plain {c : Nat} (h : plB c = true) : ndPlain c := by
  unfold plB at h
  simp only [Bool.or_eq_true, Bool.and_eq_true, decide_eq_true_eq] at h
  unfold ndPlain
  omega
theorem plB_no {c : Nat} (h : plB c = false) : (c < 97 ∨ 122 < c) ∧ (c < 65 ∨ 90 < c) ∧ (c < 48 ∨ 57 < c) ∧ c ≠ 95 ∧ c ≠ 45 := by
  unfold plB at h
  simp only [Bool.or_eq_false_iff, Bool.and_eq_false_iff, decide_eq_false_iff_not] at h
  omega
theorem plB_yes {c : Nat} (h : plB c = true) : (97 ≤ c ∧ c ≤ 122) ∨ (65 ≤ c ∧ c ≤ 90) ∨ (48 ≤ c ∧ c ≤ 57) ∨ c = 95 ∨ c = 45 := by
  unfold plB at h
  simp only [Bool.or_eq_true, Bool.and_eq_true, decide_eq_true_eq] at h
  omega
set_option maxRecDepth 100000 in
set_option maxHeartbeats 4000000 in
theorem plain_c (s : ByteArray) (hs : s.size ≤ 9223372036854775807) (w : World) : Calls Try.prog 20 #[.string s] w fun e w' => e = .returned (.bool ((bs s).all plB)) ∧ w = w' := by
  obtain ⟨d, hd⟩ : ∃ d, (bs s).all plB = d := ⟨_, rfl⟩
  rw [hd]
  have HD := Lib.hid hd
  clear hd
  go_enter Try.func20, Try.ntmps20
  go_wp2
  go_loop [3] (fun kv => ∃ k : Nat, kv = .int .i64 (k : Nat) ∧ k ≤ s.size ∧ Hid (∀ j, j < k → plB ((bs s).getD j 0) = true)) (fun kv => s.size - (intOf kv).toNat)
  case atStart => exact ⟨0, rfl, Nat.zero_le _, fun j hj => absurd hj (Nat.not_lt_zero j)⟩
  case round =>
    obtain ⟨k, rfl, hk, HN⟩ := hrel
    by_cases hlt : k < s.size
    · obtain ⟨c, hcb, x0, hc⟩ := NP.bs_get hlt
      cases hp : plB c with
      | true =>
        have HP := Lib.hid (show ∀ j, j < k + 1 → plB ((bs s).getD j 0) = true from fun j hj => by
          by_cases e : j = k
          · rw [e, hcb]; exact hp
          · exact HN.out j (by omega))
        have hy := plB_yes hp
        clear hcb hp
        rcases hy with ⟨h1, h2⟩ | ⟨h1, h2⟩ | ⟨h1, h2⟩ | rfl | rfl
        all_goals
          go_wp2
          go_round
          case rel => exact ⟨k + 1, by go_num, by omega, HP⟩
          case measure => simp [intOf]; omega
      | false =>
        have HDF := Lib.hid (show d = false from by
          rw [← HD.out, Bool.eq_false_iff]
          intro h
          rw [List.all_eq_true] at h
          have h2 := h c (by rw [← hcb, List.getD_eq_getElem?_getD, List.getElem?_eq_getElem (by rw [bs_length]; exact hlt)]; exact List.getElem_mem _)
          rw [hp] at h2
          cases h2)
        have hn := plB_no hp
        clear hcb hp
        have h6 : (c ≤ 44) ∨ (46 ≤ c ∧ c ≤ 47) ∨ (58 ≤ c ∧ c ≤ 64) ∨ (91 ≤ c ∧ c ≤ 94) ∨ c = 96 ∨ 123 ≤ c := by omega
        clear hn
        rcases h6 with h1 | ⟨h1, h2⟩ | ⟨h1, h2⟩ | ⟨h1, h2⟩ | rfl | h1
        all_goals go_wp2
        all_goals first
          | (go_ret; exact ⟨by rw [HDF.out]; rfl, rfl⟩)
          | (rename_i hq; exfalso; revert hq; simp only [Bool.not_eq_false', beq_iff_eq, decide_eq_true_eq]; omega)
    · obtain rfl : k = s.size := by omega
      have HDT := Lib.hid (show d = true from by
        rw [← HD.out, List.all_eq_true]
        intro x hx
        obtain ⟨j, hj⟩ := List.getElem?_of_mem hx
        have h2 := HN.out j (by have := (List.getElem?_eq_some_iff.1 hj).1; rw [bs_length] at this; exact this)
        rw [List.getD_eq_getElem?_getD, hj] at h2
        exact h2)
      go_wp2
      go_ret
      exact ⟨by rw [HDT.out]; rfl, rfl⟩
theorem seg_extract (s : ByteArray) (k n : Nat) : bs (s.extract k (k + n)) = seg (bs s) k (k + n) := by
  unfold seg
  obtain ⟨⟨l⟩⟩ := s
  simp [bs, ByteArray.extract_mk, List.extract_eq_take_drop]
theorem toList_eq (s t : ByteArray) : (s.toList == t.toList) = decide (bs s = bs t) := by
  have e : (bs s = bs t) ↔ s = t := ⟨fun h => by rw [← str_bs s, ← str_bs t, h], fun h => by rw [h]⟩
  rw [Bool.eq_iff_iff, beq_iff_eq, decide_eq_true_eq, e, ByteArray.toList_eq, ByteArray.toList_eq]
  exact ⟨fun h => by obtain ⟨⟨l⟩⟩ := s; obtain ⟨⟨m⟩⟩ := t; simp at h; rw [h], fun h => by rw [h]⟩
open Classical in
/-- Whether a text has another one. -/
noncomputable def wiB (t s : List Nat) : Bool := decide (∃ j, j + s.length ≤ t.length ∧ seg t j (j + s.length) = s)
open Classical in
theorem wiB_iff (t s : List Nat) : wiB t s = true ↔ ∃ j, j + s.length ≤ t.length ∧ seg t j (j + s.length) = s := by
  unfold wiB
  exact decide_eq_true_iff
end Go.Proofs.Ytodigfdhhndboaa.NW
