/-
  Contracts of the program's own functions of layer 9: member, and the library's CutPrefix in plain words.
-/
import Derived.Test.YtodigfdhhndboaaNdlPE
import Derived.Test.YtodigfdhhndboaaDecMath
import Derived.Test.YtodigfdhhndboaaShelf
import Derived.Laws.Cover1
set_option linter.unusedSimpArgs false
set_option linter.unusedVariables false
namespace Go.Proofs.Ytodigfdhhndboaa.NP
open Go.RowKit
theorem bs_cons {s : ByteArray} (h : 0 < s.size) : ∃ a m, bs s = a :: m ∧ (s[0]'h).toNat = a ∧ m.length + 1 = s.size ∧ a < 256 := by
  have hl := bs_length s
  have h0 := at_byte h
  have h1 := byte_le s 0
  cases hb : bs s with
  | nil => rw [hb] at hl; simp at hl; omega
  | cons a m =>
    rw [hb] at hl h0 h1
    exact ⟨a, m, rfl, h0, hl, by unfold byteAt at h1; simp at h1; omega⟩
theorem bs_from (s : ByteArray) (k : Nat) : bs (s.extract k s.size) = (bs s).drop k := by
  obtain ⟨⟨l⟩⟩ := s
  simp [bs, ByteArray.extract_mk]
  exact List.take_of_length_le (by rw [List.length_drop, List.length_map]; exact Nat.le_refl _)
theorem below_drew (w : World) : Below w.heap.size w w.drew := (Below.refl _ _).drew
set_option maxRecDepth 100000 in
set_option maxHeartbeats 2000000 in
theorem member_c (s : ByteArray) (a : Nat) (m : List Nat) (hb : bs s = a :: m) (hs : s.size ≤ 1000) (w : World) :
    Calls Try.prog 35 #[.string s] w fun e w' => ∃ (lo hi : Nat) (R : ByteArray), e = .returned (.tuple #[.int .u8 (lo : Nat), .int .u8 (hi : Nat), .string R]) ∧ ndMemb a m = (lo, hi, bs R) ∧ Below w.heap.size w w' := by
  have hl := bs_length s
  rw [hb] at hl
  have h0 : 0 < s.size := by simp at hl; omega
  have e0 := at_byte h0
  rw [hb] at e0
  have e0' : (s[0]'h0).toNat = a := e0
  have HF1 := Lib.hid (show bs (s.extract 1 s.size) = m by rw [bs_from, hb]; rfl)
  have HF3 := Lib.hid (show bs (s.extract 3 s.size) = m.drop 2 by rw [bs_from, hb]; rfl)
  by_cases h3 : s.size < 3
  · have HM := Lib.hid (show ndMemb a m = (a, a, m) from if_neg (fun e => by have := e.1; simp at hl; omega))
    clear e0 hb hl
    go_enter Try.func35, Try.ntmps35
    go_wp2
    go_region
    go_wp2
    exact bodyPost_ret (v := .tuple #[.int .u8 (a : Nat), .int .u8 (a : Nat), .string (s.extract 1 s.size)]) (by simp [results, Try.results35, go_sem]) rfl ⟨a, a, _, rfl, by rw [HF1.out]; exact HM.out, below_drew w⟩
  · have h1 : 1 < s.size := by omega
    have h2 : 2 < s.size := by omega
    have h3' : 3 ≤ s.size := by omega
    have e1 := at_byte h1
    have e2 := at_byte h2
    rw [hb] at e1 e2
    have e1' : (s[1]'h1).toNat = m.getD 0 0 := e1
    have e2' : (s[2]'h2).toNat = m.getD 1 0 := e2
    have hml : 2 ≤ m.length := by simp at hl; omega
    obtain ⟨x, hx⟩ : ∃ x, m.getD 0 0 = x := ⟨_, rfl⟩
    obtain ⟨y, hy⟩ : ∃ y, m.getD 1 0 = y := ⟨_, rfl⟩
    rw [hx] at e1'; rw [hy] at e2'
    by_cases hc : x = 45 ∧ y ≠ 93
    · obtain ⟨rfl, hy2⟩ := hc
      have HM := Lib.hid (show ndMemb a m = (a, y, m.drop 2) from hy ▸ if_pos ⟨hml, hx, by rw [hy]; exact hy2⟩)
      have hy3 : ¬ (y : Int) = 93 := by omega
      clear e0 e1 e2 hb hl hx hy hml
      go_enter Try.func35, Try.ntmps35
      go_wp2
      go_region
      go_wp2
      exact bodyPost_ret (v := .tuple #[.int .u8 (a : Nat), .int .u8 (y : Nat), .string (s.extract 3 s.size)]) (by simp [results, Try.results35, go_sem]) rfl ⟨a, y, _, rfl, by rw [HF3.out]; exact HM.out, below_drew w⟩
    · have HM := Lib.hid (show ndMemb a m = (a, a, m) from if_neg (fun e => hc ⟨by rw [← hx]; exact e.2.1, by rw [← hy]; exact e.2.2⟩))
      by_cases hx2 : x = 45
      · obtain rfl : y = 93 := by
          rcases Nat.decEq y 93 with h | h
          · exact absurd ⟨hx2, h⟩ hc
          · exact h
        subst hx2
        clear e0 e1 e2 hb hl hx hy hml hc
        go_enter Try.func35, Try.ntmps35
        go_wp2
        go_region
        go_wp2
        exact bodyPost_ret (v := .tuple #[.int .u8 (a : Nat), .int .u8 (a : Nat), .string (s.extract 1 s.size)]) (by simp [results, Try.results35, go_sem]) rfl ⟨a, a, _, rfl, by rw [HF1.out]; exact HM.out, below_drew w⟩
      · have hx3 : ¬ (x : Int) = 45 := by omega
        clear e0 e1 e2 hb hl hx hy hml hc
        go_enter Try.func35, Try.ntmps35
        go_wp2
        go_region
        go_wp2
        exact bodyPost_ret (v := .tuple #[.int .u8 (a : Nat), .int .u8 (a : Nat), .string (s.extract 1 s.size)]) (by simp [results, Try.results35, go_sem]) rfl ⟨a, a, _, rfl, by rw [HF1.out]; exact HM.out, below_drew w⟩
/-- CutPrefix of one byte. -/
theorem trim_one (c : UInt8) (l : List UInt8) : (Lib.trimPrefix l [c]).map (·.toNat) = cutB c.toNat (l.map (·.toNat)) ∧ Lib.hasPrefix l [c] = ((l.map (·.toNat)).getD 0 0 == c.toNat && decide (l ≠ [])) := by
  cases l with
  | nil => exact ⟨by simp [Lib.trimPrefix, Lib.hasPrefix, cutB], by simp [Lib.hasPrefix]⟩
  | cons x l =>
    by_cases h : x = c
    · subst h
      simp [Lib.trimPrefix, Lib.hasPrefix, cutB]
    · have hn : ¬ x.toNat = c.toNat := fun e => h (UInt8.toNat_inj.1 e)
      have hn2 : ¬ c = x := fun e => h e.symm
      have h5 : (c == x) = false := beq_false_of_ne hn2
      have h6 : (x.toNat == c.toNat) = false := beq_false_of_ne hn
      simp [Lib.trimPrefix, Lib.hasPrefix, cutB, List.isPrefixOf, h5, h6, hn]
theorem cutp_c (s p : ByteArray) (c : UInt8) (hp : p = ⟨#[c]⟩) (hc : c.toNat ≠ 0) (w : World) :
    Calls Try.prog 22 #[.string s, .string p] w fun e w' => ∃ R : ByteArray, e = .returned (.tuple #[.string R, .bool ((bs s).getD 0 0 == c.toNat)]) ∧ bs R = cutB c.toNat (bs s) ∧ w' = w := by
  subst hp
  refine (Try.strings_CutPrefix s ⟨#[c]⟩ w).mono ?_
  rintro e w' ⟨rfl, rfl⟩
  obtain ⟨h1, h2⟩ := trim_one c s.data.toList
  refine ⟨⟨(Lib.trimPrefix s.data.toList (⟨#[c]⟩ : ByteArray).data.toList).toArray⟩, ?_, ?_, rfl⟩
  · rw [show (⟨#[c]⟩ : ByteArray).data.toList = [c] from rfl, h2]
    have e : ((bs s).getD 0 0 == c.toNat) = ((s.data.toList.map (·.toNat)).getD 0 0 == c.toNat && decide (s.data.toList ≠ [])) := by
      show ((s.data.toList.map (·.toNat)).getD 0 0 == c.toNat) = _
      cases s.data.toList with
      | nil => simp [hc.symm]
      | cons x l => simp
    rw [e]
  · rw [show (⟨#[c]⟩ : ByteArray).data.toList = [c] from rfl]
    show ((Lib.trimPrefix s.data.toList [c]).toArray.toList).map (·.toNat) = _
    rw [List.toList_toArray]
    exact h1
end Go.Proofs.Ytodigfdhhndboaa.NP
