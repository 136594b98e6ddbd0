/-
  Contracts of the program's functions of layer 11: what a line says: a section's name; a key and a value.
-/
import Derived.Test.YtgdjmbekamdlgaaDoorCfgTr
import Derived.Test.YtgdjmbekamdlgaaDoorCfgRE
set_option linter.unusedSimpArgs false
set_option linter.unusedVariables false
namespace Go.Proofs.YtgdjmbekamdlgaaDoor
theorem cutC_split {a b : List Nat} (h : 61 ∉ a) : cutC (a ++ 61 :: b) = ((blB a, blB b), keyedV (blB a)) := by
  have hl : a.length < (a ++ 61 :: b).length := by simp
  have h1 : byteAt (a ++ 61 :: b) a.length = 61 := by unfold byteAt; simp
  have h2 : ∀ j, j < a.length → byteAt (a ++ 61 :: b) j ≠ 61 := fun j hj e => by
    unfold byteAt at e
    rw [List.getD_eq_getElem?_getD, List.getElem?_append_left hj, List.getElem?_eq_getElem hj] at e
    exact h (by rw [← show a[j] = 61 from e]; exact List.getElem_mem hj)
  have e := KR.cutC_at hl h1 h2
  rw [e]
  have e1 : (a ++ 61 :: b).take a.length = a := by simp
  have e2 : (a ++ 61 :: b).drop (a.length + 1) = b := by
    rw [show a ++ 61 :: b = (a ++ [61]) ++ b from by simp, show a.length + 1 = (a ++ [61]).length from by simp, List.drop_left']
    rfl
  rw [e1, e2]
theorem cutC_none {l : List Nat} (h : 61 ∉ l) : cutC l = (([], []), false) := KR.cutC_no fun j hj e => h (by
  unfold byteAt at e
  rw [List.getD_eq_getElem?_getD, List.getElem?_eq_getElem hj] at e
  rw [← show l[j] = 61 from e]; exact List.getElem_mem hj)
namespace KP
open Go.RowKit KR
set_option maxRecDepth 100000 in
set_option maxHeartbeats 1000000 in
theorem cut_no (s : ByteArray) (h : Lib.indexByte s.data.toList 61 = -1) (w : World) : Calls Tryd.prog 48 #[.string s, .string ⟨#[61]⟩] w fun e w' => e = .returned (.tuple #[.string s, .string ⟨#[]⟩, .bool false]) ∧ Below w.heap.size w w' := by
  have IX := Lib.hid (index61_c s w)
  rw [h] at IX
  have LC : Calls Tryd.prog 63 #[.string s, .string ⟨#[61]⟩] w fun e w' => e = .returned (.tuple #[.string s, .string ⟨#[]⟩, .bool false]) ∧ Below w.heap.size w w' := by
    go_enter Tryd.func63, Tryd.ntmps63
    go_wp2_with fail
    refine IX.out.mono ?_; rintro _ w1 ⟨rfl, rfl⟩
    go_wp2
    go_ret3
    exact ⟨rfl, Below.refl _ _⟩
  have HL := Lib.hid LC
  clear LC
  go_enter Tryd.func48, Tryd.ntmps48
  go_wp2_with fail
  refine HL.out.mono ?_; rintro _ w1 ⟨rfl, hb1⟩
  go_wp2
  go_ret3
  exact ⟨rfl, hb1⟩
set_option maxRecDepth 100000 in
set_option maxHeartbeats 1000000 in
theorem cut_yes (s : ByteArray) (hs : s.size ≤ 100000) (o : Nat) (h : Lib.indexByte s.data.toList 61 = (o : Int)) (ho : o < s.size) (w : World) : Calls Tryd.prog 48 #[.string s, .string ⟨#[61]⟩] w fun e w' => e = .returned (.tuple #[.string (str ((bs s).take o)), .string (str ((bs s).drop (o + 1))), .bool true]) ∧ Below w.heap.size w w' := by
  have IX := Lib.hid (index61_c s w)
  rw [h] at IX
  have e1 := str_take s o
  have e2 := str_drop s (o + 1)
  generalize str ((bs s).take o) = S1 at *
  generalize str ((bs s).drop (o + 1)) = S2 at *
  have zq : (o : Int) + 1 = ((o + 1 : Nat) : Int) := by omega
  have zw : IntKind.i64.wrap ((o + 1 : Nat) : Int) = ((o + 1 : Nat) : Int) := by rw [IntKind.wrap_i64]; omega
  have hk1 : o + 1 ≤ s.size := ho
  have hk2 : o ≤ s.size := by omega
  have hk0 : (0 : Int) ≤ (o : Int) := by omega
  clear h
  have LC : Calls Tryd.prog 63 #[.string s, .string ⟨#[61]⟩] w fun e w' => e = .returned (.tuple #[.string S1, .string S2, .bool true]) ∧ Below w.heap.size w w' := by
    generalize o + 1 = q at *
    obtain ⟨SP, hSP⟩ : ∃ SP, (ByteArray.mk #[61]) = SP := ⟨_, rfl⟩
    have hs1 : SP.size = 1 := by rw [← hSP]; rfl
    rw [hSP] at IX ⊢
    clear hSP
    go_enter Tryd.func63, Tryd.ntmps63
    go_wp2_with fail
    refine IX.out.mono ?_; rintro _ w1 ⟨rfl, rfl⟩
    go_wp2_with fail
    go_quiet (fail)
    go_wp2
    go_ret3
    exact ⟨rfl, below_drewN (Below.refl _ _) _⟩
  have HL := Lib.hid LC
  clear LC e1 e2 zq zw hk1 hk2 hk0
  go_enter Tryd.func48, Tryd.ntmps48
  go_wp2_with fail
  refine HL.out.mono ?_; rintro _ w1 ⟨rfl, hb1⟩
  go_wp2
  go_ret3
  exact ⟨rfl, hb1⟩
/-! ### A section's name -/
set_option maxRecDepth 100000 in
set_option maxHeartbeats 1000000 in
theorem section_c (s : ByteArray) (hs : s.size ≤ 100000) (w : World) : Calls Tryd.prog 25 #[.string s] w fun e w' => ∃ NM, e = .returned (.tuple #[.string NM, .bool (headV (bs s)).isSome]) ∧ (∀ n, headV (bs s) = some n → NM = str n) ∧ w = w' := by
  have CP := Lib.hid (cutPrefix_c s w)
  rcases open_text s with ⟨h1, r, hr, e1⟩ | ⟨h1, hno, e1⟩
  · rw [h1, e1] at CP
    have hrb : Byt r := fun c hc => bs_small s c (by rw [hr]; exact List.mem_cons_of_mem _ hc)
    have hrs : (str r).size ≤ 100000 := by
      rw [str_size]
      have := bs_length s
      rw [hr, List.length_cons] at this; omega
    obtain ⟨R, hR⟩ : ∃ R, str r = R := ⟨_, rfl⟩
    have hRb : bs R = r := by rw [← hR]; exact bs_str hrb
    rw [hR] at CP hrs
    have CS := Lib.hid (cutSuffix_c R (by omega) w)
    rcases shut_text R with ⟨h2, n, hn, e2⟩ | ⟨h2, hno, e2⟩
    · rw [h2, e2] at CS
      have hh : headV (bs s) = if namedV n = true then some n else none := by rw [hr]; exact head_open (by rw [← hRb]; exact hn)
      have hnb : Byt n := fun c hc => bs_small R c (by rw [hn]; exact List.mem_append_left _ hc)
      have NC := Lib.hid (isName_c (str n) (by
        rw [str_size]
        have := bs_length R
        rw [hn, List.length_append] at this; omega) w)
      rw [bs_str hnb] at NC
      cases hnm : namedV n with
      | true =>
        rw [hnm, if_pos rfl] at hh
        rw [hnm] at NC
        rw [hh]
        obtain ⟨NM, hNM⟩ : ∃ NM, str n = NM := ⟨_, rfl⟩
        rw [hNM] at CS NC
        have HNM := Lib.hid hNM
        clear hh hr h1 e1 hrb hR hRb h2 hn e2 hnb hnm hNM
        go_enter Tryd.func25, Tryd.ntmps25
        go_wp2_with (first
          | (go_at_call 43; refine CP.out.mono ?_; rintro _ w1 ⟨rfl, rfl⟩)
          | (go_at_call 44; refine CS.out.mono ?_; rintro _ w1 ⟨rfl, rfl⟩)
          | (go_at_call 45; refine NC.out.mono ?_; rintro _ w1 ⟨rfl, rfl⟩))
        go_ret2
        exact ⟨NM, rfl, fun m hm => by rw [← HNM.out, Option.some.inj hm], rfl⟩
      | false =>
        rw [hnm, if_neg (by decide)] at hh
        rw [hnm] at NC
        rw [hh]
        obtain ⟨NM, hNM⟩ : ∃ NM, str n = NM := ⟨_, rfl⟩
        rw [hNM] at CS NC
        clear hh hr h1 e1 hrb hR hRb h2 hn e2 hnb hnm hNM
        go_enter Tryd.func25, Tryd.ntmps25
        go_wp2_with (first
          | (go_at_call 43; refine CP.out.mono ?_; rintro _ w1 ⟨rfl, rfl⟩)
          | (go_at_call 44; refine CS.out.mono ?_; rintro _ w1 ⟨rfl, rfl⟩)
          | (go_at_call 45; refine NC.out.mono ?_; rintro _ w1 ⟨rfl, rfl⟩))
        go_ret2
        exact ⟨NM, rfl, fun m hm => (by cases hm), rfl⟩
    · rw [h2, e2] at CS
      have hh : headV (bs s) = none := by rw [hr]; exact head_shut (by rw [← hRb]; exact hno)
      rw [hh]
      clear hh hr h1 e1 hrb hR hRb h2 hno e2
      go_enter Tryd.func25, Tryd.ntmps25
      go_wp2_with (first
        | (go_at_call 43; refine CP.out.mono ?_; rintro _ w1 ⟨rfl, rfl⟩)
        | (go_at_call 44; refine CS.out.mono ?_; rintro _ w1 ⟨rfl, rfl⟩))
      go_ret2
      exact ⟨_, rfl, fun m hm => (by cases hm), rfl⟩
  · rw [h1, e1] at CP
    rw [hno]
    have CS := Lib.hid (cutSuffix_c s (by omega) w)
    generalize (ByteArray.mk (Lib.trimSuffix s.data.toList [93]).toArray) = NM at *
    generalize Lib.hasSuffix s.data.toList [93] = sh at *
    clear h1 hno e1
    cases sh
    all_goals
      go_enter Tryd.func25, Tryd.ntmps25
      go_wp2_with (first
        | (go_at_call 43; refine CP.out.mono ?_; rintro _ w1 ⟨rfl, rfl⟩)
        | (go_at_call 44; refine CS.out.mono ?_; rintro _ w1 ⟨rfl, rfl⟩))
      go_ret2
      exact ⟨_, rfl, fun m hm => (by cases hm), rfl⟩
end KP
end Go.Proofs.YtgdjmbekamdlgaaDoor
