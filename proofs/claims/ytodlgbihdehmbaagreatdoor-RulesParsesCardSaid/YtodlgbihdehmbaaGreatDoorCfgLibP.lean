/-
  What the library's own words say of texts in the plain words of layer 11; contracts of strings' functions at the separators that the program names.
-/
import Derived.Test.YtodlgbihdehmbaaGreatDoorCfgStepP
import Derived.Test.YtodlgbihdehmbaaGreatDoorCfgRBP
import Derived.Test.YtodlgbihdehmbaaGreatDoorShelfP
import Derived.Lib.IndexBytes
import Derived.Lib.IndexLaws
import Derived.Lib.IndexMore
set_option linter.unusedSimpArgs false
set_option linter.unusedVariables false
namespace Go.Proofs.YtodlgbihdehmbaaGreatDoor.Cf
theorem bs_at (s : ByteArray) (k : Nat) : (bs s)[k]? = (s.data.toList[k]?).map (·.toNat) := by unfold bs; rw [List.getElem?_map]
theorem index_part (s : ByteArray) (c : UInt8) : (Lib.indexByte s.data.toList c = -1 ∧ c.toNat ∉ bs s) ∨
    (∃ o : Nat, Lib.indexByte s.data.toList c = (o : Int) ∧ o < s.size ∧ bs s = (bs s).take o ++ c.toNat :: (bs s).drop (o + 1) ∧ c.toNat ∉ (bs s).take o) := by
  have hge := Lib.indexByte_ge s.data.toList c
  by_cases h : Lib.indexByte s.data.toList c = -1
  · refine .inl ⟨h, fun hm => ?_⟩
    obtain ⟨k, hk⟩ := List.getElem?_of_mem hm
    rw [bs_at] at hk
    obtain ⟨b, hb, he⟩ := Option.map_eq_some_iff.1 hk
    exact Lib.indexByte_none h k (by rw [hb]; exact congrArg some (UInt8.toNat_inj.1 he))
  · right
    obtain ⟨o, ho⟩ : ∃ o : Nat, Lib.indexByte s.data.toList c = (o : Int) := ⟨(Lib.indexByte s.data.toList c).toNat, by omega⟩
    obtain ⟨h1, h2⟩ := Lib.indexByte_some ho
    have hlt : o < s.data.toList.length := (List.getElem?_eq_some_iff.1 h1).1
    have hlt2 : o < (bs s).length := by unfold bs; rw [List.length_map]; exact hlt
    have ha : (bs s)[o]? = some c.toNat := by rw [bs_at, h1]; rfl
    refine ⟨o, ho, by rw [← bs_length]; exact hlt2, ?_, fun hm => ?_⟩
    · have e := List.getElem?_eq_getElem hlt2
      rw [ha] at e
      conv => lhs; rw [← List.take_append_drop o (bs s), List.drop_eq_getElem_cons hlt2, ← Option.some.inj e]
    · obtain ⟨k, hk⟩ := List.getElem?_of_mem hm
      rw [List.getElem?_take] at hk
      split at hk
      · rename_i hko
        rw [bs_at] at hk
        obtain ⟨b, hb, he⟩ := Option.map_eq_some_iff.1 hk
        exact h2 k hko (by rw [hb]; exact congrArg some (UInt8.toNat_inj.1 he))
      · cases hk
theorem mk_strU (l : List UInt8) : (⟨l.toArray⟩ : ByteArray) = str (l.map (·.toNat)) := by
  have h := str_bs (⟨l.toArray⟩ : ByteArray)
  have e : bs (⟨l.toArray⟩ : ByteArray) = l.map (·.toNat) := by simp [bs]
  rw [e] at h; exact h.symm

theorem suffix_one (m : List UInt8) (c d : UInt8) : Lib.hasSuffix (m ++ [c]) [d] = (d == c) := by
  unfold Lib.hasSuffix List.isSuffixOf
  rw [List.reverse_append]
  simp [List.isPrefixOf]
theorem suffix_nil (d : UInt8) : Lib.hasSuffix [] [d] = false := rfl
theorem crV_text (s : ByteArray) : (⟨(Lib.trimSuffix s.data.toList [13]).toArray⟩ : ByteArray) = str (crV (bs s)) := by
  rw [mk_strU]
  congr 1
  unfold Lib.trimSuffix
  have hb : bs s = s.data.toList.map (·.toNat) := rfl
  rw [hb]
  rcases List.eq_nil_or_concat s.data.toList with h | ⟨m, c, h⟩
  · rw [h, suffix_nil]; rfl
  · rw [h, List.concat_eq_append, suffix_one]
    have hl : lastB (List.map (·.toNat) (m ++ [c])) = c.toNat := by rw [List.map_append]; exact lastB_snoc _ _
    unfold crV
    rw [hl]
    by_cases hc : c = 13
    · subst hc
      rw [if_pos (by rfl), if_pos ⟨by simp, rfl⟩]
      simp
    · have hn : ¬ c.toNat = 13 := fun e => hc (UInt8.toNat_inj.1 (by rw [e]; rfl))
      have hd : ((13 : UInt8) == c) = false := by rw [beq_eq_false_iff_ne]; exact fun e => hc e.symm
      rw [hd, if_neg (by decide), if_neg (fun h => hn h.2)]
/-- Whether a line opens as a section does, and what stands behind. -/
theorem open_text (s : ByteArray) : (Lib.hasPrefix s.data.toList [91] = true ∧ ∃ r, bs s = 91 :: r ∧ (⟨(Lib.trimPrefix s.data.toList [91]).toArray⟩ : ByteArray) = str r) ∨
    (Lib.hasPrefix s.data.toList [91] = false ∧ headV (bs s) = none ∧ (⟨(Lib.trimPrefix s.data.toList [91]).toArray⟩ : ByteArray) = s) := by
  have hb : bs s = s.data.toList.map (·.toNat) := rfl
  unfold Lib.trimPrefix
  cases h : s.data.toList with
  | nil =>
    refine .inr ⟨rfl, ?_, ?_⟩
    · rw [hb, h]; rfl
    · have e : s = ⟨s.data.toList.toArray⟩ := by simp
      conv => rhs; rw [e, h]
      rfl
  | cons c l =>
    by_cases hc : c = 91
    · subst hc
      refine .inl ⟨by simp [Lib.hasPrefix, List.isPrefixOf], l.map (·.toNat), by rw [hb, h]; rfl, ?_⟩
      rw [if_pos (by simp [Lib.hasPrefix, List.isPrefixOf]), mk_strU]; rfl
    · have hp : Lib.hasPrefix (c :: l) [91] = false := by
        have : ((91 : UInt8) == c) = false := by rw [beq_eq_false_iff_ne]; exact fun e => hc e.symm
        simp [Lib.hasPrefix, List.isPrefixOf, this]
      refine .inr ⟨hp, ?_, ?_⟩
      · refine head_no fun hh => ?_
        rw [hb, h] at hh
        exact hc (UInt8.toNat_inj.1 (show c.toNat = 91 from hh.2.1))
      · rw [hp, if_neg (by decide), ← h]
theorem shut_text (s : ByteArray) : (Lib.hasSuffix s.data.toList [93] = true ∧ ∃ n, bs s = n ++ [93] ∧ (⟨(Lib.trimSuffix s.data.toList [93]).toArray⟩ : ByteArray) = str n) ∨
    (Lib.hasSuffix s.data.toList [93] = false ∧ (bs s = [] ∨ lastB (bs s) ≠ 93) ∧ (⟨(Lib.trimSuffix s.data.toList [93]).toArray⟩ : ByteArray) = s) := by
  have hb : bs s = s.data.toList.map (·.toNat) := rfl
  unfold Lib.trimSuffix
  rcases List.eq_nil_or_concat s.data.toList with h | ⟨m, c, h⟩
  · refine .inr ⟨by rw [h]; rfl, .inl (by rw [hb, h]; rfl), ?_⟩
    rw [h, suffix_nil, if_neg (by decide), ← h]
  · rw [List.concat_eq_append] at h
    have hl : lastB (bs s) = c.toNat := by rw [hb, h, List.map_append]; exact lastB_snoc _ _
    by_cases hc : c = 93
    · subst hc
      refine .inl ⟨by rw [h, suffix_one]; rfl, m.map (·.toNat), by rw [hb, h, List.map_append]; rfl, ?_⟩
      rw [h, suffix_one, if_pos (by rfl), mk_strU]
      simp
    · have hd : ((93 : UInt8) == c) = false := by rw [beq_eq_false_iff_ne]; exact fun e => hc e.symm
      refine .inr ⟨by rw [h, suffix_one]; exact hd, .inr (fun e => hc (UInt8.toNat_inj.1 (hl.symm.trans e))), ?_⟩
      rw [h, suffix_one, hd, if_neg (by decide), ← h]
theorem head_open {r n : List Nat} (h : r = n ++ [93]) : headV (91 :: r) = if namedV n = true then some n else none := by
  subst h
  have e1 : (List.drop 1 (91 :: (n ++ [93]))).dropLast = n := by simp
  have e2 : lastB (91 :: (n ++ [93])) = 93 := lastB_snoc (91 :: n) 93
  unfold headV
  rw [e1, e2]
  by_cases hn : namedV n = true
  · rw [if_pos ⟨by simp, rfl, rfl, hn⟩, if_pos hn]
  · rw [if_neg (fun h => hn h.2.2.2), if_neg hn]
theorem head_shut {r : List Nat} (h : r = [] ∨ lastB r ≠ 93) : headV (91 :: r) = none := by
  refine head_no fun hh => ?_
  rcases h with rfl | h
  · simp at hh
  · rcases List.eq_nil_or_concat r with rfl | ⟨m, c, rfl⟩
    · simp at hh
    · rw [List.concat_eq_append] at h hh
      rw [lastB_snoc] at h
      have := hh.2.2.1
      rw [show (91 :: (m ++ [c])) = (91 :: m) ++ [c] from rfl, lastB_snoc] at this
      exact h this
namespace KP
open Go.RowKit KR
theorem trimSuffix_c (s : ByteArray) (hs : s.size ≤ 9223372036854775807) (w : World) : Calls Tryz.prog 95 #[.string s, .string ⟨#[13]⟩] w fun e w' => e = .returned (.string (str (crV (bs s)))) ∧ w = w' :=
  (Tryz.strings_TrimSuffix s ⟨#[13]⟩ w hs).mono fun e w' ⟨h1, h2⟩ => ⟨by rw [h1, ← crV_text], h2.symm⟩
theorem index_c (s : ByteArray) (c : UInt8) (w : World) : Calls Tryz.prog 139 #[.string s, .string ⟨#[c]⟩] w fun e w' => e = .returned (.int .i64 (Lib.indexByte s.data.toList c)) ∧ w = w' :=
  (Tryz.strings_Index_one s c w).mono fun e w' ⟨h1, h2⟩ => ⟨h1, h2.symm⟩
theorem contains_c (s : ByteArray) (c : UInt8) (w : World) : Calls Tryz.prog 159 #[.string s, .string ⟨#[c]⟩] w fun e w' => e = .returned (.bool (decide (c.toNat ∈ bs s))) ∧ w = w' := by
  refine (Tryz.strings_Contains_one s c w).mono fun e w' ⟨h1, h2⟩ => ⟨?_, h2.symm⟩
  rw [h1]
  congr 2
  rcases index_part s c with ⟨hi, hn⟩ | ⟨o, hi, _, ho, _⟩
  · rw [hi, decide_eq_false hn]; rfl
  · rw [hi, decide_eq_true (by omega), decide_eq_true]
    rw [ho]; exact List.mem_append_right _ List.mem_cons_self
theorem index61_c (s : ByteArray) (w : World) : Calls Tryz.prog 146 #[.string s, .string ⟨#[61]⟩] w fun e w' => e = .returned (.int .i64 (Lib.indexByte s.data.toList 61)) ∧ w = w' :=
  (Tryz.stringslite_Index_one s 61 w).mono fun e w' ⟨h1, h2⟩ => ⟨h1, h2.symm⟩
theorem cutPrefix_c (s : ByteArray) (w : World) : Calls Tryz.prog 76 #[.string s, .string ⟨#[91]⟩] w fun e w' => e = .returned (.tuple #[.string ⟨(Lib.trimPrefix s.data.toList [91]).toArray⟩, .bool (Lib.hasPrefix s.data.toList [91])]) ∧ w = w' :=
  (Tryz.strings_CutPrefix s ⟨#[91]⟩ w).mono fun e w' ⟨h1, h2⟩ => ⟨h1, h2.symm⟩
theorem cutSuffix_c (s : ByteArray) (hs : s.size ≤ 9223372036854775807) (w : World) : Calls Tryz.prog 127 #[.string s, .string ⟨#[93]⟩] w fun e w' => e = .returned (.tuple #[.string ⟨(Lib.trimSuffix s.data.toList [93]).toArray⟩, .bool (Lib.hasSuffix s.data.toList [93])]) ∧ w = w' :=
  (Tryz.strings_CutSuffix s ⟨#[93]⟩ w hs).mono fun e w' ⟨h1, h2⟩ => ⟨h1, h2.symm⟩
set_option maxRecDepth 100000 in
set_option maxHeartbeats 1000000 in
theorem isIdle_c (s : ByteArray) (w : World) : Calls Tryz.prog 96 #[.string s] w fun e w' => e = .returned (.bool (!kept (bs s))) ∧ w = w' := by
  by_cases h0 : s.size = 0
  · have hn : bs s = [] := List.eq_nil_of_length_eq_zero (by rw [bs_length]; exact h0)
    have hk : kept (bs s) = false := by rw [hn]; rfl
    have hnl : (s.toList == (ByteArray.mk #[]).toList) = true := by rw [toList_eq]; exact decide_eq_true (by rw [hn]; rfl)
    have hnl2 : s.toList.isEmpty = true := by rw [bs_nil_iff]; exact hn
    rw [hk]
    clear hn hk h0
    go_enter Tryz.func96, Tryz.ntmps96
    go_wp2
    go_ret
    exact ⟨rfl, rfl⟩
  · have hp : 0 < s.size := Nat.pos_of_ne_zero h0
    obtain ⟨c, hc⟩ : ∃ c, byteAt (bs s) 0 = c := ⟨_, rfl⟩
    have hb : (s[0]'hp).toNat = c := (at_byte hp).trans hc
    have hnn : bs s ≠ [] := fun e => h0 (by rw [← bs_length, e]; rfl)
    have hnl : (s.toList == (ByteArray.mk #[]).toList) = false := toL_no hp
    have hnl2 : s.toList.isEmpty = false := by
      cases h : s.toList.isEmpty with
      | false => rfl
      | true => rw [bs_nil_iff] at h; exact absurd h hnn
    by_cases h35 : c = 35
    · have hk : kept (bs s) = false := decide_eq_false fun h => h.2.1 (hc.trans h35)
      rw [hk]
      subst h35
      clear hk hc hnn h0
      go_enter Tryz.func96, Tryz.ntmps96
      go_wp2
      go_ret
      exact ⟨rfl, rfl⟩
    · by_cases h59 : c = 59
      · have hk : kept (bs s) = false := decide_eq_false fun h => h.2.2 (hc.trans h59)
        rw [hk]
        subst h59
        clear hk hc hnn h0
        go_enter Tryz.func96, Tryz.ntmps96
        go_wp2
        go_ret
        exact ⟨rfl, rfl⟩
      · have hk : kept (bs s) = true := decide_eq_true ⟨hnn, fun e => h35 (hc.symm.trans e), fun e => h59 (hc.symm.trans e)⟩
        rw [hk]
        have i35 : ¬ (c : Int) = 35 := by omega
        have i59 : ¬ (c : Int) = 59 := by omega
        have k35 : ((c : Int) == 35) = false := beq_false_of_ne i35
        have k59 : ((c : Int) == 59) = false := beq_false_of_ne i59
        clear hk hc hnn h0 h35 h59
        go_enter Tryz.func96, Tryz.ntmps96
        go_wp2
        go_ret
        exact ⟨rfl, rfl⟩
set_option maxRecDepth 100000 in
set_option maxHeartbeats 1000000 in
theorem isName_c (s : ByteArray) (hs : s.size ≤ 9223372036854775807) (w : World) : Calls Tryz.prog 128 #[.string s] w fun e w' => e = .returned (.bool (namedV (bs s))) ∧ w = w' := by
  have CO := Lib.hid (fun X => contains_c s 93 X)
  obtain ⟨d, hd⟩ : ∃ d, decide ((93 : UInt8).toNat ∈ bs s) = d := ⟨_, rfl⟩
  rw [hd] at CO
  have hv : namedV (bs s) = (!d && decide (1 ≤ s.size ∧ s.size ≤ 32)) := by
    unfold namedV
    rw [bs_length, ← hd, Bool.eq_iff_iff, decide_eq_true_eq, Bool.and_eq_true, Bool.not_eq_true', decide_eq_false_iff_not, decide_eq_true_eq]
    exact Iff.rfl
  rw [hv]
  clear hd hv
  by_cases h1 : 1 ≤ s.size
  · by_cases h2 : s.size ≤ 32
    · rw [decide_eq_true ⟨h1, h2⟩, Bool.and_true]
      have i1 : (1 : Int) ≤ (s.size : Int) := by omega
      have i2 : (s.size : Int) ≤ 32 := by omega
      go_enter Tryz.func128, Tryz.ntmps128
      go_wp2_with (go_at_call 159; refine (CO.out _).mono ?_; rintro _ w1 ⟨rfl, rfl⟩)
      go_ret
      exact ⟨rfl, rfl⟩
    · rw [decide_eq_false (fun h => h2 h.2), Bool.and_false]
      have i1 : (1 : Int) ≤ (s.size : Int) := by omega
      have i2 : ¬ (s.size : Int) ≤ 32 := by omega
      go_enter Tryz.func128, Tryz.ntmps128
      go_wp2
      go_ret
      exact ⟨rfl, rfl⟩
  · rw [decide_eq_false (fun h => h1 h.1), Bool.and_false]
    have i1 : ¬ (1 : Int) ≤ (s.size : Int) := by omega
    go_enter Tryz.func128, Tryz.ntmps128
    go_wp2
    go_ret
    exact ⟨rfl, rfl⟩
set_option maxRecDepth 100000 in
set_option maxHeartbeats 2000000 in
theorem isKey_c (s : ByteArray) (hs : s.size ≤ 9223372036854775807) (w : World) : Calls Tryz.prog 131 #[.string s] w fun e w' => e = .returned (.bool (keyedV (bs s))) ∧ w = w' := by
  obtain ⟨d, hd⟩ : ∃ d, keyedV (bs s) = d := ⟨_, rfl⟩
  rw [hd]
  unfold keyedV at hd
  rw [bs_length] at hd
  by_cases h1 : 1 ≤ s.size
  · by_cases h2 : s.size ≤ 32
    · rw [decide_eq_true ⟨h1, h2⟩, Bool.and_true] at hd
      have HD := Lib.hid hd
      have i1 : ¬ (s.size : Int) < 1 := by omega
      have i2 : ¬ (32 : Int) < (s.size : Int) := by omega
      clear hd
      go_enter Tryz.func131, Tryz.ntmps131
      go_wp2
      go_loop [16] (fun kv => ∃ k : Nat, kv = .int .i64 (k : Nat) ∧ k ≤ s.size ∧ Hid (∀ j, j < k → isLet (byteAt (bs s) j) = true)) (fun kv => s.size - (intOf kv).toNat)
      case atStart => exact ⟨0, rfl, Nat.zero_le _, fun j hj => absurd hj (Nat.not_lt_zero j)⟩
      case round =>
        obtain ⟨k, rfl, hk, HN⟩ := hrel
        by_cases hlt : k < s.size
        · obtain ⟨c, hc⟩ : ∃ c, byteAt (bs s) k = c := ⟨_, rfl⟩
          have hb : (s[k]'hlt).toNat = c := (at_byte hlt).trans hc
          have hc1 : c ≤ 255 := by rw [← hc]; exact byte_le s k
          cases hp : isLet c with
          | true =>
            have HP := Lib.hid (show ∀ j, j < k + 1 → isLet (byteAt (bs s) j) = true from fun j hj => by
              by_cases e : j = k
              · rw [e, hc]; exact hp
              · exact HN.out j (by omega))
            have hy := isLet_yes hp
            clear hc hp
            rcases hy with ⟨h3, h4⟩ | ⟨h3, h4⟩
            · have j1 : (97 : Int) ≤ (c : Int) := by omega
              have j2 : (c : Int) ≤ 122 := by omega
              have j3 : decide ((c : Int) ≤ 122) = true := decide_eq_true j2
              have j4 : (65 : Int) ≤ (c : Int) := by omega
              have j5 : ¬ (c : Int) ≤ 90 := by omega
              have j6 : decide ((c : Int) ≤ 90) = false := decide_eq_false j5
              go_wp2
              go_round
              case rel => exact ⟨k + 1, by go_num, by omega, HP⟩
              case measure => simp [intOf]; omega
            · have j1 : ¬ (97 : Int) ≤ (c : Int) := by omega
              have j4 : (65 : Int) ≤ (c : Int) := by omega
              have j5 : (c : Int) ≤ 90 := by omega
              have j6 : decide ((c : Int) ≤ 90) = true := decide_eq_true j5
              go_wp2
              go_round
              case rel => exact ⟨k + 1, by go_num, by omega, HP⟩
              case measure => simp [intOf]; omega
          | false =>
            have HE := Lib.hid (show d = false by rw [← HD.out, all_no hlt (by rw [hc]; exact hp)])
            have hn := isLet_no hp
            clear hc hp
            have h6 : c ≤ 64 ∨ (91 ≤ c ∧ c ≤ 96) ∨ 123 ≤ c := by omega
            clear hn
            rcases h6 with h3 | ⟨h3, h4⟩ | h3
            · have j1 : ¬ (97 : Int) ≤ (c : Int) := by omega
              have j4 : ¬ (65 : Int) ≤ (c : Int) := by omega
              go_wp2
              go_ret
              exact ⟨by rw [HE.out]; rfl, rfl⟩
            · have j1 : ¬ (97 : Int) ≤ (c : Int) := by omega
              have j4 : (65 : Int) ≤ (c : Int) := by omega
              have j5 : ¬ (c : Int) ≤ 90 := by omega
              have j6 : decide ((c : Int) ≤ 90) = false := decide_eq_false j5
              go_wp2
              go_ret
              exact ⟨by rw [HE.out]; rfl, rfl⟩
            · have j1 : (97 : Int) ≤ (c : Int) := by omega
              have j2 : ¬ (c : Int) ≤ 122 := by omega
              have j3 : decide ((c : Int) ≤ 122) = false := decide_eq_false j2
              have j4 : (65 : Int) ≤ (c : Int) := by omega
              have j5 : ¬ (c : Int) ≤ 90 := by omega
              have j6 : decide ((c : Int) ≤ 90) = false := decide_eq_false j5
              go_wp2
              go_ret
              exact ⟨by rw [HE.out]; rfl, rfl⟩
        · obtain rfl : k = s.size := by omega
          have HE := Lib.hid (show d = true by rw [← HD.out, all_end HN.out])
          go_wp2
          go_ret
          exact ⟨by rw [HE.out]; rfl, rfl⟩
    · rw [decide_eq_false (fun h => h2 h.2), Bool.and_false] at hd
      subst hd
      have i1 : ¬ (s.size : Int) < 1 := by omega
      have i2 : (32 : Int) < (s.size : Int) := by omega
      go_enter Tryz.func131, Tryz.ntmps131
      go_wp2
      go_ret
      exact ⟨rfl, rfl⟩
  · rw [decide_eq_false (fun h => h1 h.1), Bool.and_false] at hd
    subst hd
    have i1 : (s.size : Int) < 1 := by omega
    go_enter Tryz.func131, Tryz.ntmps131
    go_wp2
    go_ret
    exact ⟨rfl, rfl⟩
end KP
end Go.Proofs.YtodlgbihdehmbaaGreatDoor.Cf
