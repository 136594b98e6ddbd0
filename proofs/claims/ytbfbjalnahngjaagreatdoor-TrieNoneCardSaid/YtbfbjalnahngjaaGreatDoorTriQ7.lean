/-
  Texts of the trie's proofs, merged: GlbPP, GlbRA, GlbFx.
-/
import Derived.Test.YtbfbjalnahngjaaGreatDoorTriQ4
import Derived.Test.YtbfbjalnahngjaaGreatDoorTriQ5
import Derived.Test.YtbfbjalnahngjaaGreatDoorTriQ6
import Derived.StillTailTactics
import Derived.Deep.Cut
set_option linter.unusedSimpArgs false
set_option linter.unusedVariables false
namespace Go.Proofs.YtbfbjalnahngjaaGreatDoor
open Go.RowKit
theorem gErr_zero {s : List Nat} (h : gErr s = 0) : s.length ≤ 128 ∧ gPr false s = some (gTree s, []) ∧ (gTree s).len ≠ 0 ∧ gDp (gTree s) ≤ 4 ∧ gCnt (gTree s) 1 ≤ 64 := by
  unfold gErr at h
  unfold gTree
  by_cases hl : 128 < s.length
  · rw [if_pos hl] at h; cases h
  · rw [if_neg hl] at h
    cases hp : gPr false s with
    | none => rw [hp] at h; cases h
    | some x =>
      obtain ⟨l, r⟩ := x
      rw [hp] at h
      simp only at h ⊢
      by_cases h1 : l.len = 0 ∨ r ≠ []
      · rw [if_pos h1] at h; cases h
      · rw [if_neg h1] at h
        by_cases h2 : 4 < gDp l
        · rw [if_pos h2] at h; cases h
        · rw [if_neg h2] at h
          by_cases h3 : 64 < gCnt l 1
          · rw [if_pos h3] at h; cases h
          · have hr : r = [] := Decidable.byContradiction fun e => h1 (.inr e)
            subst hr
            exact ⟨by omega, rfl, fun e => h1 (.inl e), by omega, by omega⟩
theorem gErr_good {s : List Nat} (h : gErr s = 0) : Good false (gTree s) ∧ (gStr (gTree s)).length ≤ 128 ∧ gNm (gTree s) ≤ 64 ∧ s = gStr (gTree s) := by
  obtain ⟨h1, h2, h3, h4, h5⟩ := gErr_zero h
  have hp := gPr_pf h2
  have he : s = gStr (gTree s) := by have := hp.2.1; rwa [List.append_nil] at this
  refine ⟨hp.1, by rw [← he]; exact h1, ?_, he⟩
  have := (gCnt_num (gTree s)).1 hp.1 1 (by omega)
  omega
namespace GP
theorem read_c (S : ByteArray) (hsz : S.size ≤ 9223372036854775807) (w : World) :
    Calls Tryz.prog 83 #[.string S] w fun e w' => ∃ v, e = .returned (.tuple #[v, .int .i64 (gErr (bs S))]) ∧ RdI w.heap.size w' (bs S) v ∧ Below w.heap.size w w' :=
  read_of (psC_all 128 braces_c) S hsz w
set_option maxRecDepth 100000 in
set_option maxHeartbeats 4000000 in
theorem match_c (S N : ByteArray) (hsz : S.size ≤ 9223372036854775807) (hs : N.size ≤ 900) (w : World) :
    Calls Tryz.prog 60 #[.string S, .string N] w fun e w' => e = .returned (.tuple #[.bool (gMatch (bs S) (bs N)), .int .i64 (gErr (bs S))]) ∧ Below w.heap.size w w' := by
  have RC := Lib.hid (read_c S hsz w)
  have HG := Lib.hid (fun h => gErr_good (s := bs S) h)
  obtain ⟨M, hM⟩ : ∃ M, gMatch (bs S) (bs N) = M := ⟨_, rfl⟩
  obtain ⟨E, hE⟩ : ∃ E, gErr (bs S) = E := ⟨_, rfl⟩
  have HE := Lib.hid hE; have HM := Lib.hid hM
  rw [hE] at RC
  rw [hE, hM]
  clear hE hM
  obtain ⟨i0, hi0, hz0, hzz1, hzz2⟩ := info_parts bool_info
  obtain ⟨n, hn⟩ : ∃ n, N.size = n := ⟨_, rfl⟩
  have HNN := Lib.hid hn
  rw [hn] at hs
  have hn1 : IntKind.i64.wrap ((N.size : Int) + 1) = ((n + 1 : Nat) : Int) := by rw [IntKind.wrap_i64]; omega
  go_enter Tryz.func60, Tryz.ntmps60
  go_wp2_with fail
  refine RC.out.mono ?_; rintro _ w2 ⟨v, rfl, hri, hb2⟩
  by_cases h0 : E = 0
  · subst h0
    obtain ⟨hp, hg, ht⟩ := hri HE.out
    obtain ⟨hg1, hg2, hg3, -⟩ := HG.out HE.out
    have HT := Lib.hid ht.rd
    have LC := Lib.hid (fun (g : Nat) (f : Nat → Bool) (W : World) (hW : Below w2.heap.size w2 W) (hr : BRow W g (n + 1) f) => lead_c (gTree (bs S)) hg1 (by omega) v N g (n + 1) f W (by rw [hn]; exact hs) (by rw [hn]; exact Nat.le_refl _) (ht.rd.below hW) (by rw [hn]; exact hr))
    rw [hn] at LC
    have HMM := Lib.hid (show gLd (bs N) (gTree (bs S)) gE0 n = M by
      have := HM.out
      unfold gMatch at this
      rw [if_pos HE.out, bs_length, hn] at this
      exact this)
    have HB2 := Lib.hid hb2
    obtain ⟨A, c, rfl, -, -⟩ := ht.rd.form
    clear hri hp hg ht hb2 hg1 hg2 hg3
    go_upto_region 5 with (at_make; refine wpList_make_full _ rfl _ _ 99 rfl 0 4 i0 (.bool false) 1 Tryz.underlying99 hi0 hz0 hzz1 .i64 .i64 _ _ (n + 1) rfl rfl (by omega) (by omega) (by rw [hzz2]; omega) (by unfold maxLen; omega) (Nat.zero_le _) ?_; intro w3 hown3 hg3)
    have hbl := below_none hg3
    have hx3 := BRow.made hown3 (Nat.succ_pos n)
    obtain ⟨gx, hgx⟩ : ∃ gx, w2.heap.size = gx := ⟨_, rfl⟩
    rw [hgx] at hx3 ⊢
    have c0 := hx3.c 0 (by omega)
    have f0 := hx3.fz 0 (by omega)
    have HX4 := Lib.hid (show BRow (w3.setCell ⟨gx, 0, none⟩ (.bool true)) gx (n + 1) gE0 from hx3.set (x := true) (k := 0) (by omega) (fun j hj => by
      unfold gE0
      by_cases e : j = 0
      · rw [if_pos e, e]; rfl
      · rw [if_neg e, decide_eq_false e]))
    have HB4 := Lib.hid (show Below w2.heap.size w2 (w3.setCell ⟨gx, 0, none⟩ (.bool true)) from hbl.setCell (p := ⟨gx, 0, none⟩) (by rw [hgx]; exact Nat.le_refl _) _)
    have hbI : (0 : Int) < (n : Int) + 1 := by omega
    clear hown3 hg3 hbl hx3
    have LC1 := Lib.hid (LC.out gx gE0 _ HB4.out HX4.out)
    clear LC
    go_wp2_with fail
    refine LC1.out.mono ?_; rintro _ w5 ⟨g', c', rfl, hc', -, hbr, hb5⟩
    have HB5 := Lib.hid (bnext HB2.out (bnext HB4.out hb5))
    have cn := hbr.c n (by omega)
    rw [HMM.out] at cn
    have hbJ : (n : Int) < (n : Int) + 1 := by omega
    have hbN : n < n + 1 := by omega
    clear hbr hb5 LC1
    go_wp2
    go_ret2
    exact ⟨rfl, HB5.out⟩
  · have hb : (E != 0) = true := bne_iff_ne.2 h0
    have hm : M = false := by
      have := HM.out
      unfold gMatch at this
      rw [if_neg (by rw [HE.out]; exact h0)] at this
      exact this.symm
    subst hm
    have HB2 := Lib.hid hb2
    clear hri hb2
    go_wp2
    go_ret2
    exact ⟨rfl, HB2.out⟩
end GP
end Go.Proofs.YtbfbjalnahngjaaGreatDoor
namespace Go.Proofs.YtbfbjalnahngjaaGreatDoor.GR
open Go.RowKit
theorem isB_alone {c : Nat} (h1 : ¬ (97 ≤ c ∧ c ≤ 122)) (h2 : ¬ (65 ≤ c ∧ c ≤ 90)) (h3 : ¬ (48 ≤ c ∧ c ≤ 57)) : isB c = [95, 45, 58, 37, 35, 64, 43, 61].contains c := by
  unfold isB
  rw [← Bool.decide_and, ← Bool.decide_and, ← Bool.decide_and, decide_eq_false h1, decide_eq_false h2, decide_eq_false h3]
  rfl
theorem isB_in {c : Nat} (h : (97 ≤ c ∧ c ≤ 122) ∨ (65 ≤ c ∧ c ≤ 90) ∨ (48 ≤ c ∧ c ≤ 57)) : isB c = true := by
  unfold isB
  rw [← Bool.decide_and, ← Bool.decide_and, ← Bool.decide_and]
  rcases h with h | h | h <;> rw [decide_eq_true h] <;> simp
set_option maxRecDepth 100000 in
set_option maxHeartbeats 2000000 in
theorem byte_0 (c : Nat) (hc : c < 256) (hr : c ≤ 47) (w : World) :
    Calls Tryz.prog 94 #[.int .u8 (c : Nat)] w fun e w' => e = .returned (.bool (isB c)) ∧ w' = w := by
  have f97 : ¬ (97 : Int) ≤ (c : Int) := by omega
  have f122 : (c : Int) ≤ (122 : Int) := by omega
  have f65 : ¬ (65 : Int) ≤ (c : Int) := by omega
  have f90 : (c : Int) ≤ (90 : Int) := by omega
  have f48 : ¬ (48 : Int) ≤ (c : Int) := by omega
  have f57 : (c : Int) ≤ (57 : Int) := by omega
  rw [isB_alone (c := c) (by omega) (by omega) (by omega)]
  obtain ⟨d, hd⟩ : ∃ d, [95, 45, 58, 37, 35, 64, 43, 61].contains c = d := ⟨_, rfl⟩
  rw [hd]
  have HD := Lib.hid hd
  clear hd
  go_enter Tryz.func94, Tryz.ntmps94
  go_wp2
  obtain ⟨S, hS⟩ : ∃ S : ByteArray, (⟨#[95, 45, 58, 37, 35, 64, 43, 61]⟩ : ByteArray) = S := ⟨_, rfl⟩
  have hz : S.size = 8 := by rw [← hS]; rfl
  have HB := Lib.hid (show bs S = [95, 45, 58, 37, 35, 64, 43, 61] by rw [← hS]; rfl)
  rw [hS]
  clear hS
  go_loop [4] (fun kv => ∃ k : Nat, kv = .int .i64 (k : Nat) ∧ k ≤ S.size ∧ Hid (∀ j, j < k → (bs S).getD j 0 ≠ c)) (fun kv => S.size - (intOf kv).toNat)
  case atStart => exact ⟨0, rfl, Nat.zero_le _, fun j hj => absurd hj (Nat.not_lt_zero j)⟩
  case round =>
    obtain ⟨k, rfl, hk, HN⟩ := hrel
    by_cases hlt : k < S.size
    · obtain ⟨b, hb1, hb2, hb3⟩ := bs_get hlt
      have hki : (k : Int) < (S.size : Int) := by omega
      by_cases hbc : b = c
      · subst hbc
        have HDF := Lib.hid (show true = d by
          rw [← HD.out]
          have hlen : k < (bs S).length := by rw [bs_length]; exact hlt
          have : b ∈ bs S := by
            rw [← hb1, List.getD_eq_getElem?_getD, List.getElem?_eq_getElem hlen]
            exact List.getElem_mem _
          rw [HB.out] at this
          exact (List.contains_iff_mem.2 this).symm)
        clear hb1
        go_wp2
        go_ret
        exact ⟨congrArg (fun z => Ending.returned (.bool z)) HDF.out, rfl⟩
      · have hbi : ((b : Int) == (c : Int)) = false := beq_false_of_ne (by omega)
        have HNX := Lib.hid (show ∀ j, j < k + 1 → (bs S).getD j 0 ≠ c from fun j hj => by
          by_cases e : j = k
          · rw [e, hb1]; exact hbc
          · exact HN.out j (by omega))
        have hbi2 : ¬ (b : Int) = (c : Int) := by omega
        clear hb1
        go_wp2
        go_round
        case rel => exact ⟨k + 1, by go_num, by omega, HNX⟩
        case measure => simp [intOf]; omega
    · obtain rfl : k = S.size := by omega
      have HDF := Lib.hid (show false = d by
        rw [← HD.out]
        symm
        rw [Bool.eq_false_iff]
        intro h
        have hm := List.contains_iff_mem.1 h
        rw [← HB.out] at hm
        obtain ⟨j, hj⟩ := List.getElem?_of_mem hm
        have hlt := (List.getElem?_eq_some_iff.1 hj).1
        rw [bs_length] at hlt
        exact HN.out j hlt (by rw [List.getD_eq_getElem?_getD, hj]; rfl))
      go_wp2
      go_ret
      exact ⟨congrArg (fun z => Ending.returned (.bool z)) HDF.out, rfl⟩
set_option maxRecDepth 100000 in
set_option maxHeartbeats 2000000 in
theorem byte_1 (c : Nat) (hc : c < 256) (hr : 48 ≤ c ∧ c ≤ 57) (w : World) :
    Calls Tryz.prog 94 #[.int .u8 (c : Nat)] w fun e w' => e = .returned (.bool (isB c)) ∧ w' = w := by
  have f97 : ¬ (97 : Int) ≤ (c : Int) := by omega
  have f122 : (c : Int) ≤ (122 : Int) := by omega
  have f65 : ¬ (65 : Int) ≤ (c : Int) := by omega
  have f90 : (c : Int) ≤ (90 : Int) := by omega
  have f48 : (48 : Int) ≤ (c : Int) := by omega
  have f57 : (c : Int) ≤ (57 : Int) := by omega
  rw [isB_in (c := c) (by omega)]
  go_enter Tryz.func94, Tryz.ntmps94
  go_wp2
  go_ret
  exact ⟨rfl, rfl⟩
set_option maxRecDepth 100000 in
set_option maxHeartbeats 2000000 in
theorem byte_2 (c : Nat) (hc : c < 256) (hr : 58 ≤ c ∧ c ≤ 64) (w : World) :
    Calls Tryz.prog 94 #[.int .u8 (c : Nat)] w fun e w' => e = .returned (.bool (isB c)) ∧ w' = w := by
  have f97 : ¬ (97 : Int) ≤ (c : Int) := by omega
  have f122 : (c : Int) ≤ (122 : Int) := by omega
  have f65 : ¬ (65 : Int) ≤ (c : Int) := by omega
  have f90 : (c : Int) ≤ (90 : Int) := by omega
  have f48 : (48 : Int) ≤ (c : Int) := by omega
  have f57 : ¬ (c : Int) ≤ (57 : Int) := by omega
  rw [isB_alone (c := c) (by omega) (by omega) (by omega)]
  obtain ⟨d, hd⟩ : ∃ d, [95, 45, 58, 37, 35, 64, 43, 61].contains c = d := ⟨_, rfl⟩
  rw [hd]
  have HD := Lib.hid hd
  clear hd
  go_enter Tryz.func94, Tryz.ntmps94
  go_wp2
  obtain ⟨S, hS⟩ : ∃ S : ByteArray, (⟨#[95, 45, 58, 37, 35, 64, 43, 61]⟩ : ByteArray) = S := ⟨_, rfl⟩
  have hz : S.size = 8 := by rw [← hS]; rfl
  have HB := Lib.hid (show bs S = [95, 45, 58, 37, 35, 64, 43, 61] by rw [← hS]; rfl)
  rw [hS]
  clear hS
  go_loop [4] (fun kv => ∃ k : Nat, kv = .int .i64 (k : Nat) ∧ k ≤ S.size ∧ Hid (∀ j, j < k → (bs S).getD j 0 ≠ c)) (fun kv => S.size - (intOf kv).toNat)
  case atStart => exact ⟨0, rfl, Nat.zero_le _, fun j hj => absurd hj (Nat.not_lt_zero j)⟩
  case round =>
    obtain ⟨k, rfl, hk, HN⟩ := hrel
    by_cases hlt : k < S.size
    · obtain ⟨b, hb1, hb2, hb3⟩ := bs_get hlt
      have hki : (k : Int) < (S.size : Int) := by omega
      by_cases hbc : b = c
      · subst hbc
        have HDF := Lib.hid (show true = d by
          rw [← HD.out]
          have hlen : k < (bs S).length := by rw [bs_length]; exact hlt
          have : b ∈ bs S := by
            rw [← hb1, List.getD_eq_getElem?_getD, List.getElem?_eq_getElem hlen]
            exact List.getElem_mem _
          rw [HB.out] at this
          exact (List.contains_iff_mem.2 this).symm)
        clear hb1
        go_wp2
        go_ret
        exact ⟨congrArg (fun z => Ending.returned (.bool z)) HDF.out, rfl⟩
      · have hbi : ((b : Int) == (c : Int)) = false := beq_false_of_ne (by omega)
        have HNX := Lib.hid (show ∀ j, j < k + 1 → (bs S).getD j 0 ≠ c from fun j hj => by
          by_cases e : j = k
          · rw [e, hb1]; exact hbc
          · exact HN.out j (by omega))
        have hbi2 : ¬ (b : Int) = (c : Int) := by omega
        clear hb1
        go_wp2
        go_round
        case rel => exact ⟨k + 1, by go_num, by omega, HNX⟩
        case measure => simp [intOf]; omega
    · obtain rfl : k = S.size := by omega
      have HDF := Lib.hid (show false = d by
        rw [← HD.out]
        symm
        rw [Bool.eq_false_iff]
        intro h
        have hm := List.contains_iff_mem.1 h
        rw [← HB.out] at hm
        obtain ⟨j, hj⟩ := List.getElem?_of_mem hm
        have hlt := (List.getElem?_eq_some_iff.1 hj).1
        rw [bs_length] at hlt
        exact HN.out j hlt (by rw [List.getD_eq_getElem?_getD, hj]; rfl))
      go_wp2
      go_ret
      exact ⟨congrArg (fun z => Ending.returned (.bool z)) HDF.out, rfl⟩
set_option maxRecDepth 100000 in
set_option maxHeartbeats 2000000 in
theorem byte_3 (c : Nat) (hc : c < 256) (hr : 65 ≤ c ∧ c ≤ 90) (w : World) :
    Calls Tryz.prog 94 #[.int .u8 (c : Nat)] w fun e w' => e = .returned (.bool (isB c)) ∧ w' = w := by
  have f97 : ¬ (97 : Int) ≤ (c : Int) := by omega
  have f122 : (c : Int) ≤ (122 : Int) := by omega
  have f65 : (65 : Int) ≤ (c : Int) := by omega
  have f90 : (c : Int) ≤ (90 : Int) := by omega
  have f48 : (48 : Int) ≤ (c : Int) := by omega
  have f57 : ¬ (c : Int) ≤ (57 : Int) := by omega
  rw [isB_in (c := c) (by omega)]
  go_enter Tryz.func94, Tryz.ntmps94
  go_wp2
  go_ret
  exact ⟨rfl, rfl⟩
set_option maxRecDepth 100000 in
set_option maxHeartbeats 2000000 in
theorem byte_4 (c : Nat) (hc : c < 256) (hr : 91 ≤ c ∧ c ≤ 96) (w : World) :
    Calls Tryz.prog 94 #[.int .u8 (c : Nat)] w fun e w' => e = .returned (.bool (isB c)) ∧ w' = w := by
  have f97 : ¬ (97 : Int) ≤ (c : Int) := by omega
  have f122 : (c : Int) ≤ (122 : Int) := by omega
  have f65 : (65 : Int) ≤ (c : Int) := by omega
  have f90 : ¬ (c : Int) ≤ (90 : Int) := by omega
  have f48 : (48 : Int) ≤ (c : Int) := by omega
  have f57 : ¬ (c : Int) ≤ (57 : Int) := by omega
  rw [isB_alone (c := c) (by omega) (by omega) (by omega)]
  obtain ⟨d, hd⟩ : ∃ d, [95, 45, 58, 37, 35, 64, 43, 61].contains c = d := ⟨_, rfl⟩
  rw [hd]
  have HD := Lib.hid hd
  clear hd
  go_enter Tryz.func94, Tryz.ntmps94
  go_wp2
  obtain ⟨S, hS⟩ : ∃ S : ByteArray, (⟨#[95, 45, 58, 37, 35, 64, 43, 61]⟩ : ByteArray) = S := ⟨_, rfl⟩
  have hz : S.size = 8 := by rw [← hS]; rfl
  have HB := Lib.hid (show bs S = [95, 45, 58, 37, 35, 64, 43, 61] by rw [← hS]; rfl)
  rw [hS]
  clear hS
  go_loop [4] (fun kv => ∃ k : Nat, kv = .int .i64 (k : Nat) ∧ k ≤ S.size ∧ Hid (∀ j, j < k → (bs S).getD j 0 ≠ c)) (fun kv => S.size - (intOf kv).toNat)
  case atStart => exact ⟨0, rfl, Nat.zero_le _, fun j hj => absurd hj (Nat.not_lt_zero j)⟩
  case round =>
    obtain ⟨k, rfl, hk, HN⟩ := hrel
    by_cases hlt : k < S.size
    · obtain ⟨b, hb1, hb2, hb3⟩ := bs_get hlt
      have hki : (k : Int) < (S.size : Int) := by omega
      by_cases hbc : b = c
      · subst hbc
        have HDF := Lib.hid (show true = d by
          rw [← HD.out]
          have hlen : k < (bs S).length := by rw [bs_length]; exact hlt
          have : b ∈ bs S := by
            rw [← hb1, List.getD_eq_getElem?_getD, List.getElem?_eq_getElem hlen]
            exact List.getElem_mem _
          rw [HB.out] at this
          exact (List.contains_iff_mem.2 this).symm)
        clear hb1
        go_wp2
        go_ret
        exact ⟨congrArg (fun z => Ending.returned (.bool z)) HDF.out, rfl⟩
      · have hbi : ((b : Int) == (c : Int)) = false := beq_false_of_ne (by omega)
        have HNX := Lib.hid (show ∀ j, j < k + 1 → (bs S).getD j 0 ≠ c from fun j hj => by
          by_cases e : j = k
          · rw [e, hb1]; exact hbc
          · exact HN.out j (by omega))
        have hbi2 : ¬ (b : Int) = (c : Int) := by omega
        clear hb1
        go_wp2
        go_round
        case rel => exact ⟨k + 1, by go_num, by omega, HNX⟩
        case measure => simp [intOf]; omega
    · obtain rfl : k = S.size := by omega
      have HDF := Lib.hid (show false = d by
        rw [← HD.out]
        symm
        rw [Bool.eq_false_iff]
        intro h
        have hm := List.contains_iff_mem.1 h
        rw [← HB.out] at hm
        obtain ⟨j, hj⟩ := List.getElem?_of_mem hm
        have hlt := (List.getElem?_eq_some_iff.1 hj).1
        rw [bs_length] at hlt
        exact HN.out j hlt (by rw [List.getD_eq_getElem?_getD, hj]; rfl))
      go_wp2
      go_ret
      exact ⟨congrArg (fun z => Ending.returned (.bool z)) HDF.out, rfl⟩
set_option maxRecDepth 100000 in
set_option maxHeartbeats 2000000 in
theorem byte_5 (c : Nat) (hc : c < 256) (hr : 97 ≤ c ∧ c ≤ 122) (w : World) :
    Calls Tryz.prog 94 #[.int .u8 (c : Nat)] w fun e w' => e = .returned (.bool (isB c)) ∧ w' = w := by
  have f97 : (97 : Int) ≤ (c : Int) := by omega
  have f122 : (c : Int) ≤ (122 : Int) := by omega
  have f65 : (65 : Int) ≤ (c : Int) := by omega
  have f90 : ¬ (c : Int) ≤ (90 : Int) := by omega
  have f48 : (48 : Int) ≤ (c : Int) := by omega
  have f57 : ¬ (c : Int) ≤ (57 : Int) := by omega
  rw [isB_in (c := c) (by omega)]
  go_enter Tryz.func94, Tryz.ntmps94
  go_wp2
  go_ret
  exact ⟨rfl, rfl⟩
set_option maxRecDepth 100000 in
set_option maxHeartbeats 2000000 in
theorem byte_6 (c : Nat) (hc : c < 256) (hr : 123 ≤ c) (w : World) :
    Calls Tryz.prog 94 #[.int .u8 (c : Nat)] w fun e w' => e = .returned (.bool (isB c)) ∧ w' = w := by
  have f97 : (97 : Int) ≤ (c : Int) := by omega
  have f122 : ¬ (c : Int) ≤ (122 : Int) := by omega
  have f65 : (65 : Int) ≤ (c : Int) := by omega
  have f90 : ¬ (c : Int) ≤ (90 : Int) := by omega
  have f48 : (48 : Int) ≤ (c : Int) := by omega
  have f57 : ¬ (c : Int) ≤ (57 : Int) := by omega
  rw [isB_alone (c := c) (by omega) (by omega) (by omega)]
  obtain ⟨d, hd⟩ : ∃ d, [95, 45, 58, 37, 35, 64, 43, 61].contains c = d := ⟨_, rfl⟩
  rw [hd]
  have HD := Lib.hid hd
  clear hd
  go_enter Tryz.func94, Tryz.ntmps94
  go_wp2
  obtain ⟨S, hS⟩ : ∃ S : ByteArray, (⟨#[95, 45, 58, 37, 35, 64, 43, 61]⟩ : ByteArray) = S := ⟨_, rfl⟩
  have hz : S.size = 8 := by rw [← hS]; rfl
  have HB := Lib.hid (show bs S = [95, 45, 58, 37, 35, 64, 43, 61] by rw [← hS]; rfl)
  rw [hS]
  clear hS
  go_loop [4] (fun kv => ∃ k : Nat, kv = .int .i64 (k : Nat) ∧ k ≤ S.size ∧ Hid (∀ j, j < k → (bs S).getD j 0 ≠ c)) (fun kv => S.size - (intOf kv).toNat)
  case atStart => exact ⟨0, rfl, Nat.zero_le _, fun j hj => absurd hj (Nat.not_lt_zero j)⟩
  case round =>
    obtain ⟨k, rfl, hk, HN⟩ := hrel
    by_cases hlt : k < S.size
    · obtain ⟨b, hb1, hb2, hb3⟩ := bs_get hlt
      have hki : (k : Int) < (S.size : Int) := by omega
      by_cases hbc : b = c
      · subst hbc
        have HDF := Lib.hid (show true = d by
          rw [← HD.out]
          have hlen : k < (bs S).length := by rw [bs_length]; exact hlt
          have : b ∈ bs S := by
            rw [← hb1, List.getD_eq_getElem?_getD, List.getElem?_eq_getElem hlen]
            exact List.getElem_mem _
          rw [HB.out] at this
          exact (List.contains_iff_mem.2 this).symm)
        clear hb1
        go_wp2
        go_ret
        exact ⟨congrArg (fun z => Ending.returned (.bool z)) HDF.out, rfl⟩
      · have hbi : ((b : Int) == (c : Int)) = false := beq_false_of_ne (by omega)
        have HNX := Lib.hid (show ∀ j, j < k + 1 → (bs S).getD j 0 ≠ c from fun j hj => by
          by_cases e : j = k
          · rw [e, hb1]; exact hbc
          · exact HN.out j (by omega))
        have hbi2 : ¬ (b : Int) = (c : Int) := by omega
        clear hb1
        go_wp2
        go_round
        case rel => exact ⟨k + 1, by go_num, by omega, HNX⟩
        case measure => simp [intOf]; omega
    · obtain rfl : k = S.size := by omega
      have HDF := Lib.hid (show false = d by
        rw [← HD.out]
        symm
        rw [Bool.eq_false_iff]
        intro h
        have hm := List.contains_iff_mem.1 h
        rw [← HB.out] at hm
        obtain ⟨j, hj⟩ := List.getElem?_of_mem hm
        have hlt := (List.getElem?_eq_some_iff.1 hj).1
        rw [bs_length] at hlt
        exact HN.out j hlt (by rw [List.getD_eq_getElem?_getD, hj]; rfl))
      go_wp2
      go_ret
      exact ⟨congrArg (fun z => Ending.returned (.bool z)) HDF.out, rfl⟩
theorem byte_c (c : Nat) (hc : c < 256) (w : World) :
    Calls Tryz.prog 94 #[.int .u8 (c : Nat)] w fun e w' => e = .returned (.bool (isB c)) ∧ w' = w := by
  have h : c ≤ 47 ∨ (48 ≤ c ∧ c ≤ 57) ∨ (58 ≤ c ∧ c ≤ 64) ∨ (65 ≤ c ∧ c ≤ 90) ∨ (91 ≤ c ∧ c ≤ 96) ∨ (97 ≤ c ∧ c ≤ 122) ∨ 123 ≤ c := by omega
  rcases h with h | h | h | h | h | h | h
  · exact byte_0 c hc h w
  · exact byte_1 c hc h w
  · exact byte_2 c hc h w
  · exact byte_3 c hc h w
  · exact byte_4 c hc h w
  · exact byte_5 c hc h w
  · exact byte_6 c hc h w
/-- Has a text just name bytes? -/
def gPlain (s : List Nat) : Bool := decide (s ≠ []) && s.all isB
set_option maxRecDepth 100000 in
set_option maxHeartbeats 2000000 in
theorem plain_c (s : ByteArray) (hs : s.size ≤ 9223372036854775807) (w : World) : Calls Tryz.prog 79 #[.string s] w fun e w' => e = .returned (.bool (gPlain (bs s))) ∧ w' = w := by
  obtain ⟨d, hd⟩ : ∃ d, gPlain (bs s) = d := ⟨_, rfl⟩
  rw [hd]
  have HD := Lib.hid hd
  have BY := Lib.hid (fun (c : Nat) (hc : c < 256) (W : World) => byte_c c hc W)
  clear hd
  go_enter Tryz.func79, Tryz.ntmps79
  go_wp2
  go_loopw [3] (fun kv wr => ∃ k : Nat, kv = .int .i64 (k : Nat) ∧ k ≤ s.size ∧ wr = w ∧ Hid (∀ j, j < k → isB ((bs s).getD j 0) = true)) (fun kv _ => s.size - (intOf kv).toNat)
  case atStart => exact ⟨0, rfl, Nat.zero_le _, rfl, fun j hj => absurd hj (Nat.not_lt_zero j)⟩
  case round =>
    obtain ⟨k, rfl, hk, rfl, HN⟩ := hrel
    by_cases hlt : k < s.size
    · obtain ⟨c, hcb, x0, hc⟩ := bs_get hlt
      have hki : (k : Int) < (s.size : Int) := by omega
      have BC := Lib.hid (BY.out c hc wr)
      cases hp : isB c with
      | true =>
        rw [hp] at BC
        have HP := Lib.hid (show ∀ j, j < k + 1 → isB ((bs s).getD j 0) = true from fun j hj => by
          by_cases e : j = k
          · rw [e, hcb]; exact hp
          · exact HN.out j (by omega))
        clear hcb hp
        go_wp2_with fail
        refine BC.out.mono ?_; rintro _ w2 ⟨rfl, hw2⟩; obtain rfl := hw2.symm
        go_wp2
        go_roundw
        case rel => exact ⟨k + 1, by go_num, by omega, by trivial, HP.out⟩
        case measure => simp [intOf]; omega
      | false =>
        rw [hp] at BC
        have HDF := Lib.hid (show false = d from by
          rw [← HD.out]
          symm
          unfold gPlain
          have : (bs s).all isB = false := by
            rw [Bool.eq_false_iff]
            intro h
            rw [List.all_eq_true] at h
            have h2 := h c (by rw [← hcb, List.getD_eq_getElem?_getD, List.getElem?_eq_getElem (by rw [bs_length]; exact hlt)]; exact List.getElem_mem _)
            rw [hp] at h2
            cases h2
          rw [this, Bool.and_false])
        clear hcb hp
        go_wp2_with fail
        refine BC.out.mono ?_; rintro _ w2 ⟨rfl, hw2⟩; obtain rfl := hw2.symm
        go_wp2
        go_ret
        exact ⟨congrArg (fun z => Ending.returned (.bool z)) HDF.out, rfl⟩
    · obtain rfl : k = s.size := by omega
      have hall : (bs s).all isB = true := by
        rw [List.all_eq_true]
        intro x hx
        obtain ⟨j, hj⟩ := List.getElem?_of_mem hx
        have h2 := HN.out j (by have := (List.getElem?_eq_some_iff.1 hj).1; rw [bs_length] at this; exact this)
        rw [List.getD_eq_getElem?_getD, hj] at h2
        exact h2
      by_cases hz : s.size = 0
      · obtain rfl := is_empty hz
        have HDT := Lib.hid (show false = d from HD.out)
        clear hall
        go_wp2
        go_ret
        exact ⟨congrArg (fun z => Ending.returned (.bool z)) HDT.out, rfl⟩
      · have hne : s.toList.isEmpty = false := by
          rw [ByteArray.toList_eq]
          obtain ⟨⟨l⟩⟩ := s
          have h2 : ¬ l.length = 0 := hz
          cases l with
          | nil => simp at h2
          | cons x l => rfl
        have HDT := Lib.hid (show true = d from by
          rw [← HD.out]
          unfold gPlain
          rw [hall, decide_eq_true (show bs s ≠ [] from fun e => hz (by rw [← bs_length, e]; rfl))]
          rfl)
        clear hall
        go_wp2
        go_ret
        exact ⟨congrArg (fun z => Ending.returned (.bool z)) HDT.out, rfl⟩
/-- A row of texts, as it is read. -/
def TxOut (w : World) (v : Value) (l : List (List Nat)) : Prop := ∃ A cap, v = .slice A l.length cap ∧ l.length ≤ cap ∧ (l ≠ [] → ∃ b, A = some ⟨b, 0, none⟩ ∧ TxAt w b l)
theorem TxOut.below {w w' : World} {v : Value} {l : List (List Nat)} (h : TxOut w v l) (hb : Below w.heap.size w w') : TxOut w' v l := by
  obtain ⟨A, cap, hv, hc, hx⟩ := h
  refine ⟨A, cap, hv, hc, fun hn => ?_⟩
  obtain ⟨b, hA, hf⟩ := hx hn
  exact ⟨b, hA, hf.below hb⟩
theorem TxOut.of {B : Nat} {w : World} {v : Value} {l : List (List Nat)} (h : TxNew B w v l) : TxOut w v l := by
  obtain ⟨A, c, rfl, hc, hx⟩ := h.form
  refine ⟨A, c, rfl, hc, fun hn => ?_⟩
  obtain ⟨g, rfl, _, _, ha⟩ := hx (List.length_pos_iff.2 hn)
  exact ⟨g, rfl, ha⟩
set_option maxRecDepth 100000 in
set_option maxHeartbeats 1000000 in
theorem texts_c {v1 v2 : Value} {l : List (List Nat)} (hl : l.length ≤ 100000) {w : World} (f1 : TxOut w v1 l) (f2 : TxOut w v2 l) :
    Calls Tryz.prog 24 #[v1, v2] w fun e w' => e = .returned (.bool true) ∧ Below w.heap.size w w' := by
  obtain ⟨A1, c1, rfl, hc1, _⟩ := id f1
  obtain ⟨A2, c2, rfl, hc2, _⟩ := id f2
  have F1 := Lib.hid f1; have F2 := Lib.hid f2
  clear f1 f2
  obtain ⟨n, hn⟩ : ∃ n, l.length = n := ⟨_, rfl⟩
  have HN := Lib.hid hn
  rw [hn] at hl hc1 hc2 F1 F2 ⊢
  clear hn
  go_enter Tryz.func24, Tryz.ntmps24
  go_wp2
  go_loopw [5] (fun i wr => ∃ k : Nat, k ≤ n ∧ i = .int .i64 k ∧ Hid (Below w.heap.size w wr)) (fun i _ => n - (intOf i).toNat)
  case atStart => exact ⟨0, Nat.zero_le _, rfl, Below.refl _ _⟩
  case round =>
    obtain ⟨k, hk, rfl, HI⟩ := hrel
    by_cases hlt : k < n
    · have hkl : k < l.length := by rw [HN.out]; exact hlt
      have hne : l ≠ [] := by intro e; rw [e] at hkl; exact absurd hkl (Nat.not_lt_zero _)
      obtain ⟨A, c, hv, _, hx⟩ := F1.out.below HI.out
      obtain ⟨A', c', hv', _, hx'⟩ := F2.out.below HI.out
      injection hv with e1 _ _; subst e1
      injection hv' with e1 _ _; subst e1
      obtain ⟨b1, rfl, a1⟩ := hx hne
      obtain ⟨b2, rfl, a2⟩ := hx' hne
      have hp := List.getElem?_eq_getElem hkl
      have y1 := a1 k _ hp
      have y2 := a2 k _ hp
      generalize l[k] = t at *
      generalize str t = T at *
      clear hp a1 a2 hx hx' hkl hne
      go_wp2
      go_region
      go_wp2
      go_roundw
      case rel => exact ⟨k + 1, by omega, by go_num, Below.drew HI.out⟩
      case measure => simp [intOf]; omega
    · obtain rfl : k = n := by omega
      go_wp2
      go_ret
      exact ⟨rfl, HI.out⟩
end Go.Proofs.YtbfbjalnahngjaaGreatDoor.GR
namespace Go.Proofs.YtbfbjalnahngjaaGreatDoor
open GR
theorem gErr_of {l : Tr} (hg : Good false l) (hl : (gStr l).length ≤ 128) (h0 : l.len ≠ 0) (hd : gDp l ≤ 4) (hc : gCnt l 1 ≤ 64) : gErr (gStr l) = 0 ∧ gTree (gStr l) = l := by
  have hp := (gPr_str l).1 hg [] (.inl rfl)
  rw [List.append_nil] at hp
  exact GP.gErr_ok (by omega) hp h0 (by omega) (by omega)
theorem gMatch_of {l : Tr} (hg : Good false l) (hl : (gStr l).length ≤ 128) (h0 : l.len ≠ 0) (hd : gDp l ≤ 4) (hc : gCnt l 1 ≤ 64) (n : List Nat) : gMatch (gStr l) n = gLd n l gE0 n.length := by
  obtain ⟨h1, h2⟩ := gErr_of hg hl h0 hd hc
  unfold gMatch
  rw [if_pos h1, h2]
/-! ### The fixed patterns -/
def tree1 : Tr := .atom (.one 97) (.br (.way (.atom (.one 98) .nil) (.way (.atom (.one 99) (.br (.way (.atom (.one 100) .nil) (.way (.atom (.one 101) .nil) .none)) .nil)) .none)) (.atom (.one 102) .nil))
theorem one_good {c : Nat} (h : isB c = true) : GA.Good (.one c) := h
theorem tree1_good : Good false tree1 := by
  refine ⟨one_good (by decide), ⟨⟨one_good (by decide), trivial⟩, ⟨one_good (by decide), ⟨⟨one_good (by decide), trivial⟩, ⟨one_good (by decide), trivial⟩, trivial⟩, (fun h => by cases h), trivial⟩, trivial⟩, (fun h => by cases h), one_good (by decide), trivial⟩
theorem tree1_str : gStr tree1 = [97, 123, 98, 44, 99, 123, 100, 44, 101, 125, 125, 102] := by
  simp [tree1, gStr, GA.txt]
theorem fixed1 : gErr [97, 123, 98, 44, 99, 123, 100, 44, 101, 125, 125, 102] = 0 ∧ gTree [97, 123, 98, 44, 99, 123, 100, 44, 101, 125, 125, 102] = tree1 := by
  rw [← tree1_str]
  exact gErr_of tree1_good (by rw [tree1_str]; decide) (by decide) (by decide) (by decide)
theorem fixed1_tx : gTx tree1 [[]] = [[97, 98, 102], [97, 99, 100, 102], [97, 99, 101, 102]] := by decide
def tree2 : Tr := .atom (.cls [91, 97, 45, 99, 93] [(97, 99)]) (.atom .each (.atom .star .nil))
theorem cls_good : GA.Good (.cls [91, 97, 45, 99, 93] [(97, 99)]) := by
  refine ⟨[97, 45, 99, 93], rfl, fun r => ?_, by decide, by decide⟩
  show gCls (97 :: 45 :: 99 :: 93 :: r) = some ([(97, 99)], 3)
  have hm : gMem (97 :: 45 :: 99 :: 93 :: r) = some ((97, 99), 3) := by
    unfold gMem
    simp [isB]
  rw [gCls_yes (by decide) hm]
  show (gCls (93 :: r)).map _ = _
  rw [gCls_end]
  rfl
theorem tree2_good : Good false tree2 := ⟨cls_good, trivial, trivial, trivial⟩
theorem tree2_str : gStr tree2 = [91, 97, 45, 99, 93, 63, 42] := rfl
theorem fixed2 : gErr [91, 97, 45, 99, 93, 63, 42] = 0 ∧ gMatch [91, 97, 45, 99, 93, 63, 42] [98, 49] = true ∧ gMatch [91, 97, 45, 99, 93, 63, 42] [98] = false := by
  rw [← tree2_str]
  have hl : (gStr tree2).length ≤ 128 := by rw [tree2_str]; decide
  refine ⟨(gErr_of tree2_good hl (by decide) (by decide) (by decide)).1, ?_, ?_⟩
  · rw [gMatch_of tree2_good hl (by decide) (by decide) (by decide)]; decide
  · rw [gMatch_of tree2_good hl (by decide) (by decide) (by decide)]; decide
/-! ### Pieces without braces -/
theorem ofA_match {e : List GA} (h : ∀ a ∈ e, a.Good) (he : e ≠ []) (hl : (gTxt e).length ≤ 128) (n : List Nat) : gErr (gTxt e) = 0 ∧ gMatch (gTxt e) n = gLd n (ofA e) gE0 n.length := by
  obtain ⟨h1, h2⟩ := gErr_ofA h he hl
  refine ⟨h1, ?_⟩
  unfold gMatch
  rw [if_pos h1, h2]
/-! ### Question marks -/
theorem marks_txt (k : Nat) : gTxt (List.replicate k GA.each) = List.replicate k 63 := by
  induction k with
  | zero => rfl
  | succ k ih =>
    show [63] ++ gTxt (List.replicate k GA.each) = 63 :: List.replicate k 63
    rw [ih]
    rfl
theorem marks_ld (n : List Nat) : ∀ (k : Nat) (f : Nat → Bool) (j : Nat), gLd n (ofA (List.replicate k GA.each)) f j = (decide (k ≤ j) && f (j - k))
  | 0, f, j => by
    show f j = (decide (0 ≤ j) && f (j - 0))
    simp
  | k + 1, f, j => by
    show gLd n (ofA (List.replicate k GA.each)) (gAd n .each f) j = _
    rw [marks_ld n k]
    by_cases h : k ≤ j
    · rw [decide_eq_true h, Bool.true_and]
      cases hm : j - k with
      | zero =>
        show false = _
        rw [decide_eq_false (by omega), Bool.false_and]
      | succ m =>
        show (f m && true) = _
        rw [decide_eq_true (by omega), Bool.and_true, Bool.true_and, show j - (k + 1) = m by omega]
    · rw [decide_eq_false h, decide_eq_false (by omega), Bool.false_and, Bool.false_and]
theorem marks_fit {k : Nat} (hk : 1 ≤ k) (hl : k ≤ 128) (n : List Nat) : gErr (List.replicate k 63) = 0 ∧ gMatch (List.replicate k 63) n = decide (n.length = k) := by
  have h := ofA_match (e := List.replicate k GA.each) (fun a ha => by rw [List.eq_of_mem_replicate ha]; trivial) (by intro e; have := congrArg List.length e; simp at this; omega) (by rw [marks_txt, List.length_replicate]; exact hl) n
  rw [marks_txt] at h
  refine ⟨h.1, ?_⟩
  rw [h.2, marks_ld]
  unfold gE0
  rw [← Bool.decide_and, decide_eq_decide]
  omega
/-! ### A star -/
theorem star_fit (n : List Nat) : gErr [42] = 0 ∧ gMatch [42] n = true := by
  have h := ofA_match (e := [GA.star]) (fun a ha => by rw [List.mem_singleton.1 ha]; trivial) (by decide) (by decide) n
  refine ⟨h.1, ?_⟩
  show gMatch (gTxt [GA.star]) n = true
  rw [h.2]
  show gAd n .star gE0 n.length = true
  have e : ∀ k, gAd n .star gE0 k = true := fun k => by
    have : gAd n .star gE0 k = (List.range (k + 1)).any gE0 := by cases k <;> rfl
    rw [this, List.any_eq_true]
    exact ⟨0, List.mem_range.2 (by omega), rfl⟩
  exact e _
/-! ### Plain ones -/
theorem ones_txt (p : List Nat) : gTxt (p.map GA.one) = p := by
  induction p with
  | nil => rfl
  | cons c p ih =>
    show [c] ++ gTxt (p.map GA.one) = c :: p
    rw [ih]
    rfl
theorem ones_ld : ∀ (p n : List Nat) (f : Nat → Bool) (j : Nat), j ≤ n.length → (gLd n (ofA (p.map GA.one)) f j = true ↔ p.length ≤ j ∧ f (j - p.length) = true ∧ (n.take j).drop (j - p.length) = p)
  | [], n, f, j, hj => by
    show f j = true ↔ 0 ≤ j ∧ f (j - 0) = true ∧ (n.take j).drop (j - 0) = []
    rw [Nat.sub_zero]
    exact ⟨fun h => ⟨Nat.zero_le _, h, List.drop_eq_nil_of_le (by rw [List.length_take]; omega)⟩, fun h => h.2.1⟩
  | c :: p, n, f, j, hj => by
    show gLd n (ofA (p.map GA.one)) (gAd n (.one c) f) j = true ↔ _
    rw [ones_ld p n _ j hj]
    simp only [List.length_cons]
    by_cases h : p.length < j
    · obtain ⟨m, h1, h2⟩ : ∃ m, j - p.length = m + 1 ∧ j - (p.length + 1) = m := ⟨j - (p.length + 1), by omega, rfl⟩
      rw [h1, h2]
      have hmj : m < (n.take j).length := by rw [List.length_take]; omega
      have hd : (n.take j).drop m = n.getD m 0 :: (n.take j).drop (m + 1) := by
        rw [List.drop_eq_getElem_cons hmj, List.getElem_take, List.getD_eq_getElem?_getD, List.getElem?_eq_getElem (by omega)]
        rfl
      rw [hd]
      show _ ∧ (f m && decide (c = n.getD m 0)) = true ∧ _ ↔ _
      rw [Bool.and_eq_true, decide_eq_true_eq, List.cons.injEq]
      constructor
      · rintro ⟨_, ⟨h3, h4⟩, h5⟩; exact ⟨by omega, h3, h4.symm, h5⟩
      · rintro ⟨_, h3, h4, h5⟩; exact ⟨by omega, ⟨h3, h4.symm⟩, h5⟩
    · constructor
      · rintro ⟨h3, h4, _⟩
        rw [show j - p.length = 0 by omega] at h4
        cases h4
      · rintro ⟨h3, _⟩
        omega
theorem plain_fit {p : List Nat} (hp : gPlain p = true) (hl : p.length ≤ 128) (n : List Nat) : gErr p = 0 ∧ gMatch p n = decide (p = n) := by
  unfold gPlain at hp
  rw [Bool.and_eq_true, decide_eq_true_eq, List.all_eq_true] at hp
  have h := ofA_match (e := p.map GA.one) (fun a ha => by
    obtain ⟨c, hc, rfl⟩ := List.mem_map.1 ha
    exact hp.2 c hc) (by intro e; exact hp.1 (List.map_eq_nil_iff.1 e)) (by rw [ones_txt]; exact hl) n
  rw [ones_txt] at h
  refine ⟨h.1, ?_⟩
  rw [h.2, Bool.eq_iff_iff, ones_ld p n gE0 n.length (Nat.le_refl _), List.take_length, decide_eq_true_eq]
  unfold gE0
  rw [decide_eq_true_eq]
  constructor
  · rintro ⟨h1, h2, h3⟩
    rw [h2, List.drop_zero] at h3
    exact h3.symm
  · rintro rfl
    exact ⟨Nat.le_refl _, Nat.sub_self _, by rw [Nat.sub_self, List.drop_zero]⟩
/-! ### A set -/
theorem match_ex {s : List Nat} (h : gErr s = 0) (n : List Nat) : gMatch s n = (gEx (gTree s)).any fun e => gLd n (ofA e) gE0 n.length := by
  unfold gMatch
  rw [if_pos h, gLd_ex n (gTree s) (.inl (gErr_good h).1)]
/-- What one of the expanded ones fits; the empty one: the empty name alone. -/
def fitOne (n x : List Nat) : Bool := if x = [] then decide (n = []) else gMatch x n
theorem fit_one {s x : List Nat} (h : gErr s = 0) {e : List GA} (he : e ∈ gEx (gTree s)) (hx : x = gTxt e) (n : List Nat) : (x ≠ [] → gErr x = 0) ∧ fitOne n x = gLd n (ofA e) gE0 n.length := by
  obtain ⟨hg, hl, _, _⟩ := gErr_good h
  have hgd := gEx_good (gTree s) (.inl hg) e he
  have hle := gEx_len (gTree s) (.inl hg) e he
  subst hx
  by_cases h0 : e = []
  · subst h0
    refine ⟨fun h => absurd rfl h, ?_⟩
    show (if ([] : List Nat) = [] then decide (n = []) else _) = gE0 n.length
    rw [if_pos rfl]
    unfold gE0
    rw [decide_eq_decide]
    exact ⟨fun e => by rw [e]; rfl, fun e => List.eq_nil_of_length_eq_zero e⟩
  · have hm := ofA_match hgd h0 (by omega) n
    have hne : gTxt e ≠ [] := by
      cases e with
      | nil => exact absurd rfl h0
      | cons a e =>
        obtain ⟨c, u, hc, _⟩ := good_txt (hgd a (by simp))
        intro e'
        have : a.txt ++ gTxt e = [] := e'
        rw [hc] at this
        cases this
    refine ⟨fun _ => hm.1, ?_⟩
    unfold fitOne
    rw [if_neg hne, hm.2]
theorem set_any {s : List Nat} (h : gErr s = 0) (n : List Nat) : ((gTx (gTree s) [[]]).any (fitOne n)) = gMatch s n := by
  obtain ⟨hg, _, _, _⟩ := gErr_good h
  rw [match_ex h, Bool.eq_iff_iff]
  simp only [List.any_eq_true]
  constructor
  · rintro ⟨x, hx, hf⟩
    obtain ⟨a, ha, e, he, hxe⟩ := ((gTx_mem (gTree s)).1 hg [[]] x).1 hx
    obtain rfl := List.mem_singleton.1 ha
    exact ⟨e, he, by rw [← (fit_one h he hxe n).2]; exact hf⟩
  · rintro ⟨e, he, hf⟩
    refine ⟨gTxt e, ((gTx_mem (gTree s)).1 hg [[]] _).2 ⟨[], by simp, e, he, rfl⟩, ?_⟩
    rw [(fit_one h he rfl n).2]
    exact hf
theorem set_ok {s : List Nat} (h : gErr s = 0) {x : List Nat} (hx : x ∈ gTx (gTree s) [[]]) : (x ≠ [] → gErr x = 0) ∧ x.length ≤ 128 := by
  obtain ⟨hg, hl, _, _⟩ := gErr_good h
  obtain ⟨a, ha, e, he, hxe⟩ := ((gTx_mem (gTree s)).1 hg [[]] x).1 hx
  obtain rfl := List.mem_singleton.1 ha
  refine ⟨(fit_one h he hxe []).1, ?_⟩
  have := gEx_len (gTree s) (.inl hg) e he
  rw [hxe]
  show (gTxt e).length ≤ 128
  omega
def two (p q : List Nat) : List Nat := [123] ++ p ++ [44] ++ q ++ [125]
theorem two_is {p q : List Nat} (hp : gErr p = 0) (hq : gErr q = 0) : two p q = gStr (.br (.way (gTree p) (.way (gTree q) .none)) .nil) ∧ Good false (.br (.way (gTree p) (.way (gTree q) .none)) .nil) := by
  obtain ⟨g1, _, _, e1⟩ := gErr_good hp
  obtain ⟨g2, _, _, e2⟩ := gErr_good hq
  refine ⟨?_, ⟨g1, g2, trivial⟩, (fun h => by cases h), trivial⟩
  show _ = 123 :: ((gStr (gTree p) ++ 44 :: (gStr (gTree q) ++ [125])) ++ [])
  rw [← e1, ← e2]
  unfold two
  simp
theorem two_err {p q : List Nat} (hp : gErr p = 0) (hq : gErr q = 0) (h1 : p.length ≤ 60) (h2 : q.length ≤ 60) : gErr (two p q) = 0 ∨ gErr (two p q) = 19 ∨ gErr (two p q) = 11 := by
  obtain ⟨he, hg⟩ := two_is hp hq
  have hlen : (two p q).length ≤ 128 := by unfold two; simp; omega
  have hpr := (gPr_str (.br (.way (gTree p) (.way (gTree q) .none)) .nil)).1 hg [] (.inl rfl)
  rw [List.append_nil, ← he] at hpr
  by_cases hd : 4 < gDp (.br (.way (gTree p) (.way (gTree q) .none)) .nil)
  · exact .inr (.inl (GP.gErr_deep (by omega) hpr (fun h => absurd h (Nat.succ_ne_zero _)) hd))
  · by_cases hc : 64 < gCnt (.br (.way (gTree p) (.way (gTree q) .none)) .nil) 1
    · exact .inr (.inr (GP.gErr_many (by omega) hpr (fun h => absurd h (Nat.succ_ne_zero _)) hd hc))
    · exact .inl (GP.gErr_ok (by omega) hpr (fun h => absurd h (Nat.succ_ne_zero _)) hd hc).1
theorem two_fit {p q : List Nat} (hp : gErr p = 0) (hq : gErr q = 0) (h : gErr (two p q) = 0) (n : List Nat) : gMatch (two p q) n = (gMatch p n || gMatch q n) := by
  obtain ⟨he, hg⟩ := two_is hp hq
  have hpr := (gPr_str (.br (.way (gTree p) (.way (gTree q) .none)) .nil)).1 hg [] (.inl rfl)
  rw [List.append_nil, ← he] at hpr
  have ht : gTree (two p q) = .br (.way (gTree p) (.way (gTree q) .none)) .nil := by
    rw [show gTree (two p q) = (match gPr false (two p q) with | none => Tr.nil | some (l, _) => l) from rfl, hpr]
  unfold gMatch
  rw [if_pos h, if_pos hp, if_pos hq, ht]
  show (gLd n (gTree p) gE0 n.length || (gLd n (gTree q) gE0 n.length || false)) = _
  rw [Bool.or_false]
end Go.Proofs.YtbfbjalnahngjaaGreatDoor
