/-
  Contracts of the program's functions of layer 15: read, Expand, Match.
-/
import Derived.Test.YtkgmglncdiccfaaDoorGlbPH
import Derived.Test.YtkgmglncdiccfaaDoorGlbPDb
import Derived.Test.YtkgmglncdiccfaaDoorGlbPJ
import Derived.Test.YtkgmglncdiccfaaDoorGlbPO
set_option linter.unusedSimpArgs false
set_option linter.unusedVariables false
namespace Go.Proofs.YtkgmglncdiccfaaDoor
open Go.RowKit
theorem gErr_zero {s : List Nat} (h : gErr s = 0) : s.length ≤ 128 ∧ gPr false s = some (gTree s, []) ∧ (gTree s).len ≠ 0 ∧ gDp (gTree s) ≤ 4 ∧ gCnt (gTree s) 1 ≤ 64 := by
  unfold gErr at h
  unfold gTree
  by_cases hl : 128 < s.length
  · rw [if_pos hl] at h; cases h
  · rw [if_neg hl] at h
    cases hp : gPr false s with
    | none => rw [hp] at h; cases h
    | some x =>
      obtain ⟨l, r⟩ := x
      rw [hp] at h
      simp only at h ⊢
      by_cases h1 : l.len = 0 ∨ r ≠ []
      · rw [if_pos h1] at h; cases h
      · rw [if_neg h1] at h
        by_cases h2 : 4 < gDp l
        · rw [if_pos h2] at h; cases h
        · rw [if_neg h2] at h
          by_cases h3 : 64 < gCnt l 1
          · rw [if_pos h3] at h; cases h
          · have hr : r = [] := Decidable.byContradiction fun e => h1 (.inr e)
            subst hr
            exact ⟨by omega, rfl, fun e => h1 (.inl e), by omega, by omega⟩
theorem gErr_good {s : List Nat} (h : gErr s = 0) : Good false (gTree s) ∧ (gStr (gTree s)).length ≤ 128 ∧ gNm (gTree s) ≤ 64 ∧ s = gStr (gTree s) := by
  obtain ⟨h1, h2, h3, h4, h5⟩ := gErr_zero h
  have hp := gPr_pf h2
  have he : s = gStr (gTree s) := by have := hp.2.1; rwa [List.append_nil] at this
  refine ⟨hp.1, by rw [← he]; exact h1, ?_, he⟩
  have := (gCnt_num (gTree s)).1 hp.1 1 (by omega)
  omega
namespace GP
theorem read_c (S : ByteArray) (hsz : S.size ≤ 9223372036854775807) (w : World) :
    Calls Tryd.prog 23 #[.string S] w fun e w' => ∃ v, e = .returned (.tuple #[v, .int .i64 (gErr (bs S))]) ∧ RdI w.heap.size w' (bs S) v ∧ Below w.heap.size w w' :=
  read_of (psC_all 128 braces_c) S hsz w
set_option maxRecDepth 100000 in
set_option maxHeartbeats 4000000 in
theorem match_c (S N : ByteArray) (hsz : S.size ≤ 9223372036854775807) (hs : N.size ≤ 900) (w : World) :
    Calls Tryd.prog 21 #[.string S, .string N] w fun e w' => e = .returned (.tuple #[.bool (gMatch (bs S) (bs N)), .int .i64 (gErr (bs S))]) ∧ Below w.heap.size w w' := by
  have RC := Lib.hid (read_c S hsz w)
  have HG := Lib.hid (fun h => gErr_good (s := bs S) h)
  obtain ⟨M, hM⟩ : ∃ M, gMatch (bs S) (bs N) = M := ⟨_, rfl⟩
  obtain ⟨E, hE⟩ : ∃ E, gErr (bs S) = E := ⟨_, rfl⟩
  have HE := Lib.hid hE; have HM := Lib.hid hM
  rw [hE] at RC
  rw [hE, hM]
  clear hE hM
  obtain ⟨i0, hi0, hz0, hzz1, hzz2⟩ := info_parts bool_info
  obtain ⟨n, hn⟩ : ∃ n, N.size = n := ⟨_, rfl⟩
  have HNN := Lib.hid hn
  rw [hn] at hs
  have hn1 : IntKind.i64.wrap ((N.size : Int) + 1) = ((n + 1 : Nat) : Int) := by rw [IntKind.wrap_i64]; omega
  go_enter Tryd.func21, Tryd.ntmps21
  go_wp2_with fail
  refine RC.out.mono ?_; rintro _ w2 ⟨v, rfl, hri, hb2⟩
  by_cases h0 : E = 0
  · subst h0
    obtain ⟨hp, hg, ht⟩ := hri HE.out
    obtain ⟨hg1, hg2, hg3, -⟩ := HG.out HE.out
    have HT := Lib.hid ht.rd
    have LC := Lib.hid (fun (g : Nat) (f : Nat → Bool) (W : World) (hW : Below w2.heap.size w2 W) (hr : BRow W g (n + 1) f) => lead_c (gTree (bs S)) hg1 (by omega) v N g (n + 1) f W (by rw [hn]; exact hs) (by rw [hn]; exact Nat.le_refl _) (ht.rd.below hW) (by rw [hn]; exact hr))
    rw [hn] at LC
    have HMM := Lib.hid (show gLd (bs N) (gTree (bs S)) gE0 n = M by
      have := HM.out
      unfold gMatch at this
      rw [if_pos HE.out, bs_length, hn] at this
      exact this)
    have HB2 := Lib.hid hb2
    obtain ⟨A, c, rfl, -, -⟩ := ht.rd.form
    clear hri hp hg ht hb2 hg1 hg2 hg3
    go_upto_region 5 with (at_make; refine wpList_make_full _ rfl _ _ 43 rfl 0 4 i0 (.bool false) 1 Tryd.underlying43 hi0 hz0 hzz1 .i64 .i64 _ _ (n + 1) rfl rfl (by omega) (by omega) (by rw [hzz2]; omega) (by unfold maxLen; omega) (Nat.zero_le _) ?_; intro w3 hown3 hg3)
    have hbl := below_none hg3
    have hx3 := BRow.made hown3 (Nat.succ_pos n)
    obtain ⟨gx, hgx⟩ : ∃ gx, w2.heap.size = gx := ⟨_, rfl⟩
    rw [hgx] at hx3 ⊢
    have c0 := hx3.c 0 (by omega)
    have f0 := hx3.fz 0 (by omega)
    have HX4 := Lib.hid (show BRow (w3.setCell ⟨gx, 0, none⟩ (.bool true)) gx (n + 1) gE0 from hx3.set (x := true) (k := 0) (by omega) (fun j hj => by
      unfold gE0
      by_cases e : j = 0
      · rw [if_pos e, e]; rfl
      · rw [if_neg e, decide_eq_false e]))
    have HB4 := Lib.hid (show Below w2.heap.size w2 (w3.setCell ⟨gx, 0, none⟩ (.bool true)) from hbl.setCell (p := ⟨gx, 0, none⟩) (by rw [hgx]; exact Nat.le_refl _) _)
    have hbI : (0 : Int) < (n : Int) + 1 := by omega
    clear hown3 hg3 hbl hx3
    have LC1 := Lib.hid (LC.out gx gE0 _ HB4.out HX4.out)
    clear LC
    go_wp2_with fail
    refine LC1.out.mono ?_; rintro _ w5 ⟨g', c', rfl, hc', -, hbr, hb5⟩
    have HB5 := Lib.hid (bnext HB2.out (bnext HB4.out hb5))
    have cn := hbr.c n (by omega)
    rw [HMM.out] at cn
    have hbJ : (n : Int) < (n : Int) + 1 := by omega
    have hbN : n < n + 1 := by omega
    clear hbr hb5 LC1
    go_wp2
    go_ret2
    exact ⟨rfl, HB5.out⟩
  · have hb : (E != 0) = true := bne_iff_ne.2 h0
    have hm : M = false := by
      have := HM.out
      unfold gMatch at this
      rw [if_neg (by rw [HE.out]; exact h0)] at this
      exact this.symm
    subst hm
    have HB2 := Lib.hid hb2
    clear hri hb2
    go_wp2
    go_ret2
    exact ⟨rfl, HB2.out⟩
end GP
end Go.Proofs.YtkgmglncdiccfaaDoor
