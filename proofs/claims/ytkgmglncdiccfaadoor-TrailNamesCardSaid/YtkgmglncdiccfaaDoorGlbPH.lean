/-
  Contracts of the program's functions of layer 15: read.
-/
import Derived.Test.YtkgmglncdiccfaaDoorGlbPF
import Derived.Test.YtkgmglncdiccfaaDoorGlbPG
set_option linter.unusedSimpArgs false
set_option linter.unusedVariables false
namespace Go.Proofs.YtkgmglncdiccfaaDoor.GP
open Go.RowKit
theorem max_two (a b : Int) : max a b = if a ≤ b then b else a := by omega
/-- What read answers. -/
def RdI (B : Nat) (w' : World) (s : List Nat) (v : Value) : Prop := gErr s = 0 → gPr false s = some (gTree s, []) ∧ Good false (gTree s) ∧ TrNew B w' v (gTree s)
theorem gErr_long {s : List Nat} (h : 128 < s.length) : gErr s = 12 := if_pos h
theorem gErr_none {s : List Nat} (h : ¬ 128 < s.length) (hp : gPr false s = none) : gErr s = 10 := by unfold gErr; rw [if_neg h, hp]
theorem gErr_form {s r : List Nat} {l : Tr} (h : ¬ 128 < s.length) (hp : gPr false s = some (l, r)) (hr : l.len = 0 ∨ r ≠ []) : gErr s = 10 := by unfold gErr; rw [if_neg h, hp]; exact if_pos hr
theorem gErr_deep {s : List Nat} {l : Tr} (h : ¬ 128 < s.length) (hp : gPr false s = some (l, [])) (hl : ¬ l.len = 0) (hd : 4 < gDp l) : gErr s = 19 := by
  unfold gErr; rw [if_neg h, hp]; simp only [hl, ne_eq, not_true, or_self, if_false]; exact if_pos hd
theorem gErr_many {s : List Nat} {l : Tr} (h : ¬ 128 < s.length) (hp : gPr false s = some (l, [])) (hl : ¬ l.len = 0) (hd : ¬ 4 < gDp l) (hc : 64 < gCnt l 1) : gErr s = 11 := by
  unfold gErr; rw [if_neg h, hp]; simp only [hl, ne_eq, not_true, or_self, if_false]; rw [if_neg hd, if_pos hc]
theorem gErr_ok {s : List Nat} {l : Tr} (h : ¬ 128 < s.length) (hp : gPr false s = some (l, [])) (hl : ¬ l.len = 0) (hd : ¬ 4 < gDp l) (hc : ¬ 64 < gCnt l 1) : gErr s = 0 ∧ gTree s = l := by
  unfold gErr gTree; rw [hp]; simp only [hl, ne_eq, not_true, or_self, if_false]; rw [if_neg h, if_neg hd, if_neg hc]; exact ⟨rfl, trivial⟩
set_option maxRecDepth 100000 in
set_option maxHeartbeats 4000000 in
theorem read_of (HPS : PsC 128) (S : ByteArray) (hsz : S.size ≤ 9223372036854775807) (w : World) :
    Calls Tryd.prog 23 #[.string S] w fun e w' => ∃ v, e = .returned (.tuple #[v, .int .i64 (gErr (bs S))]) ∧ RdI w.heap.size w' (bs S) v ∧ Below w.heap.size w w' := by
  by_cases hl : 128 < S.size
  · have hi : (128 : Int) < (S.size : Int) := by omega
    have HE := Lib.hid (gErr_long (s := bs S) (by rw [bs_length]; exact hl))
    go_enter Tryd.func23, Tryd.ntmps23
    go_wp2
    go_ret2
    exact ⟨_, by rw [HE.out]; rfl, (fun h => by rw [HE.out] at h; cases h), Below.refl _ _⟩
  · have hi : ¬ (128 : Int) < (S.size : Int) := by omega
    have HL := Lib.hid (show ¬ 128 < (bs S).length by rw [bs_length]; exact hl)
    have HP := Lib.hid (fun (W : World) (rb : Nat) (hW : Rd W rb (bs S) 0 0) => HPS rb (bs S) 0 0 ⟨Int.le_refl _, Int.le_refl _⟩ (by rw [bs_length]; omega) (bs_mem S) (by rw [bs_length]; omega) (by omega) W hW)
    have HRX := Lib.hid (show Rd (w.alloc (.cells #[.string S, .int .i64 0, .int .i64 0] 59)) w.heap.size (bs S) 0 0 from ⟨DVar.alloc _ _, by
      have := holds_alloc w [.string S, .int .i64 0, .int .i64 0] 59
      rw [str_bs]
      exact this⟩)
    have HBX := Lib.hid (alloc_below w (.cells #[.string S, .int .i64 0, .int .i64 0] 59))
    go_enter Tryd.func23, Tryd.ntmps23
    go_wp2_with fail
    refine (HP.out _ _ HRX.out).mono ?_; rintro _ w2 ⟨v, ok, rfl, hps, hg2⟩
    have HB2 := Lib.hid (show Below w.heap.size w w2 from (HBX.out.trans (Below.mono ⟨hg2.os, hg2.tape, hg2.output, hg2.size, fun i hi => hg2.block i (by simp; omega) (by intro e; injection e with e; omega)⟩ (Nat.le_refl _))))
    cases ok with
    | false =>
      have HE := Lib.hid (gErr_none HL.out hps.1)
      clear hps hg2
      go_wp2
      go_ret2
      exact ⟨_, by rw [HE.out]; rfl, (fun h => by rw [HE.out] at h; cases h), HB2.out⟩
    | true =>
      obtain ⟨l, r, hp, ht, hr⟩ := hps
      have HT := Lib.hid (ht.mono (B := w.heap.size) (by simp))
      obtain ⟨A, c, rfl, hc, -⟩ := ht.rd.form
      obtain ⟨k0, -, k2, -, -, -⟩ := hr.three
      have hgp := gPr_pf hp
      have hll := (gStr_len l).1 hgp.1
      have hlen := congrArg List.length hgp.2.1
      rw [List.length_append, bs_length] at hlen
      have hdd : max (0 : Int) (0 + (gDp l : Nat)) = (gDp l : Nat) := by omega
      rw [hdd] at k2
      have CN := Lib.hid (count_c l hgp.1 (by omega) _ w2 ht.rd)
      have HGP := Lib.hid hgp; have HPP := Lib.hid hp
      have hl9 : l.len ≤ 900 := by omega
      have hd9 : gDp l ≤ 900 := by omega
      have hc65 : gCnt l 1 ≤ 65 := gCnt_le l hgp.1 1 (by omega)
      obtain ⟨n, hn⟩ : ∃ n, l.len = n := ⟨_, rfl⟩
      obtain ⟨dp, hdp⟩ : ∃ dp, gDp l = dp := ⟨_, rfl⟩
      obtain ⟨cn, hcn⟩ : ∃ cn, gCnt l 1 = cn := ⟨_, rfl⟩
      rw [hn] at CN HT hc hl9 ⊢
      rw [hdp] at k2 hd9
      rw [hcn] at CN hc65
      have HN := Lib.hid hn; have HDP := Lib.hid hdp; have HCN := Lib.hid hcn
      clear ht hr hdd hg2 hgp hp hn hdp hcn hll hlen
      by_cases hz : n = 0
      · subst hz
        have HE := Lib.hid (gErr_form HL.out HPP.out (.inl HN.out))
        go_wp2
        go_ret2
        exact ⟨_, by rw [HE.out]; rfl, (fun h => by rw [HE.out] at h; cases h), HB2.out⟩
      · have hzi : ¬ (n : Int) = 0 := by omega
        have hzb : ((n : Int) == 0) = false := beq_false_of_ne hzi
        by_cases hrn : r = []
        · subst hrn
          have k1 : w2.cell? ⟨w.heap.size, 0, none⟩ = some (.string ⟨#[]⟩) := k0
          clear k0
          by_cases h4 : 4 < dp
          · have h4i : (4 : Int) < (dp : Int) := by omega
            have HE := Lib.hid (gErr_deep HL.out HPP.out (by rw [HN.out]; exact hz) (by rw [HDP.out]; exact h4))
            go_wp2
            go_ret2
            exact ⟨_, by rw [HE.out]; rfl, (fun h => by rw [HE.out] at h; cases h), HB2.out⟩
          · have h4i : ¬ (4 : Int) < (dp : Int) := by omega
            by_cases h64 : 64 < cn
            · have h64i : (64 : Int) < (cn : Int) := by omega
              have HE := Lib.hid (gErr_many HL.out HPP.out (by rw [HN.out]; exact hz) (by rw [HDP.out]; exact h4) (by rw [HCN.out]; exact h64))
              go_wp2_with fail
              refine CN.out.mono ?_; rintro _ w3 ⟨rfl, hb3⟩
              have HB3 := Lib.hid (bnext HB2.out hb3)
              clear hb3
              go_wp2
              go_ret2
              exact ⟨_, by rw [HE.out]; rfl, (fun h => by rw [HE.out] at h; cases h), HB3.out⟩
            · have h64i : ¬ (64 : Int) < (cn : Int) := by omega
              have HE := Lib.hid (gErr_ok HL.out HPP.out (by rw [HN.out]; exact hz) (by rw [HDP.out]; exact h4) (by rw [HCN.out]; exact h64))
              go_wp2_with fail
              refine CN.out.mono ?_; rintro _ w3 ⟨rfl, hb3⟩
              have HB3 := Lib.hid (bnext HB2.out hb3)
              have HT3 := Lib.hid (HT.out.below hb3)
              clear hb3
              go_wp2
              go_ret2
              exact ⟨_, by rw [HE.out.1]; rfl, (fun _ => by rw [HE.out.2]; exact ⟨HPP.out, HGP.out.1, HT3.out⟩), HB3.out⟩
        · have HE := Lib.hid (gErr_form HL.out HPP.out (.inr hrn))
          obtain ⟨R, hRs⟩ : ∃ R, str r = R := ⟨_, rfl⟩
          have hne : R.toList.isEmpty = false := ne_empty2 (by rw [← hRs, str_size]; exact List.length_pos_iff.2 hrn)
          rw [hRs] at k0
          clear hRs
          go_wp2
          go_ret2
          exact ⟨_, by rw [HE.out]; rfl, (fun h => by rw [HE.out] at h; cases h), HB2.out⟩
end Go.Proofs.YtkgmglncdiccfaaDoor.GP
