/-
  Plain facts on numbers as floats: their kinds, their order, there and back; for the statements of layer 4. Nothing of the program is imported.
-/
import Derived.Test.YtcppcfjejalggaaFloMath3
set_option linter.unusedSimpArgs false
set_option linter.unusedVariables false
namespace Go.Proofs.Ytcppcfjejalggaa
theorem toB_zero : toB 0 = 0 := by unfold toB; rw [if_pos rfl]
theorem toB_eq {v : Int} {k : Nat} (h0 : v ≠ 0) (hk : KK v.natAbs k) : toB v = (if v < 0 then 9223372036854775808 else 0) + toPos v.natAbs k := by
  unfold toB; rw [if_neg h0, fK_of hk]
theorem KK_of {v : Int} (h0 : v ≠ 0) (h1 : -9223372036854775807 ≤ v) (h2 : v ≤ 9223372036854775807) : ∃ k, KK v.natAbs k ∧ 9 ≤ k ∧ k ≤ 72 := by
  obtain ⟨k, hk⟩ := KK_ex (v := v.natAbs) (by omega) (by omega)
  exact ⟨k, hk, KK_bounds hk (by omega) (by omega)⟩
theorem toB_lt {v : Int} (h1 : -9223372036854775807 ≤ v) (h2 : v ≤ 9223372036854775807) : toB v < 18446744073709551616 := by
  by_cases h0 : v = 0
  · subst h0; rw [toB_zero]; decide
  · obtain ⟨k, hk, hb⟩ := KK_of h0 h1 h2
    rw [toB_eq h0 hk]
    have := toPos_range hk hb
    split <;> omega
/-- What the bits say of the sign, e and m. -/
theorem neg_bits {t : Nat} (ht : t < 9223372036854775808) : fSgn (9223372036854775808 + t) = true ∧ fExp (9223372036854775808 + t) = fExp t ∧ fFrc (9223372036854775808 + t) = fFrc t := by
  refine ⟨?_, ?_, ?_⟩
  · unfold fSgn; rw [decide_eq_true_eq]; omega
  · unfold fExp; omega
  · unfold fFrc; omega
theorem neg_parts {t : Nat} (ht : t < 9223372036854775808) : fM (9223372036854775808 + t) = fM t ∧ fE (9223372036854775808 + t) = fE t := by
  obtain ⟨_, h1, h2⟩ := neg_bits ht
  unfold fM fE
  rw [h1, h2]
  exact ⟨rfl, rfl⟩
theorem fKind_of {n : Nat} (hm : ¬ fM n = 0) (he : ¬ fE n = 1000) : fKind n = if fSgn n = true then 2 else 5 := by
  unfold fKind
  generalize fM n = m at *
  generalize fE n = e at *
  cases fSgn n <;> simp [hm, he]
theorem toPos_mne {v k : Nat} (hk : KK v k) (hb : 9 ≤ k ∧ k ≤ 72) : ¬ fM (toPos v k) = 0 ∧ ¬ fE (toPos v k) = 1000 := by
  have hr := rhe_range hk
  rcases (toPos_parts hk hb).2 with ⟨_, _, hm, he⟩ | ⟨_, _, hm, he⟩
  · rw [hm, he]; omega
  · rw [hm, he]
    exact ⟨by decide, by omega⟩
theorem toB_kind {v : Int} (h1 : -9223372036854775807 ≤ v) (h2 : v ≤ 9223372036854775807) : fKind (toB v) = if v < 0 then 2 else if v = 0 then 4 else 5 := by
  by_cases h0 : v = 0
  · subst h0; rw [toB_zero]; rfl
  · obtain ⟨k, hk, hb⟩ := KK_of h0 h1 h2
    obtain ⟨hm, he⟩ := toPos_mne hk hb
    have hs := (toPos_parts hk hb).1
    have hlt := toPos_range hk hb
    rw [toB_eq h0 hk]
    by_cases hn : v < 0
    · rw [if_pos hn, if_pos hn]
      obtain ⟨a1, _, _⟩ := neg_bits (t := toPos v.natAbs k) (by omega)
      obtain ⟨a2, a3⟩ := neg_parts (t := toPos v.natAbs k) (by omega)
      rw [fKind_of (by rw [a2]; exact hm) (by rw [a3]; exact he), a1, if_pos rfl]
    · rw [if_neg hn, if_neg hn, if_neg h0, Nat.zero_add, fKind_of hm he, hs]
      rfl
theorem toB_rank {v : Int} (h1 : -9223372036854775807 ≤ v) (h2 : v ≤ 9223372036854775807) : fRank (toB v) = if v < 0 then 2 * 36893488147419103232 - (toB v : Int) else if v = 0 then 4 * 36893488147419103232 else 5 * 36893488147419103232 + (toB v : Int) := by
  unfold fRank
  rw [toB_kind h1 h2]
  by_cases hn : v < 0
  · rw [if_pos hn, if_pos hn, fOff_two]; omega
  · rw [if_neg hn, if_neg hn]
    by_cases h0 : v = 0
    · rw [if_pos h0, if_pos h0, fOff_other (by decide) (by decide)]; omega
    · rw [if_neg h0, if_neg h0, fOff_five]
/-- Floats rise with their numbers. -/
theorem toB_rise {v u : Int} (hv1 : -9223372036854775807 ≤ v) (hv2 : v ≤ 9223372036854775807) (hu1 : -9223372036854775807 ≤ u) (hu2 : u ≤ 9223372036854775807) (h : v ≤ u) : fCmp (toB v) (toB u) ≤ 0 := by
  have hle : fRank (toB v) ≤ fRank (toB u) := by
    rw [toB_rank hv1 hv2, toB_rank hu1 hu2]
    have lv := toB_lt hv1 hv2
    have lu := toB_lt hu1 hu2
    by_cases h0 : v = 0
    · subst h0
      by_cases h0' : u = 0
      · subst h0'; exact Int.le_refl _
      · rw [if_neg (by omega), if_pos rfl, if_neg (by omega), if_neg h0']; omega
    · by_cases h0' : u = 0
      · subst h0'
        rw [if_pos (by omega), if_neg (by omega), if_pos rfl]; omega
      · obtain ⟨k, hk, hb⟩ := KK_of h0 hv1 hv2
        obtain ⟨l, hl, hb'⟩ := KK_of h0' hu1 hu2
        have e1 := toB_eq h0 hk
        have e2 := toB_eq h0' hl
        have r1 := toPos_range hk hb
        have r2 := toPos_range hl hb'
        by_cases hn : v < 0
        · by_cases hn' : u < 0
          · rw [if_pos hn] at e1
            rw [if_pos hn'] at e2
            rw [if_pos hn, if_pos hn']
            have := toPos_mono hl hk (by omega) hb'.2
            omega
          · rw [if_pos hn, if_neg hn', if_neg h0']; omega
        · rw [if_neg hn] at e1
          rw [if_neg (by omega)] at e2
          rw [if_neg hn, if_neg h0, if_neg (by omega), if_neg h0']
          have := toPos_mono hk hl (by omega) hb.2
          omega
  rw [fCmp_rank (toB_lt hv1 hv2) (toB_lt hu1 hu2)]
  by_cases hx : fRank (toB v) < fRank (toB u)
  · rw [if_pos hx]; decide
  · rw [if_neg hx, if_neg (by omega)]; decide
/-- There and back. -/
theorem toB_back {v : Int} (h1 : -2251799813685248 ≤ v) (h2 : v ≤ 2251799813685248) : frN (toB v) = (false, v, 0) := by
  by_cases h0 : v = 0
  · subst h0; rw [toB_zero]; decide +kernel
  · obtain ⟨k, hk, hb⟩ := KK_of h0 (by omega) (by omega)
    have hkind := toB_kind (v := v) (by omega) (by omega)
    have hbk := back_pos hk (by omega) (by omega)
    have hlt := toPos_range hk hb
    have e1 := toB_eq h0 hk
    have hne : fKind (toB v) ≠ 0 ∧ fKind (toB v) ≠ 1 ∧ fKind (toB v) ≠ 6 := by
      rw [hkind, if_neg h0]; split <;> decide
    have hmm : frM (toB v) = v.natAbs ∧ fSgn (toB v) = decide (v < 0) := by
      by_cases hn : v < 0
      · rw [if_pos hn] at e1
        obtain ⟨a1, _, _⟩ := neg_bits (t := toPos v.natAbs k) (by omega)
        obtain ⟨a2, a3⟩ := neg_parts (t := toPos v.natAbs k) (by omega)
        rw [e1]
        refine ⟨?_, by rw [a1, decide_eq_true hn]⟩
        have e2 : frM (9223372036854775808 + toPos v.natAbs k) = frM (toPos v.natAbs k) := by unfold frM; rw [a2, a3]
        rw [e2]; exact hbk
      · rw [if_neg hn, Nat.zero_add] at e1
        rw [e1]
        exact ⟨hbk, by rw [(toPos_parts hk hb).1, decide_eq_false hn]⟩
    unfold frN
    rw [if_neg hne.1, if_neg (by omega), hmm.1, hmm.2, if_neg (by omega)]
    by_cases hn : v < 0
    · rw [decide_eq_true hn, if_pos rfl]
      have : -(v.natAbs : Int) = v := by omega
      rw [this]
    · rw [decide_eq_false hn]
      have : (v.natAbs : Int) = v := by omega
      simp [this]
theorem frN_nan {n : Nat} (h : fKind n = 0) : frN n = (true, 0, 0) := by unfold frN; rw [if_pos h]
end Go.Proofs.Ytcppcfjejalggaa
