/-
  Contracts of the program's own functions of layer 3 (decimal), third part: Parse.
-/
import Derived.Test.YtnnilllnkklecaaDoorDecPB
set_option linter.unusedSimpArgs false
set_option linter.unusedVariables false
namespace Go.Proofs.YtnnilllnkklecaaDoor.DP
open Go.RowKit Go.Sort

theorem bs_lt (s : ByteArray) : ∀ c ∈ bs s, c < 256 := by
  intro c hc
  simp only [bs, List.mem_map] at hc
  obtain ⟨x, _, rfl⟩ := hc
  exact x.toNat_lt
theorem mem_cut1 {l : List Nat} {c : Nat} (h : c ∈ cut1 l) : c ∈ l := by
  unfold cut1 at h
  split at h
  · exact List.mem_of_mem_drop h
  · exact h
theorem cut1_length (l : List Nat) : (cut1 l).length ≤ l.length := by
  unfold cut1
  split
  · rw [List.length_drop]; omega
  · exact Nat.le_refl _
theorem mem_ipart : ∀ {l : List Nat} {c : Nat}, c ∈ ipart l → c ∈ l
  | [], c, h => h
  | d :: l, c, h => by
    unfold ipart at h
    split at h
    · cases h
    · rcases List.mem_cons.1 h with rfl | h
      · exact List.mem_cons_self
      · exact List.mem_cons_of_mem _ (mem_ipart h)
theorem mem_fpart : ∀ {l : List Nat} {c : Nat}, c ∈ fpart l → c ∈ l
  | [], c, h => h
  | d :: l, c, h => by
    unfold fpart at h
    split at h
    · exact List.mem_cons_of_mem _ h
    · exact List.mem_cons_of_mem _ (mem_fpart h)
theorem ipart_length : ∀ l : List Nat, (ipart l).length ≤ l.length
  | [] => Nat.le_refl _
  | d :: l => by
    unfold ipart
    split
    · exact Nat.zero_le _
    · simp only [List.length_cons]; have := ipart_length l; omega
theorem fpart_length : ∀ l : List Nat, (fpart l).length ≤ l.length
  | [] => Nat.le_refl _
  | d :: l => by
    unfold fpart
    split
    · simp
    · simp only [List.length_cons]; have := fpart_length l; omega
set_option maxRecDepth 100000 in
set_option maxHeartbeats 2000000 in
theorem parse_c (s : ByteArray) (hs : s.size ≤ 9223372036854775807) (w : World) (hG : G w) :
    Calls Tryd.prog 8 #[.string s] w fun e w' => e = .returned (.tuple #[.agg #[.bool false, .int .i64 (canP (bs s)).1], .int .i64 (canP (bs s)).2]) ∧ Below w.heap.size w w' := by
  by_cases hl : 64 < s.size
  · have hL : canP (bs s) = (0, 12) := by unfold canP; rw [if_pos (by rw [bs_length]; exact hl)]
    rw [hL]
    go_enter Tryd.func8, Tryd.ntmps8
    go_wp2
    exact bodyPost_ret (v := .tuple #[.agg #[.bool false, .int .i64 0], .int .i64 12]) (by simp [results, Tryd.results8, go_sem]) rfl ⟨rfl, (Below.refl _ _).alloc (Nat.le_refl _) _⟩
  · have hC : canP (bs s) = canon (cut1 (bs s)) (sgnB (bs s)) := by unfold canP; rw [if_neg (by rw [bs_length]; exact hl)]
    rw [hC]
    have p1 := cutSign_c s
    obtain ⟨R, hR⟩ : ∃ R, str (cut1 (bs s)) = R := ⟨_, rfl⟩
    have hRb : bs R = cut1 (bs s) := by rw [← hR]; exact bs_str fun c hc => bs_lt s c (mem_cut1 hc)
    have hRs : R.size ≤ 64 := by rw [← bs_length, hRb]; have := cut1_length (bs s); rw [bs_length] at this; omega
    have p2 := cut_c R hRs
    obtain ⟨I, hI⟩ : ∃ I, str (ipart (bs R)) = I := ⟨_, rfl⟩
    obtain ⟨F, hF⟩ : ∃ F, str (fpart (bs R)) = F := ⟨_, rfl⟩
    have hIb : bs I = ipart (bs R) := by rw [← hI]; exact bs_str fun c hc => bs_lt R c (mem_ipart hc)
    have hFb : bs F = fpart (bs R) := by rw [← hF]; exact bs_str fun c hc => bs_lt R c (mem_fpart hc)
    have hIs : I.size ≤ 64 := by rw [← bs_length, hIb]; have := ipart_length (bs R); rw [bs_length] at this; omega
    have hFs : F.size ≤ 64 := by rw [← bs_length, hFb]; have := fpart_length (bs R); rw [bs_length] at this; omega
    have hIFs : (I ++ F).size ≤ 128 := by rw [ByteArray.size_append]; omega
    rw [hR] at p1
    rw [hI, hF] at p2
    have p3 := digits_c (I ++ F) (by omega)
    rw [bs_append] at p3
    have hcan : canon (cut1 (bs s)) (sgnB (bs s)) = if allD (bs I) = true ∧ allD (bs F) = true ∧ bs I ++ bs F ≠ [] then
        if 9223372036854775807 < magn (bs I) (bs F) then (0, 3) else (if sgnB (bs s) then -(magn (bs I) (bs F) : Int) else (magn (bs I) (bs F) : Int), 0) else (0, 2) := by
      rw [← hRb, hIb, hFb]; rfl
    rw [hcan]
    generalize sgnB (bs s) = neg at *
    have P1 := Lib.hid p1; have P2 := Lib.hid p2; have P3 := Lib.hid p3
    have HG := Lib.hid hG
    clear p1 p2 p3 hcan hC hR hI hF hIb hFb hRb hG
    by_cases hok : allD (bs I) = true ∧ allD (bs F) = true ∧ bs I ++ bs F ≠ []
    · rw [if_pos hok]
      have hokD : okD (bs I ++ bs F) = true := by rw [okD_iff, allD_append]; exact ⟨⟨hok.1, hok.2.1⟩, hok.2.2⟩
      rw [hokD] at P3
      have p4 := rounded_c I F hIs hFs hok.1 hok.2.1
      by_cases hm : 9223372036854775807 < magn (bs I) (bs F)
      · rw [if_pos hm]
        have e : rdM (bs I) (bs F) = none := if_pos hm
        rw [e] at p4
        simp only [nb, nv, Option.isNone_none, Option.getD_none] at p4
        have P4 := Lib.hid p4
        clear p4 hok hokD hm e
        go_enter Tryd.func8, Tryd.ntmps8
        go_wp2_with fail
        refine (P1.out _).mono ?_; rintro e w1 ⟨rfl, rfl⟩
        go_wp2_with fail
        refine (P2.out _ (HG.out.alloc _)).mono ?_; rintro e w2 ⟨bb, rfl, hb2⟩; obtain ⟨hc2, hf2⟩ := bcell hb2
        have z2 : w.heap.size < w2.heap.size := (by have := hb2.size; simp at this; omega)
        have HX := Lib.hid (below_box hb2)
        have g2 := Lib.hid ((HG.out.alloc _).below hb2)
        go_wp2_with fail
        refine (P3.out _).mono ?_; rintro e w3 ⟨rfl, rfl⟩
        go_wp2_with fail
        refine (P4.out _ g2.out).mono ?_; rintro e w4 ⟨rfl, hb4⟩; obtain ⟨hc4, hf4⟩ := bcell hb4
        have z4 : w.heap.size < w4.heap.size := Nat.lt_of_lt_of_le z2 hb4.size
        have HY := Lib.hid (below_next HX.out hb4)
        have ne3 : w4.heap.size ≠ w.heap.size := by omega
        have ne4 : w.heap.size ≠ w4.heap.size := by omega
        go_wp2
        exact bodyPost_ret (v := .tuple #[.agg #[.bool false, .int .i64 0], .int .i64 3]) (by simp [results, Tryd.results8, go_sem, hc2, hf2, hc4, hf4, z2, z4]) rfl ⟨rfl, (below_put HY.out (Nat.le_refl _) _ _).alloc (by simp [World.setCell]; omega) _⟩
      · rw [if_neg hm]
        have e : rdM (bs I) (bs F) = some ((magn (bs I) (bs F) : Nat) : Int) := if_neg hm
        rw [e] at p4
        have p5 := FP.neg_any false (magn (bs I) (bs F) : Nat) (by omega)
        rw [rd_some rfl (by omega)] at p5
        simp only [nb, nv, negO, Option.isNone_some, Option.getD_some] at p4 p5
        obtain ⟨V, hV⟩ : ∃ V, ((magn (bs I) (bs F) : Nat) : Int) = V := ⟨_, rfl⟩
        rw [hV] at p4 p5 ⊢
        have P4 := Lib.hid p4; have P5 := Lib.hid p5
        clear p4 p5 hok hokD hm e hV
        cases neg
        · simp only [Bool.false_eq_true, if_false]
          go_enter Tryd.func8, Tryd.ntmps8
          go_wp2_with fail
          refine (P1.out _).mono ?_; rintro e w1 ⟨rfl, rfl⟩
          go_wp2_with fail
          refine (P2.out _ (HG.out.alloc _)).mono ?_; rintro e w2 ⟨bb, rfl, hb2⟩; obtain ⟨hc2, hf2⟩ := bcell hb2
          have z2 : w.heap.size < w2.heap.size := (by have := hb2.size; simp at this; omega)
          have HX := Lib.hid (below_box hb2)
          have g2 := Lib.hid ((HG.out.alloc _).below hb2)
          go_wp2_with fail
          refine (P3.out _).mono ?_; rintro e w3 ⟨rfl, rfl⟩
          go_wp2_with fail
          refine (P4.out _ g2.out).mono ?_; rintro e w4 ⟨rfl, hb4⟩; obtain ⟨hc4, hf4⟩ := bcell hb4
          have z4 : w.heap.size < w4.heap.size := Nat.lt_of_lt_of_le z2 hb4.size
          have HY := Lib.hid (below_next HX.out hb4)
          have ne3 : w4.heap.size ≠ w.heap.size := by omega
          have ne4 : w.heap.size ≠ w4.heap.size := by omega
          go_wp2
          exact bodyPost_ret (v := .tuple #[.agg #[.bool false, .int .i64 V], .int .i64 0]) (by simp [results, Tryd.results8, go_sem, hc2, hf2, hc4, hf4, z2, z4]) rfl ⟨rfl, (below_put HY.out (Nat.le_refl _) _ _).alloc (by simp [World.setCell]; omega) _⟩
        · simp only [if_true]
          go_enter Tryd.func8, Tryd.ntmps8
          go_wp2_with fail
          refine (P1.out _).mono ?_; rintro e w1 ⟨rfl, rfl⟩
          go_wp2_with fail
          refine (P2.out _ (HG.out.alloc _)).mono ?_; rintro e w2 ⟨bb, rfl, hb2⟩; obtain ⟨hc2, hf2⟩ := bcell hb2
          have z2 : w.heap.size < w2.heap.size := (by have := hb2.size; simp at this; omega)
          have HX := Lib.hid (below_box hb2)
          have g2 := Lib.hid ((HG.out.alloc _).below hb2)
          go_wp2_with fail
          refine (P3.out _).mono ?_; rintro e w3 ⟨rfl, rfl⟩
          go_wp2_with fail
          refine (P4.out _ g2.out).mono ?_; rintro e w4 ⟨rfl, hb4⟩; obtain ⟨hc4, hf4⟩ := bcell hb4
          have z4 : w.heap.size < w4.heap.size := Nat.lt_of_lt_of_le z2 hb4.size
          have HY := Lib.hid (below_next HX.out hb4)
          have ne3 : w4.heap.size ≠ w.heap.size := by omega
          have ne4 : w.heap.size ≠ w4.heap.size := by omega
          go_wp2_with fail
          refine (P5.out _).mono ?_; rintro e w5 ⟨rfl, hb5⟩; obtain ⟨hc5, hf5⟩ := bcell hb5
          have z5 : w.heap.size < w5.heap.size := (by have := hb5.size; simp at this; omega)
          have HZ := Lib.hid (below_next HY.out (below_box hb5))
          have K0 : w5.cell? ⟨w.heap.size, 0, none⟩ = some (.bool false) := by go_simp
          have K1 : w5.cell? ⟨w.heap.size, 1, none⟩ = some (.int .i64 0) := by go_simp
          go_wp2
          exact bodyPost_ret (v := .tuple #[.agg #[.bool false, .int .i64 (-V)], .int .i64 0]) (by simp [results, Tryd.results8, go_sem, hc2, hf2, hc4, hf4, K0, K1]) rfl ⟨rfl, below_put HZ.out (Nat.le_refl _) _ _⟩
    · rw [if_neg hok]
      have hokD : okD (bs I ++ bs F) = false := by
        rw [Bool.eq_false_iff]
        intro h
        rw [okD_iff, allD_append] at h
        exact hok ⟨h.1.1, h.1.2, h.2⟩
      rw [hokD] at P3
      clear hok hokD
      go_enter Tryd.func8, Tryd.ntmps8
      go_wp2_with fail
      refine (P1.out _).mono ?_; rintro e w1 ⟨rfl, rfl⟩
      go_wp2_with fail
      refine (P2.out _ (HG.out.alloc _)).mono ?_; rintro e w2 ⟨bb, rfl, hb2⟩; obtain ⟨hc2, hf2⟩ := bcell hb2
      have z2 : w.heap.size < w2.heap.size := (by have := hb2.size; simp at this; omega)
      have HX := Lib.hid (below_box hb2)
      have g2 := Lib.hid ((HG.out.alloc _).below hb2)
      go_wp2_with fail
      refine (P3.out _).mono ?_; rintro e w3 ⟨rfl, rfl⟩
      go_wp2
      exact bodyPost_ret (v := .tuple #[.agg #[.bool false, .int .i64 0], .int .i64 2]) (by simp [results, Tryd.results8, go_sem, hc2, hf2, z2]) rfl ⟨rfl, below_put HX.out (Nat.le_refl _) _ _⟩
end Go.Proofs.YtnnilllnkklecaaDoor.DP
