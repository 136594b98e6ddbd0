/-
  Contracts of the program's functions of layer 11: the key and the value that a line says.
-/
import Derived.Test.YtgdjmbekamdlgaaDoorCfgPr
set_option linter.unusedSimpArgs false
set_option linter.unusedVariables false
namespace Go.Proofs.YtgdjmbekamdlgaaDoor.KP
open Go.RowKit KR
set_option maxRecDepth 100000 in
set_option maxHeartbeats 1000000 in
/-- The pair's own walk, whatever strings.Cut answers. -/
theorem pair_walk (s K V KS VS : ByteArray) (ok kb : Bool) (w : World) (CUT : ∀ W, Calls Tryd.prog 48 #[.string s, .string ⟨#[61]⟩] W fun e w' => e = .returned (.tuple #[.string K, .string V, .bool ok]) ∧ Below W.heap.size W w')
    (T1 : ∀ W, Calls Tryd.prog 22 #[.string K, .string ⟨#[32, 9]⟩] W fun e w' => e = .returned (.string KS) ∧ Below W.heap.size W w') (T2 : ∀ W, Calls Tryd.prog 22 #[.string V, .string ⟨#[32, 9]⟩] W fun e w' => e = .returned (.string VS) ∧ Below W.heap.size W w')
    (KC : ∀ W, Calls Tryd.prog 49 #[.string KS] W fun e w' => e = .returned (.bool kb) ∧ W = w') :
    Calls Tryd.prog 28 #[.string s] w fun e w' => e = .returned (.tuple #[.agg #[.string KS, .string VS], .bool (ok && kb)]) ∧ Below w.heap.size w w' := by
  have CC := Lib.hid CUT; have H1 := Lib.hid T1; have H2 := Lib.hid T2; have HK := Lib.hid KC
  clear CUT T1 T2 KC
  go_enter Tryd.func28, Tryd.ntmps28
  go_wp2_with fail
  obtain ⟨r0, r1, rf0, rf1⟩ := two_new w (.string ⟨#[]⟩) (.string ⟨#[]⟩) 34
  have hb0 := alloc_below w (.cells #[.string ⟨#[]⟩, .string ⟨#[]⟩] 34)
  have lt0 : w.heap.size < (w.alloc (.cells #[.string ⟨#[]⟩, .string ⟨#[]⟩] 34)).heap.size := by simp
  refine (CC.out _).mono ?_; rintro _ w1 ⟨rfl, hb1⟩
  go_wp2_with fail
  refine (H1.out _).mono ?_; rintro _ w2 ⟨rfl, hb2⟩
  go_wp2_with fail
  refine (H2.out _).mono ?_; rintro _ w3 ⟨rfl, hb3⟩
  have hb13 := bnext hb1 (bnext hb2 hb3)
  have hb4 := bnext hb13 (alloc_below w3 (.cells #[.string KS, .string VS] 34))
  obtain ⟨p0, p1, pf0, pf1⟩ := two_new w3 (.string KS) (.string VS) 34
  have q0 := cellb hb4 r0
  have q1 := cellb hb4 r1
  have g0 := (hb4.frozen (p := ⟨w.heap.size, 0, none⟩) lt0).trans rf0
  have g1 := (hb4.frozen (p := ⟨w.heap.size, 1, none⟩) lt0).trans rf1
  obtain ⟨w4, hw4⟩ : ∃ w4, w3.alloc (.cells #[.string KS, .string VS] 34) = w4 := ⟨_, rfl⟩
  have BB := Lib.hid (bnext hb0 hb4)
  rw [hw4] at p0 p1 pf0 pf1 q0 q1 g0 g1 BB
  go_upto_region 3 with fail
  (try rw [hw4])
  have HW4 := Lib.hid hw4
  clear hb1 hb2 hb3 hb13 hb4 r0 r1 rf0 rf1 hb0 lt0 hw4
  cases ok
  · go_region
    all_goals (try go_wp2_with fail)
    all_goals
      refine bodyPost_ret (v := .tuple #[.agg #[.string KS, .string VS], .bool false]) (by simp [results, Tryd.results28, go_sem, q0, q1]) rfl ⟨rfl, ?_⟩
      first
        | exact ((BB.out.setCell (p := ⟨w.heap.size, 0, none⟩) (Nat.le_refl _) (.string KS)).setCell (p := ⟨w.heap.size, 1, none⟩) (Nat.le_refl _) (.string VS))
        | exact (((Below.drew BB.out).setCell (p := ⟨w.heap.size, 0, none⟩) (Nat.le_refl _) (.string KS)).setCell (p := ⟨w.heap.size, 1, none⟩) (Nat.le_refl _) (.string VS))
  · go_region_with (go_at_call 49; (with_reducible refine (HK.out _).mono ?_); rintro _ w5 ⟨rfl, rfl⟩)
    all_goals (try go_wp2_with fail)
    all_goals
      refine bodyPost_ret (v := .tuple #[.agg #[.string KS, .string VS], .bool kb]) (by simp [results, Tryd.results28, go_sem, q0, q1]) rfl ⟨by simp, ?_⟩
      first
        | exact ((BB.out.setCell (p := ⟨w.heap.size, 0, none⟩) (Nat.le_refl _) (.string KS)).setCell (p := ⟨w.heap.size, 1, none⟩) (Nat.le_refl _) (.string VS))
        | exact (((Below.drew BB.out).setCell (p := ⟨w.heap.size, 0, none⟩) (Nat.le_refl _) (.string KS)).setCell (p := ⟨w.heap.size, 1, none⟩) (Nat.le_refl _) (.string VS))
theorem pair_c (s : ByteArray) (hs : s.size ≤ 100000) (w : World) :
    Calls Tryd.prog 28 #[.string s] w fun e w' => ∃ KS VS, e = .returned (.tuple #[.agg #[.string KS, .string VS], .bool (cutC (bs s)).2]) ∧ ((cutC (bs s)).2 = true → KS = str (cutC (bs s)).1.1 ∧ VS = str (cutC (bs s)).1.2) ∧ Below w.heap.size w w' := by
  rcases index_part s 61 with ⟨h1, h2⟩ | ⟨o, h1, ho, h3, h4⟩
  · rw [cutC_none h2]
    have hk : (str (blB (bs s))).size ≤ 9223372036854775807 := by rw [str_size]; have := blB_length (bs s); rw [bs_length] at this; omega
    refine (pair_walk s s ⟨#[]⟩ (str (blB (bs s))) (str (blB (bs ⟨#[]⟩))) false _ w (fun W => cut_no s h1 W) (fun W => trim_c s (by omega) W) (fun W => trim_c ⟨#[]⟩ (by decide) W) (fun W => isKey_c _ hk W)).mono ?_
    rintro e w' ⟨rfl, hb⟩
    exact ⟨_, _, rfl, fun h => (by cases h), hb⟩
  · obtain ⟨a, ha⟩ : ∃ a, (bs s).take o = a := ⟨_, rfl⟩
    obtain ⟨b, hb⟩ : ∃ b, (bs s).drop (o + 1) = b := ⟨_, rfl⟩
    rw [ha] at h3 h4
    rw [hb] at h3
    have hc : cutC (bs s) = ((blB a, blB b), keyedV (blB a)) := by
      rw [h3]; exact cutC_split h4
    have ma : Byt a := fun c hc => bs_small s c (by rw [← ha] at hc; exact List.mem_of_mem_take hc)
    have mb : Byt b := fun c hc => bs_small s c (by rw [← hb] at hc; exact List.mem_of_mem_drop hc)
    have la : a.length ≤ s.size := by rw [← ha, List.length_take, bs_length]; omega
    have lb : b.length ≤ s.size := by rw [← hb, List.length_drop, bs_length]; omega
    have hk : (str (blB a)).size ≤ 9223372036854775807 := by rw [str_size]; have := blB_length a; omega
    have t1 := fun W => trim_c (str a) (by rw [str_size]; omega) W
    have t2 := fun W => trim_c (str b) (by rw [str_size]; omega) W
    have kc := fun W => isKey_c (str (blB a)) hk W
    rw [bs_str ma] at t1
    rw [bs_str mb] at t2
    rw [bs_str (fun c hc => ma c (blB_mem hc))] at kc
    have cy := fun W => cut_yes s hs o h1 ho W
    rw [ha, hb] at cy
    rw [hc]
    refine (pair_walk s (str a) (str b) _ _ true _ w cy t1 t2 kc).mono ?_
    rintro e w' ⟨rfl, hb⟩
    exact ⟨_, _, by rw [Bool.true_and], fun _ => ⟨rfl, rfl⟩, hb⟩
end Go.Proofs.YtgdjmbekamdlgaaDoor.KP
