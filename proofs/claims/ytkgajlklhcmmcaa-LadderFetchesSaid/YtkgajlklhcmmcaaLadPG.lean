/-
  What parts make, by the program.
-/
import Derived.Test.YtkgajlklhcmmcaaLadPF
set_option linter.unusedSimpArgs false
set_option linter.unusedVariables false
namespace Go.Proofs.Ytkgajlklhcmmcaa.AP
open Go.RowKit IP
theorem inR_sign (n : Nat) (b : Bool) : inR (signO n b) := by
  intro t ht
  unfold signO at ht
  split at ht
  · obtain rfl := Option.some.inj ht
    split <;> omega
  · cases ht
theorem inR_int (n : Int) : inR (intO n) := by
  unfold intO
  split
  · exact inR_sign _ _
  · intro t ht; cases ht
set_option maxHeartbeats 2000000 in
theorem blend_nil (m : Int) (A : Option Addr) (n c : Nat) (hn : n = 0) (w : World) : Calls Try.prog 62 #[.int .i64 m, .slice A n c] w fun e w' => e = .returned (.agg #[.bool true, .int .i64 0]) ∧ Below w.heap.size w w' := by
  obtain ⟨b1, hb, hz⟩ := bx_new1 w #[.bool false, .int .i64 0] 61
  obtain ⟨wp, hwp⟩ : ∃ wp, w.alloc (.cells #[.bool false, .int .i64 0] 61) = wp := ⟨_, rfl⟩
  rw [hwp] at b1 hb hz
  have KP := Lib.hid hb; have HWP := Lib.hid hwp; have B1 := Lib.hid b1
  subst hn
  clear b1 hb hz hwp
  go_enter Try.func62, Try.ntmps62
  go_wp2_with fail
  rw [HWP.out]
  refine (AP.nothing_c _).mono ?_; rintro _ w1 ⟨rfl, hb1⟩
  obtain ⟨j0, j1, j2, j3⟩ := (B1.out.below hb1).two
  have KX := Lib.hid (bnext KP.out hb1)
  clear hb1
  go_wp2_with fail
  exact bodyPost_ret (v := .agg #[.bool true, .int .i64 0]) (by simp [results, Try.results62, go_sem, j0, j1, j2, j3]) rfl ⟨rfl, below_set (below_set KX.out (Nat.le_refl _) _) (Nat.le_refl _) _⟩
set_option maxHeartbeats 2000000 in
theorem blend_off (m : Int) (A : Option Addr) (n c : Nat) (hn : 0 < n) (hl : n ≤ 100000) (h1 : ¬ m = 1) (h2 : ¬ m = 2) (h3 : ¬ m = 3) (h4 : ¬ m = 4) (h5 : ¬ m = 5) (w : World) : Calls Try.prog 62 #[.int .i64 m, .slice A n c] w fun e w' => e = .returned (.agg #[.bool true, .int .i64 0]) ∧ Below w.heap.size w w' := by
  obtain ⟨b1, hb, hz⟩ := bx_new1 w #[.bool false, .int .i64 0] 61
  obtain ⟨wp, hwp⟩ : ∃ wp, w.alloc (.cells #[.bool false, .int .i64 0] 61) = wp := ⟨_, rfl⟩
  rw [hwp] at b1 hb hz
  have KP := Lib.hid hb; have HWP := Lib.hid hwp; have B1 := Lib.hid b1
  have hn0 : ¬ (n : Int) = 0 := by omega
  clear b1 hb hz hwp
  go_enter Try.func62, Try.ntmps62
  go_wp2_with fail
  rw [HWP.out]
  refine (AP.nothing_c _).mono ?_; rintro _ w1 ⟨rfl, hb1⟩
  obtain ⟨j0, j1, j2, j3⟩ := (B1.out.below hb1).two
  have KX := Lib.hid (bnext KP.out hb1)
  clear hb1
  go_wp2_with fail
  exact bodyPost_ret (v := .agg #[.bool true, .int .i64 0]) (by simp [results, Try.results62, go_sem, j0, j1, j2, j3]) rfl ⟨rfl, below_set (below_set KX.out (Nat.le_refl _) _) (Nat.le_refl _) _⟩
set_option maxHeartbeats 2000000 in
theorem blend_add (A : Option Addr) (n c : Nat) (l : List Int) (hn : l.length = n) (h0 : 0 < n) (hl : n ≤ 100000) (hr : ∀ x ∈ l, I64 x) (w : World) (g : IlOut w (.slice A n c) l) : Calls Try.prog 62 #[.int .i64 2, .slice A n c] w fun e w' => e = .returned (.agg #[.bool (nb (lFold addO l)), .int .i64 (nv (lFold addO l))]) ∧ Below w.heap.size w w' := by
  have hne : l ≠ [] := fun e => by rw [e] at hn; simp at hn; omega
  obtain ⟨b1, hb, hz⟩ := bx_new1 w #[.bool false, .int .i64 0] 61
  obtain ⟨wp, hwp⟩ : ∃ wp, w.alloc (.cells #[.bool false, .int .i64 0] 61) = wp := ⟨_, rfl⟩
  rw [hwp] at b1 hb hz
  have KP := Lib.hid hb; have HWP := Lib.hid hwp; have B1 := Lib.hid b1
  have TA := Lib.hid (together_add (.slice A n c) l hne (by omega) hr wp (g.below hb))
  obtain ⟨R, hR⟩ : ∃ R, lFold addO l = R := ⟨_, rfl⟩
  rw [hR] at TA ⊢
  obtain ⟨B, hB⟩ : ∃ B, nb R = B := ⟨_, rfl⟩
  obtain ⟨N, hN⟩ : ∃ N, nv R = N := ⟨_, rfl⟩
  rw [hB, hN] at TA ⊢
  have hn0 : ¬ (n : Int) = 0 := by omega
  clear b1 hb hz hwp g hr hn hR hB hN hne
  go_enter Try.func62, Try.ntmps62
  go_wp2_with fail
  rw [HWP.out]
  refine TA.out.mono ?_; rintro _ w1 ⟨rfl, hb1⟩
  obtain ⟨j0, j1, j2, j3⟩ := (B1.out.below hb1).two
  have KX := Lib.hid (bnext KP.out hb1)
  clear hb1
  go_wp2_with fail
  exact bodyPost_ret (v := .agg #[.bool B, .int .i64 N]) (by simp [results, Try.results62, go_sem, j0, j1, j2, j3]) rfl ⟨rfl, below_set (below_set KX.out (Nat.le_refl _) _) (Nat.le_refl _) _⟩
set_option maxHeartbeats 2000000 in
theorem blend_less (A : Option Addr) (n c : Nat) (l : List Int) (hn : l.length = n) (h0 : 0 < n) (hl : n ≤ 100000) (hr : ∀ x ∈ l, I64 x) (w : World) (g : IlOut w (.slice A n c) l) : Calls Try.prog 62 #[.int .i64 3, .slice A n c] w fun e w' => e = .returned (.agg #[.bool (nb (lFold lessO l)), .int .i64 (nv (lFold lessO l))]) ∧ Below w.heap.size w w' := by
  have hne : l ≠ [] := fun e => by rw [e] at hn; simp at hn; omega
  obtain ⟨b1, hb, hz⟩ := bx_new1 w #[.bool false, .int .i64 0] 61
  obtain ⟨wp, hwp⟩ : ∃ wp, w.alloc (.cells #[.bool false, .int .i64 0] 61) = wp := ⟨_, rfl⟩
  rw [hwp] at b1 hb hz
  have KP := Lib.hid hb; have HWP := Lib.hid hwp; have B1 := Lib.hid b1
  have TA := Lib.hid (together_less (.slice A n c) l hne (by omega) hr wp (g.below hb))
  obtain ⟨R, hR⟩ : ∃ R, lFold lessO l = R := ⟨_, rfl⟩
  rw [hR] at TA ⊢
  obtain ⟨B, hB⟩ : ∃ B, nb R = B := ⟨_, rfl⟩
  obtain ⟨N, hN⟩ : ∃ N, nv R = N := ⟨_, rfl⟩
  rw [hB, hN] at TA ⊢
  have hn0 : ¬ (n : Int) = 0 := by omega
  clear b1 hb hz hwp g hr hn hR hB hN hne
  go_enter Try.func62, Try.ntmps62
  go_wp2_with fail
  rw [HWP.out]
  refine TA.out.mono ?_; rintro _ w1 ⟨rfl, hb1⟩
  obtain ⟨j0, j1, j2, j3⟩ := (B1.out.below hb1).two
  have KX := Lib.hid (bnext KP.out hb1)
  clear hb1
  go_wp2_with fail
  exact bodyPost_ret (v := .agg #[.bool B, .int .i64 N]) (by simp [results, Try.results62, go_sem, j0, j1, j2, j3]) rfl ⟨rfl, below_set (below_set KX.out (Nat.le_refl _) _) (Nat.le_refl _) _⟩
set_option maxHeartbeats 2000000 in
theorem blend_more (A : Option Addr) (n c : Nat) (l : List Int) (hn : l.length = n) (h0 : 0 < n) (hl : n ≤ 100000) (hr : ∀ x ∈ l, I64 x) (w : World) (g : IlOut w (.slice A n c) l) : Calls Try.prog 62 #[.int .i64 4, .slice A n c] w fun e w' => e = .returned (.agg #[.bool (nb (lFold moreO l)), .int .i64 (nv (lFold moreO l))]) ∧ Below w.heap.size w w' := by
  have hne : l ≠ [] := fun e => by rw [e] at hn; simp at hn; omega
  obtain ⟨b1, hb, hz⟩ := bx_new1 w #[.bool false, .int .i64 0] 61
  obtain ⟨wp, hwp⟩ : ∃ wp, w.alloc (.cells #[.bool false, .int .i64 0] 61) = wp := ⟨_, rfl⟩
  rw [hwp] at b1 hb hz
  have KP := Lib.hid hb; have HWP := Lib.hid hwp; have B1 := Lib.hid b1
  have TA := Lib.hid (together_more (.slice A n c) l hne (by omega) hr wp (g.below hb))
  obtain ⟨R, hR⟩ : ∃ R, lFold moreO l = R := ⟨_, rfl⟩
  rw [hR] at TA ⊢
  obtain ⟨B, hB⟩ : ∃ B, nb R = B := ⟨_, rfl⟩
  obtain ⟨N, hN⟩ : ∃ N, nv R = N := ⟨_, rfl⟩
  rw [hB, hN] at TA ⊢
  have hn0 : ¬ (n : Int) = 0 := by omega
  clear b1 hb hz hwp g hr hn hR hB hN hne
  go_enter Try.func62, Try.ntmps62
  go_wp2_with fail
  rw [HWP.out]
  refine TA.out.mono ?_; rintro _ w1 ⟨rfl, hb1⟩
  obtain ⟨j0, j1, j2, j3⟩ := (B1.out.below hb1).two
  have KX := Lib.hid (bnext KP.out hb1)
  clear hb1
  go_wp2_with fail
  exact bodyPost_ret (v := .agg #[.bool B, .int .i64 N]) (by simp [results, Try.results62, go_sem, j0, j1, j2, j3]) rfl ⟨rfl, below_set (below_set KX.out (Nat.le_refl _) _) (Nat.le_refl _) _⟩
set_option maxHeartbeats 2000000 in
theorem blend_avg (A : Option Addr) (n c : Nat) (l : List Int) (hn : l.length = n) (h0 : 0 < n) (hl : n ≤ 100000) (hr : ∀ x ∈ l, I64 x) (w : World) (g : IlOut w (.slice A n c) l) : Calls Try.prog 62 #[.int .i64 1, .slice A n c] w fun e w' => e = .returned (.agg #[.bool (nb (divO (lFold addO l) (intO n))), .int .i64 (nv (divO (lFold addO l) (intO n)))]) ∧ Below w.heap.size w w' := by
  have hne : l ≠ [] := fun e => by rw [e] at hn; simp at hn; omega
  obtain ⟨b1, hb, hz⟩ := bx_new1 w #[.bool false, .int .i64 0] 61
  obtain ⟨wp, hwp⟩ : ∃ wp, w.alloc (.cells #[.bool false, .int .i64 0] 61) = wp := ⟨_, rfl⟩
  rw [hwp] at b1 hb hz
  have KP := Lib.hid hb; have HWP := Lib.hid hwp; have B1 := Lib.hid b1
  have TA := Lib.hid (together_add (.slice A n c) l hne (by omega) hr wp (g.below hb))
  have IN := Lib.hid (fun W => FP.int_c (n : Int) (by omega) (by omega) W)
  have r1 : inR (lFold addO l) := inR_lFold (fun x y _ _ => inR_add x y) hr
  have r2 : inR (intO (n : Int)) := inR_int _
  have DV := fun W => FP.div_any (nb (lFold addO l)) (nb (intO (n : Int))) (nv (lFold addO l)) (nv (intO (n : Int))) (inR_nv r1) (inR_nv r2) W
  rw [FP.rd_back _ r1, FP.rd_back _ r2] at DV
  obtain ⟨R, hR⟩ : ∃ R, divO (lFold addO l) (intO (n : Int)) = R := ⟨_, rfl⟩
  rw [hR] at DV ⊢
  obtain ⟨B, hB⟩ : ∃ B, nb R = B := ⟨_, rfl⟩
  obtain ⟨N, hN⟩ : ∃ N, nv R = N := ⟨_, rfl⟩
  rw [hB, hN] at DV ⊢
  obtain ⟨B2, hB2⟩ : ∃ B, nb (lFold addO l) = B := ⟨_, rfl⟩
  obtain ⟨N2, hN2⟩ : ∃ N, nv (lFold addO l) = N := ⟨_, rfl⟩
  obtain ⟨B3, hB3⟩ : ∃ B, nb (intO (n : Int)) = B := ⟨_, rfl⟩
  obtain ⟨N3, hN3⟩ : ∃ N, nv (intO (n : Int)) = N := ⟨_, rfl⟩
  rw [hB2, hN2, hB3, hN3] at DV
  rw [hB2, hN2] at TA
  rw [hB3, hN3] at IN
  have DV := Lib.hid DV
  have hn0 : ¬ (n : Int) = 0 := by omega
  clear b1 hb hz hwp g hr hn hR hB hN hne r1 r2 hB2 hN2 hB3 hN3
  go_enter Try.func62, Try.ntmps62
  go_wp2_with fail
  rw [HWP.out]
  refine TA.out.mono ?_; rintro _ w1 ⟨rfl, hb1⟩
  have B2 := Lib.hid (B1.out.below hb1)
  have KX := Lib.hid (bnext KP.out hb1)
  clear hb1
  go_wp2_with fail
  refine (IN.out _).mono ?_; rintro _ w2 ⟨rfl, hb2⟩
  have B3 := Lib.hid (B2.out.below hb2)
  have KY := Lib.hid (bnext KX.out hb2)
  clear hb2
  go_wp2_with fail
  refine (DV.out _).mono ?_; rintro _ w3 ⟨rfl, hb3⟩
  obtain ⟨j0, j1, j2, j3⟩ := (B3.out.below hb3).two
  have KZ := Lib.hid (bnext KY.out hb3)
  clear hb3
  go_wp2_with fail
  exact bodyPost_ret (v := .agg #[.bool B, .int .i64 N]) (by simp [results, Try.results62, go_sem, j0, j1, j2, j3]) rfl ⟨rfl, below_set (below_set KZ.out (Nat.le_refl _) _) (Nat.le_refl _) _⟩
set_option maxHeartbeats 2000000 in
theorem blend_last (A : Option Addr) (n c : Nat) (l : List Int) (hn : l.length = n) (h0 : 0 < n) (hl : n ≤ 100000) (w : World) (g : IlOut w (.slice A n c) l) : Calls Try.prog 62 #[.int .i64 5, .slice A n c] w fun e w' => e = .returned (.agg #[.bool (nb (rd false (l.getLastD 0))), .int .i64 (nv (rd false (l.getLastD 0)))]) ∧ Below w.heap.size w w' := by
  obtain ⟨j, rfl⟩ : ∃ j, n = j + 1 := ⟨n - 1, by omega⟩
  have hne : l ≠ [] := fun e => by rw [e] at hn; simp at hn
  obtain ⟨A', c', hv, hc, hx⟩ := g
  obtain ⟨b, off, hA, ha⟩ := hx hne
  injection hv with e1 e2 e3
  subst e1
  subst hA
  obtain ⟨x, hx⟩ : ∃ x, l[j]? = some x := ⟨_, List.getElem?_eq_getElem (by omega)⟩
  have hlast : l.getLastD 0 = x := by
    rw [List.getLastD_eq_getLast?, List.getLast?_eq_getElem?, hn, Nat.add_sub_cancel, hx]
    rfl
  rw [hlast]
  have c0 := ha j x hx
  obtain ⟨b1, hb, hz⟩ := bx_new1 w #[.bool false, .int .i64 0] 61
  obtain ⟨wp, hwp⟩ : ∃ wp, w.alloc (.cells #[.bool false, .int .i64 0] 61) = wp := ⟨_, rfl⟩
  rw [hwp] at b1 hb hz
  have KP := Lib.hid hb; have HWP := Lib.hid hwp; have B1 := Lib.hid b1
  have c1 := cellb (alloc_below w (.cells #[.bool false, .int .i64 0] 61)) c0
  have OF := Lib.hid (fun W => FP.of_c x W)
  obtain ⟨B, hB⟩ : ∃ B, nb (rd false x) = B := ⟨_, rfl⟩
  obtain ⟨N, hN⟩ : ∃ N, nv (rd false x) = N := ⟨_, rfl⟩
  rw [hB, hN] at OF ⊢
  have hn0 : ¬ ((j : Int) + 1) = 0 := by omega
  have w1 : IntKind.i64.wrap ((j : Int) + 1 - 1) = (j : Int) := by rw [IntKind.wrap_i64]; omega
  have e9 : (j : Int) + 1 - 1 = (j : Int) := by omega
  clear b1 hb hz hwp hn hB hN hne ha hx hlast e2 e3 hc
  go_enter Try.func62, Try.ntmps62
  go_wp2_with fail
  rw [HWP.out]
  refine (OF.out _).mono ?_; rintro _ w1 ⟨rfl, hb1⟩
  obtain ⟨j0, j1, j2, j3⟩ := (B1.out.below hb1).two
  have KX := Lib.hid (bnext KP.out hb1)
  clear hb1
  go_wp2_with fail
  exact bodyPost_ret (v := .agg #[.bool B, .int .i64 N]) (by simp [results, Try.results62, go_sem, j0, j1, j2, j3]) rfl ⟨rfl, below_set (below_set KX.out (Nat.le_refl _) _) (Nat.le_refl _) _⟩
theorem blend_c (m : Int) (v : Value) (l : List Int) (hl : l.length ≤ 100000) (hr : ∀ x ∈ l, I64 x) (w : World) (g : IlOut w v l) : Calls Try.prog 62 #[.int .i64 m, v] w fun e w' => e = .returned (.agg #[.bool (nb (lBlend m l)), .int .i64 (nv (lBlend m l))]) ∧ Below w.heap.size w w' := by
  obtain ⟨A, c, rfl, hc⟩ := g.form
  by_cases h0 : l = []
  · rw [h0, lBlend_nil]
    exact blend_nil m A _ c rfl w
  · have hp := List.length_pos_iff.2 h0
    rw [lBlend_yes h0]
    by_cases h1 : m = 1
    · subst h1; rw [if_pos rfl]; exact blend_avg A _ c l rfl hp hl hr w g
    · rw [if_neg h1]
      by_cases h2 : m = 2
      · subst h2; rw [if_pos rfl]; exact blend_add A _ c l rfl hp hl hr w g
      · rw [if_neg h2]
        by_cases h3 : m = 3
        · subst h3; rw [if_pos rfl]; exact blend_less A _ c l rfl hp hl hr w g
        · rw [if_neg h3]
          by_cases h4 : m = 4
          · subst h4; rw [if_pos rfl]; exact blend_more A _ c l rfl hp hl hr w g
          · rw [if_neg h4]
            by_cases h5 : m = 5
            · subst h5; rw [if_pos rfl]; exact blend_last A _ c l rfl hp hl w g
            · rw [if_neg h5]
              exact blend_off m A _ c hp hl h1 h2 h3 h4 h5 w
end Go.Proofs.Ytkgajlklhcmmcaa.AP
