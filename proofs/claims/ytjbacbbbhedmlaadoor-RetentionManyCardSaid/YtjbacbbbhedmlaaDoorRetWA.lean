/-
  Walks of the statements of layer 10: what stands fixed; any text.
-/
import Derived.Test.YtjbacbbbhedmlaaDoorRetPF
import Derived.Test.YtjbacbbbhedmlaaDoorRetPG
set_option linter.unusedSimpArgs false
set_option linter.unusedVariables false
namespace Go.Proofs.YtjbacbbbhedmlaaDoor.RW
open Go.RowKit RR RP
theorem parse_p (s : ByteArray) (hs : s.size ≤ 500) (w : World) (g : G w) :
    Calls Tryd.prog 8 #[.string s] w fun e w' => ∃ v, e = .returned (.tuple #[v, .int .i64 (parseV (bs s)).2]) ∧ RgOut w' v (parseV (bs s)).1 ∧ Below w.heap.size w w' := callsIn_wide.1 (parse_in s hs w g)
theorem parse_len {l : List Nat} : (parseV l).1.length ≤ 4 := by
  by_cases h : (parseV l).2 = 0
  · obtain ⟨r, hr⟩ : ∃ r, (parseV l).1 = r := ⟨_, rfl⟩
    have e : parseV l = (r, 0) := by rw [← hr, ← h]
    rw [hr]
    exact ((tog_iff r).1 (parse_rows e)).1.2
  · rw [parse_none h]; exact Nat.zero_le _
theorem lit_rows (w : World) (x y x1 y1 : Int) : RgOut (w.alloc (.cells #[.int .i64 x, .int .i64 y, .int .i64 x1, .int .i64 y1] 32)) (.slice (some ⟨w.heap.size, 0, none⟩) 2 2) [(x, y), (x1, y1)] := by
  have h := heap_alloc_new w (.cells #[.int .i64 x, .int .i64 y, .int .i64 x1, .int .i64 y1] 32)
  refine ⟨_, 2, rfl, Nat.le_refl _, fun _ => ⟨w.heap.size, 0, rfl, fun k g hk => ?_⟩⟩
  match k, hk with
  | 0, hk =>
    obtain rfl : (x, y) = g := by simpa using hk
    exact ⟨cell_of_row _ _ 0 _ _ (0, 0) h, cell_of_row _ _ 1 _ _ (0, 0) h⟩
  | 1, hk =>
    obtain rfl : (x1, y1) = g := by simpa using hk
    exact ⟨cell_of_row _ _ 2 _ _ (0, 0) h, cell_of_row _ _ 3 _ _ (0, 0) h⟩
  | k + 2, hk => simp at hk
theorem fix1 : parseV (bs ⟨#[54, 48, 115, 58, 53, 109, 44, 32, 53, 109, 58, 51, 48, 109]⟩) = ([(60, 5), (300, 6)], 0) := by decide +kernel
theorem fix2 : parseV (bs ⟨#[48, 115, 58, 49, 109]⟩) = ([], 3) := by decide +kernel
theorem fix3 : spanV (bs ⟨#[50, 104]⟩) = (7200, 0) := by decide +kernel
set_option maxRecDepth 100000 in
set_option maxHeartbeats 2000000 in
theorem alive_c (w : World) (g : G w) : Calls Tryd.prog 7 #[] w fun e w' => e = .returned (.bool true) ∧ Below w.heap.size w w' := by
  have p1 := parse_p ⟨#[54, 48, 115, 58, 53, 109, 44, 32, 53, 109, 58, 51, 48, 109]⟩ (by decide) w g
  have p2 := fun W gW => parse_p ⟨#[48, 115, 58, 49, 109]⟩ (by decide) W gW
  have p3 := fun W gW => RP.span_c ⟨#[50, 104]⟩ (by decide) W gW
  rw [fix1] at p1
  rw [fix2] at p2
  rw [fix3] at p3
  have P1 := Lib.hid p1; have P2 := Lib.hid p2; have P3 := Lib.hid p3; have GG := Lib.hid g
  clear p1 p2 p3 g
  go_enter Tryd.func7, Tryd.ntmps7
  go_wp2_with fail
  refine P1.out.mono ?_; rintro _ w1 ⟨v1, rfl, h1, hb1⟩
  go_wp2_with fail
  refine (P2.out _ (GG.out.below hb1)).mono ?_; rintro _ w2 ⟨v2, rfl, h2, hb2⟩
  go_wp2_with fail
  refine (P3.out _ (GG.out.below (bnext hb1 hb2))).mono ?_; rintro _ w3 ⟨rfl, hb3⟩
  have H3 := Lib.hid (bnext (bnext hb1 hb2) hb3)
  have SR := Lib.hid (sameRungs_c v1 (.slice (some ⟨w3.heap.size, 0, none⟩) 2 2) [(60, 5), (300, 6)] [(60, 5), (300, 6)] (by decide) (by decide) (w3.alloc (.cells #[.int .i64 60, .int .i64 5, .int .i64 300, .int .i64 6] 32)) (h1.below (bnext (bnext hb2 hb3) (alloc_below _ _))) (lit_rows w3 60 5 300 6))
  clear h1 h2 hb1 hb2 hb3 P1 P2 P3
  go_wp2_with fail
  refine SR.out.mono ?_; rintro _ w4 ⟨rfl, hb4⟩
  go_wp2
  go_ret
  exact ⟨rfl, bnext (bnext H3.out (alloc_below _ _)) hb4⟩
theorem below_alloc2 {w w1 w2 : World} (h : Below w.heap.size w w1) (k : Below w1.heap.size w1 w2) : Below w.heap.size w w2 := bnext h k
set_option maxRecDepth 100000 in
set_option maxHeartbeats 2000000 in
theorem retentionParses_c (s : ByteArray) (hs : s.size ≤ 9223372036854775807) (w : World) (g : G w) : Calls Tryd.prog 3 #[.string s] w fun e w' => e = .returned (.bool true) ∧ Below w.heap.size w w' := by
  have AL := Lib.hid (alive_c w g)
  by_cases h5 : 500 < s.size
  · go_enter Tryd.func3, Tryd.ntmps3
    go_wp2_with fail
    refine AL.out.mono ?_; rintro _ w1 ⟨rfl, hb1⟩
    go_wp2
    go_ret
    exact ⟨rfl, hb1⟩
  · have h5' : s.size ≤ 500 := by omega
    have P1 := Lib.hid (fun W gW => parse_p s h5' W gW)
    have P2 := Lib.hid (fun W => RR.parse_c s h5' W)
    have P3 := Lib.hid (fun W gW => RP.span_c s hs W gW)
    have P4 := Lib.hid (fun W => RR.span_c s hs W)
    have GG := Lib.hid g
    have LN := Lib.hid (parse_len (l := bs s))
    generalize parseV (bs s) = pv at *
    generalize spanV (bs s) = sv at *
    obtain ⟨L, e⟩ := pv
    obtain ⟨n, f⟩ := sv
    simp only at P1 P2 P3 P4 LN
    clear g
    go_enter Tryd.func3, Tryd.ntmps3
    go_wp2_with fail
    refine AL.out.mono ?_; rintro _ w0 ⟨rfl, hb0⟩
    have g0 := Lib.hid (GG.out.below hb0)
    go_wp2_with fail
    refine (P1.out _ g0.out).mono ?_; rintro _ w1 ⟨v1, rfl, h1, hb1⟩
    go_wp2_with fail
    refine (P2.out _).mono ?_; rintro _ w2 ⟨v2, rfl, h2, hb2⟩
    go_wp2_with fail
    refine (P3.out _ (g0.out.below (bnext hb1 hb2))).mono ?_; rintro _ w3 ⟨rfl, hb3⟩
    go_wp2_with fail
    refine (P4.out _).mono ?_; rintro _ w4 ⟨rfl, rfl⟩
    have SR := Lib.hid (sameRungs_c v1 v2 L L (by have := LN.out; omega) (by have := LN.out; omega) w3 (h1.below (bnext hb2 hb3)) (h2.below hb3))
    have H3 := Lib.hid (bnext (bnext (bnext hb0 hb1) hb2) hb3)
    rw [decide_eq_true (rfl : L = L)] at SR
    clear h1 h2 hb0 hb1 hb2 hb3 P1 P2 P3 P4
    go_wp2_with fail
    refine SR.out.mono ?_; rintro _ w5 ⟨rfl, hb5⟩
    go_wp2
    go_ret
    exact ⟨rfl, bnext H3.out hb5⟩
end Go.Proofs.YtjbacbbbhedmlaaDoor.RW
