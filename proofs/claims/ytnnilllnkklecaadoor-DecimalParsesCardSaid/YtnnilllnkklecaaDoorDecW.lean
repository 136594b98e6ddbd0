/-
  The statements of layer 3, walked, the first part: the fixed fact; any text parsed.
-/
import Derived.Test.YtnnilllnkklecaaDoorDecPE
import Derived.Test.YtnnilllnkklecaaDoorDecRefD
import Derived.Test.YtnnilllnkklecaaDoorDecRefE
import Derived.Test.YtnnilllnkklecaaDoorDecShort
set_option linter.unusedSimpArgs false
set_option linter.unusedVariables false
namespace Go.Proofs.YtnnilllnkklecaaDoor.DW
open Go.RowKit

theorem al_parse1 (w : World) (hG : G w) : Calls Tryd.prog 8 #[.string ⟨#[49, 46, 53]⟩] w fun e w' => e = .returned (.tuple #[.agg #[.bool false, .int .i64 1500000], .int .i64 0]) ∧ Below w.heap.size w w' := by
  have h := DP.parse_c ⟨#[49, 46, 53]⟩ (by decide) w hG
  rw [show canP (bs ⟨#[49, 46, 53]⟩) = (1500000, 0) from by decide +kernel] at h
  exact h
theorem al_parse2 (w : World) (hG : G w) : Calls Tryd.prog 8 #[.string ⟨#[46, 48, 48, 48, 48, 48, 48, 53]⟩] w fun e w' => e = .returned (.tuple #[.agg #[.bool false, .int .i64 1], .int .i64 0]) ∧ Below w.heap.size w w' := by
  have h := DP.parse_c ⟨#[46, 48, 48, 48, 48, 48, 48, 53]⟩ (by decide) w hG
  rw [show canP (bs ⟨#[46, 48, 48, 48, 48, 48, 48, 53]⟩) = (1, 0) from by decide +kernel] at h
  exact h
theorem al_print (w : World) (hG : G w) : Calls Tryd.prog 12 #[.agg #[.bool false, .int .i64 (-1200000)]] w fun e w' => e = .returned (.string ⟨#[45, 49, 46, 50]⟩) ∧ Below w.heap.size w w' := by
  have h := DP.print_c false (-1200000) (by decide) w hG
  rw [show str (printS (rd false (-1200000))) = ⟨#[45, 49, 46, 50]⟩ from by decide +kernel] at h
  exact h

set_option maxRecDepth 100000 in
set_option maxHeartbeats 1000000 in
theorem alive_c (w : World) (hG : G w) : Calls Tryd.prog 7 #[] w fun e w' => e = .returned (.bool true) ∧ Below w.heap.size w w' := by
  have HG := Lib.hid hG
  go_enter Tryd.func7, Tryd.ntmps7
  go_wp2_with fail
  refine (al_parse1 _ (by first | exact HG.out | exact HG.out.alloc _ | exact HG.out.drew | exact (HG.out.alloc _).drew | exact HG.out.drew.alloc _ | exact (HG.out.alloc _).alloc _)).mono ?_; rintro e w1 ⟨rfl, hb1⟩; have gw1 := Lib.hid (G.below (by first | exact HG.out | exact HG.out.alloc _ | exact HG.out.drew | exact (HG.out.alloc _).drew | exact HG.out.drew.alloc _ | exact (HG.out.alloc _).alloc _) hb1); obtain ⟨hc1, hf1⟩ := bcell hb1
  go_wp2_with fail
  refine (al_parse2 _ (by first | exact gw1.out | exact gw1.out.alloc _ | exact gw1.out.drew | exact (gw1.out.alloc _).drew | exact gw1.out.drew.alloc _ | exact (gw1.out.alloc _).alloc _)).mono ?_; rintro e w2 ⟨rfl, hb2⟩; have gw2 := Lib.hid (G.below (by first | exact gw1.out | exact gw1.out.alloc _ | exact gw1.out.drew | exact (gw1.out.alloc _).drew | exact gw1.out.drew.alloc _ | exact (gw1.out.alloc _).alloc _) hb2); obtain ⟨hc2, hf2⟩ := bcell hb2
  have z2 : w1.heap.size < w2.heap.size := (by have := hb2.size; simp at this; omega)
  have HX := Lib.hid (below_next hb1 (below_box hb2))
  go_wp2_with fail
  refine (al_print _ (by first | exact gw2.out | exact gw2.out.alloc _ | exact gw2.out.drew | exact (gw2.out.alloc _).drew | exact gw2.out.drew.alloc _ | exact (gw2.out.alloc _).alloc _)).mono ?_; rintro e w3 ⟨rfl, hb3⟩; have gw3 := Lib.hid (G.below (by first | exact gw2.out | exact gw2.out.alloc _ | exact gw2.out.drew | exact (gw2.out.alloc _).drew | exact gw2.out.drew.alloc _ | exact (gw2.out.alloc _).alloc _) hb3)
  go_wp2
  go_ret
  exact ⟨rfl, below_next HX.out (below_box hb3)⟩

set_option maxRecDepth 100000 in
set_option maxHeartbeats 1000000 in
theorem decimalParses_c (s : ByteArray) (hs : s.size ≤ 9223372036854775807) (w : World) (hG : G w) :
    Calls Tryd.prog 3 #[.string s] w fun e w' => e = .returned (.bool true) ∧ Below w.heap.size w w' := by
  have HG := Lib.hid hG
  have P1 := DP.parse_c s hs; have R1 := DR.parse_c s hs
  rw [ref_canon] at R1
  have P2 := DP.whole_c s hs; have R2 := DR.whole_c s hs
  generalize (canP (bs s)).1 = x at *
  generalize (canP (bs s)).2 = y at *
  generalize (wholeV (bs s) : Int) = u at *
  generalize wholeE (bs s) = v at *
  have H1 := Lib.hid P1; have G1 := Lib.hid R1; have H2 := Lib.hid P2; have G2 := Lib.hid R2
  clear P1 R1 P2 R2
  go_enter Tryd.func3, Tryd.ntmps3
  go_wp2_with fail
  refine (alive_c _ (by first | exact HG.out | exact HG.out.alloc _ | exact HG.out.drew | exact (HG.out.alloc _).drew | exact HG.out.drew.alloc _ | exact (HG.out.alloc _).alloc _)).mono ?_; rintro e w1 ⟨rfl, hb1⟩; have gw1 := Lib.hid (G.below (by first | exact HG.out | exact HG.out.alloc _ | exact HG.out.drew | exact (HG.out.alloc _).drew | exact HG.out.drew.alloc _ | exact (HG.out.alloc _).alloc _) hb1); obtain ⟨hc1, hf1⟩ := bcell hb1
  go_wp2_with fail
  refine (H1.out _ (by first | exact gw1.out | exact gw1.out.alloc _ | exact gw1.out.drew | exact (gw1.out.alloc _).drew | exact gw1.out.drew.alloc _ | exact (gw1.out.alloc _).alloc _)).mono ?_; rintro e w2 ⟨rfl, hb2⟩; have gw2 := Lib.hid (G.below (by first | exact gw1.out | exact gw1.out.alloc _ | exact gw1.out.drew | exact (gw1.out.alloc _).drew | exact gw1.out.drew.alloc _ | exact (gw1.out.alloc _).alloc _) hb2); obtain ⟨hc2, hf2⟩ := bcell hb2
  have HX := Lib.hid (below_next hb1 hb2)
  go_wp2_with fail
  refine (G1.out _).mono ?_; rintro e w3 ⟨rfl, hb3⟩; have gw3 := Lib.hid (G.below (by first | exact gw2.out | exact gw2.out.alloc _ | exact gw2.out.drew | exact (gw2.out.alloc _).drew | exact gw2.out.drew.alloc _ | exact (gw2.out.alloc _).alloc _) hb3); obtain ⟨hc3, hf3⟩ := bcell hb3
  have z3 : w2.heap.size < w3.heap.size := (by have := hb3.size; simp at this; omega)
  have HY := Lib.hid (below_next HX.out (below_box hb3))
  go_wp2_with fail
  refine (H2.out _ (by first | exact gw3.out | exact gw3.out.alloc _ | exact gw3.out.drew | exact (gw3.out.alloc _).drew | exact gw3.out.drew.alloc _ | exact (gw3.out.alloc _).alloc _)).mono ?_; rintro e w4 ⟨rfl, hb4⟩; have gw4 := Lib.hid (G.below (by first | exact gw3.out | exact gw3.out.alloc _ | exact gw3.out.drew | exact (gw3.out.alloc _).drew | exact gw3.out.drew.alloc _ | exact (gw3.out.alloc _).alloc _) hb4); obtain ⟨hc4, hf4⟩ := bcell hb4
  have z4 : w3.heap.size < w4.heap.size := (by have := hb4.size; simp at this; omega)
  have y4 : w2.heap.size < w4.heap.size := by omega
  have HZ := Lib.hid (below_next HY.out (below_box hb4))
  go_wp2_with fail
  refine (G2.out _).mono ?_; rintro e w5 ⟨rfl, rfl⟩
  go_wp2
  go_ret
  exact ⟨rfl, HZ.out⟩
end Go.Proofs.YtnnilllnkklecaaDoor.DW
