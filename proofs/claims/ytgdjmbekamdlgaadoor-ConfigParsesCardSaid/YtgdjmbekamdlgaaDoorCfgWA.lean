/-
  Walks of the statements of layer 11: what stands fixed; any text.
-/
import Derived.Test.YtgdjmbekamdlgaaDoorCfgPb
set_option linter.unusedSimpArgs false
set_option linter.unusedVariables false
namespace Go.Proofs.YtgdjmbekamdlgaaDoor.KW
open Go.RowKit KR KP
theorem fix1 : confV (bs ⟨#[35, 32, 120, 10, 91, 97, 93, 10, 120, 32, 61, 32, 49, 10]⟩) = ([([97], [([120], [49])])], 0) := by decide +kernel
theorem fix2 : confV (bs ⟨#[120, 32, 61, 32, 49]⟩) = ([], 7) := by decide +kernel
theorem lit_secs (w : World) : SecOut ((w.alloc (.cells #[.string ⟨#[120]⟩, .string ⟨#[49]⟩] 34)).alloc (.cells #[.string ⟨#[97]⟩, .slice (some ⟨w.heap.size, 0, none⟩) 1 1] 37)) (.slice (some ⟨w.heap.size + 1, 0, none⟩) 1 1) [([97], [([120], [49])])] := by
  obtain ⟨a0, a1, -, -⟩ := two_new w (.string ⟨#[120]⟩) (.string ⟨#[49]⟩) 34
  obtain ⟨b0, b1, -, -⟩ := two_new (w.alloc (.cells #[.string ⟨#[120]⟩, .string ⟨#[49]⟩] 34)) (.string ⟨#[97]⟩) (.slice (some ⟨w.heap.size, 0, none⟩) 1 1) 37
  rw [World.size_alloc] at b0 b1
  have hb := alloc_below (w.alloc (.cells #[.string ⟨#[120]⟩, .string ⟨#[49]⟩] 34)) (.cells #[.string ⟨#[97]⟩, .slice (some ⟨w.heap.size, 0, none⟩) 1 1] 37)
  have c0 := cellb hb a0
  have c1 := cellb hb a1
  refine ⟨_, 1, rfl, Nat.le_refl _, fun _ => ⟨w.heap.size + 1, rfl, fun k x hk => ?_⟩⟩
  match k, hk with
  | 0, hk =>
    obtain rfl : (([97], [([120], [49])]) : Sec) = x := by simpa using hk
    refine ⟨_, b0, b1, _, 1, rfl, Nat.le_refl _, fun _ => ⟨w.heap.size, rfl, fun j p hj => ?_⟩⟩
    match j, hj with
    | 0, hj =>
      obtain rfl : (([120], [49]) : KV) = p := by simpa using hj
      exact ⟨c0, c1⟩
    | j + 1, hj => simp at hj
  | k + 1, hk => simp at hk
theorem sec_form {w : World} {v : Value} {L : List Sec} (h : SecOut w v L) : ∃ A c, v = .slice A L.length c := by
  obtain ⟨A, c, hv, _⟩ := h
  exact ⟨A, c, hv⟩
set_option maxRecDepth 100000 in
set_option maxHeartbeats 2000000 in
theorem alive_c (w : World) : Calls Tryd.prog 5 #[] w fun e w' => e = .returned (.bool true) ∧ Below w.heap.size w w' := by
  have p1 := parse_p ⟨#[35, 32, 120, 10, 91, 97, 93, 10, 120, 32, 61, 32, 49, 10]⟩ w
  have p2 := fun W => parse_p ⟨#[120, 32, 61, 32, 49]⟩ W
  rw [fix1] at p1
  rw [fix2] at p2
  have P1 := Lib.hid p1; have P2 := Lib.hid p2
  clear p1 p2
  go_enter Tryd.func5, Tryd.ntmps5
  go_wp2_with fail
  refine P1.out.mono ?_; rintro _ w1 ⟨v1, rfl, h1, hb1⟩
  obtain ⟨A1, c1, rfl⟩ := sec_form h1
  have H1 := Lib.hid h1; have B1 := Lib.hid hb1
  clear h1 hb1
  go_wp2_with fail
  refine (P2.out _).mono ?_; rintro _ w2 ⟨v2, rfl, h2, hb2⟩
  have hbl := bnext (alloc_below w2 (.cells #[.string ⟨#[120]⟩, .string ⟨#[49]⟩] 34)) (alloc_below (w2.alloc (.cells #[.string ⟨#[120]⟩, .string ⟨#[49]⟩] 34)) (.cells #[.string ⟨#[97]⟩, .slice (some ⟨w2.heap.size, 0, none⟩) 1 1] 37))
  have SM := Lib.hid (same_c (L := [([97], [([120], [49])])]) (by decide) (by decide) (H1.out.below (bnext hb2 hbl)) (lit_secs w2))
  have B3 := Lib.hid (bnext (bnext B1.out hb2) hbl)
  clear h2 hb2 hbl
  go_wp2_with fail
  refine SM.out.mono ?_; rintro _ w4 ⟨rfl, hb4⟩
  go_wp2
  go_ret
  exact ⟨rfl, bnext B3.out hb4⟩
set_option maxRecDepth 100000 in
set_option maxHeartbeats 2000000 in
theorem configParses_c (s : ByteArray) (hs : s.size ≤ 9223372036854775807) (w : World) : Calls Tryd.prog 3 #[.string s] w fun e w' => e = .returned (.bool true) ∧ Below w.heap.size w w' := by
  have AL := Lib.hid (alive_c w)
  by_cases h6 : 6000 < s.size
  · have hi : (6000 : Int) < (s.size : Int) := by omega
    go_enter Tryd.func3, Tryd.ntmps3
    go_wp2_with fail
    refine AL.out.mono ?_; rintro _ w1 ⟨rfl, hb1⟩
    go_wp2
    go_ret
    exact ⟨rfl, hb1⟩
  · have h1 : s.size ≤ 100000 := by omega
    have hi : ¬ (6000 : Int) < (s.size : Int) := by omega
    have P1 := Lib.hid (fun W => KP.parse_p s W)
    have P2 := Lib.hid (fun W => KR.parse_c s h1 W)
    have L1 := Lib.hid (fun W => KP.lines_p s h1 W)
    have L2 := Lib.hid (fun W => KR.lines_c s h1 W)
    have FW := Lib.hid (conf_few (bs s))
    have LN := Lib.hid (show (linesV (bs s)).length ≤ 100000 by have := linesV_count (bs s); rw [bs_length] at this; omega)
    generalize confV (bs s) = r at *
    obtain ⟨L, e⟩ := r
    simp only at P1 P2 FW
    generalize linesV (bs s) = ls at *
    clear h6
    go_enter Tryd.func3, Tryd.ntmps3
    go_wp2_with fail
    refine AL.out.mono ?_; rintro _ w0 ⟨rfl, hb0⟩
    have B0 := Lib.hid hb0
    clear hb0
    go_wp2_with fail
    refine (P1.out _).mono ?_; rintro _ w1 ⟨v1, rfl, h1, hb1⟩
    obtain ⟨A1, c1, rfl⟩ := sec_form h1
    have H1 := Lib.hid h1; have B1 := Lib.hid (bnext B0.out hb1)
    clear h1 hb1
    go_wp2_with fail
    refine (P2.out _).mono ?_; rintro _ w2 ⟨v2, rfl, h2, hb2⟩
    obtain ⟨A2, c2, rfl⟩ := sec_form h2
    have SM := Lib.hid (same_c (L := L) (by have := FW.out.secs; omega) (fun x hx => by have := FW.out.keys x hx; omega) (H1.out.below hb2) h2)
    have B2 := Lib.hid (bnext B1.out hb2)
    clear h2 hb2
    go_wp2_with fail
    refine SM.out.mono ?_; rintro _ w3 ⟨rfl, hb3⟩
    have B3 := Lib.hid (bnext B2.out hb3)
    clear hb3
    go_wp2_with fail
    refine (L1.out _).mono ?_; rintro _ w4 ⟨v4, rfl, t4, hb4⟩
    obtain ⟨A4, c4, rfl, _, _⟩ := own_form t4
    have T4 := Lib.hid t4.out; have B4 := Lib.hid (bnext B3.out hb4)
    clear t4 hb4
    go_wp2_with fail
    refine (L2.out _).mono ?_; rintro _ w5 ⟨v5, rfl, t5, hb5⟩
    obtain ⟨A5, c5, rfl, _, _⟩ := own_form t5
    have TM := Lib.hid (texts_c (l := ls) LN.out (T4.out.below hb5) t5.out)
    have B5 := Lib.hid (bnext B4.out hb5)
    clear t5 hb5
    go_wp2_with fail
    refine TM.out.mono ?_; rintro _ w6 ⟨rfl, hb6⟩
    go_wp2
    go_ret
    exact ⟨rfl, bnext B5.out hb6⟩
end Go.Proofs.YtgdjmbekamdlgaaDoor.KW
