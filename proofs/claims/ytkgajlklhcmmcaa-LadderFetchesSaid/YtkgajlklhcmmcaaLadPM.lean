/-
  Which ring is asked, by the program: Pick.
-/
import Derived.Test.YtkgajlklhcmmcaaLadPK
set_option linter.unusedSimpArgs false
set_option linter.unusedVariables false
namespace Go.Proofs.Ytkgajlklhcmmcaa.AP
open Go.RowKit IP
theorem lPick_no {m f : Int} {L : List Rg} {fr now : Int} (h : ¬ (lRight m f L = true ∧ rTm fr = true ∧ rTm now = true)) : lPick m f L fr now = 0 := if_neg h
theorem lPick_yes {m f : Int} {L : List Rg} {fr now : Int} (h : lRight m f L = true ∧ rTm fr = true ∧ rTm now = true) : lPick m f L fr now = (lAsk L fr now : Int) := if_pos h
set_option maxRecDepth 100000 in
set_option maxHeartbeats 4000000 in
theorem pick_c (m f fr now : Int) (v : Value) (L : List Rg) (hl : L.length ≤ 100000) (hs : ∀ r ∈ L, r.2.length ≤ 100000) (w : World) (h : RiOut w v L) :
    Calls Try.prog 10 #[.agg #[.int .i64 m, .int .i64 f, v], .int .i64 fr, .int .i64 now] w fun e w' => e = .returned (.int .i64 (lPick m f L fr now)) ∧ Below w.heap.size w w' := by
  have RT := fun (W : World) (hB : Below w.heap.size w W) => right_c m f v L hl hs W (h.below hB)
  have AK := fun (hR : lRight m f L = true) (h1 : rTm fr = true) (h3 : rTm now = true) (W : World) (hB : Below w.heap.size w W) => asked_c m f fr now v L hR h1 h3 W (h.below hB)
  obtain ⟨A, c, rfl, hc, -⟩ := id h
  obtain ⟨n, hn⟩ : ∃ n, L.length = n := ⟨_, rfl⟩
  rw [hn] at RT AK hc
  rw [hn]
  obtain ⟨b1, hb, hz⟩ := bx_new1 w #[.int .i64 m, .int .i64 f, .slice A n c] 24
  obtain ⟨wp, hwp⟩ : ∃ wp, w.alloc (.cells #[.int .i64 m, .int .i64 f, .slice A n c] 24) = wp := ⟨_, rfl⟩
  rw [hwp] at b1 hb hz
  obtain ⟨P, hP⟩ : ∃ P, lPick m f L fr now = P := ⟨_, rfl⟩
  rw [hP]
  obtain ⟨rr, hrr⟩ : ∃ rr, lRight m f L = rr := ⟨_, rfl⟩
  obtain ⟨tf, htf⟩ : ∃ tt, rTm fr = tt := ⟨_, rfl⟩
  obtain ⟨tn, htn⟩ : ∃ tt, rTm now = tt := ⟨_, rfl⟩
  have RT1 := RT wp hb
  rw [hrr] at RT1
  have IF := fun W => isTime_b fr W; have IN := fun W => isTime_b now W
  rw [htf] at IF; rw [htn] at IN
  have NO := Lib.hid (show rr = false ∨ tf = false ∨ tn = false → P = 0 from fun hd => by
    rw [← hP]
    refine lPick_no fun hh => ?_
    rw [hrr, htf, htn] at hh
    obtain ⟨h1, h2, h3⟩ := hh
    rcases hd with e | e | e
    · rw [e] at h1; cases h1
    · rw [e] at h2; cases h2
    · rw [e] at h3; cases h3)
  have YES := Lib.hid (show rr = true → tf = true → tn = true → (lRight m f L = true ∧ rTm fr = true ∧ rTm now = true) ∧ P = (lAsk L fr now : Int) from fun h1 h2 h3 => ⟨⟨hrr.trans h1, htf.trans h2, htn.trans h3⟩, hP.symm.trans (lPick_yes ⟨hrr.trans h1, htf.trans h2, htn.trans h3⟩)⟩)
  obtain ⟨k0, k1, k2, -⟩ := b1.three
  have RT1 := Lib.hid RT1; have IF := Lib.hid IF; have IN := Lib.hid IN; have AK := Lib.hid AK; have KX := Lib.hid hb; have HWP := Lib.hid hwp; have B1 := Lib.hid b1
  clear RT h hn b1 hb hz hwp hrr htf htn hP
  go_enter Try.func10, Try.ntmps10
  go_wp2_with fail
  rw [HWP.out]
  refine RT1.out.mono ?_; rintro _ w1 ⟨rfl, hb1⟩
  have KX := Lib.hid (bnext KX.out hb1)
  have B1 := Lib.hid (B1.out.below hb1)
  obtain ⟨k0, k1, k2, -⟩ := B1.out.three
  clear hb1
  cases rr
  · obtain rfl := NO.out (by simp)
    go_wp2
    go_ret
    exact ⟨rfl, KX.out⟩
  · go_wp2_with fail
    refine (IF.out _).mono ?_; rintro _ w2 ⟨rfl, hb2⟩
    have KX := Lib.hid (bnext KX.out hb2)
    have B1 := Lib.hid (B1.out.below hb2)
    obtain ⟨k0, k1, k2, -⟩ := B1.out.three
    clear hb2
    cases tf
    · obtain rfl := NO.out (by simp)
      go_wp2
      go_ret
      exact ⟨rfl, KX.out⟩
    · go_wp2_with fail
      refine (IN.out _).mono ?_; rintro _ w3 ⟨rfl, hb3⟩
      have KX := Lib.hid (bnext KX.out hb3)
      have B1 := Lib.hid (B1.out.below hb3)
      obtain ⟨k0, k1, k2, -⟩ := B1.out.three
      clear hb3
      cases tn
      · obtain rfl := NO.out (by simp)
        go_wp2
        go_ret
        exact ⟨rfl, KX.out⟩
      · obtain ⟨⟨h1, h2, h3⟩, hPe⟩ := YES.out (by first | rfl | trivial) (by first | rfl | trivial) (by first | rfl | trivial)
        have AK1 := AK.out h1 h2 h3 w3 KX.out
        rw [← hPe] at AK1
        have AK1 := Lib.hid AK1
        clear h1 h2 h3 hPe
        go_wp2_with fail
        refine AK1.out.mono ?_; rintro _ w4 ⟨rfl, hb4⟩
        have KX := Lib.hid (bnext KX.out hb4)
        go_wp2
        go_ret
        exact ⟨rfl, KX.out⟩
end Go.Proofs.Ytkgajlklhcmmcaa.AP
