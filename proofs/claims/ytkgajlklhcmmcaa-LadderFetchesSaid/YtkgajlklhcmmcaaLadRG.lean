/-
  The document's own functions of layer 14: Pick.
-/
import Derived.Test.YtkgajlklhcmmcaaLadRE
import Derived.Test.YtkgajlklhcmmcaaLadPM
set_option linter.unusedSimpArgs false
set_option linter.unusedVariables false
namespace Go.Proofs.Ytkgajlklhcmmcaa.AR
open Go.RowKit
theorem lAsk_at {L : List Rg} {fr now : Int} {k : Nat} {r : Rg} (h1 : L[k]? = some r) (h2 : AP.lAsks fr now r = true) (h3 : ∀ (j : Nat) (r : Rg), j < k → L[j]? = some r → AP.lAsks fr now r = false) : lAsk L fr now = k := by
  have h := AP.fi_at h1 h2 h3
  unfold lAsk
  show (L.findIdx? (AP.lAsks fr now)).getD (L.length - 1) = k
  cases hf : L.findIdx? (AP.lAsks fr now) with
  | none => rw [hf] at h; have h' : (-1 : Int) = (k : Int) := h; omega
  | some q => rw [hf] at h; have h' : (q : Int) = (k : Int) := h; show q = k; omega
theorem lAsk_off {L : List Rg} {fr now : Int} (h3 : ∀ (j : Nat) (r : Rg), L[j]? = some r → AP.lAsks fr now r = false) : lAsk L fr now = L.length - 1 := by
  have h := AP.fi_none h3
  unfold lAsk
  show (L.findIdx? (AP.lAsks fr now)).getD (L.length - 1) = _
  cases hf : L.findIdx? (AP.lAsks fr now) with
  | none => rfl
  | some q => rw [hf] at h; have h' : (q : Int) = -1 := h; omega
set_option maxRecDepth 100000 in
set_option maxHeartbeats 4000000 in
theorem pick_c (m f fr now : Int) (v : Value) (L : List Rg) (hl : L.length ≤ 100000) (hs : ∀ r ∈ L, r.2.length ≤ 100000) (w : World) (h : RiOut w v L) :
    Calls Try.prog 11 #[.agg #[.int .i64 m, .int .i64 f, v], .int .i64 fr, .int .i64 now] w fun e w' => e = .returned (.int .i64 (lPick m f L fr now)) ∧ Below w.heap.size w w' := by
  have RT := fun (W : World) (hB : Below w.heap.size w W) => right_c m f v L hl hs W (h.below hB)
  obtain ⟨A, c, rfl, hc, hx⟩ := id h
  obtain ⟨n, hn⟩ : ∃ n, L.length = n := ⟨_, rfl⟩
  rw [hn] at RT hc hl
  rw [hn]
  obtain ⟨b1, hb, hz⟩ := bx_new1 w #[.int .i64 m, .int .i64 f, .slice A n c] 24
  obtain ⟨wp, hwp⟩ : ∃ wp, w.alloc (.cells #[.int .i64 m, .int .i64 f, .slice A n c] 24) = wp := ⟨_, rfl⟩
  rw [hwp] at b1 hb hz
  obtain ⟨P, hP⟩ : ∃ P, lPick m f L fr now = P := ⟨_, rfl⟩
  rw [hP]
  obtain ⟨rr, hrr⟩ : ∃ rr, lRight m f L = rr := ⟨_, rfl⟩
  obtain ⟨tf, htf⟩ : ∃ tt, rTm fr = tt := ⟨_, rfl⟩
  obtain ⟨tn, htn⟩ : ∃ tt, rTm now = tt := ⟨_, rfl⟩
  have RT1 := RT wp hb
  rw [hrr] at RT1
  have IF := fun W => IR.timed_c fr W; have IN := fun W => IR.timed_c now W
  rw [htf] at IF; rw [htn] at IN
  have NO := Lib.hid (show rr = false ∨ tf = false ∨ tn = false → P = 0 from fun hd => by
    rw [← hP]
    refine AP.lPick_no fun hh => ?_
    rw [hrr, htf, htn] at hh
    obtain ⟨h1, h2, h3⟩ := hh
    rcases hd with e | e | e
    · rw [e] at h1; cases h1
    · rw [e] at h2; cases h2
    · rw [e] at h3; cases h3)
  have YES := Lib.hid (show rr = true → tf = true → tn = true → (lRight m f L = true ∧ rTm fr = true ∧ rTm now = true) ∧ P = (lAsk L fr now : Int) from fun h1 h2 h3 => ⟨⟨hrr.trans h1, htf.trans h2, htn.trans h3⟩, hP.symm.trans (AP.lPick_yes ⟨hrr.trans h1, htf.trans h2, htn.trans h3⟩)⟩)
  obtain ⟨k0, k1, k2, -⟩ := b1.three
  have RT1 := Lib.hid RT1; have IF := Lib.hid IF; have IN := Lib.hid IN; have KP := Lib.hid hb; have HWP := Lib.hid hwp; have B1 := Lib.hid b1; have HX := Lib.hid hx; have HN := Lib.hid hn
  have BX := B1
  clear RT h hn b1 hb hz hwp hrr htf htn hP hx
  go_enter Try.func11, Try.ntmps11
  go_wp2_with fail
  rw [HWP.out]
  refine RT1.out.mono ?_; rintro _ w1 ⟨rfl, hb1⟩
  have K1 := Lib.hid hb1
  obtain ⟨k0, k1, k2, -⟩ := (BX.out.below K1.out).three
  clear hb1
  cases rr
  · as_aux_lemma =>
      obtain rfl := NO.out (by simp)
      have KX := Lib.hid (bnext KP.out K1.out)
      go_wp2
      go_ret
      exact ⟨rfl, KX.out⟩
  · go_wp2_with fail
    refine (IF.out _).mono ?_; rintro _ w2 ⟨rfl, hw2⟩
    obtain rfl := hw2.symm
    cases tf
    · as_aux_lemma =>
        obtain rfl := NO.out (by simp)
        have KX := Lib.hid (bnext KP.out K1.out)
        go_wp2
        go_ret
        exact ⟨rfl, KX.out⟩
    · go_wp2_with fail
      refine (IN.out _).mono ?_; rintro _ w3 ⟨rfl, hw3⟩
      obtain rfl := hw3.symm
      cases tn
      · as_aux_lemma =>
          obtain rfl := NO.out (by simp)
          have KX := Lib.hid (bnext KP.out K1.out)
          go_wp2
          go_ret
          exact ⟨rfl, KX.out⟩
      · as_aux_lemma =>
          obtain ⟨⟨h1, h2, h3⟩, hPe⟩ := YES.out (by first | rfl | trivial) (by first | rfl | trivial) (by first | rfl | trivial)
          obtain ⟨f0, f1⟩ := rTm_iff.1 h2
          obtain ⟨n0, n1⟩ := rTm_iff.1 h3
          have hrr := (lRight_iff.1 h1).2.2
          have hL4 : 1 ≤ L.length := by
            have := AP.lAsk_lt h1 fr now
            omega
          rw [HN.out] at hL4
          have HRR := Lib.hid hrr
          have AT := Lib.hid (fun (k : Nat) (r : Rg) (a1 : L[k]? = some r) (a2 : AP.lAsks fr now r = true) (a3 : ∀ (j : Nat) (r : Rg), j < k → L[j]? = some r → AP.lAsks fr now r = false) => show (k : Int) = P by rw [hPe, lAsk_at a1 a2 a3])
          have OFF := Lib.hid (fun (a3 : ∀ (j : Nat) (r : Rg), L[j]? = some r → AP.lAsks fr now r = false) => show (n : Int) - 1 = P by rw [hPe, lAsk_off a3, HN.out]; omega)
          have wn : IntKind.i64.wrap ((n : Int) - 1) = (n : Int) - 1 := by rw [IntKind.wrap_i64]; omega
          have wd : IntKind.i64.wrap (now - fr) = now - fr := by rw [IntKind.wrap_i64]; omega
          clear h1 h2 h3 hPe hrr NO YES
          go_wp2_with fail
          clear k0 k1 k2
          go_loopw [7] (fun i wr => ∃ k : Nat, k ≤ n ∧ i = .int .i64 k ∧ Hid ((∀ (j : Nat) (r : Rg), j < k → L[j]? = some r → AP.lAsks fr now r = false) ∧ Below wp.heap.size wp wr)) (fun i _ => n - (intOf i).toNat)
          case atStart => exact ⟨0, Nat.zero_le _, rfl, fun j r h => absurd h (Nat.not_lt_zero j), K1.out⟩
          case round =>
            as_aux_lemma =>
              obtain ⟨k, hk, rfl, HI⟩ := hrel
              obtain ⟨k0, k1, k2, -⟩ := (BX.out.below HI.out.2).three
              have KW := Lib.hid (bnext KP.out HI.out.2)
              by_cases hlt : k < n
              · as_aux_lemma =>
                  obtain ⟨b, off, s, l, A', c', q, rfl, hp, hq, e0, e1, ho⟩ := AP.ri_at (c := c) (fun hn => by obtain ⟨b, off, e, ha⟩ := HX.out hn; exact ⟨b, off, e, ha.below KW.out⟩) HN.out hlt
                  have hr := HRR.out k _ hp
                  obtain ⟨m1, m2, m3, m4⟩ := rMay_iff.1 (rRight_iff.1 hr).1
                  rw [hq] at m3 m4
                  have RC := Lib.hid (reach_c s A' q c' ⟨m1, m2⟩ ⟨by omega, by omega⟩ wr)
                  have hlr : AP.lAsks fr now (s, l) = decide (now - fr ≤ s * (q : Int)) := by rw [← hq]; rfl
                  obtain ⟨z, hz⟩ : ∃ z, s * (q : Int) = z := ⟨_, rfl⟩
                  rw [hz] at RC hlr
                  by_cases ha : now - fr ≤ z
                  · rw [decide_eq_true ha] at hlr
                    have DK := Lib.hid (AT.out k _ hp hlr HI.out.1)
                    clear hp hq ho hr hlr hz
                    go_wp2_with fail
                    refine RC.out.mono ?_; rintro _ w5 ⟨rfl, hb5⟩
                    have KX := Lib.hid (bnext KW.out hb5)
                    go_wp2
                    go_ret
                    exact ⟨congrArg (fun z => Ending.returned (.int .i64 z)) DK.out, KX.out⟩
                  · rw [decide_eq_false ha] at hlr
                    have ALL := Lib.hid (show ∀ (j : Nat) (r : Rg), j < k + 1 → L[j]? = some r → AP.lAsks fr now r = false from fun j r h1 h2 => by
                      rcases Nat.lt_or_ge j k with h | h
                      · exact HI.out.1 j r h h2
                      · obtain rfl : j = k := by omega
                        rw [hp] at h2
                        obtain rfl := Option.some.inj h2
                        exact hlr)
                    clear hp hq ho hr hlr hz
                    go_wp2_with fail
                    refine RC.out.mono ?_; rintro _ w5 ⟨rfl, hb5⟩
                    have KX := Lib.hid (bnext HI.out.2 hb5)
                    go_wp2
                    go_roundw
                    case rel => exact ⟨k + 1, by omega, by go_num, ALL.out, KX.out⟩
                    case measure => simp [intOf]; omega
              · as_aux_lemma =>
                  obtain rfl : k = n := by omega
                  have DK := Lib.hid (OFF.out (fun j r h1 => HI.out.1 j r (by have := (List.getElem?_eq_some_iff.1 h1).1; have := HN.out; omega) h1))
                  go_wp2
                  go_ret
                  exact ⟨congrArg (fun z => Ending.returned (.int .i64 z)) DK.out, KW.out⟩
end Go.Proofs.Ytkgajlklhcmmcaa.AR
