/-
  Contracts of the library's stable sort at floats, the sixth part: the merge in place, walked.
-/
import Derived.Test.YtcppcfjejalggaaFloPX
set_option linter.unusedSimpArgs false
set_option linter.unusedVariables false
namespace Go.Proofs.Ytcppcfjejalggaa.LP
open Go.RowKit Go.Shelf Go.Lib Go.Sort
set_option maxRecDepth 100000 in
set_option maxHeartbeats 8000000 in
theorem sym_step (w0 : World) (blk off cap n : Nat) (P L Q T l : List Fl) (a m b : Int) (R : Told w0 blk off n) (hn : n ≤ 1000) (REC : Merges w0 blk off cap n (L.length + Q.length)) (hl : P.length + L.length + Q.length + T.length = n) (upL : ST.Up rkF L) (upQ : ST.Up rkF Q)
    (l2 : 2 ≤ L.length) (q2 : 2 ≤ Q.length) (ha : a = P.length) (hm : m = a + L.length) (hb : b = m + Q.length) (hr : P ++ (ST.mg rkF L Q ++ T) = l) (W : World) (S : SL w0 blk off (P ++ (L ++ (Q ++ T))) W) :
    Calls Try.prog 71 #[.slice (some ⟨blk, off, none⟩) n cap, .int .i64 a, .int .i64 m, .int .i64 b, .func (.func 17) #[] #[]] W fun e w' => e = .returned (.tuple #[]) ∧ SL w0 blk off l w' := by
  have ha0 : 0 ≤ a := by omega
  have hbn : b ≤ n := by omega
  have hmb : m ≤ b := by omega
  have ham : a ≤ m := by omega
  obtain ⟨d, hd⟩ : ∃ d : Int, (a + b) / 2 = d := ⟨_, rfl⟩
  obtain ⟨q, hq⟩ : ∃ q : Int, d + m = q := ⟨_, rfl⟩
  obtain ⟨p, hp⟩ : ∃ p : Int, q - 1 = p := ⟨_, rfl⟩
  obtain ⟨s0, hs0⟩ : ∃ s : Int, (if d < m then q - b else a) = s := ⟨_, rfl⟩
  obtain ⟨r0, hr0⟩ : ∃ r : Int, (if d < m then d else m) = r := ⟨_, rfl⟩
  have b1 : a < d := by omega
  have b2 : d < b := by omega
  have hsr : s0 ≤ r0 ∧ a ≤ s0 ∧ r0 ≤ m ∧ r0 ≤ d ∧ d + m - s0 ≤ b := by rw [← hs0, ← hr0]; split <;> omega
  have i1 : ∀ x ∈ L.take (s0 - a).toNat, ∀ y ∈ Q.drop (d - s0).toNat, rkF x ≤ rkF y := by
    intro x hx y hy
    by_cases h : d < m
    · rw [if_pos h] at hs0
      rw [List.drop_of_length_le (by omega)] at hy
      cases hy
    · rw [if_neg h] at hs0
      rw [show (s0 - a).toNat = 0 from by omega] at hx
      cases hx
  have i2 : ∀ x ∈ L.drop (r0 - a).toNat, ∀ y ∈ Q.take (d - r0).toNat, rkF y < rkF x := by
    intro x hx y hy
    by_cases h : d < m
    · rw [if_pos h] at hr0
      rw [show (d - r0).toNat = 0 from by omega] at hy
      cases hy
    · rw [if_neg h] at hr0
      rw [List.drop_of_length_le (by omega)] at hx
      cases hx
  have TS := Lib.hid (fun (s e : Int) (h1 : a ≤ s) (h2 : s ≤ m) (h3 : s ≤ d) (h4 : e = d + m - s) (h5 : e ≤ b) h6 h7 => three_steps w0 blk off cap n P L Q T l a m b d s e R hn REC hl upL upQ ha hm hb hr h1 h2 h3 h4 h5 b1 b2 h6 h7)
  have HR := Lib.hid R; have UL := Lib.hid upL; have UQ := Lib.hid upQ; have HL := Lib.hid hl; have HA := Lib.hid ha; have HM := Lib.hid (show m - a = L.length from by omega); have HB := Lib.hid (show b - m = Q.length from by omega)
  have I1 := Lib.hid i1; have I2 := Lib.hid i2; have S0 := Lib.hid S; have HSR := Lib.hid hsr; have HS0 := Lib.hid hs0; have HR0 := Lib.hid hr0
  have hcl0 := oneF.cells
  simp only [Value.cells] at hcl0
  have hst := oneF.store Try.prog
  have mixed := lays20.mixed
  have eg := enters_of Try.func17 (by kernel_rfl) rfl
  have t1 : (m - a == 1) = false := by rw [beq_eq_false_iff_ne]; omega
  have t2 : (b - m == 1) = false := by rw [beq_eq_false_iff_ne]; omega
  have bd0 : 0 ≤ d := by omega
  have bq0 : 0 < q := by omega
  have bq1 : q ≤ 2000 := by omega
  clear R REC hl upL upQ l2 q2 ha hm hb hr S i1 i2 hsr hs0 hr0
  by_cases hdm : d < m
  · have e0 : q - b = s0 := by have := HS0.out; rw [if_pos hdm] at this; exact this
    have E0 := Lib.hid (rfl : s0 = s0)
    have E1 := Lib.hid (show d = r0 from by have := HR0.out; rw [if_pos hdm] at this; exact this)
    go_enter Try.func71, Try.ntmps71
    go_wp2
    go_loopw [20, 21, 23] (fun e u v wr => ∃ i j : Int, s0 ≤ i ∧ i ≤ j ∧ j ≤ r0 ∧ e = .int .i64 i ∧ u = .int .i64 j ∧ Hid (SL w0 blk off (P ++ (L ++ (Q ++ T))) wr ∧ (∀ x ∈ L.take (i - a).toNat, ∀ y ∈ Q.drop (d - i).toNat, rkF x ≤ rkF y) ∧ (∀ x ∈ L.drop (j - a).toNat, ∀ y ∈ Q.take (d - j).toNat, rkF y < rkF x))) (fun e u _ _ => (intOf u - intOf e).toNat)
    case atStart => exact ⟨s0, r0, by have := HSR.out; omega, by have := HSR.out; omega, by have := HSR.out; omega, by first | rfl | exact congrArg (Value.int .i64) E0.out, by first | rfl | exact congrArg (Value.int .i64) E1.out, S0.out, I1.out, I2.out⟩
    case round =>
      obtain ⟨i, j, hi, hij, hj, rfl, rfl, HS⟩ := hrel
      have k1 : a ≤ i := by have := HSR.out; omega
      have k2 : j ≤ m := by have := HSR.out; omega
      have k3 : j ≤ d := by have := HSR.out; omega
      have k4 : d + m - i ≤ b := by have := HSR.out; omega
      by_cases hlt : i < j
      · obtain ⟨c, hc⟩ : ∃ c : Int, (i + j) / 2 = c := ⟨_, rfl⟩
        have h1 : i ≤ c := by omega
        have h2 : c < j := by omega
        obtain ⟨g, hg⟩ : ∃ g : Int, p - c = g := ⟨_, rfl⟩
        obtain ⟨tt, htt⟩ : ∃ t : Nat, t = (c - a).toNat := ⟨_, rfl⟩
        obtain ⟨uu, huu⟩ : ∃ t : Nat, t = (d - 1 - c).toNat := ⟨_, rfl⟩
        have htl : tt < L.length := by have := HM.out; omega
        have hul : uu < Q.length := by have := HB.out; omega
        obtain ⟨cN, hcN⟩ : ∃ q, q = P.length + tt := ⟨_, rfl⟩
        obtain ⟨gN, hgN⟩ : ∃ q, q = P.length + L.length + uu := ⟨_, rfl⟩
        have ea : c.toNat = cN := by have := HA.out; omega
        have pa : 0 ≤ c := by omega
        have ba : c < (n : Int) := by omega
        have eb : g.toNat = gN := by have := HA.out; have := HM.out; omega
        have pb : 0 ≤ g := by omega
        have bb : g < (n : Int) := by omega
        have rb : IntKind.i64.wrap g = g := by rw [IntKind.wrap_i64]; omega
        have f1 := fun k os => (two_facts (HS.out.1.grown k os) HR.out HL.out tt uu htl hul cN gN hcN hgN).1
        have f2 := fun k os => (two_facts (HS.out.1.grown k os) HR.out HL.out tt uu htl hul cN gN hcN hgN).2
        have UT := Lib.hid (fun hz => cross_le UL.out UQ.out htl hul hz)
        have UD := Lib.hid (fun hz => cross_lt UL.out UQ.out htl hul hz)
        have HTT := Lib.hid htt; have HUU := Lib.hid huu
        have hcf := cf_neg (Q[uu]) (L[tt])
        generalize Q[uu] = y at *
        generalize L[tt] = x at *
        have hcc := fun k os => cmp_g y x (grow (wr.drewN k) os)
        clear htt huu htl hul hcN hgN
        by_cases hv : cfF y x < 0
        · have hdv : decide (cfF y x < 0) = true := decide_eq_true hv
          have HV := Lib.hid (hcf.1 hv)
          clear hcf
          go_wp2_with fail
          go_quiet_grown (exact Calls.grown_of (hcc _ _))
          have S2 := Lib.hid (HS.out.1.grown nq osq)
          have HF := Lib.hid HS.out.2
          clear f1 f2 hcc HS
          generalize grow (wr.drewN nq) osq = w2 at S2 ⊢
          clear nq osq ea eb rb
          go_wp2
          go_roundw
          case rel =>
            refine ⟨i, c, hi, h1, by omega, rfl, rfl, S2.out, HF.out.1, fun x hx y hy => ?_⟩
            rw [← HTT.out] at hx
            rw [show (d - c).toNat = uu + 1 from by have := HUU.out; omega] at hy
            exact UD.out HV.out x hx y hy
          case measure => simp [intOf]; omega
        · have hdv : decide (cfF y x < 0) = false := decide_eq_false hv
          have HV := Lib.hid (show rkF x ≤ rkF y from by rw [hcf] at hv; omega)
          clear hcf
          go_wp2_with fail
          go_quiet_grown (exact Calls.grown_of (hcc _ _))
          have S2 := Lib.hid (HS.out.1.grown nq osq)
          have HF := Lib.hid HS.out.2
          clear f1 f2 hcc HS
          generalize grow (wr.drewN nq) osq = w2 at S2 ⊢
          clear nq osq ea eb rb
          go_wp2
          go_roundw
          case rel =>
            refine ⟨c + 1, j, by omega, by omega, hj, rfl, rfl, S2.out, fun x hx y hy => ?_, HF.out.2⟩
            rw [show (c + 1 - a).toNat = tt + 1 from by have := HTT.out; omega] at hx
            rw [show (d - (c + 1)).toNat = uu from by have := HUU.out; omega] at hy
            exact UT.out HV.out x hx y hy
          case measure => simp [intOf]; omega
      · obtain rfl : i = j := by omega
        obtain ⟨e, he⟩ : ∃ e : Int, q - i = e := ⟨_, rfl⟩
        obtain ⟨l1, l2, x1, n1, x2, n2, x3, n3⟩ := TS.out i e k1 k2 k3 (by omega) (by omega) HS.out.2.1 HS.out.2.2
        have X1 := Lib.hid x1; have X2 := Lib.hid x2; have X3 := Lib.hid x3; have N1 := Lib.hid n1; have N2 := Lib.hid n2; have N3 := Lib.hid n3
        have HE := Lib.hid (show e = d + m - i from by omega)
        have SS := Lib.hid HS.out.1
        have j1 : 0 ≤ i := by omega
        have j2 : e ≤ b := by omega
        have j3 : 0 ≤ e := by omega
        clear x1 n1 x2 n2 x3 n3 HS TS I1 I2 S0 HSR HS0 HR0 hlt hij
        generalize hii : i = s at *
        clear hii
        by_cases hA : s < m
        · have hA' : d < e := by have := HE.out; omega
          by_cases hB : s < d
          · have hB' : m < e := by have := HE.out; omega
            go_wp2_with fail
            refine (X1.out ⟨hA, hB'⟩ _ SS.out).mono ?_; rintro _ w2 ⟨rfl, s2⟩
            have S2 := Lib.hid s2
            clear s2 SS
            by_cases hC : a < s
            · go_wp2_with fail
              refine (X2.out ⟨hC, hB⟩ _ S2.out).mono ?_; rintro _ w3 ⟨rfl, s3⟩
              have S3 := Lib.hid s3
              clear s3 S2
              by_cases hD : e < b
              · go_wp2_with fail
                all_goals (refine (X3.out ⟨hA', hD⟩ _ S3.out).mono ?_; rintro _ w4 ⟨rfl, s4⟩; have S4 := Lib.hid s4; clear s4 S3; go_wp2)
                all_goals (go_end0; exact ⟨rfl, S4.out⟩)
              · have S4 := Lib.hid (show SL w0 blk off l w3 from by rw [← N3.out (fun h => absurd h.2 (by omega))]; exact S3.out)
                clear S3
                go_wp2
                all_goals (go_end0; exact ⟨rfl, S4.out⟩)
            · have S3 := Lib.hid (show SL w0 blk off l2 w2 from by rw [← N2.out (fun h => absurd h.1 (by omega))]; exact S2.out)
              clear S2
              by_cases hD : e < b
              · go_wp2_with fail
                all_goals (refine (X3.out ⟨hA', hD⟩ _ S3.out).mono ?_; rintro _ w4 ⟨rfl, s4⟩; have S4 := Lib.hid s4; clear s4 S3; go_wp2)
                all_goals (go_end0; exact ⟨rfl, S4.out⟩)
              · have S4 := Lib.hid (show SL w0 blk off l w2 from by rw [← N3.out (fun h => absurd h.2 (by omega))]; exact S3.out)
                clear S3
                go_wp2
                all_goals (go_end0; exact ⟨rfl, S4.out⟩)
          · have hB' : ¬ m < e := by have := HE.out; omega
            have S2 := Lib.hid (show SL w0 blk off l1 wr from by rw [← N1.out (fun h => absurd h.2 (by omega))]; exact SS.out)
            clear SS
            by_cases hC : a < s
            · have S3 := Lib.hid (show SL w0 blk off l2 wr from by rw [← N2.out (fun h => absurd h.2 (by omega))]; exact S2.out)
              clear S2
              by_cases hD : e < b
              · go_wp2_with fail
                all_goals (refine (X3.out ⟨hA', hD⟩ _ S3.out).mono ?_; rintro _ w4 ⟨rfl, s4⟩; have S4 := Lib.hid s4; clear s4 S3; go_wp2)
                all_goals (go_end0; exact ⟨rfl, S4.out⟩)
              · have S4 := Lib.hid (show SL w0 blk off l wr from by rw [← N3.out (fun h => absurd h.2 (by omega))]; exact S3.out)
                clear S3
                go_wp2
                all_goals (go_end0; exact ⟨rfl, S4.out⟩)
            · have S3 := Lib.hid (show SL w0 blk off l2 wr from by rw [← N2.out (fun h => absurd h.2 (by omega))]; exact S2.out)
              clear S2
              by_cases hD : e < b
              · go_wp2_with fail
                all_goals (refine (X3.out ⟨hA', hD⟩ _ S3.out).mono ?_; rintro _ w4 ⟨rfl, s4⟩; have S4 := Lib.hid s4; clear s4 S3; go_wp2)
                all_goals (go_end0; exact ⟨rfl, S4.out⟩)
              · have S4 := Lib.hid (show SL w0 blk off l wr from by rw [← N3.out (fun h => absurd h.2 (by omega))]; exact S3.out)
                clear S3
                go_wp2
                all_goals (go_end0; exact ⟨rfl, S4.out⟩)
        · have hA' : ¬ d < e := by have := HE.out; omega
          have S2 := Lib.hid (show SL w0 blk off l1 wr from by rw [← N1.out (fun h => absurd h.1 (by omega))]; exact SS.out)
          clear SS
          by_cases hB : s < d
          · by_cases hC : a < s
            · go_wp2_with fail
              refine (X2.out ⟨hC, hB⟩ _ S2.out).mono ?_; rintro _ w3 ⟨rfl, s3⟩
              have S3 := Lib.hid s3
              clear s3 S2
              have S4 := Lib.hid (show SL w0 blk off l w3 from by rw [← N3.out (fun h => absurd h.1 (by omega))]; exact S3.out)
              clear S3
              go_wp2
              all_goals (go_end0; exact ⟨rfl, S4.out⟩)
            · have S3 := Lib.hid (show SL w0 blk off l2 wr from by rw [← N2.out (fun h => absurd h.1 (by omega))]; exact S2.out)
              clear S2
              have S4 := Lib.hid (show SL w0 blk off l wr from by rw [← N3.out (fun h => absurd h.1 (by omega))]; exact S3.out)
              clear S3
              go_wp2
              all_goals (go_end0; exact ⟨rfl, S4.out⟩)
          · by_cases hC : a < s
            · have S3 := Lib.hid (show SL w0 blk off l2 wr from by rw [← N2.out (fun h => absurd h.2 (by omega))]; exact S2.out)
              clear S2
              have S4 := Lib.hid (show SL w0 blk off l wr from by rw [← N3.out (fun h => absurd h.1 (by omega))]; exact S3.out)
              clear S3
              go_wp2
              all_goals (go_end0; exact ⟨rfl, S4.out⟩)
            · have S3 := Lib.hid (show SL w0 blk off l2 wr from by rw [← N2.out (fun h => absurd h.2 (by omega))]; exact S2.out)
              clear S2
              have S4 := Lib.hid (show SL w0 blk off l wr from by rw [← N3.out (fun h => absurd h.1 (by omega))]; exact S3.out)
              clear S3
              go_wp2
              all_goals (go_end0; exact ⟨rfl, S4.out⟩)
  · have E0 := Lib.hid (show a = s0 from by have := HS0.out; rw [if_neg hdm] at this; exact this)
    have E1 := Lib.hid (show m = r0 from by have := HR0.out; rw [if_neg hdm] at this; exact this)
    go_enter Try.func71, Try.ntmps71
    go_wp2
    go_loopw [20, 21, 23] (fun e u v wr => ∃ i j : Int, s0 ≤ i ∧ i ≤ j ∧ j ≤ r0 ∧ e = .int .i64 i ∧ u = .int .i64 j ∧ Hid (SL w0 blk off (P ++ (L ++ (Q ++ T))) wr ∧ (∀ x ∈ L.take (i - a).toNat, ∀ y ∈ Q.drop (d - i).toNat, rkF x ≤ rkF y) ∧ (∀ x ∈ L.drop (j - a).toNat, ∀ y ∈ Q.take (d - j).toNat, rkF y < rkF x))) (fun e u _ _ => (intOf u - intOf e).toNat)
    case atStart => exact ⟨s0, r0, by have := HSR.out; omega, by have := HSR.out; omega, by have := HSR.out; omega, by first | rfl | exact congrArg (Value.int .i64) E0.out, by first | rfl | exact congrArg (Value.int .i64) E1.out, S0.out, I1.out, I2.out⟩
    case round =>
      obtain ⟨i, j, hi, hij, hj, rfl, rfl, HS⟩ := hrel
      have k1 : a ≤ i := by have := HSR.out; omega
      have k2 : j ≤ m := by have := HSR.out; omega
      have k3 : j ≤ d := by have := HSR.out; omega
      have k4 : d + m - i ≤ b := by have := HSR.out; omega
      by_cases hlt : i < j
      · obtain ⟨c, hc⟩ : ∃ c : Int, (i + j) / 2 = c := ⟨_, rfl⟩
        have h1 : i ≤ c := by omega
        have h2 : c < j := by omega
        obtain ⟨g, hg⟩ : ∃ g : Int, p - c = g := ⟨_, rfl⟩
        obtain ⟨tt, htt⟩ : ∃ t : Nat, t = (c - a).toNat := ⟨_, rfl⟩
        obtain ⟨uu, huu⟩ : ∃ t : Nat, t = (d - 1 - c).toNat := ⟨_, rfl⟩
        have htl : tt < L.length := by have := HM.out; omega
        have hul : uu < Q.length := by have := HB.out; omega
        obtain ⟨cN, hcN⟩ : ∃ q, q = P.length + tt := ⟨_, rfl⟩
        obtain ⟨gN, hgN⟩ : ∃ q, q = P.length + L.length + uu := ⟨_, rfl⟩
        have ea : c.toNat = cN := by have := HA.out; omega
        have pa : 0 ≤ c := by omega
        have ba : c < (n : Int) := by omega
        have eb : g.toNat = gN := by have := HA.out; have := HM.out; omega
        have pb : 0 ≤ g := by omega
        have bb : g < (n : Int) := by omega
        have rb : IntKind.i64.wrap g = g := by rw [IntKind.wrap_i64]; omega
        have f1 := fun k os => (two_facts (HS.out.1.grown k os) HR.out HL.out tt uu htl hul cN gN hcN hgN).1
        have f2 := fun k os => (two_facts (HS.out.1.grown k os) HR.out HL.out tt uu htl hul cN gN hcN hgN).2
        have UT := Lib.hid (fun hz => cross_le UL.out UQ.out htl hul hz)
        have UD := Lib.hid (fun hz => cross_lt UL.out UQ.out htl hul hz)
        have HTT := Lib.hid htt; have HUU := Lib.hid huu
        have hcf := cf_neg (Q[uu]) (L[tt])
        generalize Q[uu] = y at *
        generalize L[tt] = x at *
        have hcc := fun k os => cmp_g y x (grow (wr.drewN k) os)
        clear htt huu htl hul hcN hgN
        by_cases hv : cfF y x < 0
        · have hdv : decide (cfF y x < 0) = true := decide_eq_true hv
          have HV := Lib.hid (hcf.1 hv)
          clear hcf
          go_wp2_with fail
          go_quiet_grown (exact Calls.grown_of (hcc _ _))
          have S2 := Lib.hid (HS.out.1.grown nq osq)
          have HF := Lib.hid HS.out.2
          clear f1 f2 hcc HS
          generalize grow (wr.drewN nq) osq = w2 at S2 ⊢
          clear nq osq ea eb rb
          go_wp2
          go_roundw
          case rel =>
            refine ⟨i, c, hi, h1, by omega, rfl, rfl, S2.out, HF.out.1, fun x hx y hy => ?_⟩
            rw [← HTT.out] at hx
            rw [show (d - c).toNat = uu + 1 from by have := HUU.out; omega] at hy
            exact UD.out HV.out x hx y hy
          case measure => simp [intOf]; omega
        · have hdv : decide (cfF y x < 0) = false := decide_eq_false hv
          have HV := Lib.hid (show rkF x ≤ rkF y from by rw [hcf] at hv; omega)
          clear hcf
          go_wp2_with fail
          go_quiet_grown (exact Calls.grown_of (hcc _ _))
          have S2 := Lib.hid (HS.out.1.grown nq osq)
          have HF := Lib.hid HS.out.2
          clear f1 f2 hcc HS
          generalize grow (wr.drewN nq) osq = w2 at S2 ⊢
          clear nq osq ea eb rb
          go_wp2
          go_roundw
          case rel =>
            refine ⟨c + 1, j, by omega, by omega, hj, rfl, rfl, S2.out, fun x hx y hy => ?_, HF.out.2⟩
            rw [show (c + 1 - a).toNat = tt + 1 from by have := HTT.out; omega] at hx
            rw [show (d - (c + 1)).toNat = uu from by have := HUU.out; omega] at hy
            exact UT.out HV.out x hx y hy
          case measure => simp [intOf]; omega
      · obtain rfl : i = j := by omega
        obtain ⟨e, he⟩ : ∃ e : Int, q - i = e := ⟨_, rfl⟩
        obtain ⟨l1, l2, x1, n1, x2, n2, x3, n3⟩ := TS.out i e k1 k2 k3 (by omega) (by omega) HS.out.2.1 HS.out.2.2
        have X1 := Lib.hid x1; have X2 := Lib.hid x2; have X3 := Lib.hid x3; have N1 := Lib.hid n1; have N2 := Lib.hid n2; have N3 := Lib.hid n3
        have HE := Lib.hid (show e = d + m - i from by omega)
        have SS := Lib.hid HS.out.1
        have j1 : 0 ≤ i := by omega
        have j2 : e ≤ b := by omega
        have j3 : 0 ≤ e := by omega
        clear x1 n1 x2 n2 x3 n3 HS TS I1 I2 S0 HSR HS0 HR0 hlt hij
        generalize hii : i = s at *
        clear hii
        by_cases hA : s < m
        · have hA' : d < e := by have := HE.out; omega
          by_cases hB : s < d
          · have hB' : m < e := by have := HE.out; omega
            go_wp2_with fail
            refine (X1.out ⟨hA, hB'⟩ _ SS.out).mono ?_; rintro _ w2 ⟨rfl, s2⟩
            have S2 := Lib.hid s2
            clear s2 SS
            by_cases hC : a < s
            · go_wp2_with fail
              refine (X2.out ⟨hC, hB⟩ _ S2.out).mono ?_; rintro _ w3 ⟨rfl, s3⟩
              have S3 := Lib.hid s3
              clear s3 S2
              by_cases hD : e < b
              · go_wp2_with fail
                all_goals (refine (X3.out ⟨hA', hD⟩ _ S3.out).mono ?_; rintro _ w4 ⟨rfl, s4⟩; have S4 := Lib.hid s4; clear s4 S3; go_wp2)
                all_goals (go_end0; exact ⟨rfl, S4.out⟩)
              · have S4 := Lib.hid (show SL w0 blk off l w3 from by rw [← N3.out (fun h => absurd h.2 (by omega))]; exact S3.out)
                clear S3
                go_wp2
                all_goals (go_end0; exact ⟨rfl, S4.out⟩)
            · have S3 := Lib.hid (show SL w0 blk off l2 w2 from by rw [← N2.out (fun h => absurd h.1 (by omega))]; exact S2.out)
              clear S2
              by_cases hD : e < b
              · go_wp2_with fail
                all_goals (refine (X3.out ⟨hA', hD⟩ _ S3.out).mono ?_; rintro _ w4 ⟨rfl, s4⟩; have S4 := Lib.hid s4; clear s4 S3; go_wp2)
                all_goals (go_end0; exact ⟨rfl, S4.out⟩)
              · have S4 := Lib.hid (show SL w0 blk off l w2 from by rw [← N3.out (fun h => absurd h.2 (by omega))]; exact S3.out)
                clear S3
                go_wp2
                all_goals (go_end0; exact ⟨rfl, S4.out⟩)
          · have hB' : ¬ m < e := by have := HE.out; omega
            have S2 := Lib.hid (show SL w0 blk off l1 wr from by rw [← N1.out (fun h => absurd h.2 (by omega))]; exact SS.out)
            clear SS
            by_cases hC : a < s
            · have S3 := Lib.hid (show SL w0 blk off l2 wr from by rw [← N2.out (fun h => absurd h.2 (by omega))]; exact S2.out)
              clear S2
              by_cases hD : e < b
              · go_wp2_with fail
                all_goals (refine (X3.out ⟨hA', hD⟩ _ S3.out).mono ?_; rintro _ w4 ⟨rfl, s4⟩; have S4 := Lib.hid s4; clear s4 S3; go_wp2)
                all_goals (go_end0; exact ⟨rfl, S4.out⟩)
              · have S4 := Lib.hid (show SL w0 blk off l wr from by rw [← N3.out (fun h => absurd h.2 (by omega))]; exact S3.out)
                clear S3
                go_wp2
                all_goals (go_end0; exact ⟨rfl, S4.out⟩)
            · have S3 := Lib.hid (show SL w0 blk off l2 wr from by rw [← N2.out (fun h => absurd h.2 (by omega))]; exact S2.out)
              clear S2
              by_cases hD : e < b
              · go_wp2_with fail
                all_goals (refine (X3.out ⟨hA', hD⟩ _ S3.out).mono ?_; rintro _ w4 ⟨rfl, s4⟩; have S4 := Lib.hid s4; clear s4 S3; go_wp2)
                all_goals (go_end0; exact ⟨rfl, S4.out⟩)
              · have S4 := Lib.hid (show SL w0 blk off l wr from by rw [← N3.out (fun h => absurd h.2 (by omega))]; exact S3.out)
                clear S3
                go_wp2
                all_goals (go_end0; exact ⟨rfl, S4.out⟩)
        · have hA' : ¬ d < e := by have := HE.out; omega
          have S2 := Lib.hid (show SL w0 blk off l1 wr from by rw [← N1.out (fun h => absurd h.1 (by omega))]; exact SS.out)
          clear SS
          by_cases hB : s < d
          · by_cases hC : a < s
            · go_wp2_with fail
              refine (X2.out ⟨hC, hB⟩ _ S2.out).mono ?_; rintro _ w3 ⟨rfl, s3⟩
              have S3 := Lib.hid s3
              clear s3 S2
              have S4 := Lib.hid (show SL w0 blk off l w3 from by rw [← N3.out (fun h => absurd h.1 (by omega))]; exact S3.out)
              clear S3
              go_wp2
              all_goals (go_end0; exact ⟨rfl, S4.out⟩)
            · have S3 := Lib.hid (show SL w0 blk off l2 wr from by rw [← N2.out (fun h => absurd h.1 (by omega))]; exact S2.out)
              clear S2
              have S4 := Lib.hid (show SL w0 blk off l wr from by rw [← N3.out (fun h => absurd h.1 (by omega))]; exact S3.out)
              clear S3
              go_wp2
              all_goals (go_end0; exact ⟨rfl, S4.out⟩)
          · by_cases hC : a < s
            · have S3 := Lib.hid (show SL w0 blk off l2 wr from by rw [← N2.out (fun h => absurd h.2 (by omega))]; exact S2.out)
              clear S2
              have S4 := Lib.hid (show SL w0 blk off l wr from by rw [← N3.out (fun h => absurd h.1 (by omega))]; exact S3.out)
              clear S3
              go_wp2
              all_goals (go_end0; exact ⟨rfl, S4.out⟩)
            · have S3 := Lib.hid (show SL w0 blk off l2 wr from by rw [← N2.out (fun h => absurd h.2 (by omega))]; exact S2.out)
              clear S2
              have S4 := Lib.hid (show SL w0 blk off l wr from by rw [← N3.out (fun h => absurd h.1 (by omega))]; exact S3.out)
              clear S3
              go_wp2
              all_goals (go_end0; exact ⟨rfl, S4.out⟩)
end Go.Proofs.Ytcppcfjejalggaa.LP
