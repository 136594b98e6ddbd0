/-
  Walks over the statements of layer 16: TrailNames.
-/
import Derived.Test.YtkgmglncdiccfaaDoorTrlWA
import Derived.Test.YtkgmglncdiccfaaDoorTrlRG
set_option linter.unusedSimpArgs false
set_option linter.unusedVariables false
namespace Go.Proofs.YtkgmglncdiccfaaDoor
open GR
/-- What is held against whether a pattern fits, behind k names. -/
def tAll (ps qs : List (List Nat)) (k : Nat) : Bool := decide (ps.length = qs.length) && tTo ps qs k
theorem tAll_succ (ps qs : List (List Nat)) (k : Nat) : tAll ps qs (k + 1) = (tAll ps qs k && gMatch (ps.getD k []) (qs.getD k [])) := by
  unfold tAll
  rw [tTo_succ, Bool.and_assoc]
theorem tAll_end {ps qs : List (List Nat)} {k : Nat} (h1 : k ≤ ps.length) (h2 : k ≤ qs.length) (h : ¬ (k < ps.length ∧ k < qs.length)) : tAll ps qs k = tFit ps qs := by
  unfold tAll tFit
  by_cases e : ps.length = qs.length
  · rw [show k = ps.length by omega]
  · rw [decide_eq_false e, Bool.false_and, Bool.false_and]
theorem tMatch_fit {p s : List Nat} (h : tMErr p s = 0) : tMatch p s = tFit (tCut p 8) (tCut s 8) := by
  obtain ⟨h1, h2⟩ := tMErr_zero h
  unfold tMatch
  rw [decide_eq_true h1, h2]
  rfl
namespace TW
open Go.RowKit TP
set_option maxRecDepth 100000 in
set_option maxHeartbeats 8000000 in
theorem trailNames_c (P S : ByteArray) (hp : P.size ≤ 9223372036854775807) (hs : S.size ≤ 9223372036854775807) (w : World) (hm : Ml w) : Calls Tryd.prog 3 #[.string P, .string S] w fun e w' => e = .returned (.bool true) ∧ Below w.heap.size w w' := by
  have AL := Lib.hid (alive_c w hm)
  have HML := Lib.hid hm
  clear hm
  go_enter Tryd.func3, Tryd.ntmps3
  go_wp2_with fail
  refine AL.out.mono ?_; rintro _ w1 ⟨rfl, hb1⟩
  have HB1 := Lib.hid hb1
  have HML1 := Lib.hid (HML.out.below hb1)
  clear hb1 AL
  by_cases hl : 2000 < P.size
  · as_aux_lemma =>
      have hi : (2000 : Int) < (P.size : Int) := by omega
      go_wp2
      go_ret
      exact ⟨rfl, HB1.out⟩
  · have hi : ¬ (2000 : Int) < (P.size : Int) := by omega
    by_cases hl2 : 2000 < S.size
    · as_aux_lemma =>
        have hi2 : (2000 : Int) < (S.size : Int) := by omega
        go_wp2
        go_ret
        exact ⟨rfl, HB1.out⟩
    · have hi2 : ¬ (2000 : Int) < (S.size : Int) := by omega
      have MC := match_c P S (by omega) (by omega) w1 HML1.out
      by_cases h0 : tMErr (bs P) (bs S) = 0
      · obtain ⟨he, hr⟩ := tMErr_zero h0
        rw [h0, tMatch_fit h0] at MC
        have NC := fun (W : World) (h : Ml W) => nodes_c P (by omega) W h
        have SC := fun (W : World) (h : Ml W) => split_c S (by omega) W h
        have SM := fun (W : World) (h : Ml W) => match_c S S (by omega) (by omega) W h
        have PC := fun (W : World) (h : Ml W) => plain_c P (by omega) W h
        rw [he] at NC
        rw [tPErr_right hr] at SC
        rw [(tMatch_self hr).1, (tMatch_self hr).2] at SM
        have HGE := Lib.hid (tErr_zero he).2
        have HNS := Lib.hid (tRight_names hr).2
        have HTP := Lib.hid (fun (h : tRight (bs P) = true) => tFit_path (t := bs S) h)
        obtain ⟨ps, hps⟩ : ∃ ps, tCut (bs P) 8 = ps := ⟨_, rfl⟩
        obtain ⟨qs, hqs⟩ : ∃ qs, tCut (bs S) 8 = qs := ⟨_, rfl⟩
        have hp9 : ps.length ≤ 9 := by rw [← hps]; exact tCut_length _ _
        have hq9 : qs.length ≤ 9 := by rw [← hqs]; exact tCut_length _ _
        have hpn : ps ≠ [] := by rw [← hps]; exact tCut_ne _ _
        have hqn : qs ≠ [] := by rw [← hqs]; exact tCut_ne _ _
        rw [hps, hqs] at MC HTP
        rw [hps] at NC HGE
        rw [hqs] at SC HNS
        obtain ⟨I, hI⟩ : ∃ I, tFit ps qs = I := ⟨_, rfl⟩
        rw [hI] at MC HTP
        have HMC := Lib.hid MC; have HNC := Lib.hid NC; have HSC := Lib.hid SC; have HSM := Lib.hid SM; have HPC := Lib.hid PC; have HI := Lib.hid hI
        have HPS := Lib.hid hps; have HQS := Lib.hid hqs
        clear MC NC SC SM PC hI hps hqs h0 he hr
        go_wp2_with fail
        refine HMC.out.mono ?_; rintro _ w2 ⟨rfl, hb2⟩
        have HB2 := Lib.hid (bnext HB1.out hb2)
        have N2 := Lib.hid (HNC.out w2 (HML.out.below HB2.out))
        clear hb2 HMC HNC
        go_wp2_with fail
        refine N2.out.mono ?_; rintro _ w3 ⟨v3, rfl, hv3, _, hb3⟩
        have HB3 := Lib.hid (bnext HB2.out hb3)
        have S3 := Lib.hid (HSC.out w3 (HML.out.below HB3.out))
        have ht3 := hv3 (by first | rfl | trivial)
        clear hv3 hb3 N2 HSC
        obtain ⟨A3, c3, rfl, hc3, hx3⟩ := ht3.form
        obtain ⟨g3, rfl, _, hg3l, hta3⟩ := hx3 (List.length_pos_iff.2 hpn)
        go_wp2_with fail
        refine S3.out.mono ?_; rintro _ w4 ⟨v4, rfl, hv4, _, hb4⟩
        have HB4 := Lib.hid (bnext HB3.out hb4)
        have ht4 := hv4 (by first | rfl | trivial)
        obtain ⟨A4, c4, rfl, hc4, hx4⟩ := ht4.form
        obtain ⟨g4, rfl, _, hg4l, hta4⟩ := hx4 (List.length_pos_iff.2 hqn)
        have HT3 := Lib.hid (hta3.below hb4); have HT4 := Lib.hid hta4
        obtain ⟨n, hn⟩ : ∃ n, ps.length = n := ⟨_, rfl⟩
        obtain ⟨m, hmm⟩ : ∃ m, qs.length = m := ⟨_, rfl⟩
        have HN := Lib.hid hn; have HM := Lib.hid hmm
        rw [hn] at hc3 hp9 ⊢
        rw [hmm] at hc4 hq9 ⊢
        have HF0 := Lib.hid (show decide (n = m) = tAll ps qs 0 by unfold tAll; rw [HN.out, HM.out]; show _ = (decide (n = m) && true); rw [Bool.and_true])
        clear hv4 hb4 ht3 ht4 hx3 hx4 hta3 hta4 hn hmm S3 hpn hqn hg3l hg4l
        go_wp2_with fail
        go_loopw [11, 12, 13, 14] (fun v11 v12 _ _ wr => ∃ k : Nat, v11 = .bool (tAll ps qs k) ∧ v12 = .int .i64 (k : Nat) ∧ k ≤ n ∧ k ≤ m ∧ Hid (Below w4.heap.size w4 wr)) (fun _ v12 _ _ _ => n - (intOf v12).toNat)
        case atStart =>
          refine ⟨0, ?_, rfl, Nat.zero_le _, Nat.zero_le _, Below.refl _ _⟩
          rw [← HF0.out]
          congr 1
          by_cases e : n = m
          · subst e; simp
          · have e2 : ¬ (n : Int) = (m : Int) := by omega
            simp [e, e2]
        case round =>
          as_aux_lemma =>
            obtain ⟨k, rfl, rfl, hk1, hk2, HB⟩ := hrel
            by_cases hlt : k < n ∧ k < m
            · as_aux_lemma =>
                have hki1 : (k : Int) < (n : Int) := by omega
                have hki2 : (k : Int) < (m : Int) := by omega
                obtain ⟨X, hX, hbx, hXz, hLX⟩ := piece_is HPS.out (k := k) (by rw [HN.out]; exact hlt.1)
                obtain ⟨Y, hY, hby, hYz, hLY⟩ := piece_is HQS.out (k := k) (by rw [HM.out]; exact hlt.2)
                have z1 := cellb HB.out (HT3.out k _ hLX)
                have z2 := cellb HB.out (HT4.out k _ hLY)
                rw [str_bs] at z1 z2
                have hy32 : Y.size ≤ 32 := by
                  have := HNS.out _ (List.mem_of_getElem? hLY)
                  unfold tName at this
                  rw [Bool.and_eq_true, decide_eq_true_eq, bs_length] at this
                  exact this.2
                have RM := Lib.hid (fun (W : World) => rmatch_c X Y (by omega) (by omega) (HGE.out _ (List.mem_of_getElem? hLX)) W)
                have hsu := tAll_succ ps qs k
                rw [← hbx, ← hby] at hsu
                obtain ⟨b, hb⟩ : ∃ b, gMatch (bs X) (bs Y) = b := ⟨_, rfl⟩
                rw [hb] at RM hsu
                obtain ⟨fk, hfk⟩ : ∃ fk, tAll ps qs k = fk := ⟨_, rfl⟩
                rw [hfk] at hsu ⊢
                have HSU := Lib.hid hsu
                have hkc3 : (k : Int) < (c3 : Int) := by omega
                have hkc4 : (k : Int) < (c4 : Int) := by omega
                clear hX hbx hY hby hLX hLY hb hfk hsu hy32
                cases fk with
                | true =>
                  rw [Bool.true_and] at HSU
                  go_wp2_with fail
                  go_region_held3 (fun y' => y'.cell? ⟨g3, k, none⟩ = some (.string X) ∧ y'.cell? ⟨g4, k, none⟩ = some (.string Y))
                    (first | exact ⟨s0, s1⟩ | go_keep | assumption | exact ⟨z1, z2⟩)
                    (first | (go_at_call 9; refine (RM.out _).mono ?_; rintro e w5 ⟨rfl, hb5⟩; have s0 := cellb hb5 z1; have s1 := cellb hb5 z2; have HB5 := Lib.hid (bnext HB.out.drew hb5)) | fail)
                  all_goals
                    go_wp2
                    go_roundw
                    case rel => exact ⟨k + 1, by rw [HSU.out], by go_num, by omega, by omega, HB5.out⟩
                    case measure => first | (simp [intOf]; done) | (simp [intOf]; omega)
                | false =>
                  rw [Bool.false_and] at HSU
                  go_wp2_with fail
                  go_region_held3 (fun y' => y'.cell? ⟨g3, k, none⟩ = some (.string X) ∧ y'.cell? ⟨g4, k, none⟩ = some (.string Y))
                    (first | exact ⟨s0, s1⟩ | go_keep | assumption | exact ⟨z1, z2⟩)
                    (first | (go_at_call 9; refine (RM.out _).mono ?_; rintro e w5 ⟨rfl, hb5⟩; have s0 := cellb hb5 z1; have s1 := cellb hb5 z2; have HB5 := Lib.hid (bnext HB.out.drew hb5)) | fail)
                  all_goals
                    go_wp2
                    go_roundw
                    case rel => exact ⟨k + 1, by rw [HSU.out], by go_num, by omega, by omega, HB5.out⟩
                    case measure => first | (simp [intOf]; done) | (simp [intOf]; omega)
            · as_aux_lemma =>
                have hend := tAll_end (ps := ps) (qs := qs) (k := k) (by rw [HN.out]; exact hk1) (by rw [HM.out]; exact hk2) (by rw [HN.out, HM.out]; exact hlt)
                rw [hend, HI.out]
                have HBE := Lib.hid (bnext HB4.out HB.out)
                have SM2 := Lib.hid (HSM.out wr (HML.out.below HBE.out))
                have HPR := Lib.hid (fun (h : tRight (bs P) = true) => show I = decide (bs P = bs S) from HTP.out h)
                have hex : (k : Int) < (n : Int) ∧ ¬ (k : Int) < (m : Int) ∨ ¬ (k : Int) < (n : Int) := by omega
                clear hend HTP HI HNS HGE
                rcases hex with ⟨hex1, hex2⟩ | hex1
                · as_aux_lemma =>
                    go_wp2_with fail
                    refine SM2.out.mono ?_; rintro _ w6 ⟨rfl, hb6⟩
                    have HB6 := Lib.hid (bnext HBE.out hb6)
                    have PC6 := HPC.out w6 (HML.out.below HB6.out)
                    clear hb6 SM2 HPC
                    obtain ⟨rp, hrp⟩ : ∃ rp, tRight (bs P) = rp := ⟨_, rfl⟩
                    rw [hrp] at PC6
                    have HP6 := Lib.hid PC6
                    cases rp with
                    | false =>
                      clear PC6 hrp HPR
                      cases I <;> (go_wp2_with fail; refine HP6.out.mono ?_; rintro _ w7 ⟨rfl, hb7⟩; have HB7 := Lib.hid (bnext HB6.out hb7); clear hb7; go_wp2; go_ret; exact ⟨rfl, HB7.out⟩)
                    | true =>
                      have hid := HPR.out hrp
                      clear PC6 hrp HPR
                      by_cases hps2 : bs P = bs S
                      · have hPS : P = S := by rw [← str_bs P, hps2, str_bs]
                        rw [decide_eq_true hps2] at hid
                        subst hid
                        subst hPS
                        go_wp2_with fail
                        refine HP6.out.mono ?_; rintro _ w7 ⟨rfl, hb7⟩
                        have HB7 := Lib.hid (bnext HB6.out hb7)
                        clear hb7
                        go_wp2
                        go_ret
                        exact ⟨rfl, HB7.out⟩
                      · rw [decide_eq_false hps2] at hid
                        subst hid
                        have hts : ¬ P.toList = S.toList := fun e => hps2 (by rw [toList_eq e])
                        have htb : (P.toList == S.toList) = false := beq_false_of_ne hts
                        clear hps2
                        go_wp2_with fail
                        refine HP6.out.mono ?_; rintro _ w7 ⟨rfl, hb7⟩
                        have HB7 := Lib.hid (bnext HB6.out hb7)
                        clear hb7
                        go_wp2
                        go_ret
                        exact ⟨rfl, HB7.out⟩
                · as_aux_lemma =>
                    go_wp2_with fail
                    refine SM2.out.mono ?_; rintro _ w6 ⟨rfl, hb6⟩
                    have HB6 := Lib.hid (bnext HBE.out hb6)
                    have PC6 := HPC.out w6 (HML.out.below HB6.out)
                    clear hb6 SM2 HPC
                    obtain ⟨rp, hrp⟩ : ∃ rp, tRight (bs P) = rp := ⟨_, rfl⟩
                    rw [hrp] at PC6
                    have HP6 := Lib.hid PC6
                    cases rp with
                    | false =>
                      clear PC6 hrp HPR
                      cases I <;> (go_wp2_with fail; refine HP6.out.mono ?_; rintro _ w7 ⟨rfl, hb7⟩; have HB7 := Lib.hid (bnext HB6.out hb7); clear hb7; go_wp2; go_ret; exact ⟨rfl, HB7.out⟩)
                    | true =>
                      have hid := HPR.out hrp
                      clear PC6 hrp HPR
                      by_cases hps2 : bs P = bs S
                      · have hPS : P = S := by rw [← str_bs P, hps2, str_bs]
                        rw [decide_eq_true hps2] at hid
                        subst hid
                        subst hPS
                        go_wp2_with fail
                        refine HP6.out.mono ?_; rintro _ w7 ⟨rfl, hb7⟩
                        have HB7 := Lib.hid (bnext HB6.out hb7)
                        clear hb7
                        go_wp2
                        go_ret
                        exact ⟨rfl, HB7.out⟩
                      · rw [decide_eq_false hps2] at hid
                        subst hid
                        have hts : ¬ P.toList = S.toList := fun e => hps2 (by rw [toList_eq e])
                        have htb : (P.toList == S.toList) = false := beq_false_of_ne hts
                        clear hps2
                        go_wp2_with fail
                        refine HP6.out.mono ?_; rintro _ w7 ⟨rfl, hb7⟩
                        have HB7 := Lib.hid (bnext HB6.out hb7)
                        clear hb7
                        go_wp2
                        go_ret
                        exact ⟨rfl, HB7.out⟩
      · have hne : (tMErr (bs P) (bs S) != 0) = true := bne_iff_ne.2 h0
        have hmt := tMErr_no h0
        obtain ⟨E, hE⟩ : ∃ E, tMErr (bs P) (bs S) = E := ⟨_, rfl⟩
        rw [hmt, hE] at MC
        rw [hE] at hne h0
        have HMC := Lib.hid MC
        clear MC hmt hE
        as_aux_lemma =>
          go_wp2_with fail
          refine HMC.out.mono ?_; rintro _ w2 ⟨rfl, hb2⟩
          have HB2 := Lib.hid (bnext HB1.out hb2)
          clear hb2
          go_wp2
          go_ret
          exact ⟨rfl, HB2.out⟩
end TW
end Go.Proofs.YtkgmglncdiccfaaDoor
