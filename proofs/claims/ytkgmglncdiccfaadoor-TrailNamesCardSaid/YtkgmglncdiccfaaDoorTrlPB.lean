/-
  Contracts of the program's functions of layer 16: fit, Right, Plain, Match, Head.
-/
import Derived.Test.YtkgmglncdiccfaaDoorTrlPA
set_option linter.unusedSimpArgs false
set_option linter.unusedVariables false
namespace Go.Proofs.YtkgmglncdiccfaaDoor.TP
open Go.RowKit GR
set_option maxRecDepth 100000 in
set_option maxHeartbeats 4000000 in
theorem fit_c (P S : ByteArray) (hP : P.size ≤ 100000) (hr : tRight (bs S) = true) (v1 v2 : Value) (w : World) (t1 : TxOut w v1 (tCut (bs P) 8)) (t2 : TxOut w v2 (tCut (bs S) 8)) :
    Calls Tryd.prog 14 #[v1, v2] w fun e w' => e = .returned (.bool (tFit (tCut (bs P) 8) (tCut (bs S) 8))) ∧ Below w.heap.size w w' := by
  obtain ⟨ps, hps⟩ : ∃ ps, tCut (bs P) 8 = ps := ⟨_, rfl⟩
  obtain ⟨qs, hqs⟩ : ∃ qs, tCut (bs S) 8 = qs := ⟨_, rfl⟩
  have hp9 : ps.length ≤ 9 := by rw [← hps]; exact tCut_length _ _
  have hq9 : qs.length ≤ 9 := by rw [← hqs]; exact tCut_length _ _
  have hqn : ∀ q ∈ qs, q.length ≤ 32 := fun q hq => by
    have := (tRight_names hr).2 q (by rw [hqs]; exact hq)
    unfold tName at this
    rw [Bool.and_eq_true, decide_eq_true_eq] at this
    exact this.2
  rw [hps] at t1
  rw [hqs] at t2
  rw [hps, hqs]
  obtain ⟨A1, c1, rfl, hc1, hx1⟩ := t1
  obtain ⟨A2, c2, rfl, hc2, hx2⟩ := t2
  obtain ⟨n, hn⟩ : ∃ n, ps.length = n := ⟨_, rfl⟩
  obtain ⟨m, hm⟩ : ∃ m, qs.length = m := ⟨_, rfl⟩
  obtain ⟨d, hd⟩ : ∃ d, tFit ps qs = d := ⟨_, rfl⟩
  have HX1 := Lib.hid (fun (h : 0 < n) => hx1 (by intro e; rw [e] at hn; simp at hn; omega))
  have HX2 := Lib.hid (fun (h : 0 < m) => hx2 (by intro e; rw [e] at hm; simp at hm; omega))
  have HPS := Lib.hid hps; have HQS := Lib.hid hqs; have HN := Lib.hid hn; have HM := Lib.hid hm; have HD := Lib.hid hd; have HQN := Lib.hid hqn
  have MC := Lib.hid (fun (X Y : ByteArray) (hX : X.size ≤ 100000) (hY : Y.size ≤ 900) (W : World) => GP.match_c X Y (by omega) hY W)
  rw [hn] at hc1 hp9 ⊢
  rw [hm] at hc2 hq9 ⊢
  rw [hd]
  clear hps hqs hn hm hd hqn hx1 hx2 hr
  by_cases hnm : n = m
  · subst hnm
    have HDF := Lib.hid (show tTo ps qs n = d by
      rw [← HD.out]
      unfold tFit
      rw [HN.out, HM.out, decide_eq_true rfl, Bool.true_and])
    go_enter Tryd.func14, Tryd.ntmps14
    go_wp2_with fail
    go_loopw [5, 6, 7, 8, 16] (fun _ _ _ _ v16 wr => ∃ k : Nat, v16 = .int .i64 (k : Nat) ∧ k ≤ n ∧ Hid (tTo ps qs k = true) ∧ Hid (Below w.heap.size w wr)) (fun _ _ _ _ v16 _ => n - (intOf v16).toNat)
    case atStart => exact ⟨0, rfl, Nat.zero_le _, rfl, Below.refl _ _⟩
    case round =>
      obtain ⟨k, rfl, hk, HT, HB⟩ := hrel
      by_cases hlt : k < n
      · have hki : (k : Int) < (n : Int) := by omega
        obtain ⟨g1, rfl, a1⟩ := HX1.out (by omega)
        obtain ⟨g2, rfl, a2⟩ := HX2.out (by omega)
        obtain ⟨X, hX, hbx, hXz, hLX⟩ := piece_is HPS.out (k := k) (by rw [HN.out]; exact hlt)
        obtain ⟨Y, hY, hby, hYz, hLY⟩ := piece_is HQS.out (k := k) (by rw [HM.out]; exact hlt)
        have z1 := cellb HB.out (a1 k _ hLX)
        have z2 := cellb HB.out (a2 k _ hLY)
        rw [str_bs] at z1 z2
        have hy32 : Y.size ≤ 32 := by
          rw [← bs_length]
          exact HQN.out _ (List.mem_of_getElem? hLY)
        have M1 := MC.out X Y (by omega) (by omega) wr
        have hsu := tTo_succ ps qs k
        rw [← hbx, ← hby] at hsu
        have hno : gMatch (bs X) (bs Y) = false → tTo ps qs n = false := fun h => tTo_no (k := k) (by rw [← hbx, ← hby]; exact h) hlt
        obtain ⟨b, hb⟩ : ∃ b, gMatch (bs X) (bs Y) = b := ⟨_, rfl⟩
        obtain ⟨q, hq⟩ : ∃ q, gErr (bs X) = q := ⟨_, rfl⟩
        rw [hb, hq] at M1
        rw [hb] at hsu hno
        have HM1 := Lib.hid M1; have HSU := Lib.hid hsu; have HNO := Lib.hid hno
        clear M1 hsu hno hb hq hX hbx hY hby hLX hLY a1 a2 hy32
        cases b with
        | true =>
          as_aux_lemma =>
            have HT2 := Lib.hid (show tTo ps qs (k + 1) = true by rw [HSU.out, HT.out]; rfl)
            go_wp2_with fail
            refine HM1.out.mono ?_; rintro _ w3 ⟨rfl, hb3⟩
            have HB3 := Lib.hid (bnext HB.out hb3)
            clear hb3
            go_wp2
            go_roundw
            case rel => exact ⟨k + 1, by go_num, by omega, HT2.out, HB3.out⟩
            case measure => simp [intOf]; omega
        | false =>
          as_aux_lemma =>
            have HE := Lib.hid (show false = d by rw [← HDF.out, HNO.out rfl])
            go_wp2_with fail
            refine HM1.out.mono ?_; rintro _ w3 ⟨rfl, hb3⟩
            have HB3 := Lib.hid (bnext HB.out hb3)
            clear hb3
            go_wp2
            go_ret
            exact ⟨congrArg (fun z => Ending.returned (.bool z)) HE.out, HB3.out⟩
      · as_aux_lemma =>
          obtain rfl : k = n := by omega
          have HE := Lib.hid (show true = d by rw [← HDF.out, HT.out])
          go_wp2
          go_ret
          exact ⟨congrArg (fun z => Ending.returned (.bool z)) HE.out, HB.out⟩
  · have hnb : ((n : Int) != (m : Int)) = true := bne_iff_ne.2 (by omega)
    have hni : ¬ (n : Int) = (m : Int) := by omega
    have HDF := Lib.hid (show false = d by
      rw [← HD.out]
      unfold tFit
      rw [HN.out, HM.out, decide_eq_false hnm, Bool.false_and])
    go_enter Tryd.func14, Tryd.ntmps14
    go_wp2
    go_ret
    exact ⟨congrArg (fun z => Ending.returned (.bool z)) HDF.out, Below.refl _ _⟩
theorem tPErr_right {s : List Nat} (h : tRight s = true) : tPErr s = 0 := if_pos h
theorem tPErr_wrong {s : List Nat} (h : ¬ tRight s = true) : tPErr s = 13 := if_neg h
set_option maxRecDepth 100000 in
set_option maxHeartbeats 1000000 in
theorem right_c (s : ByteArray) (hs : s.size ≤ 100000) (w : World) (hm : Ml w) : Calls Tryd.prog 11 #[.string s] w fun e w' => e = .returned (.bool (tRight (bs s))) ∧ Below w.heap.size w w' := by
  have SC := split_c s hs w hm
  obtain ⟨d, hd⟩ : ∃ d, tRight (bs s) = d := ⟨_, rfl⟩
  cases d with
  | true =>
    rw [tPErr_right hd] at SC
    rw [hd]
    have HSC := Lib.hid SC
    clear SC hd hm
    go_enter Tryd.func11, Tryd.ntmps11
    go_wp2_with fail
    refine HSC.out.mono ?_; rintro _ w2 ⟨v, rfl, _, _, hb2⟩
    have HB := Lib.hid hb2
    clear hb2
    go_wp2
    go_ret
    exact ⟨rfl, HB.out⟩
  | false =>
    rw [tPErr_wrong (by rw [hd]; decide)] at SC
    rw [hd]
    have HSC := Lib.hid SC
    clear SC hd hm
    go_enter Tryd.func11, Tryd.ntmps11
    go_wp2_with fail
    refine HSC.out.mono ?_; rintro _ w2 ⟨v, rfl, _, _, hb2⟩
    have HB := Lib.hid hb2
    clear hb2
    go_wp2
    go_ret
    exact ⟨rfl, HB.out⟩
set_option maxRecDepth 100000 in
set_option maxHeartbeats 1000000 in
theorem plain_c (s : ByteArray) (hs : s.size ≤ 100000) (w : World) (hm : Ml w) : Calls Tryd.prog 10 #[.string s] w fun e w' => e = .returned (.bool (tRight (bs s))) ∧ Below w.heap.size w w' := by
  have RC := Lib.hid (right_c s hs w hm)
  go_enter Tryd.func10, Tryd.ntmps10
  go_wp2_with fail
  refine RC.out.mono ?_; rintro _ w2 ⟨rfl, hb2⟩
  have HB := Lib.hid hb2
  clear hb2
  go_wp2
  go_ret
  exact ⟨rfl, HB.out⟩
set_option maxRecDepth 100000 in
set_option maxHeartbeats 4000000 in
theorem match_c (p s : ByteArray) (hp : p.size ≤ 100000) (hs : s.size ≤ 100000) (w : World) (hm : Ml w) :
    Calls Tryd.prog 6 #[.string p, .string s] w fun e w' => e = .returned (.tuple #[.bool (tMatch (bs p) (bs s)), .int .i64 (tMErr (bs p) (bs s))]) ∧ Below w.heap.size w w' := by
  have NC := nodes_c p hp w hm
  have SC := Lib.hid (fun (W : World) (h : Ml W) => split_c s hs W h)
  have FC := Lib.hid (fun hr v1 v2 W h1 h2 => fit_c p s hp hr v1 v2 W h1 h2)
  have HML := Lib.hid hm
  obtain ⟨E, hE⟩ : ∃ E, tErr (bs p) = E := ⟨_, rfl⟩
  rw [hE] at NC
  have HNC := Lib.hid NC
  clear NC hm
  by_cases h0 : E = 0
  · subst h0
    by_cases hr : tRight (bs s) = true
    · have e1 : tMErr (bs p) (bs s) = 0 := by unfold tMErr; rw [if_pos hE, tPErr_right hr]
      have e2 : tMatch (bs p) (bs s) = tFit (tCut (bs p) 8) (tCut (bs s) 8) := by unfold tMatch; rw [decide_eq_true hE, hr]; rfl
      have HR := Lib.hid hr
      rw [e1, e2]
      rw [tPErr_right hr] at SC
      obtain ⟨d, hd⟩ : ∃ d, tFit (tCut (bs p) 8) (tCut (bs s) 8) = d := ⟨_, rfl⟩
      rw [hd] at FC ⊢
      clear e1 e2 hE hr hd
      as_aux_lemma =>
        go_enter Tryd.func6, Tryd.ntmps6
        go_wp2_with fail
        refine HNC.out.mono ?_; rintro _ w2 ⟨v, rfl, hv, _, hb2⟩
        have HV := Lib.hid (TxOut.of (hv (by first | rfl | trivial))); have HB := Lib.hid hb2
        have SC2 := Lib.hid (SC.out w2 (HML.out.below hb2))
        clear hv hb2 SC
        go_wp2_with fail
        refine SC2.out.mono ?_; rintro _ w3 ⟨v3, rfl, hv3, _, hb3⟩
        have HV3 := Lib.hid (TxOut.of (hv3 (by first | rfl | trivial))); have HB3 := Lib.hid (bnext HB.out hb3)
        have FC3 := Lib.hid (FC.out HR.out v v3 w3 (HV.out.below hb3) HV3.out)
        clear hv3 hb3 SC2 FC
        go_wp2_with fail
        refine FC3.out.mono ?_; rintro _ w4 ⟨rfl, hb4⟩
        have HB4 := Lib.hid (bnext HB3.out hb4)
        clear hb4
        go_wp2
        go_ret2
        exact ⟨rfl, HB4.out⟩
    · have e1 : tMErr (bs p) (bs s) = 13 := by unfold tMErr; rw [if_pos hE, tPErr_wrong hr]
      have e2 : tMatch (bs p) (bs s) = false := tMErr_no (by rw [e1]; decide)
      rw [e1, e2]
      rw [tPErr_wrong hr] at SC
      clear e1 e2 hE hr FC
      as_aux_lemma =>
        go_enter Tryd.func6, Tryd.ntmps6
        go_wp2_with fail
        refine HNC.out.mono ?_; rintro _ w2 ⟨v, rfl, hv, _, hb2⟩
        have HB := Lib.hid hb2
        have SC2 := Lib.hid (SC.out w2 (HML.out.below hb2))
        clear hv hb2 SC
        go_wp2_with fail
        refine SC2.out.mono ?_; rintro _ w3 ⟨v3, rfl, _, _, hb3⟩
        have HB3 := Lib.hid (bnext HB.out hb3)
        clear hb3 SC2
        go_wp2
        go_ret2
        exact ⟨rfl, HB3.out⟩
  · have e1 : tMErr (bs p) (bs s) = E := by unfold tMErr; rw [if_neg (by rw [hE]; exact h0), hE]
    have e2 : tMatch (bs p) (bs s) = false := tMErr_no (by rw [e1]; exact h0)
    rw [e1, e2]
    have hb : (E != 0) = true := bne_iff_ne.2 h0
    clear e1 e2 hE FC SC
    as_aux_lemma =>
      go_enter Tryd.func6, Tryd.ntmps6
      go_wp2_with fail
      refine HNC.out.mono ?_; rintro _ w2 ⟨v, rfl, _, _, hb2⟩
      have HB := Lib.hid hb2
      clear hb2
      go_wp2
      go_ret2
      exact ⟨rfl, HB.out⟩
set_option maxRecDepth 100000 in
set_option maxHeartbeats 4000000 in
/-- The head of a path. -/
theorem head_yes (s : ByteArray) (hs : s.size ≤ 100000) (hr : tRight (bs s) = true) (n : Nat) (h1 : 1 ≤ n) (hn : n ≤ (tCut (bs s) 8).length) (w : World) (hm : Ml w) :
    Calls Tryd.prog 12 #[.string s, .int .i64 (n : Nat)] w fun e w' => e = .returned (.tuple #[.string (str (tJoin ((tCut (bs s) 8).take n))), .int .i64 0]) ∧ Below w.heap.size w w' := by
  have SC := split_c s hs w hm
  rw [tPErr_right hr] at SC
  have hj := tJoin_len (tCut (bs s) 8) n
  rw [tJoin_cut, bs_length] at hj
  have h9 := tCut_length (bs s) 8
  obtain ⟨L, hL⟩ : ∃ L, tCut (bs s) 8 = L := ⟨_, rfl⟩
  rw [hL] at SC hn hj h9 ⊢
  have hne : L ≠ [] := by rw [← hL]; exact tCut_ne _ _
  have HSC := Lib.hid SC
  clear SC hL hm hr
  have h1i : ¬ (n : Int) < 1 := by omega
  obtain ⟨T, hT⟩ : ∃ T, str (tJoin (L.take n)) = T := ⟨_, rfl⟩
  rw [hT]
  go_enter Tryd.func12, Tryd.ntmps12
  go_wp2_with fail
  refine HSC.out.mono ?_; rintro _ w2 ⟨v, rfl, hv, _, hb2⟩
  have ht := hv (by first | rfl | trivial)
  obtain ⟨A, c, rfl, hc, hx⟩ := ht.form
  obtain ⟨g, rfl, hg1, hg2, hta⟩ := hx (List.length_pos_iff.2 hne)
  have JC := join_c g c (L.take n) (by rw [List.length_take]; omega) (by rw [List.length_take]; omega) (by omega) w2 hg2 (fun k t hk => hta k t (by
    rw [List.getElem?_take] at hk
    split at hk
    · exact hk
    · cases hk))
  rw [List.length_take, show min n L.length = n by omega] at JC
  rw [hT] at JC
  have HB := Lib.hid hb2; have HJC := Lib.hid JC
  obtain ⟨m, hmm⟩ : ∃ m, L.length = m := ⟨_, rfl⟩
  rw [hmm] at hc hn h9 ⊢
  have hni : ¬ (m : Int) < (n : Int) := by omega
  have hnc : n ≤ c := by omega
  have hnci : (n : Int) ≤ (c : Int) := by omega
  have h0n : (0 : Int) ≤ (n : Int) := by omega
  clear hv ht hx hta hb2 JC hT hmm hj hne HSC
  go_wp2_with fail
  refine HJC.out.mono ?_; rintro _ w3 ⟨rfl, hb3⟩
  have HB3 := Lib.hid (bnext HB.out hb3)
  clear hb3
  go_wp2
  go_ret2
  exact ⟨rfl, HB3.out⟩
end Go.Proofs.YtkgmglncdiccfaaDoor.TP
