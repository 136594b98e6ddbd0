/-
  Walks over the statements of layer 16: alive, TrailHeads.
-/
import Derived.Test.YtkgmglncdiccfaaDoorTrlPB
set_option linter.unusedSimpArgs false
set_option linter.unusedVariables false
namespace Go.Proofs.YtkgmglncdiccfaaDoor
open GR
theorem star_b : gErr [98, 42] = 0 ∧ gMatch [98, 42] [98, 120] = true := by
  have h := ofA_match (e := [.one 98, .star]) (fun a ha => by
    rcases List.mem_cons.1 ha with rfl | ha
    · exact (by decide : isB 98 = true)
    · obtain rfl := List.mem_singleton.1 ha
      exact trivial) (by simp) (by decide) [98, 120]
  exact ⟨h.1, h.2.trans (by decide)⟩
theorem pat_cut : tCut [97, 46, 98, 42, 46, 99] 8 = [[97], [98, 42], [99]] := by decide
theorem pat_err : tErr [97, 46, 98, 42, 46, 99] = 0 := by
  unfold tErr
  rw [pat_cut]
  refine (if_neg (by decide)).trans (tFirst_zero.2 fun p hp => ?_)
  rcases List.mem_cons.1 hp with rfl | hp
  · exact (plain_fit (p := [97]) (by decide) (by decide) []).1
  · rcases List.mem_cons.1 hp with rfl | hp
    · exact star_b.1
    · obtain rfl := List.mem_singleton.1 hp
      exact (plain_fit (p := [99]) (by decide) (by decide) []).1
theorem fits_three : tMatch [97, 46, 98, 42, 46, 99] [97, 46, 98, 120, 46, 99] = true ∧ tMErr [97, 46, 98, 42, 46, 99] [97, 46, 98, 120, 46, 99] = 0 := by
  have hr : tRight [97, 46, 98, 120, 46, 99] = true := by decide
  constructor
  · unfold tMatch
    rw [pat_err, hr, pat_cut, show tCut [97, 46, 98, 120, 46, 99] 8 = [[97], [98, 120], [99]] by decide]
    show (true && true && (true && tTo _ _ 3)) = true
    rw [tTo_succ, tTo_succ, tTo_succ]
    show (true && true && (true && (((true && gMatch [97] [97]) && gMatch [98, 42] [98, 120]) && gMatch [99] [99]))) = true
    rw [star_b.2, (plain_fit (p := [97]) (by decide) (by decide) [97]).2, (plain_fit (p := [99]) (by decide) (by decide) [99]).2]
    rfl
  · unfold tMErr tPErr
    rw [if_pos pat_err, if_pos hr]
theorem fits_two : tMatch [97, 46, 98, 42, 46, 99] [97, 46, 98, 120] = false ∧ tMErr [97, 46, 98, 42, 46, 99] [97, 46, 98, 120] = 0 := by
  have hr : tRight [97, 46, 98, 120] = true := by decide
  constructor
  · unfold tMatch tFit
    rw [pat_cut, show tCut [97, 46, 98, 120] 8 = [[97], [98, 120]] by decide]
    show (_ && (false && _)) = false
    rw [Bool.false_and, Bool.and_false]
  · unfold tMErr tPErr
    rw [if_pos pat_err, if_pos hr]
theorem tJoin_mem : ∀ (l : List (List Nat)), ∀ c ∈ tJoin l, c = 46 ∨ ∃ p ∈ l, c ∈ p
  | [], c, h => by cases h
  | [p], c, h => .inr ⟨p, by simp, h⟩
  | p :: q :: r, c, h => by
    have h : c ∈ p ++ 46 :: tJoin (q :: r) := h
    rcases List.mem_append.1 h with h | h
    · exact .inr ⟨p, by simp, h⟩
    · rcases List.mem_cons.1 h with h | h
      · exact .inl h
      · rcases tJoin_mem (q :: r) c h with h | ⟨x, hx, h⟩
        · exact .inl h
        · exact .inr ⟨x, List.mem_cons_of_mem _ hx, h⟩
/-- A head's bytes. -/
theorem head_bs (s : ByteArray) (n : Nat) : bs (str (tJoin ((tCut (bs s) 8).take n))) = tJoin ((tCut (bs s) 8).take n) := bs_str fun c hc => by
  rcases tJoin_mem _ c hc with rfl | ⟨p, hp, hc⟩
  · decide
  · exact bs_mem s c ((tCut_mem (bs s) 8 p (List.mem_of_mem_take hp)).2 c hc)
theorem toList_eq {P N : ByteArray} (h : P.toList = N.toList) : P = N := by
  rw [ByteArray.toList_eq, ByteArray.toList_eq] at h
  rw [← str_bs P, ← str_bs N]
  unfold bs
  rw [h]
namespace TW
open Go.RowKit TP
set_option maxRecDepth 100000 in
set_option maxHeartbeats 4000000 in
theorem alive_c (w : World) (hm : Ml w) : Calls Tryd.prog 5 #[] w fun e w' => e = .returned (.bool true) ∧ Below w.heap.size w w' := by
  have M1 := match_c ⟨#[97, 46, 98, 42, 46, 99]⟩ ⟨#[97, 46, 98, 120, 46, 99]⟩ (by decide) (by decide) w hm
  have M2 := fun (W : World) (h : Ml W) => match_c ⟨#[97, 46, 98, 42, 46, 99]⟩ ⟨#[97, 46, 98, 120]⟩ (by decide) (by decide) W h
  have R1 := fun (W : World) (h : Ml W) => right_c ⟨#[97, 46, 98]⟩ (by decide) W h
  have R2 := fun (W : World) (h : Ml W) => right_c ⟨#[97, 46, 46, 98]⟩ (by decide) W h
  rw [show bs ⟨#[97, 46, 98, 42, 46, 99]⟩ = [97, 46, 98, 42, 46, 99] from rfl, show bs ⟨#[97, 46, 98, 120, 46, 99]⟩ = [97, 46, 98, 120, 46, 99] from rfl, fits_three.1, fits_three.2] at M1
  rw [show bs ⟨#[97, 46, 98, 42, 46, 99]⟩ = [97, 46, 98, 42, 46, 99] from rfl, show bs ⟨#[97, 46, 98, 120]⟩ = [97, 46, 98, 120] from rfl, fits_two.1, fits_two.2] at M2
  rw [show tRight (bs ⟨#[97, 46, 98]⟩) = true by decide] at R1
  rw [show tRight (bs ⟨#[97, 46, 46, 98]⟩) = false by decide] at R2
  have HM1 := Lib.hid M1; have HM2 := Lib.hid M2; have HR1 := Lib.hid R1; have HR2 := Lib.hid R2; have HML := Lib.hid hm
  clear M1 M2 R1 R2 hm
  go_enter Tryd.func5, Tryd.ntmps5
  go_wp2_with fail
  refine HM1.out.mono ?_; rintro _ w1 ⟨rfl, hb1⟩
  have HB1 := Lib.hid hb1
  have C2 := Lib.hid (HM2.out w1 (HML.out.below hb1))
  clear hb1 HM1 HM2
  go_wp2_with fail
  refine C2.out.mono ?_; rintro _ w2 ⟨rfl, hb2⟩
  have HB2 := Lib.hid (bnext HB1.out hb2)
  have C3 := Lib.hid (HR1.out w2 (HML.out.below HB2.out))
  clear hb2 C2 HR1
  go_wp2_with fail
  refine C3.out.mono ?_; rintro _ w3 ⟨rfl, hb3⟩
  have HB3 := Lib.hid (bnext HB2.out hb3)
  have C4 := Lib.hid (HR2.out w3 (HML.out.below HB3.out))
  clear hb3 C3 HR2
  go_wp2_with fail
  refine C4.out.mono ?_; rintro _ w4 ⟨rfl, hb4⟩
  have HB4 := Lib.hid (bnext HB3.out hb4)
  clear hb4 C4
  go_wp2
  go_ret
  exact ⟨rfl, HB4.out⟩
set_option maxRecDepth 100000 in
set_option maxHeartbeats 4000000 in
theorem trailHeads_c (s : ByteArray) (hs : s.size ≤ 9223372036854775807) (w : World) (hm : Ml w) : Calls Tryd.prog 4 #[.string s] w fun e w' => e = .returned (.bool true) ∧ Below w.heap.size w w' := by
  have AL := Lib.hid (alive_c w hm)
  have HML := Lib.hid hm
  clear hm
  go_enter Tryd.func4, Tryd.ntmps4
  go_wp2_with fail
  refine AL.out.mono ?_; rintro _ w1 ⟨rfl, hb1⟩
  have HB1 := Lib.hid hb1
  have HML1 := Lib.hid (HML.out.below hb1)
  clear hb1 AL
  by_cases hl : 2000 < s.size
  · as_aux_lemma =>
      have hi : (2000 : Int) < (s.size : Int) := by omega
      go_wp2
      go_ret
      exact ⟨rfl, HB1.out⟩
  · have hi : ¬ (2000 : Int) < (s.size : Int) := by omega
    have SC := split_c s (by omega) w1 HML1.out
    by_cases hr : tRight (bs s) = true
    · rw [tPErr_right hr] at SC
      have HSC := Lib.hid SC
      have HHD := Lib.hid (fun (n : Nat) (a : 1 ≤ n) (b : n ≤ (tCut (bs s) 8).length) (W : World) (h : Ml W) => head_yes s (by omega) hr n a b W h)
      have HTH := Lib.hid (fun (n : Nat) (a : 1 ≤ n) (b : n ≤ (tCut (bs s) 8).length) => tHead hr a b)
      have HBS := Lib.hid (fun n => head_bs s n)
      have HTL := Lib.hid (fun n => show (tJoin ((tCut (bs s) 8).take n)).length ≤ s.size by
        have := tJoin_len (tCut (bs s) 8) n
        rw [tJoin_cut, bs_length] at this
        exact this)
      have h9 := tCut_length (bs s) 8
      have hne := tCut_ne (bs s) 8
      obtain ⟨L, hL⟩ : ∃ L, tCut (bs s) 8 = L := ⟨_, rfl⟩
      rw [hL] at HSC HHD HTH HBS HTL h9 hne
      clear SC hL hr
      go_wp2_with fail
      refine HSC.out.mono ?_; rintro _ w2 ⟨v, rfl, hv, _, hb2⟩
      have ht := hv (by first | rfl | trivial)
      obtain ⟨A, c, rfl, hc, hx⟩ := ht.form
      obtain ⟨g, rfl, hg1, hg2, hta⟩ := hx (List.length_pos_iff.2 hne)
      have HB2 := Lib.hid (bnext HB1.out hb2)
      have hpos := List.length_pos_iff.2 hne
      have HTA := Lib.hid hta
      obtain ⟨m, hmm⟩ : ∃ m, L.length = m := ⟨_, rfl⟩
      have HMM := Lib.hid hmm
      rw [hmm] at hc h9 hpos ⊢
      have hm1 : (1 : Int) ≤ (m : Int) := by omega
      clear hv ht hx hta hb2 hmm hne HSC
      go_wp2_with fail
      go_loopw [5, 6, 7, 8, 9] (fun v5 _ _ _ _ wr => ∃ n : Nat, v5 = .int .i64 (n : Nat) ∧ 1 ≤ n ∧ n ≤ m + 1 ∧ Hid (Below w2.heap.size w2 wr)) (fun v5 _ _ _ _ _ => m + 1 - (intOf v5).toNat)
      case atStart => exact ⟨1, rfl, Nat.le_refl _, by omega, Below.refl _ _⟩
      case round =>
        obtain ⟨n, rfl, hn1, hnm, HB⟩ := hrel
        by_cases hlt : n ≤ m
        · as_aux_lemma =>
            have hni : (n : Int) ≤ (m : Int) := by omega
            have hmn : n ≤ L.length := by rw [HMM.out]; exact hlt
            have HM2 : Ml w2 := HML.out.below HB2.out
            have HC := Lib.hid (HHD.out n hn1 hmn wr (HM2.below HB.out))
            obtain ⟨hT1, hT2, hT3⟩ := HTH.out n hn1 hmn
            have hbs := HBS.out n
            have htl := HTL.out n
            obtain ⟨T, hT⟩ : ∃ T, str (tJoin (L.take n)) = T := ⟨_, rfl⟩
            rw [hT] at HC hbs
            rw [← hbs] at hT1 hT2 hT3
            have hTs : T.size ≤ s.size := by rw [← bs_length, hbs]; exact htl
            have HSC := Lib.hid (fun (W : World) (h : Ml W) => split_c T (by omega) W h)
            rw [tPErr_right hT1, hT2] at HSC
            have HML2 := Lib.hid HM2
            have HTA2 := Lib.hid (show TxAt w2 g (L.take n) from fun k t hk => HTA.out k t (by
              rw [List.getElem?_take] at hk
              split at hk
              · exact hk
              · cases hk))
            have hlt9 : (L.take n).length = n := by rw [List.length_take]; omega
            obtain ⟨K, hK⟩ : ∃ K, L.take n = K := ⟨_, rfl⟩
            rw [hK] at HSC HTA2 hlt9
            have HKL := Lib.hid hlt9
            have HT3 := Lib.hid (show T = s ↔ n = m by
              rw [HMM.out] at hT3
              exact ⟨fun e => hT3.1 (by rw [e]), fun e => by
                have := hT3.2 e
                rw [← str_bs T, this, str_bs]⟩)
            have hnc : n ≤ c := by omega
            have hnci : (n : Int) ≤ (c : Int) := by omega
            clear hT1 hT2 hT3 hbs htl hT hTs hK hlt9 HM2 HHD HTH HBS HTL
            go_wp2_with fail
            refine HC.out.mono ?_; rintro _ w3 ⟨rfl, hb3⟩
            have HB3 := Lib.hid (bnext HB.out hb3)
            have HS3 := Lib.hid (HSC.out w3 (HML2.out.below (bnext HB.out hb3)))
            clear hb3 HC HSC
            go_wp2_with fail
            refine HS3.out.mono ?_; rintro _ w4 ⟨v4, rfl, hv4, _, hb4⟩
            have HB4 := Lib.hid (bnext HB3.out hb4)
            have ht4 := TxOut.of (hv4 (by first | rfl | trivial))
            have htx : TxOut w4 (.slice (some ⟨g, 0, none⟩) n c) K := ⟨some ⟨g, 0, none⟩, c, by rw [HKL.out], by rw [HKL.out]; exact hnc, fun _ => ⟨g, rfl, HTA2.out.below (bnext HB3.out hb4)⟩⟩
            have TC := Lib.hid (GR.texts_c (l := K) (by rw [HKL.out]; omega) ht4 htx)
            clear hv4 hb4 ht4 htx HS3
            go_wp2_with fail
            refine TC.out.mono ?_; rintro _ w5 ⟨rfl, hb5⟩
            have HB5 := Lib.hid (bnext HB4.out hb5)
            clear hb5 TC
            by_cases hnm2 : n = m
            · obtain rfl := HT3.out.2 hnm2
              subst hnm2
              go_wp2
              go_roundw
              case rel => exact ⟨n + 1, by go_num, by omega, by omega, HB5.out⟩
              case measure => first | (simp [intOf]; done) | (simp [intOf]; omega)
            · have hnb : ((n : Int) == (m : Int)) = false := beq_false_of_ne (by omega)
              have hnb2 : ¬ (n : Int) = (m : Int) := by omega
              have hts : ¬ T.toList = s.toList := fun e => hnm2 (HT3.out.1 (toList_eq e))
              have htb : (T.toList == s.toList) = false := beq_false_of_ne hts
              go_wp2
              go_roundw
              case rel => exact ⟨n + 1, by go_num, by omega, by omega, HB5.out⟩
              case measure => first | (simp [intOf]; done) | (simp [intOf]; omega)
        · as_aux_lemma =>
            have hni : ¬ (n : Int) ≤ (m : Int) := by omega
            go_wp2
            go_ret
            exact ⟨rfl, bnext HB2.out HB.out⟩
    · rw [tPErr_wrong hr] at SC
      have RC := fun (W : World) (h : Ml W) => right_c s (by omega) W h
      rw [show tRight (bs s) = false by simpa using hr] at RC
      have HSC := Lib.hid SC; have HRC := Lib.hid RC
      clear SC hr RC
      as_aux_lemma =>
        go_wp2_with fail
        refine HSC.out.mono ?_; rintro _ w2 ⟨v, rfl, _, hv, hb2⟩
        obtain rfl := hv (by decide)
        have HB2 := Lib.hid (bnext HB1.out hb2)
        have C2 := Lib.hid (HRC.out w2 (HML.out.below HB2.out))
        clear hv hb2 HRC
        go_wp2_with fail
        refine C2.out.mono ?_; rintro _ w3 ⟨rfl, hb3⟩
        have HB3 := Lib.hid (bnext HB2.out hb3)
        clear hb3 C2
        go_wp2
        go_ret
        exact ⟨rfl, HB3.out⟩
end TW
end Go.Proofs.YtkgmglncdiccfaaDoor
