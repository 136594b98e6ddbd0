/-
  Walks over the statements of layer 15: alive, GlobMarks, GlobPlain.
-/
import Derived.Test.YtlgalkadigpleaaGlbFx
set_option linter.unusedSimpArgs false
set_option linter.unusedVariables false
namespace Go.Proofs.Ytlgalkadigpleaa.GW
open Go.RowKit GP GR
theorem three_out (w : World) : TxOut (w.alloc (.cells #[.string ⟨#[97, 98, 102]⟩, .string ⟨#[97, 99, 100, 102]⟩, .string ⟨#[97, 99, 101, 102]⟩] 9)) (.slice (some ⟨w.heap.size, 0, none⟩) 3 3) [[97, 98, 102], [97, 99, 100, 102], [97, 99, 101, 102]] := by
  refine ⟨_, 3, rfl, Nat.le_refl _, fun _ => ⟨w.heap.size, rfl, fun k t hk => ?_⟩⟩
  have h := holds_alloc w [.string ⟨#[97, 98, 102]⟩, .string ⟨#[97, 99, 100, 102]⟩, .string ⟨#[97, 99, 101, 102]⟩] 9
  match k, hk with
  | 0, hk => obtain rfl := Option.some.inj hk; exact h 0 _ rfl
  | 1, hk => obtain rfl := Option.some.inj hk; exact h 1 _ rfl
  | 2, hk => obtain rfl := Option.some.inj hk; exact h 2 _ rfl
  | k + 3, hk => simp at hk
theorem same_text (P N : ByteArray) : decide (bs P = bs N) = (P.toList == N.toList) := by
  rw [Bool.eq_iff_iff, decide_eq_true_eq, beq_iff_eq]
  constructor
  · intro h
    rw [← str_bs P, h, str_bs]
  · intro h
    rw [ByteArray.toList_eq, ByteArray.toList_eq] at h
    unfold bs
    rw [h]
set_option maxRecDepth 100000 in
set_option maxHeartbeats 4000000 in
theorem alive_c (w : World) : Calls Try.prog 6 #[] w fun e w' => e = .returned (.bool true) ∧ Below w.heap.size w w' := by
  have EX := Lib.hid (fun (W : World) => expand_c ⟨#[97, 123, 98, 44, 99, 123, 100, 44, 101, 125, 125, 102]⟩ (by decide) W)
  have M1 := Lib.hid (fun (W : World) => match_c ⟨#[91, 97, 45, 99, 93, 63, 42]⟩ ⟨#[98, 49]⟩ (by decide) (by decide) W)
  have M2 := Lib.hid (fun (W : World) => match_c ⟨#[91, 97, 45, 99, 93, 63, 42]⟩ ⟨#[98]⟩ (by decide) (by decide) W)
  have b1 : bs ⟨#[97, 123, 98, 44, 99, 123, 100, 44, 101, 125, 125, 102]⟩ = [97, 123, 98, 44, 99, 123, 100, 44, 101, 125, 125, 102] := rfl
  have b2 : bs ⟨#[91, 97, 45, 99, 93, 63, 42]⟩ = [91, 97, 45, 99, 93, 63, 42] := rfl
  have b3 : bs ⟨#[98, 49]⟩ = [98, 49] := rfl
  have b4 : bs ⟨#[98]⟩ = [98] := rfl
  rw [b1, fixed1.1, fixed1.2, fixed1_tx] at EX
  rw [b2, b3, fixed2.1, fixed2.2.1] at M1
  rw [b2, b4, fixed2.1, fixed2.2.2] at M2
  clear b1 b2 b3 b4
  go_enter Try.func6, Try.ntmps6
  go_wp2_with fail
  refine (EX.out _).mono ?_; rintro _ w1 ⟨v1, rfl, ht, hb1⟩
  have HT1 := Lib.hid (TxOut.of (ht (by first | rfl | trivial))); have HB1 := Lib.hid hb1
  clear ht hb1 EX
  go_wp2_with fail
  refine (M1.out _).mono ?_; rintro _ w2 ⟨rfl, hb2⟩
  have HT2 := Lib.hid (HT1.out.below hb2); have HB2 := Lib.hid (bnext HB1.out hb2)
  clear hb2 M1
  go_wp2_with fail
  refine (M2.out _).mono ?_; rintro _ w3 ⟨rfl, hb3⟩
  have HT3 := Lib.hid (HT2.out.below hb3); have HB3 := Lib.hid (bnext HB2.out hb3)
  have HB4 := Lib.hid (bnext HB3.out (alloc_below w3 (.cells #[.string ⟨#[97, 98, 102]⟩, .string ⟨#[97, 99, 100, 102]⟩, .string ⟨#[97, 99, 101, 102]⟩] 9)))
  have TC := Lib.hid (GR.texts_c (l := [[97, 98, 102], [97, 99, 100, 102], [97, 99, 101, 102]]) (by decide) (HT3.out.below (alloc_below w3 (.cells #[.string ⟨#[97, 98, 102]⟩, .string ⟨#[97, 99, 100, 102]⟩, .string ⟨#[97, 99, 101, 102]⟩] 9))) (three_out w3))
  clear hb3 M2
  go_wp2_with fail
  refine TC.out.mono ?_; rintro _ w4 ⟨rfl, hb4⟩
  have HB5 := Lib.hid (bnext HB4.out hb4)
  clear hb4 TC
  go_wp2
  go_ret
  exact ⟨rfl, HB5.out⟩
set_option maxRecDepth 100000 in
set_option maxHeartbeats 4000000 in
theorem globMarks_c (c : Nat) (hc : c < 256) (N : ByteArray) (hs : N.size ≤ 9223372036854775807) (w : World) : Calls Try.prog 5 #[.int .u8 (c : Nat), .string N] w fun e w' => e = .returned (.bool true) ∧ Below w.heap.size w w' := by
  have AL := Lib.hid (fun (W : World) => alive_c W)
  go_enter Try.func5, Try.ntmps5
  go_wp2_with fail
  refine (AL.out _).mono ?_; rintro _ w1 ⟨rfl, hb1⟩
  have HB1 := Lib.hid hb1
  clear hb1 AL
  by_cases hl : 200 < N.size
  · have hi : (200 : Int) < (N.size : Int) := by omega
    go_wp2
    go_ret
    exact ⟨rfl, HB1.out⟩
  · have hi : ¬ (200 : Int) < (N.size : Int) := by omega
    obtain ⟨m, hm⟩ : ∃ m, c % 40 + 1 = m := ⟨_, rfl⟩
    have hmr : IntKind.i64.wrap ((c : Int).tmod 40 + 1) = (m : Int) := by
      rw [Int.tmod_eq_emod_of_nonneg (by omega), IntKind.wrap_i64]
      omega
    have hm1 : 1 ≤ m ∧ m ≤ 40 := by omega
    have hcv : IntKind.i64.wrap (c : Int) = (c : Int) := by rw [IntKind.wrap_i64]; omega
    have HF := Lib.hid (marks_fit hm1.1 (by omega) (bs N))
    have HM := Lib.hid (fun (S : ByteArray) (h : bs S = List.replicate m 63) (W : World) => match_c S N (by rw [← bs_length, h, List.length_replicate]; omega) (by omega) W)
    go_wp2_with fail
    go_loopw [5, 6] (fun v5 v6 wr => ∃ (k : Nat) (S : ByteArray), v5 = .string S ∧ v6 = .int .i64 (k : Nat) ∧ k ≤ m ∧ S.size = k ∧ Hid (bs S = List.replicate k 63) ∧ Hid (Below w.heap.size w wr)) (fun _ v6 _ => m - (intOf v6).toNat)
    case atStart => exact ⟨0, _, rfl, rfl, Nat.zero_le _, rfl, rfl, HB1.out⟩
    case round =>
      as_aux_lemma =>
        obtain ⟨k, S, rfl, rfl, hk, hS, HS, HB⟩ := hrel
        by_cases hlt : k < m
        · as_aux_lemma =>
            have hki : (k : Int) < (m : Int) := by omega
            have hadd : ¬ 9223372036854775807 < S.size + (⟨#[63]⟩ : ByteArray).size := by rw [show (⟨#[63]⟩ : ByteArray).size = 1 from rfl]; omega
            have hadd2 : ¬ 9223372036854775807 < S.size + 1 := by omega
            have HN := Lib.hid (show bs (S ++ ⟨#[63]⟩) = List.replicate (k + 1) 63 by rw [bs_append, HS.out, List.replicate_succ']; rfl)
            have HZ := Lib.hid (show (S ++ (⟨#[63]⟩ : ByteArray)).size = k + 1 by rw [← bs_length, HN.out, List.length_replicate])
            go_wp2
            go_roundw
            case rel => exact ⟨k + 1, _, rfl, by go_num, by omega, HZ.out, HN.out, HB.out⟩
            case measure => simp [intOf]; omega
        · as_aux_lemma =>
            obtain rfl : k = m := by omega
            have MC := Lib.hid (HM.out S HS.out wr)
            rw [HS.out, HF.out.1, HF.out.2] at MC
            have hdd : decide ((bs N).length = k) = decide (((N.size : Nat) : Int) = ((S.size : Nat) : Int)) := by
              rw [decide_eq_decide, bs_length, hS]
              omega
            rw [hdd] at MC
            clear hdd
            go_wp2_with fail
            refine MC.out.mono ?_; rintro _ w2 ⟨rfl, hb2⟩
            have HB2 := Lib.hid (bnext HB.out hb2)
            clear hb2 MC
            go_wp2
            go_ret
            exact ⟨congrArg (fun z => Ending.returned (.bool z)) (by simp; rfl), HB2.out⟩
set_option maxRecDepth 100000 in
set_option maxHeartbeats 4000000 in
theorem globPlain_c (P N : ByteArray) (hp : P.size ≤ 9223372036854775807) (hs : N.size ≤ 9223372036854775807) (w : World) : Calls Try.prog 4 #[.string P, .string N] w fun e w' => e = .returned (.bool true) ∧ Below w.heap.size w w' := by
  have AL := Lib.hid (fun (W : World) => alive_c W)
  go_enter Try.func4, Try.ntmps4
  go_wp2_with fail
  refine (AL.out _).mono ?_; rintro _ w1 ⟨rfl, hb1⟩
  have HB1 := Lib.hid hb1
  clear hb1 AL
  by_cases hl : 200 < N.size
  · have hi : (200 : Int) < (N.size : Int) := by omega
    go_wp2
    go_ret
    exact ⟨rfl, HB1.out⟩
  · have hi : ¬ (200 : Int) < (N.size : Int) := by omega
    have M1 := match_c ⟨#[42]⟩ N (by decide) (by omega) w1
    have hst := star_fit (bs N)
    rw [show bs ⟨#[42]⟩ = [42] from rfl, hst.1, hst.2] at M1
    have HM1 := Lib.hid M1
    clear M1 hst
    go_wp2_with fail
    refine HM1.out.mono ?_; rintro _ w2 ⟨rfl, hb2⟩
    have HB2 := Lib.hid (bnext HB1.out hb2)
    clear hb2 HM1
    have PC := GR.plain_c P hp w2
    cases hpl : gPlain (bs P) with
    | false =>
      rw [hpl] at PC
      have HPC := Lib.hid PC
      clear PC hpl
      go_wp2_with fail
      refine HPC.out.mono ?_; rintro _ w3 ⟨rfl, hw3⟩; obtain rfl := hw3.symm
      go_wp2
      go_ret
      exact ⟨rfl, HB2.out⟩
    | true =>
      rw [hpl] at PC
      have HPC := Lib.hid PC
      clear PC
      by_cases h128 : 128 < P.size
      · have h128i : (128 : Int) < (P.size : Int) := by omega
        clear hpl
        go_wp2_with fail
        refine HPC.out.mono ?_; rintro _ w3 ⟨rfl, hw3⟩; obtain rfl := hw3.symm
        go_wp2
        go_ret
        exact ⟨rfl, HB2.out⟩
      · have h128i : ¬ (128 : Int) < (P.size : Int) := by omega
        have hlp : (bs P).length ≤ 128 := by rw [bs_length]; omega
        have M2 := match_c P N hp (by omega) w2
        have M3 := fun (W : World) => match_c P P hp (by omega) W
        have hf1 := plain_fit hpl hlp (bs N)
        have hf2 := plain_fit hpl hlp (bs P)
        rw [hf1.1, hf1.2] at M2
        rw [hf2.1, hf2.2, decide_eq_true rfl] at M3
        have hdd := same_text P N
        rw [hdd] at M2
        have HM2 := Lib.hid M2; have HM3 := Lib.hid M3
        clear hpl M2 M3 hf1 hf2 hdd
        go_wp2_with fail
        refine HPC.out.mono ?_; rintro _ w3 ⟨rfl, hw3⟩; obtain rfl := hw3.symm
        go_wp2_with fail
        refine HM2.out.mono ?_; rintro _ w4 ⟨rfl, hb4⟩
        have HB4 := Lib.hid (bnext HB2.out hb4)
        clear hb4
        go_wp2_with fail
        refine (HM3.out _).mono ?_; rintro _ w5 ⟨rfl, hb5⟩
        have HB5 := Lib.hid (bnext HB4.out hb5)
        clear hb5
        go_wp2
        go_ret
        exact ⟨congrArg (fun z => Ending.returned (.bool z)) (by simp), HB5.out⟩
end Go.Proofs.Ytlgalkadigpleaa.GW
