/-
  Walks of the statements of layer 11: blanks, and idle lines.
-/
import Derived.Test.YtgdjmbekamdlgaaDoorCfgWA
set_option linter.unusedSimpArgs false
set_option linter.unusedVariables false
namespace Go.Proofs.YtgdjmbekamdlgaaDoor.KW
open Go.RowKit KR KP
theorem sum_le (B : Nat) : ∀ L : List (List Nat), (∀ t ∈ L, t.length ≤ B) → (L.map List.length).sum ≤ L.length * B
  | [], _ => Nat.zero_le _
  | t :: L, h => by
    have ih := sum_le B L (fun x hx => h x (List.mem_cons_of_mem _ hx))
    have h1 := h t List.mem_cons_self
    rw [List.map_cons, List.sum_cons, List.length_cons, Nat.succ_mul]
    omega
theorem more_take {ls : List (List Nat)} {k j : Nat} {t : List Nat} (h : ls[j]? = some t) : moreV k (ls.take (j + 1)) = moreV k (ls.take j) ++ (aheadV (k + j) ++ (32 :: 32 :: (t ++ [9, 10]))) := by
  have hl : (ls.take j).length = j := by
    have := (List.getElem?_eq_some_iff.1 h).1
    rw [List.length_take]; omega
  rw [List.take_add_one, h]
  show moreV k (ls.take j ++ [t]) = _
  rw [moreV_snoc, hl]
theorem more_str (M a t : List Nat) : str M ++ str a ++ str [32, 32] ++ str t ++ str [9, 10] = str (M ++ (a ++ (32 :: 32 :: (t ++ [9, 10])))) := by
  rw [str_append, str_append, str_append, str_append]
  congr 1
  simp
theorem more_str0 (M t : List Nat) : str M ++ str [32, 32] ++ str t ++ str [9, 10] = str (M ++ ([] ++ (32 :: 32 :: (t ++ [9, 10])))) := by
  rw [str_append, str_append, str_append]
  congr 1
  simp
theorem ahead0 {n : Nat} (h : n % 4 = 0) : aheadV n = [35, 32, 110, 111, 10] := if_pos h
theorem ahead1 {n : Nat} (h : n % 4 = 1) : aheadV n = [32, 9, 10] := by unfold aheadV; rw [if_neg (by omega), if_pos h]
theorem ahead2 {n : Nat} (h : n % 4 = 2) : aheadV n = [59, 13, 10] := by unfold aheadV; rw [if_neg (by omega), if_neg (by omega), if_pos h]
theorem ahead3 {n : Nat} (h : n % 4 = 3) : aheadV n = [] := by unfold aheadV; rw [if_neg (by omega), if_neg (by omega), if_neg (by omega)]
theorem more_byt {L : List (List Nat)} (k : Nat) (h : ∀ t ∈ L, Byt t) : Byt (moreV k L) := by
  induction L generalizing k with
  | nil => exact fun c hc => nomatch hc
  | cons t L ih =>
    have h1 := ih (k + 1) (fun x hx => h x (List.mem_cons_of_mem _ hx))
    have h2 := h t List.mem_cons_self
    have h3 : Byt (aheadV k) := by
      intro c hc
      unfold aheadV at hc
      repeat' split at hc
      all_goals (simp at hc; try omega)
    intro c hc
    unfold moreV at hc
    rcases List.mem_append.1 hc with hc | hc
    · rcases List.mem_append.1 hc with hc | hc
      · exact h3 c hc
      · simp at hc
        rcases hc with e | e | e | e
        · omega
        · exact h2 c e
        · omega
        · omega
    · exact h1 c hc
set_option maxRecDepth 100000 in
set_option maxHeartbeats 2000000 in
theorem configIdle_c (s : ByteArray) (hs : s.size ≤ 9223372036854775807) (k : Nat) (hk : k ≤ 255) (w : World) : Calls Tryd.prog 4 #[.string s, .int .u8 (k : Int)] w fun e w' => e = .returned (.bool true) ∧ Below w.heap.size w w' := by
  have AL := Lib.hid (alive_c w)
  by_cases h6 : 2000 < s.size
  · have hi : (2000 : Int) < (s.size : Int) := by omega
    go_enter Tryd.func4, Tryd.ntmps4
    go_wp2_with fail
    refine AL.out.mono ?_; rintro _ w1 ⟨rfl, hb1⟩
    go_wp2
    go_ret
    exact ⟨rfl, hb1⟩
  · have h1 : s.size ≤ 100000 := by omega
    have hi : ¬ (2000 : Int) < (s.size : Int) := by omega
    have P1 := Lib.hid (fun W => KP.parse_p s W)
    have L2 := Lib.hid (fun W => KR.lines_c s h1 W)
    have FW := Lib.hid (conf_few (bs s))
    have LNC := linesV_count (bs s)
    rw [bs_length] at LNC
    have LIN := Lib.hid (fun (t : List Nat) (ht : t ∈ linesV (bs s)) => linesV_line ht)
    have LLN := Lib.hid (fun (t : List Nat) (ht : t ∈ linesV (bs s)) => Nat.le_trans (linesV_length ht) (show (bs s).length ≤ 2000 by rw [bs_length]; omega))
    have LBY := Lib.hid (lines_byt (byt_bs s))
    have CM := Lib.hid (fun h2 => conf_more (bs s) k (by rw [bs_length]; omega) h2)
    generalize linesV (bs s) = ls at *
    obtain ⟨m, hm⟩ : ∃ m, ls.length = m := ⟨_, rfl⟩
    rw [hm] at LNC
    have hm1 : m ≤ 2001 := by omega
    have HM := Lib.hid hm
    have MLEN := Lib.hid (show ∀ j, (moreV k (ls.take j)).length ≤ 5000000 from fun j => by
      have h2 := moreV_length (ls.take j) k
      have h3 := sum_le 2000 (ls.take j) (fun t ht => LLN.out t (List.mem_of_mem_take ht))
      have h4 : (ls.take j).length ≤ 2001 := by rw [List.length_take]; omega
      have h5 : (ls.take j).length * 2000 ≤ 2001 * 2000 := Nat.mul_le_mul_right _ h4
      omega)
    generalize confV (bs s) = r at *
    obtain ⟨L, e⟩ := r
    simp only at P1 FW
    clear h6 LNC hm
    go_enter Tryd.func4, Tryd.ntmps4
    go_wp2_with fail
    refine AL.out.mono ?_; rintro _ w0 ⟨rfl, hb0⟩
    have B0 := Lib.hid hb0
    clear hb0
    go_wp2_with fail
    refine (L2.out _).mono ?_; rintro _ w2 ⟨v2, rfl, t2, hb2⟩
    obtain ⟨A2, c2, rfl, hc2, _⟩ := own_form t2
    have TX := Lib.hid t2.out; have B2 := Lib.hid (bnext B0.out hb2)
    rw [HM.out] at hc2 TX ⊢
    clear t2 hb2
    go_wp2
    go_loopw [5, 7] (fun mv iv wr => ∃ j : Nat, j ≤ m ∧ iv = .int .i64 (j : Nat) ∧ mv = .string (str (moreV k (ls.take j))) ∧ wr = w2) (fun _ iv _ => m - (intOf iv).toNat)
    case atStart => exact ⟨0, Nat.zero_le _, rfl, rfl, rfl⟩
    case round =>
      obtain ⟨j, hj, rfl, rfl, rfl⟩ := hrel
      by_cases hlt : j < m
      · have hjl : j < ls.length := by rw [HM.out]; exact hlt
        have hp := List.getElem?_eq_getElem hjl
        obtain ⟨t, htt⟩ : ∃ t, ls[j] = t := ⟨_, rfl⟩
        rw [htt] at hp
        obtain ⟨A', c', hv', _, hx'⟩ := TX.out
        injection hv' with e1 e2 e3; subst e1; clear e2 e3
        obtain ⟨bl, rfl, al⟩ := hx' (by intro e; rw [e] at hjl; exact absurd hjl (Nat.not_lt_zero _))
        have tc := al j t hp
        have MT := more_take (k := k) hp
        have ML := MLEN.out j
        have ms := more_str (moreV k (ls.take j)) (aheadV (k + j)) t
        have ms0 := more_str0 (moreV k (ls.take j)) t
        rw [← MT] at ms
        have hMs : (str (moreV k (ls.take j))).size ≤ 5000000 := by rw [str_size]; exact ML
        have hts : (str t).size ≤ 2000 := by rw [str_size]; exact LLN.out t (List.mem_of_getElem? hp)
        have hr4 : (k + j) % 4 = 0 ∨ (k + j) % 4 = 1 ∨ (k + j) % 4 = 2 ∨ (k + j) % 4 = 3 := by omega
        have hk9 : (k : Int) + (j : Int) = ((k + j : Nat) : Int) := by omega
        clear al hx' htt hjl
        rcases hr4 with hr | hr | hr | hr
        · have r0 : ((k : Int) + (j : Int)) % 4 = 0 := by omega
          have r1 : Int.tmod ((k : Int) + (j : Int)) 4 = 0 := by rw [Int.tmod_eq_emod_of_nonneg (by omega)]; exact r0
          rw [ahead0 hr] at ms
          have HP := Lib.hid (show str (moreV k (ls.take j)) ++ ⟨#[35, 32, 110, 111, 10]⟩ ++ ⟨#[32, 32]⟩ ++ str t ++ ⟨#[9, 10]⟩ = str (moreV k (ls.take (j + 1))) from ms)
          have HT := Lib.hid hp
          generalize str (moreV k (ls.take j)) = MS at *
          generalize str t = TS at *
          clear hp MT ML ms ms0 hr hk9
          go_wp2
          go_roundw
          case rel => exact ⟨j + 1, by omega, by go_num, congrArg Value.string HP.out, by first | rfl | trivial⟩
          case measure => simp [intOf]; omega
        · have r0 : ((k : Int) + (j : Int)) % 4 = 1 := by omega
          have r1 : Int.tmod ((k : Int) + (j : Int)) 4 = 1 := by rw [Int.tmod_eq_emod_of_nonneg (by omega)]; exact r0
          rw [ahead1 hr] at ms
          have HP := Lib.hid (show str (moreV k (ls.take j)) ++ ⟨#[32, 9, 10]⟩ ++ ⟨#[32, 32]⟩ ++ str t ++ ⟨#[9, 10]⟩ = str (moreV k (ls.take (j + 1))) from ms)
          have HT := Lib.hid hp
          generalize str (moreV k (ls.take j)) = MS at *
          generalize str t = TS at *
          clear hp MT ML ms ms0 hr hk9
          go_wp2
          go_roundw
          case rel => exact ⟨j + 1, by omega, by go_num, congrArg Value.string HP.out, by first | rfl | trivial⟩
          case measure => simp [intOf]; omega
        · have r0 : ((k : Int) + (j : Int)) % 4 = 2 := by omega
          have r1 : Int.tmod ((k : Int) + (j : Int)) 4 = 2 := by rw [Int.tmod_eq_emod_of_nonneg (by omega)]; exact r0
          rw [ahead2 hr] at ms
          have HP := Lib.hid (show str (moreV k (ls.take j)) ++ ⟨#[59, 13, 10]⟩ ++ ⟨#[32, 32]⟩ ++ str t ++ ⟨#[9, 10]⟩ = str (moreV k (ls.take (j + 1))) from ms)
          have HT := Lib.hid hp
          generalize str (moreV k (ls.take j)) = MS at *
          generalize str t = TS at *
          clear hp MT ML ms ms0 hr hk9
          go_wp2
          go_roundw
          case rel => exact ⟨j + 1, by omega, by go_num, congrArg Value.string HP.out, by first | rfl | trivial⟩
          case measure => simp [intOf]; omega
        · have r0 : ((k : Int) + (j : Int)) % 4 = 3 := by omega
          have r1 : Int.tmod ((k : Int) + (j : Int)) 4 = 3 := by rw [Int.tmod_eq_emod_of_nonneg (by omega)]; exact r0
          have HP := Lib.hid (show str (moreV k (ls.take j)) ++ ⟨#[32, 32]⟩ ++ str t ++ ⟨#[9, 10]⟩ = str (moreV k (ls.take (j + 1))) from ms0.trans (by rw [MT, ahead3 hr]))
          have HT := Lib.hid hp
          generalize str (moreV k (ls.take j)) = MS at *
          generalize str t = TS at *
          clear hp MT ML ms ms0 hr hk9
          go_wp2
          go_roundw
          case rel => exact ⟨j + 1, by omega, by go_num, congrArg Value.string HP.out, by first | rfl | trivial⟩
          case measure => simp [intOf]; omega
      · obtain rfl : j = m := by omega
        have hT : ls.take j = ls := by rw [← HM.out, List.take_length]
        have ML := MLEN.out j
        rw [hT] at ML ⊢
        have hbm : bs (str (moreV k ls)) = moreV k ls := bs_str (more_byt k LBY.out)
        have P2 := (fun W => KP.parse_p (str (moreV k ls)) W)
        rw [hbm] at P2
        have hsz : (str (moreV k ls)).size = (moreV k ls).length := str_size _
        have HSZ := Lib.hid hsz
        by_cases h40 : 4096 < (moreV k ls).length
        · have hc : confV (moreV k ls) = ([], 12) := if_pos h40
          rw [hc] at P2
          generalize str (moreV k ls) = MO at *
          have P3 := Lib.hid P2
          have g1 : (4096 : Int) < (MO.size : Int) := by omega
          clear P2 hc hT ML hbm hsz h40 HSZ
          go_wp2_with fail
          refine (P1.out _).mono ?_; rintro _ w3 ⟨v3, rfl, h3, hb3⟩
          obtain ⟨A3, c3, rfl⟩ := sec_form h3
          have B3 := Lib.hid (bnext B2.out hb3)
          clear h3 hb3
          go_wp2_with fail
          refine (P3.out _).mono ?_; rintro _ w4 ⟨v4, rfl, h4, hb4⟩
          obtain ⟨A4, c4, rfl⟩ := sec_form h4
          clear h4
          go_wp2
          go_ret
          exact ⟨rfl, bnext B3.out hb4⟩
        · have hc := CM.out (by omega)
          rw [hc] at P2
          generalize str (moreV k ls) = MO at *
          have P3 := Lib.hid P2
          have g1 : ¬ (4096 : Int) < (MO.size : Int) := by omega
          clear P2 hc hT ML hbm hsz h40 HSZ CM
          go_wp2_with fail
          refine (P1.out _).mono ?_; rintro _ w3 ⟨v3, rfl, h3, hb3⟩
          obtain ⟨A3, c3, rfl⟩ := sec_form h3
          have H3 := Lib.hid h3; have B23 := Lib.hid hb3
          clear h3 hb3
          go_wp2_with fail
          refine (P3.out _).mono ?_; rintro _ w4 ⟨v4, rfl, h4, hb4⟩
          obtain ⟨A4, c4, rfl⟩ := sec_form h4
          have S4 := Lib.hid (show ∀ W, Below w4.heap.size w4 W → SecOut W (.slice A3 L.length c3) L ∧ SecOut W (.slice A4 L.length c4) L from fun W h => ⟨(H3.out.below hb4).below h, h4.below h⟩)
          have T4 := Lib.hid (show ∀ W, Below w4.heap.size w4 W → TxOut W (.slice A2 j c2) ls from fun W h => TX.out.below (bnext (bnext B23.out hb4) h))
          have B4 := Lib.hid (bnext B2.out (bnext B23.out hb4))
          clear h4 hb4 H3
          go_wp2
          go_loopw [12] (fun iv wr => ∃ q : Nat, q ≤ j ∧ iv = .int .i64 (q : Nat) ∧ Hid (Below w4.heap.size w4 wr)) (fun iv _ => j - (intOf iv).toNat)
          case atStart => exact ⟨0, Nat.zero_le _, rfl, Below.refl _ _⟩
          case round =>
            obtain ⟨q, hq, rfl, HI⟩ := hrel
            by_cases hqt : q < j
            · have hql : q < ls.length := by rw [HM.out]; exact hqt
              have hp := List.getElem?_eq_getElem hql
              obtain ⟨t, htt⟩ : ∃ t, ls[q] = t := ⟨_, rfl⟩
              rw [htt] at hp
              obtain ⟨A', c', hv', _, hx'⟩ := T4.out _ HI.out
              injection hv' with e1 e2 e3; subst e1; clear e2 e3
              obtain ⟨bl, rfl, al⟩ := hx' (by intro e; rw [e] at hql; exact absurd hql (Nat.not_lt_zero _))
              have tc := al q t hp
              have hmem := List.mem_of_getElem? hp
              have hne := (of_decide_eq_true (LIN.out t hmem).kept).1
              have hts : (str t).size = t.length := str_size t
              have htl : t.length ≤ 2000 := LLN.out t hmem
              have htp : 0 < t.length := List.length_pos_iff.2 hne
              have zl : (str t).size - 1 < (str t).size := by omega
              obtain ⟨d, hd⟩ : ∃ d, ((str t)[(str t).size - 1]'zl).toNat = d := ⟨_, rfl⟩
              have zq : ((str t).size : Int) - 1 = (((str t).size - 1 : Nat) : Int) := by omega
              have zw : IntKind.i64.wrap (((str t).size - 1 : Nat) : Int) = (((str t).size - 1 : Nat) : Int) := by rw [IntKind.wrap_i64]; omega
              have z2 : (str t).size ≤ 2000 := by omega
              have z3 : 0 < (str t).size := by omega
              generalize str t = TS at *
              generalize TS.size - 1 = u at *
              clear hp htt al hx' hmem hne hts htl htp hql
              by_cases h13 : d = 13
              · subst h13
                go_wp2_with fail
                go_quiet (fail)
                go_wp2
                go_ret
                exact ⟨rfl, bnext B4.out (below_drewN HI.out _)⟩
              · have di : ((d : Int) == 13) = false := by rw [beq_eq_false_iff_ne]; omega
                go_wp2_with fail
                go_quiet (fail)
                go_wp2
                go_roundw
                case rel => exact ⟨q + 1, by omega, by go_num, below_drewN HI.out _⟩
                case measure => simp [intOf]; omega
            · obtain rfl : q = j := by omega
              have SM := Lib.hid (same_c (L := L) (by have := FW.out.secs; omega) (fun x hx => by have := FW.out.keys x hx; omega) (S4.out _ HI.out).1 (S4.out _ HI.out).2)
              go_wp2_with fail
              refine SM.out.mono ?_; rintro _ w6 ⟨rfl, hb6⟩
              go_wp2
              go_ret
              exact ⟨rfl, bnext B4.out (bnext HI.out hb6)⟩
end Go.Proofs.YtgdjmbekamdlgaaDoor.KW
