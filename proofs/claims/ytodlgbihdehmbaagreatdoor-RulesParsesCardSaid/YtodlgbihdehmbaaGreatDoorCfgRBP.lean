/-
  Contracts of the document's own functions of layer 11 (isobarref11): the lines of a text.
-/
import Derived.Test.YtodlgbihdehmbaaGreatDoorCfgRAP
set_option linter.unusedSimpArgs false
set_option linter.unusedVariables false
namespace Go.Proofs.YtodlgbihdehmbaaGreatDoor.Cf.KR
open Go.RowKit
theorem keepV_snoc (ps : List (List Nat)) (p : List Nat) : keepV (ps ++ [p]) = if kept (lnV p) = true then keepV ps ++ [lnV p] else keepV ps := by
  rw [keepV_app]
  unfold keepV
  rw [List.map_cons, List.map_nil, List.filter_cons]
  split
  · rfl
  · simp
theorem keepV_length (ps : List (List Nat)) : (keepV ps).length ≤ ps.length := by
  unfold keepV
  exact Nat.le_trans (List.length_filter_le _ _) (by rw [List.length_map]; exact Nat.le_refl _)
theorem spl_last {c : Nat} {l : List Nat} {f : Nat} (h : ∀ j, f ≤ j → j < l.length → byteAt l j ≠ c) : spl c (l.drop f) = [l.drop f] := by
  refine spl_no fun hm => ?_
  obtain ⟨j, hj⟩ := List.getElem?_of_mem hm
  rw [List.getElem?_drop] at hj
  have hl := (List.getElem?_eq_some_iff.1 hj).1
  refine h (f + j) (by omega) hl ?_
  unfold byteAt
  rw [List.getD_eq_getElem?_getD, hj]; rfl
theorem spl_seg {c : Nat} {l : List Nat} {f k : Nat} (hf : f ≤ k) (hk : k < l.length) (hc : byteAt l k = c) (h : ∀ j, f ≤ j → j < k → byteAt l j ≠ c) : spl c (l.drop f) = (l.drop f).take (k - f) :: spl c (l.drop (k + 1)) := by
  have e : l.drop f = (l.drop f).take (k - f) ++ c :: l.drop (k + 1) := by
    conv => lhs; rw [← List.take_append_drop (k - f) (l.drop f)]
    rw [List.drop_drop, show f + (k - f) = k from by omega, List.drop_eq_getElem_cons hk]
    have : l[k] = c := by
      unfold byteAt at hc
      rw [List.getD_eq_getElem?_getD, List.getElem?_eq_getElem hk] at hc
      exact hc
    rw [this]
  conv => lhs; rw [e]
  refine spl_at _ fun hm => ?_
  obtain ⟨j, hj⟩ := List.getElem?_of_mem hm
  rw [List.getElem?_take] at hj
  split at hj
  · rename_i hjk
    rw [List.getElem?_drop] at hj
    refine h (f + j) (by omega) (by omega) ?_
    unfold byteAt
    rw [List.getD_eq_getElem?_getD, hj]; rfl
  · cases hj
theorem toL_no {s : ByteArray} (h : 0 < s.size) : (s.toList == (ByteArray.mk #[]).toList) = false := by
  rw [beq_eq_false_iff_ne]
  intro e
  rw [ByteArray.toList_eq, ByteArray.toList_eq] at e
  have := congrArg List.length e
  obtain ⟨⟨l⟩⟩ := s
  simp [ByteArray.size] at this h
  first | omega | (rw [this] at h; simp at h)
theorem kept_no {L : List Nat} (h : kept L = false) : L = [] ∨ ∃ a, byteAt L 0 = a ∧ 0 < L.length ∧ (a = 35 ∨ a = 59) := by
  unfold kept at h
  rw [decide_eq_false_iff_not] at h
  by_cases h0 : L = []
  · exact .inl h0
  · refine .inr ⟨_, rfl, List.length_pos_iff.2 h0, ?_⟩
    by_cases h1 : byteAt L 0 = 35
    · exact .inl h1
    · by_cases h2 : byteAt L 0 = 59
      · exact .inr h2
      · exact absurd ⟨h0, h1, h2⟩ h
set_option maxRecDepth 100000 in
set_option maxHeartbeats 1000000 in
theorem lines_c (s : ByteArray) (hs : s.size ≤ 100000) (w : World) :
    Calls Tryz.prog 54 #[.string s] w fun e w' => ∃ v, e = .returned v ∧ TxNew w.heap.size w' v (linesV (bs s)) ∧ Below w.heap.size w w' := by
  obtain ⟨i0, hi0, hz0, hz1, hz2⟩ := info_parts text_info
  obtain ⟨n, hn⟩ : ∃ n, s.size = n := ⟨_, rfl⟩
  have hn1 : n ≤ 100000 := by omega
  have HN := Lib.hid hn; have HSZ := Lib.hid hs
  clear hn hs
  go_enter Tryz.func54, Tryz.ntmps54
  go_wp2
  go_loopw [3, 4, 5] (fun o fv i wr => ∃ (k f : Nat) (ps : List (List Nat)), k ≤ n + 1 ∧ f ≤ n + 1 ∧ fv = .int .i64 f ∧ i = .int .i64 k ∧ (k ≤ n → f ≤ k) ∧ Hid (TxNew w.heap.size wr o (keepV ps) ∧ Below w.heap.size w wr ∧ ((k = n + 1 ∧ spl 10 (bs s) = ps) ∨ (k ≤ n ∧ spl 10 (bs s) = ps ++ spl 10 ((bs s).drop f) ∧ ∀ j, f ≤ j → j < k → byteAt (bs s) j ≠ 10)))) (fun _ _ i _ => n + 1 - (intOf i).toNat)
  case atStart => exact ⟨0, 0, [], by omega, by omega, rfl, rfl, (fun _ => Nat.le_refl _), ⟨rfl, .inl ⟨rfl, rfl⟩⟩, Below.refl _ _, .inr ⟨Nat.zero_le _, rfl, fun j h1 h2 => absurd h2 (Nat.not_lt_zero j)⟩⟩
  case round =>
    obtain ⟨k, f, ps, hk, hf, rfl, rfl, hfk, HI⟩ := hrel
    obtain ⟨A, c, rfl, hcap, _⟩ := own_form HI.out.1
    obtain ⟨m, hm⟩ : ∃ m, (keepV ps).length = m := ⟨_, rfl⟩
    have hmn : m ≤ n + 1 := by
      rw [← hm]
      refine Nat.le_trans (keepV_length ps) ?_
      have h1 := spl_length 10 (bs s)
      rw [bs_length, HN.out] at h1
      rcases HI.out.2.2 with ⟨_, e⟩ | ⟨_, e, _⟩
      · rw [← e]; exact h1
      · rw [e, List.length_append] at h1; omega
    have HM := Lib.hid hm
    rw [hm] at hcap
    rw [hm] at HI
    rw [hm]
    have ROW := Lib.hid (show wr.ownsRow w.heap.size 9 1 (.slice A m c) m (txC (keepV ps)) from by
      have h2 := HI.out.1
      unfold TxNew at h2
      rw [HM.out] at h2
      exact h2)
    have SZ := Lib.hid HI.out.2.1.size
    clear hm
    by_cases hkn : k ≤ n
    · have hI3 := HI.out.2.2.resolve_left (fun h => by omega)
      have hfk1 := hfk hkn
      have B63 := Lib.hid (show m + 1 ≤ maxLen by simp only [maxLen]; omega)
      have B48 := Lib.hid (show (m + 1) * 16 ≤ 140737488355328 by omega)
      obtain ⟨p, hpp⟩ : ∃ p, ((bs s).drop f).take (k - f) = p := ⟨_, rfl⟩
      have HPP := Lib.hid hpp
      clear hpp
      by_cases hlt : k < n
      · have hlt0 : k < s.size := by rw [HN.out]; exact hlt
        obtain ⟨x, hx⟩ : ∃ x, byteAt (bs s) k = x := ⟨_, rfl⟩
        have hb : (s[k]'hlt0).toNat = x := (at_byte hlt0).trans hx
        by_cases h10 : x = 10
        · have NXT := Lib.hid (show (k + 1 = n + 1 ∧ spl 10 (bs s) = ps ++ [p]) ∨ (k + 1 ≤ n ∧ spl 10 (bs s) = (ps ++ [p]) ++ spl 10 ((bs s).drop (k + 1)) ∧ ∀ j, k + 1 ≤ j → j < k + 1 → byteAt (bs s) j ≠ 10) from .inr ⟨hlt, by
            rw [hI3.2.1, spl_seg hfk1 (by rw [bs_length]; exact hlt0) (hx.trans h10) hI3.2.2, HPP.out, List.append_assoc]; rfl, fun j h1 h2 => by omega⟩)
          subst h10
          have hkle : k ≤ s.size := by omega
          clear hx hI3
          have hP0 : bs (s.extract f k) = p := by
            rw [← HPP.out]
            have e : s = str (bs s) := (str_bs s).symm
            have h1 : s.extract f k = str (((bs s).drop f).take (k - f)) := by
              have h2 : (str (bs s)).extract f k = str (((bs s).drop f).take (k - f)) := str_extract f k
              rwa [← e] at h2
            rw [h1]
            exact bs_str (fun c hc => bs_small s c (List.mem_of_mem_drop (List.mem_of_mem_take hc)))
          have hPs0 : (s.extract f k).size ≤ 100000 := by rw [ByteArray.size_extract]; have := HSZ.out; omega
          obtain ⟨PB, hPB⟩ : ∃ x, s.extract f k = x := ⟨_, rfl⟩
          rw [hPB] at hP0 hPs0
          have hP : bs PB = p := hP0
          have hPs : PB.size ≤ 100000 := hPs0
          clear hP0 hPs0
          have hPl : p.length = PB.size := by rw [← hP, bs_length]
          obtain ⟨q, hq⟩ : ∃ q, crV p = q := ⟨_, rfl⟩
          obtain ⟨L, hL⟩ : ∃ L, lnV p = L := ⟨_, rfl⟩
          have hqL : blB q = L := by rw [← hq, ← hL]; rfl
          have hqm : ∀ c ∈ q, c < 256 := fun c hc => by rw [← hq] at hc; have := crV_mem hc; rw [← hP] at this; exact bs_small PB c this
          have hqs : (str q).size ≤ 9223372036854775807 := by rw [str_size, ← hq]; have := crV_length p; omega
          have TC := Lib.hid (fun X => trim_c (str q) hqs X)
          rw [bs_str hqm, hqL] at TC
          have hLm : ∀ c ∈ L, c < 256 := fun c hc => by rw [← hqL] at hc; exact hqm c (blB_mem hc)
          have KS := Lib.hid (keepV_snoc ps p)
          rw [hL] at KS
          have HQ := Lib.hid hq; have HP := Lib.hid hP; have HLm := Lib.hid hLm
          clear hq hL hqL hqm hqs hP hLm
          obtain ⟨qs, hqs⟩ : ∃ qs, str q = qs := ⟨_, rfl⟩
          rw [hqs] at TC
          have HQS := Lib.hid hqs
          clear hqs
          by_cases z : PB.size = 0
          · have hqe : PB = qs := by
              have e : p = [] := List.eq_nil_of_length_eq_zero (by omega)
              have e2 : q = p := by rw [← HQ.out, e]; rfl
              rw [← HQS.out, e2, ← HP.out, str_bs]
            subst hqe
            go_wp2_with fail
            refine (TC.out _).mono ?_; rintro _ w1 ⟨rfl, rfl⟩
            clear TC HQ HQS HP hPl hPs
            have NEXT := Lib.hid (NXT.out)
            cases hkept : kept L with
            | true =>
              obtain ⟨hLn, h35, h59⟩ := of_decide_eq_true hkept
              rw [if_pos hkept] at KS
              obtain ⟨a, ha⟩ : ∃ a, byteAt L 0 = a := ⟨_, rfl⟩
              rw [ha] at h35 h59
              have hLp : 0 < L.length := List.length_pos_iff.2 hLn
              have hls : (str L).size = L.length := str_size L
              have hl0 : 0 < (str L).size := by omega
              have hb0 : ((str L)[0]'hl0).toNat = a := by rw [at_byte hl0, bs_str HLm.out]; exact ha
              have i35 : ¬ (a : Int) = 35 := by omega
              have i59 : ¬ (a : Int) = 59 := by omega
              have k35 : ((a : Int) != 35) = true := by rw [bne_iff_ne]; omega
              have k59 : ((a : Int) != 59) = true := by rw [bne_iff_ne]; omega
              have hnl : ((str L).toList == (ByteArray.mk #[]).toList) = false := toL_no hl0
              have hnl2 : (str L).toList.isEmpty = false := by
                cases h : (str L).toList.isEmpty with
                | false => rfl
                | true => rw [bs_nil_iff, bs_str HLm.out] at h; exact absurd h hLn
              have PUSH := Lib.hid (show ∀ (W' : World) (v' : Value), W'.ownsRow w.heap.size 9 1 v' (m + 1) (txC (keepV ps) ++ [.string (str L)]) → TxNew w.heap.size W' v' (keepV (ps ++ [p])) from fun W' v' h => by
                rw [KS.out]
                exact TxNew.push (by rw [HM.out]; exact h))
              have FORM := Lib.hid (fun (W' : World) (v' : Value) (h : W'.ownsRow w.heap.size 9 1 v' (m + 1) (txC (keepV ps) ++ [.string (str L)])) => own_form h)
              have GROW := Lib.hid (show ∀ (W' : World), (wr.alloc (.cells #[.string (str L)] 9)).grownBy W' (Value.ownBlock (.slice A m c)) → Below w.heap.size w W' from fun W' hg =>
                (HI.out.2.1.alloc HI.out.2.1.size _).grown hg (by have := HI.out.2.1.size; simp; omega) (fun j ej => by have := (own_lt ROW.out ej).1; exact this))
              generalize str L = SL at *
              clear hLn ha hLp hls hkept HLm KS h35 h59
              go_wp2_with (at_builtin; refine wpList_append_any _ rfl (.tmp 59) (.tmp 61) _ rfl w.heap.size 9 i0 (.string ⟨#[]⟩) 1 16 Tryz.underlying54 hi0 hz0 hz1 hz2 rfl (by decide) (.slice A m c) m (txC (keepV ps)) rfl (World.ownsRow.alloc ROW.out _) _ (some ⟨wr.heap.size, 0, none⟩) 1 1 [.string SL] rfl (Reads.of_own (World.ownsRow_lit (base := 0) (e := 9) (size := 1) wr #[.string SL] 1 (Nat.zero_le _) (by decide) rfl)) (by simp [Value.oneCell']) B63.out B48.out (by have := SZ.out; simp; omega) ?_; intro v13 w13 hown13 hg13 hat13; obtain ⟨A13, c13, hv13, _⟩ := FORM.out _ _ hown13; subst hv13; have hs13 := Lib.hid (PUSH.out _ _ hown13); have hb13 := Lib.hid (GROW.out _ hg13); clear hown13 hg13 hat13)
              go_roundw
              case rel => exact ⟨k + 1, k + 1, ps ++ [p], by omega, by omega, by go_num, by go_num, (fun _ => Nat.le_refl _), hs13.out, hb13.out, NEXT.out⟩
              case measure => simp only [intOf]; omega
            | false =>
              rw [hkept, if_neg (by decide)] at KS
              have ROWS := Lib.hid (show TxNew w.heap.size wr (.slice A m c) (keepV (ps ++ [p])) from by rw [KS.out]; exact HI.out.1)
              clear KS
              rcases kept_no hkept with hLn | ⟨a, ha, hLp, h35 | h59⟩
              · have hnl : ((str L).toList == (ByteArray.mk #[]).toList) = true := by rw [hLn, ByteArray.toList_eq, ByteArray.toList_eq]; rfl
                have hnl2 : (str L).toList.isEmpty = true := by rw [bs_nil_iff, bs_str HLm.out]; exact hLn
                generalize str L = SL at *
                clear hLn hkept HLm
                go_wp2
                go_roundw
                case rel => exact ⟨k + 1, k + 1, ps ++ [p], by omega, by omega, by go_num, by go_num, (fun _ => Nat.le_refl _), ROWS.out, HI.out.2.1, NEXT.out⟩
                case measure => simp only [intOf]; omega
              · subst h35
                have hls : (str L).size = L.length := str_size L
                have hl0 : 0 < (str L).size := by omega
                have hb0 : ((str L)[0]'hl0).toNat = 35 := by rw [at_byte hl0, bs_str HLm.out]; exact ha
                have hnl : ((str L).toList == (ByteArray.mk #[]).toList) = false := toL_no hl0
                have hnl2 : (str L).toList.isEmpty = false := by
                  cases h : (str L).toList.isEmpty with
                  | false => rfl
                  | true => rw [bs_nil_iff, bs_str HLm.out] at h; rw [h] at hLp; simp at hLp
                generalize str L = SL at *
                clear ha hLp hls hkept HLm
                go_wp2
                go_roundw
                case rel => exact ⟨k + 1, k + 1, ps ++ [p], by omega, by omega, by go_num, by go_num, (fun _ => Nat.le_refl _), ROWS.out, HI.out.2.1, NEXT.out⟩
                case measure => simp only [intOf]; omega
              · subst h59
                have hls : (str L).size = L.length := str_size L
                have hl0 : 0 < (str L).size := by omega
                have hb0 : ((str L)[0]'hl0).toNat = 59 := by rw [at_byte hl0, bs_str HLm.out]; exact ha
                have hnl : ((str L).toList == (ByteArray.mk #[]).toList) = false := toL_no hl0
                have hnl2 : (str L).toList.isEmpty = false := by
                  cases h : (str L).toList.isEmpty with
                  | false => rfl
                  | true => rw [bs_nil_iff, bs_str HLm.out] at h; rw [h] at hLp; simp at hLp
                generalize str L = SL at *
                clear ha hLp hls hkept HLm
                go_wp2
                go_roundw
                case rel => exact ⟨k + 1, k + 1, ps ++ [p], by omega, by omega, by go_num, by go_num, (fun _ => Nat.le_refl _), ROWS.out, HI.out.2.1, NEXT.out⟩
                case measure => simp only [intOf]; omega
          · have zp : 0 < PB.size := Nat.pos_of_ne_zero z
            have zl : PB.size - 1 < PB.size := by omega
            obtain ⟨d, hd⟩ : ∃ d, byteAt (bs PB) (PB.size - 1) = d := ⟨_, rfl⟩
            have db : (PB[PB.size - 1]'zl).toNat = d := (at_byte zl).trans hd
            have zpi : (0 : Int) < (PB.size : Int) := by omega
            have zq : (PB.size : Int) - 1 = ((PB.size - 1 : Nat) : Int) := by omega
            have hdl : lastB p = d := by rw [← HP.out]; unfold lastB; rw [bs_length]; exact hd
            have hpn : p ≠ [] := fun e => by rw [e] at hPl; simp at hPl; omega
            by_cases d13 : d = 13
            · have hst := str_init PB
              have hqe : str (bs PB).dropLast = qs := by
                rw [← HQS.out, ← HQ.out, HP.out]
                unfold crV
                rw [if_pos ⟨hpn, by rw [hdl]; exact d13⟩]
              rw [hqe] at hst
              subst d13
              generalize PB.size - 1 = r at *
              clear hqe hdl hd hpn
              go_wp2_with fail
              refine (TC.out _).mono ?_; rintro _ w1 ⟨rfl, rfl⟩
              clear TC HQ HQS HP hPl hPs
              have NEXT := Lib.hid (NXT.out)
              cases hkept : kept L with
              | true =>
                obtain ⟨hLn, h35, h59⟩ := of_decide_eq_true hkept
                rw [if_pos hkept] at KS
                obtain ⟨a, ha⟩ : ∃ a, byteAt L 0 = a := ⟨_, rfl⟩
                rw [ha] at h35 h59
                have hLp : 0 < L.length := List.length_pos_iff.2 hLn
                have hls : (str L).size = L.length := str_size L
                have hl0 : 0 < (str L).size := by omega
                have hb0 : ((str L)[0]'hl0).toNat = a := by rw [at_byte hl0, bs_str HLm.out]; exact ha
                have i35 : ¬ (a : Int) = 35 := by omega
                have i59 : ¬ (a : Int) = 59 := by omega
                have k35 : ((a : Int) != 35) = true := by rw [bne_iff_ne]; omega
                have k59 : ((a : Int) != 59) = true := by rw [bne_iff_ne]; omega
                have hnl : ((str L).toList == (ByteArray.mk #[]).toList) = false := toL_no hl0
                have hnl2 : (str L).toList.isEmpty = false := by
                  cases h : (str L).toList.isEmpty with
                  | false => rfl
                  | true => rw [bs_nil_iff, bs_str HLm.out] at h; exact absurd h hLn
                have PUSH := Lib.hid (show ∀ (W' : World) (v' : Value), W'.ownsRow w.heap.size 9 1 v' (m + 1) (txC (keepV ps) ++ [.string (str L)]) → TxNew w.heap.size W' v' (keepV (ps ++ [p])) from fun W' v' h => by
                  rw [KS.out]
                  exact TxNew.push (by rw [HM.out]; exact h))
                have FORM := Lib.hid (fun (W' : World) (v' : Value) (h : W'.ownsRow w.heap.size 9 1 v' (m + 1) (txC (keepV ps) ++ [.string (str L)])) => own_form h)
                have GROW := Lib.hid (show ∀ (W' : World), (wr.alloc (.cells #[.string (str L)] 9)).grownBy W' (Value.ownBlock (.slice A m c)) → Below w.heap.size w W' from fun W' hg =>
                  (HI.out.2.1.alloc HI.out.2.1.size _).grown hg (by have := HI.out.2.1.size; simp; omega) (fun j ej => by have := (own_lt ROW.out ej).1; exact this))
                generalize str L = SL at *
                clear hLn ha hLp hls hkept HLm KS h35 h59
                go_wp2_with (at_builtin; refine wpList_append_any _ rfl (.tmp 59) (.tmp 61) _ rfl w.heap.size 9 i0 (.string ⟨#[]⟩) 1 16 Tryz.underlying54 hi0 hz0 hz1 hz2 rfl (by decide) (.slice A m c) m (txC (keepV ps)) rfl (World.ownsRow.alloc ROW.out _) _ (some ⟨wr.heap.size, 0, none⟩) 1 1 [.string SL] rfl (Reads.of_own (World.ownsRow_lit (base := 0) (e := 9) (size := 1) wr #[.string SL] 1 (Nat.zero_le _) (by decide) rfl)) (by simp [Value.oneCell']) B63.out B48.out (by have := SZ.out; simp; omega) ?_; intro v13 w13 hown13 hg13 hat13; obtain ⟨A13, c13, hv13, _⟩ := FORM.out _ _ hown13; subst hv13; have hs13 := Lib.hid (PUSH.out _ _ hown13); have hb13 := Lib.hid (GROW.out _ hg13); clear hown13 hg13 hat13)
                go_roundw
                case rel => exact ⟨k + 1, k + 1, ps ++ [p], by omega, by omega, by go_num, by go_num, (fun _ => Nat.le_refl _), hs13.out, hb13.out, NEXT.out⟩
                case measure => simp only [intOf]; omega
              | false =>
                rw [hkept, if_neg (by decide)] at KS
                have ROWS := Lib.hid (show TxNew w.heap.size wr (.slice A m c) (keepV (ps ++ [p])) from by rw [KS.out]; exact HI.out.1)
                clear KS
                rcases kept_no hkept with hLn | ⟨a, ha, hLp, h35 | h59⟩
                · have hnl : ((str L).toList == (ByteArray.mk #[]).toList) = true := by rw [hLn, ByteArray.toList_eq, ByteArray.toList_eq]; rfl
                  have hnl2 : (str L).toList.isEmpty = true := by rw [bs_nil_iff, bs_str HLm.out]; exact hLn
                  generalize str L = SL at *
                  clear hLn hkept HLm
                  go_wp2
                  go_roundw
                  case rel => exact ⟨k + 1, k + 1, ps ++ [p], by omega, by omega, by go_num, by go_num, (fun _ => Nat.le_refl _), ROWS.out, HI.out.2.1, NEXT.out⟩
                  case measure => simp only [intOf]; omega
                · subst h35
                  have hls : (str L).size = L.length := str_size L
                  have hl0 : 0 < (str L).size := by omega
                  have hb0 : ((str L)[0]'hl0).toNat = 35 := by rw [at_byte hl0, bs_str HLm.out]; exact ha
                  have hnl : ((str L).toList == (ByteArray.mk #[]).toList) = false := toL_no hl0
                  have hnl2 : (str L).toList.isEmpty = false := by
                    cases h : (str L).toList.isEmpty with
                    | false => rfl
                    | true => rw [bs_nil_iff, bs_str HLm.out] at h; rw [h] at hLp; simp at hLp
                  generalize str L = SL at *
                  clear ha hLp hls hkept HLm
                  go_wp2
                  go_roundw
                  case rel => exact ⟨k + 1, k + 1, ps ++ [p], by omega, by omega, by go_num, by go_num, (fun _ => Nat.le_refl _), ROWS.out, HI.out.2.1, NEXT.out⟩
                  case measure => simp only [intOf]; omega
                · subst h59
                  have hls : (str L).size = L.length := str_size L
                  have hl0 : 0 < (str L).size := by omega
                  have hb0 : ((str L)[0]'hl0).toNat = 59 := by rw [at_byte hl0, bs_str HLm.out]; exact ha
                  have hnl : ((str L).toList == (ByteArray.mk #[]).toList) = false := toL_no hl0
                  have hnl2 : (str L).toList.isEmpty = false := by
                    cases h : (str L).toList.isEmpty with
                    | false => rfl
                    | true => rw [bs_nil_iff, bs_str HLm.out] at h; rw [h] at hLp; simp at hLp
                  generalize str L = SL at *
                  clear ha hLp hls hkept HLm
                  go_wp2
                  go_roundw
                  case rel => exact ⟨k + 1, k + 1, ps ++ [p], by omega, by omega, by go_num, by go_num, (fun _ => Nat.le_refl _), ROWS.out, HI.out.2.1, NEXT.out⟩
                  case measure => simp only [intOf]; omega
            · have hqe : PB = qs := by
                rw [← HQS.out, ← HQ.out]
                unfold crV
                rw [if_neg (fun h => d13 (by rw [← hdl]; exact h.2)), ← HP.out, str_bs]
              have di : ((d : Int) == 13) = false := by rw [beq_eq_false_iff_ne]; omega
              subst hqe
              generalize PB.size - 1 = r at *
              clear hdl hd hpn d13
              go_wp2_with fail
              refine (TC.out _).mono ?_; rintro _ w1 ⟨rfl, rfl⟩
              clear TC HQ HQS HP hPl hPs
              have NEXT := Lib.hid (NXT.out)
              cases hkept : kept L with
              | true =>
                obtain ⟨hLn, h35, h59⟩ := of_decide_eq_true hkept
                rw [if_pos hkept] at KS
                obtain ⟨a, ha⟩ : ∃ a, byteAt L 0 = a := ⟨_, rfl⟩
                rw [ha] at h35 h59
                have hLp : 0 < L.length := List.length_pos_iff.2 hLn
                have hls : (str L).size = L.length := str_size L
                have hl0 : 0 < (str L).size := by omega
                have hb0 : ((str L)[0]'hl0).toNat = a := by rw [at_byte hl0, bs_str HLm.out]; exact ha
                have i35 : ¬ (a : Int) = 35 := by omega
                have i59 : ¬ (a : Int) = 59 := by omega
                have k35 : ((a : Int) != 35) = true := by rw [bne_iff_ne]; omega
                have k59 : ((a : Int) != 59) = true := by rw [bne_iff_ne]; omega
                have hnl : ((str L).toList == (ByteArray.mk #[]).toList) = false := toL_no hl0
                have hnl2 : (str L).toList.isEmpty = false := by
                  cases h : (str L).toList.isEmpty with
                  | false => rfl
                  | true => rw [bs_nil_iff, bs_str HLm.out] at h; exact absurd h hLn
                have PUSH := Lib.hid (show ∀ (W' : World) (v' : Value), W'.ownsRow w.heap.size 9 1 v' (m + 1) (txC (keepV ps) ++ [.string (str L)]) → TxNew w.heap.size W' v' (keepV (ps ++ [p])) from fun W' v' h => by
                  rw [KS.out]
                  exact TxNew.push (by rw [HM.out]; exact h))
                have FORM := Lib.hid (fun (W' : World) (v' : Value) (h : W'.ownsRow w.heap.size 9 1 v' (m + 1) (txC (keepV ps) ++ [.string (str L)])) => own_form h)
                have GROW := Lib.hid (show ∀ (W' : World), (wr.alloc (.cells #[.string (str L)] 9)).grownBy W' (Value.ownBlock (.slice A m c)) → Below w.heap.size w W' from fun W' hg =>
                  (HI.out.2.1.alloc HI.out.2.1.size _).grown hg (by have := HI.out.2.1.size; simp; omega) (fun j ej => by have := (own_lt ROW.out ej).1; exact this))
                generalize str L = SL at *
                clear hLn ha hLp hls hkept HLm KS h35 h59
                go_wp2_with (at_builtin; refine wpList_append_any _ rfl (.tmp 59) (.tmp 61) _ rfl w.heap.size 9 i0 (.string ⟨#[]⟩) 1 16 Tryz.underlying54 hi0 hz0 hz1 hz2 rfl (by decide) (.slice A m c) m (txC (keepV ps)) rfl (World.ownsRow.alloc ROW.out _) _ (some ⟨wr.heap.size, 0, none⟩) 1 1 [.string SL] rfl (Reads.of_own (World.ownsRow_lit (base := 0) (e := 9) (size := 1) wr #[.string SL] 1 (Nat.zero_le _) (by decide) rfl)) (by simp [Value.oneCell']) B63.out B48.out (by have := SZ.out; simp; omega) ?_; intro v13 w13 hown13 hg13 hat13; obtain ⟨A13, c13, hv13, _⟩ := FORM.out _ _ hown13; subst hv13; have hs13 := Lib.hid (PUSH.out _ _ hown13); have hb13 := Lib.hid (GROW.out _ hg13); clear hown13 hg13 hat13)
                go_roundw
                case rel => exact ⟨k + 1, k + 1, ps ++ [p], by omega, by omega, by go_num, by go_num, (fun _ => Nat.le_refl _), hs13.out, hb13.out, NEXT.out⟩
                case measure => simp only [intOf]; omega
              | false =>
                rw [hkept, if_neg (by decide)] at KS
                have ROWS := Lib.hid (show TxNew w.heap.size wr (.slice A m c) (keepV (ps ++ [p])) from by rw [KS.out]; exact HI.out.1)
                clear KS
                rcases kept_no hkept with hLn | ⟨a, ha, hLp, h35 | h59⟩
                · have hnl : ((str L).toList == (ByteArray.mk #[]).toList) = true := by rw [hLn, ByteArray.toList_eq, ByteArray.toList_eq]; rfl
                  have hnl2 : (str L).toList.isEmpty = true := by rw [bs_nil_iff, bs_str HLm.out]; exact hLn
                  generalize str L = SL at *
                  clear hLn hkept HLm
                  go_wp2
                  go_roundw
                  case rel => exact ⟨k + 1, k + 1, ps ++ [p], by omega, by omega, by go_num, by go_num, (fun _ => Nat.le_refl _), ROWS.out, HI.out.2.1, NEXT.out⟩
                  case measure => simp only [intOf]; omega
                · subst h35
                  have hls : (str L).size = L.length := str_size L
                  have hl0 : 0 < (str L).size := by omega
                  have hb0 : ((str L)[0]'hl0).toNat = 35 := by rw [at_byte hl0, bs_str HLm.out]; exact ha
                  have hnl : ((str L).toList == (ByteArray.mk #[]).toList) = false := toL_no hl0
                  have hnl2 : (str L).toList.isEmpty = false := by
                    cases h : (str L).toList.isEmpty with
                    | false => rfl
                    | true => rw [bs_nil_iff, bs_str HLm.out] at h; rw [h] at hLp; simp at hLp
                  generalize str L = SL at *
                  clear ha hLp hls hkept HLm
                  go_wp2
                  go_roundw
                  case rel => exact ⟨k + 1, k + 1, ps ++ [p], by omega, by omega, by go_num, by go_num, (fun _ => Nat.le_refl _), ROWS.out, HI.out.2.1, NEXT.out⟩
                  case measure => simp only [intOf]; omega
                · subst h59
                  have hls : (str L).size = L.length := str_size L
                  have hl0 : 0 < (str L).size := by omega
                  have hb0 : ((str L)[0]'hl0).toNat = 59 := by rw [at_byte hl0, bs_str HLm.out]; exact ha
                  have hnl : ((str L).toList == (ByteArray.mk #[]).toList) = false := toL_no hl0
                  have hnl2 : (str L).toList.isEmpty = false := by
                    cases h : (str L).toList.isEmpty with
                    | false => rfl
                    | true => rw [bs_nil_iff, bs_str HLm.out] at h; rw [h] at hLp; simp at hLp
                  generalize str L = SL at *
                  clear ha hLp hls hkept HLm
                  go_wp2
                  go_roundw
                  case rel => exact ⟨k + 1, k + 1, ps ++ [p], by omega, by omega, by go_num, by go_num, (fun _ => Nat.le_refl _), ROWS.out, HI.out.2.1, NEXT.out⟩
                  case measure => simp only [intOf]; omega
        · have KEEP := Lib.hid (show (k + 1 = n + 1 ∧ spl 10 (bs s) = ps) ∨ (k + 1 ≤ n ∧ spl 10 (bs s) = ps ++ spl 10 ((bs s).drop f) ∧ ∀ j, f ≤ j → j < k + 1 → byteAt (bs s) j ≠ 10) from .inr ⟨hlt, hI3.2.1, fun j h1 h2 => by
            by_cases e : j = k
            · rw [e, hx]; exact h10
            · exact hI3.2.2 j h1 (by omega)⟩)
          have xi : ((x : Int) == 10) = false := by rw [beq_eq_false_iff_ne]; omega
          have HI2 := Lib.hid (show TxNew w.heap.size wr (.slice A m c) (keepV ps) ∧ Below w.heap.size w wr from ⟨HI.out.1, HI.out.2.1⟩)
          clear hx h10 hI3 HI HPP
          go_wp2
          go_roundw
          case rel => exact ⟨k + 1, f, ps, by omega, by omega, rfl, by go_num, (fun _ => by omega), HI2.out.1, HI2.out.2, KEEP.out⟩
          case measure => simp only [intOf]; omega
      · obtain rfl : k = n := by omega
        have NXT := Lib.hid (show (k + 1 = k + 1 ∧ spl 10 (bs s) = ps ++ [p]) ∨ (k + 1 ≤ k ∧ spl 10 (bs s) = (ps ++ [p]) ++ spl 10 ((bs s).drop (k + 1)) ∧ ∀ j, k + 1 ≤ j → j < k + 1 → byteAt (bs s) j ≠ 10) from .inl ⟨rfl, by
          rw [hI3.2.1, spl_last (fun j h1 h2 => hI3.2.2 j h1 (by rw [bs_length, HN.out] at h2; exact h2)), ← HPP.out, List.take_of_length_le (by rw [List.length_drop, bs_length, HN.out]; exact Nat.le_refl _)]⟩)
        have hkle : k ≤ s.size := by rw [HN.out]; exact Nat.le_refl _
        have hge : s.size ≤ k := by rw [HN.out]; exact Nat.le_refl _
        clear hI3
        have hP0 : bs (s.extract f k) = p := by
          rw [← HPP.out]
          have e : s = str (bs s) := (str_bs s).symm
          have h1 : s.extract f k = str (((bs s).drop f).take (k - f)) := by
            have h2 : (str (bs s)).extract f k = str (((bs s).drop f).take (k - f)) := str_extract f k
            rwa [← e] at h2
          rw [h1]
          exact bs_str (fun c hc => bs_small s c (List.mem_of_mem_drop (List.mem_of_mem_take hc)))
        have hPs0 : (s.extract f k).size ≤ 100000 := by rw [ByteArray.size_extract]; have := HSZ.out; omega
        obtain ⟨PB, hPB⟩ : ∃ x, s.extract f k = x := ⟨_, rfl⟩
        rw [hPB] at hP0 hPs0
        have hP : bs PB = p := hP0
        have hPs : PB.size ≤ 100000 := hPs0
        clear hP0 hPs0
        have hPl : p.length = PB.size := by rw [← hP, bs_length]
        obtain ⟨q, hq⟩ : ∃ q, crV p = q := ⟨_, rfl⟩
        obtain ⟨L, hL⟩ : ∃ L, lnV p = L := ⟨_, rfl⟩
        have hqL : blB q = L := by rw [← hq, ← hL]; rfl
        have hqm : ∀ c ∈ q, c < 256 := fun c hc => by rw [← hq] at hc; have := crV_mem hc; rw [← hP] at this; exact bs_small PB c this
        have hqs : (str q).size ≤ 9223372036854775807 := by rw [str_size, ← hq]; have := crV_length p; omega
        have TC := Lib.hid (fun X => trim_c (str q) hqs X)
        rw [bs_str hqm, hqL] at TC
        have hLm : ∀ c ∈ L, c < 256 := fun c hc => by rw [← hqL] at hc; exact hqm c (blB_mem hc)
        have KS := Lib.hid (keepV_snoc ps p)
        rw [hL] at KS
        have HQ := Lib.hid hq; have HP := Lib.hid hP; have HLm := Lib.hid hLm
        clear hq hL hqL hqm hqs hP hLm
        obtain ⟨qs, hqs⟩ : ∃ qs, str q = qs := ⟨_, rfl⟩
        rw [hqs] at TC
        have HQS := Lib.hid hqs
        clear hqs
        by_cases z : PB.size = 0
        · have hqe : PB = qs := by
            have e : p = [] := List.eq_nil_of_length_eq_zero (by omega)
            have e2 : q = p := by rw [← HQ.out, e]; rfl
            rw [← HQS.out, e2, ← HP.out, str_bs]
          subst hqe
          go_wp2_with fail
          refine (TC.out _).mono ?_; rintro _ w1 ⟨rfl, rfl⟩
          clear TC HQ HQS HP hPl hPs
          have NEXT := Lib.hid (NXT.out)
          cases hkept : kept L with
          | true =>
            obtain ⟨hLn, h35, h59⟩ := of_decide_eq_true hkept
            rw [if_pos hkept] at KS
            obtain ⟨a, ha⟩ : ∃ a, byteAt L 0 = a := ⟨_, rfl⟩
            rw [ha] at h35 h59
            have hLp : 0 < L.length := List.length_pos_iff.2 hLn
            have hls : (str L).size = L.length := str_size L
            have hl0 : 0 < (str L).size := by omega
            have hb0 : ((str L)[0]'hl0).toNat = a := by rw [at_byte hl0, bs_str HLm.out]; exact ha
            have i35 : ¬ (a : Int) = 35 := by omega
            have i59 : ¬ (a : Int) = 59 := by omega
            have k35 : ((a : Int) != 35) = true := by rw [bne_iff_ne]; omega
            have k59 : ((a : Int) != 59) = true := by rw [bne_iff_ne]; omega
            have hnl : ((str L).toList == (ByteArray.mk #[]).toList) = false := toL_no hl0
            have hnl2 : (str L).toList.isEmpty = false := by
              cases h : (str L).toList.isEmpty with
              | false => rfl
              | true => rw [bs_nil_iff, bs_str HLm.out] at h; exact absurd h hLn
            have PUSH := Lib.hid (show ∀ (W' : World) (v' : Value), W'.ownsRow w.heap.size 9 1 v' (m + 1) (txC (keepV ps) ++ [.string (str L)]) → TxNew w.heap.size W' v' (keepV (ps ++ [p])) from fun W' v' h => by
              rw [KS.out]
              exact TxNew.push (by rw [HM.out]; exact h))
            have FORM := Lib.hid (fun (W' : World) (v' : Value) (h : W'.ownsRow w.heap.size 9 1 v' (m + 1) (txC (keepV ps) ++ [.string (str L)])) => own_form h)
            have GROW := Lib.hid (show ∀ (W' : World), (wr.alloc (.cells #[.string (str L)] 9)).grownBy W' (Value.ownBlock (.slice A m c)) → Below w.heap.size w W' from fun W' hg =>
              (HI.out.2.1.alloc HI.out.2.1.size _).grown hg (by have := HI.out.2.1.size; simp; omega) (fun j ej => by have := (own_lt ROW.out ej).1; exact this))
            generalize str L = SL at *
            clear hLn ha hLp hls hkept HLm KS h35 h59
            go_wp2_with (at_builtin; refine wpList_append_any _ rfl (.tmp 59) (.tmp 61) _ rfl w.heap.size 9 i0 (.string ⟨#[]⟩) 1 16 Tryz.underlying54 hi0 hz0 hz1 hz2 rfl (by decide) (.slice A m c) m (txC (keepV ps)) rfl (World.ownsRow.alloc ROW.out _) _ (some ⟨wr.heap.size, 0, none⟩) 1 1 [.string SL] rfl (Reads.of_own (World.ownsRow_lit (base := 0) (e := 9) (size := 1) wr #[.string SL] 1 (Nat.zero_le _) (by decide) rfl)) (by simp [Value.oneCell']) B63.out B48.out (by have := SZ.out; simp; omega) ?_; intro v13 w13 hown13 hg13 hat13; obtain ⟨A13, c13, hv13, _⟩ := FORM.out _ _ hown13; subst hv13; have hs13 := Lib.hid (PUSH.out _ _ hown13); have hb13 := Lib.hid (GROW.out _ hg13); clear hown13 hg13 hat13)
            go_roundw
            case rel => exact ⟨k + 1, k + 1, ps ++ [p], by omega, by omega, by go_num, by go_num, (fun _ => Nat.le_refl _), hs13.out, hb13.out, (NEXT.out.imp (fun h => ⟨rfl, h.2⟩) id)⟩
            case measure => simp only [intOf]; omega
          | false =>
            rw [hkept, if_neg (by decide)] at KS
            have ROWS := Lib.hid (show TxNew w.heap.size wr (.slice A m c) (keepV (ps ++ [p])) from by rw [KS.out]; exact HI.out.1)
            clear KS
            rcases kept_no hkept with hLn | ⟨a, ha, hLp, h35 | h59⟩
            · have hnl : ((str L).toList == (ByteArray.mk #[]).toList) = true := by rw [hLn, ByteArray.toList_eq, ByteArray.toList_eq]; rfl
              have hnl2 : (str L).toList.isEmpty = true := by rw [bs_nil_iff, bs_str HLm.out]; exact hLn
              generalize str L = SL at *
              clear hLn hkept HLm
              go_wp2
              go_roundw
              case rel => exact ⟨k + 1, k + 1, ps ++ [p], by omega, by omega, by go_num, by go_num, (fun _ => Nat.le_refl _), ROWS.out, HI.out.2.1, (NEXT.out.imp (fun h => ⟨rfl, h.2⟩) id)⟩
              case measure => simp only [intOf]; omega
            · subst h35
              have hls : (str L).size = L.length := str_size L
              have hl0 : 0 < (str L).size := by omega
              have hb0 : ((str L)[0]'hl0).toNat = 35 := by rw [at_byte hl0, bs_str HLm.out]; exact ha
              have hnl : ((str L).toList == (ByteArray.mk #[]).toList) = false := toL_no hl0
              have hnl2 : (str L).toList.isEmpty = false := by
                cases h : (str L).toList.isEmpty with
                | false => rfl
                | true => rw [bs_nil_iff, bs_str HLm.out] at h; rw [h] at hLp; simp at hLp
              generalize str L = SL at *
              clear ha hLp hls hkept HLm
              go_wp2
              go_roundw
              case rel => exact ⟨k + 1, k + 1, ps ++ [p], by omega, by omega, by go_num, by go_num, (fun _ => Nat.le_refl _), ROWS.out, HI.out.2.1, (NEXT.out.imp (fun h => ⟨rfl, h.2⟩) id)⟩
              case measure => simp only [intOf]; omega
            · subst h59
              have hls : (str L).size = L.length := str_size L
              have hl0 : 0 < (str L).size := by omega
              have hb0 : ((str L)[0]'hl0).toNat = 59 := by rw [at_byte hl0, bs_str HLm.out]; exact ha
              have hnl : ((str L).toList == (ByteArray.mk #[]).toList) = false := toL_no hl0
              have hnl2 : (str L).toList.isEmpty = false := by
                cases h : (str L).toList.isEmpty with
                | false => rfl
                | true => rw [bs_nil_iff, bs_str HLm.out] at h; rw [h] at hLp; simp at hLp
              generalize str L = SL at *
              clear ha hLp hls hkept HLm
              go_wp2
              go_roundw
              case rel => exact ⟨k + 1, k + 1, ps ++ [p], by omega, by omega, by go_num, by go_num, (fun _ => Nat.le_refl _), ROWS.out, HI.out.2.1, (NEXT.out.imp (fun h => ⟨rfl, h.2⟩) id)⟩
              case measure => simp only [intOf]; omega
        · have zp : 0 < PB.size := Nat.pos_of_ne_zero z
          have zl : PB.size - 1 < PB.size := by omega
          obtain ⟨d, hd⟩ : ∃ d, byteAt (bs PB) (PB.size - 1) = d := ⟨_, rfl⟩
          have db : (PB[PB.size - 1]'zl).toNat = d := (at_byte zl).trans hd
          have zpi : (0 : Int) < (PB.size : Int) := by omega
          have zq : (PB.size : Int) - 1 = ((PB.size - 1 : Nat) : Int) := by omega
          have hdl : lastB p = d := by rw [← HP.out]; unfold lastB; rw [bs_length]; exact hd
          have hpn : p ≠ [] := fun e => by rw [e] at hPl; simp at hPl; omega
          by_cases d13 : d = 13
          · have hst := str_init PB
            have hqe : str (bs PB).dropLast = qs := by
              rw [← HQS.out, ← HQ.out, HP.out]
              unfold crV
              rw [if_pos ⟨hpn, by rw [hdl]; exact d13⟩]
            rw [hqe] at hst
            subst d13
            generalize PB.size - 1 = r at *
            clear hqe hdl hd hpn
            go_wp2_with fail
            refine (TC.out _).mono ?_; rintro _ w1 ⟨rfl, rfl⟩
            clear TC HQ HQS HP hPl hPs
            have NEXT := Lib.hid (NXT.out)
            cases hkept : kept L with
            | true =>
              obtain ⟨hLn, h35, h59⟩ := of_decide_eq_true hkept
              rw [if_pos hkept] at KS
              obtain ⟨a, ha⟩ : ∃ a, byteAt L 0 = a := ⟨_, rfl⟩
              rw [ha] at h35 h59
              have hLp : 0 < L.length := List.length_pos_iff.2 hLn
              have hls : (str L).size = L.length := str_size L
              have hl0 : 0 < (str L).size := by omega
              have hb0 : ((str L)[0]'hl0).toNat = a := by rw [at_byte hl0, bs_str HLm.out]; exact ha
              have i35 : ¬ (a : Int) = 35 := by omega
              have i59 : ¬ (a : Int) = 59 := by omega
              have k35 : ((a : Int) != 35) = true := by rw [bne_iff_ne]; omega
              have k59 : ((a : Int) != 59) = true := by rw [bne_iff_ne]; omega
              have hnl : ((str L).toList == (ByteArray.mk #[]).toList) = false := toL_no hl0
              have hnl2 : (str L).toList.isEmpty = false := by
                cases h : (str L).toList.isEmpty with
                | false => rfl
                | true => rw [bs_nil_iff, bs_str HLm.out] at h; exact absurd h hLn
              have PUSH := Lib.hid (show ∀ (W' : World) (v' : Value), W'.ownsRow w.heap.size 9 1 v' (m + 1) (txC (keepV ps) ++ [.string (str L)]) → TxNew w.heap.size W' v' (keepV (ps ++ [p])) from fun W' v' h => by
                rw [KS.out]
                exact TxNew.push (by rw [HM.out]; exact h))
              have FORM := Lib.hid (fun (W' : World) (v' : Value) (h : W'.ownsRow w.heap.size 9 1 v' (m + 1) (txC (keepV ps) ++ [.string (str L)])) => own_form h)
              have GROW := Lib.hid (show ∀ (W' : World), (wr.alloc (.cells #[.string (str L)] 9)).grownBy W' (Value.ownBlock (.slice A m c)) → Below w.heap.size w W' from fun W' hg =>
                (HI.out.2.1.alloc HI.out.2.1.size _).grown hg (by have := HI.out.2.1.size; simp; omega) (fun j ej => by have := (own_lt ROW.out ej).1; exact this))
              generalize str L = SL at *
              clear hLn ha hLp hls hkept HLm KS h35 h59
              go_wp2_with (at_builtin; refine wpList_append_any _ rfl (.tmp 59) (.tmp 61) _ rfl w.heap.size 9 i0 (.string ⟨#[]⟩) 1 16 Tryz.underlying54 hi0 hz0 hz1 hz2 rfl (by decide) (.slice A m c) m (txC (keepV ps)) rfl (World.ownsRow.alloc ROW.out _) _ (some ⟨wr.heap.size, 0, none⟩) 1 1 [.string SL] rfl (Reads.of_own (World.ownsRow_lit (base := 0) (e := 9) (size := 1) wr #[.string SL] 1 (Nat.zero_le _) (by decide) rfl)) (by simp [Value.oneCell']) B63.out B48.out (by have := SZ.out; simp; omega) ?_; intro v13 w13 hown13 hg13 hat13; obtain ⟨A13, c13, hv13, _⟩ := FORM.out _ _ hown13; subst hv13; have hs13 := Lib.hid (PUSH.out _ _ hown13); have hb13 := Lib.hid (GROW.out _ hg13); clear hown13 hg13 hat13)
              go_roundw
              case rel => exact ⟨k + 1, k + 1, ps ++ [p], by omega, by omega, by go_num, by go_num, (fun _ => Nat.le_refl _), hs13.out, hb13.out, (NEXT.out.imp (fun h => ⟨rfl, h.2⟩) id)⟩
              case measure => simp only [intOf]; omega
            | false =>
              rw [hkept, if_neg (by decide)] at KS
              have ROWS := Lib.hid (show TxNew w.heap.size wr (.slice A m c) (keepV (ps ++ [p])) from by rw [KS.out]; exact HI.out.1)
              clear KS
              rcases kept_no hkept with hLn | ⟨a, ha, hLp, h35 | h59⟩
              · have hnl : ((str L).toList == (ByteArray.mk #[]).toList) = true := by rw [hLn, ByteArray.toList_eq, ByteArray.toList_eq]; rfl
                have hnl2 : (str L).toList.isEmpty = true := by rw [bs_nil_iff, bs_str HLm.out]; exact hLn
                generalize str L = SL at *
                clear hLn hkept HLm
                go_wp2
                go_roundw
                case rel => exact ⟨k + 1, k + 1, ps ++ [p], by omega, by omega, by go_num, by go_num, (fun _ => Nat.le_refl _), ROWS.out, HI.out.2.1, (NEXT.out.imp (fun h => ⟨rfl, h.2⟩) id)⟩
                case measure => simp only [intOf]; omega
              · subst h35
                have hls : (str L).size = L.length := str_size L
                have hl0 : 0 < (str L).size := by omega
                have hb0 : ((str L)[0]'hl0).toNat = 35 := by rw [at_byte hl0, bs_str HLm.out]; exact ha
                have hnl : ((str L).toList == (ByteArray.mk #[]).toList) = false := toL_no hl0
                have hnl2 : (str L).toList.isEmpty = false := by
                  cases h : (str L).toList.isEmpty with
                  | false => rfl
                  | true => rw [bs_nil_iff, bs_str HLm.out] at h; rw [h] at hLp; simp at hLp
                generalize str L = SL at *
                clear ha hLp hls hkept HLm
                go_wp2
                go_roundw
                case rel => exact ⟨k + 1, k + 1, ps ++ [p], by omega, by omega, by go_num, by go_num, (fun _ => Nat.le_refl _), ROWS.out, HI.out.2.1, (NEXT.out.imp (fun h => ⟨rfl, h.2⟩) id)⟩
                case measure => simp only [intOf]; omega
              · subst h59
                have hls : (str L).size = L.length := str_size L
                have hl0 : 0 < (str L).size := by omega
                have hb0 : ((str L)[0]'hl0).toNat = 59 := by rw [at_byte hl0, bs_str HLm.out]; exact ha
                have hnl : ((str L).toList == (ByteArray.mk #[]).toList) = false := toL_no hl0
                have hnl2 : (str L).toList.isEmpty = false := by
                  cases h : (str L).toList.isEmpty with
                  | false => rfl
                  | true => rw [bs_nil_iff, bs_str HLm.out] at h; rw [h] at hLp; simp at hLp
                generalize str L = SL at *
                clear ha hLp hls hkept HLm
                go_wp2
                go_roundw
                case rel => exact ⟨k + 1, k + 1, ps ++ [p], by omega, by omega, by go_num, by go_num, (fun _ => Nat.le_refl _), ROWS.out, HI.out.2.1, (NEXT.out.imp (fun h => ⟨rfl, h.2⟩) id)⟩
                case measure => simp only [intOf]; omega
          · have hqe : PB = qs := by
              rw [← HQS.out, ← HQ.out]
              unfold crV
              rw [if_neg (fun h => d13 (by rw [← hdl]; exact h.2)), ← HP.out, str_bs]
            have di : ((d : Int) == 13) = false := by rw [beq_eq_false_iff_ne]; omega
            subst hqe
            generalize PB.size - 1 = r at *
            clear hdl hd hpn d13
            go_wp2_with fail
            refine (TC.out _).mono ?_; rintro _ w1 ⟨rfl, rfl⟩
            clear TC HQ HQS HP hPl hPs
            have NEXT := Lib.hid (NXT.out)
            cases hkept : kept L with
            | true =>
              obtain ⟨hLn, h35, h59⟩ := of_decide_eq_true hkept
              rw [if_pos hkept] at KS
              obtain ⟨a, ha⟩ : ∃ a, byteAt L 0 = a := ⟨_, rfl⟩
              rw [ha] at h35 h59
              have hLp : 0 < L.length := List.length_pos_iff.2 hLn
              have hls : (str L).size = L.length := str_size L
              have hl0 : 0 < (str L).size := by omega
              have hb0 : ((str L)[0]'hl0).toNat = a := by rw [at_byte hl0, bs_str HLm.out]; exact ha
              have i35 : ¬ (a : Int) = 35 := by omega
              have i59 : ¬ (a : Int) = 59 := by omega
              have k35 : ((a : Int) != 35) = true := by rw [bne_iff_ne]; omega
              have k59 : ((a : Int) != 59) = true := by rw [bne_iff_ne]; omega
              have hnl : ((str L).toList == (ByteArray.mk #[]).toList) = false := toL_no hl0
              have hnl2 : (str L).toList.isEmpty = false := by
                cases h : (str L).toList.isEmpty with
                | false => rfl
                | true => rw [bs_nil_iff, bs_str HLm.out] at h; exact absurd h hLn
              have PUSH := Lib.hid (show ∀ (W' : World) (v' : Value), W'.ownsRow w.heap.size 9 1 v' (m + 1) (txC (keepV ps) ++ [.string (str L)]) → TxNew w.heap.size W' v' (keepV (ps ++ [p])) from fun W' v' h => by
                rw [KS.out]
                exact TxNew.push (by rw [HM.out]; exact h))
              have FORM := Lib.hid (fun (W' : World) (v' : Value) (h : W'.ownsRow w.heap.size 9 1 v' (m + 1) (txC (keepV ps) ++ [.string (str L)])) => own_form h)
              have GROW := Lib.hid (show ∀ (W' : World), (wr.alloc (.cells #[.string (str L)] 9)).grownBy W' (Value.ownBlock (.slice A m c)) → Below w.heap.size w W' from fun W' hg =>
                (HI.out.2.1.alloc HI.out.2.1.size _).grown hg (by have := HI.out.2.1.size; simp; omega) (fun j ej => by have := (own_lt ROW.out ej).1; exact this))
              generalize str L = SL at *
              clear hLn ha hLp hls hkept HLm KS h35 h59
              go_wp2_with (at_builtin; refine wpList_append_any _ rfl (.tmp 59) (.tmp 61) _ rfl w.heap.size 9 i0 (.string ⟨#[]⟩) 1 16 Tryz.underlying54 hi0 hz0 hz1 hz2 rfl (by decide) (.slice A m c) m (txC (keepV ps)) rfl (World.ownsRow.alloc ROW.out _) _ (some ⟨wr.heap.size, 0, none⟩) 1 1 [.string SL] rfl (Reads.of_own (World.ownsRow_lit (base := 0) (e := 9) (size := 1) wr #[.string SL] 1 (Nat.zero_le _) (by decide) rfl)) (by simp [Value.oneCell']) B63.out B48.out (by have := SZ.out; simp; omega) ?_; intro v13 w13 hown13 hg13 hat13; obtain ⟨A13, c13, hv13, _⟩ := FORM.out _ _ hown13; subst hv13; have hs13 := Lib.hid (PUSH.out _ _ hown13); have hb13 := Lib.hid (GROW.out _ hg13); clear hown13 hg13 hat13)
              go_roundw
              case rel => exact ⟨k + 1, k + 1, ps ++ [p], by omega, by omega, by go_num, by go_num, (fun _ => Nat.le_refl _), hs13.out, hb13.out, (NEXT.out.imp (fun h => ⟨rfl, h.2⟩) id)⟩
              case measure => simp only [intOf]; omega
            | false =>
              rw [hkept, if_neg (by decide)] at KS
              have ROWS := Lib.hid (show TxNew w.heap.size wr (.slice A m c) (keepV (ps ++ [p])) from by rw [KS.out]; exact HI.out.1)
              clear KS
              rcases kept_no hkept with hLn | ⟨a, ha, hLp, h35 | h59⟩
              · have hnl : ((str L).toList == (ByteArray.mk #[]).toList) = true := by rw [hLn, ByteArray.toList_eq, ByteArray.toList_eq]; rfl
                have hnl2 : (str L).toList.isEmpty = true := by rw [bs_nil_iff, bs_str HLm.out]; exact hLn
                generalize str L = SL at *
                clear hLn hkept HLm
                go_wp2
                go_roundw
                case rel => exact ⟨k + 1, k + 1, ps ++ [p], by omega, by omega, by go_num, by go_num, (fun _ => Nat.le_refl _), ROWS.out, HI.out.2.1, (NEXT.out.imp (fun h => ⟨rfl, h.2⟩) id)⟩
                case measure => simp only [intOf]; omega
              · subst h35
                have hls : (str L).size = L.length := str_size L
                have hl0 : 0 < (str L).size := by omega
                have hb0 : ((str L)[0]'hl0).toNat = 35 := by rw [at_byte hl0, bs_str HLm.out]; exact ha
                have hnl : ((str L).toList == (ByteArray.mk #[]).toList) = false := toL_no hl0
                have hnl2 : (str L).toList.isEmpty = false := by
                  cases h : (str L).toList.isEmpty with
                  | false => rfl
                  | true => rw [bs_nil_iff, bs_str HLm.out] at h; rw [h] at hLp; simp at hLp
                generalize str L = SL at *
                clear ha hLp hls hkept HLm
                go_wp2
                go_roundw
                case rel => exact ⟨k + 1, k + 1, ps ++ [p], by omega, by omega, by go_num, by go_num, (fun _ => Nat.le_refl _), ROWS.out, HI.out.2.1, (NEXT.out.imp (fun h => ⟨rfl, h.2⟩) id)⟩
                case measure => simp only [intOf]; omega
              · subst h59
                have hls : (str L).size = L.length := str_size L
                have hl0 : 0 < (str L).size := by omega
                have hb0 : ((str L)[0]'hl0).toNat = 59 := by rw [at_byte hl0, bs_str HLm.out]; exact ha
                have hnl : ((str L).toList == (ByteArray.mk #[]).toList) = false := toL_no hl0
                have hnl2 : (str L).toList.isEmpty = false := by
                  cases h : (str L).toList.isEmpty with
                  | false => rfl
                  | true => rw [bs_nil_iff, bs_str HLm.out] at h; rw [h] at hLp; simp at hLp
                generalize str L = SL at *
                clear ha hLp hls hkept HLm
                go_wp2
                go_roundw
                case rel => exact ⟨k + 1, k + 1, ps ++ [p], by omega, by omega, by go_num, by go_num, (fun _ => Nat.le_refl _), ROWS.out, HI.out.2.1, (NEXT.out.imp (fun h => ⟨rfl, h.2⟩) id)⟩
                case measure => simp only [intOf]; omega
    · obtain rfl : k = n + 1 := by omega
      have HE := Lib.hid (show TxNew w.heap.size wr (.slice A m c) (linesV (bs s)) ∧ Below w.heap.size w wr from by
        refine ⟨?_, HI.out.2.1⟩
        rcases HI.out.2.2 with ⟨_, e⟩ | ⟨h, _⟩
        · unfold linesV; rw [e]; exact HI.out.1
        · omega)
      have hnk : ¬ ((n : Int) + 1 ≤ (s.size : Int)) := by rw [HN.out]; omega
      clear HI HM ROW
      go_wp2
      go_ret
      exact ⟨_, rfl, HE.out⟩
end Go.Proofs.YtodlgbihdehmbaaGreatDoor.Cf.KR
