/-
  Contracts of the program's functions that layer 16 calls: Plain, Name, Check of layer 15; parts, Split, Nodes.
-/
import Derived.Test.YtkgmglncdiccfaaDoorTrlLib
set_option linter.unusedSimpArgs false
set_option linter.unusedVariables false
namespace Go.Proofs.YtkgmglncdiccfaaDoor.TP
open Go.RowKit GR
set_option maxRecDepth 100000 in
set_option maxHeartbeats 2000000 in
theorem gplain_c (s : ByteArray) (hs : s.size ≤ 9223372036854775807) (w : World) : Calls Tryd.prog 24 #[.string s] w fun e w' => e = .returned (.bool (gPlain (bs s))) ∧ w' = w := by
  obtain ⟨d, hd⟩ : ∃ d, gPlain (bs s) = d := ⟨_, rfl⟩
  rw [hd]
  have HD := Lib.hid hd
  have BY := Lib.hid (fun (c : Nat) (hc : c < 256) (W : World) => GP.byte_c c hc W)
  clear hd
  go_enter Tryd.func24, Tryd.ntmps24
  go_wp2
  go_loopw [3, 6] (fun _ kv wr => ∃ k : Nat, kv = .int .i64 (k : Nat) ∧ k ≤ s.size ∧ wr = w ∧ Hid (∀ j, j < k → isB ((bs s).getD j 0) = true)) (fun _ kv _ => s.size - (intOf kv).toNat)
  case atStart => exact ⟨0, rfl, Nat.zero_le _, rfl, fun j hj => absurd hj (Nat.not_lt_zero j)⟩
  case round =>
    obtain ⟨k, rfl, hk, rfl, HN⟩ := hrel
    by_cases hlt : k < s.size
    · obtain ⟨c, hcb, x0, hc⟩ := bs_get hlt
      have hki : (k : Int) < (s.size : Int) := by omega
      have BC := Lib.hid (BY.out c hc wr)
      cases hp : isB c with
      | true =>
        rw [hp] at BC
        have HP := Lib.hid (show ∀ j, j < k + 1 → isB ((bs s).getD j 0) = true from fun j hj => by
          by_cases e : j = k
          · rw [e, hcb]; exact hp
          · exact HN.out j (by omega))
        clear hcb hp
        go_wp2_with fail
        refine BC.out.mono ?_; rintro _ w2 ⟨rfl, hw2⟩; obtain rfl := hw2.symm
        go_wp2
        go_roundw
        case rel => exact ⟨k + 1, by go_num, by omega, by trivial, HP.out⟩
        case measure => simp [intOf]; omega
      | false =>
        rw [hp] at BC
        have HDF := Lib.hid (show false = d from by
          rw [← HD.out]
          symm
          unfold gPlain
          have : (bs s).all isB = false := by
            rw [Bool.eq_false_iff]
            intro h
            rw [List.all_eq_true] at h
            have h2 := h c (by rw [← hcb, List.getD_eq_getElem?_getD, List.getElem?_eq_getElem (by rw [bs_length]; exact hlt)]; exact List.getElem_mem _)
            rw [hp] at h2
            cases h2
          rw [this, Bool.and_false])
        clear hcb hp
        go_wp2_with fail
        refine BC.out.mono ?_; rintro _ w2 ⟨rfl, hw2⟩; obtain rfl := hw2.symm
        go_wp2
        go_ret
        exact ⟨congrArg (fun z => Ending.returned (.bool z)) HDF.out, rfl⟩
    · obtain rfl : k = s.size := by omega
      have hall : (bs s).all isB = true := by
        rw [List.all_eq_true]
        intro x hx
        obtain ⟨j, hj⟩ := List.getElem?_of_mem hx
        have h2 := HN.out j (by have := (List.getElem?_eq_some_iff.1 hj).1; rw [bs_length] at this; exact this)
        rw [List.getD_eq_getElem?_getD, hj] at h2
        exact h2
      by_cases hz : s.size = 0
      · obtain rfl := is_empty hz
        have HDT := Lib.hid (show false = d from HD.out)
        clear hall
        go_wp2
        go_ret
        exact ⟨congrArg (fun z => Ending.returned (.bool z)) HDT.out, rfl⟩
      · have hne : s.toList.isEmpty = false := by
          rw [ByteArray.toList_eq]
          obtain ⟨⟨l⟩⟩ := s
          have h2 : ¬ l.length = 0 := hz
          cases l with
          | nil => simp at h2
          | cons x l => rfl
        have HDT := Lib.hid (show true = d from by
          rw [← HD.out]
          unfold gPlain
          rw [hall, decide_eq_true (show bs s ≠ [] from fun e => hz (by rw [← bs_length, e]; rfl))]
          rfl)
        clear hall
        go_wp2
        go_ret
        exact ⟨congrArg (fun z => Ending.returned (.bool z)) HDT.out, rfl⟩
set_option maxRecDepth 100000 in
set_option maxHeartbeats 1000000 in
theorem name_c (s : ByteArray) (hs : s.size ≤ 9223372036854775807) (w : World) : Calls Tryd.prog 17 #[.string s] w fun e w' => e = .returned (.bool (tName (bs s))) ∧ w' = w := by
  have PC := gplain_c s hs w
  obtain ⟨d, hd⟩ : ∃ d, gPlain (bs s) = d := ⟨_, rfl⟩
  rw [hd] at PC
  unfold tName
  rw [hd, bs_length]
  clear hd
  have HPC := Lib.hid PC
  clear PC
  by_cases h : s.size ≤ 32
  · have hi : (s.size : Int) ≤ 32 := by omega
    rw [decide_eq_true h, Bool.and_true]
    go_enter Tryd.func17, Tryd.ntmps17
    go_wp2_with fail
    refine HPC.out.mono ?_; rintro _ w2 ⟨rfl, hw2⟩; obtain rfl := hw2.symm
    go_wp2
    go_ret
    exact ⟨rfl, rfl⟩
  · have hi : ¬ (s.size : Int) ≤ 32 := by omega
    rw [decide_eq_false h, Bool.and_false]
    go_enter Tryd.func17, Tryd.ntmps17
    go_wp2
    go_ret
    exact ⟨rfl, rfl⟩
set_option maxRecDepth 100000 in
set_option maxHeartbeats 1000000 in
theorem gcheck_c (s : ByteArray) (hs : s.size ≤ 9223372036854775807) (w : World) : Calls Tryd.prog 16 #[.string s] w fun e w' => e = .returned (.int .i64 (gErr (bs s))) ∧ Below w.heap.size w w' := by
  have RC := Lib.hid (GP.read_c s hs w)
  go_enter Tryd.func16, Tryd.ntmps16
  go_wp2_with fail
  refine RC.out.mono ?_; rintro _ w2 ⟨v, rfl, _, hb2⟩
  have HB := Lib.hid hb2
  clear hb2 RC
  go_wp2
  go_ret
  exact ⟨rfl, HB.out⟩
set_option maxRecDepth 100000 in
set_option maxHeartbeats 1000000 in
theorem parts_c (s : ByteArray) (hs : s.size ≤ 100000) (w : World) (hm : Ml w) : Calls Tryd.prog 15 #[.string s] w fun e w' => ∃ v, e = .returned v ∧ TxNew w.heap.size w' v (tCut (bs s) 8) ∧ Below w.heap.size w w' := by
  have SC := Lib.hid (splitN_c s hs w hm)
  go_enter Tryd.func15, Tryd.ntmps15
  go_wp2_with fail
  refine SC.out.mono ?_; rintro _ w2 ⟨v, rfl, ht, hb2⟩
  have HT := Lib.hid ht; have HB := Lib.hid hb2
  clear ht hb2 SC
  go_wp2
  go_ret
  exact ⟨_, rfl, HT.out, HB.out⟩
/-- A piece as it stands in a row. -/
theorem piece_is {s : ByteArray} {L : List (List Nat)} (hL : tCut (bs s) 8 = L) {k : Nat} (hk : k < L.length) : ∃ S : ByteArray, str (L.getD k []) = S ∧ bs S = L.getD k [] ∧ S.size ≤ s.size ∧ L[k]? = some (bs S) := by
  have hx : L[k]? = some (L.getD k []) := by rw [List.getD_eq_getElem?_getD, List.getElem?_eq_getElem hk]; rfl
  obtain ⟨a, b⟩ := tCut_mem (bs s) 8 (L.getD k []) (by rw [hL]; exact List.mem_of_getElem? hx)
  have e : bs (str (L.getD k [])) = L.getD k [] := bs_str fun c hc => bs_mem s c (b c hc)
  exact ⟨_, rfl, e, by rw [str_size]; rw [bs_length] at a; exact a, by rw [e]; exact hx⟩
set_option maxRecDepth 100000 in
set_option maxHeartbeats 4000000 in
theorem split_c (s : ByteArray) (hs : s.size ≤ 100000) (w : World) (hm : Ml w) : Calls Tryd.prog 8 #[.string s] w fun e w' =>
    ∃ v, e = .returned (.tuple #[v, .int .i64 (tPErr (bs s))]) ∧ (tPErr (bs s) = 0 → TxNew w.heap.size w' v (tCut (bs s) 8)) ∧ (tPErr (bs s) ≠ 0 → v = .slice none 0 0) ∧ Below w.heap.size w w' := by
  have PC := parts_c s hs w hm
  obtain ⟨L, hL⟩ : ∃ L, tCut (bs s) 8 = L := ⟨_, rfl⟩
  have hne : L ≠ [] := by rw [← hL]; exact tCut_ne _ _
  have hn9 : L.length ≤ 9 := by rw [← hL]; exact tCut_length _ _
  rw [hL] at PC ⊢
  have HPC := Lib.hid PC; have HL := Lib.hid hL
  clear PC hL
  have NM := Lib.hid (fun (S : ByteArray) (h : S.size ≤ 100000) (W : World) => name_c S (by omega) W)
  obtain ⟨E, hE⟩ : ∃ E, tPErr (bs s) = E := ⟨_, rfl⟩
  rw [hE]
  have HE := Lib.hid hE
  clear hE hm
  go_enter Tryd.func8, Tryd.ntmps8
  go_wp2_with fail
  refine HPC.out.mono ?_; rintro _ w2 ⟨v, rfl, ht, hb2⟩
  obtain ⟨A, c, rfl, hc, hx⟩ := ht.form
  have hpos : 0 < L.length := List.length_pos_iff.2 hne
  obtain ⟨g, rfl, hg1, hg2, hta⟩ := hx hpos
  obtain ⟨n, hn⟩ : ∃ n, L.length = n := ⟨_, rfl⟩
  rw [hn] at hc hpos hn9 ht ⊢
  have HT := Lib.hid ht; have HB := Lib.hid hb2; have HTA := Lib.hid hta; have HN := Lib.hid hn
  clear ht hb2 hx hta hn HPC hne
  by_cases h8 : 8 < n
  · as_aux_lemma =>
      have h8i : (8 : Int) < (n : Int) := by omega
      have hr : tRight (bs s) = false := by
        unfold tRight
        rw [HL.out, HN.out, decide_eq_false (by omega)]
        rfl
      have HE13 := Lib.hid (show (13 : Int) = E by rw [← HE.out]; unfold tPErr; rw [hr]; rfl)
      have HR := Lib.hid hr
      clear hr
      go_wp2
      go_ret2
      exact ⟨_, congrArg (fun z => Ending.returned (.tuple #[.slice none 0 0, .int .i64 z])) HE13.out, fun h => absurd (HE13.out.trans h) (by decide), fun _ => rfl, HB.out⟩
  · have h8i : ¬ (8 : Int) < (n : Int) := by omega
    go_wp2_with fail
    go_loopw [6, 14] (fun _ v14 wr => ∃ k : Nat, v14 = .int .i64 (k : Nat) ∧ k ≤ n ∧ Hid (∀ j, j < k → tName (L.getD j []) = true) ∧ Hid (Below w2.heap.size w2 wr)) (fun _ v14 _ => n - (intOf v14).toNat)
    case atStart => exact ⟨0, rfl, Nat.zero_le _, fun j hj => absurd hj (Nat.not_lt_zero j), Below.refl _ _⟩
    case round =>
      obtain ⟨k, rfl, hk, HA, HI⟩ := hrel
      by_cases hlt : k < n
      · have hki : (k : Int) < (n : Int) := by omega
        obtain ⟨S, hS, hbs, hSz, hLk⟩ := piece_is HL.out (k := k) (by rw [HN.out]; exact hlt)
        have z0 := cellb HI.out (HTA.out k _ hLk)
        rw [str_bs] at z0
        have NC := NM.out S (by omega) wr
        rw [hbs] at NC
        have HNC := Lib.hid NC
        clear NC hLk hS hbs
        cases hb : tName (L.getD k []) with
        | true =>
          as_aux_lemma =>
            rw [hb] at HNC
            have HA2 := Lib.hid (show ∀ j, j < k + 1 → tName (L.getD j []) = true from fun j hj => by
              by_cases e : j = k
              · rw [e]; exact hb
              · exact HA.out j (by omega))
            clear hb
            go_wp2_with fail
            refine HNC.out.mono ?_; rintro _ w3 ⟨rfl, hw3⟩; obtain rfl := hw3.symm
            go_wp2
            go_roundw
            case rel => exact ⟨k + 1, by go_num, by omega, HA2.out, HI.out⟩
            case measure => simp [intOf]; omega
        | false =>
          as_aux_lemma =>
            rw [hb] at HNC
            have hr : tRight (bs s) = false := by
              rw [Bool.eq_false_iff]
              intro h
              have h2 := (tRight_names h).2 (L.getD k []) (by
                rw [HL.out, List.getD_eq_getElem?_getD, List.getElem?_eq_getElem (by rw [HN.out]; exact hlt)]
                exact List.getElem_mem _)
              rw [hb] at h2
              cases h2
            have HE13 := Lib.hid (show (13 : Int) = E by rw [← HE.out]; unfold tPErr; rw [hr]; rfl)
            have HR := Lib.hid hr
            clear hb hr
            go_wp2_with fail
            refine HNC.out.mono ?_; rintro _ w3 ⟨rfl, hw3⟩; obtain rfl := hw3.symm
            go_wp2
            go_ret2
            exact ⟨_, congrArg (fun z => Ending.returned (.tuple #[.slice none 0 0, .int .i64 z])) HE13.out, fun h => absurd (HE13.out.trans h) (by decide), fun _ => rfl, bnext HB.out HI.out⟩
      · as_aux_lemma =>
          obtain rfl : k = n := by omega
          have hr : tRight (bs s) = true := by
            unfold tRight
            rw [HL.out, HN.out, decide_eq_true (by omega), Bool.true_and, List.all_eq_true]
            intro x hx
            obtain ⟨j, hj⟩ := List.getElem?_of_mem hx
            have hjl := (List.getElem?_eq_some_iff.1 hj).1
            rw [HN.out] at hjl
            have := HA.out j hjl
            rw [List.getD_eq_getElem?_getD, hj] at this
            exact this
          have HE0 := Lib.hid (show (0 : Int) = E by rw [← HE.out]; unfold tPErr; rw [hr]; rfl)
          have HR := Lib.hid hr
          clear hr
          go_wp2
          go_ret2
          exact ⟨_, congrArg (fun z => Ending.returned (.tuple #[.slice (some ⟨g, 0, none⟩) k c, .int .i64 z])) HE0.out, fun _ => HT.out.below HI.out, fun h => absurd HE0.out.symm h, bnext HB.out HI.out⟩
set_option maxRecDepth 100000 in
set_option maxHeartbeats 4000000 in
theorem nodes_c (s : ByteArray) (hs : s.size ≤ 100000) (w : World) (hm : Ml w) : Calls Tryd.prog 7 #[.string s] w fun e w' =>
    ∃ v, e = .returned (.tuple #[v, .int .i64 (tErr (bs s))]) ∧ (tErr (bs s) = 0 → TxNew w.heap.size w' v (tCut (bs s) 8)) ∧ (tErr (bs s) ≠ 0 → v = .slice none 0 0) ∧ Below w.heap.size w w' := by
  have PC := parts_c s hs w hm
  obtain ⟨L, hL⟩ : ∃ L, tCut (bs s) 8 = L := ⟨_, rfl⟩
  have hne : L ≠ [] := by rw [← hL]; exact tCut_ne _ _
  have hn9 : L.length ≤ 9 := by rw [← hL]; exact tCut_length _ _
  rw [hL] at PC ⊢
  have HPC := Lib.hid PC; have HL := Lib.hid hL
  clear PC hL
  have NM := Lib.hid (fun (S : ByteArray) (h : S.size ≤ 100000) (W : World) => gcheck_c S (by omega) W)
  obtain ⟨E, hE⟩ : ∃ E, tErr (bs s) = E := ⟨_, rfl⟩
  rw [hE]
  have HE := Lib.hid hE
  clear hE hm
  go_enter Tryd.func7, Tryd.ntmps7
  go_wp2_with fail
  refine HPC.out.mono ?_; rintro _ w2 ⟨v, rfl, ht, hb2⟩
  obtain ⟨A, c, rfl, hc, hx⟩ := ht.form
  have hpos : 0 < L.length := List.length_pos_iff.2 hne
  obtain ⟨g, rfl, hg1, hg2, hta⟩ := hx hpos
  obtain ⟨n, hn⟩ : ∃ n, L.length = n := ⟨_, rfl⟩
  rw [hn] at hc hpos hn9 ht ⊢
  have HT := Lib.hid ht; have HB := Lib.hid hb2; have HTA := Lib.hid hta; have HN := Lib.hid hn
  clear ht hb2 hx hta hn HPC hne
  by_cases h8 : 8 < n
  · as_aux_lemma =>
      have h8i : (8 : Int) < (n : Int) := by omega
      have HE11 := Lib.hid (show (11 : Int) = E by rw [← HE.out]; unfold tErr; rw [HL.out, HN.out, if_pos h8])
      go_wp2
      go_ret2
      exact ⟨_, congrArg (fun z => Ending.returned (.tuple #[.slice none 0 0, .int .i64 z])) HE11.out, fun h => absurd (HE11.out.trans h) (by decide), fun _ => rfl, HB.out⟩
  · have h8i : ¬ (8 : Int) < (n : Int) := by omega
    have HE2 := Lib.hid (show tFirst L = E by rw [← HE.out]; unfold tErr; rw [HL.out, HN.out, if_neg h8])
    go_wp2_with fail
    go_loopw [6, 7, 15] (fun _ _ v15 wr => ∃ k : Nat, v15 = .int .i64 (k : Nat) ∧ k ≤ n ∧ Hid (tFirst (L.drop k) = E) ∧ Hid (Below w2.heap.size w2 wr)) (fun _ _ v15 _ => n - (intOf v15).toNat)
    case atStart => exact ⟨0, rfl, Nat.zero_le _, HE2.out, Below.refl _ _⟩
    case round =>
      obtain ⟨k, rfl, hk, HA, HI⟩ := hrel
      by_cases hlt : k < n
      · have hki : (k : Int) < (n : Int) := by omega
        obtain ⟨S, hS, hbs, hSz, hLk⟩ := piece_is HL.out (k := k) (by rw [HN.out]; exact hlt)
        have z0 := cellb HI.out (HTA.out k _ hLk)
        rw [str_bs] at z0
        have hst : tFirst (L.drop k) = if gErr (bs S) = 0 then tFirst (L.drop (k + 1)) else gErr (bs S) := by
          obtain ⟨hkl, hk2⟩ := List.getElem?_eq_some_iff.1 hLk
          rw [List.drop_eq_getElem_cons hkl, hk2]
          rfl
        have NC := NM.out S (by omega) wr
        obtain ⟨q, hq⟩ : ∃ q, gErr (bs S) = q := ⟨_, rfl⟩
        rw [hq] at NC hst
        have HNC := Lib.hid NC; have HST := Lib.hid hst
        clear NC hLk hS hbs hq hst
        by_cases h0 : q = 0
        · subst h0
          as_aux_lemma =>
            have HA2 := Lib.hid (show tFirst (L.drop (k + 1)) = E by rw [← HA.out, HST.out, if_pos rfl])
            go_wp2_with fail
            refine HNC.out.mono ?_; rintro _ w3 ⟨rfl, hb3⟩
            have HI3 := Lib.hid (bnext HI.out hb3)
            clear hb3
            go_wp2
            go_roundw
            case rel => exact ⟨k + 1, by go_num, by omega, HA2.out, HI3.out⟩
            case measure => simp [intOf]; omega
        · as_aux_lemma =>
            have hb : (q != 0) = true := bne_iff_ne.2 h0
            have HEQ := Lib.hid (show q = E by rw [← HA.out, HST.out, if_neg h0])
            go_wp2_with fail
            refine HNC.out.mono ?_; rintro _ w3 ⟨rfl, hb3⟩
            have HI3 := Lib.hid (bnext HI.out hb3)
            clear hb3
            go_wp2
            go_ret2
            exact ⟨_, congrArg (fun z => Ending.returned (.tuple #[.slice none 0 0, .int .i64 z])) HEQ.out, fun h => absurd (HEQ.out.trans h) h0, fun _ => rfl, bnext HB.out HI3.out⟩
      · as_aux_lemma =>
          obtain rfl : k = n := by omega
          have HE0 := Lib.hid (show (0 : Int) = E by
            rw [← HA.out, List.drop_of_length_le (by rw [HN.out]; exact Nat.le_refl _)]
            rfl)
          go_wp2
          go_ret2
          exact ⟨_, congrArg (fun z => Ending.returned (.tuple #[.slice (some ⟨g, 0, none⟩) k c, .int .i64 z])) HE0.out, fun _ => HT.out.below HI.out, fun h => absurd HE0.out.symm h, bnext HB.out HI.out⟩
end Go.Proofs.YtkgmglncdiccfaaDoor.TP
