/-
  Texts of the trie's proofs, merged: TriRD, TriWC.
-/
import Derived.Test.YtbfbjalnahngjaaGreatDoorTriQ14
import Derived.Test.YtbfbjalnahngjaaGreatDoorTriQ19
import Derived.Test.YtbfbjalnahngjaaGreatDoorTriQ9
import Derived.Test.YtbfbjalnahngjaaGreatDoorTriQ10
import Derived.Deep.RegionHeldLaw
import Derived.Test.YtbfbjalnahngjaaGreatDoorTriQ17
import Derived.Laws.Cover1
set_option linter.unusedSimpArgs false
set_option linter.unusedVariables false
namespace Go.Proofs.YtbfbjalnahngjaaGreatDoor
open Go.RowKit GR
/-- A piece of a text, in words of a string. -/
theorem piece_of {L : List (List Nat)} {s : ByteArray} (hb : ∀ q ∈ L, (∀ c ∈ q, c < 256) ∧ q.length ≤ s.size) {k : Nat} (h : k < L.length) : ∃ X : ByteArray, bs X = L.getD k [] ∧ X.size ≤ s.size ∧ L[k]? = some (bs X) ∧ str (bs X) = X := by
  have hp := List.getElem?_eq_getElem h
  obtain ⟨h1, h2⟩ := hb _ (List.mem_of_getElem? hp)
  refine ⟨str L[k], ?_, by rw [str_size]; exact h2, by rw [bs_str h1]; exact hp, by rw [bs_str h1]⟩
  rw [bs_str h1, List.getD_eq_getElem?_getD, hp]
  rfl
theorem cut_pieces (s : ByteArray) (k : Nat) : ∀ q ∈ tCut (bs s) k, (∀ c ∈ q, c < 256) ∧ q.length ≤ s.size := fun q hq => by
  obtain ⟨a, b⟩ := tCut_mem (bs s) k q hq
  rw [bs_length] at a
  exact ⟨fun c hc => bs_mem s c (b c hc), a⟩
namespace TR
theorem enters_rmatch : Enters Tryz.prog 39 := enters_of Tryz.func39 (by kernel_rfl) rfl
set_option maxRecDepth 100000 in
set_option maxHeartbeats 4000000 in
theorem pmatch_c (p s : ByteArray) (hp : p.size ≤ 100000) (hs : s.size ≤ 100000) (w : World) :
    Calls Tryz.prog 20 #[.string p, .string s] w fun e w' => e = .returned (.tuple #[.bool (tMatch (bs p) (bs s)), .int .i64 (tMErr (bs p) (bs s))]) ∧ Below w.heap.size w w' := by
  have NC := rnodes_c p hp w
  have SC := Lib.hid (fun (W : World) => rsplit_c s hs W)
  have HPB := Lib.hid (cut_pieces p 8); have HSB := Lib.hid (cut_pieces s 8)
  have RM := Lib.hid (fun (X Y : ByteArray) (hX : X.size ≤ 100000) (hY : Y.size ≤ 900) (h0 : gErr (bs X) = 0) (W : World) => rmatch_c X Y (by omega) hY h0 W)
  obtain ⟨E, hE⟩ : ∃ E, tErr (bs p) = E := ⟨_, rfl⟩
  rw [hE] at NC
  have HNC := Lib.hid NC
  clear NC
  by_cases h0 : E = 0
  · subst h0
    by_cases hr : tRight (bs s) = true
    · have e1 : tMErr (bs p) (bs s) = 0 := by unfold tMErr; rw [if_pos hE, tPErr_r hr]
      have e2 : tMatch (bs p) (bs s) = tFit (tCut (bs p) 8) (tCut (bs s) 8) := by unfold tMatch; rw [decide_eq_true hE, hr]; rfl
      rw [e1, e2]
      rw [tPErr_r hr] at SC
      have HG := Lib.hid (tErr_zero hE).2
      have HQ := Lib.hid (fun q hq => (tName_bytes ((tRight_names hr).2 q hq)).2.2)
      have hp9 : (tCut (bs p) 8).length ≤ 8 := (tErr_zero hE).1
      have hq9 : (tCut (bs s) 8).length ≤ 8 := (tRight_names hr).1
      obtain ⟨ps, hps⟩ : ∃ ps, tCut (bs p) 8 = ps := ⟨_, rfl⟩
      obtain ⟨qs, hqs⟩ : ∃ qs, tCut (bs s) 8 = qs := ⟨_, rfl⟩
      rw [hps] at HNC HPB HG hp9 ⊢
      rw [hqs] at SC HSB HQ hq9 ⊢
      obtain ⟨d, hd⟩ : ∃ d, tFit ps qs = d := ⟨_, rfl⟩
      have HD := Lib.hid hd
      rw [hd]
      clear e1 e2 hE hr hd hps hqs
      go_enter Tryz.func20, Tryz.ntmps20
      go_wp2_with fail
      refine HNC.out.mono ?_; rintro _ w2 ⟨v, rfl, hv, _, hb2⟩
      have hv := hv (by first | rfl | trivial)
      have HB2 := Lib.hid hb2
      have S2 := Lib.hid (SC.out w2)
      have HV := Lib.hid (TxOut.of hv)
      obtain ⟨A1, c1, rfl, hc1, -⟩ := hv.form
      clear hv hb2
      go_wp2_with fail
      refine S2.out.mono ?_; rintro _ w3 ⟨v3, rfl, hv3, _, hb3⟩
      have hv3 := hv3 (by first | rfl | trivial)
      have HB3 := Lib.hid (bnext HB2.out hb3)
      have HV1 := Lib.hid (HV.out.below hb3)
      have HV2 := Lib.hid (TxOut.of hv3)
      obtain ⟨A2, c2, rfl, hc2, -⟩ := hv3.form
      clear hv3 hb3
      obtain ⟨n, hn⟩ : ∃ n, ps.length = n := ⟨_, rfl⟩
      obtain ⟨m, hm⟩ : ∃ m, qs.length = m := ⟨_, rfl⟩
      have HN := Lib.hid hn; have HM := Lib.hid hm
      have HX1 := Lib.hid (show 0 < n → ∃ g, A1 = some ⟨g, 0, none⟩ ∧ TxAt w3 g ps from fun h => by
        obtain ⟨A, c, e, _, hx⟩ := HV1.out
        injection e with e1 _ _
        subst e1
        exact hx (by intro e; rw [e] at hn; simp at hn; omega))
      have HX2 := Lib.hid (show 0 < m → ∃ g, A2 = some ⟨g, 0, none⟩ ∧ TxAt w3 g qs from fun h => by
        obtain ⟨A, c, e, _, hx⟩ := HV2.out
        injection e with e1 _ _
        subst e1
        exact hx (by intro e; rw [e] at hm; simp at hm; omega))
      rw [hn] at hc1 hp9 ⊢
      rw [hm] at hc2 hq9 ⊢
      clear hn hm
      by_cases hnm : n = m
      · subst hnm
        have HDF := Lib.hid (show tTo ps qs n = d by
          rw [← HD.out]
          unfold tFit
          rw [HN.out, HM.out, decide_eq_true rfl, Bool.true_and])
        go_wp2_with fail
        go_loopw [9, 10, 11] (fun v9 _ _ wr => ∃ k : Nat, v9 = .int .i64 (k : Nat) ∧ k ≤ n ∧ Hid (tTo ps qs k = true) ∧ Hid (Below w3.heap.size w3 wr)) (fun v9 _ _ _ => n - (intOf v9).toNat)
        case atStart => exact ⟨0, rfl, Nat.zero_le _, rfl, Below.refl _ _⟩
        case round =>
          obtain ⟨k, rfl, hk, HT, HB⟩ := hrel
          by_cases hlt : k < n
          · have hki : (k : Int) < (n : Int) := by omega
            obtain ⟨g1, rfl, a1⟩ := HX1.out (by omega)
            obtain ⟨g2, rfl, a2⟩ := HX2.out (by omega)
            obtain ⟨X, hbx, hXz, hLX, hsX⟩ := piece_of HPB.out (k := k) (by rw [HN.out]; exact hlt)
            obtain ⟨Y, hby, hYz, hLY, hsY⟩ := piece_of HSB.out (k := k) (by rw [HM.out]; exact hlt)
            have y1 := cellb HB.out (a1 k _ hLX)
            have y2 := cellb HB.out (a2 k _ hLY)
            rw [hsX] at y1
            rw [hsY] at y2
            have hy32 : Y.size ≤ 32 := by
              rw [← bs_length]
              exact HQ.out _ (List.mem_of_getElem? hLY)
            have M1 := fun (W : World) => RM.out X Y (by omega) (by omega) (HG.out _ (List.mem_of_getElem? hLX)) W
            have hsu := tTo_succ ps qs k
            rw [← hbx, ← hby] at hsu
            have hno : gMatch (bs X) (bs Y) = false → tTo ps qs n = false := fun h => tTo_no (k := k) (by rw [← hbx, ← hby]; exact h) hlt
            obtain ⟨b, hb⟩ : ∃ b, gMatch (bs X) (bs Y) = b := ⟨_, rfl⟩
            rw [hb] at M1
            rw [hb] at hsu hno
            have HM1 := Lib.hid M1; have HSU := Lib.hid hsu; have HNO := Lib.hid hno
            clear M1 hsu hno hb hbx hby hLX hLY a1 a2 hy32 hXz hYz hsX hsY
            cases b with
            | true =>
              have HT2 := Lib.hid (show tTo ps qs (k + 1) = true by rw [HSU.out, HT.out]; rfl)
              as_aux_lemma =>
                go_wp2_with fail
                have hz := Below.drew (Below.refl wr.heap.size wr)
                go_region_held_law (fun y => y.cell? ⟨g1, k, none⟩ = some (.string X) ∧ y.cell? ⟨g2, k, none⟩ = some (.string Y)) (exact ⟨cellb hz y1, cellb hz y2⟩)
                  (first | (refine IP.step_call enters_rmatch (by rfl) _ _ (by rfl) #[.string X, .string Y] (by rfl) (HM1.out _) ?_; rintro e w9 ⟨rfl, hb9⟩; refine ⟨_, rfl, ?_⟩; have hz := bnext hz hb9))
                have HB3' := Lib.hid (bnext HB.out hz)
                clear hz y1 y2
                go_wp2
                go_roundw
                case rel => exact ⟨k + 1, by go_num, by omega, HT2.out, HB3'.out⟩
                case measure => simp [intOf]; omega
            | false =>
              have HE := Lib.hid (show false = d by rw [← HDF.out, HNO.out rfl])
              as_aux_lemma =>
                go_wp2_with fail
                have hz := Below.drew (Below.refl wr.heap.size wr)
                go_region_held_law (fun y => y.cell? ⟨g1, k, none⟩ = some (.string X) ∧ y.cell? ⟨g2, k, none⟩ = some (.string Y)) (exact ⟨cellb hz y1, cellb hz y2⟩)
                  (first | (refine IP.step_call enters_rmatch (by rfl) _ _ (by rfl) #[.string X, .string Y] (by rfl) (HM1.out _) ?_; rintro e w9 ⟨rfl, hb9⟩; refine ⟨_, rfl, ?_⟩; have hz := bnext hz hb9))
                have HB3' := Lib.hid (bnext HB.out hz)
                clear hz y1 y2
                go_wp2
                go_ret2
                exact ⟨congrArg (fun z => Ending.returned (.tuple #[.bool z, .int .i64 0])) HE.out, bnext HB3.out HB3'.out⟩
          · as_aux_lemma =>
              obtain rfl : k = n := by omega
              have HE := Lib.hid (show true = d by rw [← HDF.out, HT.out])
              go_wp2
              go_ret2
              exact ⟨congrArg (fun z => Ending.returned (.tuple #[.bool z, .int .i64 0])) HE.out, bnext HB3.out HB.out⟩
      · have hnb : ((n : Int) != (m : Int)) = true := bne_iff_ne.2 (by omega)
        have hni : ¬ (n : Int) = (m : Int) := by omega
        have HDF := Lib.hid (show false = d by
          rw [← HD.out]
          unfold tFit
          rw [HN.out, HM.out, decide_eq_false hnm, Bool.false_and])
        as_aux_lemma =>
          go_wp2
          go_ret2
          exact ⟨congrArg (fun z => Ending.returned (.tuple #[.bool z, .int .i64 0])) HDF.out, HB3.out⟩
    · have e1 : tMErr (bs p) (bs s) = 13 := by unfold tMErr; rw [if_pos hE, tPErr_w hr]
      have e2 : tMatch (bs p) (bs s) = false := tMErr_no (by rw [e1]; decide)
      rw [e1, e2]
      rw [tPErr_w hr] at SC
      clear e1 e2 hE hr
      as_aux_lemma =>
        go_enter Tryz.func20, Tryz.ntmps20
        go_wp2_with fail
        refine HNC.out.mono ?_; rintro _ w2 ⟨v, rfl, _, _, hb2⟩
        have HB := Lib.hid hb2
        have SC2 := Lib.hid (SC.out w2)
        clear hb2 SC
        go_wp2_with fail
        refine SC2.out.mono ?_; rintro _ w3 ⟨v3, rfl, _, _, hb3⟩
        have HB3 := Lib.hid (bnext HB.out hb3)
        clear hb3 SC2
        go_wp2
        go_ret2
        exact ⟨rfl, HB3.out⟩
  · have e1 : tMErr (bs p) (bs s) = E := by unfold tMErr; rw [if_neg (by rw [hE]; exact h0), hE]
    have e2 : tMatch (bs p) (bs s) = false := tMErr_no (by rw [e1]; exact h0)
    rw [e1, e2]
    have hb : (E != 0) = true := bne_iff_ne.2 h0
    clear e1 e2 hE SC
    as_aux_lemma =>
      go_enter Tryz.func20, Tryz.ntmps20
      go_wp2_with fail
      refine HNC.out.mono ?_; rintro _ w2 ⟨v, rfl, _, _, hb2⟩
      have HB := Lib.hid hb2
      clear hb2
      go_wp2
      go_ret2
      exact ⟨rfl, HB.out⟩
end TR
end Go.Proofs.YtbfbjalnahngjaaGreatDoor
namespace Go.Proofs.YtbfbjalnahngjaaGreatDoor.IW
open Go.RowKit GR IP TP TR
theorem found_up {l : List (List Nat)} (h : Pl l) (p : List Nat) : Up (tFound l p) := List.Pairwise.filter _ h.up
/-- What Find tells, held against what fits. -/
structure FoundI (l : List (List Nat)) (p : List Nat) (L : List (List Nat)) : Prop where
  up : Up L
  by_ : ∀ t ∈ L, ∀ c ∈ t, c < 256
  le : L.length ≤ 64
  has : ∀ s, s ∈ L ↔ tErr p = 0 ∧ s ∈ l ∧ tMatch p s = true
theorem found_i {N t : Nat} {w : World} {F : Nat → Prop} {l : List (List Nat)} (h : TrO N w t F l) (p : List Nat) : FoundI l p (if tErr p = 0 then tFound l p else []) := by
  by_cases e : tErr p = 0
  · rw [if_pos e]
    refine ⟨found_up h.pl p, fun t ht => h.by_ t (List.mem_filter.1 ht).1, Nat.le_trans (List.length_filter_le _ _) h.pl.le, fun s => ?_⟩
    unfold tFound
    rw [List.mem_filter]
    exact ⟨fun h => ⟨e, h⟩, fun h => h.2⟩
  · rw [if_neg e]
    exact ⟨up_nil, fun _ h => absurd h (by simp), by simp, fun s => ⟨fun h => absurd h (by simp), fun h => absurd h.1 e⟩⟩
theorem str_lt {a b : List Nat} (ha : ∀ c ∈ a, c < 256) (hb : ∀ c ∈ b, c < 256) : (str a).data.toList < (str b).data.toList ↔ a < b := by
  have e1 : (str a).data.toList = u8 a := by simp [str, u8]
  have e2 : (str b).data.toList = u8 b := by simp [str, u8]
  rw [e1, e2, n8_lt, n8_u8 ha, n8_u8 hb]
theorem bytes_less : ∀ (x y : List UInt8), Op.bytesLess x y = decide (x < y)
  | [], [] => by simp [Op.bytesLess]
  | [], _ :: _ => by simp [Op.bytesLess]
  | _ :: _, [] => by simp [Op.bytesLess]
  | a :: x, b :: y => by
    have ih := bytes_less x y
    rw [Op.bytesLess, ih, Bool.eq_iff_iff, decide_eq_true_eq, Bool.or_eq_true, Bool.and_eq_true, decide_eq_true_eq, beq_iff_eq, decide_eq_true_eq, List.cons_lt_cons_iff]
theorem less_of {a b : List Nat} (ha : ∀ c ∈ a, c < 256) (hb : ∀ c ∈ b, c < 256) : Op.bytesLess (str a).toList (str b).toList = decide (a < b) := by
  rw [bytes_less, ByteArray.toList_eq, ByteArray.toList_eq]
  rw [Bool.eq_iff_iff, decide_eq_true_eq, decide_eq_true_eq]
  exact str_lt ha hb
theorem up_at {L : List (List Nat)} (h : Up L) {k : Nat} {a b : List Nat} (ha : L[k]? = some a) (hb : L[k + 1]? = some b) : a < b := by
  obtain ⟨h1, e1⟩ := List.getElem?_eq_some_iff.1 ha
  obtain ⟨h2, e2⟩ := List.getElem?_eq_some_iff.1 hb
  have := (List.pairwise_iff_getElem.1 h) k (k + 1) h1 h2 (by omega)
  rwa [e1, e2] at this
set_option maxRecDepth 100000 in
set_option maxHeartbeats 8000000 in
theorem trieJust_c (ps : List (List Nat)) (hb : ∀ p ∈ ps, ∀ c ∈ p, c < 256) (hz : ∀ p ∈ ps, p.length ≤ 9223372036854775807) (hl : ps.length ≤ 9223372036854775807) (v : Value) (P S : ByteArray) (w : World) (tv : TxArg w v ps) (hm : Ml w) : Calls Tryz.prog 5 #[v, .string P, .string S] w fun e w' => e = .returned (.bool true) ∧ Below w.heap.size w w' := by
  have AL := Lib.hid (alive_c w hm)
  have HM := Lib.hid hm
  have HTV := Lib.hid tv
  obtain ⟨A, c, rfl, hc, -⟩ := id tv
  obtain ⟨n, hn⟩ : ∃ n, ps.length = n := ⟨_, rfl⟩
  have HN := Lib.hid hn; have HBY := Lib.hid hb
  rw [hn] at hl hc HTV ⊢
  clear hm tv hb hn
  go_enter Tryz.func5, Tryz.ntmps5
  go_wp2_with fail
  refine AL.out.mono ?_; rintro _ w1 ⟨rfl, hb1⟩
  have HB1 := Lib.hid hb1
  clear hb1 AL
  by_cases h100 : 100 < n
  · as_aux_lemma =>
      have hi : (100 : Int) < (n : Int) := by omega
      go_wp2
      go_ret
      exact ⟨rfl, HB1.out⟩
  · have h100i : ¬ (100 : Int) < (n : Int) := by omega
    by_cases hP : 2000 < P.size
    · as_aux_lemma =>
        have hi : (2000 : Int) < (P.size : Int) := by omega
        go_wp2
        go_ret
        exact ⟨rfl, HB1.out⟩
    · have hPi : ¬ (2000 : Int) < (P.size : Int) := by omega
      by_cases hS : 2000 < S.size
      · as_aux_lemma =>
          have hi2 : (2000 : Int) < (S.size : Int) := by omega
          go_wp2
          go_ret
          exact ⟨rfl, HB1.out⟩
      · have hSi : ¬ (2000 : Int) < (S.size : Int) := by omega
        have NC := Lib.hid (new_c w1)
        have T0 := Lib.hid (trO_new 0 w1)
        have HB0 := Lib.hid (alloc_below w1 (.cells #[.bool false, .map none] 58))
        obtain ⟨w0, hw0⟩ : ∃ w0, w1.alloc (.cells #[.bool false, .map none] 58) = w0 := ⟨_, rfl⟩
        rw [hw0] at NC T0 HB0
        obtain ⟨t, ht⟩ : ∃ t, w1.heap.size = t := ⟨_, rfl⟩
        have HTT := Lib.hid ht
        rw [ht] at NC T0
        have HTA := Lib.hid (fun (W : World) (h : Below w.heap.size w W) => show 0 < n → ∃ b o, A = some ⟨b, o, none⟩ ∧ ∀ (k : Nat) (t : List Nat), ps[k]? = some t → W.cell? ⟨b, o + k, none⟩ = some (.string (str t)) from fun h0 => by
          obtain ⟨A', c', e, _, hx⟩ := HTV.out
          injection e with e1 _ _
          subst e1
          obtain ⟨b, o, e2, hh⟩ := hx (by intro e; have := HN.out; rw [e] at this; simp at this; omega)
          exact ⟨b, o, e2, fun k t hk => cellb h (hh k t hk)⟩)
        have INS := Lib.hid insert_c
        have FI := Lib.hid (fun (k : Nat) (W : World) (l : List (List Nat)) (F : Nat → Prop) (h : TrO k W t F l) (hm : Ml W) => And.intro (find_c (w := W) h.pl h.v h.lt P (by omega) hm) (found_i h (bs P)))
        have PM := Lib.hid (fun (W : World) => pmatch_c P S (by omega) (by omega) W)
        have RH := Lib.hid (fun (u : Value) (L : List (List Nat)) (h1 : L.length ≤ 100000) (h2 : ∀ t ∈ L, ∀ c ∈ t, c < 256) (W : World) (f : TxOut W u L) => rhas_c u L h1 h2 S W f)
        have HS := Lib.hid (fun (k : Nat) (W : World) (l : List (List Nat)) (F : Nat → Prop) (h : TrO k W t F l) (hm : Ml W) => has_c h.pl h.v S (by omega) hm)
        have B0 := Lib.hid (bnext HB1.out HB0.out)
        clear hw0 ht hP hS
        go_wp2_with fail
        refine NC.out.mono ?_; rintro _ w2 ⟨rfl, rfl⟩
        go_wp2_with fail
        go_loopw [8] (fun v8 wr => ∃ (k : Nat) (l : List (List Nat)) (F : Nat → Prop), v8 = .int .i64 (k : Nat) ∧ k ≤ n ∧ Hid (TrO k wr t F l) ∧ Hid (∀ x, F x → w1.heap.size ≤ x) ∧ Hid (Below w.heap.size w wr) ∧ Hid (w1.heap.size ≤ wr.heap.size)) (fun v8 _ => n - (intOf v8).toNat)
        case atStart => exact ⟨0, [], _, rfl, Nat.zero_le _, T0.out, fun x hx => by have := HTT.out; omega, B0.out, HB0.out.size⟩
        case round =>
          obtain ⟨k, l, F, rfl, hk, HT, HF, HB, HSZ⟩ := hrel
          by_cases hlt : k < n
          · have hki : (k : Int) < (n : Int) := by omega
            obtain ⟨g, o, rfl, ha⟩ := HTA.out wr HB.out (by omega)
            have hkl : k < ps.length := by rw [HN.out]; exact hlt
            have hp := List.getElem?_eq_getElem hkl
            obtain ⟨p, hpp⟩ : ∃ p, ps[k] = p := ⟨_, rfl⟩
            rw [hpp] at hp
            have hb1 := HBY.out p (List.mem_of_getElem? hp)
            have z1 := ha k p hp
            obtain ⟨X, hX⟩ : ∃ X, str p = X := ⟨_, rfl⟩
            have hXz : X.size ≤ 9223372036854775807 := by rw [← hX, str_size]; exact hz p (List.mem_of_getElem? hp)
            rw [hX] at z1
            clear hp hpp ha hX hb1
            by_cases h2 : 2000 < X.size
            · as_aux_lemma =>
                have h2i : (2000 : Int) < (X.size : Int) := by omega
                go_wp2
                go_ret
                exact ⟨rfl, HB.out⟩
            · have h2i : ¬ (2000 : Int) < (X.size : Int) := by omega
              have I := Lib.hid (INS.out k t F l X (by omega) wr (HM.out.below HB.out) HT.out (by omega))
              clear h2
              as_aux_lemma =>
                go_wp2_with fail
                refine I.out.mono ?_; rintro _ w3 ⟨rfl, F', ht3, hf3, hs3⟩
                have HT3 := Lib.hid ht3
                have HB3 := Lib.hid (HB.out.trans (hf3.to_below (B := w.heap.size) HB.out.size (fun x hx => by have := HF.out x hx; have := HB1.out.size; omega)))
                have HF3 := Lib.hid (show ∀ x, F' x → w1.heap.size ≤ x from fun x hx => by
                  rcases hs3 x hx with h | h
                  · exact HF.out x h
                  · have := HSZ.out; omega)
                have HSZ3 := Lib.hid (show w1.heap.size ≤ w3.heap.size from Nat.le_trans HSZ.out hf3.size)
                clear ht3 hf3 hs3
                go_wp2
                go_roundw
                case rel => exact ⟨k + 1, _, F', by go_num, by omega, HT3.out, HF3.out, HB3.out, HSZ3.out⟩
                case measure => simp [intOf]; omega
          · obtain rfl : k = n := by omega
            obtain ⟨fc, fi⟩ := FI.out k wr l F HT.out (HM.out.below HB.out)
            obtain ⟨L, hL⟩ : ∃ L, (if tErr (bs P) = 0 then tFound l (bs P) else []) = L := ⟨_, rfl⟩
            rw [hL] at fc fi
            have FC := Lib.hid fc; have FO := Lib.hid fi
            obtain ⟨E, hE⟩ : ∃ E, tErr (bs P) = E := ⟨_, rfl⟩
            rw [hE] at FC
            have HE := Lib.hid hE
            clear fc fi hL hE
            as_aux_lemma =>
              go_wp2_with fail
              refine FC.out.mono ?_; rintro _ w3 ⟨u, rfl, hu, hb3⟩
              have HB3 := Lib.hid (bnext HB.out hb3)
              have HT3 := Lib.hid (HT.out.below hb3 (Nat.le_refl _))
              have HU := Lib.hid (TxOut.of hu)
              obtain ⟨A3, c3, rfl, hc3, hx3⟩ := hu.form
              have HX3 := Lib.hid hx3
              obtain ⟨m, hm⟩ : ∃ m, L.length = m := ⟨_, rfl⟩
              have HMM := Lib.hid hm
              have hm64 : m ≤ 64 := by rw [← hm]; exact FO.out.le
              rw [hm] at hc3 HU ⊢
              clear hu hb3 hx3 hm FC FI
              go_wp2_with fail
              go_loopw [11] (fun v11 wr => ∃ i : Nat, v11 = .int .i64 (i : Nat) ∧ 1 ≤ i ∧ i ≤ 65 ∧ Hid (Below w3.heap.size w3 wr)) (fun v11 _ => 65 - (intOf v11).toNat)
              case atStart => exact ⟨1, rfl, Nat.le_refl _, by omega, Below.refl _ _⟩
              case round =>
                obtain ⟨i, rfl, hi1, hi65, HQ⟩ := hrel
                by_cases him : i < m
                · have hii : (i : Int) < (m : Int) := by omega
                  obtain ⟨j, rfl⟩ : ∃ j, i = j + 1 := ⟨i - 1, by omega⟩
                  obtain ⟨g, rfl, _, _, ta⟩ := HX3.out (by have := HMM.out; omega)
                  have hj1 : j + 1 < L.length := by rw [HMM.out]; exact him
                  have hj0 : j < L.length := by omega
                  have e0 := List.getElem?_eq_getElem hj0
                  have e1 := List.getElem?_eq_getElem hj1
                  have z0 := cellb HQ.out (ta j _ e0)
                  have z1 := cellb HQ.out (ta (j + 1) _ e1)
                  have hlt2 := less_of (FO.out.by_ _ (List.mem_of_getElem? e0)) (FO.out.by_ _ (List.mem_of_getElem? e1))
                  rw [decide_eq_true (up_at FO.out.up e0 e1)] at hlt2
                  obtain ⟨X0, hX0⟩ : ∃ X0, str L[j] = X0 := ⟨_, rfl⟩
                  obtain ⟨X1, hX1⟩ : ∃ X1, str L[j + 1] = X1 := ⟨_, rfl⟩
                  rw [hX0] at z0 hlt2
                  rw [hX1] at z1 hlt2
                  clear e0 e1 ta hj0 hj1 hX0 hX1
                  have hjj : ((j : Int) + 1) - 1 = (j : Int) := by omega
                  as_aux_lemma =>
                    go_wp2
                    go_region
                    go_wp2
                    go_roundw
                    case rel => exact ⟨j + 1 + 1, by go_num, by omega, by omega, Below.drew HQ.out⟩
                    case measure => simp [intOf]; omega
                · have him2 : ¬ (i : Int) < (m : Int) := by omega
                  have HQ3 := Lib.hid (bnext HB3.out HQ.out)
                  have PMQ := PM.out wr
                  have RHQ := Lib.hid (RH.out _ L (by rw [HMM.out]; omega) FO.out.by_ wr (HU.out.below HQ.out))
                  have HSQ := Lib.hid (fun (W : World) (h : Below wr.heap.size wr W) => HS.out k W l F ((HT3.out.below HQ.out (Nat.le_refl _)).below h (Nat.le_refl _)) (HM.out.below (bnext HQ3.out h)))
                  have RHQ' := Lib.hid (fun (W : World) (h : Below wr.heap.size wr W) => RH.out _ L (by rw [HMM.out]; omega) FO.out.by_ W ((HU.out.below HQ.out).below h))
                  by_cases h13 : tMErr (bs P) (bs S) = 13
                  · have hno : bs S ∉ L := fun h => by
                      obtain ⟨a, b, d⟩ := (FO.out.has _).1 h
                      unfold tMErr at h13
                      rw [if_pos a, tPErr_r (HT3.out.pl.ri _ b)] at h13
                      cases h13
                    rw [h13] at PMQ
                    rw [decide_eq_false hno] at RHQ'
                    have HPQ := Lib.hid PMQ
                    obtain ⟨mm, hmm⟩ : ∃ mm, tMatch (bs P) (bs S) = mm := ⟨_, rfl⟩
                    rw [hmm] at HPQ
                    clear hno h13 PMQ hmm
                    as_aux_lemma =>
                      go_wp2_with fail
                      refine HPQ.out.mono ?_; rintro _ w4 ⟨rfl, hb4⟩
                      have HB4 := Lib.hid (bnext HQ3.out hb4)
                      have R4 := Lib.hid (RHQ'.out w4 hb4)
                      clear hb4
                      go_wp2_with fail
                      refine R4.out.mono ?_; rintro _ w5 ⟨rfl, rfl⟩
                      go_wp2
                      go_ret
                      exact ⟨rfl, HB4.out⟩
                  · have hEE : E = tMErr (bs P) (bs S) := by
                      rw [← HE.out]
                      unfold tMErr at h13 ⊢
                      by_cases e : tErr (bs P) = 0
                      · rw [if_pos e] at h13 ⊢
                        unfold tPErr at h13 ⊢
                        by_cases hr : tRight (bs S) = true
                        · rw [if_pos hr, e]
                        · rw [if_neg hr] at h13; exact absurd rfl h13
                      · rw [if_neg e]
                    have hEQ : decide (bs S ∈ L) = (tMatch (bs P) (bs S) && decide (bs S ∈ l)) := by
                      rw [Bool.eq_iff_iff, Bool.and_eq_true, decide_eq_true_eq, decide_eq_true_eq, FO.out.has]
                      constructor
                      · rintro ⟨_, b, d⟩; exact ⟨d, b⟩
                      · rintro ⟨d, b⟩
                        refine ⟨?_, b, d⟩
                        unfold tMatch at d
                        rw [Bool.and_eq_true, Bool.and_eq_true, decide_eq_true_eq] at d
                        exact d.1.1
                    rw [← hEE] at PMQ
                    have h13i : ¬ E = 13 := by rw [hEE]; exact h13
                    have h13b : (E == 13) = false := by simpa using h13i
                    obtain ⟨x1, hx1⟩ : ∃ x1, tMatch (bs P) (bs S) = x1 := ⟨_, rfl⟩
                    obtain ⟨x2, hx2⟩ : ∃ x2, decide (bs S ∈ l) = x2 := ⟨_, rfl⟩
                    obtain ⟨x3, hx3⟩ : ∃ x3, decide (bs S ∈ L) = x3 := ⟨_, rfl⟩
                    rw [hx1] at PMQ hEQ
                    rw [hx2] at HSQ hEQ
                    rw [hx3] at RHQ' hEQ
                    have HPQ := Lib.hid PMQ
                    have HEQ := Lib.hid hEQ
                    clear PMQ hEE h13 hx1 hx2 hx3 hEQ RHQ
                    cases x1 with
                    | true =>
                      as_aux_lemma =>
                        go_wp2_with fail
                        refine HPQ.out.mono ?_; rintro _ w4 ⟨rfl, hb4⟩
                        have HB4 := Lib.hid (bnext HQ3.out hb4)
                        have R4 := Lib.hid (RHQ'.out w4 hb4)
                        have S4 := Lib.hid (HSQ.out w4 hb4)
                        clear hb4
                        go_wp2_with fail
                        refine R4.out.mono ?_; rintro _ w5 ⟨rfl, rfl⟩
                        go_wp2_with fail
                        refine S4.out.mono ?_; rintro _ w6 ⟨rfl, hb6⟩
                        have HB6 := Lib.hid (bnext HB4.out hb6)
                        clear hb6
                        obtain rfl : x3 = x2 := HEQ.out
                        go_wp2
                        go_ret
                        exact ⟨by simp, HB6.out⟩
                    | false =>
                      obtain rfl : x3 = false := HEQ.out
                      as_aux_lemma =>
                        go_wp2_with fail
                        refine HPQ.out.mono ?_; rintro _ w4 ⟨rfl, hb4⟩
                        have HB4 := Lib.hid (bnext HQ3.out hb4)
                        have R4 := Lib.hid (RHQ'.out w4 hb4)
                        clear hb4
                        go_wp2_with fail
                        refine R4.out.mono ?_; rintro _ w5 ⟨rfl, rfl⟩
                        go_wp2
                        go_ret
                        exact ⟨rfl, HB4.out⟩
end Go.Proofs.YtbfbjalnahngjaaGreatDoor.IW
