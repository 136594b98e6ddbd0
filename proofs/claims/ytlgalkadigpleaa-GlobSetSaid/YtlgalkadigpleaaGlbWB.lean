/-
  Walks over the statements of layer 15: GlobSet.
-/
import Derived.Test.YtlgalkadigpleaaGlbWA
set_option linter.unusedSimpArgs false
set_option linter.unusedVariables false
namespace Go.Proofs.Ytlgalkadigpleaa.GW
open Go.RowKit GP GR
theorem gEx_bytes : ∀ (t : Tr), (Good false t ∨ Good true t) → ∀ e ∈ gEx t, ∀ b ∈ gTxt e, b ∈ gStr t
  | .nil, _, e, he, b, hb => by
    obtain rfl : e = [] := by simpa [gEx] using he
    cases hb
  | .none, _, e, he, b, hb => by cases he
  | .atom a r, h, e, he, b, hb => by
    have h : a.Good ∧ Good false r := h.resolve_right (fun h => h.elim)
    obtain ⟨e', he', rfl⟩ := List.mem_map.1 he
    have hb : b ∈ a.txt ++ gTxt e' := hb
    show b ∈ a.txt ++ gStr r
    rcases List.mem_append.1 hb with hb | hb
    · exact List.mem_append_left _ hb
    · exact List.mem_append_right _ (gEx_bytes r (.inl h.2) e' he' b hb)
  | .br ws r, h, e, he, b, hb => by
    have h : Good true ws ∧ ws ≠ .none ∧ Good false r := h.resolve_right (fun h => h.elim)
    obtain ⟨e', he', hm⟩ := List.mem_flatMap.1 he
    obtain ⟨e2, he2, rfl⟩ := List.mem_map.1 hm
    have hb : b ∈ List.flatMap GA.txt (e' ++ e2) := hb
    rw [List.flatMap_append] at hb
    show b ∈ 123 :: (gStr ws ++ gStr r)
    refine List.mem_cons_of_mem _ ?_
    rcases List.mem_append.1 hb with hb | hb
    · exact List.mem_append_left _ (gEx_bytes ws (.inr h.1) e' he' b hb)
    · exact List.mem_append_right _ (gEx_bytes r (.inl h.2.2) e2 he2 b hb)
  | .way p ws, h, e, he, b, hb => by
    have h : Good false p ∧ Good true ws := h.resolve_left (fun h => h.elim)
    rcases List.mem_append.1 he with he | he
    · have := gEx_bytes p (.inl h.1) e he b hb
      by_cases hn : ws = .none
      · subst hn
        exact List.mem_append_left _ this
      · rw [gStr_more hn h.2]
        exact List.mem_append_left _ this
    · have := gEx_bytes ws (.inr h.2) e he b hb
      by_cases hn : ws = .none
      · subst hn; cases this
      · rw [gStr_more hn h.2]
        exact List.mem_append_right _ (List.mem_cons_of_mem _ this)
theorem set_bytes {s : List Nat} (h : gErr s = 0) (hb : ∀ c ∈ s, c < 256) : ∀ x ∈ gTx (gTree s) [[]], ∀ b ∈ x, b < 256 := fun x hx b hbx => by
  obtain ⟨hg, _, _, he⟩ := gErr_good h
  obtain ⟨a, ha, e, hex, hxe⟩ := ((gTx_mem (gTree s)).1 hg [[]] x).1 hx
  obtain rfl := List.mem_singleton.1 ha
  refine hb b ?_
  rw [he]
  rw [hxe] at hbx
  exact gEx_bytes (gTree s) (.inl hg) e hex b hbx
theorem empty_text (N : ByteArray) : decide (bs N = []) = N.toList.isEmpty := by
  rw [ByteArray.toList_eq]
  obtain ⟨⟨l⟩⟩ := N
  cases l with
  | nil => rfl
  | cons c l => rfl
theorem toList_nil {N : ByteArray} (h : N.toList.isEmpty = true) : N = ⟨#[]⟩ := by
  have := (empty_text N).trans h
  exact bs_nil.1 (of_decide_eq_true this)
/-- What was found among the first k. -/
def anyTo (F : List Nat → Bool) (L : List (List Nat)) (k : Nat) : Bool := (L.take k).any F
theorem anyTo_succ {F : List Nat → Bool} {L : List (List Nat)} {k : Nat} {x : List Nat} (h : L[k]? = some x) : anyTo F L (k + 1) = (anyTo F L k || F x) := by
  unfold anyTo
  rw [take_snoc' h, List.any_append]
  simp
theorem two_str (P Q : ByteArray) : bs ((((⟨#[123]⟩ : ByteArray) ++ P ++ ⟨#[44]⟩) ++ Q) ++ ⟨#[125]⟩) = two (bs P) (bs Q) := by
  rw [bs_append, bs_append, bs_append, bs_append]
  rfl
set_option maxRecDepth 100000 in
set_option maxHeartbeats 4000000 in
theorem globSet_c (P Q N : ByteArray) (hp : P.size ≤ 9223372036854775807) (hq : Q.size ≤ 9223372036854775807) (hs : N.size ≤ 9223372036854775807) (w : World) : Calls Try.prog 3 #[.string P, .string Q, .string N] w fun e w' => e = .returned (.bool true) ∧ Below w.heap.size w w' := by
  have AL := Lib.hid (fun (W : World) => alive_c W)
  go_enter Try.func3, Try.ntmps3
  go_wp2_with fail
  refine (AL.out _).mono ?_; rintro _ w1 ⟨rfl, hb1⟩
  have HB1 := Lib.hid hb1
  clear hb1 AL
  by_cases hl : 200 < N.size
  · as_aux_lemma =>
      have hi : (200 : Int) < (N.size : Int) := by omega
      go_wp2
      go_ret
      exact ⟨rfl, HB1.out⟩
  · have hi : ¬ (200 : Int) < (N.size : Int) := by omega
    by_cases hl2 : 60 < P.size
    · as_aux_lemma =>
        have hi2 : (60 : Int) < (P.size : Int) := by omega
        go_wp2
        go_ret
        exact ⟨rfl, HB1.out⟩
    · have hi2 : ¬ (60 : Int) < (P.size : Int) := by omega
      by_cases hl3 : 60 < Q.size
      · as_aux_lemma =>
          have hi3 : (60 : Int) < (Q.size : Int) := by omega
          go_wp2
          go_ret
          exact ⟨rfl, HB1.out⟩
      · have hi3 : ¬ (60 : Int) < (Q.size : Int) := by omega
        have M1 := match_c P N hp (by omega) w1
        have M2 := fun (W : World) => match_c Q N hq (by omega) W
        obtain ⟨ep, hep⟩ : ∃ ep, gErr (bs P) = ep := ⟨_, rfl⟩
        obtain ⟨eq, heq⟩ : ∃ eq, gErr (bs Q) = eq := ⟨_, rfl⟩
        obtain ⟨mp, hmp⟩ : ∃ mp, gMatch (bs P) (bs N) = mp := ⟨_, rfl⟩
        obtain ⟨mq, hmq⟩ : ∃ mq, gMatch (bs Q) (bs N) = mq := ⟨_, rfl⟩
        rw [hep, hmp] at M1
        rw [heq, hmq] at M2
        have HM1 := Lib.hid M1; have HM2 := Lib.hid M2
        have HEP := Lib.hid hep; have HEQ := Lib.hid heq; have HMP := Lib.hid hmp; have HMQ := Lib.hid hmq
        clear M1 M2 hep heq hmp hmq
        go_wp2_with fail
        refine HM1.out.mono ?_; rintro _ w2 ⟨rfl, hb2⟩
        have HB2 := Lib.hid (bnext HB1.out hb2)
        clear hb2 HM1
        go_wp2_with fail
        refine (HM2.out _).mono ?_; rintro _ w3 ⟨rfl, hb3⟩
        have HB3 := Lib.hid (bnext HB2.out hb3)
        clear hb3 HM2
        by_cases h0 : ep = 0
        · subst h0
          by_cases h1 : eq = 0
          · subst h1
            as_aux_lemma =>
              have EX := expand_c P hp w3
              have HSA := Lib.hid (set_any HEP.out (bs N))
              have HSO := Lib.hid (fun x hx => set_ok (s := bs P) HEP.out (x := x) hx)
              have hsm := set_bytes HEP.out (bs_mem P)
              have HNM : (gTx (gTree (bs P)) [[]]).length ≤ 64 := by
                obtain ⟨g1, _, g3, _⟩ := gErr_good HEP.out
                rw [(gTx_length (gTree (bs P))).1 g1]
                simpa using g3
              rw [HEP.out] at EX
              obtain ⟨L, hL⟩ : ∃ L, gTx (gTree (bs P)) [[]] = L := ⟨_, rfl⟩
              rw [hL] at EX HSA HSO HNM hsm
              have HSM := Lib.hid hsm
              rw [HMP.out] at HSA
              have HEX := Lib.hid EX
              clear EX hL hsm
              go_wp2_with fail
              refine HEX.out.mono ?_; rintro _ w4 ⟨v4, rfl, ht4, hb4⟩
              have HB4 := Lib.hid (bnext HB3.out hb4)
              have ht5 := ht4 (by first | rfl | trivial)
              obtain ⟨A, c, rfl, hc, hx⟩ := ht5.form
              have HX := Lib.hid (fun (h : 0 < L.length) => show ∃ g, A = some ⟨g, 0, none⟩ ∧ TxAt w4 g L by obtain ⟨g, e, _, _, h⟩ := hx h; exact ⟨g, e, h⟩)
              obtain ⟨m, hm⟩ : ∃ m, L.length = m := ⟨_, rfl⟩
              rw [hm] at hc HNM HX ⊢
              have HLM := Lib.hid hm
              have MX := Lib.hid (fun (S : ByteArray) (hS : S.size ≤ 128) (W : World) => match_c S N (by omega) (by omega) W)
              have M5 := fun (S : ByteArray) (hS : S.size ≤ 200) (W : World) => match_c S N (by omega) (by omega) W
              have HM5 := Lib.hid M5
              clear ht4 ht5 hx hb4 HEX hm M5
              go_wp2_with fail
              go_loopw [13, 14, 15, 16] (fun v13 v14 _ _ wr => ∃ k : Nat, v14 = .int .i64 (k : Nat) ∧ k ≤ m ∧ v13 = .bool (anyTo (fitOne (bs N)) L k) ∧ Hid (Below w4.heap.size w4 wr)) (fun _ v14 _ _ _ => m - (intOf v14).toNat)
              case atStart => exact ⟨0, rfl, Nat.zero_le _, rfl, Below.refl _ _⟩
              case round =>
                as_aux_lemma =>
                  obtain ⟨k, rfl, hk, rfl, HB⟩ := hrel
                  by_cases hlt : k < m
                  · as_aux_lemma =>
                      obtain ⟨g, rfl, hg⟩ := HX.out (by omega)
                      obtain ⟨x, hx⟩ : ∃ x, L[k]? = some x := ⟨_, List.getElem?_eq_getElem (by rw [HLM.out]; exact hlt)⟩
                      have z0 := cellb HB.out (hg k x hx)
                      have hso := HSO.out x (List.mem_of_getElem? hx)
                      have hsu := anyTo_succ (F := fitOne (bs N)) hx
                      obtain ⟨rk, hrk⟩ : ∃ rk, anyTo (fitOne (bs N)) L k = rk := ⟨_, rfl⟩
                      rw [hrk] at hsu ⊢
                      by_cases hx0 : x = []
                      · subst hx0
                        have z1 : wr.cell? ⟨g, k, none⟩ = some (.string ⟨#[]⟩) := z0
                        have hf : fitOne (bs N) [] = N.toList.isEmpty := by
                          rw [← empty_text]
                          exact if_pos rfl
                        rw [hf] at hsu
                        have HSU := Lib.hid hsu
                        obtain ⟨ne, hne⟩ : ∃ ne, N.toList.isEmpty = ne := ⟨_, rfl⟩
                        rw [hne] at HSU
                        clear z0 hso hsu hrk hf hx hg
                        cases rk with
                        | true =>
                          go_wp2
                          go_roundw
                          case rel => exact ⟨k + 1, by go_num, by omega, by rw [HSU.out]; rfl, HB.out⟩
                          case measure => simp [intOf]; omega
                        | false =>
                          rw [Bool.false_or] at HSU
                          go_wp2
                          go_roundw
                          case rel => exact ⟨k + 1, by go_num, by omega, by rw [HSU.out], HB.out⟩
                          case measure => simp [intOf]; omega
                      · have hxm : ∀ b ∈ x, b < 256 := HSM.out x (List.mem_of_getElem? hx)
                        obtain ⟨X, hX⟩ : ∃ X, str x = X := ⟨_, rfl⟩
                        have hbx : bs X = x := by rw [← hX, bs_str hxm]
                        have hXs : X.size = x.length := by rw [← hX, str_size]
                        have hne : X.toList.isEmpty = false := ne_empty2 (by rw [hXs]; exact List.length_pos_iff.2 hx0)
                        rw [hX] at z0
                        have MC := MX.out X (by rw [hXs]; exact hso.2) wr
                        have hf : fitOne (bs N) x = gMatch x (bs N) := if_neg hx0
                        rw [hbx, hso.1 hx0, ← hf] at MC
                        obtain ⟨fx, hfx⟩ : ∃ fx, fitOne (bs N) x = fx := ⟨_, rfl⟩
                        rw [hfx] at MC hsu
                        have HMC := Lib.hid MC; have HSU := Lib.hid hsu
                        clear MC hso hsu hrk hf hx hg hfx hX hbx hXs hxm
                        go_wp2_with fail
                        refine HMC.out.mono ?_; rintro _ w6 ⟨rfl, hb6⟩
                        have HB6 := Lib.hid (HB.out.trans (hb6.mono HB.out.size))
                        clear hb6 HMC
                        cases rk with
                        | true =>
                          go_wp2
                          go_roundw
                          case rel => exact ⟨k + 1, by go_num, by omega, by rw [HSU.out]; rfl, HB6.out⟩
                          case measure => simp [intOf]; omega
                        | false =>
                          rw [Bool.false_or] at HSU
                          go_wp2
                          go_roundw
                          case rel => exact ⟨k + 1, by go_num, by omega, by rw [HSU.out], HB6.out⟩
                          case measure => simp [intOf]; omega
                  · as_aux_lemma =>
                      obtain rfl : k = m := by omega
                      have hone : anyTo (fitOne (bs N)) L k = mp := by
                        unfold anyTo
                        rw [List.take_of_length_le (by rw [HLM.out]; exact Nat.le_refl _), HSA.out]
                      rw [hone]
                      clear hone
                      have HBE := Lib.hid (HB4.out.trans (HB.out.mono HB4.out.size))
                      have e1 : ¬ 9223372036854775807 < 1 + P.size := by omega
                      have e2 : ¬ 9223372036854775807 < 1 + P.size + 1 := by omega
                      have e3 : ¬ 9223372036854775807 < 1 + P.size + 1 + Q.size := by omega
                      have e4 : ¬ 9223372036854775807 < 1 + P.size + 1 + Q.size + 1 := by omega
                      obtain ⟨T, hT⟩ : ∃ T, ((((⟨#[123]⟩ : ByteArray) ++ P ++ ⟨#[44]⟩) ++ Q) ++ ⟨#[125]⟩) = T := ⟨_, rfl⟩
                      have hbt : bs T = two (bs P) (bs Q) := by rw [← hT, two_str]
                      have hts : T.size ≤ 200 := by rw [← bs_length, hbt]; unfold two; simp [bs_length]; omega
                      have MT := HM5.out T hts wr
                      rw [hbt] at MT
                      have hte := two_err HEP.out HEQ.out (by rw [bs_length]; omega) (by rw [bs_length]; omega)
                      have htf := two_fit HEP.out HEQ.out
                      obtain ⟨et, het⟩ : ∃ et, gErr (two (bs P) (bs Q)) = et := ⟨_, rfl⟩
                      obtain ⟨mt, hmt⟩ : ∃ mt, gMatch (two (bs P) (bs Q)) (bs N) = mt := ⟨_, rfl⟩
                      rw [het, hmt] at MT
                      rw [het] at hte htf
                      have HTF := Lib.hid (fun (h : et = 0) => show mt = (mp || mq) by have := htf h (bs N); rwa [hmt, HMP.out, HMQ.out] at this)
                      have HMT := Lib.hid MT; have HTE := Lib.hid hte
                      have hTl := hT
                      clear MT hte htf hbt het hmt hts hT
                      go_wp2_with fail
                      refine HMT.out.mono ?_; rintro _ w6 ⟨rfl, hb6⟩
                      have HB6 := Lib.hid (bnext HBE.out hb6)
                      clear hb6 HMT
                      rcases HTE.out with h0 | h0 | h0
                      · subst h0
                        have hmt2 := HTF.out (by first | rfl | trivial)
                        subst hmt2
                        clear HMP HMQ HTF HSA
                        cases mp <;> cases mq <;> (go_wp2; go_ret; exact ⟨rfl, HB6.out⟩)
                      · subst h0
                        clear HMP HMQ HTF HSA
                        cases mp <;> (go_wp2; go_ret; exact ⟨rfl, HB6.out⟩)
                      · subst h0
                        clear HMP HMQ HTF HSA
                        cases mp <;> (go_wp2; go_ret; exact ⟨rfl, HB6.out⟩)
          · as_aux_lemma =>
              have hne : (eq != 0) = true := bne_iff_ne.2 h1
              have hmq : mq = false := by
                rw [← HMQ.out]
                unfold gMatch
                exact if_neg (by rw [HEQ.out]; exact h1)
              subst hmq
              clear HMP HMQ
              cases mp <;> (go_wp2; go_ret; exact ⟨rfl, HB3.out⟩)
        · as_aux_lemma =>
            have hne : (ep != 0) = true := bne_iff_ne.2 h0
            have hmp : mp = false := by
              rw [← HMP.out]
              unfold gMatch
              exact if_neg (by rw [HEP.out]; exact h0)
            subst hmp
            go_wp2
            go_ret
            exact ⟨rfl, HB3.out⟩
end Go.Proofs.Ytlgalkadigpleaa.GW
