/-
  Texts of the trie's proofs, merged: TrlRE.
-/
import Derived.Test.YtbfbjalnahngjaaGreatDoorTriQ17
import Derived.Test.YtbfbjalnahngjaaGreatDoorTriQ14
import Derived.StillTailTactics
import Derived.Deep.RegionLaw
import Derived.Laws.DeepStrings4
set_option linter.unusedSimpArgs false
set_option linter.unusedVariables false
namespace Go.Proofs.YtbfbjalnahngjaaGreatDoor
theorem bs_extract (s : ByteArray) (a b : Nat) : bs (s.extract a b) = ((bs s).drop a).take (b - a) := by
  obtain ⟨⟨l⟩⟩ := s
  simp [bs, ByteArray.extract_mk]
theorem gAt_small {s : List Nat} {k c : Nat} {x : GA} {j : Nat} (hk : k < s.length) (hc : s.getD k 0 = c) (h91 : c ≠ 91) (h : gAt (s.drop k) = some (x, j)) : j = 1 := by
  rw [drop_cons hk, hc] at h
  unfold gAt at h
  simp only at h
  rw [if_neg h91] at h
  split at h
  · exact (Prod.mk.inj (Option.some.inj h)).2.symm
  · split at h
    · exact (Prod.mk.inj (Option.some.inj h)).2.symm
    · split at h
      · exact (Prod.mk.inj (Option.some.inj h)).2.symm
      · cases h
namespace GR
open Go.RowKit GP
/-- expand keeps its word where at most n bytes are left. -/
def ExpC (n : Nat) : Prop := ∀ (p : ByteArray) (a : Nat) (t : Tr) (m : Nat), p.size ≤ 128 → a ≤ p.size → p.size - a ≤ n → gPr false ((bs p).drop a) = some (t, (bs p).drop m) → m ≤ p.size → gNm t ≤ 64 → ∀ w : World,
  Calls Tryz.prog 80 #[.string p, .int .i64 (a : Nat)] w fun r w' => ∃ v, r = .returned (.tuple #[v, .int .i64 (m : Nat)]) ∧ TxNew w.heap.size w' v (gTx t [[]]) ∧ Below w.heap.size w w'
set_option maxRecDepth 100000 in
set_option maxHeartbeats 8000000 in
theorem expand_step (n : Nat) (IH : ∀ m, m < n → ExpC m) : ExpC n := by
  intro p a t m hp ha hpn hpr hm hnm w
  have HEX := Lib.hid (ExI.start hpr (by rw [bs_length]; exact ha) (by rw [bs_length]; exact hm) hnm)
  obtain ⟨G, hG⟩ : ∃ G, gTx t [[]] = G := ⟨_, rfl⟩
  rw [hG] at HEX ⊢
  have CL := Lib.hid (fun (k : Nat) (hk : k ≤ p.size) (W : World) => class_c p k hp hk W)
  have EX := Lib.hid (fun (k : Nat) (t : Tr) (m : Nat) (hk : k ≤ p.size) (h : p.size - k < n) (h1 : gPr false ((bs p).drop k) = some (t, (bs p).drop m)) (h2 : m ≤ p.size) (h3 : gNm t ≤ 64) (W : World) => IH _ h p k t m hp hk (Nat.le_refl _) h1 h2 h3 W)
  have HL := Lib.hid (bs_length p)
  have HT0 := Lib.hid (TxNew.lit (w := w) (Nat.le_refl _) [])
  have HB0 := Lib.hid (alloc_below w (.cells #[.string (str [])] 9))
  obtain ⟨i0, hi0, hz0, hzz1, hzz2⟩ := info_parts tx_info
  have hap : a ≤ p.size := ha
  clear IH hpr hnm hG
  go_enter Tryz.func80, Tryz.ntmps80
  go_wp2_with fail
  obtain ⟨w1, hw1⟩ : ∃ w1, (w.alloc (.cells #[.string (str [])] 9)) = w1 := ⟨_, rfl⟩
  rw [hw1] at HT0 HB0
  rw [show (w.alloc (.cells #[.string ⟨#[]⟩] 9)) = w1 from hw1]
  clear hw1
  go_loopw [1, 6, 7, 8, 9, 10, 11, 12, 13, 14] (fun v1 v6 _ _ _ _ _ _ _ _ wr => ∃ (k g N c : Nat), v1 = .int .i64 (k : Nat) ∧ v6 = .slice (some ⟨g, 0, none⟩) N c ∧ a ≤ k ∧ k ≤ p.size ∧ 1 ≤ N ∧ N ≤ 64 ∧ N ≤ c ∧ Hid (∃ OUT, OUT.length = N ∧ TxNew w.heap.size wr (.slice (some ⟨g, 0, none⟩) N c) OUT ∧ ExI (bs p) m k G OUT) ∧ Hid (Below w.heap.size w wr)) (fun v1 _ _ _ _ _ _ _ _ _ _ => p.size - (intOf v1).toNat)
  case atStart => exact ⟨a, _, 1, 1, rfl, rfl, Nat.le_refl _, ha, Nat.le_refl _, by omega, Nat.le_refl _, ⟨[[]], rfl, HT0.out, HEX.out⟩, HB0.out⟩
  case round =>
    as_aux_lemma =>
      obtain ⟨k, g, N, c, rfl, rfl, hak, hk, hN1, hN64, hNc, HI, HB⟩ := hrel
      have STOP := Lib.hid (fun (hst : Stop ((bs p).drop k)) => show k = m ∧ TxNew w.heap.size wr (.slice (some ⟨g, 0, none⟩) N c) G by
        obtain ⟨OUT, _, ht, hx⟩ := HI.out
        obtain ⟨e1, e2⟩ := hx.stop (by rw [HL.out]; exact hm) hst
        exact ⟨e1, e2 ▸ ht⟩)
      by_cases hlt : k < p.size
      · obtain ⟨b, hcb, x0, hb⟩ := bs_get hlt
        have hki : (k : Int) < (p.size : Int) := by omega
        have hkn : ¬ (p.size : Int) ≤ (k : Int) := by omega
        have hwk : IntKind.i64.wrap ((k : Int) + 1) = ((k + 1 : Nat) : Int) := by rw [IntKind.wrap_i64]; omega
        have HC := Lib.hid hcb
        have HDR := Lib.hid (drop_cons (s := bs p) (by rw [HL.out]; exact hlt))
        clear hcb
        by_cases h44 : b = 44
        · subst h44
          as_aux_lemma =>
            have HE := Lib.hid (STOP.out (.inr ⟨_, _, by rw [HDR.out, HC.out], .inl rfl⟩))
            clear STOP
            go_wp2
            go_ret2
            obtain ⟨rfl, ht⟩ := HE.out
            exact ⟨_, rfl, ht, HB.out⟩
        · have i44 : ¬ (b : Int) = 44 := by omega
          have b44 : ((b : Int) != 44) = true := bne_iff_ne.2 i44
          by_cases h125 : b = 125
          · subst h125
            as_aux_lemma =>
              have HE := Lib.hid (STOP.out (.inr ⟨_, _, by rw [HDR.out, HC.out], .inr rfl⟩))
              clear STOP
              go_wp2
              go_ret2
              obtain ⟨rfl, ht⟩ := HE.out
              exact ⟨_, rfl, ht, HB.out⟩
          · have i125 : ¬ (b : Int) = 125 := by omega
            have b125 : ((b : Int) != 125) = true := bne_iff_ne.2 i125
            clear STOP
            by_cases h123 : b = 123
            · subst h123
              as_aux_lemma =>
                have HBR := Lib.hid (show ∃ OUT q A, OUT.length = N ∧ TxNew w.heap.size wr (.slice (some ⟨g, 0, none⟩) N c) OUT ∧ k + 1 ≤ q ∧ q ≤ p.size ∧ ExW (bs p) q k A [] ∧ N * A.length ≤ 64 ∧ A.length ≤ 64 ∧ 1 ≤ A.length ∧ (∀ x ∈ OUT, ∀ y ∈ A, x.length + y.length ≤ p.size) ∧ ExI (bs p) m q G (longer OUT A) by
                  obtain ⟨OUT, ho, ht, hx⟩ := HI.out
                  obtain ⟨q, A, h1, h2, h3, h4, h5, h6, h7, h8⟩ := hx.br (by rw [HL.out]; exact hm) (by rw [HL.out]; exact hlt) HC.out
                  exact ⟨OUT, q, A, ho, ht, h1, by rw [← HL.out]; exact h2, h3, by rw [← ho]; exact h4, h5, h6, by rw [← HL.out]; exact h7, h8⟩)
                obtain ⟨OUT, q, A, ho, ht, hq1, hq2, hw0, hNA, hA64, hA1, hlen, hx8⟩ := HBR.out
                have HO := Lib.hid ho; have HT := Lib.hid ht; have HW0 := Lib.hid hw0; have HLEN := Lib.hid hlen; have HX8 := Lib.hid hx8
                obtain ⟨B0, hB0⟩ : ∃ B0, wr.heap.size = B0 := ⟨_, rfl⟩
                have HB0E := Lib.hid hB0
                obtain ⟨na, hna⟩ : ∃ na, A.length = na := ⟨_, rfl⟩
                rw [hna] at hNA hA64 hA1
                have HNA := Lib.hid hna
                have HBW := Lib.hid (show Below B0 wr wr from Below.refl _ _)
                have HBR0 := Lib.hid HB.out
                have HSB := Lib.hid (show w.heap.size ≤ B0 by rw [← hB0]; exact HB.out.size)
                obtain ⟨w0, hw0e⟩ : ∃ w0, wr = w0 := ⟨_, rfl⟩
                have HWE := Lib.hid hw0e
                rw [hw0e] at HT HBR0 HB0E
                have HBW0 := Lib.hid (show Below B0 w0 wr by rw [← hw0e]; exact HBW.out)
                clear ho ht hw0 hlen hx8 hB0 hna HBR HI HBW hw0e
                go_wp2_with fail
                go_loopw [1, 9, 10, 11] (fun v1 v9 _ _ wq => ∃ (j n9 c9 : Nat) (A9 : Option Addr), v1 = .int .i64 (j : Nat) ∧ v9 = .slice A9 n9 c9 ∧ k ≤ j ∧ j < p.size ∧ n9 ≤ 64 ∧ n9 ≤ c9 ∧ Hid (∃ ALL, ALL.length = n9 ∧ TxNew B0 wq (.slice A9 n9 c9) ALL ∧ ExW (bs p) q j A ALL) ∧ Hid (Below B0 w0 wq)) (fun v1 _ _ _ _ => p.size - (intOf v1).toNat)
                case atStart => exact ⟨k, 0, 0, none, rfl, rfl, Nat.le_refl _, hlt, Nat.zero_le _, Nat.le_refl _, ⟨[], rfl, TxNew.nil _ _, HW0.out⟩, HBW0.out⟩
                case round =>
                  as_aux_lemma =>
                    obtain ⟨j, n9, c9, A9, rfl, rfl, hkj, hjl, hn9, hnc9, HW, HB9⟩ := hrel
                    have HST := Lib.hid (show ∃ ALL t1 m1, ALL.length = n9 ∧ TxNew B0 wr (.slice A9 n9 c9) ALL ∧ gPr false ((bs p).drop (j + 1)) = some (t1, (bs p).drop m1) ∧ j + 1 ≤ m1 ∧ m1 < p.size ∧ gNm t1 ≤ 64 ∧ (gTx t1 [[]]).length = gNm t1 ∧ n9 + gNm t1 ≤ 64 ∧ (((bs p).getD m1 0 = 125 ∧ m1 + 1 = q ∧ ALL ++ gTx t1 [[]] = A) ∨ ((bs p).getD m1 0 = 44 ∧ ExW (bs p) q m1 A (ALL ++ gTx t1 [[]]))) by
                      obtain ⟨ALL, h1, h2, h3⟩ := HW.out
                      obtain ⟨t1, m1, a1, a2, a3, a4, a5, a6, a7⟩ := h3.step (by rw [HL.out]; exact hq2) (by rw [HL.out]; omega)
                      exact ⟨ALL, t1, m1, h1, h2, a1, a2, by rw [← HL.out]; exact a3, a4, a5, by rw [← h1]; exact a6, a7⟩)
                    obtain ⟨ALL, t1, m1, hall, htall, hgp, hjm, hmp, hgn, hgl, hng, hcase⟩ := HST.out
                    have hwj : IntKind.i64.wrap ((j : Int) + 1) = ((j + 1 : Nat) : Int) := by rw [IntKind.wrap_i64]; omega
                    have EC := EX.out (j + 1) t1 m1 (by omega) (by omega) hgp (by omega) hgn wr
                    obtain ⟨P, hP⟩ : ∃ P, gTx t1 [[]] = P := ⟨_, rfl⟩
                    rw [hP] at EC hgl hcase
                    have hPl : n9 + P.length ≤ 64 := by rw [hgl]; exact hng
                    obtain ⟨np, hnp⟩ : ∃ np, P.length = np := ⟨_, rfl⟩
                    rw [hnp] at hPl
                    have HNP := Lib.hid hnp
                    have HEC := Lib.hid EC; have HAL := Lib.hid hall; have HTA := Lib.hid htall; have HCS := Lib.hid hcase
                    obtain ⟨e, hee, y0, hec⟩ := bs_get hmp
                    have hmi : (m1 : Int) < (p.size : Int) := by omega
                    have hwm : IntKind.i64.wrap ((m1 : Int) + 1) = ((m1 + 1 : Nat) : Int) := by rw [IntKind.wrap_i64]; omega
                    have HEE := Lib.hid hee
                    clear hall htall hgp hgn hgl hng hcase EC hP hnp hee HST HW
                    go_wp2_with fail
                    refine HEC.out.mono ?_; rintro _ w3 ⟨v3, rfl, htx, hb3⟩
                    have HB3 := Lib.hid (HB9.out.trans (hb3.mono (by have := HB9.out.size; rw [HB0E.out] at this; exact this)))
                    have HOW := Lib.hid (show w3.ownsRow B0 9 1 (.slice A9 n9 c9) n9 (txC ALL) by have := HTA.out.below hb3; unfold TxNew at this; rw [HAL.out] at this; exact this)
                    obtain ⟨A3', c3', rfl, hc3, -⟩ := htx.form
                    have HRD := Lib.hid htx.reads
                    rw [HNP.out] at hc3 HRD ⊢
                    have HS3 := Lib.hid (show B0 ≤ w3.heap.size from by have := HB3.out.size; rw [HB0E.out] at this; exact this)
                    clear hb3 HEC htx
                    by_cases h125 : e = 125
                    · have b125e : ((e : Int) == 125) = true := by rw [h125]; rfl
                      have HE1 := Lib.hid h125
                      clear h125
                      as_aux_lemma =>
                        go_wp2_with (at_builtin; refine wpList_append_any _ rfl (.tmp 72) (.tmp 73) _ rfl B0 9 i0 (.string ⟨#[]⟩) 1 16 Tryz.underlying27 hi0 hz0 hzz1 hzz2 rfl (by decide) (.slice A9 n9 c9) n9 (txC ALL) rfl HOW.out _ A3' np c3' (txC P) rfl HRD.out (txC_one P) (by simp only [maxLen]; omega) (by omega) HS3.out ?_; intro v6 w6 hown6 hg6 hat6)
                        obtain ⟨A6, c6, hv6, hc6, -⟩ := own_form hown6
                        subst hv6
                        have hlow : Below B0 w3 w6 := Below.grown (Below.refl _ w3) hg6 HS3.out (fun k e => (World.ownsRow.lt HOW.out k e).1)
                        have HB6 := Lib.hid (HB3.out.trans hlow)
                        have HN6 := Lib.hid (TxNew.push (ls := ALL) (ms := P) (by rw [HAL.out, HNP.out]; exact hown6))
                        clear hown6 hg6 hat6 hlow
                        obtain ⟨rfl, hAA⟩ : m1 + 1 = q ∧ ALL ++ P = A := by
                          rcases HCS.out with ⟨_, h2, h3⟩ | ⟨h1, _⟩
                          · exact ⟨h2, h3⟩
                          · rw [HEE.out, HE1.out] at h1; omega
                        have e8 : n9 + np = na := by rw [← HNA.out, ← hAA, List.length_append, HAL.out, HNP.out]
                        have HN7 := Lib.hid (show TxNew B0 w6 (.slice A6 na c6) A by have := HN6.out; rw [hAA, e8] at this; exact this)
                        rw [e8] at hc6 ⊢
                        have HBX := Lib.hid (show Below w.heap.size w w6 from HBR0.out.trans (HB6.out.mono HSB.out))
                        have HT7 := Lib.hid (show TxNew w.heap.size w6 (.slice (some ⟨g, 0, none⟩) N c) OUT from HT.out.below (by have := HB6.out; rw [← HB0E.out] at this; exact this))
                        clear e8 hAA HN6 HCS HOW HRD
                        obtain ⟨g9, hA6, hx9⟩ : ∃ g9, A6 = some ⟨g9, 0, none⟩ ∧ TxAt w6 g9 A := by
                          obtain ⟨A', c', hv, _, hx⟩ := HN7.out.form
                          injection hv with e1 _ _
                          obtain ⟨g9, h1, _, _, h2⟩ := hx (by rw [HNA.out]; omega)
                          exact ⟨g9, e1.trans h1, h2⟩
                        subst hA6
                        obtain ⟨_, _, hx7⟩ := HT7.out.form
                        have HG7 := Lib.hid (show TxAt w6 g OUT by
                          obtain ⟨A', c', hv, _, hx⟩ := HT7.out.form
                          injection hv with e1 _ _
                          obtain ⟨g9, h1, _, _, h2⟩ := hx (by rw [HO.out]; omega)
                          rw [h1] at e1
                          injection e1 with e1
                          injection e1 with e1 _
                          rw [e1]; exact h2)
                        have HG9 := Lib.hid hx9
                        obtain ⟨B7, hB7⟩ : ∃ B7, w6.heap.size = B7 := ⟨_, rfl⟩
                        have HB7E := Lib.hid hB7
                        have HS7 := Lib.hid (show w.heap.size ≤ B7 by rw [← hB7]; exact HBX.out.size)
                        clear hx9 hx7 hB7
                        go_wp2_with fail
                        try simp only [b125e]
                        go_loopw [12, 13, 14] (fun v12 v13 _ wq => ∃ (i r : Nat) (A7 : Option Addr) (c7 : Nat), i ≤ N ∧ v12 = .slice A7 r c7 ∧ v13 = .int .i64 (i : Nat) ∧ r = i * na ∧ r ≤ c7 ∧ Hid (Below B7 w6 wq) ∧ Hid (TxNew B7 wq (.slice A7 r c7) (longer (OUT.take i) A)) ∧ Hid ((longer (OUT.take i) A).length = r)) (fun _ v13 _ _ => N - (intOf v13).toNat)
                        case atStart => exact ⟨0, 0, none, 0, Nat.zero_le _, rfl, rfl, by omega, Nat.le_refl _, Below.refl _ _, TxNew.nil _ _, rfl⟩
                        case round =>
                          as_aux_lemma =>
                            obtain ⟨i, r, A7, c7, hi, rfl, rfl, hr, hrc, HBI, HNI, HLI⟩ := hrel
                            by_cases hil : i < N
                            · as_aux_lemma =>
                                have hii : (i : Int) < (N : Int) := by omega
                                have hjm : i * na + na ≤ N * na := by
                                  have := Nat.mul_le_mul_right na (show i + 1 ≤ N by omega)
                                  rw [Nat.add_mul, Nat.one_mul] at this
                                  exact this
                                obtain ⟨y, hy⟩ : ∃ y, OUT[i]? = some y := ⟨_, List.getElem?_eq_getElem (by rw [HO.out]; exact hil)⟩
                                have HYO := Lib.hid (HG7.out i y hy)
                                obtain ⟨Y, hY⟩ : ∃ Y, str y = Y := ⟨_, rfl⟩
                                rw [hY] at HYO
                                have HYY := Lib.hid hY
                                have HYM := Lib.hid (show y ∈ OUT from List.mem_of_getElem? hy)
                                have HSN := Lib.hid (show longer (OUT.take (i + 1)) A = longer (OUT.take i) A ++ A.map (y ++ ·) by rw [take_snoc' hy, longer_snoc])
                                clear hy hY
                                go_wp2_with fail
                                go_loopw [12, 14] (fun v12 v14 wq => ∃ (l r2 : Nat) (A8 : Option Addr) (c8 : Nat), l ≤ na ∧ v12 = .slice A8 r2 c8 ∧ v14 = .int .i64 (l : Nat) ∧ r2 = i * na + l ∧ r2 ≤ c8 ∧ Hid (Below B7 w6 wq) ∧ Hid (TxNew B7 wq (.slice A8 r2 c8) (longer (OUT.take i) A ++ (A.take l).map (y ++ ·))) ∧ Hid ((longer (OUT.take i) A ++ (A.take l).map (y ++ ·)).length = r2)) (fun _ v14 _ => na - (intOf v14).toNat)
                                case atStart => exact ⟨0, r, A7, c7, Nat.zero_le _, rfl, rfl, by omega, hrc, HBI.out, by rw [List.take_zero, List.map_nil, List.append_nil]; exact HNI.out, by rw [List.take_zero, List.map_nil, List.append_nil]; exact HLI.out⟩
                                case round =>
                                  as_aux_lemma =>
                                    obtain ⟨l, r2, A8, c8, hl, rfl, rfl, hr2, hrc8, HBL, HNL, HLL⟩ := hrel
                                    by_cases hll : l < na
                                    · as_aux_lemma =>
                                        have hlli : (l : Int) < (na : Int) := by omega
                                        obtain ⟨t2, ht2⟩ : ∃ t2, A[l]? = some t2 := ⟨_, List.getElem?_eq_getElem (by rw [HNA.out]; exact hll)⟩
                                        have hbl2 : Below w6.heap.size w6 wr := by have := HBL.out; rw [← HB7E.out] at this; exact this
                                        have z0 := cellb hbl2 HYO.out
                                        have z1 := cellb hbl2 (HG9.out l t2 ht2)
                                        have hsz : ¬ 9223372036854775807 < Y.size + (str t2).size := by
                                          have h1 := HLEN.out y HYM.out t2 (List.mem_of_getElem? ht2)
                                          rw [← HYY.out, str_size, str_size]
                                          omega
                                        have hYT : Y ++ str t2 = str (y ++ t2) := by rw [← HYY.out, str_append]
                                        have z6 := HG9.out l t2 ht2
                                        obtain ⟨T, hT⟩ : ∃ T, str t2 = T := ⟨_, rfl⟩
                                        rw [hT] at z1 hYT hsz z6
                                        have HZ6 := Lib.hid z6
                                        have HYT := Lib.hid hYT
                                        obtain ⟨ls, hls⟩ : ∃ ls, longer (OUT.take i) A ++ (A.take l).map (y ++ ·) = ls := ⟨_, rfl⟩
                                        rw [hls] at HNL HLL
                                        have HLS := Lib.hid (show longer (OUT.take i) A ++ (A.take (l + 1)).map (y ++ ·) = ls ++ [y ++ t2] by rw [take_snoc' ht2, List.map_append, ← List.append_assoc, hls]; rfl)
                                        have HOW := Lib.hid (show wr.ownsRow B7 9 1 (.slice A8 r2 c8) r2 (txC ls) by have := HNL.out; unfold TxNew at this; rw [HLL.out] at this; exact this)
                                        have hq64 : r2 + 1 ≤ 64 := by omega
                                        have HR2 := Lib.hid hr2
                                        have HSI := Lib.hid (show B7 ≤ wr.heap.size from by have := hbl2.size; rw [HB7E.out] at this; exact this)
                                        have hNci : (i : Int) < (c : Int) := by omega
                                        have hlci : (l : Int) < (c6 : Int) := by omega
                                        clear ht2 hYT hT hls hbl2 hr2 z6
                                        have HOWD := Lib.hid (show (wr.alloc (.cells #[.string (Y ++ T)] 9)).drew.ownsRow B7 9 1 (.slice A8 r2 c8) r2 (txC ls) from World.ownsRow.alloc HOW.out _)
                                        have HBD := Lib.hid (show Below B7 w6 wr.drew from HBL.out.drew)
                                        have HSD := Lib.hid (show B7 ≤ wr.drew.heap.size from HSI.out)
                                        have HB63 := Lib.hid (show r2 + 1 ≤ maxLen by simp only [maxLen]; omega)
                                        have HB48 := Lib.hid (show (r2 + 1) * 16 ≤ 140737488355328 by omega)
                                        have HBA := Lib.hid (show B7 ≤ (wr.alloc (.cells #[.string (Y ++ T)] 9)).drew.heap.size by show B7 ≤ (wr.alloc (.cells #[.string (Y ++ T)] 9)).heap.size; have := HSI.out; simp; omega)
                                        have HRDS := Lib.hid (show Reads (wr.alloc (.cells #[.string (Y ++ T)] 9)).drew (wr.alloc (.cells #[.string (Y ++ T)] 9)).drew.heap.size 1 (some ⟨wr.heap.size, 0, none⟩) 1 [.string (Y ++ T)] from Reads.of_own (World.ownsRow_lit (base := 0) (e := 9) (size := 1) wr #[.string (Y ++ T)] 1 (Nat.zero_le _) (by decide) rfl))
                                        have HNW1 := Lib.hid (show ∀ u ∈ [Value.string (Y ++ T)], u.oneCell' = true by simp [Value.oneCell'])
                                        go_wp2_with fail
                                        go_region_held3 (fun y' => y'.cell? ⟨g, i, none⟩ = some (.string Y) ∧ y'.cell? ⟨g9, l, none⟩ = some (.string T))
                                          (first | exact ⟨s0, s1⟩ | go_keep | assumption | exact ⟨z0, z1⟩)
                                          ((refine step_append_any _ (by rfl) (.tmp 94) (.tmp 104) 27 (by rfl) B7 9 i0 (.string ⟨#[]⟩) 1 16 Tryz.underlying27 hi0 hz0 hzz1 hzz2 rfl (by decide) (.slice A8 r2 c8) r2 (txC ls) (by rfl) HOWD.out _ (some ⟨wr.heap.size, 0, none⟩) 1 1 [.string (Y ++ T)] (by rfl) HRDS.out HNW1.out HB63.out HB48.out HBA.out ?_; intro v7 w7 hown7 hg7 hat7; obtain ⟨A10, c10, hv7, hc10, -⟩ := own_form hown7; subst hv7; have HLW := Lib.hid (show Below B7 w6 w7 from HBL.out.drew.trans (Below.grown ((Below.refl _ wr.drew).alloc HSI.out _) (show (wr.drew.alloc (.cells #[.string (Y ++ T)] 9)).grownBy w7 (Value.slice A8 r2 c8).ownBlock from hg7) HBA.out (fun k e => (World.ownsRow.lt HOW.out k e).1))); have hblw : Below w6.heap.size w6 w7 := (by have := HLW.out; rw [← HB7E.out] at this; exact this); have s0 := cellb hblw HYO.out; have s1 := cellb hblw HZ6.out))
                                        all_goals
                                          have HN8 := Lib.hid (TxNew.push (ls := ls) (ms := [y ++ t2]) (by rw [HLL.out]; show w7.ownsRow _ _ _ _ _ (txC ls ++ [.string (str (y ++ t2))]); rw [← HYT.out]; exact hown7))
                                          clear hown7 hg7 hat7
                                          go_wp2
                                          go_roundw
                                          case rel => exact ⟨l + 1, r2 + 1, A10, c10, by omega, rfl, by go_num, by have := HR2.out; omega, hc10, HLW.out, by rw [HLS.out]; exact HN8.out, by rw [HLS.out, List.length_append, HLL.out]; rfl⟩
                                          case measure => first | (simp [intOf]; done) | (simp [intOf]; omega)
                                    · as_aux_lemma =>
                                        obtain rfl : l = na := by omega
                                        have e9 : (A.take l).map (y ++ ·) = A.map (y ++ ·) := by rw [List.take_of_length_le (by rw [HNA.out]; exact Nat.le_refl _)]
                                        rw [e9, ← HSN.out] at HNL HLL
                                        clear e9
                                        go_wp2
                                        go_roundw
                                        case rel => exact ⟨i + 1, r2, A8, c8, by omega, rfl, by go_num, by rw [Nat.add_mul, Nat.one_mul]; exact hr2, hrc8, HBL.out, HNL.out, HLL.out⟩
                                        case measure => first | (simp [intOf]; done) | (simp [intOf]; omega)
                            · as_aux_lemma =>
                                obtain rfl : i = N := by omega
                                have e9 : OUT.take i = OUT := List.take_of_length_le (by rw [HO.out]; exact Nat.le_refl _)
                                rw [e9] at HNI HLI
                                have HBZ := Lib.hid (show Below w.heap.size w wr from HBX.out.trans (HBI.out.mono HS7.out))
                                have HNZ := Lib.hid (HNI.out.mono HS7.out)
                                have hr1 : 1 ≤ r := by
                                  have := Nat.mul_le_mul hN1 hA1
                                  omega
                                have hr64 : r ≤ 64 := by omega
                                obtain ⟨g10, hA7⟩ : ∃ g10, A7 = some ⟨g10, 0, none⟩ := by
                                  obtain ⟨A', c', hv, _, hx⟩ := HNI.out.form
                                  injection hv with e1 _ _
                                  obtain ⟨g9, h1, _⟩ := hx (by rw [HLI.out]; omega)
                                  exact ⟨g9, e1.trans h1⟩
                                subst hA7
                                clear e9
                                go_wp2
                                go_roundw
                                case rel => exact ⟨m1 + 1, g10, r, c7, rfl, rfl, by omega, hq2, hr1, hr64, hrc, ⟨longer OUT A, HLI.out, HNZ.out, HX8.out⟩, HBZ.out⟩
                                case measure => first | (simp [intOf]; done) | (simp [intOf]; omega)
                    · as_aux_lemma =>
                        have h44 : e = 44 := by
                          rcases HCS.out with ⟨h1, _⟩ | ⟨h1, _⟩
                          · rw [HEE.out] at h1; exact absurd h1 h125
                          · rw [HEE.out] at h1; exact h1
                        have b125e : ((e : Int) == 125) = false := beq_false_of_ne (by omega)
                        have i125e : ¬ (e : Int) = 125 := by omega
                        have HWN := Lib.hid (show ExW (bs p) q m1 A (ALL ++ P) by
                          rcases HCS.out with ⟨h1, _⟩ | ⟨_, h2⟩
                          · rw [HEE.out] at h1; exact absurd h1 h125
                          · exact h2)
                        have HCS2 := HCS
                        clear HCS h44 h125
                        go_wp2_with (at_builtin; refine wpList_append_any _ rfl (.tmp 72) (.tmp 73) _ rfl B0 9 i0 (.string ⟨#[]⟩) 1 16 Tryz.underlying27 hi0 hz0 hzz1 hzz2 rfl (by decide) (.slice A9 n9 c9) n9 (txC ALL) rfl HOW.out _ A3' np c3' (txC P) rfl HRD.out (txC_one P) (by simp only [maxLen]; omega) (by omega) HS3.out ?_; intro v6 w6 hown6 hg6 hat6)
                        obtain ⟨A6, c6, hv6, hc6, -⟩ := own_form hown6
                        subst hv6
                        have hlow : Below B0 w3 w6 := Below.grown (Below.refl _ w3) hg6 HS3.out (fun k e => (World.ownsRow.lt HOW.out k e).1)
                        have HB6 := Lib.hid (HB3.out.trans hlow)
                        have HN6 := Lib.hid (TxNew.push (ls := ALL) (ms := P) (by rw [HAL.out, HNP.out]; exact hown6))
                        clear hown6 hg6 hat6 hlow
                        clear HOW HRD HCS2
                        go_wp2
                        go_roundw
                        case rel => exact ⟨m1, n9 + np, c6, A6, rfl, rfl, by omega, hmp, hPl, hc6, ⟨ALL ++ P, by rw [List.length_append, HAL.out, HNP.out], HN6.out, HWN.out⟩, HB6.out⟩
                        case measure => first | (simp [intOf]; done) | (simp [intOf]; omega)
            · have i123 : ¬ (b : Int) = 123 := by omega
              have b123 : ((b : Int) != 123) = true := bne_iff_ne.2 i123
              have HAT := Lib.hid (show ∃ OUT x j, OUT.length = N ∧ TxNew w.heap.size wr (.slice (some ⟨g, 0, none⟩) N c) OUT ∧ gAt ((bs p).drop k) = some (x, j) ∧ x.txt = ((bs p).drop k).take j ∧ 1 ≤ j ∧ k + j ≤ p.size ∧ ExI (bs p) m (k + j) G (OUT.map (· ++ x.txt)) ∧ ∀ y ∈ OUT, y.length ≤ 128 by
                obtain ⟨OUT, ho, ht, hx⟩ := HI.out
                obtain ⟨x, j, h1, h2, h3, h4, h5⟩ := hx.atom (by rw [HL.out]; exact hm) (by rw [HL.out]; exact hlt) HC.out (by omega) h123
                exact ⟨OUT, x, j, ho, ht, h1, h2, h3, by rw [← HL.out]; exact h4, h5, fun y hy => by have := hx.len y hy; omega⟩)
              obtain ⟨OUT, x, j, ho, ht, hg, hxt, hj1, hkj, hx5, hyl⟩ := HAT.out
              have HO := Lib.hid ho; have HT := Lib.hid ht; have HX5 := Lib.hid hx5; have HYL := Lib.hid hyl
              have hkji : (k : Int) ≤ ((k + j : Nat) : Int) := by omega
              have hkjs : ((k + j : Nat) : Int) ≤ (p.size : Int) := by omega
              have hps : (p.extract k (k + j)).size = j := by rw [← bs_length, bs_extract, List.length_take, List.length_drop, HL.out]; omega
              have HXT := Lib.hid (show str x.txt = p.extract k (k + j) by
                rw [hxt, ← str_bs (p.extract k (k + j)), bs_extract, show k + j - k = j by omega])
              have HPS := Lib.hid hps
              by_cases h91 : b = 91
              · subst h91
                as_aux_lemma =>
                  have CC := CL.out (k + 1) (by omega) wr
                  have hcv : clsV (bs p) (k + 1) = ((k + j : Nat) : Int) := by
                    rcases gAt_cls (s := bs p) (k := k) (by rw [HL.out]; exact hlt) HC.out with ⟨_, hn⟩ | ⟨x', j', hv, _, _, hx'⟩
                    · rw [hg] at hn; cases hn
                    · rw [hg] at hx'
                      rw [hv, (Prod.mk.inj (Option.some.inj hx')).2]
                  rw [hcv] at CC
                  have HCC := Lib.hid CC
                  clear CC hcv hg hxt hx5 hyl ho ht HAT HI hps
                  go_wp2_with fail
                  refine HCC.out.mono ?_; rintro _ w2 ⟨rfl, hb2⟩
                  have HT2 := Lib.hid (HT.out.below hb2)
                  have HB2 := Lib.hid (bnext HB.out hb2)
                  clear hb2
                  go_wp2_with fail
                  go_loopw [8] (fun v8 wq => ∃ i : Nat, v8 = .int .i64 (i : Nat) ∧ i ≤ N ∧ Hid (TxNew w.heap.size wq (.slice (some ⟨g, 0, none⟩) N c) (mapTo (· ++ x.txt) OUT i)) ∧ Hid (Below w.heap.size w wq)) (fun v8 _ => N - (intOf v8).toNat)
                  case atStart => exact ⟨0, rfl, Nat.zero_le _, HT2.out, HB2.out⟩
                  case round =>
                    as_aux_lemma =>
                      obtain ⟨i, rfl, hi, HTI, HBI⟩ := hrel
                      by_cases hil : i < N
                      · as_aux_lemma =>
                          have hii : (i : Int) < (N : Int) := by omega
                          obtain ⟨y, hy⟩ : ∃ y, OUT[i]? = some y := ⟨_, List.getElem?_eq_getElem (by rw [HO.out]; exact hil)⟩
                          have hmg := mapTo_get (· ++ x.txt) OUT i (by rw [HO.out]; exact hil)
                          have hms := mapTo_set (· ++ x.txt) OUT i y hy
                          have hml := mapTo_length (· ++ x.txt) OUT i
                          rw [hy] at hmg
                          have hyl := HYL.out y (List.mem_of_getElem? hy)
                          obtain ⟨g', c', hv, _, hgB, hgl, hcs, hfz⟩ := own_at HTI.out (by rw [hml, HO.out]; omega)
                          injection hv with e1 e2 e3
                          injection e1 with e1
                          injection e1 with e1 _
                          subst e1
                          have z0 := hcs i (.string (str y)) (by unfold txC; rw [List.getElem?_map, hmg]; rfl)
                          have f0 := hfz i
                          have HNX := Lib.hid (show TxNew w.heap.size (wr.setCell ⟨g, i, none⟩ (.string (str (y ++ x.txt)))) (.slice (some ⟨g, 0, none⟩) N c) (mapTo (· ++ x.txt) OUT (i + 1)) by
                            rw [← hms]
                            exact TxNew.set HTI.out (by rw [hml, HO.out]) (y ++ x.txt))
                          obtain ⟨Y, hY⟩ : ∃ Y, str y = Y := ⟨_, rfl⟩
                          have hyx : str (y ++ x.txt) = Y ++ p.extract k (k + j) := by rw [← str_append, hY, HXT.out]
                          rw [hyx] at HNX
                          have hYs : Y.size ≤ 128 := by rw [← hY, str_size]; exact hyl
                          rw [hY] at z0
                          have hov : ¬ 9223372036854775807 < Y.size + (p.extract k (k + j)).size := by rw [HPS.out]; omega
                          have HBS := Lib.hid (show Below w.heap.size w (wr.setCell ⟨g, i, none⟩ (.string (Y ++ p.extract k (k + j)))) from HBI.out.setCell (p := ⟨g, i, none⟩) hgB _)
                          have hNci : (i : Int) < (c : Int) := by omega
                          clear hy hmg hms hml hyl hcs hfz hY hyx e2 e3 hgl
                          go_wp2
                          go_region
                          go_wp2
                          go_roundw
                          case rel => exact ⟨i + 1, by go_num, by omega, HNX.out.below (Below.refl _ _).drew, HBS.out.drew⟩
                          case measure => first | (simp [intOf]; done) | (simp [intOf]; omega)
                      · as_aux_lemma =>
                          obtain rfl : i = N := by omega
                          have e9 : mapTo (· ++ x.txt) OUT i = OUT.map (· ++ x.txt) := by rw [← HO.out, mapTo_all]
                          rw [e9] at HTI
                          clear e9
                          go_wp2
                          go_roundw
                          case rel => exact ⟨k + j, g, i, c, rfl, rfl, by omega, hkj, hN1, hN64, hNc, ⟨_, by rw [List.length_map, HO.out], HTI.out, HX5.out⟩, HBI.out⟩
                          case measure => first | (simp [intOf]; done) | (simp [intOf]; omega)
              · as_aux_lemma =>
                  have i91 : ¬ (b : Int) = 91 := by omega
                  have b91 : ((b : Int) == 91) = false := beq_false_of_ne i91
                  have hj1e : j = 1 := gAt_small (by rw [HL.out]; exact hlt) HC.out h91 hg
                  replace hwk : IntKind.i64.wrap ((k : Int) + 1) = ((k + j : Nat) : Int) := by rw [IntKind.wrap_i64]; omega
                  have HT2 := Lib.hid HT.out
                  have HB2 := Lib.hid HB.out
                  clear hg hxt hx5 hyl ho ht HAT HI hps hj1e
                  go_wp2_with fail
                  go_loopw [8] (fun v8 wq => ∃ i : Nat, v8 = .int .i64 (i : Nat) ∧ i ≤ N ∧ Hid (TxNew w.heap.size wq (.slice (some ⟨g, 0, none⟩) N c) (mapTo (· ++ x.txt) OUT i)) ∧ Hid (Below w.heap.size w wq)) (fun v8 _ => N - (intOf v8).toNat)
                  case atStart => exact ⟨0, rfl, Nat.zero_le _, HT2.out, HB2.out⟩
                  case round =>
                    as_aux_lemma =>
                      obtain ⟨i, rfl, hi, HTI, HBI⟩ := hrel
                      by_cases hil : i < N
                      · as_aux_lemma =>
                          have hii : (i : Int) < (N : Int) := by omega
                          obtain ⟨y, hy⟩ : ∃ y, OUT[i]? = some y := ⟨_, List.getElem?_eq_getElem (by rw [HO.out]; exact hil)⟩
                          have hmg := mapTo_get (· ++ x.txt) OUT i (by rw [HO.out]; exact hil)
                          have hms := mapTo_set (· ++ x.txt) OUT i y hy
                          have hml := mapTo_length (· ++ x.txt) OUT i
                          rw [hy] at hmg
                          have hyl := HYL.out y (List.mem_of_getElem? hy)
                          obtain ⟨g', c', hv, _, hgB, hgl, hcs, hfz⟩ := own_at HTI.out (by rw [hml, HO.out]; omega)
                          injection hv with e1 e2 e3
                          injection e1 with e1
                          injection e1 with e1 _
                          subst e1
                          have z0 := hcs i (.string (str y)) (by unfold txC; rw [List.getElem?_map, hmg]; rfl)
                          have f0 := hfz i
                          have HNX := Lib.hid (show TxNew w.heap.size (wr.setCell ⟨g, i, none⟩ (.string (str (y ++ x.txt)))) (.slice (some ⟨g, 0, none⟩) N c) (mapTo (· ++ x.txt) OUT (i + 1)) by
                            rw [← hms]
                            exact TxNew.set HTI.out (by rw [hml, HO.out]) (y ++ x.txt))
                          obtain ⟨Y, hY⟩ : ∃ Y, str y = Y := ⟨_, rfl⟩
                          have hyx : str (y ++ x.txt) = Y ++ p.extract k (k + j) := by rw [← str_append, hY, HXT.out]
                          rw [hyx] at HNX
                          have hYs : Y.size ≤ 128 := by rw [← hY, str_size]; exact hyl
                          rw [hY] at z0
                          have hov : ¬ 9223372036854775807 < Y.size + (p.extract k (k + j)).size := by rw [HPS.out]; omega
                          have HBS := Lib.hid (show Below w.heap.size w (wr.setCell ⟨g, i, none⟩ (.string (Y ++ p.extract k (k + j)))) from HBI.out.setCell (p := ⟨g, i, none⟩) hgB _)
                          have hNci : (i : Int) < (c : Int) := by omega
                          clear hy hmg hms hml hyl hcs hfz hY hyx e2 e3 hgl
                          go_wp2
                          go_region
                          go_wp2
                          go_roundw
                          case rel => exact ⟨i + 1, by go_num, by omega, HNX.out.below (Below.refl _ _).drew, HBS.out.drew⟩
                          case measure => first | (simp [intOf]; done) | (simp [intOf]; omega)
                      · as_aux_lemma =>
                          obtain rfl : i = N := by omega
                          have e9 : mapTo (· ++ x.txt) OUT i = OUT.map (· ++ x.txt) := by rw [← HO.out, mapTo_all]
                          rw [e9] at HTI
                          clear e9
                          go_wp2
                          go_roundw
                          case rel => exact ⟨k + j, g, i, c, rfl, rfl, by omega, hkj, hN1, hN64, hNc, ⟨_, by rw [List.length_map, HO.out], HTI.out, HX5.out⟩, HBI.out⟩
                          case measure => first | (simp [intOf]; done) | (simp [intOf]; omega)
      · as_aux_lemma =>
          obtain rfl : k = p.size := by omega
          have HE := Lib.hid (STOP.out (.inl (List.drop_eq_nil_of_le (by rw [HL.out]; exact Nat.le_refl _))))
          clear STOP
          go_wp2
          go_ret2
          obtain ⟨rfl, ht⟩ := HE.out
          exact ⟨_, rfl, ht, HB.out⟩
theorem expand_all (n : Nat) : ExpC n := Nat.strongRecOn n expand_step
end GR
end Go.Proofs.YtbfbjalnahngjaaGreatDoor
