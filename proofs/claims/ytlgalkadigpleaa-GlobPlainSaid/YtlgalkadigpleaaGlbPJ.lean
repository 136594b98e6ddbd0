/-
  Contracts of the program's functions of layer 15: texts.
-/
import Derived.Test.YtlgalkadigpleaaGlbPI
set_option linter.unusedSimpArgs false
set_option linter.unusedVariables false
namespace Go.Proofs.Ytlgalkadigpleaa.GP
open Go.RowKit
theorem ptexts_c {x : GA ⊕ Tr} {r : Tr} (hg : Good false (consT x r)) (hl : (gStr (consT x r)).length ≤ 900) (hnm : pcNm x ≤ 64) (H : AllW TxC (consT x r)) {kk : Nat} {s : ByteArray} {A1 A2 : Option Addr} {n1 c1 n2 c2 : Nat} {w : World} (h : PcR w kk s (.slice A1 n1 c1) (.slice A2 n2 c2) x) :
    Calls Try.prog 18 #[.agg #[.int .i64 (kk : Nat), .string s, .slice A1 n1 c1, .slice A2 n2 c2]] w fun e w' => ∃ v', e = .returned v' ∧ TxNew w.heap.size w' v' (pcTx x) ∧ Below w.heap.size w w' := by
  cases h with
  | atom a rv h => exact texts_atom a _ A1 n1 c1 rfl w
  | br ws wv h => exact texts_br ws hg.1 (by have := gStr_br ws r; simp only [consT] at hl; omega) hnm H.1 _ w h
theorem below_next {B : Nat} {a b c : World} (h : Below B a b) (k : Below b.heap.size b c) (hB : B ≤ b.heap.size) : Below B a c := h.trans (k.mono hB)
theorem pos_mul {a b : Nat} (h : 1 ≤ b) : a ≤ a * b := by
  have := Nat.mul_le_mul (Nat.le_refl a) h
  omega
theorem pcTx_le {x : GA ⊕ Tr} {r : Tr} (h : Good false (consT x r)) {t : List Nat} (ht : t ∈ pcTx x) : t.length + (gStr r).length ≤ (gStr (consT x r)).length := by
  cases x with
  | inl a =>
    obtain rfl := List.mem_singleton.1 ht
    show _ ≤ (a.txt ++ gStr r).length
    rw [List.length_append]
    exact Nat.le_refl _
  | inr ws =>
    obtain ⟨e, he, rfl⟩ := ((gTx_mem ws).2 h.1 t).1 ht
    have := gEx_len ws (.inr h.1) e he
    have h2 := gStr_br ws r
    simp only [consT]
    omega
theorem pcNm_pos {x : GA ⊕ Tr} {r : Tr} (h : Good false (consT x r)) : 1 ≤ pcNm x := by
  cases x with
  | inl a => exact Nat.le_refl _
  | inr ws => exact (gNm_pos ws).2 h.1 h.2.1
set_option maxRecDepth 100000 in
set_option maxHeartbeats 4000000 in
theorem texts_of (l : Tr) (H : AllW TxC l) : TxC l := by
  intro hg hl hnm v w h
  have hn9 : l.len ≤ 900 := Nat.le_trans ((gStr_len l).1 hg).2 hl
  obtain ⟨A, c, rfl, hc, hx⟩ := h.form
  obtain ⟨n, hn⟩ : ∃ n, l.len = n := ⟨_, rfl⟩
  rw [hn] at hc hx hn9 ⊢
  obtain ⟨R, hR⟩ : ∃ R, gTx l [[]] = R := ⟨_, rfl⟩
  rw [hR]
  have HX := Lib.hid hx; have HGL := Lib.hid (show Good false l ∧ AllW TxC l ∧ (gStr l).length ≤ 900 ∧ l.len = n ∧ gNm l ≤ 64 ∧ gTx l [[]] = R from ⟨hg, H, hl, hn, hnm, hR⟩)
  have HL := Lib.hid (TxNew.lit (w := w) (Nat.le_refl _) [])
  have HBX := Lib.hid (alloc_below w (.cells #[.string (str [])] 9))
  obtain ⟨i0, hi0, hz0, hzz1, hzz2⟩ := info_parts tx_info
  clear hx hR h hg H hl hn hnm
  go_enter Try.func13, Try.ntmps13
  go_wp2_with fail
  obtain ⟨w1, hw1⟩ : ∃ w1, (w.alloc (.cells #[.string (str [])] 9)) = w1 := ⟨_, rfl⟩
  rw [hw1] at HL HBX
  rw [show (w.alloc (.cells #[.string ⟨#[]⟩] 9)) = w1 from hw1]
  clear hw1
  go_loopw [3, 5, 6, 7, 9, 11, 15] (fun v3 _ _ _ _ _ v15 wr => ∃ (k m : Nat) (A3 : Option Addr) (c3 : Nat), k ≤ n ∧ v3 = .slice A3 m c3 ∧ v15 = .int .i64 (k : Nat) ∧ m ≤ 64 ∧ 1 ≤ m ∧ m ≤ c3 ∧ Hid (Below w.heap.size w wr) ∧ Hid (∃ t acc, (k < n → ∀ g, A = some ⟨g, 0, none⟩ → Sx w g k t) ∧ t.len + k = n ∧ Good false t ∧ AllW TxC t ∧ (gStr t).length ≤ 900 ∧ acc.length = m ∧ TxNew w.heap.size wr (.slice A3 m c3) acc ∧ m * gNm t ≤ 64 ∧ gTx t acc = R ∧ ∀ y ∈ acc, y.length + (gStr t).length ≤ 900)) (fun _ _ _ _ _ _ v15 _ => n - (intOf v15).toNat)
  case atStart =>
    refine ⟨0, 1, _, _, Nat.zero_le _, rfl, rfl, by omega, by omega, by omega, HBX.out, l, [[]], fun hk g hg => ?_, by have := HGL.out.2.2.2.1; omega, HGL.out.1, HGL.out.2.1, HGL.out.2.2.1, rfl, HL.out, by have := HGL.out.2.2.2.2.1; omega, HGL.out.2.2.2.2.2, fun y hy => by obtain rfl := List.mem_singleton.1 hy; have := HGL.out.2.2.1; simp only [List.length_nil]; omega⟩
    obtain ⟨g', hg', hs⟩ := HX.out hk
    rw [hg'] at hg
    injection hg with hg
    injection hg with hg
    subst hg
    exact hs
  case round =>
    as_aux_lemma =>
      obtain ⟨k, m, A3, c3, hk, rfl, rfl, hm, hm1, hmc, HB, HT⟩ := hrel
      by_cases hlt : k < n
      · as_aux_lemma =>
          obtain ⟨t, acc, hsx, htl, htg, hta, hts, hal, hnew, hnm, htc, hbd⟩ := HT.out
          obtain ⟨g, rfl, -⟩ := HX.out (by omega)
          obtain ⟨x, r, kk, s, A1, A2, n1, c1, n2, c2, rfl, q0, q1, q2, q3, hpc, hsr⟩ := (hsx hlt g rfl).next htg (by omega)
          have y0 := cellb HB.out q0; have y1 := cellb HB.out q1; have y2 := cellb HB.out q2; have y3 := cellb HB.out q3
          have hrg := consT_good htg
          rw [consT_len] at htl
          rw [gNm_cons] at hnm
          rw [gTx_cons] at htc
          have hgr := (gNm_pos r).1 hrg
          have hpl := pcTx_length htg
          have hmn : m * pcNm x ≤ 64 := Nat.le_trans (pos_mul hgr) (by rw [Nat.mul_assoc]; exact hnm)
          have hng : m * pcNm x * gNm r ≤ 64 := by rw [Nat.mul_assoc]; exact hnm
          have hpn := pcNm_pos htg
          have hn64 : pcNm x ≤ 64 := Nat.le_trans (by rw [Nat.mul_comm]; exact pos_mul hm1) hmn
          have CP := fun (W : World) (hW : Below wr.heap.size wr W) => ptexts_c htg hts hn64 hta ((hpc.below HB.out).below hW)
          obtain ⟨P, hP⟩ : ∃ P, pcTx x = P := ⟨_, rfl⟩
          rw [hP] at CP htc hpl
          obtain ⟨nb, hnb⟩ : ∃ nb, pcNm x = nb := ⟨_, rfl⟩
          rw [hnb] at hpl hmn hng hpn hn64
          have HCP := Lib.hid CP
          have HRR := Lib.hid (show (k + 1 < n → ∀ g', some (⟨g, 0, none⟩ : Addr) = some ⟨g', 0, none⟩ → Sx w g' (k + 1) r) ∧ r.len + (k + 1) = n ∧ Good false r ∧ AllW TxC r ∧ (gStr r).length ≤ 900 ∧ m * nb * gNm r ≤ 64 ∧ gTx r (longer acc P) = R ∧ (∀ y ∈ longer acc P, y.length + (gStr r).length ≤ 900) ∧ ∀ y ∈ acc, ∀ t ∈ P, y.length + t.length ≤ 900 from
            ⟨fun _ g' e => by injection e with e; injection e with e; subst e; exact hsr, by omega, hrg, by cases x with | inl a => exact hta | inr ws => exact hta.2, by
              cases x with
              | inl a => have : (gStr (Tr.atom a r)).length = a.txt.length + (gStr r).length := List.length_append; simp only [consT] at hts; omega
              | inr ws => have := gStr_br ws r; simp only [consT] at hts; omega, hng, htc, fun y hy => by
              obtain ⟨a, ha, hm⟩ := List.mem_flatMap.1 hy
              obtain ⟨b, hb, rfl⟩ := List.mem_map.1 hm
              have h1 := hbd a ha
              have h2 := pcTx_le htg (hP ▸ hb)
              rw [List.length_append]
              omega, fun y hy t ht => by
              have h1 := hbd y hy
              have h2 := pcTx_le htg (hP ▸ ht)
              omega⟩)
          have HAL := Lib.hid hal; have HNW := Lib.hid hnew; have HPL := Lib.hid hpl
          clear hsx htl htg hta hts hal hnew hnm htc hbd q0 q1 q2 q3 hpc hsr hrg hgr hpl hng hP hnb CP HT
          go_wp2_with fail
          have HB1 := Lib.hid (alloc_below wr (.cells #[.int .i64 (kk : Nat), .string s, .slice A1 n1 c1, .slice A2 n2 c2] 49))
          refine (HCP.out _ HB1.out).mono ?_; rintro _ w2 ⟨v2, rfl, htx, hb2⟩
          have HB2 := Lib.hid (show Below wr.heap.size wr w2 from bnext HB1.out hb2)
          have HBW := Lib.hid (bnext HB.out HB2.out)
          have HNP := Lib.hid htx
          obtain ⟨A4, c4, rfl, hc4, hx4⟩ := htx.form
          rw [HPL.out] at hc4 hx4 HNP ⊢
          have HX4 := Lib.hid (fun (h : 0 < nb) => show ∃ g, A4 = some ⟨g, 0, none⟩ ∧ TxAt w2 g P by obtain ⟨g, e, _, _, h⟩ := hx4 h; exact ⟨g, e, h⟩)
          have HX3 := Lib.hid (show ∃ g, A3 = some ⟨g, 0, none⟩ ∧ TxAt w2 g acc by
            obtain ⟨A', c', hv, _, hx⟩ := (HNW.out.below HB2.out).form
            injection hv with e1 _ _
            subst e1
            obtain ⟨g, e, _, _, h⟩ := hx (by rw [HAL.out]; omega)
            exact ⟨g, e, h⟩)
          have HS2 := Lib.hid (show w.heap.size ≤ w2.heap.size from HBW.out.size)
          clear htx hx4 hb2 HCP HB1 HNP HNW
          obtain ⟨g3, rfl, hg3⟩ := HX3.out
          have HG3 := Lib.hid hg3
          clear hg3 HX3
          go_wp2_with fail
          go_loopw [7, 9, 11, 23] (fun v7 _ _ v23 wq => ∃ (j q : Nat) (A7 : Option Addr) (c7 : Nat), j ≤ m ∧ v7 = .slice A7 q c7 ∧ v23 = .int .i64 (j : Nat) ∧ q = j * nb ∧ Hid (Below w2.heap.size w2 wq) ∧ Hid (TxNew w2.heap.size wq (.slice A7 q c7) (longer (acc.take j) P)) ∧ Hid ((longer (acc.take j) P).length = q)) (fun _ _ _ v23 _ => m - (intOf v23).toNat)
          case atStart => exact ⟨0, 0, none, 0, Nat.zero_le _, rfl, rfl, by omega, Below.refl _ _, TxNew.nil _ _, rfl⟩
          case round =>
            as_aux_lemma =>
              obtain ⟨j, q, A7, c7, hj, rfl, rfl, hq, HBJ, HNJ, HLJ⟩ := hrel
              by_cases hjl : j < m
              · as_aux_lemma =>
                  have hjm : j * nb + nb ≤ m * nb := by
                    have := Nat.mul_le_mul_right nb (show j + 1 ≤ m by omega)
                    rw [Nat.add_mul, Nat.one_mul] at this
                    exact this
                  obtain ⟨y, hy⟩ : ∃ y, acc[j]? = some y := ⟨_, List.getElem?_eq_getElem (by rw [HAL.out]; exact hjl)⟩
                  have z0 := cellb HBJ.out (HG3.out j y hy)
                  obtain ⟨Y, hY⟩ : ∃ Y, str y = Y := ⟨_, rfl⟩
                  rw [hY] at z0
                  have HYY := Lib.hid hY
                  have HYM := Lib.hid (show y ∈ acc from List.mem_of_getElem? hy)
                  have HSN := Lib.hid (show longer (acc.take (j + 1)) P = longer (acc.take j) P ++ P.map (y ++ ·) by rw [take_snoc' hy, longer_snoc])
                  obtain ⟨g4, rfl, hx4⟩ := HX4.out (by omega)
                  have HG4 := Lib.hid hx4
                  clear hy hY hx4
                  go_wp2_with fail
                  go_loopw [7, 11, 29] (fun v7 _ v29 wq => ∃ (i q2 : Nat) (A8 : Option Addr) (c8 : Nat), i ≤ nb ∧ v7 = .slice A8 q2 c8 ∧ v29 = .int .i64 (i : Nat) ∧ q2 = j * nb + i ∧ Hid (Below w2.heap.size w2 wq) ∧ Hid (TxNew w2.heap.size wq (.slice A8 q2 c8) (longer (acc.take j) P ++ (P.take i).map (y ++ ·))) ∧ Hid ((longer (acc.take j) P ++ (P.take i).map (y ++ ·)).length = q2)) (fun _ _ v29 _ => nb - (intOf v29).toNat)
                  case atStart => exact ⟨0, q, A7, c7, Nat.zero_le _, rfl, rfl, by omega, HBJ.out, by rw [List.take_zero, List.map_nil, List.append_nil]; exact HNJ.out, by rw [List.take_zero, List.map_nil, List.append_nil]; exact HLJ.out⟩
                  case round =>
                    as_aux_lemma =>
                      obtain ⟨i, q2, A8, c8, hi, rfl, rfl, hq2, HBI, HNI, HLI⟩ := hrel
                      by_cases hil : i < nb
                      · as_aux_lemma =>
                          obtain ⟨t, ht⟩ : ∃ t, P[i]? = some t := ⟨_, List.getElem?_eq_getElem (by rw [HPL.out]; exact hil)⟩
                          have z1 := cellb HBI.out (HG4.out i t ht)
                          have hsz : ¬ 9223372036854775807 < Y.size + (str t).size := by
                            have h1 := HRR.out.2.2.2.2.2.2.2.2 y HYM.out t (List.mem_of_getElem? ht)
                            rw [← HYY.out, str_size, str_size]
                            omega
                          have hYT : Y ++ str t = str (y ++ t) := by rw [← HYY.out, str_append]
                          obtain ⟨T, hT⟩ : ∃ T, str t = T := ⟨_, rfl⟩
                          rw [hT] at z1 hYT hsz
                          have HYT := Lib.hid hYT
                          obtain ⟨ls, hls⟩ : ∃ ls, longer (acc.take j) P ++ (P.take i).map (y ++ ·) = ls := ⟨_, rfl⟩
                          rw [hls] at HNI HLI
                          have HLS := Lib.hid (show longer (acc.take j) P ++ (P.take (i + 1)).map (y ++ ·) = ls ++ [y ++ t] by rw [take_snoc' ht, List.map_append, ← List.append_assoc, hls]; rfl)
                          have HOW := Lib.hid (show wr.ownsRow w2.heap.size 9 1 (.slice A8 q2 c8) q2 (txC ls) by have := HNI.out; unfold TxNew at this; rw [HLI.out] at this; exact this)
                          have hq64 : q2 + 1 ≤ 64 := by omega
                          have HSI := Lib.hid (show w2.heap.size ≤ wr.heap.size from HBI.out.size)
                          clear ht hYT hT hls
                          go_wp2_with (at_builtin; refine wpList_append_any _ rfl (.tmp 33) (.tmp 37) _ rfl w2.heap.size 9 i0 (.string ⟨#[]⟩) 1 16 Try.underlying26 hi0 hz0 hzz1 hzz2 rfl (by decide) (.slice A8 q2 c8) q2 (txC ls) rfl (World.ownsRow.alloc HOW.out _) _ (some ⟨wr.heap.size, 0, none⟩) 1 1 [.string (Y ++ T)] rfl (Reads.of_own (World.ownsRow_lit (base := 0) (e := 9) (size := 1) wr #[.string (Y ++ T)] 1 (Nat.zero_le _) (by decide) rfl)) (by simp [Value.oneCell']) (by simp only [maxLen]; omega) (by omega) (by have := HSI.out; simp; omega) ?_; intro v6 w6 hown6 hg6 hat6)
                          obtain ⟨A6, c6, hv6, -⟩ := own_form hown6
                          subst hv6
                          have hlow : Below w2.heap.size wr w6 := Below.grown ((Below.refl _ wr).alloc HSI.out _) hg6 (by have := HSI.out; simp; omega) (fun k e => (World.ownsRow.lt HOW.out k e).1)
                          have HB6 := Lib.hid (HBI.out.trans hlow)
                          have HN6 := Lib.hid (TxNew.push (ls := ls) (ms := [y ++ t]) (by rw [HLI.out]; show w6.ownsRow _ _ _ _ _ (txC ls ++ [.string (str (y ++ t))]); rw [← HYT.out]; exact hown6))
                          clear hown6 hg6 hat6 hlow
                          go_wp2
                          go_roundw
                          case rel => exact ⟨i + 1, q2 + 1, A6, c6, by omega, rfl, by go_num, by omega, HB6.out, by rw [HLS.out]; have := HN6.out; exact this, by rw [HLS.out, List.length_append, HLI.out]; rfl⟩
                          case measure => simp [intOf]; omega
                      · as_aux_lemma =>
                          obtain rfl : i = nb := by omega
                          have e9 : (P.take i).map (y ++ ·) = P.map (y ++ ·) := by rw [List.take_of_length_le (by rw [HPL.out]; exact Nat.le_refl _)]
                          rw [e9, ← HSN.out] at HNI HLI
                          clear e9
                          go_wp2
                          go_roundw
                          case rel => exact ⟨j + 1, q2, A8, c8, by omega, rfl, by go_num, by rw [Nat.add_mul, Nat.one_mul]; exact hq2, HBI.out, HNI.out, HLI.out⟩
                          case measure => simp [intOf]; omega
              · as_aux_lemma =>
                  obtain rfl : j = m := by omega
                  have e9 : acc.take j = acc := List.take_of_length_le (by rw [HAL.out]; exact Nat.le_refl _)
                  rw [e9] at HNJ HLJ
                  have HB9 := Lib.hid (HBW.out.trans (HBJ.out.mono HS2.out))
                  have HN9 := Lib.hid (HNJ.out.mono HS2.out)
                  obtain ⟨_, _, hv9, hc9, -⟩ := HNJ.out.form
                  rw [HLJ.out] at hv9 hc9
                  injection hv9 with _ _ e3
                  rw [← e3] at hc9
                  have hq64 : q ≤ 64 := by omega
                  have hq1 : 1 ≤ q := by
                    have := Nat.mul_le_mul hm1 hpn
                    omega
                  have HQR := Lib.hid (show q * gNm r ≤ 64 by rw [hq]; exact HRR.out.2.2.2.2.2.1)
                  clear e9 e3
                  go_wp2
                  go_roundw
                  case rel => exact ⟨k + 1, q, A7, c7, by omega, rfl, by go_num, hq64, hq1, hc9, HB9.out, r, longer acc P, HRR.out.1, HRR.out.2.1, HRR.out.2.2.1, HRR.out.2.2.2.1, HRR.out.2.2.2.2.1, HLJ.out, HN9.out, HQR.out, HRR.out.2.2.2.2.2.2.1, HRR.out.2.2.2.2.2.2.2.1⟩
                  case measure => simp [intOf]; omega
      · as_aux_lemma =>
          obtain rfl : k = n := by omega
          obtain ⟨t, acc, -, htl, htg, -, -, hal, hnew, hnm, htc, -⟩ := HT.out
          have : t = .nil := by
            cases t with
            | nil => rfl
            | atom a r => simp only [Tr.len] at htl; omega
            | br ws r => simp only [Tr.len] at htl; omega
            | none => exact htg.elim
            | way p ws => exact htg.elim
          subst this
          obtain rfl : acc = R := htc
          have HN := Lib.hid hnew
          clear hnew hal
          go_wp2
          go_ret
          exact ⟨_, rfl, HN.out, HB.out⟩
theorem texts_c (l : Tr) : TxC l := (tr_ind texts_of l).1
end Go.Proofs.Ytlgalkadigpleaa.GP
