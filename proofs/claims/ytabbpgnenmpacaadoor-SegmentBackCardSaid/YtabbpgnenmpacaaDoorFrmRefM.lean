/-
  Contracts of the document's own functions of layer 7 (isobarref07): Put, Take.
-/
import Derived.Test.YtabbpgnenmpacaaDoorFrmPAM
set_option linter.unusedSimpArgs false
set_option linter.unusedVariables false
namespace Go.Proofs.YtabbpgnenmpacaaDoor.FR
open Go.RowKit
open CR (below_next own_ge u8_wrap)
set_option maxRecDepth 100000 in
set_option maxHeartbeats 2000000 in
theorem put_c (v : Value) (l : List Nat) (hb : Bytes l) (w : World) (h : ByOut w v l) :
    Calls Tryd.prog 27 #[v] w fun e w' => ∃ v', e = .returned (.tuple #[v', .int .i64 (fPut l).2]) ∧ ByNew w.heap.size w' v' (fPut l).1 ∧ Below w.heap.size w w' := by
  obtain ⟨A, c, rfl, hc, hx⟩ := h
  have hR := reads_by hx
  obtain ⟨n, hln⟩ : ∃ n, l.length = n := ⟨_, rfl⟩
  rw [hln] at hc hR ⊢
  by_cases h0 : n = 0
  · have hk : fPut l = ([], 1) := by unfold fPut; rw [if_pos (by omega)]
    rw [hk]
    subst h0
    clear hk hx hR hln hb
    go_enter Tryd.func27, Tryd.ntmps27
    go_wp2
    exact bodyPost_ret (v := .tuple #[.slice none 0 0, .int .i64 1]) (by simp [results, Tryd.results27, go_sem]) rfl ⟨.slice none 0 0, rfl, ByNew.none _ _, Below.refl _ _⟩
  · have h0i : ¬ (n : Int) = 0 := by omega
    by_cases h5 : 512 < n
    · have hk : fPut l = ([], 12) := by unfold fPut; rw [if_neg (by omega), if_pos (by omega)]
      rw [hk]
      have h5i : (512 : Int) < (n : Int) := by omega
      clear hk hx hR hln hb h5 h0
      go_enter Tryd.func27, Tryd.ntmps27
      go_wp2
      exact bodyPost_ret (v := .tuple #[.slice none 0 0, .int .i64 12]) (by simp [results, Tryd.results27, go_sem]) rfl ⟨.slice none 0 0, rfl, ByNew.none _ _, Below.refl _ _⟩
    · have hk : fPut l = (fFrm l, 0) := by unfold fPut; rw [if_neg (by omega), if_neg (by omega)]
      rw [hk]
      have h5i : ¬ (512 : Int) < (n : Int) := by omega
      have PT := Lib.hid (fun (v1 : Value) (w1 : World) (h1 : ByOut w1 v1 (fBody l)) => CR.put_c v1 (fBody l) (by unfold fBody; simp; omega) (fBody_bytes hb) w1 h1)
      have hbd : ∀ (w' : World) (v' : Value) (B : Nat), w'.ownsRow B 5 1 v' (2 + n) ([.int .u8 ((n : Int) % 256), .int .u8 ((n : Int) / 256)] ++ bys l) → ByOut w' v' (fBody l) := by
        intro w' v' B h
        refine ByNew.out (B := B) ?_
        unfold ByNew fBody
        rw [List.length_cons, List.length_cons, hln, show n + 1 + 1 = 2 + n from by omega]
        have e0 : (n : Int) % 256 = ((n % 256 : Nat) : Int) := by omega
        have e1 : (n : Int) / 256 = ((n / 256 % 256 : Nat) : Int) := by omega
        rw [e0, e1] at h
        exact h
      have HBD := Lib.hid hbd; have HR := Lib.hid hR
      obtain ⟨i0, hi0, hz0, hz1, hz2⟩ := info_parts (P := Tryd.prog) (e := 5) (z := .int .u8 0) (size := 1) (bytes := 1) (by kernel_rfl)
      clear hk hx hR hln hb hbd
      have hnn : n ≤ 512 := by omega
      clear h5 h0
      go_enter Tryd.func27, Tryd.ntmps27
      go_wp2_with (at_builtin; refine wpList_append_any _ rfl (.tmp 18) (.tmp 19) _ rfl w.heap.size 5 i0 (.int .u8 0) 1 1 Tryd.underlying27 hi0 hz0 hz1 hz2 rfl (by decide) (.slice (some ⟨w.heap.size, 0, none⟩) 2 2) 2 [.int .u8 ((n : Int) % 256), .int .u8 ((n : Int) / 256)] rfl (World.ownsRow_lit (base := w.heap.size) (e := 5) (size := 1) w #[.int .u8 ((n : Int) % 256), .int .u8 ((n : Int) / 256)] 2 (Nat.le_refl _) (by decide) rfl) w.heap.size A n c (bys l) rfl (HR.out.alloc (Nat.le_refl _) _) (bys_one _) (by simp only [maxLen]; omega) (by omega) (by simp) ?_; intro v1 w3 hown1 hg1 hat1)
      have hb3 : Below w.heap.size w w3 := Below.grown ((Below.refl _ _).alloc (Nat.le_refl _) _) hg1 (by simp) (by intro g hg; simp [Value.ownBlock] at hg; omega)
      have O1 := Lib.hid (HBD.out _ _ _ hown1); have B1 := Lib.hid hb3
      clear hown1 hg1 hat1 hb3
      go_wp2_with fail
      refine (PT.out _ _ O1.out).mono ?_; rintro _ w4 ⟨v4, rfl, hn4, hb4⟩
      have N4 := Lib.hid (hn4.mono B1.out.size); have B4 := Lib.hid (below_next B1.out hb4)
      clear hn4 hb4
      go_wp2
      exact bodyPost_ret (v := .tuple #[v4, .int .i64 0]) (by simp [results, Tryd.results27, go_sem]) rfl ⟨v4, rfl, N4.out, B4.out⟩
set_option maxRecDepth 100000 in
set_option maxHeartbeats 2000000 in
theorem take_c (v : Value) (l : List Nat) (hb : Bytes l) (w : World) (h : ByOut w v l) :
    Calls Tryd.prog 35 #[v] w fun e w' => ∃ v', e = .returned (.tuple #[v', .int .i64 ((fTake l).2.1 : Nat), .int .i64 (fTake l).2.2]) ∧ ByFrom w.heap.size w' v' (fTake l).1 ∧ Below w.heap.size w w' := by
  have hF := h
  obtain ⟨A, c, rfl, hc, hx⟩ := h
  obtain ⟨n, hln⟩ : ∃ n, l.length = n := ⟨_, rfl⟩
  rw [hln] at hc hF ⊢
  by_cases h2 : n < 2
  · have hk : fTake l = ([], 0, 9) := by unfold fTake; rw [if_pos (by omega)]
    rw [hk]
    have h2i : (n : Int) < 2 := by omega
    clear hk hx hF hln hb
    go_enter Tryd.func35, Tryd.ntmps35
    go_wp2
    exact bodyPost_ret (v := .tuple #[.slice none 0 0, .int .i64 0, .int .i64 9]) (by simp [results, Tryd.results35, go_sem]) rfl ⟨.slice none 0 0, rfl, ByFrom.none _ _, Below.refl _ _⟩
  · have h2i : ¬ (n : Int) < 2 := by omega
    obtain ⟨b, off, rfl, ha⟩ := hx (by intro e; rw [e] at hln; simp at hln; omega)
    have g0 : 0 < l.length := by omega
    have g1 : 1 < l.length := by omega
    have c0 := ha 0 _ (List.getElem?_eq_getElem g0)
    have c1 := ha 1 _ (List.getElem?_eq_getElem g1)
    have x0 : l[0] < 256 := hb _ (List.getElem_mem g0)
    have x1 : l[1] < 256 := hb _ (List.getElem_mem g1)
    have hL : fLen l = l[0] + 256 * l[1] := by unfold fLen; rw [List.getD_eq_getElem?_getD, List.getD_eq_getElem?_getD, List.getElem?_eq_getElem g0, List.getElem?_eq_getElem g1]; rfl
    have hT : fTake l = if fLen l < 1 ∨ 512 < fLen l then ([], 0, 7) else if n < fLen l + 6 then ([], 0, 9) else if (cChk (l.take (fLen l + 6))).2 = 0 then ((cChk (l.take (fLen l + 6))).1.drop 2, fLen l + 6, 0) else ([], 0, 8) := by
      unfold fTake
      rw [if_neg (by omega), hln]
    generalize l[0] = y0 at *
    generalize l[1] = y1 at *
    rw [Nat.add_zero] at c0
    generalize fLen l = m at *
    have hE : (y0 : Int) + 256 * (y1 : Int) = (m : Int) := by omega
    have hm : m < 65536 := by omega
    obtain ⟨T, hTT⟩ : ∃ T, fTake l = T := ⟨_, rfl⟩
    rw [hTT] at hT ⊢
    clear hTT
    have HF := Lib.hid hF; have HB := Lib.hid hb; have HT := Lib.hid hT; have HL := Lib.hid hln
    have hn1 : (1 : Int) < (n : Int) := by omega
    have hn0 : (0 : Int) < (n : Int) := by omega
    clear hx ha hF hb hT hln hL g0 g1 h2
    go_enter Tryd.func35, Tryd.ntmps35
    go_wp2
    go_region
    try simp only [hE]
    by_cases h1 : m < 1
    · have hk : T = ([], 0, 7) := by rw [HT.out, if_pos (Or.inl h1)]
      subst hk
      have h1i : (m : Int) < 1 := by omega
      clear h1 hE
      go_wp2
      exact bodyPost_ret (v := .tuple #[.slice none 0 0, .int .i64 0, .int .i64 7]) (by simp [results, Tryd.results35, go_sem]) rfl ⟨.slice none 0 0, rfl, ByFrom.none _ _, (Below.refl _ _).drew⟩
    · have h1i : ¬ (m : Int) < 1 := by omega
      by_cases h5 : 512 < m
      · have hk : T = ([], 0, 7) := by rw [HT.out, if_pos (Or.inr h5)]
        subst hk
        have h5i : (512 : Int) < (m : Int) := by omega
        clear h1 h5 hE
        go_wp2
        exact bodyPost_ret (v := .tuple #[.slice none 0 0, .int .i64 0, .int .i64 7]) (by simp [results, Tryd.results35, go_sem]) rfl ⟨.slice none 0 0, rfl, ByFrom.none _ _, (Below.refl _ _).drew⟩
      · have h5i : ¬ (512 : Int) < (m : Int) := by omega
        by_cases h6 : n < m + 6
        · have hk : T = ([], 0, 9) := by rw [HT.out, if_neg (by omega), if_pos h6]
          subst hk
          have h6i : (n : Int) < (m : Int) + 6 := by omega
          clear h1 h5 hE h6
          go_wp2
          exact bodyPost_ret (v := .tuple #[.slice none 0 0, .int .i64 0, .int .i64 9]) (by simp [results, Tryd.results35, go_sem]) rfl ⟨.slice none 0 0, rfl, ByFrom.none _ _, (Below.refl _ _).drew⟩
        · have h6i : ¬ (n : Int) < (m : Int) + 6 := by omega
          have hk : T = if (cChk (l.take (m + 6))).2 = 0 then ((cChk (l.take (m + 6))).1.drop 2, m + 6, 0) else ([], 0, 8) := by rw [HT.out, if_neg (by omega), if_neg h6]
          have htl : (l.take (m + 6)).length = m + 6 := by rw [List.length_take, HL.out]; omega
          have h2k := cChk_two (l.take (m + 6)) (by omega)
          rw [htl] at h2k
          have CK := Lib.hid (CR.check_n (.slice (some ⟨b, off, none⟩) (m + 6) c) (l.take (m + 6)) (by omega) (HB.out.takes _) w.drew ((CR.ByOut.take HF.out (show m + 6 ≤ n by omega)).below (Below.refl _ _).drew))
          obtain ⟨q, hq⟩ : ∃ q, m + 6 = q := ⟨_, rfl⟩
          have hqi : (m : Int) + 6 = (q : Int) := by omega
          rw [hq] at hk h2k CK htl
          generalize l.take q = a at *
          rcases h2k with ⟨e1, e2, e3⟩ | ⟨e1, e2, e3⟩
          · have hal : (cChk a).1.length = m + 2 := by rw [e3, List.length_take, htl]; omega
            rw [if_pos e1] at hk
            subst hk
            rw [e1] at CK
            have hqc : q ≤ c := by omega
            have hqc2 : (q : Int) ≤ (c : Int) := by omega
            have HZ := Lib.hid hal
            clear e1 e2 e3 h1 h5 h6 hE htl hal hc
            go_wp2_with fail
            refine CK.out.mono ?_; rintro _ w2 ⟨v2, rfl, ho2, hb2⟩
            obtain ⟨A2, c2, hv2, hc2, _⟩ := id ho2
            rw [HZ.out] at hv2 hc2
            subst hv2
            obtain ⟨b2, off2, rfl, ho3⟩ := ByFrom.drop ho2 (show 2 < m + 2 by omega)
            have O3 := Lib.hid ho3; have B2 := Lib.hid (show Below w.heap.size w w2 from Below.trans (Below.refl _ _).drew hb2)
            clear ho2 ho3 hb2
            go_wp2
            exact bodyPost_ret (v := .tuple #[.slice (some ⟨b2, off2 + 2, none⟩) m (c2 - 2), .int .i64 (q : Nat), .int .i64 0]) (by simp [results, Tryd.results35, go_sem]) rfl ⟨_, rfl, O3.out, B2.out⟩
          · rw [if_neg (by rw [e1]; decide)] at hk
            subst hk
            rw [e1, e3] at CK
            have hqc2 : (q : Int) ≤ (c : Int) := by omega
            clear e1 e2 e3 h1 h5 h6 hE htl hc
            go_wp2_with fail
            refine CK.out.mono ?_; rintro _ w2 ⟨v2, rfl, ho2, hb2⟩
            have B2 := Lib.hid (show Below w.heap.size w w2 from Below.trans (Below.refl _ _).drew hb2)
            clear ho2 hb2
            go_wp2
            exact bodyPost_ret (v := .tuple #[.slice none 0 0, .int .i64 0, .int .i64 8]) (by simp [results, Tryd.results35, go_sem]) rfl ⟨.slice none 0 0, rfl, ByFrom.none _ _, B2.out⟩
end Go.Proofs.YtabbpgnenmpacaaDoor.FR
