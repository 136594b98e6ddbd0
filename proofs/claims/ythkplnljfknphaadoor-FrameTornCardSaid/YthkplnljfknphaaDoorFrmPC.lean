/-
  Contracts of the program's functions of layer 7: Join.
-/
import Derived.Test.YthkplnljfknphaaDoorFrmPB
set_option linter.unusedSimpArgs false
set_option linter.unusedVariables false
namespace Go.Proofs.YthkplnljfknphaaDoor.FP
open Go.RowKit
open CR (below_next own_ge u8_wrap)
set_option maxRecDepth 100000 in
set_option maxHeartbeats 2000000 in
theorem join_c (v : Value) (ls : List (List Nat)) (hl : fSz ls ≤ 100000) (hb : ∀ p ∈ ls, Bytes p) (w : World) (hG : G w) (h : BsOut w v ls) :
    Calls Tryd.prog 20 #[v] w fun e w' => ∃ v', e = .returned (.tuple #[v', .int .i64 (fJoin ls).2]) ∧ ByNew w.heap.size w' v' (fJoin ls).1 ∧ Below w.heap.size w w' := by
  have HG := Lib.hid hG
  clear hG
  have hls := fSz_length ls
  obtain ⟨A, c, rfl, hc, hx⟩ := h
  obtain ⟨n, hln⟩ : ∃ n, ls.length = n := ⟨_, rfl⟩
  rw [hln] at hc hls ⊢
  obtain ⟨T, hTT⟩ : ∃ T, fJoin ls = T := ⟨_, rfl⟩
  rw [hTT]
  have hn1 : n ≤ 100000 := by omega
  have HX := Lib.hid hx; have HB := Lib.hid hb; have HT := Lib.hid hTT; have HL := Lib.hid hln; have HS := Lib.hid hl
  obtain ⟨i0, hi0, hz0, hz1, hz2⟩ := info_parts (P := Tryd.prog) (e := 5) (z := .int .u8 0) (size := 1) (bytes := 1) (by kernel_rfl)
  clear hx hb hTT hln hl hls
  go_enter Tryd.func20, Tryd.ntmps20
  go_wp2
  go_loopw [4, 6, 7, 8, 11] (fun wv p b e i wr => ∃ (k : Nat) (vr : Value), wv = vr ∧ i = .int .i64 k ∧ k ≤ n ∧ Hid ((∀ (j : Nat) (q : List Nat), j < k → ls[j]? = some q → fOk q) ∧ ByNew w.heap.size wr vr (fFlat (ls.take k)) ∧ Below w.heap.size w wr)) (fun _ _ _ _ i _ => n - (intOf i).toNat)
  case atStart => exact ⟨0, _, rfl, rfl, Nat.zero_le _, fun j q h => absurd h (Nat.not_lt_zero _), by rw [List.take_zero]; exact ByNew.none _ _, Below.refl _ _⟩
  case round =>
    obtain ⟨k, vr, rfl, rfl, hk, HI⟩ := hrel
    by_cases hlt : k < n
    · have hkl : k < ls.length := by rw [HL.out]; exact hlt
      obtain ⟨b, off, rfl, ha⟩ := HX.out (by intro e; rw [e] at hkl; exact absurd hkl (Nat.not_lt_zero _))
      have hp0 := List.getElem?_eq_getElem hkl
      have hbp := HB.out _ (List.getElem_mem hkl)
      obtain ⟨u, hu, hou⟩ := ha k _ hp0
      generalize ls[k] = p at *
      have cu : wr.cell? ⟨b, off + k, none⟩ = some u := (HI.out.2.2.cell (World.block_lt_of_cell? w _ hu)).trans hu
      have hou2 := hou.below HI.out.2.2
      obtain ⟨A2, c2, rfl, _, _⟩ := id hou2
      obtain ⟨m, hm⟩ : ∃ m, p.length = m := ⟨_, rfl⟩
      rw [hm] at cu hou2
      have PO := Lib.hid hou2
      obtain ⟨⟨r, e⟩, hP⟩ : ∃ x, fPut p = x := ⟨_, rfl⟩
      have PT := Lib.hid (show ∀ (v1 : Value) (w1 : World), G w1 → ByOut w1 v1 p → Calls Tryd.prog 10 #[v1] w1 fun e' w' => ∃ v', e' = .returned (.tuple #[v', .int .i64 e]) ∧ ByNew w1.heap.size w' v' r ∧ Below w1.heap.size w1 w' from fun v1 w1 g1 h1 => by
        have := put_c v1 p hbp w1 g1 h1
        rw [hP] at this
        exact this)
      rcases fPut_two p with ⟨hok, hP2⟩ | ⟨hok, hP2, hP3⟩
      · rw [hP] at hP2
        injection hP2 with hr he
        subst hr he
        have hsz : fSz (ls.take (k + 1)) ≤ 100000 := Nat.le_trans (fSz_take _ _) HS.out
        have htk : ls.take (k + 1) = ls.take k ++ [p] := by rw [List.take_add_one, hp0]; rfl
        rw [htk, fSz_app] at hsz
        have hsz2 : fSz (ls.take k) + (m + 6) ≤ 100000 := by have e1 : fSz [p] = (p.length + 6) + 0 := rfl; rw [e1, hm] at hsz; omega
        have hfl := fFlat_length (ls.take k)
        obtain ⟨z, hz⟩ : ∃ z, fSz (ls.take k) = z := ⟨_, rfl⟩
        rw [hz] at hfl hsz2
        have hpl : (fFrm p).length = m + 6 := by rw [fFrm_length, hm]
        have hokn : ∀ (j : Nat) (q : List Nat), j < k + 1 → ls[j]? = some q → fOk q := fun j q h1 h2 => by
          rcases Nat.lt_or_ge j k with h | h
          · exact HI.out.1 j q h h2
          · obtain rfl : j = k := by omega
            rw [hp0] at h2
            obtain rfl := Option.some.inj h2
            exact hok
        have hown : ∀ (w' : World) (v' : Value), w'.ownsRow w.heap.size 5 1 v' (z + (m + 6)) (bys (fFlat (ls.take k)) ++ bys (fFrm p)) → ByNew w.heap.size w' v' (fFlat (ls.take (k + 1))) := fun w' v' h => by
          have e1 : fFlat [p] = fFrm p ++ [] := rfl
          rw [htk, fFlat_app, e1, List.append_nil]
          unfold ByNew
          rw [List.length_append, bys_app, hfl, hpl]
          exact h
        have OK := Lib.hid hokn; have HOWN := Lib.hid hown; have HFL := Lib.hid hfl; have HPL := Lib.hid hpl
        clear hok hokn hown hfl hpl htk hz hsz hP hp0 hbp hou hu ha hm hou2 hkl
        go_wp2_with fail
        refine (PT.out _ _ (HG.out.below HI.out.2.2) PO.out).mono ?_; rintro _ w2 ⟨v2, rfl, hn2, hb2⟩
        obtain ⟨A3, c3, hv3, _, _⟩ := hn2.form
        rw [HPL.out] at hv3
        subst hv3
        have hrd := hn2.reads HPL.out
        have how : w2.ownsRow w.heap.size 5 1 u4 z (bys (fFlat (ls.take k))) := by
          have := HI.out.2.1.below hb2
          unfold ByNew at this
          rw [HFL.out] at this
          exact this
        have RD := Lib.hid hrd; have OW := Lib.hid how; have B2 := Lib.hid (below_next HI.out.2.2 hb2)
        clear hn2 hb2 hrd how
        go_wp2_with (at_builtin; refine wpList_append_any _ rfl (.tmp 23) (.tmp 24) _ rfl w.heap.size 5 i0 (.int .u8 0) 1 1 Tryd.underlying22 hi0 hz0 hz1 hz2 rfl (by decide) u4 z (bys (fFlat (ls.take k))) rfl OW.out _ A3 (m + 6) c3 (bys (fFrm p)) rfl RD.out (bys_one _) (by simp only [maxLen]; omega) (by omega) B2.out.size ?_; intro v4 w4 hown4 hg4 hat4)
        have hb4 : Below w.heap.size w w4 := Below.grown B2.out hg4 B2.out.size (own_ge OW.out)
        have NW := Lib.hid (HOWN.out _ _ hown4); have B4 := Lib.hid hb4
        clear hown4 hg4 hat4 hb4
        go_wp2
        go_roundw
        case rel => exact ⟨k + 1, _, rfl, by go_num, by omega, OK.out, NW.out, B4.out⟩
        case measure => simp [intOf]; omega
      · have hst := fJoin_err k hp0 HI.out.1 hok
        rw [HT.out, hP] at hst
        have he : ¬ e = 0 := by rw [hP] at hP2; exact hP2
        have ST := Lib.hid hst
        clear hst hok hP2 hP3 hP hp0 hbp hou hu ha hm hou2 hkl
        go_wp2_with fail
        refine (PT.out _ _ (HG.out.below HI.out.2.2) PO.out).mono ?_; rintro _ w2 ⟨v2, rfl, hn2, hb2⟩
        have B2 := Lib.hid (below_next HI.out.2.2 hb2)
        clear hn2 hb2
        go_wp2
        rw [ST.out]
        exact bodyPost_ret (v := .tuple #[.slice none 0 0, .int .i64 e]) (by simp [results, Tryd.results20, go_sem]) rfl ⟨.slice none 0 0, rfl, ByNew.none _ _, B2.out⟩
    · obtain rfl : k = n := by omega
      have hall : ∀ p ∈ ls, fOk p := fun p hp => by
        obtain ⟨j, hj⟩ := List.getElem?_of_mem hp
        exact HI.out.1 j p (by rw [← HL.out]; exact (List.getElem?_eq_some_iff.1 hj).1) hj
      have hst := fJoin_ok hall
      rw [HT.out] at hst
      have htk : ls.take k = ls := List.take_of_length_le (by rw [HL.out]; exact Nat.le_refl _)
      have hnw := HI.out.2.1
      rw [htk] at hnw
      have ST := Lib.hid hst; have NW := Lib.hid hnw
      clear hall hst htk hnw
      go_wp2
      rw [ST.out]
      exact bodyPost_ret (v := .tuple #[u4, .int .i64 0]) (by simp [results, Tryd.results20, go_sem]) rfl ⟨u4, rfl, NW.out, HI.out.2.2⟩
end Go.Proofs.YthkplnljfknphaaDoor.FP
