/-
  The statements of layer 7, walked, the first part: the fixed fact, Put, Take.
-/
import Derived.Test.YthkplnljfknphaaDoorFrmRefC
import Derived.Test.YthkplnljfknphaaDoorFrmRefD
import Derived.Test.YthkplnljfknphaaDoorFrmPC
import Derived.Test.YthkplnljfknphaaDoorFrmBig
import Derived.Test.YthkplnljfknphaaDoorFrmKeep
import Derived.Lib.SlBytesConst
set_option linter.unusedSimpArgs false
set_option linter.unusedVariables false
namespace Go.Proofs.YthkplnljfknphaaDoor.FW
open Go.RowKit
open CR (below_next own_ge)
theorem lit_out (w : World) (vs : List Nat) (c : Nat) (fz : Nat × Nat) (h : vs.length ≤ c) : ByOut (w.alloc (.cells (vs.map fun (n : Nat) => Value.int .u8 (n : Int)).toArray 5 fz)) (.slice (some ⟨w.heap.size, 0, none⟩) vs.length c) vs := by
  refine ⟨_, c, rfl, h, fun _ => ⟨w.heap.size, 0, rfl, fun i n hi => ?_⟩⟩
  have hh : (w.alloc (.cells (vs.map fun (n : Nat) => Value.int .u8 (n : Int)).toArray 5 fz)).heap[w.heap.size]? = some (.cells (vs.map fun (n : Nat) => Value.int .u8 (n : Int)).toArray 5 fz) := by
    generalize (vs.map fun (n : Nat) => Value.int .u8 (n : Int)).toArray = cs
    show (w.heap.push (.cells cs 5 fz))[w.heap.size]? = _
    exact Array.getElem?_push_size
  rw [cell_of_row _ _ _ _ _ _ hh]
  simp [hi]
theorem frm_a : fFrm [97] = [1, 0, 97, 101, 33, 136, 86] := by decide +kernel
theorem cut_a : fCut ([1, 0, 97, 101, 33, 136, 86] ++ [5]) = ([[97]], 7) := by
  have h := fTake_frm (p := [97]) (R := [5]) ⟨by decide, by decide⟩
  rw [frm_a] at h
  rw [fCut_yes (by rw [h]), h]
  have h2 : fCut (([1, 0, 97, 101, 33, 136, 86] ++ [5]).drop 7) = ([], 0) := fCut_no (by decide)
  show ([97] :: (fCut (([1, 0, 97, 101, 33, 136, 86] ++ [5]).drop 7)).1, 7 + (fCut (([1, 0, 97, 101, 33, 136, 86] ++ [5]).drop 7)).2) = _
  rw [h2]
  rfl
theorem lit_one (w : World) (x : Int) (fz : Nat × Nat) : ∀ (j : Nat) (u : Value), [Value.int .u8 x][j]? = some u → (w.alloc (.cells #[.int .u8 x] 5 fz)).cell? ((⟨w.heap.size, 0, none⟩ : Addr).add j) = some u := fun j u hj => by
  have hh : (w.alloc (.cells #[.int .u8 x] 5 fz)).heap[w.heap.size]? = some (.cells #[.int .u8 x] 5 fz) := by
    show (w.heap.push (.cells #[.int .u8 x] 5 fz))[w.heap.size]? = _
    exact Array.getElem?_push_size
  have e : (⟨w.heap.size, 0, none⟩ : Addr).add j = ⟨w.heap.size, j, none⟩ := by unfold Addr.add; split <;> simp_all
  rw [e, cell_of_row _ _ _ _ _ _ hh]
  simpa using hj
set_option maxRecDepth 100000 in
set_option maxHeartbeats 2000000 in
theorem alive_c (w : World) (hG : G w) : Calls Tryd.prog 8 #[] w fun e w' => e = .returned (.bool true) ∧ Below w.heap.size w w' := by
  have HG := Lib.hid hG
  have hb1 : Bytes [97] := by unfold Bytes; decide
  have hb8 : Bytes ([1, 0, 97, 101, 33, 136, 86] ++ [5]) := by unfold Bytes; decide
  have hP : fPut [97] = ([1, 0, 97, 101, 33, 136, 86], 0) := by
    rcases fPut_two [97] with ⟨_, h⟩ | ⟨h, _⟩
    · rw [h, frm_a]
    · exact absurd ⟨by decide, by decide⟩ h
  have P := Lib.hid (fun v w k h => FP.put_c v [97] hb1 w k h)
  rw [hP] at P
  have C := Lib.hid (fun v w k h => FP.cut_c v ([1, 0, 97, 101, 33, 136, 86] ++ [5]) (by decide) hb8 w k h)
  rw [cut_a] at C
  obtain ⟨i0, hi0, hz0, hz1, hz2⟩ := info_parts (P := Tryd.prog) (e := 5) (z := .int .u8 0) (size := 1) (bytes := 1) (by kernel_rfl)
  clear hG hP hb1 hb8
  have kc := fun (w : World) (C : Array Value) (n c : Nat) => Lib.run_convert_bytes_const (P := Tryd.prog) w 22 5 C n c Tryd.underlying22 Tryd.underlying5
  go_enter Tryd.func8, Tryd.ntmps8
  go_wp2_with fail
  refine (P.out _ _ (HG.out.alloc _) (lit_out w [97] 1 (1, 2) (Nat.le_refl _))).mono ?_; rintro _ w1 ⟨v1, rfl, hn1, hb1⟩
  have B1 := Lib.hid (Below.trans ((Below.refl _ _).alloc (Nat.le_refl _) _) (hb1.mono (by simp)))
  have hn1' : ByNew w.heap.size w1 v1 [1, 0, 97, 101, 33, 136, 86] := hn1.mono (by simp)
  obtain ⟨A1, c1, rfl, hc1, hx1⟩ := hn1'.form
  obtain ⟨g, rfl, hg1, hg2, _, _⟩ := hx1 (by simp)
  have N1 := Lib.hid hn1'
  clear hn1 hn1' hb1 hx1 hc1
  go_wp2_with (at_builtin; refine wpList_append_keep _ rfl (.tmp 12) (.tmp 13) _ rfl w.heap.size 5 i0 (.int .u8 0) 1 Tryd.underlying22 hi0 hz0 hz1 hz2 rfl g 7 c1 (bys [1, 0, 97, 101, 33, 136, 86]) rfl (World.ownsRow.alloc N1.out _) ⟨w1.heap.size, 0, none⟩ 1 1 [.int .u8 5] rfl rfl (lit_one w1 5 (0, 0)) (by simp [Value.oneCell']) (by simp [maxLen]) (by decide) (by have := B1.out.size; simp; omega) ?_; intro v2 w2 hown2 hg2 hold2)
  have hb2 : Below w.heap.size w w2 := Below.grown (B1.out.alloc B1.out.size _) hg2 (by have := B1.out.size; simp; omega) (by intro k hk; injection hk with hk; omega)
  have O2 := Lib.hid (show ByOut w2 v2 ([1, 0, 97, 101, 33, 136, 86] ++ [5]) from ByNew.out (B := w.heap.size) hown2)
  have OL := Lib.hid (show ByNew w.heap.size w2 (.slice (some ⟨g, 0, none⟩) 7 c1) [1, 0, 97, 101, 33, 136, 86] from hold2)
  have B2 := Lib.hid hb2
  clear hown2 hg2 hold2 hb2
  go_wp2_with fail
  refine (C.out _ _ (HG.out.below B2.out) O2.out).mono ?_; rintro _ w3 ⟨v3, rfl, hn3, hb3⟩
  obtain ⟨A3, c3, rfl, hc3, _⟩ := hn3.out
  have hol := OL.out.below hb3
  obtain ⟨A4, c4, hv4, hc4, hx4⟩ := hol.form
  obtain ⟨g4, hA4, _, _, hf4, _⟩ := hx4 (by simp)
  injection hv4 with e1 e2 e3
  rw [hA4] at e1
  injection e1 with e1
  injection e1 with e1 _ _
  subst e1
  have k0 : w3.cell? ⟨g, 0, none⟩ = some (.int .u8 1) := hf4 0 1 rfl
  have k2 : w3.cell? ⟨g, 2, none⟩ = some (.int .u8 97) := hf4 2 97 rfl
  have B3 := Lib.hid (below_next B2.out hb3)
  clear hn3 hb3 hol hx4 hf4 hc4 e2 e3 hA4
  go_wp2
  go_ret
  exact ⟨rfl, B3.out⟩
theorem fPut_len (l : List Nat) : (fPut l).1.length ≤ 518 := by
  rcases fPut_two l with ⟨⟨_, h⟩, h2⟩ | ⟨_, _, h2⟩
  · rw [h2]; show (fFrm l).length ≤ 518; rw [fFrm_length]; omega
  · rw [h2]; simp
set_option maxRecDepth 100000 in
set_option maxHeartbeats 2000000 in
theorem framePuts_c (v : Value) (l : List Nat) (hl : l.length ≤ 140737488351232) (hb : Bytes l) (w : World) (hG : G w) (g : ByOut w v l) :
    Calls Tryd.prog 3 #[v] w fun e w' => e = .returned (.bool true) ∧ Below w.heap.size w w' := by
  have HG := Lib.hid hG
  clear hG
  have O0 := Lib.hid g
  have hk1 := fPut_len l
  have AL := Lib.hid alive_c
  have CC := Lib.hid (fun w h => CR.copy_big v l hl w h 0 (Nat.zero_le _))
  have PP := Lib.hid (fun v w k h => FP.put_c v l hb w k h)
  have RP := Lib.hid (fun w h => FR.put_c v l hb w h)
  have S1 := fun v1 v2 w f1 f2 => CR.same_c v1 v2 (fPut l).1 (fPut l).1 (by omega) (by omega) w f1 f2
  have S3 := fun v1 v2 w f1 f2 => CR.same_big v1 v2 l l hl hl w f1 f2
  rw [decide_eq_true rfl] at S1 S3
  have H1 := Lib.hid S1; have H3 := Lib.hid S3
  obtain ⟨⟨t, er⟩, hT⟩ : ∃ x, fPut l = x := ⟨_, rfl⟩
  rw [hT] at PP RP H1
  obtain ⟨A, c, rfl, _, _⟩ := g
  obtain ⟨n, hn⟩ : ∃ n, l.length = n := ⟨_, rfl⟩
  rw [hn] at O0 CC RP ⊢
  clear hk1 S1 S3 hT hn hl hb
  go_enter Tryd.func3, Tryd.ntmps3
  go_wp2_with fail
  refine (AL.out _ HG.out).mono ?_; rintro _ w1 ⟨rfl, hb1⟩
  have B1 := Lib.hid hb1
  clear hb1
  go_wp2_with fail
  refine (CC.out _ (O0.out.below B1.out)).mono ?_; rintro _ w2 ⟨v2, rfl, hn2, hb2⟩
  have OW2 := Lib.hid hn2.out; have B2 := Lib.hid (below_next B1.out hb2)
  clear hn2 hb2
  go_wp2_with fail
  refine (PP.out _ _ (HG.out.below B2.out) OW2.out).mono ?_; rintro _ w3 ⟨v3, rfl, hn3, hb3⟩
  have P3 := Lib.hid hn3.out; have OW3 := Lib.hid (OW2.out.below hb3); have B3 := Lib.hid (below_next B2.out hb3)
  clear hn3 hb3
  go_wp2_with fail
  refine (RP.out _ (O0.out.below B3.out)).mono ?_; rintro _ w4 ⟨v4, rfl, hn4, hb4⟩
  have R4 := Lib.hid hn4.out; have P4 := Lib.hid (P3.out.below hb4); have OW4 := Lib.hid (OW3.out.below hb4); have B4 := Lib.hid (below_next B3.out hb4)
  clear hn4 hb4
  go_wp2_with fail
  refine (H1.out _ _ _ P4.out R4.out).mono ?_; rintro _ w5 ⟨rfl, hb5⟩
  have OW5 := Lib.hid (OW4.out.below hb5); have B5 := Lib.hid (below_next B4.out hb5)
  clear hb5
  go_wp2_with fail
  refine (H3.out _ _ _ OW5.out (O0.out.below B5.out)).mono ?_; rintro _ w6 ⟨rfl, hb6⟩
  have B6 := Lib.hid (below_next B5.out hb6)
  clear hb6
  go_wp2
  go_ret
  exact ⟨rfl, B6.out⟩
set_option maxRecDepth 100000 in
set_option maxHeartbeats 2000000 in
theorem frameTakes_c (v : Value) (l : List Nat) (hl : l.length ≤ 140737488351232) (hb : Bytes l) (w : World) (hG : G w) (g : ByOut w v l) :
    Calls Tryd.prog 4 #[v] w fun e w' => e = .returned (.bool true) ∧ Below w.heap.size w w' := by
  have HG := Lib.hid hG
  clear hG
  have O0 := Lib.hid g
  have hk1 := fTake_len l
  have AL := Lib.hid alive_c
  have CC := Lib.hid (fun w h => CR.copy_big v l hl w h 0 (Nat.zero_le _))
  have PP := Lib.hid (fun v w k h => FP.take_c v l hb w k h)
  have RP := Lib.hid (fun w h => FR.take_c v l hb w h)
  have S1 := fun v1 v2 w f1 f2 => CR.same_c v1 v2 (fTake l).1 (fTake l).1 (by omega) (by omega) w f1 f2
  have S3 := fun v1 v2 w f1 f2 => CR.same_big v1 v2 l l hl hl w f1 f2
  rw [decide_eq_true rfl] at S1 S3
  have H1 := Lib.hid S1; have H3 := Lib.hid S3
  obtain ⟨⟨t, s, er⟩, hT⟩ : ∃ x, fTake l = x := ⟨_, rfl⟩
  rw [hT] at PP RP H1
  obtain ⟨A, c, rfl, _, _⟩ := g
  obtain ⟨n, hn⟩ : ∃ n, l.length = n := ⟨_, rfl⟩
  rw [hn] at O0 CC RP ⊢
  clear hk1 S1 S3 hT hn hl hb
  go_enter Tryd.func4, Tryd.ntmps4
  go_wp2_with fail
  refine (AL.out _ HG.out).mono ?_; rintro _ w1 ⟨rfl, hb1⟩
  have B1 := Lib.hid hb1
  clear hb1
  go_wp2_with fail
  refine (CC.out _ (O0.out.below B1.out)).mono ?_; rintro _ w2 ⟨v2, rfl, hn2, hb2⟩
  have OW2 := Lib.hid hn2.out; have B2 := Lib.hid (below_next B1.out hb2)
  clear hn2 hb2
  go_wp2_with fail
  refine (PP.out _ _ (HG.out.below B2.out) OW2.out).mono ?_; rintro _ w3 ⟨v3, rfl, hn3, hb3⟩
  have P3 := Lib.hid hn3.out; have OW3 := Lib.hid (OW2.out.below hb3); have B3 := Lib.hid (below_next B2.out hb3)
  clear hn3 hb3
  go_wp2_with fail
  refine (RP.out _ (O0.out.below B3.out)).mono ?_; rintro _ w4 ⟨v4, rfl, hn4, hb4⟩
  have R4 := Lib.hid hn4.out; have P4 := Lib.hid (P3.out.below hb4); have OW4 := Lib.hid (OW3.out.below hb4); have B4 := Lib.hid (below_next B3.out hb4)
  clear hn4 hb4
  go_wp2_with fail
  refine (H1.out _ _ _ P4.out R4.out).mono ?_; rintro _ w5 ⟨rfl, hb5⟩
  have OW5 := Lib.hid (OW4.out.below hb5); have B5 := Lib.hid (below_next B4.out hb5)
  clear hb5
  go_wp2_with fail
  refine (H3.out _ _ _ OW5.out (O0.out.below B5.out)).mono ?_; rintro _ w6 ⟨rfl, hb6⟩
  have B6 := Lib.hid (below_next B5.out hb6)
  clear hb6
  go_wp2
  go_ret
  exact ⟨rfl, B6.out⟩
end Go.Proofs.YthkplnljfknphaaDoor.FW
