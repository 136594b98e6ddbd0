/-
  Contracts of the program's functions of layer 8: readHead.
-/
import Derived.Test.YtabbpgnenmpacaaDoorSegPFM
set_option linter.unusedSimpArgs false
set_option linter.unusedVariables false
namespace Go.Proofs.YtabbpgnenmpacaaDoor.SP
open Go.RowKit
open CR (below_next own_ge u8_wrap)
/-- The head that stands behind its kind. -/
def hdRead (l : List Nat) : PR :=
  hdR ((l.drop 2).take (nOf 2 l)) ((nOf 1 (l.drop (2 + nOf 2 l)) : Nat) : Int) ((nOf 4 (l.drop (2 + nOf 2 l + 1)) : Nat) : Int) (rgsOf (nOf 1 (l.drop (2 + nOf 2 l + 5))) (l.drop (2 + nOf 2 l + 6)))
set_option maxRecDepth 100000 in
set_option maxHeartbeats 4000000 in
theorem readHead_c (b : Nat) (l : List Nat) (hb : Bytes l) (hl : l.length ≤ 9223372036854775807) (w : World) (h : RdSt w b l) :
    Calls Tryd.prog 46 #[.pointer (some ⟨b, 0, none⟩)] w fun e w' => ∃ v', e = .returned v' ∧ RcNew w.heap.size w' v' (hdRead l) ∧ w.grownBy w' (some b) := by
  have WH := Lib.hid (fun (W : World) (q : List Nat) (k : Nat) (hk : k ≤ 7) (hq : Bytes q) (hql : q.length ≤ 9223372036854775807) (hr : RdSt W b q) => by
    have h2 := whole_c b q hq hql k (by omega) W hr
    have h3 : nOf k q < 9223372036854775808 := Nat.lt_of_lt_of_le (nOf_lt k q hq) (Nat.le_trans (SR.pow_le hk) (by decide))
    rw [i64_small h3] at h2
    exact h2)
  have NB := Lib.hid (fun (W : World) (q : List Nat) (k : Nat) (hk : k ≤ 8) (hq : Bytes q) (hql : q.length ≤ 9223372036854775807) (hr : RdSt W b q) => number_c b q hq hql k hk W hr)
  have BY := Lib.hid (fun (W : World) (q : List Nat) (n : Nat) (hn : n ≤ 9223372036854775807) (hql : q.length ≤ 9223372036854775807) (hr : RdSt W b q) => bytes_c b q hql n hn W hr)
  have hbd : ∀ k, Bytes (l.drop k) := fun k => hb.drops k
  have hld : ∀ k, (l.drop k).length ≤ 9223372036854775807 := fun k => by rw [List.length_drop]; omega
  obtain ⟨N, hN⟩ : ∃ N, nOf 2 l = N := ⟨_, rfl⟩
  have hN2 : N < 65536 := by rw [← hN]; exact Nat.lt_of_lt_of_le (nOf_lt 2 l hb) (by decide)
  obtain ⟨m, hm⟩ : ∃ m, nOf 1 (l.drop (2 + N)) = m := ⟨_, rfl⟩
  obtain ⟨f, hf⟩ : ∃ f, nOf 4 (l.drop (2 + N + 1)) = f := ⟨_, rfl⟩
  obtain ⟨K, hK⟩ : ∃ K, nOf 1 (l.drop (2 + N + 5)) = K := ⟨_, rfl⟩
  have hK2 : K < 256 := by rw [← hK]; exact Nat.lt_of_lt_of_le (nOf_lt 1 _ (hbd _)) (by decide)
  have hf2 : (f : Int) < 4294967296 := by
    have : f < 4294967296 := by rw [← hf]; exact Nat.lt_of_lt_of_le (nOf_lt 4 _ (hbd _)) (by decide)
    omega
  have hwf : IntKind.i64.wrap (f : Int) = (f : Int) := by rw [IntKind.wrap_i64]; omega
  have hT : hdRead l = hdR ((l.drop 2).take N) (m : Int) (f : Int) (rgsOf K (l.drop (2 + N + 6))) := by unfold hdRead; rw [hN, hm, hf, hK]
  obtain ⟨L6, hL6⟩ : ∃ L6, l.drop (2 + N + 6) = L6 := ⟨_, rfl⟩
  obtain ⟨P, hP⟩ : ∃ P, (l.drop 2).take N = P := ⟨_, rfl⟩
  rw [hL6, hP] at hT
  obtain ⟨T, hTT⟩ : ∃ T, hdRead l = T := ⟨_, rfl⟩
  rw [hTT] at hT ⊢
  have HT := Lib.hid hT; have HL6 := Lib.hid hL6; have HP := Lib.hid hP
  have HL := Lib.hid hl; have HB := Lib.hid hb; have HBD := Lib.hid hbd; have HLD := Lib.hid hld; have HN := Lib.hid hN; have HM := Lib.hid hm; have HF := Lib.hid hf; have HK := Lib.hid hK; have HRD := Lib.hid h
  have HV := Lib.hid (dvar2 w)
  obtain ⟨i0, hi0, hz0, hz1, hz2⟩ := info_parts (P := Tryd.prog) (e := 49) (z := .agg #[.int .i64 0, .int .i64 0]) (size := 2) (bytes := 16) (by kernel_rfl)
  clear hl hb hbd hld hN hm hf hK h hT hf2 hTT hL6 hP
  go_enter Tryd.func46, Tryd.ntmps46
  go_wp2_with (refine wpList_put rfl 24 _ _ rfl (w.heap.size + 1) [.int .i64 1, .string ByteArray.empty, .int .i64 0, .int .i64 0, .slice none 0 0, .int .i64 0, .int .i64 0, .int .i64 0, .int .i64 0] rfl rfl (HV.out [.int .i64 0, .string ByteArray.empty, .int .i64 0, .int .i64 0, .slice none 0 0, .int .i64 0, .int .i64 0, .int .i64 0, .int .i64 0] [.int .i64 0, .string ByteArray.empty, .int .i64 0, .int .i64 0, .slice none 0 0, .int .i64 0, .int .i64 0, .int .i64 0, .int .i64 0] _) (by kernel_rfl) (by simp [Value.oneCell']) ?_; intro w2 hp2; have H2 := Lib.hid (hs_start (C1 := [.int .i64 0, .string ByteArray.empty, .int .i64 0, .int .i64 0, .slice none 0 0, .int .i64 0, .int .i64 0, .int .i64 0, .int .i64 0]) (C2 := [.int .i64 0, .string ByteArray.empty, .int .i64 0, .int .i64 0, .slice none 0 0, .int .i64 0, .int .i64 0, .int .i64 0, .int .i64 0]) HRD.out rfl rfl hp2); clear hp2)
  refine (WH.out _ _ 2 (by decide) HB.out HL.out H2.out.rd).mono ?_; rintro _ w3 ⟨rfl, hr3, hg3⟩
  have H3 := Lib.hid (H2.out.read hr3 hg3)
  rw [HN.out]
  clear hr3 hg3
  go_wp2_with fail
  refine (BY.out _ _ N (by omega) (HLD.out _) H3.out.rd).mono ?_; rintro _ w4 ⟨v4, rfl, hu4, hr4, hg4⟩
  have H4 := H3.out.read hr4 hg4
  obtain ⟨A4, c4, hv4, hc4, _⟩ := id hu4
  subst hv4
  obtain ⟨n4, hn4⟩ : ∃ n, ((l.drop 2).take N).length = n := ⟨_, rfl⟩
  have hcv := conv_by ((HBD.out 2).takes N) hu4.out
  rw [hn4] at hcv ⊢
  have p4 := H4.bx 1 _ rfl
  have q4 := H4.dv.f 1 (by decide)
  have HH4 := Lib.hid (show HS w b w4 (l.drop (2 + N)) _ _ _ by
    have := H4
    rw [List.drop_drop] at this
    exact this)
  clear H4 hu4 hr4 hg4 hn4 hc4
  rw [HP.out] at hcv
  obtain ⟨s, hs⟩ : ∃ s, strB P = s := ⟨_, rfl⟩
  rw [hs] at hcv
  have HS' := Lib.hid hs
  clear hs
  go_wp2_with fail
  have H5 := HH4.out.set 1 (by decide) (.string s)
  refine (WH.out _ _ 1 (by decide) (HBD.out _) (HLD.out _) H5.rd).mono ?_; rintro _ w5 ⟨rfl, hr5, hg5⟩
  rw [HM.out]
  have H6 := H5.read hr5 hg5
  rw [List.drop_drop] at H6
  have p4 := H6.bx 2 _ rfl
  have q4 := H6.dv.f 2 (by decide)
  have HH6 := Lib.hid H6
  clear H5 H6 hr5 hg5 HH4
  go_wp2_with fail
  have H7 := HH6.out.set 2 (by decide) (.int .i64 (m : Nat))
  refine (NB.out _ _ 4 (by decide) (HBD.out _) (HLD.out _) H7.rd).mono ?_; rintro _ w7 ⟨rfl, hr7, hg7⟩
  rw [HF.out]
  have H8 := H7.read hr7 hg7
  rw [List.drop_drop] at H8
  have p4 := H8.bx 3 _ rfl
  have q4 := H8.dv.f 3 (by decide)
  have HH8 := Lib.hid H8
  clear H7 H8 hr7 hg7 HH6
  go_wp2_with fail
  have H9 := HH8.out.set 3 (by decide) (.int .i64 (f : Nat))
  refine (WH.out _ _ 1 (by decide) (HBD.out _) (HLD.out _) H9.rd).mono ?_; rintro _ w9 ⟨rfl, hr9, hg9⟩
  have H10 := H9.read hr9 hg9
  rw [List.drop_drop] at H10
  rw [show 2 + N + 1 + 4 = 2 + N + 5 from rfl, HK.out]
  have HH10 := Lib.hid (show HS w b w9 (l.drop (2 + N + 6)) [.int .i64 1, .string s, .int .i64 (m : Nat), .int .i64 (f : Nat), .slice none 0 0, .int .i64 0, .int .i64 0, .int .i64 0, .int .i64 0] (.slice none 0 0) [] from H10)
  have hb6 := HBD.out (2 + N + 6); have hl6 := HLD.out (2 + N + 6)
  rw [HL6.out] at HH10 hb6 hl6
  have HB6 := Lib.hid (fun k => hb6.drops k)
  have HL6 := Lib.hid (fun k => show (L6.drop k).length ≤ 9223372036854775807 by rw [List.length_drop]; omega)
  clear H9 H10 hr9 hg9 HH8 p4 q4 hcv hb6 hl6
  go_wp2
  go_loopw [4, 21] (fun _ i wr => ∃ (q : Nat) (u : Value), i = .int .i64 q ∧ q ≤ K ∧ Hid (HS w b wr (L6.drop (6 * q)) [.int .i64 1, .string s, .int .i64 (m : Nat), .int .i64 (f : Nat), u, .int .i64 0, .int .i64 0, .int .i64 0, .int .i64 0] u (rgsOf q L6))) (fun _ i _ => K - (intOf i).toNat)
  case atStart => exact ⟨0, _, rfl, Nat.zero_le _, HH10.out⟩
  case round =>
    obtain ⟨q, u, rfl, hq, HI⟩ := hrel
    by_cases hlt : q < K
    · go_wp2_with fail
      refine (WH.out _ _ 4 (by decide) (HB6.out _) (HL6.out _) HI.out.rd).mono ?_; rintro _ w11 ⟨rfl, hr11, hg11⟩
      have H11 := HI.out.read hr11 hg11
      rw [List.drop_drop] at H11
      have HT := rgsOf_snoc q L6
      obtain ⟨x, hx⟩ : ∃ x : Int, ((nOf 4 (L6.drop (6 * q)) : Nat) : Int) = x := ⟨_, rfl⟩
      obtain ⟨y, hy⟩ : ∃ y : Int, ((nOf 2 (L6.drop (6 * q + 4)) : Nat) : Int) = y := ⟨_, rfl⟩
      rw [hx, hy] at HT
      rw [hx]
      have hlen := rgsOf_length q L6
      have H12 := H11.other (W' := w11.drew) (fun i _ => rfl) (Nat.le_refl _) ⟨rfl, rfl, rfl⟩ H11.row
      have hw2 := WH.out _ _ 2 (by decide) (HB6.out (6 * q + 4)) (HL6.out _) H12.rd
      rw [hy, List.drop_drop] at hw2
      have p4 := H12.bx 4 _ rfl
      have plt := H12.sz
      have B63 := Lib.hid (show q + 1 ≤ maxLen by simp only [maxLen]; omega)
      have B48 := Lib.hid (show (q + 1) * 16 ≤ 140737488355328 by omega)
      have ROW := Lib.hid (show ∀ (W : World) {l' : List Nat} {C : List Value}, HS w b W l' C u (rgsOf q L6) → W.ownsRow (w.heap.size + 2) 49 2 u q (rgC (rgsOf q L6)) from fun W {l'} {C} h => by
        have h2 := h.row
        unfold RgNew at h2
        rw [hlen] at h2
        exact h2)
      have APP := Lib.hid (show ∀ (W W' : World) (v' : Value) {l' : List Nat} {C : List Value}, HS w b W l' C u (rgsOf q L6) → W'.ownsRow (w.heap.size + 2) 49 2 v' (q + 1) (rgC (rgsOf q L6) ++ [.int .i64 x, .int .i64 y]) → (W.alloc (.cells #[.int .i64 x, .int .i64 y] 49)).grownBy W' u.ownBlock → HS w b W' l' C v' (rgsOf (q + 1) L6) from fun W W' v' {l'} {C} h ho hg => by
        have hrow : RgNew (w.heap.size + 2) W' v' (rgsOf (q + 1) L6) := by
          unfold RgNew
          rw [HT, rgC_app, List.length_append, hlen]
          exact ho
        have hsz := h.sz
        refine h.other (fun i hi => (hg.block i (by simp; omega) (fun e => ?_)).trans (Below.heap_alloc W _ i (by omega))) (Nat.le_trans (by simp) hg.size) ⟨hg.os, hg.tape, hg.output⟩ hrow
        have := own_ge h.row i e.symm
        omega)
      have FORM := Lib.hid (show ∀ (W' : World) (v' : Value), W'.ownsRow (w.heap.size + 2) 49 2 v' (q + 1) (rgC (rgsOf q L6) ++ [.int .i64 x, .int .i64 y]) → ∃ A c, v' = .slice A (q + 1) c from fun W' v' h => by
        rcases h.2 with ⟨_, h0⟩ | ⟨g', cap, cur, rfl, _⟩
        · omega
        · exact ⟨_, _, rfl⟩)
      have HH12 := Lib.hid H12; have HW2 := Lib.hid hw2; have HTT := Lib.hid HT; have HLEN := Lib.hid hlen
      clear H11 H12 hw2 HT hlen hx hy hr11 hg11 HI
      go_wp2_with fail
      go_region_law (first
        | (refine step_whole rfl (.tmp 28) 2 _ b _ _ rfl rfl HW2.out ?_; rintro w12 ⟨hr12, hg12⟩; have hs12 := HH12.out.read hr12 hg12; have p4 := hs12.bx 4 _ rfl; have p5 := (hs12.alloc (.cells #[.int .i64 x, .int .i64 y] 49)).bx 4 _ rfl; have plt := hs12.sz)
        | (refine step_append_any _ rfl (.tmp 26) (.tmp 31) 22 rfl (w.heap.size + 2) 49 i0 (.agg #[.int .i64 0, .int .i64 0]) 2 16 Tryd.underlying22 hi0 hz0 hz1 hz2 rfl (by decide) u q (rgC (rgsOf q L6)) rfl (World.ownsRow.alloc (ROW.out _ hs12) _) _ (some ⟨w12.heap.size, 0, none⟩) 1 1 [.int .i64 x, .int .i64 y] rfl (Reads.of_own (World.ownsRow_lit (base := 0) (e := 49) (size := 2) w12 #[.int .i64 x, .int .i64 y] 1 (Nat.zero_le _) (by decide) rfl)) (by simp [Value.oneCell']) B63.out B48.out (by have := hs12.sz; simp; omega) ?_; intro v13 w13 hown13 hg13 hat13; obtain ⟨A13, c13, hv13⟩ := FORM.out _ _ hown13; subst hv13; have hs13 := APP.out _ _ _ hs12 hown13 hg13; have p4 := hs13.bx 4 _ rfl; have q4 := hs13.dv.f 4 (by decide)))
      all_goals
        have hs14 := hs13.set 4 (by decide) (.slice A13 (q + 1) c13)
        rw [show 6 * q + 4 + 2 = 6 * (q + 1) from by omega] at hs14
        have H14 := Lib.hid (show HS w b (w13.setCell ⟨w.heap.size + 1, 4, none⟩ (.slice A13 (q + 1) c13)) (L6.drop (6 * (q + 1))) [.int .i64 1, .string s, .int .i64 (m : Nat), .int .i64 (f : Nat), .slice A13 (q + 1) c13, .int .i64 0, .int .i64 0, .int .i64 0, .int .i64 0] (.slice A13 (q + 1) c13) (rgsOf (q + 1) L6) from hs14)
        clear hs12 hs13 hs14 p4 p5 q4 plt hown13 hg13 hat13 hr12 hg12
        go_wp2
        go_roundw
        case rel => exact ⟨q + 1, _, by go_num, by omega, H14.out⟩
        case measure => simp only [intOf]; omega
    · obtain rfl : q = K := by omega
      obtain ⟨r0, r1, r2, r3, r4, r5, r6, r7, r8⟩ := HI.out.bx.nine
      have HD0 := Lib.hid HI.out.d0
      have hform : ∃ A c, u = .slice A q c ∧ RgOut wr u (rgsOf q L6) := by
        have h2 := RgNew.out HI.out.row
        obtain ⟨A, c, hv, h3⟩ := id h2
        rw [rgsOf_length] at hv
        exact ⟨A, c, hv, h2⟩
      obtain ⟨Au, cu, rfl, hro⟩ := hform
      have HRO := Lib.hid hro
      have HGR := Lib.hid HI.out.gr; have HROW := Lib.hid HI.out.row; have HSZ := Lib.hid HI.out.sz
      clear hro HI
      go_wp2_with (refine wpList_put rfl 24 _ _ rfl w.heap.size [.int .i64 1, .string s, .int .i64 (m : Nat), .int .i64 (f : Nat), .slice Au q cu, .int .i64 0, .int .i64 0, .int .i64 0, .int .i64 0] rfl rfl HD0.out (by kernel_rfl) (by simp [Value.oneCell']) ?_; intro w15 hp15; obtain ⟨y0, y1, y2, y3, y4, y5, y6, y7, y8⟩ := Holds.nine hp15.at_)
      have hro2 : RgNew w.heap.size w15 (.slice Au q cu) (rgsOf q L6) := (HROW.out.grown hp15.grown (fun g e => by injection e; omega)).mono (by omega)
      have hg15 : w.grownBy w15 (some b) := by
        have hz := HSZ.out
        exact ⟨hp15.grown.os.trans HGR.out.os, hp15.grown.tape.trans HGR.out.tape, hp15.grown.output.trans HGR.out.output, by rw [hp15.size]; exact HGR.out.size, fun i hi hn => (hp15.grown.block i (by omega) (by intro e; injection e; omega)).trans (HGR.out.block i hi hn)⟩
      have R15 := Lib.hid hro2; have G15 := Lib.hid hg15
      clear hp15 hro2 hg15
      refine bodyPost_ret (v := .agg #[.int .i64 1, .string s, .int .i64 (m : Nat), .int .i64 (f : Nat), .slice Au q cu, .int .i64 0, .int .i64 0, .int .i64 0, .int .i64 0]) (by simp [results, Tryd.results46, go_sem, y0, y1, y2, y3, y4, y5, y6, y7, y8]) rfl ⟨_, rfl, ?_, G15.out⟩
      rw [HT.out, ← HS'.out]
      exact ⟨_, rfl, R15.out⟩
end Go.Proofs.YtabbpgnenmpacaaDoor.SP
/-
  Contracts of the program's functions of layer 8: read.
-/
set_option linter.unusedSimpArgs false
set_option linter.unusedVariables false
namespace Go.Proofs.YtabbpgnenmpacaaDoor.SP
open Go.RowKit
open CR (below_next own_ge u8_wrap)
/-- While a record is read: the reader, the record's own variable, and that of what is answered. -/
structure RS (w : World) (R : Nat) (W : World) (l : List Nat) (C : List Value) : Prop where
  rd : RdSt W (w.heap.size + 1) l
  bx : Holds W R C
  cl : C.length = 9
  dv : DVar W R 9
  d0 : DVar W w.heap.size 9
  below : Below w.heap.size w W
  hR : w.heap.size + 1 < R
theorem RS.read {w : World} {R : Nat} {W W' : World} {l l' : List Nat} {C : List Value} (h : RS w R W l C) (hr : RdSt W' (w.heap.size + 1) l') (hg : W.grownBy W' (some (w.heap.size + 1))) : RS w R W' l' C := by
  have hR := h.hR
  have hs := h.below.size
  refine ⟨hr, fun j v hj => (World.cell?_of_block (hg.block R h.dv.lt (fun e => by injection e; omega))).trans (h.bx j v hj), h.cl, dvar_grown h.dv hg (by intro e; injection e; omega), dvar_grown h.d0 hg (by intro e; injection e; omega), Below.grown h.below hg hs (fun k e => by injection e; omega), hR⟩
theorem RS.set {w : World} {R : Nat} {W : World} {l : List Nat} {C : List Value} (h : RS w R W l C) (j : Nat) (hj : j < 9) (v : Value) : RS w R (W.setCell ⟨R, j, none⟩ v) l (C.set j v) := by
  have hR := h.hR
  have k : ∀ i, i ≠ R → (W.setCell ⟨R, j, none⟩ v).heap[i]? = W.heap[i]? := fun i hn => heap_setCell_other W ⟨R, j, none⟩ i v (fun e => hn e)
  exact ⟨h.rd.same (fun i hi => k i (by omega)), h.bx.set (by rw [h.cl]; exact hj) v, by rw [List.length_set]; exact h.cl, h.dv.set v, h.d0.set v, h.below.setCell (p := ⟨R, j, none⟩) (by show w.heap.size ≤ R; omega) v, hR⟩
theorem nOf_one (l : List Nat) : nOf 1 l = l.headD 0 := by
  show l.headD 0 + 256 * 0 = _
  omega
theorem hdRead_guess {l : List Nat} (h : l.headD 0 = 1) : hdRead (l.drop 1) = rGuess l := by
  unfold hdRead rGuess
  rw [if_pos h]
  simp only [List.drop_drop, nOf_one, ← Nat.add_assoc, show 1 + 2 = 3 from rfl]
/-- The record that bytes tell, whatever they are. -/
def rRead (l : List Nat) : PR := if l.headD 0 = 1 ∨ l.headD 0 = 2 ∨ l.headD 0 = 3 then rGuess l else ⟨(l.headD 0 : Nat), [], 0, 0, [], 0, 0, 0, i64 (nOf 8 (l.drop 1))⟩
theorem headD_bytes {r : PR} (h : rRight r = true) : ((rBytes r).headD 0 = 1 ∨ (rBytes r).headD 0 = 2 ∨ (rBytes r).headD 0 = 3) := by
  rcases right_cases h with ⟨p, m, f, l, rfl, hk⟩ | ⟨t, n, v, rfl, hk⟩ | ⟨g, t, v, rfl, hk⟩
  · exact Or.inl rfl
  · exact Or.inr (Or.inl rfl)
  · exact Or.inr (Or.inr rfl)
/-- What is taken is what is read, if that is right and laid again as the bytes stand. -/
theorem rTake_read (l : List Nat) : rTake l = if rRight (rRead l) = true ∧ rBytes (rRead l) = l then (rRead l, 0) else (PR.zero, 7) := by
  by_cases h : l.headD 0 = 1 ∨ l.headD 0 = 2 ∨ l.headD 0 = 3
  · have e : rRead l = rGuess l := if_pos h
    rw [e]
    rfl
  · have e : rRead l = ⟨(l.headD 0 : Nat), [], 0, 0, [], 0, 0, 0, i64 (nOf 8 (l.drop 1))⟩ := if_neg h
    have hr : rRight (rRead l) = false := by
      rw [e]
      unfold rRight
      rw [if_neg (by show ¬ ((l.headD 0 : Nat) : Int) = 1; omega), if_neg (by show ¬ ((l.headD 0 : Nat) : Int) = 2; omega), if_neg (by show ¬ ((l.headD 0 : Nat) : Int) = 3; omega)]
    rw [if_neg (fun g => by rw [hr] at g; cases g.1)]
    exact rTake_no (fun r h1 _ h2 => h (by rw [← h2]; exact headD_bytes h1))
/-- How long a read record is. -/
theorem rRead_ok {l : List Nat} (hb : Bytes l) : Bytes (rRead l).path ∧ (rRead l).rungs.length ≤ 100000 := by
  unfold rRead
  split
  · unfold rGuess
    split
    · refine ⟨(hb.drops 3).takes _, ?_⟩
      show (rgsOf _ _).length ≤ 100000
      rw [rgsOf_length]
      have : ∀ q : List Nat, Bytes q → q.headD 0 < 256 := fun q hq => by
        cases q with
        | nil => decide
        | cons a q => exact hq a List.mem_cons_self
      have := this _ (hb.drops (3 + nOf 2 (l.drop 1) + 5))
      omega
    · split
      · exact ⟨fun _ h => (by cases h), Nat.zero_le _⟩
      · exact ⟨fun _ h => (by cases h), Nat.zero_le _⟩
  · exact ⟨fun _ h => (by cases h), Nat.zero_le _⟩
/-- A record's variable is made. -/
theorem rs_start {w w2 w3 : World} {l : List Nat} {C0 C2 cs : List Value} {t : TypeId} {o : Obj} (hr : RdSt w2 (w.heap.size + 1) l) (hg : ((w.alloc (.cells C0.toArray t)).alloc o).grownBy w2 (some (w.heap.size + 1))) (h0 : C0.length = 9) (h2 : cs.length = 9)
    (hp : Put (w2.alloc (.cells C2.toArray t)) w3 w2.heap.size cs) : RS w w2.heap.size w3 l cs := by
  have e1 : (w.alloc (.cells C0.toArray t)).heap.size = w.heap.size + 1 := by simp
  have e2 : ((w.alloc (.cells C0.toArray t)).alloc o).heap.size = w.heap.size + 2 := by simp
  have hs := hg.size
  rw [e2] at hs
  have k3 : ∀ i, i < w2.heap.size → w3.heap[i]? = w2.heap[i]? := fun i hi => (hp.grown.block i (by simp; omega) (fun e => by injection e; omega)).trans (Below.heap_alloc w2 _ i hi)
  have hb1 : Below w.heap.size w ((w.alloc (.cells C0.toArray t)).alloc o) := (alloc_below w _).trans ((alloc_below _ _).mono (by rw [e1]; omega))
  have hb2 : Below w.heap.size w w2 := Below.grown hb1 hg (by rw [e2]; omega) (fun k e => by injection e; omega)
  have hb3 : Below w.heap.size w w3 := hp.below (by omega) (hb2.alloc (by omega) _)
  have d1 : DVar ((w.alloc (.cells C0.toArray t)).alloc o) w.heap.size 9 := by
    have d := DVar.below (alloc_below (w.alloc (.cells C0.toArray t)) o) (DVar.alloc (w := w) C0.toArray t)
    have e : C0.toArray.size = 9 := by simpa using h0
    rw [e] at d
    exact d
  have d2 := dvar_grown d1 hg (by intro e; injection e; omega)
  refine ⟨hr.same (fun i hi => k3 i (by omega)), hp.at_, h2, by have := hp.var; rw [h2] at this; exact this, ⟨by rw [hp.size]; simp; omega, fun i hi => ?_, fun i hi => ?_⟩, hb3, by omega⟩
  · obtain ⟨u, hu⟩ := d2.c i hi
    exact ⟨u, (World.cell?_of_block (k3 w.heap.size (by omega))).trans hu⟩
  · exact (World.frozen?_of_block (a := ⟨w.heap.size, i, none⟩) (k3 w.heap.size (by omega))).trans (d2.f i hi)
theorem RdSt.first {w : World} {v : Value} {l : List Nat} {C0 : Array Value} {t t2 : TypeId} (h : ByOut w v l) : RdSt ((w.alloc (.cells C0 t)).alloc (.cells #[v] t2)) (w.heap.size + 1) l := by
  have e1 : (w.alloc (.cells C0 t)).heap.size = w.heap.size + 1 := by simp
  have d := DVar.alloc (w := w.alloc (.cells C0 t)) #[v] t2
  have hh := holds_alloc (w.alloc (.cells C0 t)) [v] t2 0 v rfl
  rw [e1] at d hh
  refine ⟨v, hh, d.f 0 (by simp), ?_⟩
  have hu := ByUnder.of h
  obtain ⟨A, cap, hv, hc, hx⟩ := hu
  refine ⟨A, cap, hv, hc, fun hn => ?_⟩
  obtain ⟨b, off, hA, hB, hf⟩ := hx hn
  exact ⟨b, off, hA, by omega, (hf.below (alloc_below w _)).below (alloc_below _ _)⟩
theorem rc_plain (B : Nat) (w : World) (k g t n v : Int) : RcNew B w (.agg #[.int .i64 k, .string ByteArray.empty, .int .i64 0, .int .i64 0, .slice none 0 0, .int .i64 g, .int .i64 t, .int .i64 n, .int .i64 v]) ⟨k, [], 0, 0, [], g, t, n, v⟩ :=
  ⟨.slice none 0 0, rfl, RgNew.nil B w⟩
theorem rRead_other {l : List Nat} {K : Nat} {vv : Int} (h : l.headD 0 = K) (k9 : ¬ (K = 1 ∨ K = 2 ∨ K = 3)) (hv : i64 (nOf 8 (l.drop 1)) = vv) : rRead l = ⟨(K : Nat), [], 0, 0, [], 0, 0, 0, vv⟩ := by
  subst h hv
  exact if_neg k9
theorem rRead_two {l : List Nat} {K : Nat} {t nw vv : Int} (h : l.headD 0 = K) (k2 : K = 2) (ht : i64 (nOf 8 (l.drop 1)) = t) (hn : i64 (nOf 8 (l.drop 9)) = nw) (hv : i64 (nOf 8 (l.drop 17)) = vv) : rRead l = ⟨(K : Nat), [], 0, 0, [], 0, t, nw, vv⟩ := by
  subst ht hn hv k2
  unfold rRead
  rw [if_pos (Or.inr (Or.inl h))]
  unfold rGuess
  rw [if_neg (by rw [h]; decide), if_pos h]
  rfl
theorem rRead_three {l : List Nat} {K : Nat} {g t vv : Int} (h : l.headD 0 = K) (k3 : K = 3) (hg : i64 (nOf 1 (l.drop 1)) = g) (hb : (l.drop 1).headD 0 < 9223372036854775808) (ht : i64 (nOf 8 (l.drop 2)) = t) (hv : i64 (nOf 8 (l.drop 10)) = vv) : rRead l = ⟨(K : Nat), [], 0, 0, [], g, t, 0, vv⟩ := by
  subst hg ht hv k3
  unfold rRead
  rw [if_pos (Or.inr (Or.inr h))]
  unfold rGuess
  rw [if_neg (by rw [h]; decide), if_neg (by rw [h]; decide), nOf_one, i64_small hb]
  rfl
end Go.Proofs.YtabbpgnenmpacaaDoor.SP
