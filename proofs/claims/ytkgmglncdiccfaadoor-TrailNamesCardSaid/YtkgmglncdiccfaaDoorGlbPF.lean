/-
  Contracts of the program's functions of layer 15: pieces.
-/
import Derived.Test.YtkgmglncdiccfaaDoorGlbPE
set_option linter.unusedSimpArgs false
set_option linter.unusedVariables false
namespace Go.Proofs.YtkgmglncdiccfaaDoor.GP
open Go.RowKit
def PL : Tr → Prop
  | .nil => True
  | .atom _ r => PL r
  | .br _ r => PL r
  | .none => False
  | .way _ _ => False
theorem app_nil : ∀ (l : Tr), PL l → l.app .nil = l
  | .nil, _ => rfl
  | .atom a r, h => congrArg (Tr.atom a) (app_nil r h)
  | .br ws r, h => congrArg (Tr.br ws) (app_nil r h)
  | .none, h => h.elim
  | .way _ _, h => h.elim
theorem PL.app : ∀ {l : Tr}, PL l → ∀ {u : Tr}, PL u → PL (l.app u)
  | .nil, _, _, h => h
  | .atom a r, h, _, hu => PL.app (l := r) h hu
  | .br ws r, h, _, hu => PL.app (l := r) h hu
  | .none, h, _, _ => h.elim
  | .way _ _, h, _, _ => h.elim
theorem Un.pl {B : Nat} {w : World} {v : Value} {u : Tr} (h : Un B w v u) : PL u := by
  cases h with
  | atom a rv h => exact trivial
  | br ws wv h => exact trivial
/-- The pieces that were read. -/
structure PsJ (B : Nat) (wr : World) (s sk : List Nat) (l : Tr) (v : Value) : Prop where
  rest : gPr false s = (gPr false sk).map fun x => (l.app x.1, x.2)
  row : TrNew B wr v l
  mem : ∀ c ∈ sk, c < 256
  dep : gDp l + sk.length ≤ s.length
  num : l.len + sk.length ≤ s.length
  pl : PL l
set_option maxRecDepth 100000 in
set_option maxHeartbeats 4000000 in
theorem pieces_c (n : Nat) (HP : PcC n) : PsC n := by
  intro rb s o d hod hs hb hol hd w h
  have hlt := h.var.lt
  have HR := Lib.hid h
  have HOD := Lib.hid hod
  have c0 := h.three.1
  obtain ⟨i0, hi0, hz0, hzz1, hzz2⟩ := info_parts pc_info
  have HB := Lib.hid hb
  clear h hod hb
  go_enter Tryd.func34, Tryd.ntmps34
  go_wp2_with fail
  go_loopw [4, 5, 6] (fun v4 _ _ wr => ∃ (sk : List Nat) (l : Tr) (A : Option Addr) (q cc : Nat), v4 = .slice A q cc ∧ q ≤ 900 ∧ Hid (q = l.len) ∧ Hid (Rd wr rb sk o (max d (o + (gDp l : Nat)))) ∧ Hid (PsJ w.heap.size wr s sk l (.slice A q cc)) ∧ Hid (w.grownBy wr (some rb))) (fun _ _ _ wr => restLen rb wr)
  case atStart => exact ⟨s, .nil, none, 0, 0, rfl, by omega, rfl, by have := HR.out; have h0 := HOD.out; rwa [show max d (o + ((gDp .nil : Nat) : Int)) = d from by show max d (o + 0) = d; omega], ⟨by cases gPr false s <;> rfl, TrNew.nil _ _, HB.out, by show 0 + s.length ≤ _; omega, by show 0 + s.length ≤ _; omega, trivial⟩, World.grownBy.refl _ _⟩
  case round =>
    obtain ⟨sk, l, A, q, cc, rfl, hq, HQ, HRd, HJ, HG⟩ := hrel
    have k0 := HRd.out.three.1
    have STOP := Lib.hid (fun (hst : Stop sk) => show gPr false s = some (l, sk) by
      have e1 : gPr false sk = some (.nil, sk) := by
        rcases hst with rfl | ⟨c, t, rfl, hc⟩
        · exact gPr_nil
        · exact gPr_stop t hc
      have h1 := HJ.out.rest
      rw [e1] at h1
      rw [h1]
      show some (l.app .nil, sk) = _
      rw [app_nil l HJ.out.pl])
    have END := Lib.hid (fun (hst : Stop sk) => show PsI w.heap.size wr rb s o d (.slice A q cc) true from ⟨l, sk, STOP.out hst, HJ.out.row, HRd.out⟩)
    by_cases hn : sk = []
    · subst hn
      have EN := Lib.hid (END.out (.inl rfl))
      have k1 : wr.cell? ⟨rb, 0, none⟩ = some (.string ⟨#[]⟩) := k0
      clear k0
      go_wp2
      go_ret2
      first | exact ⟨_, _, rfl, EN.out, HG.out⟩ | exact ⟨_, .inr ⟨rfl, EN.out, HG.out⟩⟩
    · obtain ⟨c, t, rfl⟩ : ∃ c t, sk = c :: t := by
        cases sk with
        | nil => exact absurd rfl hn
        | cons a b => exact ⟨a, b, rfl⟩
      have hc256 := HJ.out.mem c (by simp)
      obtain ⟨hz, hr0⟩ := str_first (t := t) hc256
      have hdp := HJ.out.dep
      have hnm := HJ.out.num
      simp only [List.length_cons] at hdp hnm
      have hml : restLen rb wr = t.length + 1 := restLen_is HRd.out
      have PC := fun (hc : ¬ (c = 44 ∨ c = 125)) => HP rb c t o (max d (o + (gDp l : Nat))) ⟨HOD.out.1, by omega⟩ (by omega) HJ.out.mem hc (by omega) (by omega) wr HRd.out
      obtain ⟨R, hRs⟩ : ∃ R, str (c :: t) = R := ⟨_, rfl⟩
      have hne : R.toList.isEmpty = false := ne_empty2 (by rw [← hRs]; exact hz)
      have hz1 : (0 : Int) < (R.size : Int) := by rw [← hRs, str_size]; simp only [List.length_cons]; omega
      obtain ⟨hzR, hR0⟩ : ∃ h : 0 < R.size, (R[0]'h).toNat = c := by subst hRs; exact ⟨hz, hr0⟩
      rw [hRs] at k0
      have HRS := Lib.hid hRs; have HPC := Lib.hid PC; have HML := Lib.hid hml
      clear hn hz hr0 hRs PC hml
      by_cases h44 : c = 44
      · subst h44
        have EN := Lib.hid (END.out (.inr ⟨_, _, rfl, .inl rfl⟩))
        go_wp2
        go_ret2
        first | exact ⟨_, _, rfl, EN.out, HG.out⟩ | exact ⟨_, .inr ⟨rfl, EN.out, HG.out⟩⟩
      · have i44 : ¬ (c : Int) = 44 := by omega
        have b44 : ((c : Int) != 44) = true := bne_iff_ne.2 i44
        by_cases h125 : c = 125
        · subst h125
          have EN := Lib.hid (END.out (.inr ⟨_, _, rfl, .inr rfl⟩))
          go_wp2
          go_ret2
          first | exact ⟨_, _, rfl, EN.out, HG.out⟩ | exact ⟨_, .inr ⟨rfl, EN.out, HG.out⟩⟩
        · have i125 : ¬ (c : Int) = 125 := by omega
          have b125 : ((c : Int) != 125) = true := bne_iff_ne.2 i125
          have PC1 := Lib.hid (HPC.out (by omega))
          go_wp2_with fail
          refine PC1.out.mono ?_; rintro _ w2 ⟨pv, ok, rfl, hpi, hg2⟩
          obtain ⟨kk, SS, A1, A2, n1, c1, n2, c2, rfl⟩ := hpi.form
          have HG2 := Lib.hid (HG.out.trans hg2)
          cases ok with
          | false =>
            obtain ⟨hno, ⟨r, o', d', hr⟩, hpv⟩ := hpi
            have HNO := Lib.hid (show gPr false s = none by rw [HJ.out.rest, hno]; rfl)
            have HR2 := Lib.hid hr
            clear hno hr hpv hg2
            go_wp2
            go_ret2
            first | exact ⟨_, _, rfl, ⟨HNO.out, _, _, _, HR2.out.below (alloc_below _ _)⟩, grown_below HG2.out (alloc_below _ _)⟩ | exact ⟨_, .inl ⟨rfl, ⟨HNO.out, _, _, _, HR2.out.below (alloc_below _ _)⟩, grown_below HG2.out (alloc_below _ _)⟩⟩
          | true =>
            obtain ⟨u, r, hu, hr, hgp, hlen, hmem⟩ := hpi
            simp only [List.length_cons] at hlen
            obtain ⟨k', S', B1, B2, m1, d1, m2, d2, hpv, hut, hul, -⟩ := hu.cells
            have hpl := Un.pl hu
            have hrow := HJ.out.row.keep (keepG hg2 (by omega))
            obtain ⟨cs, how, hta⟩ := hrow
            rw [← HQ.out] at how
            have hdl : max (max d (o + (gDp l : Nat))) (o + (gDp u : Nat)) = max d (o + ((gDp (l.app u) : Nat) : Int)) := by rw [gDp_app]; omega
            rw [hdl] at hr
            have HJN := Lib.hid (show gPr false s = (gPr false r).map fun x => ((l.app u).app x.1, x.2) by
              rw [HJ.out.rest, hgp]
              cases gPr false r with
              | none => rfl
              | some x => exact congrArg (fun z => some (z, x.2)) (Tr.app_assoc l u x.1).symm)
            have HNN := Lib.hid (show gDp (l.app u) + r.length ≤ s.length ∧ (l.app u).len + r.length ≤ s.length by rw [gDp_app, Tr.app_len, hul]; omega)
            have HPL := Lib.hid (PL.app HJ.out.pl hpl)
            have hlt4 : ∀ g, (Value.slice A q cc).ownBlock = some g → g < wr.heap.size := fun g hg => (own_lt HJ.out.row.choose_spec.1 hg).2
            have HLT := Lib.hid hlt4
            have HS4 := Lib.hid (show w.heap.size ≤ wr.heap.size from HG.out.size)
            have HS2 := Lib.hid (show w.heap.size ≤ w2.heap.size from HG2.out.size)
            have HR2 := Lib.hid hr; have HOW := Lib.hid how; have HTA := Lib.hid hta; have HMEM := Lib.hid hmem; have HLEN := Lib.hid hlen.1; have HUL := Lib.hid hul
            have HPV := Lib.hid hpv; have HUT := Lib.hid hut
            clear hu hpv hut hul hpl how hta hdl hr hgp hlen hmem hlt4 hg2
            go_upto_region 6 with fail
            have hb3 : Below w2.heap.size w2 (w2.alloc (.cells #[.int .i64 kk, .string SS, .slice A1 n1 c1, .slice A2 n2 c2] 70)) := alloc_below _ _
            have HB3 := Lib.hid hb3
            have HS3 := Lib.hid (Nat.le_trans HS2.out hb3.size)
            have HOW3 := Lib.hid (own_keep HOW.out (keepB hb3))
            obtain ⟨t0, t1, t2, t3⟩ := (holds_alloc w2 [.int .i64 kk, .string SS, .slice A1 n1 c1, .slice A2 n2 c2] 70).four
            have e0 : (w2.alloc (.cells [.int .i64 kk, .string SS, .slice A1 n1 c1, .slice A2 n2 c2].toArray 70)) = (w2.alloc (.cells #[.int .i64 kk, .string SS, .slice A1 n1 c1, .slice A2 n2 c2] 70)) := rfl
            rw [e0] at t0 t1 t2 t3
            clear e0 hb3
            generalize (w2.alloc (.cells #[.int .i64 kk, .string SS, .slice A1 n1 c1, .slice A2 n2 c2] 70)) = y1 at HB3 HS3 HOW3 t0 t1 t2 t3 ⊢
            obtain ⟨lit, hlit⟩ : ∃ lit, (y1.alloc (.cells #[.int .i64 kk, .string SS, .slice A1 n1 c1, .slice A2 n2 c2] 70)) = lit := ⟨_, rfl⟩
            have hbl : Below y1.heap.size y1 lit := by rw [← hlit]; exact alloc_below _ _
            have hll : lit.heap.size = y1.heap.size + 1 := by rw [← hlit]; simp
            have HLIT := Lib.hid hlit; have HBL := Lib.hid hbl; have HLL := Lib.hid hll
            clear hbl hll hlit
            have hq1 : q + 1 ≤ 900 := by have h5 := HOD.out.1; have := HNN.out.2; rw [Tr.app_len] at this; have h1 := HQ.out; have h2 := HUL.out; omega
            go_wp2_with (at_builtin; refine wpList_append_any _ rfl (.tmp 35) (.tmp 37) _ rfl w.heap.size 70 i0 (.agg #[.int .i64 0, .string ⟨#[]⟩, .slice none 0 0, .slice none 0 0]) 4 72 Tryd.underlying38 hi0 hz0 hzz1 hzz2 rfl (by decide) (.slice A q cc) q cs rfl (World.ownsRow.alloc HOW3.out _) _ (some ⟨y1.heap.size, 0, none⟩) 1 1 [.int .i64 kk, .string SS, .slice A1 n1 c1, .slice A2 n2 c2] rfl (Reads.of_own (World.ownsRow_lit (base := 0) (e := 70) (size := 4) y1 #[.int .i64 kk, .string SS, .slice A1 n1 c1, .slice A2 n2 c2] 1 (Nat.zero_le _) (by decide) rfl)) (by simp [Value.oneCell']) (by simp only [maxLen]; omega) (by omega) (by have := HS3.out; simp; omega) ?_; intro v6 w6 hown6 hg6 hat6; rw [HLIT.out] at hg6 hat6)
            obtain ⟨A6, c6, hv6, -⟩ := own_form hown6
            subst hv6
            have hlow : Below w.heap.size y1 w6 := Below.grown (HBL.out.mono HS3.out) hg6 (by have := HS3.out; have := HLL.out; omega) (fun k e => (World.ownsRow.lt HOW3.out k e).1)
            have HG6 := Lib.hid (grown_low (grown_below HG2.out HB3.out) hlow (Nat.le_refl _))
            have HR6 := Lib.hid ((HR2.out.below HB3.out).low hlow hlt)
            have HN6 := Lib.hid (show TrNew w.heap.size w6 (.slice A6 (q + 1) c6) (l.app u) by
              refine ⟨cs ++ [.int .i64 kk, .string SS, .slice A1 n1 c1, .slice A2 n2 c2], ?_, ?_⟩
              · rw [Tr.app_len, HUL.out, ← HQ.out]
                exact hown6
              · refine TrAt.app ?_ l cs (TrAt.step (TrAt.move (fun g h1 h2 => ⟨(HBL.out.block g (Nat.lt_of_lt_of_le h2 HB3.out.size)).trans (HB3.out.block g h2), h1⟩) l cs HTA.out) hg6 hat6)
                have hx : pcC k' S' (.slice B1 m1 d1) (.slice B2 m2 d2) = [.int .i64 kk, .string SS, .slice A1 n1 c1, .slice A2 n2 c2] := by
                  have h0 := HPV.out
                  injection h0 with h0
                  have h1 := congrArg Array.toList h0
                  exact h1.symm
                have h9 := HUT.out
                rw [hx] at h9
                exact TrAt.fresh (M := wr.heap.size) h9 HS4.out HLT.out (fun g _ h2 => (HBL.out.block g (Nat.lt_of_lt_of_le h2 HB3.out.size)).trans (HB3.out.block g h2)) (Nat.le_trans HB3.out.size HBL.out.size) hg6 hat6)
            clear hown6 hg6 hat6 hlow
            go_wp2
            go_roundw
            case rel => exact ⟨r, l.app u, A6, q + 1, c6, rfl, hq1, by rw [Tr.app_len, HUL.out, ← HQ.out]; rfl, HR6.out, ⟨HJN.out, HN6.out, HMEM.out, HNN.out.1, HNN.out.2, HPL.out⟩, HG6.out⟩
            case measure => rw [HML.out, restLen_is HR6.out]; have := HLEN.out; omega
theorem psC_all : ∀ (n : Nat), (∀ m, PsC m → BrC m) → PsC n
  | 0, _ => pieces_c 0 (fun rb c t o d _ h => by omega)
  | n + 1, hbr => pieces_c (n + 1) (piece_c n (hbr n (psC_all n hbr)))
end Go.Proofs.YtkgmglncdiccfaaDoor.GP
