/-
  Texts of the trie's proofs, merged: GlbPDb, GlbTx, GlbPI, GlbPJ, GlbBo.
-/
import Derived.Test.YtbfbjalnahngjaaGreatDoorTriQ3
import Derived.Test.YtbfbjalnahngjaaGreatDoorTriQ4
import Derived.Test.YtbfbjalnahngjaaGreatDoorTriQ2
set_option linter.unusedSimpArgs false
set_option linter.unusedVariables false
namespace Go.Proofs.YtbfbjalnahngjaaGreatDoor.GP
open Go.RowKit
set_option maxRecDepth 100000 in
set_option maxHeartbeats 4000000 in
theorem braces_c (n : Nat) (H : PsC n) : BrC n := by
  intro rb t o d hod hs hb hol hd w h
  have hmf : ∀ (fn : Fn) (first cap : Array Value) (w : World), (Instr.makeFunc fn first cap).run Tryz.prog w = .ok (.func fn first cap) w := fun _ _ _ _ => rfl
  have hlt := h.var.lt
  have HR := Lib.hid h
  obtain ⟨c0, c1, c2, f0, f1, f2⟩ := h.three
  obtain ⟨S, hS⟩ : ∃ S, str (123 :: t) = S := ⟨_, rfl⟩
  rw [hS] at c0
  have i1 : IntKind.i64.wrap (o + 1) = o + 1 := by rw [IntKind.wrap_i64]; omega
  clear h
  go_enter_defers Tryz.func122, Tryz.ntmps122
  go_wp2_with fail
  obtain ⟨W1, hW1⟩ : ∃ W1, (((w.setCell ⟨rb, 1, none⟩ (.int .i64 (o + 1))).alloc (.cells #[.pointer (some ⟨rb, 0, none⟩)] 138)).alloc (.cells #[.int .i64 0, .string ⟨#[]⟩, .slice none 0 0, .slice none 0 0] 129)) = W1 := ⟨_, rfl⟩
  rw [hW1]
  have hg1 : w.grownBy W1 (some rb) := by
    rw [← hW1]
    exact grown_below (grown_set1 w rb 1 _) (bnext (alloc_below _ _) (alloc_below _ _))
  have hr1 : Rd W1 rb (123 :: t) (o + 1) d := by
    rw [← hW1]
    exact (HR.out.set1.below (alloc_below _ _)).below (alloc_below _ _)
  have hz1 : W1.heap.size = w.heap.size + 2 := by rw [← hW1]; simp
  have hp1 : W1.cell? ⟨w.heap.size, 0, none⟩ = some (.pointer (some ⟨rb, 0, none⟩)) := by
    rw [← hW1]
    refine cellb (alloc_below _ _) ?_
    have := holds_alloc (w.setCell ⟨rb, 1, none⟩ (.int .i64 (o + 1))) [.pointer (some ⟨rb, 0, none⟩)] 138 0 _ rfl
    simpa using this
  have hv1 : DVar W1 (w.heap.size + 1) 4 := by
    have := DVar.alloc (w := ((w.setCell ⟨rb, 1, none⟩ (.int .i64 (o + 1))).alloc (.cells #[.pointer (some ⟨rb, 0, none⟩)] 138))) #[.int .i64 0, .string ⟨#[]⟩, .slice none 0 0, .slice none 0 0] 129
    rw [hW1] at this
    simpa using this
  obtain ⟨-, d1, d2, -, -, g2⟩ := hr1.three
  have HR1 := Lib.hid hr1; have HG1 := Lib.hid hg1; have HZ1 := Lib.hid hz1; have HV1 := Lib.hid hv1
  clear c0 c1 c2 f0 f1 f2 hW1 hr1 hg1 hv1 i1 hz1
  have hR2 := Lib.hid (HR1.out.set2 (d' := max d (o + 1)))
  have hG2 := Lib.hid (HG1.out.trans (grown_set1 W1 rb 2 (.int .i64 (max d (o + 1)))))
  have hV2 := Lib.hid (HV1.out.set (b' := rb) (o := 2) (.int .i64 (max d (o + 1))))
  have hp2 : (W1.setCell ⟨rb, 2, none⟩ (.int .i64 (max d (o + 1)))).cell? ⟨w.heap.size, 0, none⟩ = some (.pointer (some ⟨rb, 0, none⟩)) := (World.cell?_setCell_other _ _ _ _ (by intro e; simp only [Addr.mk.injEq] at e; omega)).trans hp1
  have hZ2 : (W1.setCell ⟨rb, 2, none⟩ (.int .i64 (max d (o + 1)))).heap.size = w.heap.size + 2 := by rw [← HZ1.out]; simp
  go_region
  go_wp2_with fail
  generalize (W1.setCell ⟨rb, 2, none⟩ (.int .i64 (max d (o + 1)))) = W2 at hR2 hG2 hV2 hp2 hZ2 ⊢
  obtain ⟨W3, hW3⟩ : ∃ W3, (W2.alloc (.cells #[.int .i64 4, .string ⟨#[]⟩, .slice none 0 0, .slice none 0 0] 129)).drew = W3 := ⟨_, rfl⟩
  have hb3 : Below W2.heap.size W2 W3 := by rw [← hW3]; exact (alloc_below _ _).drew
  have HR3 := Lib.hid (hR2.out.below hb3)
  have HG3 := Lib.hid (grown_below hG2.out hb3)
  have HV3 := Lib.hid (hV2.out.below hb3)
  have hp3 := cellb hb3 hp2
  have HS3 := Lib.hid (show w.heap.size + 3 ≤ W3.heap.size by rw [← hW3]; simp; omega)
  have HX3 := Lib.hid (show DVar W3 (w.heap.size + 2) 4 by
    have := (DVar.alloc (w := W2) #[.int .i64 4, .string ⟨#[]⟩, .slice none 0 0, .slice none 0 0] 129).drew
    rw [hW3, hZ2] at this
    exact this)
  have HH3 := Lib.hid (show Holds W3 (w.heap.size + 2) [.int .i64 4, .string ⟨#[]⟩, .slice none 0 0, .slice none 0 0] by
    have := (holds_alloc W2 [.int .i64 4, .string ⟨#[]⟩, .slice none 0 0, .slice none 0 0] 129).drew
    rw [hZ2] at this
    rw [← hW3]
    exact this)
  rw [hW3]
  clear hR2 hG2 hV2 hp2 hZ2 hb3 hW3 HR1 HG1 HZ1 HV1 hp1 d1 d2 g2 HR
  obtain ⟨i0, hi0, hz0, hzz1, hzz2⟩ := info_parts ps_info
  go_loopw [5, 6] (fun _ _ wr => ∃ (c : Nat) (tk : List Nat) (dw : Tr) (A : Option Addr) (q cc : Nat), wr.cell? ⟨w.heap.size, 0, none⟩ = some (.pointer (some ⟨rb, 0, none⟩)) ∧ c < 256 ∧ q ≤ 900 ∧ Hid (q = dw.len) ∧ Hid (Rd wr rb (c :: tk) (o + 1) (max d (o + 1 + (gDp dw : Nat)))) ∧ Hid (BrI (w.heap.size + 3) wr rb t tk o d dw (.slice A q cc)) ∧ Hid (Holds wr (w.heap.size + 2) [.int .i64 4, .string ⟨#[]⟩, .slice none 0 0, .slice A q cc]) ∧ Hid (DVar wr (w.heap.size + 2) 4) ∧ Hid (DVar wr (w.heap.size + 1) 4) ∧ Hid (w.grownBy wr (some rb)) ∧ Hid (w.heap.size + 3 ≤ wr.heap.size)) (fun _ _ wr => restLen rb wr)
  case atStart => exact ⟨123, t, .none, none, 0, 0, hp3, by decide, by decide, rfl, by have := HR3.out; rwa [show max d (o + 1 + ((gDp .none : Nat) : Int)) = max d (o + 1) from by show max d (o + 1 + 0) = _; omega], ⟨by cases gPr true t <;> rfl, WsNew.none _ _, Nat.le_refl _, fun c hc => hb c (List.mem_cons_of_mem _ hc), by show 0 + t.length ≤ _; omega, by show 0 + t.length ≤ _; omega⟩, HH3.out, HX3.out, HV3.out, HG3.out, HS3.out⟩
  case round =>
    as_aux_lemma =>
      obtain ⟨c, tk, dw, A, q, cc, hp, hc256, hq, HQ, HRd, HBI, HH, HX, HV, HG, HS⟩ := hrel
      have hml : restLen rb wr = tk.length + 1 := restLen_is HRd.out
      have hbi := HBI.out
      have hmem : ∀ x ∈ c :: tk, x < 256 := fun x hx => (List.mem_cons.1 hx).elim (fun e => e ▸ hc256) (fun h => hbi.mem x h)
      have hdp := hbi.dep
      have htl := hbi.len
      have hnm := hbi.num
      have TK1 := Lib.hid (take_c rb (c :: tk) (o + 1) _ 1 (by simp) (by simp only [List.length_cons]; omega) hmem wr HRd.out)
      have HR4 := Lib.hid (HRd.out.set0 (s' := tk))
      have HP := Lib.hid (fun W hW => H rb tk (o + 1) (max d (o + 1 + (gDp dw : Nat))) ⟨by omega, by omega⟩ (by omega) hbi.mem (by omega) (by omega) W hW)
      rw [show (c :: tk).drop 1 = tk from rfl] at TK1
      have HG4 := Lib.hid (HG.out.trans (grown_set1 wr rb 0 (.string (str tk))))
      have HV4 := Lib.hid (HV.out.set (b' := rb) (o := 0) (.string (str tk)))
      have HX4 := Lib.hid (HX.out.set (b' := rb) (o := 0) (.string (str tk)))
      have HH4 := Lib.hid (HH.out.setOther (show rb ≠ w.heap.size + 2 by omega) (j := 0) (.string (str tk)))
      have HW4 := Lib.hid (hbi.ws.keep (w' := wr.setCell ⟨rb, 0, none⟩ (.string (str tk))) (keepG (grown_set1 wr rb 0 _) (by omega)))
      have hp4 : (wr.setCell ⟨rb, 0, none⟩ (.string (str tk))).cell? ⟨w.heap.size, 0, none⟩ = some (.pointer (some ⟨rb, 0, none⟩)) := (World.cell?_setCell_other _ _ _ _ (by intro e; simp only [Addr.mk.injEq] at e; omega)).trans hp
      have HS4 := Lib.hid (show w.heap.size + 3 ≤ (wr.setCell ⟨rb, 0, none⟩ (.string (str tk))).heap.size by simpa using HS.out)
      have HMEM := Lib.hid hbi.mem; have HRST := Lib.hid hbi.rest; have HDP := Lib.hid hdp; have HTL := Lib.hid htl; have HML := Lib.hid hml; have HNM := Lib.hid hnm
      clear hbi hmem hml HRd HG HV HX HH HBI HS
      go_wp2_with fail
      refine TK1.out.mono ?_; rintro _ w4 ⟨rfl, rfl⟩
      obtain ⟨w4, hw4⟩ : ∃ w4, (wr.setCell ⟨rb, 0, none⟩ (.string (str tk))) = w4 := ⟨_, rfl⟩
      rw [hw4] at HR4 HG4 HV4 HX4 HH4 HW4 HS4 hp4 ⊢
      clear hw4 TK1 hp
      go_wp2_with fail
      refine (HP.out w4 HR4.out).mono ?_; rintro _ w5 ⟨v5, ok, rfl, hps, hg5⟩
      have HG5 := Lib.hid (HG4.out.trans hg5)
      have hp5 : w5.cell? ⟨w.heap.size, 0, none⟩ = some (.pointer (some ⟨rb, 0, none⟩)) := (World.cell?_of_block (hg5.block w.heap.size (by have := HS4.out; omega) (by intro e; injection e with e; omega))).trans hp4
      have HV5 := Lib.hid (dvar_grown hg5 (by omega) HV4.out); have HX5 := Lib.hid (dvar_grown hg5 (by omega) HX4.out)
      have HH5 := Lib.hid (holds_grown hg5 (by omega) HX4.out HH4.out)
      have HW5 := Lib.hid (HW4.out.keep (keepG hg5 (by omega)))
      have HS5 := Lib.hid (Nat.le_trans HS4.out hg5.size)
      cases ok with
      | false =>
        as_aux_lemma =>
          obtain ⟨hno, r5, o5, d5, hr5⟩ := hps
          have HNO := Lib.hid (gPr_brNo (t := t) (by rw [HRST.out, gPr_wayNo hno]; rfl))
          have HR5 := Lib.hid hr5
          clear hno hr5 hg5
          go_wp2_with (refine wpList_put rfl 129 _ _ rfl (w.heap.size + 1) [.int .i64 0, .string ⟨#[]⟩, .slice none 0 0, .slice none 0 0] rfl rfl (HV5.out) (by kernel_rfl) (by simp [Value.oneCell']) ?_; intro y1 hp; obtain ⟨t0, t1, t2, t3⟩ := hp.at_.four)
          have hRy := (HR5.out).put hp (by omega)
          have hpy : y1.cell? ⟨w.heap.size, 0, none⟩ = some (.pointer (some ⟨rb, 0, none⟩)) := (hp.keep _ _ (show w.heap.size ≠ w.heap.size + 1 by omega)).trans hp5
          refine leaves_cons (f := 132) (args := #[.pointer (some ⟨w.heap.size, 0, none⟩)]) (by simp) (by simp [go_sem]) ?_
          refine (close_c w.heap.size rb _ _ _ .returning y1 hpy hRy).mono ?_
          rintro e u' w'' ⟨rfl, rfl, rfl⟩
          obtain ⟨t0', t1', t2', t3'⟩ := (hp.at_.setOther (show rb ≠ w.heap.size + 1 by omega) (j := 1) (.int .i64 (wrap64 (o5 - 1)))).four
          exact ⟨.tuple #[.agg #[.int .i64 0, .string ⟨#[]⟩, .slice none 0 0, .slice none 0 0], .bool false], by simp [results, Tryz.results122, go_sem, t0', t1', t2', t3'], _, _, rfl, ⟨HNO.out, ⟨_, _, _, hRy.set1⟩, rfl⟩, (grown_then (HG5.out) hp.grown (by omega)).trans (grown_set1 _ _ _ _)⟩
      | true =>
        as_aux_lemma =>
          obtain ⟨l, r, hpl, htn, hr5⟩ := hps
          have hdl : max (max d (o + 1 + (gDp dw : Nat))) (o + 1 + (gDp l : Nat)) = max d (o + 1 + ((gDp (dw.app (.way l .none)) : Nat) : Int)) := by
            rw [gDp_app]
            show _ = max d (o + 1 + ((max (gDp dw) (max (gDp l) 0) : Nat) : Int))
            omega
          rw [hdl] at hr5
          have HR5 := Lib.hid hr5; have HPL := Lib.hid hpl; have HTN := Lib.hid htn
          have HZ45 := Lib.hid hg5.size
          obtain ⟨A5, c5, rfl, -⟩ := own_form htn.choose_spec.1
          have k3 : w5.cell? ⟨w.heap.size + 2, 3, none⟩ = some (.slice A q cc) := HH5.out 3 _ rfl
          obtain ⟨n5, hn5⟩ : ∃ n5, l.len = n5 := ⟨_, rfl⟩
          rw [hn5] at HTN ⊢
          have HN5 := Lib.hid hn5
          clear hdl hpl htn hr5 hg5 hn5
          by_cases hrn : r = []
          · as_aux_lemma =>
              subst hrn
              have HNO := Lib.hid (gPr_brNo (t := t) (by rw [HRST.out, gPr_wayOpen HPL.out]; rfl))
              have k5 : w5.cell? ⟨rb, 0, none⟩ = some (.string ⟨#[]⟩) := HR5.out.three.1
              go_wp2_with (refine wpList_put rfl 129 _ _ rfl (w.heap.size + 1) [.int .i64 0, .string ⟨#[]⟩, .slice none 0 0, .slice none 0 0] rfl rfl (HV5.out) (by kernel_rfl) (by simp [Value.oneCell']) ?_; intro y1 hp; obtain ⟨t0, t1, t2, t3⟩ := hp.at_.four)
              have hRy := (HR5.out).put hp (by omega)
              have hpy : y1.cell? ⟨w.heap.size, 0, none⟩ = some (.pointer (some ⟨rb, 0, none⟩)) := (hp.keep _ _ (show w.heap.size ≠ w.heap.size + 1 by omega)).trans hp5
              refine leaves_cons (f := 132) (args := #[.pointer (some ⟨w.heap.size, 0, none⟩)]) (by simp) (by simp [go_sem]) ?_
              refine (close_c w.heap.size rb _ _ _ .returning y1 hpy hRy).mono ?_
              rintro e u' w'' ⟨rfl, rfl, rfl⟩
              have ho1 : wrap64 (o + 1 - 1) = o := by unfold wrap64; omega
              rw [ho1]
              obtain ⟨t0', t1', t2', t3'⟩ := (hp.at_.setOther (show rb ≠ w.heap.size + 1 by omega) (j := 1) (.int .i64 o)).four
              exact ⟨.tuple #[.agg #[.int .i64 0, .string ⟨#[]⟩, .slice none 0 0, .slice none 0 0], .bool false], by simp [results, Tryz.results122, go_sem, t0', t1', t2', t3'], _, _, rfl, ⟨HNO.out, ⟨_, _, _, hRy.set1⟩, rfl⟩, (grown_then (HG5.out) hp.grown (by omega)).trans (grown_set1 _ _ _ _)⟩
          · as_aux_lemma =>
              obtain ⟨c1, t1, rfl⟩ : ∃ c1 t1, r = c1 :: t1 := by
                cases r with
                | nil => exact absurd rfl hrn
                | cons a b => exact ⟨a, b, rfl⟩
              clear hrn
              have hst := gPr_stopAt (r := []) HPL.out
              have hle := gPr_le HPL.out
              simp only [List.length_cons] at hle
              have hpf := gPr_pf HPL.out
              have hmem1 : ∀ x ∈ c1 :: t1, x < 256 := fun x hx => HMEM.out x (by rw [hpf.2.1]; exact List.mem_append_right _ hx)
              have hlen := congrArg List.length hpf.2.1
              have hgl := (gStr_len l).1 hpf.1
              rw [List.length_append, List.length_cons] at hlen
              obtain ⟨hz, hr0⟩ := str_first (t := t1) (hmem1 c1 (by simp))
              have k5 : w5.cell? ⟨rb, 0, none⟩ = some (.string (str (c1 :: t1))) := HR5.out.three.1
              have TK2 := fun (W : World) (dd : Int) (hW : Rd W rb (c1 :: t1) (o + 1) dd) => take_c rb (c1 :: t1) (o + 1) dd 1 (by simp) (by simp only [List.length_cons]; have := HTL.out; omega) hmem1 W hW
              rw [show (c1 :: t1).drop 1 = t1 from rfl] at TK2
              have HT2 := Lib.hid TK2
              obtain ⟨R, hRs⟩ : ∃ R, str (c1 :: t1) = R := ⟨_, rfl⟩
              have hne : R.toList.isEmpty = false := ne_empty2 (by rw [← hRs]; exact hz)
              have hz1 : (0 : Int) < (R.size : Int) := by rw [← hRs, str_size]; simp only [List.length_cons]; omega
              obtain ⟨hzR, hR0⟩ : ∃ h : 0 < R.size, (R[0]'h).toNat = c1 := by subst hRs; exact ⟨hz, hr0⟩
              rw [hRs] at k5
              have HRS := Lib.hid hRs
              obtain ⟨cs, how, hta⟩ := HW5.out
              have HW4L := Lib.hid (fun g (hg : (Value.slice A q cc).ownBlock = some g) => (own_lt HW4.out.choose_spec.1 hg).2)
              rw [← HQ.out] at how
              have HOW := Lib.hid how; have HTA := Lib.hid hta
              have HML1 := Lib.hid (fun x hx => hmem1 x (List.mem_cons_of_mem _ hx))
              have HST := Lib.hid hst
              have HNUM := Lib.hid (show (dw.app (.way l .none)).len + t1.length ≤ t.length ∧ gDp (dw.app (.way l .none)) + t1.length ≤ t.length by
                rw [Tr.app_len, gDp_app]
                show dw.len + 1 + _ ≤ _ ∧ max (gDp dw) (max (gDp l) 0) + _ ≤ _
                omega)
              have HLE := Lib.hid (show t1.length + 1 ≤ tk.length from hle)
              have hq1 : q + 1 ≤ 901 := by omega
              have fz : w5.frozen? ⟨w.heap.size + 2, 3, none⟩ = false := HX5.out.f 3 (by decide)
              clear hz hr0 hRs hpf hlen hgl hmem1 TK2 how hta hst hle
              as_aux_lemma =>
                obtain ⟨lit, hlit⟩ : ∃ lit, (w5.alloc (.cells #[.slice A5 n5 c5] 102)) = lit := ⟨_, rfl⟩
                have hbl : Below w5.heap.size w5 lit := by rw [← hlit]; exact alloc_below _ _
                have hll : lit.heap.size = w5.heap.size + 1 := by rw [← hlit]; simp
                have HLIT := Lib.hid hlit; have HBL := Lib.hid hbl; have HLL := Lib.hid hll
                clear hbl hll hlit
                go_upto_region 10 with (at_builtin; refine wpList_append_any _ rfl (.tmp 46) (.tmp 48) _ rfl (w.heap.size + 3) 102 i0 (.slice none 0 0) 1 24 Tryz.underlying127 hi0 hz0 hzz1 hzz2 rfl (by decide) (.slice A q cc) q cs rfl (World.ownsRow.alloc HOW.out _) _ (some ⟨w5.heap.size, 0, none⟩) 1 1 [.slice A5 n5 c5] rfl (Reads.of_own (World.ownsRow_lit (base := 0) (e := 102) (size := 1) w5 #[.slice A5 n5 c5] 1 (Nat.zero_le _) (by decide) rfl)) (by simp [Value.oneCell']) (by simp only [maxLen]; omega) (by omega) (by have := HS5.out; simp; omega) ?_; intro v6 w6 hown6 hg6 hat6; rw [HLIT.out] at hg6 hat6; obtain ⟨A6, c6, hv6, -⟩ := own_form hown6; subst hv6; have hlow : Below (w.heap.size + 3) w5 w6 := Below.grown (HBL.out.mono HS5.out) hg6 (by have := HS5.out; have := HLL.out; omega) (fun k e => (World.ownsRow.lt HOW.out k e).1); have k6 : w6.cell? ⟨w.heap.size + 2, 3, none⟩ = some (.slice A q cc) := (hlow.cell (p := ⟨w.heap.size + 2, 3, none⟩) (show w.heap.size + 2 < w.heap.size + 3 by omega)).trans k3; have z6 : w6.frozen? ⟨w.heap.size + 2, 3, none⟩ = false := (hlow.frozen (p := ⟨w.heap.size + 2, 3, none⟩) (show w.heap.size + 2 < w.heap.size + 3 by omega)).trans fz; have H6 := Lib.hid hown6; have G6 := Lib.hid hg6; have T6 := Lib.hid hat6; have L6 := Lib.hid hlow; clear hown6 hg6 hat6 hlow)
                have HX7 := Lib.hid ((dvar_low L6.out (show w.heap.size + 2 < w.heap.size + 3 by omega) HX5.out).set (b' := w.heap.size + 2) (o := 3) (.slice A6 (q + 1) c6))
                have HV7 := Lib.hid ((dvar_low L6.out (show w.heap.size + 1 < w.heap.size + 3 by omega) HV5.out).set (b' := w.heap.size + 2) (o := 3) (.slice A6 (q + 1) c6))
                have HH7 := Lib.hid ((holds_low L6.out (show w.heap.size + 2 < w.heap.size + 3 by omega) HH5.out).set (j := 3) (by simp) (.slice A6 (q + 1) c6))
                have HR7 := Lib.hid ((HR5.out.low L6.out (by omega)).other (b' := w.heap.size + 2) (j := 3) (by omega) (.slice A6 (q + 1) c6))
                have HG7 := Lib.hid (grown_then (grown_low HG5.out L6.out (by omega)) (grown_set1 w6 (w.heap.size + 2) 3 (.slice A6 (q + 1) c6)) (by omega))
                have hp7 : (w6.setCell ⟨w.heap.size + 2, 3, none⟩ (.slice A6 (q + 1) c6)).cell? ⟨w.heap.size, 0, none⟩ = some (.pointer (some ⟨rb, 0, none⟩)) := (World.cell?_setCell_other _ _ _ _ (by intro e; simp only [Addr.mk.injEq] at e; omega)).trans ((L6.out.cell (p := ⟨w.heap.size, 0, none⟩) (show w.heap.size < w.heap.size + 3 by omega)).trans hp5)
                have HS7 := Lib.hid (show w.heap.size + 3 ≤ (w6.setCell ⟨w.heap.size + 2, 3, none⟩ (.slice A6 (q + 1) c6)).heap.size by simpa using Nat.le_trans HS5.out L6.out.size)
                have HW7 := Lib.hid (show WsNew (w.heap.size + 3) (w6.setCell ⟨w.heap.size + 2, 3, none⟩ (.slice A6 (q + 1) c6)) (.slice A6 (q + 1) c6) (dw.app (.way l .none)) by
                  refine WsNew.keep ⟨cs ++ [.slice A5 n5 c5], ?_, ?_⟩ (keepG (grown_set1 w6 (w.heap.size + 2) 3 _) (by omega))
                  · rw [Tr.app_len]
                    show w6.ownsRow _ _ _ _ (dw.len + 1) _
                    rw [← HQ.out]
                    exact H6.out
                  · refine TrAt.app ?_ dw cs (TrAt.step (TrAt.move (fun g h1 h2 => ⟨HBL.out.block g h2, h1⟩) dw cs HTA.out) G6.out T6.out)
                    exact TrAt.fresh (M := w4.heap.size) (way_one HTN.out) HS4.out HW4L.out (fun g _ h2 => HBL.out.block g h2) HBL.out.size G6.out T6.out)
                have k7 : (w6.setCell ⟨w.heap.size + 2, 3, none⟩ (.slice A6 (q + 1) c6)).cell? ⟨rb, 0, none⟩ = some (.string R) := by rw [← HRS.out]; exact HR7.out.three.1
                generalize (w6.setCell ⟨w.heap.size + 2, 3, none⟩ (.slice A6 (q + 1) c6)) = w7 at HX7 HV7 HH7 HR7 HG7 hp7 HS7 HW7 k7 ⊢
                have e8 : [Value.int .i64 4, .string ⟨#[]⟩, .slice none 0 0, .slice A q cc].set 3 (.slice A6 (q + 1) c6) = [.int .i64 4, .string ⟨#[]⟩, .slice none 0 0, .slice A6 (q + 1) c6] := rfl
                rw [e8] at HH7
                clear k3 k5 hp5 fz k6 z6 e8 H6 G6 T6 L6 HX5 HV5 HH5 HR5 HG5 HW5 HS5 HOW HTA
                as_aux_lemma =>
                  by_cases h125 : c1 = 125
                  · as_aux_lemma =>
                      subst h125
                      have HRE := Lib.hid (show gPr true t = some (dw.app (.way l .none), t1) by rw [HRST.out, gPr_wayEnd (p := l) HPL.out]; rfl)
                      have TK3 := Lib.hid (HT2.out w7 _ HR7.out)
                      have HR8 := Lib.hid (HR7.out.set0 (s' := t1))
                      have HG8 := Lib.hid (HG7.out.trans (grown_set1 w7 rb 0 (.string (str t1))))
                      have HV8 := Lib.hid (HV7.out.set (b' := rb) (o := 0) (.string (str t1)))
                      have HH8 := Lib.hid (HH7.out.setOther (show rb ≠ w.heap.size + 2 by omega) (j := 0) (.string (str t1)))
                      have HW8 := Lib.hid (HW7.out.keep (w' := w7.setCell ⟨rb, 0, none⟩ (.string (str t1))) (keepG (grown_set1 w7 rb 0 _) (by omega)))
                      have hp8 : (w7.setCell ⟨rb, 0, none⟩ (.string (str t1))).cell? ⟨w.heap.size, 0, none⟩ = some (.pointer (some ⟨rb, 0, none⟩)) := (World.cell?_setCell_other _ _ _ _ (by intro e; simp only [Addr.mk.injEq] at e; omega)).trans hp7
                      go_wp2_with fail
                      refine TK3.out.mono ?_; rintro _ w8 ⟨rfl, rfl⟩
                      generalize (w7.setCell ⟨rb, 0, none⟩ (.string (str t1))) = w8 at HR8 HG8 HV8 HH8 HW8 hp8 ⊢
                      obtain ⟨q0, q1, q2, q3⟩ := HH8.out.four
                      go_wp2_with (refine wpList_put rfl 129 _ _ rfl (w.heap.size + 1) [.int .i64 4, .string ⟨#[]⟩, .slice none 0 0, .slice A6 (q + 1) c6] rfl rfl (HV8.out) (by kernel_rfl) (by simp [Value.oneCell']) ?_; intro y1 hp; obtain ⟨s0, s1, s2, s3⟩ := hp.at_.four)
                      have hRy := HR8.out.put hp (by omega)
                      have hpy : y1.cell? ⟨w.heap.size, 0, none⟩ = some (.pointer (some ⟨rb, 0, none⟩)) := (hp.keep _ _ (show w.heap.size ≠ w.heap.size + 1 by omega)).trans hp8
                      refine leaves_cons (f := 132) (args := #[.pointer (some ⟨w.heap.size, 0, none⟩)]) (by simp) (by simp [go_sem]) ?_
                      refine (close_c w.heap.size rb _ _ _ .returning y1 hpy hRy).mono ?_
                      rintro e u' w'' ⟨rfl, rfl, rfl⟩
                      have ho1 : wrap64 (o + 1 - 1) = o := by unfold wrap64; omega
                      rw [ho1]
                      obtain ⟨s0', s1', s2', s3'⟩ := (hp.at_.setOther (show rb ≠ w.heap.size + 1 by omega) (j := 1) (.int .i64 o)).four
                      refine ⟨.tuple #[.agg #[.int .i64 4, .string ⟨#[]⟩, .slice none 0 0, .slice A6 (q + 1) c6], .bool true], by simp [results, Tryz.results122, go_sem, s0', s1', s2', s3'], _, _, rfl, ⟨.br (dw.app (.way l .none)) .nil, _, ?_, ?_, ?_, ?_, HML1.out⟩, (grown_then (HG8.out) hp.grown (by omega)).trans (grown_set1 _ _ _ _)⟩
                      · exact .br _ _ ((HW8.out.keep (w' := y1) (keepG hp.grown (by omega))).keep (keepG (grown_set1 y1 rb 1 _) (by omega)) |>.mono (by omega))
                      · have hd2 : max d (o + ((gDp (.br (dw.app (.way l .none)) .nil) : Nat) : Int)) = max d (o + 1 + ((gDp (dw.app (.way l .none)) : Nat) : Int)) := by
                          show max d (o + ((max (gDp (dw.app (.way l .none)) + 1) 0 : Nat) : Int)) = _
                          omega
                        rw [hd2]
                        exact hRy.set1
                      · rw [gPr_br HRE.out]
                        rfl
                      · have h1 := HNUM.out
                        show t1.length < (123 :: t).length ∧ t1.length + max (gDp (dw.app (.way l .none)) + 1) 0 ≤ (123 :: t).length
                        simp only [List.length_cons]
                        omega
                  · as_aux_lemma =>
                      have h125i : ¬ (c1 : Int) = 125 := by omega
                      have h44 : c1 = 44 := by have := HST.out; omega
                      have HRE := Lib.hid (show gPr true t = (gPr true t1).map fun x => ((dw.app (.way l .none)).app x.1, x.2) by
                        rw [HRST.out, gPr_wayMore (p := l) (by rw [← h44]; exact HPL.out)]
                        cases gPr true t1 with
                        | none => rfl
                        | some x =>
                          exact congrArg (fun z => some (z, x.2)) (Tr.app_assoc dw (.way l .none) x.1).symm)
                      go_wp2
                      go_roundw
                      case rel => exact ⟨c1, t1, dw.app (.way l .none), A6, q + 1, c6, hp7, by omega, by have := HNUM.out.1; rw [Tr.app_len] at this; have h1 := HQ.out; simp only [Tr.len] at this; omega, by rw [Tr.app_len, HQ.out]; rfl, HR7.out, ⟨HRE.out, HW7.out, by have := HLE.out; have := HTL.out; omega, HML1.out, HNUM.out.2, HNUM.out.1⟩, HH7.out, HX7.out, HV7.out, HG7.out, HS7.out⟩
                      case measure => rw [HML.out, restLen_is HR7.out]; have := HLE.out; simp only [List.length_cons]; omega
end Go.Proofs.YtbfbjalnahngjaaGreatDoor.GP
namespace Go.Proofs.YtbfbjalnahngjaaGreatDoor
open Go.RowKit
def txC (ls : List (List Nat)) : List Value := ls.map fun t => .string (str t)
theorem txC_length (ls : List (List Nat)) : (txC ls).length = ls.length := by simp [txC]
theorem txC_app (a b : List (List Nat)) : txC (a ++ b) = txC a ++ txC b := by simp [txC]
theorem txC_one (ls : List (List Nat)) : ∀ u ∈ txC ls, u.oneCell' = true := by
  intro u hu
  obtain ⟨t, _, rfl⟩ := List.mem_map.1 hu
  rfl
def TxNew (B : Nat) (w : World) (v : Value) (ls : List (List Nat)) : Prop := w.ownsRow B 9 1 v ls.length (txC ls)
theorem TxNew.nil (B : Nat) (w : World) : TxNew B w (.slice none 0 0) [] := ⟨rfl, .inl ⟨rfl, rfl⟩⟩
theorem TxNew.below {B : Nat} {w w' : World} {v : Value} {ls : List (List Nat)} (h : TxNew B w v ls) (hb : Below w.heap.size w w') : TxNew B w' v ls := own_keep h (fun g _ hg => hb.block g hg)
theorem TxNew.mono {B B' : Nat} {w : World} {v : Value} {ls : List (List Nat)} (h : TxNew B' w v ls) (hB : B ≤ B') : TxNew B w v ls := own_mono h hB
theorem TxNew.push {B : Nat} {w : World} {v : Value} {ls ms : List (List Nat)} (h : w.ownsRow B 9 1 v (ls.length + ms.length) (txC ls ++ txC ms)) : TxNew B w v (ls ++ ms) := by
  unfold TxNew
  rw [List.length_append, txC_app]
  exact h
theorem TxNew.lit {w : World} {B : Nat} (hB : B ≤ w.heap.size) (t : List Nat) : TxNew B (w.alloc (.cells #[.string (str t)] 9)) (.slice (some ⟨w.heap.size, 0, none⟩) 1 1) [t] := by
  refine ⟨by unfold txC; simp, Or.inr ⟨w.heap.size, 1, #[.string (str t)], rfl, hB, ?_, Nat.le_refl _, by decide, rfl, rfl⟩⟩
  show (w.heap.push _)[w.heap.size]? = _
  exact Array.getElem?_push_size
/-- A row of texts, as it is read. -/
def TxAt (w : World) (g : Nat) (ls : List (List Nat)) : Prop := ∀ (k : Nat) (t : List Nat), ls[k]? = some t → w.cell? ⟨g, k, none⟩ = some (.string (str t))
theorem TxAt.below {w w' : World} {g : Nat} {ls : List (List Nat)} (h : TxAt w g ls) (hb : Below w.heap.size w w') : TxAt w' g ls := fun k t hk => cellb hb (h k t hk)
theorem TxNew.form {B : Nat} {w : World} {v : Value} {ls : List (List Nat)} (h : TxNew B w v ls) : ∃ A c, v = .slice A ls.length c ∧ ls.length ≤ c ∧ (0 < ls.length → ∃ g, A = some ⟨g, 0, none⟩ ∧ B ≤ g ∧ g < w.heap.size ∧ TxAt w g ls) := by
  obtain ⟨A, c, rfl, hc, _⟩ := own_form h
  refine ⟨A, c, rfl, hc, fun hn => ?_⟩
  obtain ⟨g, c', hv, _, hB, hlt, hcs, _⟩ := own_at h hn
  injection hv with e1 _ _
  exact ⟨g, e1, hB, hlt, fun k t hk => hcs k _ (by unfold txC; rw [List.getElem?_map, hk]; rfl)⟩
theorem TxNew.reads {B : Nat} {w : World} {A : Option Addr} {n c : Nat} {ls : List (List Nat)} (h : TxNew B w (.slice A n c) ls) : Reads w w.heap.size 1 A ls.length (txC ls) := by
  obtain ⟨A', c', hv, _⟩ := own_form h
  injection hv with e1 e2 e3
  subst e1 e2
  exact Reads.of_own h
/-- What comes of one piece. -/
def pcTx : GA ⊕ Tr → List (List Nat)
  | .inl a => [a.txt]
  | .inr ws => gTx ws []
def longer (acc behind : List (List Nat)) : List (List Nat) := acc.flatMap fun y => behind.map (y ++ ·)
theorem gTx_cons (x : GA ⊕ Tr) (r : Tr) (acc : List (List Nat)) : gTx (consT x r) acc = gTx r (longer acc (pcTx x)) := by
  cases x with
  | inl a =>
    show gTx r (acc.map (· ++ a.txt)) = gTx r (acc.flatMap fun y => [a.txt].map (y ++ ·))
    congr 1
    induction acc with
    | nil => rfl
    | cons y acc ih => rw [List.map_cons, List.flatMap_cons, ih]; rfl
  | inr ws => rfl
theorem longer_length (acc behind : List (List Nat)) : (longer acc behind).length = acc.length * behind.length := by
  unfold longer
  induction acc with
  | nil => simp
  | cons y acc ih => rw [List.flatMap_cons, List.length_append, ih, List.length_map, List.length_cons, Nat.add_mul]; omega
theorem longer_snoc (acc behind : List (List Nat)) (y : List Nat) : longer (acc ++ [y]) behind = longer acc behind ++ behind.map (y ++ ·) := by
  unfold longer
  rw [List.flatMap_append, List.flatMap_cons, List.flatMap_nil, List.append_nil]
def pcNm : GA ⊕ Tr → Nat
  | .inl _ => 1
  | .inr ws => gNm ws
theorem gNm_cons (x : GA ⊕ Tr) (r : Tr) : gNm (consT x r) = pcNm x * gNm r := by
  cases x with
  | inl a => show gNm r = 1 * gNm r; omega
  | inr ws => rfl
theorem pcTx_length {x : GA ⊕ Tr} {r : Tr} (h : Good false (consT x r)) : (pcTx x).length = pcNm x := by
  cases x with
  | inl a => rfl
  | inr ws => exact (gTx_length ws).2 h.1
theorem take_snoc' {α : Type} {l : List α} {k : Nat} {x : α} (h : l[k]? = some x) : l.take (k + 1) = l.take k ++ [x] := by
  rw [List.take_add_one, h]
  rfl
end Go.Proofs.YtbfbjalnahngjaaGreatDoor
namespace Go.Proofs.YtbfbjalnahngjaaGreatDoor.GP
open Go.RowKit
end Go.Proofs.YtbfbjalnahngjaaGreatDoor.GP
namespace Go.Proofs.YtbfbjalnahngjaaGreatDoor.GP
open Go.RowKit
theorem below_next {B : Nat} {a b c : World} (h : Below B a b) (k : Below b.heap.size b c) (hB : B ≤ b.heap.size) : Below B a c := h.trans (k.mono hB)
theorem pos_mul {a b : Nat} (h : 1 ≤ b) : a ≤ a * b := by
  have := Nat.mul_le_mul (Nat.le_refl a) h
  omega
theorem pcTx_le {x : GA ⊕ Tr} {r : Tr} (h : Good false (consT x r)) {t : List Nat} (ht : t ∈ pcTx x) : t.length + (gStr r).length ≤ (gStr (consT x r)).length := by
  cases x with
  | inl a =>
    obtain rfl := List.mem_singleton.1 ht
    show _ ≤ (a.txt ++ gStr r).length
    rw [List.length_append]
    exact Nat.le_refl _
  | inr ws =>
    obtain ⟨e, he, rfl⟩ := ((gTx_mem ws).2 h.1 t).1 ht
    have := gEx_len ws (.inr h.1) e he
    have h2 := gStr_br ws r
    simp only [consT]
    omega
theorem pcNm_pos {x : GA ⊕ Tr} {r : Tr} (h : Good false (consT x r)) : 1 ≤ pcNm x := by
  cases x with
  | inl a => exact Nat.le_refl _
  | inr ws => exact (gNm_pos ws).2 h.1 h.2.1
end Go.Proofs.YtbfbjalnahngjaaGreatDoor.GP
namespace Go.Proofs.YtbfbjalnahngjaaGreatDoor
open Go.RowKit
theorem bool_info : (Tryz.prog.info? 4).map (fun i => (i.zero, i.size, i.bytes)) = some (some (.bool false), 1, 1) := by kernel_rfl
/-- A row of truths in a block. -/
structure BRow (w : World) (g n : Nat) (f : Nat → Bool) : Prop where
  lt : g < w.heap.size
  c : ∀ j, j < n → w.cell? ⟨g, j, none⟩ = some (.bool (f j))
  fz : ∀ j, j < n → w.frozen? ⟨g, j, none⟩ = false
theorem BRow.low {B g n : Nat} {w w' : World} {f : Nat → Bool} (h : BRow w g n f) (hb : Below B w w') (hg : g < B) : BRow w' g n f :=
  ⟨Nat.lt_of_lt_of_le h.lt hb.size, fun j hj => (hb.cell (p := ⟨g, j, none⟩) hg).trans (h.c j hj), fun j hj => (hb.frozen (p := ⟨g, j, none⟩) hg).trans (h.fz j hj)⟩
theorem BRow.below {g n : Nat} {w w' : World} {f : Nat → Bool} (h : BRow w g n f) (hb : Below w.heap.size w w') : BRow w' g n f := h.low hb h.lt
theorem BRow.made {w w' : World} {n : Nat} (h : w'.ownsRow 0 4 1 (.slice (some ⟨w.heap.size, 0, none⟩) n n) n (madeCells (Value.bool false).cells (n * 1)).toList) (hn : 0 < n) : BRow w' w.heap.size n (fun _ => false) := by
  refine ⟨(World.ownsRow.lt h _ rfl).2, fun j hj => ?_, fun j hj => h.frozenAt j⟩
  rw [h.cellAt j (by omega)]
  rw [Nat.mul_one]
  have e : (Value.bool false).cells = #[.bool false] := rfl
  rw [e]
  unfold madeCells
  simp [hj, Nat.mod_one]
theorem BRow.set {w : World} {g n k : Nat} {f h : Nat → Bool} {x : Bool} (hr : BRow w g n f) (hk : k < n) (hf : ∀ j, j < n → h j = if j = k then x else f j) : BRow (w.setCell ⟨g, k, none⟩ (.bool x)) g n h := by
  refine ⟨by simp; exact hr.lt, fun j hj => ?_, fun j hj => by rw [World.frozen?_setCell]; exact hr.fz j hj⟩
  rw [hf j hj]
  by_cases e : j = k
  · subst e
    rw [if_pos rfl]
    exact World.cell?_setCell_same w _ _ (hr.c j hj)
  · rw [if_neg e]
    exact (World.cell?_setCell_other w _ _ _ (by intro e2; simp only [Addr.mk.injEq] at e2; omega)).trans (hr.c j hj)
theorem BRow.other {w : World} {g n b o : Nat} {f : Nat → Bool} {u : Value} (hr : BRow w g n f) (hne : ¬ b = g) : BRow (w.setCell ⟨b, o, none⟩ u) g n f := by
  refine ⟨by simp; exact hr.lt, fun j hj => ?_, fun j hj => by rw [World.frozen?_setCell]; exact hr.fz j hj⟩
  exact (World.cell?_setCell_other w _ _ _ (by intro e2; simp only [Addr.mk.injEq] at e2; exact hne e2.1)).trans (hr.c j hj)
theorem BRow.drew {w : World} {g n : Nat} {f : Nat → Bool} (h : BRow w g n f) : BRow w.drew g n f := ⟨h.lt, h.c, h.fz⟩
theorem BRow.congr {w : World} {g n : Nat} {f h : Nat → Bool} (hr : BRow w g n f) (he : ∀ j, j < n → f j = h j) : BRow w g n h := ⟨hr.lt, fun j hj => by rw [← he j hj]; exact hr.c j hj, hr.fz⟩
theorem below_none {w w' : World} (h : w.grownBy w' none) : Below w.heap.size w w' := ⟨h.os, h.tape, h.output, h.size, fun k hk => h.block k hk (by simp)⟩
theorem BRow.step {w : World} {g n k : Nat} {f : Nat → Bool} {x : Bool} (hr : BRow w g n (fun j => if j < k then f j else false)) (hk : k < n) (hx : f k = x) : BRow (w.setCell ⟨g, k, none⟩ (.bool x)) g n (fun j => if j < k + 1 then f j else false) := hr.set hk fun j hj => by
  show (if j < k + 1 then f j else false) = if j = k then x else if j < k then f j else false
  by_cases e : j = k
  · subst e
    rw [if_pos rfl, if_pos (Nat.lt_succ_self _), hx]
  · rw [if_neg e]
    by_cases e2 : j < k
    · rw [if_pos e2, if_pos (by omega)]
    · rw [if_neg e2, if_neg (by omega)]
theorem gAd_zero {n : List Nat} {a : GA} (h : a.kind ≠ 2) (f : Nat → Bool) : gAd n a f 0 = false := by
  cases a with
  | star => exact absurd rfl h
  | one c => rfl
  | each => rfl
  | cls t rs => rfl
theorem gAd_succ {n : List Nat} {a : GA} (h : a.kind ≠ 2) (f : Nat → Bool) (k : Nat) : gAd n a f (k + 1) = (f k && a.fit (n.getD k 0)) := by
  cases a with
  | star => exact absurd rfl h
  | one c => rfl
  | each => rfl
  | cls t rs => rfl
/-- Up to which places count ones so far. -/
def reachd (f : Nat → Bool) (k : Nat) : Bool := (List.range k).any f
theorem reachd_zero (f : Nat → Bool) : reachd f 0 = false := rfl
theorem reachd_succ (f : Nat → Bool) (k : Nat) : reachd f (k + 1) = (reachd f k || f k) := by
  unfold reachd
  rw [List.range_succ, List.any_append]
  simp
theorem gAd_star (n : List Nat) (f : Nat → Bool) (k : Nat) : gAd n .star f k = reachd f (k + 1) := by cases k <;> rfl
/-- What one piece leads to. -/
def pcLd (n : List Nat) (f : Nat → Bool) : GA ⊕ Tr → Nat → Bool
  | .inl a => gAd n a f
  | .inr ws => gLd n ws f
theorem gLd_cons (n : List Nat) (x : GA ⊕ Tr) (r : Tr) (f : Nat → Bool) : gLd n (consT x r) f = gLd n r (pcLd n f x) := by cases x <;> rfl
end Go.Proofs.YtbfbjalnahngjaaGreatDoor
