/-
  Contracts of the document's own functions of layer 8 (isobarref08): Frame.
-/
import Derived.Test.YtabbpgnenmpacaaDoorSegPutEM
import Derived.Test.YtabbpgnenmpacaaDoorFrmRefM
set_option linter.unusedSimpArgs false
set_option linter.unusedVariables false
namespace Go.Proofs.YtabbpgnenmpacaaDoor.SR
open Go Go.RowKit
open CR (below_next own_ge u8_wrap)
set_option maxRecDepth 100000 in
set_option maxHeartbeats 2000000 in
theorem frame_c (v : Value) (r : PR) (hp : Bytes r.path) (hl : r.rungs.length ≤ 100000) (w : World) (h : RcOut w v r) :
    Calls Tryd.prog 11 #[v] w fun e w' => ∃ v', e = .returned (.tuple #[v', .int .i64 (rFrame r).2]) ∧ ByNew w.heap.size w' v' (rFrame r).1 ∧ Below w.heap.size w w' := by
  obtain ⟨u, rfl, hro⟩ := h
  obtain ⟨A, c, rfl, hc, hx⟩ := id hro
  have PT := Lib.hid (fun (W : World) (hB : Below w.heap.size w W) => put_c (.agg (rcC (.slice A r.rungs.length c) r).toArray) r hp hl W ⟨_, rfl, hro.below hB⟩)
  by_cases hok : rRight r = true
  · have hP : rPut r = (rBytes r, 0) := by unfold rPut; rw [if_pos hok]
    have hF : rFrame r = (rFrm r, 0) := by unfold rFrame; rw [if_pos hok]
    have hf2 : fPut (rBytes r) = (rFrm r, 0) := by
      rcases fPut_two (rBytes r) with ⟨_, g⟩ | ⟨g, _⟩
      · exact g
      · exact absurd (rFrm_ok hok) g
    have FP := Lib.hid (fun v w h => FR.put_c v (rBytes r) (rBytes_bytes hok hp) w h)
    rw [hP] at PT
    rw [hf2] at FP
    rw [hF]
    have hbl := rBytes_len hok
    obtain ⟨k, p, m, f, l, g, t, nw, v0⟩ := r
    change Hid (∀ (W : World), Below w.heap.size w W → Calls Tryd.prog 9 #[.agg #[.int .i64 k, .string (strB p), .int .i64 m, .int .i64 f, .slice A l.length c, .int .i64 g, .int .i64 t, .int .i64 nw, .int .i64 v0]] W fun e w' => ∃ v', e = .returned (.tuple #[v', .int .i64 0]) ∧ ByNew W.heap.size w' v' (rBytes ⟨k, p, m, f, l, g, t, nw, v0⟩) ∧ Below W.heap.size W w') at PT
    change Calls Tryd.prog 11 #[.agg #[.int .i64 k, .string (strB p), .int .i64 m, .int .i64 f, .slice A l.length c, .int .i64 g, .int .i64 t, .int .i64 nw, .int .i64 v0]] w _
    obtain ⟨s, hs⟩ : ∃ s, strB p = s := ⟨_, rfl⟩
    obtain ⟨n, hn⟩ : ∃ n, l.length = n := ⟨_, rfl⟩
    rw [hs, hn] at PT ⊢
    clear hro hx hc hP hF hf2 hs hn hp hl hbl
    go_enter Tryd.func11, Tryd.ntmps11
    go_wp2_with fail
    refine (PT.out _ ((Below.refl _ _).alloc (Nat.le_refl _) _)).mono ?_; rintro _ w1 ⟨v1, rfl, hn1, hb1⟩
    have O1 := Lib.hid hn1.out
    have B1 := Lib.hid (show Below w.heap.size w w1 from Below.trans ((Below.refl _ _).alloc (Nat.le_refl _) _) (hb1.mono (by simp)))
    clear hn1 hb1
    go_wp2_with fail
    refine (FP.out _ _ O1.out).mono ?_; rintro _ w2 ⟨v2, rfl, hn2, hb2⟩
    have N2 := Lib.hid (hn2.mono B1.out.size); have B2 := Lib.hid (below_next B1.out hb2)
    clear hn2 hb2
    go_wp2
    exact bodyPost_ret (v := .tuple #[v2, .int .i64 0]) (by simp [results, Tryd.results11, go_sem]) rfl ⟨v2, rfl, N2.out, B2.out⟩
  · have hP : rPut r = ([], 1) := by unfold rPut; rw [if_neg hok]
    have hF : rFrame r = ([], 1) := by unfold rFrame; rw [if_neg hok]
    rw [hP] at PT
    rw [hF]
    obtain ⟨k, p, m, f, l, g, t, nw, v0⟩ := r
    change Hid (∀ (W : World), Below w.heap.size w W → Calls Tryd.prog 9 #[.agg #[.int .i64 k, .string (strB p), .int .i64 m, .int .i64 f, .slice A l.length c, .int .i64 g, .int .i64 t, .int .i64 nw, .int .i64 v0]] W fun e w' => ∃ v', e = .returned (.tuple #[v', .int .i64 1]) ∧ ByNew W.heap.size w' v' [] ∧ Below W.heap.size W w') at PT
    change Calls Tryd.prog 11 #[.agg #[.int .i64 k, .string (strB p), .int .i64 m, .int .i64 f, .slice A l.length c, .int .i64 g, .int .i64 t, .int .i64 nw, .int .i64 v0]] w _
    obtain ⟨s, hs⟩ : ∃ s, strB p = s := ⟨_, rfl⟩
    obtain ⟨n, hn⟩ : ∃ n, l.length = n := ⟨_, rfl⟩
    rw [hs, hn] at PT ⊢
    clear hro hx hc hP hF hs hn hp hl hok
    go_enter Tryd.func11, Tryd.ntmps11
    go_wp2_with fail
    refine (PT.out _ ((Below.refl _ _).alloc (Nat.le_refl _) _)).mono ?_; rintro _ w1 ⟨v1, rfl, hn1, hb1⟩
    have B1 := Lib.hid (show Below w.heap.size w w1 from Below.trans ((Below.refl _ _).alloc (Nat.le_refl _) _) (hb1.mono (by simp)))
    clear hn1 hb1
    go_wp2
    exact bodyPost_ret (v := .tuple #[.slice none 0 0, .int .i64 1]) (by simp [results, Tryd.results11, go_sem]) rfl ⟨.slice none 0 0, rfl, ByNew.none _ _, B1.out⟩
end Go.Proofs.YtabbpgnenmpacaaDoor.SR
/-
  Contracts of the document's own functions of layer 8 (isobarref08): Write.
-/
set_option linter.unusedSimpArgs false
set_option linter.unusedVariables false
namespace Go.Proofs.YtabbpgnenmpacaaDoor.SR
open Go Go.RowKit
open CR (below_next own_ge u8_wrap)
theorem sSz_le : ∀ (l : List PR), (∀ r ∈ l, rRight r = true) → sSz l ≤ 302 * l.length
  | [], _ => Nat.le_refl _
  | r :: l, h => by
    have h1 := sSz_le l (fun x hx => h x (List.mem_cons_of_mem _ hx))
    have h2 := rBytes_len (h r List.mem_cons_self)
    rw [sSz_cons, rFrm_length, List.length_cons]
    omega
theorem rFrame_two (r : PR) : (rRight r = true ∧ rFrame r = (rFrm r, 0)) ∨ (rRight r = false ∧ rFrame r = ([], 1)) := by
  unfold rFrame
  by_cases h : rRight r = true
  · rw [if_pos h]; exact Or.inl ⟨h, rfl⟩
  · rw [if_neg h]; exact Or.inr ⟨by simpa using h, rfl⟩
set_option maxRecDepth 100000 in
set_option maxHeartbeats 4000000 in
theorem write_c (vh v : Value) (h : PR) (ls : List PR) (hhp : Bytes h.path) (hhl : h.rungs.length ≤ 100000) (hl : ls.length ≤ 300) (hb : ∀ r ∈ ls, Bytes r.path ∧ r.rungs.length ≤ 100000) (w : World) (fh : RcOut w vh h) (fl : RsOut w v ls) :
    Calls Tryd.prog 21 #[vh, v] w fun e w' => ∃ v', e = .returned (.tuple #[v', .int .i64 (sWrite h ls).2]) ∧ ByNew w.heap.size w' v' (sWrite h ls).1 ∧ Below w.heap.size w w' := by
  obtain ⟨u, rfl, hro⟩ := fh
  obtain ⟨Ah, ch, rfl, _, _⟩ := id hro
  have FH := Lib.hid (fun (W : World) (hB : Below w.heap.size w W) => frame_c (.agg (rcC (.slice Ah h.rungs.length ch) h).toArray) h hhp hhl W ⟨_, rfl, hro.below hB⟩)
  obtain ⟨A, c, rfl, hc, hx⟩ := fl
  obtain ⟨n, hln⟩ : ∃ n, ls.length = n := ⟨_, rfl⟩
  rw [hln] at hl hc ⊢
  obtain ⟨T, hTT⟩ : ∃ T, sWrite h ls = T := ⟨_, rfl⟩
  rw [hTT]
  have hk1 : rHead h = (rRight h && decide (h.kind = 1)) := rfl
  rcases rFrame_two h with ⟨hok, hF⟩ | ⟨hok, hF⟩
  · rw [hF] at FH
    by_cases hkd : h.kind = 1
    · have hhd : rHead h = true := rHead_iff.2 ⟨hok, hkd⟩
      have hTok : (∀ r ∈ ls, rIn r = true) → T = (rFrm h ++ sFlat ls, 0) := fun g => by
        rw [← hTT]
        unfold sWrite
        rw [if_pos ⟨hhd, List.all_eq_true.2 g⟩]
      have hTno : ∀ q ∈ ls, rIn q = false → T = ([], 1) := fun q hq g => by
        rw [← hTT]
        unfold sWrite
        rw [if_neg (fun g2 => by have := List.all_eq_true.1 g2.2 q hq; rw [g] at this; cases this)]
      have hbl := rBytes_len hok
      have hrl : (rFrm h).length ≤ 302 := by rw [rFrm_length]; omega
      obtain ⟨F0, hF0⟩ : ∃ F0, rFrm h = F0 := ⟨_, rfl⟩
      rw [hF0] at FH hTok hrl
      obtain ⟨k0, p, m, f, l, g, t, nw, v0⟩ := h
      obtain rfl : k0 = 1 := hkd
      change Hid (∀ (W : World), Below w.heap.size w W → Calls Tryd.prog 11 #[.agg #[.int .i64 1, .string (strB p), .int .i64 m, .int .i64 f, .slice Ah l.length ch, .int .i64 g, .int .i64 t, .int .i64 nw, .int .i64 v0]] W fun e w' => ∃ v', e = .returned (.tuple #[v', .int .i64 0]) ∧ ByNew W.heap.size w' v' F0 ∧ Below W.heap.size W w') at FH
      change Calls Tryd.prog 21 #[.agg #[.int .i64 1, .string (strB p), .int .i64 m, .int .i64 f, .slice Ah l.length ch, .int .i64 g, .int .i64 t, .int .i64 nw, .int .i64 v0], .slice A n c] w _
      have HH := Lib.hid (holds_alloc w [.int .i64 1, .string (strB p), .int .i64 m, .int .i64 f, .slice Ah l.length ch, .int .i64 g, .int .i64 t, .int .i64 nw, .int .i64 v0] 24)
      obtain ⟨s, hs⟩ : ∃ s, strB p = s := ⟨_, rfl⟩
      obtain ⟨nr, hn⟩ : ∃ n, l.length = n := ⟨_, rfl⟩
      rw [hs, hn] at FH HH ⊢
      have HX := Lib.hid hx; have HL := Lib.hid hln; have HOK := Lib.hid hTok; have HNO := Lib.hid hTno; have HB := Lib.hid hb; have HRL := Lib.hid hrl
      obtain ⟨i0, hi0, hz0, hz1, hz2⟩ := info_parts (P := Tryd.prog) (e := 5) (z := .int .u8 0) (size := 1) (bytes := 1) (by kernel_rfl)
      clear hro hx hF hs hn hhp hhl hb hok hk1 hln hTT hTok hTno hbl hrl hF0 hhd
      go_enter Tryd.func21, Tryd.ntmps21
      go_wp2_with fail
      refine (FH.out _ ((Below.refl _ _).alloc (Nat.le_refl _) _)).mono ?_; rintro _ w1 ⟨v1, rfl, hn1, hb1⟩
      have r0 : w1.cell? ⟨w.heap.size, 0, none⟩ = some (.int .i64 1) := (HH.out.below hb1) 0 _ rfl
      have B1 := Lib.hid (show Below w.heap.size w w1 from Below.trans ((Below.refl _ _).alloc (Nat.le_refl _) _) (hb1.mono (by simp)))
      have N1 := Lib.hid (show ByNew w.heap.size w1 v1 F0 from hn1.mono (by simp))
      clear hn1 hb1
      go_wp2
      go_loopw [6, 8, 9, 10] (fun wv i b e wr => ∃ (k : Nat) (vr : Value), wv = vr ∧ i = .int .i64 k ∧ k ≤ n ∧ Hid ((∀ (j : Nat) (q : PR), j < k → ls[j]? = some q → rIn q = true) ∧ ByNew w.heap.size wr vr (F0 ++ sFlat (ls.take k)) ∧ Below w.heap.size w wr)) (fun _ i _ _ _ => n - (intOf i).toNat)
      case atStart => exact ⟨0, _, rfl, rfl, Nat.zero_le _, fun j q h => absurd h (Nat.not_lt_zero _), by rw [List.take_zero]; show ByNew _ _ _ (F0 ++ []); rw [List.append_nil]; exact N1.out, B1.out⟩
      case round =>
        obtain ⟨k, vr, rfl, rfl, hk, HI⟩ := hrel
        by_cases hlt : k < n
        · have hkl : k < ls.length := by rw [HL.out]; exact hlt
          obtain ⟨b, off, rfl, ha⟩ := HX.out (by intro e; rw [e] at hkl; exact absurd hkl (Nat.not_lt_zero _))
          have hp0 := List.getElem?_eq_getElem hkl
          have hbq := HB.out _ (List.getElem_mem hkl)
          have hno := HNO.out _ (List.getElem_mem hkl)
          obtain ⟨u, hu, hcs⟩ := ha k _ hp0
          have htk : ls.take (k + 1) = ls.take k ++ [ls[k]] := by rw [List.take_add_one, hp0]; rfl
          have hsz : (F0 ++ sFlat (ls.take k)).length ≤ 302 + 302 * k := by
            have h1 := sSz_le (ls.take k) (fun r hr => by
              obtain ⟨j, hj⟩ := List.getElem?_of_mem hr
              rw [List.getElem?_take] at hj
              split at hj
              · exact (rIn_iff.1 (HI.out.1 j r (by assumption) hj)).1
              · cases hj)
            rw [List.length_append]
            have h2 : (sFlat (ls.take k)).length = sSz (ls.take k) := rfl
            have h3 : (ls.take k).length ≤ k := by rw [List.length_take]; exact Nat.min_le_left _ _
            have h4 := Nat.mul_le_mul_left 302 h3
            have := HRL.out
            omega
          have hokn : rIn ls[k] = true → ∀ (j : Nat) (q : PR), j < k + 1 → ls[j]? = some q → rIn q = true := fun g j q h1 h2 => by
            rcases Nat.lt_or_ge j k with h | h
            · exact HI.out.1 j q h h2
            · obtain rfl : j = k := by omega
              rw [hp0] at h2
              obtain rfl := Option.some.inj h2
              exact g
          generalize ls[k] = q at *
          have hlenq := fun g : rRight q = true => rBytes_len g
          obtain ⟨Aq, cq, hUq, _, _⟩ := id hu
          have FQ0 := fun (W : World) (hB : Below w.heap.size w W) => frame_c (.agg (rcC u q).toArray) q hbq.1 hbq.2 W ⟨_, rfl, hu.below hB⟩
          obtain ⟨zl, hzl⟩ : ∃ z, (F0 ++ sFlat (ls.take k)).length = z := ⟨_, rfl⟩
          rw [hzl] at hsz
          obtain ⟨y0, y1, y2, y3, y4, y5, y6, y7, y8⟩ := nine (b := b) (o := off + k * 9) (fun j x h => cellb HI.out.2.2 (hcs j x h))
          have hzz : zl ≤ 91000 := by omega
          rcases rFrame_two q with ⟨hokq, hFq⟩ | ⟨hokq, hFq⟩
          · have hfl := (hlenq hokq).2
            rw [hFq] at FQ0
            have hql : (rFrm q).length ≤ 302 := by rw [rFrm_length]; omega
            by_cases hq1 : q.kind = 1
            · have hTT := hno (by unfold rIn; rw [decide_eq_false (fun g => g hq1), Bool.and_false])
              subst hTT
              subst hUq
              obtain ⟨qk, qp, qm, qf, ql, qg, qt, qn, qv⟩ := q
              obtain rfl : qk = 1 := hq1
              dsimp only at y0 y1 y2 y3 y4 y5 y6 y7 y8
              change (∀ (W : World), Below w.heap.size w W → Calls Tryd.prog 11 #[.agg #[.int .i64 1, .string (strB qp), .int .i64 qm, .int .i64 qf, .slice Aq ql.length cq, .int .i64 qg, .int .i64 qt, .int .i64 qn, .int .i64 qv]] W fun e w' => ∃ v', e = .returned (.tuple #[v', .int .i64 0]) ∧ ByNew W.heap.size w' v' (rFrm ⟨1, qp, qm, qf, ql, qg, qt, qn, qv⟩) ∧ Below W.heap.size W w') at FQ0
              obtain ⟨qs, hqs⟩ : ∃ s, strB qp = s := ⟨_, rfl⟩
              obtain ⟨qr, hqr⟩ : ∃ n, ql.length = n := ⟨_, rfl⟩
              rw [hqs] at FQ0 y1
              rw [hqr] at FQ0 y4
              have FQ := Lib.hid FQ0
              clear FQ0 hqs hqr hlenq hbq hno hcs hu htk hsz hokn hp0 ha hkl hzl hzz hfl hql hokq hFq
              go_wp2_with fail
              refine (FQ.out _ HI.out.2.2).mono ?_; rintro _ w2 ⟨v2, rfl, hn2, hb2⟩
              have q0 := cellb hb2 y0
              have B2 := Lib.hid (below_next HI.out.2.2 hb2)
              clear hn2 hb2 y0 y1 y2 y3 y4 y5 y6 y7 y8
              go_wp2
              exact bodyPost_ret (v := .tuple #[.slice none 0 0, .int .i64 1]) (by simp [results, Tryd.results21, go_sem]) rfl ⟨.slice none 0 0, rfl, ByNew.none _ _, B2.out⟩
            · have hin : rIn q = true := rIn_iff.2 ⟨hokq, hq1⟩
              subst hUq
              obtain ⟨qk, qp, qm, qf, ql, qg, qt, qn, qv⟩ := q
              have hq2 : ¬ qk = 1 := hq1
              dsimp only at y0 y1 y2 y3 y4 y5 y6 y7 y8
              change (∀ (W : World), Below w.heap.size w W → Calls Tryd.prog 11 #[.agg #[.int .i64 qk, .string (strB qp), .int .i64 qm, .int .i64 qf, .slice Aq ql.length cq, .int .i64 qg, .int .i64 qt, .int .i64 qn, .int .i64 qv]] W fun e w' => ∃ v', e = .returned (.tuple #[v', .int .i64 0]) ∧ ByNew W.heap.size w' v' (rFrm ⟨qk, qp, qm, qf, ql, qg, qt, qn, qv⟩) ∧ Below W.heap.size W w') at FQ0
              obtain ⟨qs, hqs⟩ : ∃ s, strB qp = s := ⟨_, rfl⟩
              obtain ⟨qr, hqr⟩ : ∃ n, ql.length = n := ⟨_, rfl⟩
              rw [hqs] at FQ0 y1
              rw [hqr] at FQ0 y4
              have FQ := Lib.hid FQ0
              obtain ⟨Q, hQ⟩ : ∃ Q, rFrm ⟨qk, qp, qm, qf, ql, qg, qt, qn, qv⟩ = Q := ⟨_, rfl⟩
              rw [hQ] at FQ hql
              obtain ⟨ml, hml⟩ : ∃ m, Q.length = m := ⟨_, rfl⟩
              rw [hml] at hql
              have hown : ∀ (w' : World) (v' : Value), w'.ownsRow w.heap.size 5 1 v' (zl + ml) (bys (F0 ++ sFlat (ls.take k)) ++ bys Q) → ByNew w.heap.size w' v' (F0 ++ sFlat (ls.take (k + 1))) := fun w' v' g => by
                have e1 : sFlat (ls.take (k + 1)) = sFlat (ls.take k) ++ Q := by
                  rw [htk]
                  unfold sFlat
                  rw [List.flatMap_append, List.flatMap_cons, List.flatMap_nil, List.append_nil, hQ]
                rw [e1, ← List.append_assoc]
                unfold ByNew
                rw [List.length_append, bys_app, hzl, hml]
                exact g
              have how : wr.ownsRow w.heap.size 5 1 u6 zl (bys (F0 ++ sFlat (ls.take k))) := by
                have := HI.out.2.1
                unfold ByNew at this
                rw [hzl] at this
                exact this
              have OKN := Lib.hid (hokn hin); have HOWN := Lib.hid hown; have OW1 := Lib.hid how; have HML := Lib.hid hml
              have hkn1 : k + 1 ≤ n := hlt
              clear FQ0 hqs hqr hlenq hbq hno hcs hu htk hsz hokn hp0 ha hkl hzl hfl hokq hFq hQ hin hown how hml
              go_wp2_with fail
              refine (FQ.out _ HI.out.2.2).mono ?_; rintro _ w2 ⟨v2, rfl, hn2, hb2⟩
              have q0 := cellb hb2 y0
              have B2 := Lib.hid (below_next HI.out.2.2 hb2)
              obtain ⟨A3, c3, hv3, _, _⟩ := hn2.form
              rw [HML.out] at hv3
              subst hv3
              have RD := Lib.hid (hn2.reads HML.out)
              have OW := Lib.hid (ownsRow_below OW1.out hb2)
              clear hn2 hb2 y0 y1 y2 y3 y4 y5 y6 y7 y8
              go_wp2_with (at_builtin; refine wpList_append_any _ rfl (.tmp 47) (.tmp 48) _ rfl w.heap.size 5 i0 (.int .u8 0) 1 1 Tryd.underlying27 hi0 hz0 hz1 hz2 rfl (by decide) u6 zl (bys (F0 ++ sFlat (ls.take k))) rfl OW.out _ A3 ml c3 (bys Q) rfl RD.out (bys_one _) (by simp only [maxLen]; omega) (by omega) B2.out.size ?_; intro v4 w4 hown4 hg4 hat4)
              have hb4 : Below w.heap.size w w4 := Below.grown B2.out hg4 B2.out.size (own_ge OW.out)
              have NW := Lib.hid (HOWN.out _ _ hown4); have B4 := Lib.hid hb4
              clear hown4 hg4 hat4 hb4
              go_wp2
              go_roundw
              case rel => exact ⟨k + 1, _, rfl, by go_num, hkn1, OKN.out, NW.out, B4.out⟩
              case measure => simp [intOf]; omega
          · have hTT := hno (by unfold rIn; rw [hokq, Bool.false_and])
            subst hTT
            rw [hFq] at FQ0
            subst hUq
            obtain ⟨qk, qp, qm, qf, ql, qg, qt, qn, qv⟩ := q
            dsimp only at y0 y1 y2 y3 y4 y5 y6 y7 y8
            change (∀ (W : World), Below w.heap.size w W → Calls Tryd.prog 11 #[.agg #[.int .i64 qk, .string (strB qp), .int .i64 qm, .int .i64 qf, .slice Aq ql.length cq, .int .i64 qg, .int .i64 qt, .int .i64 qn, .int .i64 qv]] W fun e w' => ∃ v', e = .returned (.tuple #[v', .int .i64 1]) ∧ ByNew W.heap.size w' v' [] ∧ Below W.heap.size W w') at FQ0
            obtain ⟨qs, hqs⟩ : ∃ s, strB qp = s := ⟨_, rfl⟩
            obtain ⟨qr, hqr⟩ : ∃ n, ql.length = n := ⟨_, rfl⟩
            rw [hqs] at FQ0 y1
            rw [hqr] at FQ0 y4
            have FQ := Lib.hid FQ0
            clear FQ0 hqs hqr hlenq hbq hno hcs hu htk hsz hokn hp0 ha hkl hzl hzz hokq hFq
            go_wp2_with fail
            refine (FQ.out _ HI.out.2.2).mono ?_; rintro _ w2 ⟨v2, rfl, hn2, hb2⟩
            have B2 := Lib.hid (below_next HI.out.2.2 hb2)
            clear hn2 hb2 y0 y1 y2 y3 y4 y5 y6 y7 y8
            go_wp2
            exact bodyPost_ret (v := .tuple #[.slice none 0 0, .int .i64 1]) (by simp [results, Tryd.results21, go_sem]) rfl ⟨.slice none 0 0, rfl, ByNew.none _ _, B2.out⟩
        · obtain rfl : k = n := by omega
          have hall : ∀ r ∈ ls, rIn r = true := fun r hr => by
            obtain ⟨j, hj⟩ := List.getElem?_of_mem hr
            exact HI.out.1 j r (by rw [← HL.out]; exact (List.getElem?_eq_some_iff.1 hj).1) hj
          have hst := HOK.out hall
          have htk : ls.take k = ls := List.take_of_length_le (by rw [HL.out]; exact Nat.le_refl _)
          have hnw := HI.out.2.1
          rw [htk] at hnw
          subst hst
          have NW := Lib.hid hnw; have BW := Lib.hid HI.out.2.2
          clear hall htk hnw HI
          go_wp2
          exact bodyPost_ret (v := .tuple #[u6, .int .i64 0]) (by simp [results, Tryd.results21, go_sem]) rfl ⟨u6, rfl, NW.out, BW.out⟩
    · have hst : T = ([], 1) := by
        rw [← hTT]
        unfold sWrite
        rw [if_neg (fun g => by have := (rHead_iff.1 g.1).2; exact hkd this)]
      subst hst
      obtain ⟨k, p, m, f, l, g, t, nw, v0⟩ := h
      have hkd2 : ¬ k = 1 := hkd
      change Hid (∀ (W : World), Below w.heap.size w W → Calls Tryd.prog 11 #[.agg #[.int .i64 k, .string (strB p), .int .i64 m, .int .i64 f, .slice Ah l.length ch, .int .i64 g, .int .i64 t, .int .i64 nw, .int .i64 v0]] W fun e w' => ∃ v', e = .returned (.tuple #[v', .int .i64 0]) ∧ ByNew W.heap.size w' v' (rFrm ⟨k, p, m, f, l, g, t, nw, v0⟩) ∧ Below W.heap.size W w') at FH
      change Calls Tryd.prog 21 #[.agg #[.int .i64 k, .string (strB p), .int .i64 m, .int .i64 f, .slice Ah l.length ch, .int .i64 g, .int .i64 t, .int .i64 nw, .int .i64 v0], .slice A n c] w _
      have HH := Lib.hid (holds_alloc w [.int .i64 k, .string (strB p), .int .i64 m, .int .i64 f, .slice Ah l.length ch, .int .i64 g, .int .i64 t, .int .i64 nw, .int .i64 v0] 24)
      obtain ⟨s, hs⟩ : ∃ s, strB p = s := ⟨_, rfl⟩
      obtain ⟨nr, hn⟩ : ∃ n, l.length = n := ⟨_, rfl⟩
      rw [hs, hn] at FH HH ⊢
      clear hro hx hc hF hs hn hhp hhl hl hb hok hk1 hln hTT hkd
      go_enter Tryd.func21, Tryd.ntmps21
      go_wp2_with fail
      refine (FH.out _ ((Below.refl _ _).alloc (Nat.le_refl _) _)).mono ?_; rintro _ w1 ⟨v1, rfl, hn1, hb1⟩
      have r0 : w1.cell? ⟨w.heap.size, 0, none⟩ = some (.int .i64 k) := (HH.out.below hb1) 0 _ rfl
      have B1 := Lib.hid (show Below w.heap.size w w1 from Below.trans ((Below.refl _ _).alloc (Nat.le_refl _) _) (hb1.mono (by simp)))
      clear hn1 hb1
      go_wp2
      exact bodyPost_ret (v := .tuple #[.slice none 0 0, .int .i64 1]) (by simp [results, Tryd.results21, go_sem]) rfl ⟨.slice none 0 0, rfl, ByNew.none _ _, B1.out⟩
  · rw [hF] at FH
    have hst : T = ([], 1) := by
      rw [← hTT]
      unfold sWrite
      rw [if_neg (fun g => by have := (rHead_iff.1 g.1).1; rw [hok] at this; cases this)]
    subst hst
    obtain ⟨k, p, m, f, l, g, t, nw, v0⟩ := h
    change Hid (∀ (W : World), Below w.heap.size w W → Calls Tryd.prog 11 #[.agg #[.int .i64 k, .string (strB p), .int .i64 m, .int .i64 f, .slice Ah l.length ch, .int .i64 g, .int .i64 t, .int .i64 nw, .int .i64 v0]] W fun e w' => ∃ v', e = .returned (.tuple #[v', .int .i64 1]) ∧ ByNew W.heap.size w' v' [] ∧ Below W.heap.size W w') at FH
    change Calls Tryd.prog 21 #[.agg #[.int .i64 k, .string (strB p), .int .i64 m, .int .i64 f, .slice Ah l.length ch, .int .i64 g, .int .i64 t, .int .i64 nw, .int .i64 v0], .slice A n c] w _
    obtain ⟨s, hs⟩ : ∃ s, strB p = s := ⟨_, rfl⟩
    obtain ⟨nr, hn⟩ : ∃ n, l.length = n := ⟨_, rfl⟩
    rw [hs, hn] at FH ⊢
    clear hro hx hc hF hs hn hhp hhl hl hb hok hk1 hln hTT
    go_enter Tryd.func21, Tryd.ntmps21
    go_wp2_with fail
    refine (FH.out _ ((Below.refl _ _).alloc (Nat.le_refl _) _)).mono ?_; rintro _ w1 ⟨v1, rfl, hn1, hb1⟩
    have B1 := Lib.hid (show Below w.heap.size w w1 from Below.trans ((Below.refl _ _).alloc (Nat.le_refl _) _) (hb1.mono (by simp)))
    clear hn1 hb1
    go_wp2
    exact bodyPost_ret (v := .tuple #[.slice none 0 0, .int .i64 1]) (by simp [results, Tryd.results21, go_sem]) rfl ⟨.slice none 0 0, rfl, ByNew.none _ _, B1.out⟩
end Go.Proofs.YtabbpgnenmpacaaDoor.SR
