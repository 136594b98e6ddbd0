/-
  Contracts of the program's functions of layer 8: Frame.
-/
import Derived.Test.YtabbpgnenmpacaaDoorSegPDM
import Derived.Test.YtabbpgnenmpacaaDoorFrmPAM
set_option linter.unusedSimpArgs false
set_option linter.unusedVariables false
namespace Go.Proofs.YtabbpgnenmpacaaDoor.SP
open Go Go.RowKit
open CR (below_next own_ge u8_wrap)
set_option maxRecDepth 100000 in
set_option maxHeartbeats 2000000 in
theorem frame_c (v : Value) (r : PR) (hp : Bytes r.path) (hl : r.rungs.length ≤ 100000) (w : World) (hG : G w) (h : RcOut w v r) :
    Calls Tryd.prog 10 #[v] w fun e w' => ∃ v', e = .returned (.tuple #[v', .int .i64 (rFrame r).2]) ∧ ByNew w.heap.size w' v' (rFrame r).1 ∧ Below w.heap.size w w' := by
  have HG := Lib.hid hG
  clear hG
  obtain ⟨u, rfl, hro⟩ := h
  obtain ⟨A, c, rfl, hc, hx⟩ := id hro
  have PT := Lib.hid (fun (W : World) (hB : Below w.heap.size w W) => put_c (.agg (rcC (.slice A r.rungs.length c) r).toArray) r hp hl W ⟨_, rfl, hro.below hB⟩)
  by_cases hok : rRight r = true
  · have hP : rPut r = (rBytes r, 0) := by unfold rPut; rw [if_pos hok]
    have hF : rFrame r = (rFrm r, 0) := by unfold rFrame; rw [if_pos hok]
    have hf2 : fPut (rBytes r) = (rFrm r, 0) := by
      rcases fPut_two (rBytes r) with ⟨_, g⟩ | ⟨g, _⟩
      · exact g
      · exact absurd (rFrm_ok hok) g
    have FPP := Lib.hid (fun v w g h => FP.put_c v (rBytes r) (rBytes_bytes hok hp) w g h)
    rw [hP] at PT
    rw [hf2] at FPP
    rw [hF]
    have hbl := rBytes_len hok
    obtain ⟨k, p, m, f, l, g, t, nw, v0⟩ := r
    change Hid (∀ (W : World), Below w.heap.size w W → Calls Tryd.prog 8 #[.agg #[.int .i64 k, .string (strB p), .int .i64 m, .int .i64 f, .slice A l.length c, .int .i64 g, .int .i64 t, .int .i64 nw, .int .i64 v0]] W fun e w' => ∃ v', e = .returned (.tuple #[v', .int .i64 0]) ∧ ByNew W.heap.size w' v' (rBytes ⟨k, p, m, f, l, g, t, nw, v0⟩) ∧ Below W.heap.size W w') at PT
    change Calls Tryd.prog 10 #[.agg #[.int .i64 k, .string (strB p), .int .i64 m, .int .i64 f, .slice A l.length c, .int .i64 g, .int .i64 t, .int .i64 nw, .int .i64 v0]] w _
    obtain ⟨s, hs⟩ : ∃ s, strB p = s := ⟨_, rfl⟩
    obtain ⟨n, hn⟩ : ∃ n, l.length = n := ⟨_, rfl⟩
    rw [hs, hn] at PT ⊢
    clear hro hx hc hP hF hf2 hs hn hp hl hbl
    go_enter Tryd.func10, Tryd.ntmps10
    go_wp2_with fail
    refine (PT.out _ ((Below.refl _ _).alloc (Nat.le_refl _) _)).mono ?_; rintro _ w1 ⟨v1, rfl, hn1, hb1⟩
    have O1 := Lib.hid hn1.out
    have B1 := Lib.hid (show Below w.heap.size w w1 from Below.trans ((Below.refl _ _).alloc (Nat.le_refl _) _) (hb1.mono (by simp)))
    clear hn1 hb1
    go_wp2_with fail
    refine (FPP.out _ _ (HG.out.below B1.out) O1.out).mono ?_; rintro _ w2 ⟨v2, rfl, hn2, hb2⟩
    have N2 := Lib.hid (hn2.mono B1.out.size); have B2 := Lib.hid (below_next B1.out hb2)
    clear hn2 hb2
    go_wp2
    exact bodyPost_ret (v := .tuple #[v2, .int .i64 0]) (by simp [results, Tryd.results10, go_sem]) rfl ⟨v2, rfl, N2.out, B2.out⟩
  · have hP : rPut r = ([], 1) := by unfold rPut; rw [if_neg hok]
    have hF : rFrame r = ([], 1) := by unfold rFrame; rw [if_neg hok]
    rw [hP] at PT
    rw [hF]
    obtain ⟨k, p, m, f, l, g, t, nw, v0⟩ := r
    change Hid (∀ (W : World), Below w.heap.size w W → Calls Tryd.prog 8 #[.agg #[.int .i64 k, .string (strB p), .int .i64 m, .int .i64 f, .slice A l.length c, .int .i64 g, .int .i64 t, .int .i64 nw, .int .i64 v0]] W fun e w' => ∃ v', e = .returned (.tuple #[v', .int .i64 1]) ∧ ByNew W.heap.size w' v' [] ∧ Below W.heap.size W w') at PT
    change Calls Tryd.prog 10 #[.agg #[.int .i64 k, .string (strB p), .int .i64 m, .int .i64 f, .slice A l.length c, .int .i64 g, .int .i64 t, .int .i64 nw, .int .i64 v0]] w _
    obtain ⟨s, hs⟩ : ∃ s, strB p = s := ⟨_, rfl⟩
    obtain ⟨n, hn⟩ : ∃ n, l.length = n := ⟨_, rfl⟩
    rw [hs, hn] at PT ⊢
    clear hro hx hc hP hF hs hn hp hl hok
    go_enter Tryd.func10, Tryd.ntmps10
    go_wp2_with fail
    refine (PT.out _ ((Below.refl _ _).alloc (Nat.le_refl _) _)).mono ?_; rintro _ w1 ⟨v1, rfl, hn1, hb1⟩
    have B1 := Lib.hid (show Below w.heap.size w w1 from Below.trans ((Below.refl _ _).alloc (Nat.le_refl _) _) (hb1.mono (by simp)))
    clear hn1 hb1
    go_wp2
    exact bodyPost_ret (v := .tuple #[.slice none 0 0, .int .i64 1]) (by simp [results, Tryd.results10, go_sem]) rfl ⟨.slice none 0 0, rfl, ByNew.none _ _, B1.out⟩
end Go.Proofs.YtabbpgnenmpacaaDoor.SP
/-
  Contracts of the program's functions of layer 8: Write.
-/
set_option linter.unusedSimpArgs false
set_option linter.unusedVariables false
namespace Go.Proofs.YtabbpgnenmpacaaDoor.SP
open Go Go.RowKit
open CR (below_next own_ge u8_wrap)
theorem sSz_le : ∀ (l : List PR), (∀ r ∈ l, rRight r = true) → sSz l ≤ 302 * l.length
  | [], _ => Nat.le_refl _
  | r :: l, h => by
    have h1 := sSz_le l (fun x hx => h x (List.mem_cons_of_mem _ hx))
    have h2 := rBytes_len (h r List.mem_cons_self)
    rw [sSz_cons, rFrm_length, List.length_cons]
    omega
theorem rFrame_two (r : PR) : (rRight r = true ∧ rFrame r = (rFrm r, 0)) ∨ (rRight r = false ∧ rFrame r = ([], 1)) := by
  unfold rFrame
  by_cases h : rRight r = true
  · rw [if_pos h]; exact Or.inl ⟨h, rfl⟩
  · rw [if_neg h]; exact Or.inr ⟨by simpa using h, rfl⟩
theorem var_put {w w2 : World} {C cs : List Value} {t : TypeId} (hp : Put (w.alloc (.cells C.toArray t)) w2 w.heap.size cs) : Below w.heap.size w w2 := hp.below (Nat.le_refl _) ((Below.refl _ _).alloc (Nat.le_refl _) _)
/-- What a record in memory is, as a value. -/
theorem rg_form {w : World} {u : Value} {l : List (Int × Int)} (h : RgOut w u l) : ∃ A c, u = .slice A l.length c := by
  obtain ⟨A, c, hv, _⟩ := h
  exact ⟨A, c, hv⟩
set_option maxRecDepth 100000 in
set_option maxHeartbeats 4000000 in
theorem write_c (vh v : Value) (h : PR) (ls : List PR) (hhp : Bytes h.path) (hhl : h.rungs.length ≤ 100000) (hl : ls.length ≤ 300) (hb : ∀ r ∈ ls, Bytes r.path ∧ r.rungs.length ≤ 100000) (w : World) (hG : G w) (fh : RcOut w vh h) (fl : RsOut w v ls) :
    Calls Tryd.prog 20 #[vh, v] w fun e w' => ∃ v', e = .returned (.tuple #[v', .int .i64 (sWrite h ls).2]) ∧ ByNew w.heap.size w' v' (sWrite h ls).1 ∧ Below w.heap.size w w' := by
  have HG := Lib.hid hG
  obtain ⟨u, rfl, hro⟩ := fh
  obtain ⟨Ah, ch, rfl⟩ := rg_form hro
  have FH := Lib.hid (fun (W : World) (g : G W) (hB : Below w.heap.size w W) => frame_c (.agg (rcC (.slice Ah h.rungs.length ch) h).toArray) h hhp hhl W g ⟨_, rfl, hro.below hB⟩)
  have HFR := Lib.hid (fun (q : PR) (v : Value) (W : World) (hq : Bytes q.path ∧ q.rungs.length ≤ 100000) (g : G W) (h : RcOut W v q) => frame_c v q hq.1 hq.2 W g h)
  obtain ⟨A, c, rfl, hc, hx⟩ := fl
  obtain ⟨n, hln⟩ : ∃ n, ls.length = n := ⟨_, rfl⟩
  rw [hln] at hl hc ⊢
  obtain ⟨T, hTT⟩ : ∃ T, sWrite h ls = T := ⟨_, rfl⟩
  rw [hTT]
  obtain ⟨nh, hnh⟩ : ∃ n, h.rungs.length = n := ⟨_, rfl⟩
  change Calls Tryd.prog 20 #[.agg #[.int .i64 h.kind, .string (strB h.path), .int .i64 h.method, .int .i64 h.factor, .slice Ah h.rungs.length ch, .int .i64 h.rung, .int .i64 h.time, .int .i64 h.now, .int .i64 h.value], .slice A n c] w _
  change Hid (∀ (W : World) (g : G W) (hB : Below w.heap.size w W), Calls Tryd.prog 10 #[.agg #[.int .i64 h.kind, .string (strB h.path), .int .i64 h.method, .int .i64 h.factor, .slice Ah h.rungs.length ch, .int .i64 h.rung, .int .i64 h.time, .int .i64 h.now, .int .i64 h.value]] W _) at FH
  rw [hnh] at FH ⊢
  have HH := Lib.hid (holds_alloc w [.int .i64 h.kind, .string (strB h.path), .int .i64 h.method, .int .i64 h.factor, .slice Ah nh ch, .int .i64 h.rung, .int .i64 h.time, .int .i64 h.now, .int .i64 h.value] 24)
  have HV := Lib.hid (fun (W : World) => DVar.alloc (w := W) ([.int .i64 0, .string ByteArray.empty, .int .i64 0, .int .i64 0, .slice none 0 0, .int .i64 0, .int .i64 0, .int .i64 0, .int .i64 0] : List Value).toArray 24)
  by_cases hkd : h.kind = 1
  · have hkq : (h.kind != 1) = false := by rw [hkd]; rfl
    rcases rFrame_two h with ⟨hok, hF⟩ | ⟨hok, hF⟩
    · rw [hF] at FH
      have hhd : rHead h = true := rHead_iff.2 ⟨hok, hkd⟩
      have hTok : (∀ r ∈ ls, rIn r = true) → T = (rFrm h ++ sFlat ls, 0) := fun g => by
        rw [← hTT]
        unfold sWrite
        rw [if_pos ⟨hhd, List.all_eq_true.2 g⟩]
      have hTno : ∀ q ∈ ls, rIn q = false → T = ([], 1) := fun q hq g => by
        rw [← hTT]
        unfold sWrite
        rw [if_neg (fun g2 => by have := List.all_eq_true.1 g2.2 q hq; rw [g] at this; cases this)]
      have hbl := rBytes_len hok
      have hrl : (rFrm h).length ≤ 302 := by rw [rFrm_length]; omega
      obtain ⟨F0, hF0⟩ : ∃ F0, rFrm h = F0 := ⟨_, rfl⟩
      rw [hF0] at FH hTok hrl
      obtain ⟨hk, hhk⟩ : ∃ k, h.kind = k := ⟨_, rfl⟩
      have HX := Lib.hid hx; have HL := Lib.hid hln; have HOK := Lib.hid hTok; have HNO := Lib.hid hTno; have HB := Lib.hid hb; have HRL := Lib.hid hrl
      obtain ⟨i0, hi0, hz0, hz1, hz2⟩ := info_parts (P := Tryd.prog) (e := 5) (z := .int .u8 0) (size := 1) (bytes := 1) (by kernel_rfl)
      clear hro hx hF hhp hhl hb hok hln hTT hTok hTno hbl hrl hF0 hhd hG hnh hkd hhk
      go_enter Tryd.func20, Tryd.ntmps20
      go_wp2_with fail
      refine (FH.out _ (HG.out.alloc _) ((Below.refl _ _).alloc (Nat.le_refl _) _)).mono ?_; rintro _ w1 ⟨v1, rfl, hn1, hb1⟩
      have B1 := Lib.hid (show Below w.heap.size w w1 from Below.trans ((Below.refl _ _).alloc (Nat.le_refl _) _) (hb1.mono (by simp)))
      have N1 := Lib.hid (show ByNew w.heap.size w1 v1 F0 from hn1.mono (by simp))
      clear hn1 hb1
      go_wp2
      go_loopw [6, 9, 10, 11, 25] (fun wv _ _ _ i wr => ∃ (k : Nat) (vr : Value), wv = vr ∧ i = .int .i64 k ∧ k ≤ n ∧ Hid ((∀ (j : Nat) (q : PR), j < k → ls[j]? = some q → rIn q = true) ∧ ByNew w.heap.size wr vr (F0 ++ sFlat (ls.take k)) ∧ Below w.heap.size w wr)) (fun _ _ _ _ i _ => n - (intOf i).toNat)
      case atStart => exact ⟨0, _, rfl, rfl, Nat.zero_le _, fun j q h => absurd h (Nat.not_lt_zero _), by rw [List.take_zero]; show ByNew _ _ _ (F0 ++ []); rw [List.append_nil]; exact N1.out, B1.out⟩
      case round =>
        obtain ⟨k, vr, rfl, rfl, hk, HI⟩ := hrel
        by_cases hlt : k < n
        · have hkl : k < ls.length := by rw [HL.out]; exact hlt
          obtain ⟨b, off, rfl, ha⟩ := HX.out (by intro e; rw [e] at hkl; exact absurd hkl (Nat.not_lt_zero _))
          have hp0 := List.getElem?_eq_getElem hkl
          have hbq := HB.out _ (List.getElem_mem hkl)
          have hno := HNO.out _ (List.getElem_mem hkl)
          obtain ⟨u, hu, hcs⟩ := ha k _ hp0
          have htk : ls.take (k + 1) = ls.take k ++ [ls[k]] := by rw [List.take_add_one, hp0]; rfl
          have hsz : (F0 ++ sFlat (ls.take k)).length ≤ 302 + 302 * k := by
            have h1 := sSz_le (ls.take k) (fun r hr => by
              obtain ⟨j, hj⟩ := List.getElem?_of_mem hr
              rw [List.getElem?_take] at hj
              split at hj
              · exact (rIn_iff.1 (HI.out.1 j r (by assumption) hj)).1
              · cases hj)
            rw [List.length_append]
            have h2 : (sFlat (ls.take k)).length = sSz (ls.take k) := rfl
            have h3 : (ls.take k).length ≤ k := by rw [List.length_take]; exact Nat.min_le_left _ _
            have h4 := Nat.mul_le_mul_left 302 h3
            have := HRL.out
            omega
          have hokn : rIn ls[k] = true → ∀ (j : Nat) (q : PR), j < k + 1 → ls[j]? = some q → rIn q = true := fun g j q h1 h2 => by
            rcases Nat.lt_or_ge j k with h | h
            · exact HI.out.1 j q h h2
            · obtain rfl : j = k := by omega
              rw [hp0] at h2
              obtain rfl := Option.some.inj h2
              exact g
          generalize ls[k] = q at *
          obtain ⟨Aq, cq, rfl⟩ := rg_form hu
          obtain ⟨zl, hzl⟩ : ∃ z, (F0 ++ sFlat (ls.take k)).length = z := ⟨_, rfl⟩
          rw [hzl] at hsz
          have hcells := fun (j : Nat) (x : Value) h => cellb HI.out.2.2 (hcs j x h)
          obtain ⟨nq, hnq⟩ : ∃ n, q.rungs.length = n := ⟨_, rfl⟩
          have hcells2 : ∀ (j : Nat) (x : Value), ([.int .i64 q.kind, .string (strB q.path), .int .i64 q.method, .int .i64 q.factor, .slice Aq nq cq, .int .i64 q.rung, .int .i64 q.time, .int .i64 q.now, .int .i64 q.value] : List Value)[j]? = some x → wr.cell? ⟨b, off + k * 9 + j, none⟩ = some x := by rw [← hnq]; exact hcells
          obtain ⟨y0, y1, y2, y3, y4, y5, y6, y7, y8⟩ := nine (b := b) (o := off + k * 9) hcells2
          have hu2 := hu.below HI.out.2.2
          rw [hnq] at hu2
          have hrcq : ∀ W : World, RgOut W (.slice Aq nq cq) q.rungs → RcOut W (.agg #[.int .i64 q.kind, .string (strB q.path), .int .i64 q.method, .int .i64 q.factor, .slice Aq nq cq, .int .i64 q.rung, .int .i64 q.time, .int .i64 q.now, .int .i64 q.value]) q := fun W h => by
            rw [← hnq] at h ⊢
            exact ⟨_, rfl, h⟩
          have HU := Lib.hid hu2; have HRC := Lib.hid hrcq
          have hzz : zl ≤ 91000 := by omega
          have OW := Lib.hid (show wr.ownsRow w.heap.size 5 1 u6 zl (bys (F0 ++ sFlat (ls.take k))) by
            have := HI.out.2.1
            unfold ByNew at this
            rw [hzl] at this
            exact this)
          have BR := Lib.hid HI.out.2.2
          have HOKN := Lib.hid hokn; have HNOQ := Lib.hid hno; have HBQ := Lib.hid hbq; have HTK := Lib.hid htk; have HZL := Lib.hid hzl
          clear HI hcells hcells2 hcs hu hu2 hrcq hokn hno hbq htk hzl hp0 ha hkl hnq hsz
          by_cases hq1 : q.kind = 1
          · have hqq : (q.kind == 1) = true := by rw [hq1]; rfl
            have e := HNOQ.out (by rw [Bool.eq_false_iff]; intro g; exact (rIn_iff.1 g).2 hq1)
            subst e
            clear hq1
            go_wp2_with (refine wpList_put rfl 24 _ _ rfl wr.heap.size [.int .i64 q.kind, .string (strB q.path), .int .i64 q.method, .int .i64 q.factor, .slice Aq nq cq, .int .i64 q.rung, .int .i64 q.time, .int .i64 q.now, .int .i64 q.value] rfl rfl (HV.out wr) (by kernel_rfl) (by simp [Value.oneCell']) ?_; intro w2 hp2; have x0 := hp2.at_ 0 _ rfl; have B2 := Lib.hid (below_next BR.out (var_put hp2)); clear hp2)
            exact bodyPost_ret (v := .tuple #[.slice none 0 0, .int .i64 1]) (by simp [results, Tryd.results20, go_sem]) rfl ⟨.slice none 0 0, rfl, ByNew.none _ _, B2.out⟩
          · have hqq : (q.kind == 1) = false := beq_false_of_ne hq1
            rcases rFrame_two q with ⟨hokq, hFq⟩ | ⟨hokq, hFq⟩
            · have hin : rIn q = true := rIn_iff.2 ⟨hokq, hq1⟩
              have hfl := (rBytes_len hokq).2
              obtain ⟨Q, hQ⟩ : ∃ Q, rFrm q = Q := ⟨_, rfl⟩
              have hql : Q.length ≤ 302 := by rw [← hQ, rFrm_length]; omega
              obtain ⟨ml, hml⟩ : ∃ m, Q.length = m := ⟨_, rfl⟩
              rw [hml] at hql
              rw [hQ] at hFq
              have FQ := Lib.hid (fun (W : World) (v : Value) (g : G W) (h : RcOut W v q) => by
                have h2 := HFR.out q v W HBQ.out g h
                rw [hFq] at h2
                exact h2)
              have HOWN := Lib.hid (show ∀ (w' : World) (v' : Value), w'.ownsRow w.heap.size 5 1 v' (zl + ml) (bys (F0 ++ sFlat (ls.take k)) ++ bys Q) → ByNew w.heap.size w' v' (F0 ++ sFlat (ls.take (k + 1))) from fun w' v' g => by
                have e1 : sFlat (ls.take (k + 1)) = sFlat (ls.take k) ++ Q := by
                  rw [HTK.out]
                  unfold sFlat
                  rw [List.flatMap_append, List.flatMap_cons, List.flatMap_nil, List.append_nil, hQ]
                rw [e1, ← List.append_assoc]
                unfold ByNew
                rw [List.length_append, bys_app, HZL.out, hml]
                exact g)
              have OKN := Lib.hid (HOKN.out hin); have HML := Lib.hid hml
              have hkn1 : k + 1 ≤ n := hlt
              clear hokq hFq hin hfl hQ hml hq1
              go_wp2_with (refine wpList_put rfl 24 _ _ rfl wr.heap.size [.int .i64 q.kind, .string (strB q.path), .int .i64 q.method, .int .i64 q.factor, .slice Aq nq cq, .int .i64 q.rung, .int .i64 q.time, .int .i64 q.now, .int .i64 q.value] rfl rfl (HV.out wr) (by kernel_rfl) (by simp [Value.oneCell']) ?_; intro w2 hp2; obtain ⟨x0, x1, x2, x3, x4, x5, x6, x7, x8⟩ := Holds.nine hp2.at_; have VP := Lib.hid (var_put hp2); clear hp2)
              refine (FQ.out w2 _ (HG.out.below (below_next BR.out VP.out)) (HRC.out _ (HU.out.below VP.out))).mono ?_; rintro _ w3 ⟨v3, rfl, hn3, hb3⟩
              have B3 := Lib.hid (below_next (below_next BR.out VP.out) hb3)
              obtain ⟨A3, c3, hv3, _, _⟩ := hn3.form
              rw [HML.out] at hv3
              subst hv3
              have RD := Lib.hid (hn3.reads HML.out)
              have OW3 := Lib.hid (ownsRow_below (ownsRow_below OW.out VP.out) hb3)
              clear hn3 hb3 y0 y1 y2 y3 y4 y5 y6 y7 y8 x0 x1 x2 x3 x4 x5 x6 x7 x8
              go_wp2_with (at_builtin; refine wpList_append_any _ rfl (.tmp 40) (.tmp 41) _ rfl w.heap.size 5 i0 (.int .u8 0) 1 1 Tryd.underlying27 hi0 hz0 hz1 hz2 rfl (by decide) u6 zl (bys (F0 ++ sFlat (ls.take k))) rfl OW3.out _ A3 ml c3 (bys Q) rfl RD.out (bys_one _) (by simp only [maxLen]; omega) (by omega) B3.out.size ?_; intro v4 w4 hown4 hg4 hat4)
              have hb4 : Below w.heap.size w w4 := Below.grown B3.out hg4 B3.out.size (own_ge OW3.out)
              have NW := Lib.hid (HOWN.out _ _ hown4); have B4 := Lib.hid hb4
              clear hown4 hg4 hat4 hb4
              go_wp2
              go_roundw
              case rel => exact ⟨k + 1, _, rfl, by go_num, hkn1, OKN.out, NW.out, B4.out⟩
              case measure => simp [intOf]; omega
            · have e := HNOQ.out (by unfold rIn; rw [hokq, Bool.false_and])
              subst e
              have FQ := Lib.hid (fun (W : World) (v : Value) (g : G W) (h : RcOut W v q) => by
                have h2 := HFR.out q v W HBQ.out g h
                rw [hFq] at h2
                exact h2)
              clear hokq hFq hq1
              go_wp2_with (refine wpList_put rfl 24 _ _ rfl wr.heap.size [.int .i64 q.kind, .string (strB q.path), .int .i64 q.method, .int .i64 q.factor, .slice Aq nq cq, .int .i64 q.rung, .int .i64 q.time, .int .i64 q.now, .int .i64 q.value] rfl rfl (HV.out wr) (by kernel_rfl) (by simp [Value.oneCell']) ?_; intro w2 hp2; obtain ⟨x0, x1, x2, x3, x4, x5, x6, x7, x8⟩ := Holds.nine hp2.at_; have VP := Lib.hid (var_put hp2); clear hp2)
              refine (FQ.out w2 _ (HG.out.below (below_next BR.out VP.out)) (HRC.out _ (HU.out.below VP.out))).mono ?_; rintro _ w3 ⟨v3, rfl, hn3, hb3⟩
              have B3 := Lib.hid (below_next (below_next BR.out VP.out) hb3)
              clear hn3 hb3 y0 y1 y2 y3 y4 y5 y6 y7 y8 x0 x1 x2 x3 x4 x5 x6 x7 x8
              go_wp2
              exact bodyPost_ret (v := .tuple #[.slice none 0 0, .int .i64 1]) (by simp [results, Tryd.results20, go_sem]) rfl ⟨.slice none 0 0, rfl, ByNew.none _ _, B3.out⟩
        · obtain rfl : k = n := by omega
          have hall : ∀ r ∈ ls, rIn r = true := fun r hr => by
            obtain ⟨j, hj⟩ := List.getElem?_of_mem hr
            exact HI.out.1 j r (by rw [← HL.out]; exact (List.getElem?_eq_some_iff.1 hj).1) hj
          have hst := HOK.out hall
          have htk : ls.take k = ls := List.take_of_length_le (by rw [HL.out]; exact Nat.le_refl _)
          have hnw := HI.out.2.1
          rw [htk] at hnw
          subst hst
          have NW := Lib.hid hnw; have BW := Lib.hid HI.out.2.2
          clear hall htk hnw HI
          go_wp2
          exact bodyPost_ret (v := .tuple #[u6, .int .i64 0]) (by simp [results, Tryd.results20, go_sem]) rfl ⟨u6, rfl, NW.out, BW.out⟩
    · rw [hF] at FH
      have hst : T = ([], 1) := by
        rw [← hTT]
        unfold sWrite
        rw [if_neg (fun g => by have := (rHead_iff.1 g.1).1; rw [hok] at this; cases this)]
      subst hst
      clear hro hx hc hF hhp hhl hl hb hok hln hTT hG hnh hkd
      go_enter Tryd.func20, Tryd.ntmps20
      go_wp2_with fail
      refine (FH.out _ (HG.out.alloc _) ((Below.refl _ _).alloc (Nat.le_refl _) _)).mono ?_; rintro _ w1 ⟨v1, rfl, hn1, hb1⟩
      have B1 := Lib.hid (show Below w.heap.size w w1 from Below.trans ((Below.refl _ _).alloc (Nat.le_refl _) _) (hb1.mono (by simp)))
      clear hn1 hb1
      go_wp2
      exact bodyPost_ret (v := .tuple #[.slice none 0 0, .int .i64 1]) (by simp [results, Tryd.results20, go_sem]) rfl ⟨.slice none 0 0, rfl, ByNew.none _ _, B1.out⟩
  · have hkq : (h.kind != 1) = true := by rw [bne_iff_ne]; exact hkd
    have hst : T = ([], 1) := by
      rw [← hTT]
      unfold sWrite
      rw [if_neg (fun g => hkd (rHead_iff.1 g.1).2)]
    subst hst
    clear hro hx hc hhp hhl hl hb hln hTT hG hnh hkd
    go_enter Tryd.func20, Tryd.ntmps20
    go_wp2
    exact bodyPost_ret (v := .tuple #[.slice none 0 0, .int .i64 1]) (by simp [results, Tryd.results20, go_sem]) rfl ⟨.slice none 0 0, rfl, ByNew.none _ _, (Below.refl _ _).alloc (Nat.le_refl _) _⟩
end Go.Proofs.YtabbpgnenmpacaaDoor.SP
