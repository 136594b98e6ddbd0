/-
  Contracts of the program's functions of layer 8: Take.
-/
import Derived.Test.YtabbpgnenmpacaaDoorSegPKM
import Derived.Test.YtabbpgnenmpacaaDoorSegPDM
import Derived.Test.YtabbpgnenmpacaaDoorByEqualM
set_option linter.unusedSimpArgs false
set_option linter.unusedVariables false
namespace Go.Proofs.YtabbpgnenmpacaaDoor.SP
open Go.RowKit
open CR (below_next own_ge u8_wrap)
theorem read_c (v : Value) (l : List Nat) (hb : Bytes l) (hl : l.length ≤ 9223372036854775807) (w : World) (ho : ByOut w v l) :
    Calls Tryd.prog 38 #[v] w fun e w' => ∃ v', e = .returned v' ∧ RcNew w.heap.size w' v' (rRead l) ∧ Below w.heap.size w w' := by
  by_cases h1 : l.headD 0 = 1
  · exact read_one v l hb hl w ho h1
  · by_cases h2 : l.headD 0 = 2
    · exact read_two v l hb hl w ho h2
    · by_cases h3 : l.headD 0 = 3
      · exact read_three v l hb hl w ho h3
      · exact read_other v l hb hl w ho (by omega)
/-- An answer's variable, and one that was put. -/
theorem take_start {w w2 w3 : World} {C0 C2 cs : List Value} {t : TypeId} (hb : Below (w.alloc (.cells C0.toArray t)).heap.size (w.alloc (.cells C0.toArray t)) w2) (h0 : C0.length = 9) (hp : Put (w2.alloc (.cells C2.toArray t)) w3 w2.heap.size cs) :
    Below w.heap.size w w3 ∧ DVar w3 w.heap.size 9 ∧ Below w2.heap.size w2 w3 ∧ w.heap.size + 1 ≤ w2.heap.size := by
  have e1 : (w.alloc (.cells C0.toArray t)).heap.size = w.heap.size + 1 := by simp
  have hs := hb.size
  rw [e1] at hs hb
  have b3 : Below w2.heap.size w2 w3 := hp.below (Nat.le_refl _) ((Below.refl _ _).alloc (Nat.le_refl _) _)
  have d := DVar.alloc (w := w) C0.toArray t
  have e : C0.toArray.size = 9 := by simpa using h0
  rw [e] at d
  have hb' : Below (w.alloc (.cells C0.toArray t)).heap.size (w.alloc (.cells C0.toArray t)) w2 := by rw [e1]; exact hb
  exact ⟨(alloc_below w _).trans ((hb.mono (by omega)).trans (b3.mono (by omega))), (d.below hb').below b3, b3, hs⟩
set_option maxRecDepth 100000 in
set_option maxHeartbeats 2000000 in
theorem take_c (v : Value) (l : List Nat) (hb : Bytes l) (hl : l.length ≤ 9223372036854775807) (w : World) (ho : ByOut w v l) :
    Calls Tryd.prog 22 #[v] w fun e w' => ∃ v', e = .returned (.tuple #[v', .int .i64 (rTake l).2]) ∧ RcNew w.heap.size w' v' (rTake l).1 ∧ Below w.heap.size w w' := by
  have RD := Lib.hid (fun (W : World) (hB : Below w.heap.size w W) => read_c v l hb hl W (ho.below hB))
  have hok := rRead_ok hb
  have hrt := rTake_read l
  obtain ⟨TT, hTT⟩ : ∃ T, rTake l = T := ⟨_, rfl⟩
  obtain ⟨T, hT⟩ : ∃ T, rRead l = T := ⟨_, rfl⟩
  rw [hTT] at hrt ⊢
  rw [hT] at RD hok hrt
  have PT := Lib.hid (fun (v : Value) (W : World) (h : RcOut W v T) => put_c v T hok.1 hok.2 W h)
  have HO := Lib.hid ho; have HB := Lib.hid hb; have HOK := Lib.hid hok
  have HV := Lib.hid (fun (W : World) => DVar.alloc (w := W) ([.int .i64 0, .string ByteArray.empty, .int .i64 0, .int .i64 0, .slice none 0 0, .int .i64 0, .int .i64 0, .int .i64 0, .int .i64 0] : List Value).toArray 24)
  obtain ⟨kk, pp, mm, ff, ll, gg, tt, nn, vv, hTe⟩ : ∃ kk pp mm ff ll gg tt nn vv, T = ⟨kk, pp, mm, ff, ll, gg, tt, nn, vv⟩ := ⟨_, _, _, _, _, _, _, _, _, rfl⟩
  obtain ⟨ss, hss⟩ : ∃ s, strB pp = s := ⟨_, rfl⟩
  obtain ⟨n4, hn4⟩ : ∃ n, ll.length = n := ⟨_, rfl⟩
  have hrc : ∀ (B : Nat) (A4 : Option Addr) (c4 : Nat) (w5 : World), RgNew B w5 (.slice A4 n4 c4) ll → RcNew B w5 (.agg #[.int .i64 kk, .string ss, .int .i64 mm, .int .i64 ff, .slice A4 n4 c4, .int .i64 gg, .int .i64 tt, .int .i64 nn, .int .i64 vv]) T := fun B A4 c4 w5 h => by
    rw [hTe]
    exact ⟨.slice A4 n4 c4, by unfold rcC; rw [hss], h⟩
  have hform : ∀ (B : Nat) (W : World) (v : Value), RcNew B W v T → ∃ A4 c4, v = .agg #[.int .i64 kk, .string ss, .int .i64 mm, .int .i64 ff, .slice A4 n4 c4, .int .i64 gg, .int .i64 tt, .int .i64 nn, .int .i64 vv] ∧ RgNew B W (.slice A4 n4 c4) ll := fun B W v h => by
    rw [hTe] at h
    obtain ⟨u, rfl, h⟩ := h
    obtain ⟨A4, c4, rfl, _⟩ := RgNew.out h
    refine ⟨A4, c4, by unfold rcC; simp only [hss, hn4], ?_⟩
    rw [← hn4]
    exact h
  have HRC := Lib.hid hrc; have HFM := Lib.hid hform
  have hcase : (rRight T = true ∧ rPut T = (rBytes T, 0)) ∨ (rRight T = false ∧ rPut T = ([], 1)) := by
    unfold rPut
    by_cases h : rRight T = true
    · exact Or.inl ⟨h, if_pos h⟩
    · exact Or.inr ⟨by simpa using h, if_neg h⟩
  obtain ⟨A, c, hv, _, _⟩ := id ho
  obtain ⟨n, hn⟩ : ∃ n, l.length = n := ⟨_, rfl⟩
  rw [hn] at hv
  subst hv
  rcases hcase with ⟨hr, hP⟩ | ⟨hr, hP⟩
  · rw [hP] at PT
    by_cases he : rBytes T = l
    · have e : TT = (T, 0) := by rw [hrt, if_pos ⟨hr, he⟩]
      subst e
      have EQ := Lib.hid (fun (v1 : Value) (W : World) (h1 : ByOut W v1 (rBytes T)) (h2 : ByOut W (.slice A n c) l) => by
        have h := equal_c v1 (.slice A n c) (rBytes T) l (rBytes_bytes hr HOK.out.1) hb W h1 h2
        rw [decide_eq_true he] at h
        exact h)
      clear hb hl ho hok hrt hTT hT hTe hss hn4 hrc hform hn he hr hP
      go_enter Tryd.func22, Tryd.ntmps22
      go_wp2_with fail
      refine (RD.out _ (alloc_below w _)).mono ?_; rintro _ w2 ⟨v2, rfl, ho2, hb2⟩
      obtain ⟨A4, c4, rfl, hro2⟩ := HFM.out _ _ _ (ho2.mono (B := w.heap.size + 1) (by simp))
      have HB2 := Lib.hid hb2
      have HRO2 := Lib.hid hro2
      clear ho2 hro2 hb2
      go_wp2_with (refine wpList_put rfl 24 _ _ rfl w2.heap.size [.int .i64 kk, .string ss, .int .i64 mm, .int .i64 ff, .slice A4 n4 c4, .int .i64 gg, .int .i64 tt, .int .i64 nn, .int .i64 vv] rfl rfl (HV.out w2) (by kernel_rfl) (by simp [Value.oneCell']) ?_; intro w3 hp3; obtain ⟨y0, y1, y2, y3, y4, y5, y6, y7, y8⟩ := Holds.nine hp3.at_; have H3 := Lib.hid hp3.at_; have S3 := Lib.hid (take_start (w := w) (C0 := [.int .i64 0, .string ByteArray.empty, .int .i64 0, .int .i64 0, .slice none 0 0, .int .i64 0, .int .i64 0, .int .i64 0, .int .i64 0]) (C2 := [.int .i64 0, .string ByteArray.empty, .int .i64 0, .int .i64 0, .slice none 0 0, .int .i64 0, .int .i64 0, .int .i64 0, .int .i64 0]) HB2.out rfl hp3); clear hp3)
      refine (PT.out _ w3 (HRC.out _ _ _ _ (HRO2.out.below S3.out.2.2.1)).out).mono ?_; rintro _ w4 ⟨v4, rfl, hn4', hb4⟩
      have O4 := Lib.hid hn4'.out; have B4 := Lib.hid (below_next S3.out.1 hb4); have D4 := Lib.hid (S3.out.2.1.below hb4)
      have H4 := Lib.hid (H3.out.below hb4 : Holds w4 w2.heap.size _)
      have RO4 := Lib.hid ((HRO2.out.below S3.out.2.2.1).below hb4)
      clear hn4' hb4 y0 y1 y2 y3 y4 y5 y6 y7 y8
      go_wp2_with fail
      refine (EQ.out _ w4 O4.out (HO.out.below B4.out)).mono ?_; rintro _ w5 ⟨rfl, rfl⟩
      obtain ⟨y0, y1, y2, y3, y4, y5, y6, y7, y8⟩ := Holds.nine H4.out
      go_wp2_with (refine wpList_put rfl 24 _ _ rfl w.heap.size [.int .i64 kk, .string ss, .int .i64 mm, .int .i64 ff, .slice A4 n4 c4, .int .i64 gg, .int .i64 tt, .int .i64 nn, .int .i64 vv] rfl rfl D4.out (by kernel_rfl) (by simp [Value.oneCell']) ?_; intro w6 hp6; obtain ⟨x0, x1, x2, x3, x4, x5, x6, x7, x8⟩ := Holds.nine hp6.at_; have B6 := Lib.hid (hp6.below (Nat.le_refl _) B4.out); have RO6 := Lib.hid (RO4.out.grown hp6.grown (fun g e => by injection e; omega)); clear hp6)
      exact bodyPost_ret (v := .tuple #[.agg #[.int .i64 kk, .string ss, .int .i64 mm, .int .i64 ff, .slice A4 n4 c4, .int .i64 gg, .int .i64 tt, .int .i64 nn, .int .i64 vv], .int .i64 0]) (by simp [results, Tryd.results22, go_sem, x0, x1, x2, x3, x4, x5, x6, x7, x8]) rfl ⟨_, rfl, (HRC.out _ _ _ _ RO6.out).mono (by omega), B6.out⟩
    · have e : TT = (PR.zero, 7) := by rw [hrt, if_neg (fun g => he g.2)]
      subst e
      have EQ := Lib.hid (fun (v1 : Value) (W : World) (h1 : ByOut W v1 (rBytes T)) (h2 : ByOut W (.slice A n c) l) => by
        have h := equal_c v1 (.slice A n c) (rBytes T) l (rBytes_bytes hr HOK.out.1) hb W h1 h2
        rw [decide_eq_false he] at h
        exact h)
      clear hb hl ho hok hrt hTT hT hTe hss hn4 hrc hform hn he hr hP
      go_enter Tryd.func22, Tryd.ntmps22
      go_wp2_with fail
      refine (RD.out _ (alloc_below w _)).mono ?_; rintro _ w2 ⟨v2, rfl, ho2, hb2⟩
      obtain ⟨A4, c4, rfl, hro2⟩ := HFM.out _ _ _ (ho2.mono (B := w.heap.size + 1) (by simp))
      have HB2 := Lib.hid hb2
      have HRO2 := Lib.hid hro2
      clear ho2 hro2 hb2
      go_wp2_with (refine wpList_put rfl 24 _ _ rfl w2.heap.size [.int .i64 kk, .string ss, .int .i64 mm, .int .i64 ff, .slice A4 n4 c4, .int .i64 gg, .int .i64 tt, .int .i64 nn, .int .i64 vv] rfl rfl (HV.out w2) (by kernel_rfl) (by simp [Value.oneCell']) ?_; intro w3 hp3; obtain ⟨y0, y1, y2, y3, y4, y5, y6, y7, y8⟩ := Holds.nine hp3.at_; have H3 := Lib.hid hp3.at_; have S3 := Lib.hid (take_start (w := w) (C0 := [.int .i64 0, .string ByteArray.empty, .int .i64 0, .int .i64 0, .slice none 0 0, .int .i64 0, .int .i64 0, .int .i64 0, .int .i64 0]) (C2 := [.int .i64 0, .string ByteArray.empty, .int .i64 0, .int .i64 0, .slice none 0 0, .int .i64 0, .int .i64 0, .int .i64 0, .int .i64 0]) HB2.out rfl hp3); clear hp3)
      refine (PT.out _ w3 (HRC.out _ _ _ _ (HRO2.out.below S3.out.2.2.1)).out).mono ?_; rintro _ w4 ⟨v4, rfl, hn4', hb4⟩
      have O4 := Lib.hid hn4'.out; have B4 := Lib.hid (below_next S3.out.1 hb4); have D4 := Lib.hid (S3.out.2.1.below hb4)
      have H4 := Lib.hid (H3.out.below hb4 : Holds w4 w2.heap.size _)
      have RO4 := Lib.hid ((HRO2.out.below S3.out.2.2.1).below hb4)
      clear hn4' hb4 y0 y1 y2 y3 y4 y5 y6 y7 y8
      go_wp2_with fail
      refine (EQ.out _ w4 O4.out (HO.out.below B4.out)).mono ?_; rintro _ w5 ⟨rfl, rfl⟩
      go_wp2_with (refine wpList_put rfl 24 _ _ rfl w.heap.size [.int .i64 0, .string ByteArray.empty, .int .i64 0, .int .i64 0, .slice none 0 0, .int .i64 0, .int .i64 0, .int .i64 0, .int .i64 0] rfl rfl D4.out (by kernel_rfl) (by simp [Value.oneCell']) ?_; intro w6 hp6; obtain ⟨x0, x1, x2, x3, x4, x5, x6, x7, x8⟩ := Holds.nine hp6.at_; have B6 := Lib.hid (hp6.below (Nat.le_refl _) B4.out); clear hp6)
      exact bodyPost_ret (v := .tuple #[.agg #[.int .i64 0, .string ByteArray.empty, .int .i64 0, .int .i64 0, .slice none 0 0, .int .i64 0, .int .i64 0, .int .i64 0, .int .i64 0], .int .i64 7]) (by simp [results, Tryd.results22, go_sem, x0, x1, x2, x3, x4, x5, x6, x7, x8]) rfl ⟨_, rfl, rc_plain _ _ _ _ _ _ _, B6.out⟩
  · rw [hP] at PT
    have e : TT = (PR.zero, 7) := by rw [hrt, if_neg (fun g => by rw [hr] at g; cases g.1)]
    subst e
    clear hb hl ho hok hrt hTT hT hTe hss hn4 hrc hform hn hr hP
    go_enter Tryd.func22, Tryd.ntmps22
    go_wp2_with fail
    refine (RD.out _ (alloc_below w _)).mono ?_; rintro _ w2 ⟨v2, rfl, ho2, hb2⟩
    obtain ⟨A4, c4, rfl, hro2⟩ := HFM.out _ _ _ (ho2.mono (B := w.heap.size + 1) (by simp))
    have HB2 := Lib.hid hb2
    have HRO2 := Lib.hid hro2
    clear ho2 hro2 hb2
    go_wp2_with (refine wpList_put rfl 24 _ _ rfl w2.heap.size [.int .i64 kk, .string ss, .int .i64 mm, .int .i64 ff, .slice A4 n4 c4, .int .i64 gg, .int .i64 tt, .int .i64 nn, .int .i64 vv] rfl rfl (HV.out w2) (by kernel_rfl) (by simp [Value.oneCell']) ?_; intro w3 hp3; obtain ⟨y0, y1, y2, y3, y4, y5, y6, y7, y8⟩ := Holds.nine hp3.at_; have H3 := Lib.hid hp3.at_; have S3 := Lib.hid (take_start (w := w) (C0 := [.int .i64 0, .string ByteArray.empty, .int .i64 0, .int .i64 0, .slice none 0 0, .int .i64 0, .int .i64 0, .int .i64 0, .int .i64 0]) (C2 := [.int .i64 0, .string ByteArray.empty, .int .i64 0, .int .i64 0, .slice none 0 0, .int .i64 0, .int .i64 0, .int .i64 0, .int .i64 0]) HB2.out rfl hp3); clear hp3)
    refine (PT.out _ w3 (HRC.out _ _ _ _ (HRO2.out.below S3.out.2.2.1)).out).mono ?_; rintro _ w4 ⟨v4, rfl, hn4', hb4⟩
    have O4 := Lib.hid hn4'.out; have B4 := Lib.hid (below_next S3.out.1 hb4); have D4 := Lib.hid (S3.out.2.1.below hb4)
    have H4 := Lib.hid (H3.out.below hb4 : Holds w4 w2.heap.size _)
    have RO4 := Lib.hid ((HRO2.out.below S3.out.2.2.1).below hb4)
    clear hn4' hb4 y0 y1 y2 y3 y4 y5 y6 y7 y8
    go_wp2_with (refine wpList_put rfl 24 _ _ rfl w.heap.size [.int .i64 0, .string ByteArray.empty, .int .i64 0, .int .i64 0, .slice none 0 0, .int .i64 0, .int .i64 0, .int .i64 0, .int .i64 0] rfl rfl D4.out (by kernel_rfl) (by simp [Value.oneCell']) ?_; intro w6 hp6; obtain ⟨x0, x1, x2, x3, x4, x5, x6, x7, x8⟩ := Holds.nine hp6.at_; have B6 := Lib.hid (hp6.below (Nat.le_refl _) B4.out); clear hp6)
    exact bodyPost_ret (v := .tuple #[.agg #[.int .i64 0, .string ByteArray.empty, .int .i64 0, .int .i64 0, .slice none 0 0, .int .i64 0, .int .i64 0, .int .i64 0, .int .i64 0], .int .i64 7]) (by simp [results, Tryd.results22, go_sem, x0, x1, x2, x3, x4, x5, x6, x7, x8]) rfl ⟨_, rfl, rc_plain _ _ _ _ _ _ _, B6.out⟩
end Go.Proofs.YtabbpgnenmpacaaDoor.SP
