/-
  Walks of layer 12's laws: what is too great to be looked at; the same schemas.
-/
import Derived.Test.YtodlgbihdehmbaaGreatDoorRulWAZ
import Derived.Test.YtodlgbihdehmbaaGreatDoorNdlRIZ
import Derived.Test.YtodlgbihdehmbaaGreatDoorNdlRJbZ
import Derived.Test.YtodlgbihdehmbaaGreatDoorNdlRFZ
import Derived.Deep.Cut
import Derived.Test.YtodlgbihdehmbaaGreatDoorRulPIZ
import Derived.Test.YtodlgbihdehmbaaGreatDoorRulPJZ
import Derived.Test.YtodlgbihdehmbaaGreatDoorRetRGZ
import Derived.Test.YtodlgbihdehmbaaGreatDoorRetRHZ
set_option linter.unusedSimpArgs false
set_option linter.unusedVariables false
namespace Go.Proofs.YtodlgbihdehmbaaGreatDoor
open Go.RowKit Cf Cf.KR Cf.KP
/-- How much is told of the first k stores' archives. -/
def rgSum (ss : List Sto) (k : Nat) : Nat := ((ss.take k).map fun s => s.2.2.length).sum
theorem rgSum_next {ss : List Sto} {k : Nat} {s : Sto} (h : ss[k]? = some s) : rgSum ss (k + 1) = rgSum ss k + s.2.2.length := by
  unfold rgSum
  rw [List.take_add_one, h]
  simp only [Option.toList_some]
  rw [List.map_append, List.sum_append, List.map_cons, List.map_nil, List.sum_cons, List.sum_nil, Nat.add_zero]
theorem rgSum_mono {ss : List Sto} (k : Nat) : ∀ j, rgSum ss k ≤ rgSum ss (k + j)
  | 0 => Nat.le_refl _
  | j + 1 => by
    have h := rgSum_mono (ss := ss) k j
    rcases h2 : ss[k + j]? with _ | s
    · have : rgSum ss (k + (j + 1)) = rgSum ss (k + j) := by
        unfold rgSum
        rw [show k + (j + 1) = k + j + 1 from rfl, List.take_add_one, h2]
        simp
      omega
    · have := rgSum_next h2
      rw [show k + (j + 1) = k + j + 1 from rfl]
      omega
theorem rgSum_le {ss : List Sto} {k : Nat} (hk : k ≤ ss.length) : rgSum ss k ≤ rgSum ss ss.length := by
  have := rgSum_mono (ss := ss) k (ss.length - k)
  rwa [show k + (ss.length - k) = ss.length from by omega] at this
/-- More rules, or longer ones, than are looked at. -/
def greatV (ss : List Sto) (fs : List Fol) : Bool := decide (500 < ss.length + fs.length + rgSum ss ss.length)
theorem great_not {ss : List Sto} {fs : List Fol} (h : greatV ss fs = false) : ss.length ≤ 500 ∧ fs.length ≤ 500 ∧ ∀ s ∈ ss, s.2.2.length ≤ 500 := by
  unfold greatV at h
  have h2 := of_decide_eq_false h
  refine ⟨by omega, by omega, fun s hs => ?_⟩
  obtain ⟨k, hk⟩ := List.getElem?_of_mem hs
  have h3 := rgSum_next hk
  have h4 := rgSum_le (ss := ss) (k := k + 1) (List.getElem?_eq_some_iff.1 hk).1
  omega
theorem great_fit {ss : List Sto} {fs : List Fol} (h : greatV ss fs = false) (hl : RuLong ss fs) : RuFit ss fs := by
  obtain ⟨h1, h2, h3⟩ := great_not h
  exact ⟨fun s hs => ⟨(hl.st s hs).pat, Nat.le_trans (h3 s hs) (by decide)⟩, hl.fo, by omega, by omega⟩
namespace LW
open LP
set_option maxRecDepth 100000 in
set_option maxHeartbeats 2000000 in
theorem great_c (vs vf : Value) (ss : List Sto) (fs : List Fol) (hl : RuLong ss fs) (w : World) (hs : StOut w vs ss) (hf : FoOut w vf fs) :
    Calls Tryz.prog 18 #[.agg #[vs, vf]] w fun e w' => e = .returned (.bool (greatV ss fs)) ∧ Below w.heap.size w w' := by
  obtain ⟨A, c, rfl, hc, hx⟩ := id hs
  obtain ⟨A2, c2, rfl, hc2, -⟩ := id hf
  have nS := hl.ns
  have nF := hl.nf
  obtain ⟨d, hd⟩ : ∃ d, greatV ss fs = d := ⟨_, rfl⟩
  have YES := fun (k nn : Nat) (hk : k ≤ ss.length) (hn : nn = ss.length + fs.length + rgSum ss k) (h : 500 < nn) => (show greatV ss fs = true from by
    unfold greatV
    have := rgSum_le hk
    rw [decide_eq_true (by omega)])
  have NO := fun (nn : Nat) (hn : nn = ss.length + fs.length + rgSum ss ss.length) (h : ¬ 500 < nn) => (show greatV ss fs = false from by
    unfold greatV
    rw [decide_eq_false (by omega)])
  have NX := fun (k nn : Nat) (s : Sto) (hk : ss[k]? = some s) (hn : nn = ss.length + fs.length + rgSum ss k) => (show nn + s.2.2.length = ss.length + fs.length + rgSum ss (k + 1) from by rw [rgSum_next hk]; omega)
  have Z0 : ss.length + fs.length = ss.length + fs.length + rgSum ss 0 := by simp [rgSum]
  rw [hd] at YES NO ⊢
  obtain ⟨n, hn⟩ : ∃ n, ss.length = n := ⟨_, rfl⟩
  obtain ⟨q, hq⟩ : ∃ q, fs.length = q := ⟨_, rfl⟩
  rw [hn] at hc nS YES NO NX Z0
  rw [hq] at hc2 nF YES NO NX Z0
  rw [hn, hq]
  obtain ⟨k0, k1, -, -⟩ := two_new w (.slice A n c) (.slice A2 q c2) 37
  obtain ⟨wb, hwb⟩ : ∃ wb, w.alloc (.cells #[.slice A n c, .slice A2 q c2] 37) = wb := ⟨_, rfl⟩
  have hbw := alloc_below w (.cells #[.slice A n c, .slice A2 q c2] 37)
  rw [hwb] at k0 k1 hbw
  have HY := Lib.hid YES; have HNO := Lib.hid NO; have HNX := Lib.hid NX; have HZ0 := Lib.hid Z0; have HX := Lib.hid hx; have HN := Lib.hid hn; have HBW := Lib.hid hbw; have HL := Lib.hid hl
  have K0 := Lib.hid k0; have HST := Lib.hid hs
  have zw : IntKind.i64.wrap ((n : Int) + (q : Int)) = ((n + q : Nat) : Int) := by rw [IntKind.wrap_i64]; omega
  clear YES NO NX Z0 hx hn hq hd hbw hl hs hf
  go_enter Tryz.func18, Tryz.ntmps18
  go_wp2
  (try rw [hwb])
  go_loopw [4, 3] (fun i s wr => ∃ k nn : Nat, i = .int .i64 (k : Nat) ∧ s = .int .i64 (nn : Nat) ∧ k ≤ n ∧ nn ≤ 500000000000000 ∧ Hid (nn = n + q + rgSum ss k) ∧ Below wb.heap.size wb wr) (fun i _ _ => n - (intOf i).toNat)
  case atStart => exact ⟨0, n + q, rfl, by first | rfl | (rw [zw]), Nat.zero_le _, by omega, HZ0.out, Below.refl _ _⟩
  case round =>
    obtain ⟨k, nn, rfl, rfl, hk, hnn, HE, hbw⟩ := hrel
    have k0 := cellb hbw K0.out
    by_cases hlt : k < n
    · have hlti : (k : Int) < (n : Int) := by omega
      by_cases h5 : nn ≤ 500
      · have h5i : (nn : Int) ≤ 500 := by omega
        have hkl : k < ss.length := by rw [HN.out]; exact hlt
        obtain ⟨bb, off, rfl, ha⟩ := HX.out (by intro e; rw [e] at hkl; exact absurd hkl (Nat.not_lt_zero _))
        have hp := List.getElem?_eq_getElem hkl
        obtain ⟨⟨nm, pt, rg⟩, hxx⟩ : ∃ x, ss[k] = x := ⟨_, rfl⟩
        rw [hxx] at hp
        obtain ⟨-, u, c0, c1, c3, hrg⟩ := (ha.below (bnext HBW.out hbw)) k (nm, pt, rg) hp
        have hrl := (HL.out.st (nm, pt, rg) (List.mem_of_getElem? hp)).rg
        have HN2 := Lib.hid (HNX.out k nn (nm, pt, rg) hp HE.out)
        simp only at c3 hrg hrl HN2
        obtain ⟨A4, c4, rfl, -, -⟩ := id hrg
        obtain ⟨m, hm⟩ : ∃ m, rg.length = m := ⟨_, rfl⟩
        rw [hm] at c3 hrl HN2
        have zx : IntKind.i64.wrap ((nn : Int) + (m : Int)) = ((nn + m : Nat) : Int) := by rw [IntKind.wrap_i64]; omega
        clear hp hxx ha hkl hrg hm c0 c1
        go_wp2
        go_roundw
        case rel => exact ⟨k + 1, nn + m, by go_num, by first | rfl | (rw [zx]) | go_num, by omega, by omega, HN2.out, hbw⟩
        case measure => simp [intOf]; omega
      · have h5i : ¬ (nn : Int) ≤ 500 := by omega
        have h6 : (500 : Int) < (nn : Int) := by omega
        have HE2 := Lib.hid (HY.out k nn hk HE.out (by omega))
        have HB := Lib.hid (bnext HBW.out hbw)
        go_wp2
        go_ret
        exact ⟨ret_b HE2.out.symm, HB.out⟩
    · obtain rfl : n = k := by omega
      have HB := Lib.hid (bnext HBW.out hbw)
      by_cases h6 : (500 : Int) < (nn : Int)
      · have HE2 := Lib.hid (HY.out n nn hk HE.out (by omega))
        go_wp2
        go_ret
        exact ⟨ret_b HE2.out.symm, HB.out⟩
      · have HE2 := Lib.hid (HNO.out nn HE.out (by omega))
        go_wp2
        go_ret
        exact ⟨ret_b HE2.out.symm, HB.out⟩
set_option maxRecDepth 100000 in
set_option maxHeartbeats 2000000 in
theorem sameSchema_c (v1 v2 : Value) (S1 S2 : Sch) (h1 : S1.1.length ≤ 100000) (h2 : S2.1.length ≤ 100000) (w : World) (f1 : SchOut w v1 S1) (f2 : SchOut w v2 S2) :
    Calls Tryz.prog 23 #[v1, v2] w fun e w' => e = .returned (.bool (decide (S1 = S2))) ∧ Below w.heap.size w w' := by
  obtain ⟨A1, c1, rfl, r1⟩ := f1
  obtain ⟨A2, c2, rfl, r2⟩ := f2
  obtain ⟨l1, m1, x1⟩ := S1
  obtain ⟨l2, m2, x2⟩ := S2
  simp only at h1 h2 r1 r2 ⊢
  have hd : decide (((l1, m1, x1) : Sch) = (l2, m2, x2)) = (decide (l1 = l2) && (m1 == m2) && (x1 == x2)) := by
    rw [Bool.eq_iff_iff]
    simp [and_assoc]
  rw [hd]
  have hb1 := alloc_below w (.cells #[.slice A1 l1.length c1, .int .i64 m1, .int .i64 x1] 41)
  obtain ⟨a0, a1, a2⟩ := three_new w (.slice A1 l1.length c1) (.int .i64 m1) (.int .i64 x1) 41
  obtain ⟨wb, hwb⟩ : ∃ wb, w.alloc (.cells #[.slice A1 l1.length c1, .int .i64 m1, .int .i64 x1] 41) = wb := ⟨_, rfl⟩
  rw [hwb] at hb1 a0 a1 a2
  have hb2 := alloc_below wb (.cells #[.slice A2 l2.length c2, .int .i64 m2, .int .i64 x2] 41)
  obtain ⟨b0, b1, b2⟩ := three_new wb (.slice A2 l2.length c2) (.int .i64 m2) (.int .i64 x2) 41
  obtain ⟨wc, hwc⟩ : ∃ wc, wb.alloc (.cells #[.slice A2 l2.length c2, .int .i64 m2, .int .i64 x2] 41) = wc := ⟨_, rfl⟩
  rw [hwc] at hb2 b0 b1 b2
  have a0 := cellb hb2 a0
  have a1 := cellb hb2 a1
  have a2 := cellb hb2 a2
  have HB := Lib.hid (bnext hb1 hb2)
  have SR := Lib.hid (RR.sameRungs_c (.slice A1 l1.length c1) (.slice A2 l2.length c2) l1 l2 h1 h2 wc (r1.below HB.out) (r2.below HB.out))
  generalize decide (l1 = l2) = d at *
  generalize l1.length = n1 at *
  generalize l2.length = n2 at *
  clear hd r1 r2 hb1 hb2
  cases d
  · go_enter Tryz.func23, Tryz.ntmps23
    go_wp2_with fail
    (try rw [hwb]); (try rw [hwc])
    refine SR.out.mono ?_; rintro _ w3 ⟨rfl, hb3⟩
    have a1 := cellb hb3 a1; have a2 := cellb hb3 a2; have b1 := cellb hb3 b1; have b2 := cellb hb3 b2
    go_wp2
    go_ret
    exact ⟨rfl, bnext HB.out hb3⟩
  · cases hm : (m1 == m2)
    · go_enter Tryz.func23, Tryz.ntmps23
      go_wp2_with fail
      (try rw [hwb]); (try rw [hwc])
      refine SR.out.mono ?_; rintro _ w3 ⟨rfl, hb3⟩
      have a1 := cellb hb3 a1; have a2 := cellb hb3 a2; have b1 := cellb hb3 b1; have b2 := cellb hb3 b2
      go_wp2
      go_ret
      exact ⟨rfl, bnext HB.out hb3⟩
    · cases hx : (x1 == x2)
      · go_enter Tryz.func23, Tryz.ntmps23
        go_wp2_with fail
        (try rw [hwb]); (try rw [hwc])
        refine SR.out.mono ?_; rintro _ w3 ⟨rfl, hb3⟩
        have a1 := cellb hb3 a1; have a2 := cellb hb3 a2; have b1 := cellb hb3 b1; have b2 := cellb hb3 b2
        go_wp2
        go_ret
        exact ⟨rfl, bnext HB.out hb3⟩
      · go_enter Tryz.func23, Tryz.ntmps23
        go_wp2_with fail
        (try rw [hwb]); (try rw [hwc])
        refine SR.out.mono ?_; rintro _ w3 ⟨rfl, hb3⟩
        have a1 := cellb hb3 a1; have a2 := cellb hb3 a2; have b1 := cellb hb3 b1; have b2 := cellb hb3 b2
        go_wp2
        go_ret
        exact ⟨rfl, bnext HB.out hb3⟩
end LW
end Go.Proofs.YtodlgbihdehmbaaGreatDoor
/-
  Contracts of the document's own functions of layer 9: Compile, ^ first.
-/
set_option linter.unusedSimpArgs false
set_option linter.unusedVariables false
namespace Go.Proofs.YtodlgbihdehmbaaGreatDoor.Nd.NR
open Go.RowKit
set_option maxRecDepth 100000 in
set_option maxHeartbeats 8000000 in
theorem comp_y (p : ByteArray) (hl : ¬ 64 < p.size) (h0 : 0 < p.size) (hcb : cutB 94 (bs p) = (bs p).drop 1) (hst : ((bs p).getD 0 0 == 94) = true) (e0 : (p[0]'h0).toNat = 94) (w : World) :
    Calls Tryz.prog 30 #[.string p] w fun e w' => ∃ v, e = .returned (.tuple #[v, .int .i64 (ndComp (bs p)).2]) ∧ NnOut w' v (ndComp (bs p)).1 ∧ (ndComp (bs p)).1.ok ∧ (ndComp (bs p)).1.items.length ≤ 64 ∧ Below w.heap.size w w' := by
  obtain ⟨N, E, hN⟩ : ∃ N E, ndComp (bs p) = (N, E) := ⟨_, _, rfl⟩
  have hl2 : ¬ 64 < (bs p).length := by rw [bs_length]; exact hl
  have HNO0 := Lib.hid (fun (hno : ndItems ((cutB 94 (bs p)).length + 1) (cutB 94 (bs p)) = none) (w' : World) (hb : Below w.heap.size w w') => show ∃ v, Ending.returned (.tuple #[.agg #[.bool false, .bool false, .slice none 0 0], .int .i64 10]) = .returned (.tuple #[v, .int .i64 E]) ∧ NnOut w' v N ∧ N.ok ∧ N.items.length ≤ 64 ∧ Below w.heap.size w w' from by
    have hc := ndComp_no hl2 hno
    rw [hN] at hc
    injection hc with hc1 hc2
    subst hc1 hc2
    exact ⟨_, rfl, ⟨_, rfl, ItOut.nil _⟩, (fun i h => by cases h), Nat.zero_le _, hb⟩)
  have HN := Lib.hid hN; have HL := Lib.hid hl2
  rw [hN]
  obtain ⟨i0, hi0, hz0, hzz1, hzz2⟩ := info_parts items_info
  clear hN hl2
  have H0 := Lib.hid (show CmpI w p (1) 0 (.slice none 0 0) [] ((w.alloc (.cells #[.bool false, .bool false, .slice none 0 0] 67)).alloc (.cells #[.bool true, .bool false, .slice none 0 0] 67)) from ⟨ItNew.nil _ _, rfl, by rw [hcb]; exact ItmI.start _, (fun i h => by cases h), dvar_first _ _ _ _, dvar_second _ _ _ _, alloc2_below _ _ _, by simp⟩)
  have HST := Lib.hid (show ((bs p).getD 0 0 == 94) = true from hst)
  have HCB := Lib.hid hcb
  clear hcb hst
  go_enter Tryz.func30, Tryz.ntmps30
  go_wp2
  go_loopw [5, 6, 7, 8, 9] (fun av _ _ _ _ wr => ∃ (q n : Nat) (vr : Value) (L : List NI), av = .int .i64 (q : Nat) ∧ q ≤ p.size ∧ n ≤ q ∧ 1 ≤ q ∧ wr.cell? ⟨w.heap.size + 1, 0, none⟩ = some (.bool true) ∧ wr.cell? ⟨w.heap.size + 1, 1, none⟩ = some (.bool false) ∧ wr.cell? ⟨w.heap.size + 1, 2, none⟩ = some vr ∧ Hid (CmpI w p q n vr L wr)) (fun av _ _ _ _ _ => p.size - (intOf av).toNat)
  case atStart => exact ⟨1, 0, _, [], by go_num, by omega, by omega, Nat.le_refl _, by go_simp, by go_simp, by go_simp, H0.out⟩
  case round =>
    obtain ⟨q, n, vr, L, rfl, hq, hn, hq0, c0, c1, c2, HI⟩ := hrel
    obtain ⟨wo, rfl⟩ : ∃ wo : World, wo = wr := ⟨_, rfl⟩
    obtain ⟨AL, cl, hvr, hcl, _⟩ := HI.out.new.out
    subst hvr
    rw [HI.out.len] at c2 hcl HI
    by_cases hqs : q < p.size
    · obtain ⟨a, hd, e0, ha⟩ := bs_at hqs
      have HD := Lib.hid hd
      have hi0 := HI.out.itm
      rw [hd] at hi0
      have HM := Lib.hid hi0
      have hqi : (q : Int) < (p.size : Int) := by omega
      clear hd hi0
      by_cases h36 : a = 36
      · subst h36
        by_cases hqe : q + 1 = p.size
        · have hc := ndComp_yes HL.out (ItmI.dollar (show ItmI (cutB 94 (bs p)) [36] L by have h := HM.out; rw [show (bs p).drop (q + 1) = [] from List.drop_eq_nil_of_le (by rw [bs_length]; omega)] at h; exact h))
          rw [HN.out, HST.out] at hc
          injection hc with hc1 hc2
          subst hc1 hc2
          have hqi2 : ((q : Int) == (p.size : Int) - 1) = true := beq_iff_eq.2 (by omega)
          have f1 := HI.out.d1.f 1 (by decide)
          have hb0 := alloc_below (wo.setCell ⟨w.heap.size + 1, 1, none⟩ (.bool true)) (.cells #[.int .u64 0, .int .u64 0, .int .u64 0, .int .u64 0, .bool false] 103)
          have HD2 := Lib.hid ((HI.out.d0.set (b' := w.heap.size + 1) (o := 1) (.bool true)).below hb0)
          have HB2 := Lib.hid (bnext (HI.out.low.setCell (p := ⟨w.heap.size + 1, 1, none⟩) (by simp) (.bool true)) hb0)
          have HI2 := Lib.hid ((HI.out.new.kept (grown_set1 _ (w.heap.size + 1) 1 (.bool true)) (by omega)).below hb0)
          have HLN := Lib.hid (show L.length ≤ 64 by rw [HI.out.len]; omega)
          have z1 : w.heap.size + 1 < wo.heap.size := HI.out.size
          have HQE := Lib.hid hqe
          clear hb0 hqe
          go_wp2_with (refine wpList_put rfl 67 _ _ rfl w.heap.size [.bool true, .bool true, .slice AL n cl] rfl rfl HD2.out (by kernel_rfl) (by simp [Value.oneCell']) ?_; intro y9 hq9; obtain ⟨s0, s1, s2⟩ := hq9.at_.three)
          exact bodyPost_ret (v := .tuple #[.agg #[.bool true, .bool true, .slice AL n cl], .int .i64 0]) (by simp [results, Tryz.results30, go_sem, s0, s1, s2]) rfl ⟨_, rfl, ⟨_, rfl, (HI2.out.kept hq9.grown (by omega)).out⟩, HI.out.ok, HLN.out, hq9.below (Nat.le_refl _) HB2.out⟩
        · have hqi2 : ¬ (q : Int) = (p.size : Int) - 1 := by omega
          have HNO := Lib.hid (HNO0.out (itm_none HM.out (fun e => by have h := congrArg List.length e.2; rw [List.length_drop, bs_length] at h; simp at h; omega) (ndAt_none (by omega))))
          have hb0 := alloc_below wo (.cells #[.int .u64 0, .int .u64 0, .int .u64 0, .int .u64 0, .bool false] 103)
          have HD2 := Lib.hid (HI.out.d0.below hb0); have HB2 := Lib.hid (bnext HI.out.low hb0)
          clear hb0
          go_wp2_with (refine wpList_put rfl 67 _ _ rfl w.heap.size [.bool false, .bool false, .slice none 0 0] rfl rfl HD2.out (by kernel_rfl) (by simp [Value.oneCell']) ?_; intro y9 hq9; obtain ⟨s0, s1, s2⟩ := hq9.at_.three)
          exact bodyPost_ret (v := .tuple #[.agg #[.bool false, .bool false, .slice none 0 0], .int .i64 10]) (by simp [results, Tryz.results30, go_sem, s0, s1, s2]) rfl (HNO.out _ (hq9.below (Nat.le_refl _) HB2.out))
      · have i36 : ¬ (a : Int) = 36 := by omega
        have i36b : ((a : Int) == 36) = false := beq_false_of_ne i36
        go_upto_block 2 with fail
        have hv0 := DVar.alloc (w := wo) #[.int .u64 0, .int .u64 0, .int .u64 0, .int .u64 0, .bool false] 103
        have hk0 : (wo.alloc (.cells #[.int .u64 0, .int .u64 0, .int .u64 0, .int .u64 0, .bool false] 103)).cell? ⟨wo.heap.size, 4, none⟩ = some (.bool false) := by simp
        have hb0 := alloc_below wo (.cells #[.int .u64 0, .int .u64 0, .int .u64 0, .int .u64 0, .bool false] 103)
        generalize wo.alloc (.cells #[.int .u64 0, .int .u64 0, .int .u64 0, .int .u64 0, .bool false] 103) = w1 at hv0 hk0 hb0 ⊢
        have HV := Lib.hid (show DVar w1 wo.heap.size 5 from hv0); have HB0 := Lib.hid hb0; have k4 := hk0
        have HB1 := Lib.hid (bnext HI.out.low hb0); have HD1 := Lib.hid (HI.out.d0.below hb0)
        clear hv0 hk0 hb0
        go_cut [5, 7, 8, 9] from 30 to 86 (fun av _ _ _ wx => ∃ (q2 a0 a1 a2 a3 : Nat), av = .int .i64 (q2 : Nat) ∧ q < q2 ∧ q2 ≤ p.size ∧ wx.cell? ⟨wo.heap.size, 0, none⟩ = some (.int .u64 (a0 : Nat)) ∧ wx.cell? ⟨wo.heap.size, 1, none⟩ = some (.int .u64 (a1 : Nat)) ∧ wx.cell? ⟨wo.heap.size, 2, none⟩ = some (.int .u64 (a2 : Nat)) ∧ wx.cell? ⟨wo.heap.size, 3, none⟩ = some (.int .u64 (a3 : Nat)) ∧ wx.cell? ⟨wo.heap.size, 4, none⟩ = some (.bool false) ∧ Hid (DVar wx wo.heap.size 5) ∧ Hid (Below wo.heap.size wo wx) ∧ Hid (ndAt ((bs p).drop q) = some (NI.set a0 a1 a2 a3, (bs p).drop q2)) ∧ Hid (a0 < 18446744073709551616 ∧ a1 < 18446744073709551616 ∧ a2 < 18446744073709551616 ∧ a3 < 18446744073709551616))
        case first =>
          by_cases h94 : a = 94
          · subst h94
            have HNO := Lib.hid (HNO0.out (itm_none HM.out (fun e => by omega) (ndAt_none (by omega))))
            go_wp2_with (refine wpList_put rfl 67 _ _ rfl w.heap.size [.bool false, .bool false, .slice none 0 0] rfl rfl HD1.out (by kernel_rfl) (by simp [Value.oneCell']) ?_; intro y9 hq9; obtain ⟨s0, s1, s2⟩ := hq9.at_.three)
            exact bodyPost_ret (v := .tuple #[.agg #[.bool false, .bool false, .slice none 0 0], .int .i64 10]) (by simp [results, Tryz.results30, go_sem, s0, s1, s2]) rfl (HNO.out _ (hq9.below (Nat.le_refl _) HB1.out))
          · have i94 : ¬ (a : Int) = 94 := by omega
            have i94b : ((a : Int) == 94) = false := beq_false_of_ne i94
            by_cases h42 : a = 42
            · subst h42
              have HNO := Lib.hid (HNO0.out (itm_none HM.out (fun e => by omega) (ndAt_none (by omega))))
              go_wp2_with (refine wpList_put rfl 67 _ _ rfl w.heap.size [.bool false, .bool false, .slice none 0 0] rfl rfl HD1.out (by kernel_rfl) (by simp [Value.oneCell']) ?_; intro y9 hq9; obtain ⟨s0, s1, s2⟩ := hq9.at_.three)
              exact bodyPost_ret (v := .tuple #[.agg #[.bool false, .bool false, .slice none 0 0], .int .i64 10]) (by simp [results, Tryz.results30, go_sem, s0, s1, s2]) rfl (HNO.out _ (hq9.below (Nat.le_refl _) HB1.out))
            · have i42 : ¬ (a : Int) = 42 := by omega
              have i42b : ((a : Int) == 42) = false := beq_false_of_ne i42
              by_cases h93 : a = 93
              · subst h93
                have HNO := Lib.hid (HNO0.out (itm_none HM.out (fun e => by omega) (ndAt_none (by omega))))
                go_wp2_with (refine wpList_put rfl 67 _ _ rfl w.heap.size [.bool false, .bool false, .slice none 0 0] rfl rfl HD1.out (by kernel_rfl) (by simp [Value.oneCell']) ?_; intro y9 hq9; obtain ⟨s0, s1, s2⟩ := hq9.at_.three)
                exact bodyPost_ret (v := .tuple #[.agg #[.bool false, .bool false, .slice none 0 0], .int .i64 10]) (by simp [results, Tryz.results30, go_sem, s0, s1, s2]) rfl (HNO.out _ (hq9.below (Nat.le_refl _) HB1.out))
              · have i93 : ¬ (a : Int) = 93 := by omega
                have i93b : ((a : Int) == 93) = false := beq_false_of_ne i93
                by_cases h46 : a = 46
                · subst h46
                  have HAT := Lib.hid (show ndAt ((bs p).drop q) = some (NI.set 18446744073709551615 18446744073709551615 18446744073709551615 18446744073709551615, (bs p).drop (q + 1)) by rw [HD.out]; rfl)
                  have HD4 := Lib.hid (show DVar w1 wo.heap.size 4 from HV.out.mono (by decide))
                  go_wp2_with (refine wpList_put rfl 101 _ _ rfl wo.heap.size [.int .u64 ((18446744073709551615 : Nat) : Int), .int .u64 ((18446744073709551615 : Nat) : Int), .int .u64 ((18446744073709551615 : Nat) : Int), .int .u64 ((18446744073709551615 : Nat) : Int)] rfl rfl HD4.out (by kernel_rfl) (by simp [Value.oneCell']) ?_; intro y1 hp; obtain ⟨t0, t1, t2, t3⟩ := hp.at_.four)
                  have t4 := (hp.off 4 (Nat.le_refl _)).trans k4
                  have HV2 := Lib.hid (hp.vars _ _ HV.out); have HB2 := Lib.hid (hp.below (Nat.le_refl _) HB0.out)
                  go_meet
                  exact ⟨q + 1, _, _, _, _, by go_num, by omega, by omega, t0, t1, t2, t3, t4, HV2.out, HB2.out, HAT.out, ⟨by decide, by decide, by decide, by decide⟩⟩
                · have i46 : ¬ (a : Int) = 46 := by omega
                  have i46b : ((a : Int) == 46) = false := beq_false_of_ne i46
                  by_cases h92 : a = 92
                  · subst h92
                    by_cases hq1 : q + 1 < p.size
                    · obtain ⟨b, hd1, x0, hb⟩ := bs_at hq1
                      have HAT := Lib.hid (show ndAt ((bs p).drop q) = some (NI.set (ndOne b).s0 (ndOne b).s1 (ndOne b).s2 (ndOne b).s3, (bs p).drop (q + 2)) by rw [HD.out, hd1, set_one]; rfl)
                      have HLT := Lib.hid (one_lt hb)
                      have OC := Lib.hid (fun W => one_c b hb W)
                      have hne : ¬ (q : Int) = (p.size : Int) - 1 := by omega
                      clear hd1
                      go_wp2_with fail
                      refine (OC.out _).mono ?_; rintro _ w2 ⟨rfl, hb2⟩
                      have HV1 := Lib.hid (HV.out.below hb2); have HB5 := Lib.hid (bnext HB0.out hb2)
                      clear hb2
                      go_wp2_with (refine wpList_put rfl 103 _ _ rfl wo.heap.size [.int .u64 ((ndOne b).s0 : Nat), .int .u64 ((ndOne b).s1 : Nat), .int .u64 ((ndOne b).s2 : Nat), .int .u64 ((ndOne b).s3 : Nat), .bool false] rfl rfl HV1.out (by kernel_rfl) (by simp [Value.oneCell']) ?_; intro y1 hp; obtain ⟨t0, t1, t2, t3, t4⟩ := hp.at_.cells5)
                      have HV2 := Lib.hid (hp.vars _ _ HV1.out); have HB2 := Lib.hid (hp.below (Nat.le_refl _) HB5.out)
                      go_meet
                      exact ⟨q + 2, _, _, _, _, by go_num, by omega, by omega, t0, t1, t2, t3, t4, HV2.out, HB2.out, HAT.out, HLT.out⟩
                    · have hqe : (q : Int) = (p.size : Int) - 1 := by omega
                      have HNO := Lib.hid (HNO0.out (itm_none HM.out (fun e => by omega) (by rw [show (bs p).drop (q + 1) = [] from List.drop_eq_nil_of_le (by rw [bs_length]; omega)]; rfl)))
                      go_wp2_with (refine wpList_put rfl 67 _ _ rfl w.heap.size [.bool false, .bool false, .slice none 0 0] rfl rfl HD1.out (by kernel_rfl) (by simp [Value.oneCell']) ?_; intro y9 hq9; obtain ⟨s0, s1, s2⟩ := hq9.at_.three)
                      exact bodyPost_ret (v := .tuple #[.agg #[.bool false, .bool false, .slice none 0 0], .int .i64 10]) (by simp [results, Tryz.results30, go_sem, s0, s1, s2]) rfl (HNO.out _ (hq9.below (Nat.le_refl _) HB1.out))
                  · have i92 : ¬ (a : Int) = 92 := by omega
                    have i92b : ((a : Int) == 92) = false := beq_false_of_ne i92
                    by_cases h91 : a = 91
                    · subst h91
                      have CC := Lib.hid (fun W => class_c p (q + 1) (by omega) (by omega) W)
                      go_wp2_with fail
                      refine (CC.out _).mono ?_; rintro _ w2 ⟨a0, a1, a2, a3, k2, ok, rfl, hci, hk2, hlt, hb2⟩
                      have HV1 := Lib.hid (HV.out.below hb2); have HB5 := Lib.hid (bnext HB0.out hb2)
                      cases ok with
                      | false =>
                        have HNO := Lib.hid (HNO0.out (itm_none HM.out (fun e => by omega) (cls_no hci)))
                        clear hci hk2 hlt
                        go_upto_if 83 with (refine wpList_put rfl 103 _ _ rfl w2.heap.size [.int .u64 (a0 : Nat), .int .u64 (a1 : Nat), .int .u64 (a2 : Nat), .int .u64 (a3 : Nat), .bool false] rfl rfl (DVar.alloc _ _) (by kernel_rfl) (by simp [Value.oneCell']) ?_; intro y1 hp; obtain ⟨t0, t1, t2, t3, t4⟩ := hp.at_.cells5)
                        have hb3 : Below w2.heap.size w2 y1 := hp.below (Nat.le_refl _) (alloc_below _ _)
                        have HB6 := Lib.hid (bnext (bnext HB1.out hb2) hb3); have HD6 := Lib.hid ((HD1.out.below hb2).below hb3)
                        clear hp hb2 hb3 t0 t1 t2 t3 t4
                        go_wp2_with (refine wpList_put rfl 67 _ _ rfl w.heap.size [.bool false, .bool false, .slice none 0 0] rfl rfl HD6.out (by kernel_rfl) (by simp [Value.oneCell']) ?_; intro y9 hq9; obtain ⟨s0, s1, s2⟩ := hq9.at_.three)
                        exact bodyPost_ret (v := .tuple #[.agg #[.bool false, .bool false, .slice none 0 0], .int .i64 10]) (by simp [results, Tryz.results30, go_sem, s0, s1, s2]) rfl (HNO.out _ (hq9.below (Nat.le_refl _) HB6.out))
                      | true =>
                        have HLT := Lib.hid hlt
                        have hk3 := hk2 rfl
                        have HAT := Lib.hid (show ndAt ((bs p).drop q) = some (NI.set a0 a1 a2 a3, (bs p).drop k2) by rw [HD.out]; exact cls_at hci)
                        have hkq : q + 1 < k2 := by
                          have h1 := ndClass_rest (l := (bs p).drop (q + 1)) (x := (NI.set a0 a1 a2 a3, (bs p).drop k2)) (by rw [← ndAt_cls]; exact cls_at hci)
                          rw [List.length_drop, List.length_drop, bs_length] at h1
                          omega
                        clear hci hk2 hlt
                        go_upto_if 83 with (refine wpList_put rfl 103 _ _ rfl w2.heap.size [.int .u64 (a0 : Nat), .int .u64 (a1 : Nat), .int .u64 (a2 : Nat), .int .u64 (a3 : Nat), .bool false] rfl rfl (DVar.alloc _ _) (by kernel_rfl) (by simp [Value.oneCell']) ?_; intro y1 hp; obtain ⟨t0, t1, t2, t3, t4⟩ := hp.at_.cells5)
                        have hb3 : Below w2.heap.size w2 y1 := hp.below (Nat.le_refl _) (alloc_below _ _)
                        have HV6 := Lib.hid ((HV.out.below hb2).below hb3); have HB6 := Lib.hid (bnext (bnext HB0.out hb2) hb3)
                        clear hp hb2 hb3
                        go_wp2_with (refine wpList_put rfl 103 _ _ rfl wo.heap.size [.int .u64 (a0 : Nat), .int .u64 (a1 : Nat), .int .u64 (a2 : Nat), .int .u64 (a3 : Nat), .bool false] rfl rfl HV6.out (by kernel_rfl) (by simp [Value.oneCell']) ?_; intro y2 hp; obtain ⟨s0, s1, s2, s3, s4⟩ := hp.at_.cells5)
                        have HV2 := Lib.hid (hp.vars _ _ HV6.out); have HB2 := Lib.hid (hp.below (Nat.le_refl _) HB6.out)
                        go_meet
                        exact ⟨k2, _, _, _, _, by go_num, by omega, hk3, s0, s1, s2, s3, s4, HV2.out, HB2.out, HAT.out, HLT.out⟩
                    · have i91 : ¬ (a : Int) = 91 := by omega
                      have i91b : ((a : Int) == 91) = false := beq_false_of_ne i91
                      have HAT := Lib.hid (show ndAt ((bs p).drop q) = some (NI.set (ndOne a).s0 (ndOne a).s1 (ndOne a).s2 (ndOne a).s3, (bs p).drop (q + 1)) by rw [HD.out, set_one]; exact ndAt_one h46 h91 h92 h94 h36 h42 h93)
                      have HLT := Lib.hid (one_lt ha)
                      have OC := Lib.hid (fun W => one_c a ha W)
                      go_wp2_with fail
                      refine (OC.out _).mono ?_; rintro _ w2 ⟨rfl, hb2⟩
                      have HV1 := Lib.hid (HV.out.below hb2); have HB5 := Lib.hid (bnext HB0.out hb2)
                      clear hb2
                      go_wp2_with (refine wpList_put rfl 103 _ _ rfl wo.heap.size [.int .u64 ((ndOne a).s0 : Nat), .int .u64 ((ndOne a).s1 : Nat), .int .u64 ((ndOne a).s2 : Nat), .int .u64 ((ndOne a).s3 : Nat), .bool false] rfl rfl HV1.out (by kernel_rfl) (by simp [Value.oneCell']) ?_; intro y1 hp; obtain ⟨t0, t1, t2, t3, t4⟩ := hp.at_.cells5)
                      have HV2 := Lib.hid (hp.vars _ _ HV1.out); have HB2 := Lib.hid (hp.below (Nat.le_refl _) HB5.out)
                      go_meet
                      exact ⟨q + 1, _, _, _, _, by go_num, by omega, by omega, t0, t1, t2, t3, t4, HV2.out, HB2.out, HAT.out, HLT.out⟩
        case rest =>
          obtain ⟨q2, a0, a1, a2, a3, rfl, hq2, hq2s, k0, k1, k2, k3, k5, HV2, HB2, HAT, HLT⟩ := hcut
          have z1 : w.heap.size + 1 < wo.heap.size := HI.out.size
          have d0 := cell_low HB2.out z1 c0; have d1 := cell_low HB2.out z1 c1; have d2 := cell_low HB2.out z1 c2
          have HD2 := Lib.hid (dvar_low HB2.out z1 HI.out.d1)
          clear c0 c1 c2 k4 HB1 HD1 HV HB0
          by_cases hq2e : q2 < p.size
          · obtain ⟨b, hd2, x0, hbb⟩ := bs_at hq2e
            by_cases hb42 : b = 42
            · subst hb42
              have HIT := Lib.hid (item_star HAT.out (st := true) (r2 := (bs p).drop (q2 + 1)) (by rw [hd2]; rfl) (by rw [hd2]; rfl))
              rw [HD.out] at HIT
              have f4 := HV2.out.f 4 (by decide)
              clear hd2
              go_upto_region 38 with (fail)
              have g0 : (wc.setCell ⟨wo.heap.size, 4, none⟩ (.bool true)).cell? ⟨wo.heap.size, 0, none⟩ = some (.int .u64 (a0 : Nat)) := by go_simp
              have g1 : (wc.setCell ⟨wo.heap.size, 4, none⟩ (.bool true)).cell? ⟨wo.heap.size, 1, none⟩ = some (.int .u64 (a1 : Nat)) := by go_simp
              have g2 : (wc.setCell ⟨wo.heap.size, 4, none⟩ (.bool true)).cell? ⟨wo.heap.size, 2, none⟩ = some (.int .u64 (a2 : Nat)) := by go_simp
              have g3 : (wc.setCell ⟨wo.heap.size, 4, none⟩ (.bool true)).cell? ⟨wo.heap.size, 3, none⟩ = some (.int .u64 (a3 : Nat)) := by go_simp
              have g4 : (wc.setCell ⟨wo.heap.size, 4, none⟩ (.bool true)).cell? ⟨wo.heap.size, 4, none⟩ = some (.bool true) := by go_simp
              have hlo : Below wo.heap.size wc (wc.setCell ⟨wo.heap.size, 4, none⟩ (.bool true)) := (Below.refl _ wc).setCell (p := ⟨_, _, _⟩) (Nat.le_refl _) _
              have e0' := cell_low hlo z1 d0; have e1' := cell_low hlo z1 d1; have e2' := cell_low hlo z1 d2
              have HBy := Lib.hid (HB2.out.trans hlo); have HDy := Lib.hid (dvar_low hlo z1 HD2.out)
              clear k0 k1 k2 k3 k5 d0 d1 d2 f4 hlo HB2 HD2
              generalize wc.setCell ⟨wo.heap.size, 4, none⟩ (.bool true) = wy at g0 g1 g2 g3 g4 e0' e1' e2' HBy HDy ⊢
              have how := ownsRow_next HI.out.new HBy.out
              rw [HI.out.len] at how
              have HOW := Lib.hid how
              have hszy := Nat.le_trans HI.out.size HBy.out.size
              have f2 := HDy.out.f 2 (by decide)
              clear how
              go_wp2_with (at_builtin; refine wpList_append_any _ rfl (.tmp 101) (.tmp 103) _ rfl (w.heap.size + 2) 103 i0 (.agg #[.int .u64 0, .int .u64 0, .int .u64 0, .int .u64 0, .bool false]) 5 40 Tryz.underlying65 hi0 hz0 hzz1 hzz2 rfl (by decide) (.slice AL n cl) n (itsC L) rfl (World.ownsRow.alloc HOW.out _) _ (some ⟨wy.heap.size, 0, none⟩) 1 1 (itC ⟨a0, a1, a2, a3, true⟩) rfl (Reads.of_own (World.ownsRow_lit (base := 0) (e := 103) (size := 5) wy #[.int .u64 (a0 : Nat), .int .u64 (a1 : Nat), .int .u64 (a2 : Nat), .int .u64 (a3 : Nat), .bool true] 1 (Nat.zero_le _) (by decide) rfl)) (it_one _) (by simp only [maxLen]; omega) (by omega) (by simp; omega) ?_; intro v3 w3 hown3 hg3 hat3; obtain ⟨A3, c3, rfl⟩ := own_slice hown3; have hlow : Below (w.heap.size + 2) wy w3 := Below.grown ((Below.refl _ wy).alloc hszy _) hg3 (by simp; omega) (fun k e => (World.ownsRow.lt HOW.out k e).1); have m0 := cell_low hlow (Nat.lt_succ_self (w.heap.size + 1)) e0'; have m1 := cell_low hlow (Nat.lt_succ_self (w.heap.size + 1)) e1'; have m2 := cell_low hlow (Nat.lt_succ_self (w.heap.size + 1)) e2'; have fm2 := (hlow.frozen (p := ⟨w.heap.size + 1, 2, none⟩) (Nat.lt_succ_self (w.heap.size + 1))).trans f2)
              have HCX := Lib.hid (fun (u : Value) => CmpI.next (b := 2) (u := u) HI.out HD.out HIT.out HLT.out hown3 ((HBy.out.mono HI.out.size).trans hlow))
              clear hown3 hg3 hlow; try clear hat3
              go_roundw
              case rel => exact ⟨q2 + 1, n + 1, _, L ++ [⟨a0, a1, a2, a3, true⟩], by go_num, by omega, by omega, by omega, by go_simp, by go_simp, by go_simp, Lib.hid (HCX.out _)⟩
              case measure => simp [intOf]; omega
            · have i42 : ¬ (b : Int) = 42 := by omega
              have i42b : ((b : Int) == 42) = false := beq_false_of_ne i42
              have HIT := Lib.hid (item_star HAT.out (st := false) (r2 := (bs p).drop q2) (by rw [hd2]; exact beq_false_of_ne hb42) (by rw [hd2]; exact if_neg (fun e => hb42 (eq_of_beq e))))
              rw [HD.out] at HIT
              clear hd2
              have g0 := k0; have g1 := k1; have g2 := k2; have g3 := k3; have g4 := k5; have e0' := d0; have e1' := d1; have e2' := d2
              have HBy := HB2; have HDy := HD2
              clear k0 k1 k2 k3 k5 d0 d1 d2 HB2 HD2
              obtain ⟨wy, rfl⟩ : ∃ wy : World, wy = wc := ⟨_, rfl⟩
              have how := ownsRow_next HI.out.new HBy.out
              rw [HI.out.len] at how
              have HOW := Lib.hid how
              have hszy := Nat.le_trans HI.out.size HBy.out.size
              have f2 := HDy.out.f 2 (by decide)
              clear how
              go_wp2_with (at_builtin; refine wpList_append_any _ rfl (.tmp 101) (.tmp 103) _ rfl (w.heap.size + 2) 103 i0 (.agg #[.int .u64 0, .int .u64 0, .int .u64 0, .int .u64 0, .bool false]) 5 40 Tryz.underlying65 hi0 hz0 hzz1 hzz2 rfl (by decide) (.slice AL n cl) n (itsC L) rfl (World.ownsRow.alloc HOW.out _) _ (some ⟨wy.heap.size, 0, none⟩) 1 1 (itC ⟨a0, a1, a2, a3, false⟩) rfl (Reads.of_own (World.ownsRow_lit (base := 0) (e := 103) (size := 5) wy #[.int .u64 (a0 : Nat), .int .u64 (a1 : Nat), .int .u64 (a2 : Nat), .int .u64 (a3 : Nat), .bool false] 1 (Nat.zero_le _) (by decide) rfl)) (it_one _) (by simp only [maxLen]; omega) (by omega) (by simp; omega) ?_; intro v3 w3 hown3 hg3 hat3; obtain ⟨A3, c3, rfl⟩ := own_slice hown3; have hlow : Below (w.heap.size + 2) wy w3 := Below.grown ((Below.refl _ wy).alloc hszy _) hg3 (by simp; omega) (fun k e => (World.ownsRow.lt HOW.out k e).1); have m0 := cell_low hlow (Nat.lt_succ_self (w.heap.size + 1)) e0'; have m1 := cell_low hlow (Nat.lt_succ_self (w.heap.size + 1)) e1'; have m2 := cell_low hlow (Nat.lt_succ_self (w.heap.size + 1)) e2'; have fm2 := (hlow.frozen (p := ⟨w.heap.size + 1, 2, none⟩) (Nat.lt_succ_self (w.heap.size + 1))).trans f2)
              have HCX := Lib.hid (fun (u : Value) => CmpI.next (b := 2) (u := u) HI.out HD.out HIT.out HLT.out hown3 ((HBy.out.mono HI.out.size).trans hlow))
              clear hown3 hg3 hlow; try clear hat3
              go_roundw
              case rel => exact ⟨q2, n + 1, _, L ++ [⟨a0, a1, a2, a3, false⟩], by go_num, by omega, by omega, by omega, by go_simp, by go_simp, by go_simp, Lib.hid (HCX.out _)⟩
              case measure => simp [intOf]; omega
          · obtain rfl : q2 = p.size := by omega
            have HIT := Lib.hid (item_star HAT.out (st := false) (r2 := (bs p).drop p.size) (by rw [drop_end]; rfl) (by rw [drop_end]; rfl))
            rw [HD.out] at HIT
            have g0 := k0; have g1 := k1; have g2 := k2; have g3 := k3; have g4 := k5; have e0' := d0; have e1' := d1; have e2' := d2
            have HBy := HB2; have HDy := HD2
            clear k0 k1 k2 k3 k5 d0 d1 d2 HB2 HD2
            obtain ⟨wy, rfl⟩ : ∃ wy : World, wy = wc := ⟨_, rfl⟩
            have how := ownsRow_next HI.out.new HBy.out
            rw [HI.out.len] at how
            have HOW := Lib.hid how
            have hszy := Nat.le_trans HI.out.size HBy.out.size
            have f2 := HDy.out.f 2 (by decide)
            clear how
            go_wp2_with (at_builtin; refine wpList_append_any _ rfl (.tmp 101) (.tmp 103) _ rfl (w.heap.size + 2) 103 i0 (.agg #[.int .u64 0, .int .u64 0, .int .u64 0, .int .u64 0, .bool false]) 5 40 Tryz.underlying65 hi0 hz0 hzz1 hzz2 rfl (by decide) (.slice AL n cl) n (itsC L) rfl (World.ownsRow.alloc HOW.out _) _ (some ⟨wy.heap.size, 0, none⟩) 1 1 (itC ⟨a0, a1, a2, a3, false⟩) rfl (Reads.of_own (World.ownsRow_lit (base := 0) (e := 103) (size := 5) wy #[.int .u64 (a0 : Nat), .int .u64 (a1 : Nat), .int .u64 (a2 : Nat), .int .u64 (a3 : Nat), .bool false] 1 (Nat.zero_le _) (by decide) rfl)) (it_one _) (by simp only [maxLen]; omega) (by omega) (by simp; omega) ?_; intro v3 w3 hown3 hg3 hat3; obtain ⟨A3, c3, rfl⟩ := own_slice hown3; have hlow : Below (w.heap.size + 2) wy w3 := Below.grown ((Below.refl _ wy).alloc hszy _) hg3 (by simp; omega) (fun k e => (World.ownsRow.lt HOW.out k e).1); have m0 := cell_low hlow (Nat.lt_succ_self (w.heap.size + 1)) e0'; have m1 := cell_low hlow (Nat.lt_succ_self (w.heap.size + 1)) e1'; have m2 := cell_low hlow (Nat.lt_succ_self (w.heap.size + 1)) e2'; have fm2 := (hlow.frozen (p := ⟨w.heap.size + 1, 2, none⟩) (Nat.lt_succ_self (w.heap.size + 1))).trans f2)
            have HCX := Lib.hid (fun (u : Value) => CmpI.next (b := 2) (u := u) HI.out HD.out HIT.out HLT.out hown3 ((HBy.out.mono HI.out.size).trans hlow))
            clear hown3 hg3 hlow; try clear hat3
            go_roundw
            case rel => exact ⟨p.size, n + 1, _, L ++ [⟨a0, a1, a2, a3, false⟩], by go_num, by omega, by omega, by omega, by go_simp, by go_simp, by go_simp, Lib.hid (HCX.out _)⟩
            case measure => simp [intOf]; omega
    · obtain rfl : q = p.size := by omega
      have hc := ndComp_yes HL.out (ItmI.end_ (show ItmI (cutB 94 (bs p)) [] L by have h := HI.out.itm; rw [drop_end] at h; exact h))
      rw [HN.out, HST.out] at hc
      injection hc with hc1 hc2
      subst hc1 hc2
      have HLN := Lib.hid (show L.length ≤ 64 by rw [HI.out.len]; omega)
      go_wp2_with (refine wpList_put rfl 67 _ _ rfl w.heap.size [.bool true, .bool false, .slice AL n cl] rfl rfl HI.out.d0 (by kernel_rfl) (by simp [Value.oneCell']) ?_; intro y9 hq9; obtain ⟨s0, s1, s2⟩ := hq9.at_.three)
      exact bodyPost_ret (v := .tuple #[.agg #[.bool true, .bool false, .slice AL n cl], .int .i64 0]) (by simp [results, Tryz.results30, go_sem, s0, s1, s2]) rfl ⟨_, rfl, ⟨_, rfl, (HI.out.new.kept hq9.grown (by omega)).out⟩, HI.out.ok, HLN.out, hq9.below (Nat.le_refl _) HI.out.low⟩
end Go.Proofs.YtodlgbihdehmbaaGreatDoor.Nd.NR
/-
  Contracts of the document's own functions of layer 9: Compile, all.
-/
set_option linter.unusedSimpArgs false
set_option linter.unusedVariables false
namespace Go.Proofs.YtodlgbihdehmbaaGreatDoor.Nd.NR
open Go.RowKit
theorem compile_c (p : ByteArray) (hp : p.size ≤ 9223372036854775807) (w : World) :
    Calls Tryz.prog 30 #[.string p] w fun e w' => ∃ v, e = .returned (.tuple #[v, .int .i64 (ndComp (bs p)).2]) ∧ NnOut w' v (ndComp (bs p)).1 ∧ (ndComp (bs p)).1.ok ∧ (ndComp (bs p)).1.items.length ≤ 64 ∧ Below w.heap.size w w' := by
  by_cases hl : 64 < p.size
  · obtain ⟨N, E, hN⟩ : ∃ N E, ndComp (bs p) = (N, E) := ⟨_, _, rfl⟩
    rw [hN]
    rw [ndComp_long (by rw [bs_length]; exact hl)] at hN
    injection hN with h1 h2
    subst h1 h2
    go_enter Tryz.func30, Tryz.ntmps30
    go_wp2_with (refine wpList_put rfl 67 _ _ rfl w.heap.size [.bool false, .bool false, .slice none 0 0] rfl rfl (dvar_first _ _ _ _) (by kernel_rfl) (by simp [Value.oneCell']) ?_; intro y9 hq9; obtain ⟨s0, s1, s2⟩ := hq9.at_.three)
    exact bodyPost_ret (v := .tuple #[.agg #[.bool false, .bool false, .slice none 0 0], .int .i64 12]) (by simp [results, Tryz.results30, go_sem, s0, s1, s2]) rfl ⟨_, rfl, ⟨_, rfl, ItOut.nil _⟩, (fun i h => by cases h), Nat.zero_le _, hq9.below (Nat.le_refl _) (alloc2_below _ _ _)⟩
  · by_cases h0 : 0 < p.size
    · obtain ⟨c, hd, e0, hc⟩ := bs_at h0
      rw [List.drop_zero] at hd
      by_cases h94 : c = 94
      · subst h94
        exact comp_y p hl h0 (by rw [hd]; rfl) (by rw [hd]; rfl) e0 w
      · exact comp_n p hl h0 c h94 (by rw [hd]; exact if_neg (fun e => h94 (eq_of_beq e))) (by rw [hd]; exact beq_false_of_ne h94) e0 w
    · have hz : p.size = 0 := by omega
      have hb : bs p = [] := List.eq_nil_of_length_eq_zero (by rw [bs_length]; exact hz)
      exact comp_e p hl hz (by rw [hb]; rfl) (by rw [hb]; rfl) w
end Go.Proofs.YtodlgbihdehmbaaGreatDoor.Nd.NR
/-
  Contracts of the document's own functions of layer 9: Match.
-/
set_option linter.unusedSimpArgs false
set_option linter.unusedVariables false
namespace Go.Proofs.YtodlgbihdehmbaaGreatDoor.Nd.NR
open Go.RowKit
theorem comp_err (p : List Nat) : (ndComp p).2 = 0 ∨ (ndComp p).2 = 10 ∨ (ndComp p).2 = 12 := by
  unfold ndComp
  split
  · exact .inr (.inr rfl)
  · split
    · exact .inr (.inl rfl)
    · exact .inl rfl
set_option maxRecDepth 100000 in
set_option maxHeartbeats 4000000 in
theorem match_c (p s : ByteArray) (hp : p.size ≤ 9223372036854775807) (hs : s.size ≤ 100000) (w : World) :
    Calls Tryz.prog 43 #[.string p, .string s] w fun e w' => e = .returned (.tuple #[.bool (ndMatch (bs p) (bs s)).1, .int .i64 (ndMatch (bs p) (bs s)).2]) ∧ Below w.heap.size w w' := by
  have CC := Lib.hid (fun W => compile_c p hp W)
  obtain ⟨⟨nst, nfin, is⟩, E, hN⟩ : ∃ N E, ndComp (bs p) = (N, E) := ⟨_, _, rfl⟩
  have hE := comp_err (bs p)
  have hm : ndMatch (bs p) (bs s) = if E = 0 then (ndFound ⟨nst, nfin, is⟩ (bs s), 0) else (false, E) := by unfold ndMatch; rw [hN]
  rw [hN] at CC hE
  rw [hm]
  have hE2 : E = 0 ∨ E = 10 ∨ E = 12 := hE
  clear hE hm hN
  go_enter Tryz.func43, Tryz.ntmps43
  go_wp2_with fail
  refine (CC.out _).mono ?_; rintro _ w1 ⟨v, rfl, ⟨u, rfl, hu⟩, hok, hlen, hb1⟩
  have hu2 : ItOut w1 u is := hu
  have hok2 : ∀ i ∈ is, i.ok := hok
  have hlen2 : is.length ≤ 64 := hlen
  obtain ⟨A, cap, hv, hcap, hx⟩ := id hu2
  subst hv
  have HU := Lib.hid hu2; have HOK := Lib.hid hok2; have HB1 := Lib.hid hb1; have HLN := Lib.hid hlen2
  clear hu hu2 hok hok2 hlen hlen2 hb1 hx
  obtain ⟨n, hn⟩ : ∃ n, is.length = n := ⟨_, rfl⟩
  have FC := Lib.hid (fun (W : World) (h : Below w1.heap.size w1 W) => found_c nst nfin (.slice A is.length cap) is s hs (Nat.le_trans HLN.out (by decide)) HOK.out W (HU.out.below h))
  rw [hn] at hcap FC HU ⊢
  clear hn
  go_upto_region 2 with (refine wpList_put rfl 67 _ _ rfl w1.heap.size [.bool nst, .bool nfin, .slice A n cap] rfl rfl (DVar.alloc _ _) (by kernel_rfl) (by simp [Value.oneCell']) ?_; intro y1 hq; obtain ⟨t0, t1, t2⟩ := hq.at_.three)
  have hb2 : Below w1.heap.size w1 y1 := hq.below (Nat.le_refl _) (alloc_below _ _)
  have HB2 := Lib.hid hb2; have HB3 := Lib.hid (bnext HB1.out hb2)
  clear hq hb2
  rcases hE2 with rfl | rfl | rfl
  · go_wp2_with fail
    refine (FC.out _ HB2.out).mono ?_; rintro _ w2 ⟨rfl, hb⟩
    have HB4 := Lib.hid (bnext HB3.out hb)
    clear hb
    go_wp2
    go_ret2
    exact ⟨rfl, HB4.out⟩
  · go_wp2
    go_ret2
    exact ⟨rfl, HB3.out⟩
  · go_wp2
    go_ret2
    exact ⟨rfl, HB3.out⟩
end Go.Proofs.YtodlgbihdehmbaaGreatDoor.Nd.NR
/-
  Contracts of the reference's functions of layer 12: names and numbers of methods, patterns, the same schemas.
-/
set_option linter.unusedSimpArgs false
set_option linter.unusedVariables false
namespace Go.Proofs.YtodlgbihdehmbaaGreatDoor.LR
open Go.RowKit Cf Cf.KR Cf.KP LP
set_option maxRecDepth 100000 in
theorem compiles_c (p : ByteArray) (hp : p.size ≤ 9223372036854775807) (w : World) : Calls Tryz.prog 47 #[.string p] w fun e w' => e = .returned (.bool (decide ((Nd.ndComp (bs p)).2 = 0))) ∧ Below w.heap.size w w' := by
  have CC := Lib.hid (Nd.NR.compile_c p hp w)
  obtain ⟨E, hE⟩ : ∃ E, (Nd.ndComp (bs p)).2 = E := ⟨_, rfl⟩
  rw [hE] at CC ⊢
  clear hE
  by_cases h0 : E = 0
  · subst h0
    go_enter Tryz.func47, Tryz.ntmps47
    go_wp2_with fail
    refine CC.out.mono ?_; rintro _ w1 ⟨v, rfl, hv, -, -, hb1⟩
    obtain ⟨s, f, A, n, c, rfl⟩ := needle_form hv
    clear hv
    go_wp2
    go_ret
    exact ⟨rfl, bnext hb1 (alloc_below _ _)⟩
  · have h1 : (E == 0) = false := beq_false_of_ne h0
    have h2 := decide_eq_false h0
    rw [h2]
    go_enter Tryz.func47, Tryz.ntmps47
    go_wp2_with fail
    refine CC.out.mono ?_; rintro _ w1 ⟨v, rfl, hv, -, -, hb1⟩
    obtain ⟨s, f, A, n, c, rfl⟩ := needle_form hv
    clear hv
    go_wp2
    go_ret
    exact ⟨rfl, bnext hb1 (alloc_below _ _)⟩
end Go.Proofs.YtodlgbihdehmbaaGreatDoor.LR
/-
  Contracts of the reference's functions of layer 12: may rules be?
-/
set_option linter.unusedSimpArgs false
set_option linter.unusedVariables false
namespace Go.Proofs.YtodlgbihdehmbaaGreatDoor
namespace LR
open Go.RowKit Cf Cf.KR Cf.KP LP
set_option maxRecDepth 100000 in
set_option maxHeartbeats 4000000 in
theorem right_c (vs vf : Value) (ss : List Sto) (fs : List Fol) (fit : RuFit ss fs) (w : World) (hs : StOut w vs ss) (hf : FoOut w vf fs) :
    Calls Tryz.prog 22 #[.agg #[vs, vf]] w fun e w' => e = .returned (.bool (rightR ss fs)) ∧ Below w.heap.size w w' := by
  obtain ⟨A, c, rfl, hc, hx⟩ := id hs
  obtain ⟨A2, c2, rfl, hc2, hx2⟩ := id hf
  have nS := fit.ns
  have nF := fit.nf
  obtain ⟨n, hn⟩ : ∃ n, ss.length = n := ⟨_, rfl⟩
  obtain ⟨q, hq⟩ : ∃ q, fs.length = q := ⟨_, rfl⟩
  rw [hn] at hc nS
  rw [hq] at hc2 nF
  rw [hn, hq]
  obtain ⟨d, hd⟩ : ∃ d, rightR ss fs = d := ⟨_, rfl⟩
  have LONG := @rightR_long ss fs
  have BADS := fun (k : Nat) (s : Sto) => @rightR_sto ss fs k s
  have BADF := fun (k : Nat) (s : Fol) => @rightR_fol ss fs k s
  have GOOD := fun (h1 : n ≤ 16) (h2 : q ≤ 16) => rightR_all (ss := ss) (fs := fs) hn hq h1 h2
  rw [hn, hq] at LONG
  rw [hd] at LONG BADS BADF GOOD ⊢
  obtain ⟨k0, k1, -, -⟩ := two_new w (.slice A n c) (.slice A2 q c2) 37
  obtain ⟨wb, hwb⟩ : ∃ wb, w.alloc (.cells #[.slice A n c, .slice A2 q c2] 37) = wb := ⟨_, rfl⟩
  have hbw := alloc_below w (.cells #[.slice A n c, .slice A2 q c2] 37)
  rw [hwb] at k0 k1 hbw
  have LG := Lib.hid LONG; have BS := Lib.hid BADS; have BF := Lib.hid BADF; have GD := Lib.hid GOOD; have HX := Lib.hid hx; have HX2 := Lib.hid hx2; have HN := Lib.hid hn; have HQ := Lib.hid hq; have HBW := Lib.hid hbw; have FIT := Lib.hid fit
  have K0 := Lib.hid k0; have K1 := Lib.hid k1
  clear LONG BADS BADF GOOD hx hx2 hn hq hd hbw fit hs hf
  by_cases h1 : 16 < n
  · have h1i : (16 : Int) < (n : Int) := by omega
    have HE := Lib.hid (LG.out (.inl h1))
    go_enter Tryz.func22, Tryz.ntmps22
    go_wp2
    (try rw [hwb])
    go_ret
    exact ⟨ret_b HE.out.symm, HBW.out⟩
  · have h1i : ¬ (16 : Int) < (n : Int) := by omega
    by_cases h2 : 16 < q
    · have h2i : (16 : Int) < (q : Int) := by omega
      have HE := Lib.hid (LG.out (.inr h2))
      go_enter Tryz.func22, Tryz.ntmps22
      go_wp2
      (try rw [hwb])
      go_ret
      exact ⟨ret_b HE.out.symm, HBW.out⟩
    · have h2i : ¬ (16 : Int) < (q : Int) := by omega
      go_enter Tryz.func22, Tryz.ntmps22
      go_wp2
      (try rw [hwb])
      go_loopw [3] (fun i wr => ∃ k : Nat, i = .int .i64 (k : Nat) ∧ k ≤ n ∧ Hid ((∀ (j : Nat) (s : Sto), j < k → ss[j]? = some s → stoOk s = true) ∧ Below wb.heap.size wb wr)) (fun i _ => n - (intOf i).toNat)
      case atStart => exact ⟨0, rfl, Nat.zero_le _, fun j x hj => absurd hj (Nat.not_lt_zero j), Below.refl _ _⟩
      case round =>
        obtain ⟨k, rfl, hk, HI⟩ := hrel
        have k0 := cellb HI.out.2 K0.out
        have k1 := cellb HI.out.2 K1.out
        have HW := Lib.hid (bnext HBW.out HI.out.2)
        by_cases hlt : k < n
        · have hkl : k < ss.length := by rw [HN.out]; exact hlt
          obtain ⟨bb, off, rfl, ha⟩ := HX.out (by intro e; rw [e] at hkl; exact absurd hkl (Nat.not_lt_zero _))
          have hp := List.getElem?_eq_getElem hkl
          obtain ⟨⟨nm, pt, rg⟩, hxx⟩ : ∃ x, ss[k] = x := ⟨_, rfl⟩
          rw [hxx] at hp
          obtain ⟨⟨hB1, hB2⟩, u, c0, c1, c2', hrg⟩ := (ha.below HW.out) k (nm, pt, rg) hp
          have hfit := FIT.out.st (nm, pt, rg) (List.mem_of_getElem? hp)
          simp only at hB1 hB2 c0 c1 hrg hfit
          obtain ⟨A4, c4, rfl, -, -⟩ := id hrg
          have TG := fun (W : World) (h : Below wr.heap.size wr W) => RR.together_c (.slice A4 rg.length c4) rg hfit.2 W (hrg.below h)
          have IP := fun (W : World) => LR.compiles_c (str pt) (by rw [str_size]; exact hfit.1) W
          rw [bs_str hB2] at IP
          have NO := fun (h : stoOk (nm, pt, rg) = false) => BS.out k (nm, pt, rg) hp h
          have YES := fun (h : stoOk (nm, pt, rg) = true) => (show ∀ (j : Nat) (s : Sto), j < k + 1 → ss[j]? = some s → stoOk s = true from fun j y hj hy => by
            by_cases e : j = k
            · rw [e, hp] at hy
              obtain rfl := Option.some.inj hy
              exact h
            · exact HI.out.1 j y (by omega) hy)
          have hok : stoOk (nm, pt, rg) = (decide ((Nd.ndComp pt).2 = 0) && tog rg) := rfl
          rw [hok] at NO YES
          obtain ⟨g1, hg1⟩ : ∃ g1, decide ((Nd.ndComp pt).2 = 0) = g1 := ⟨_, rfl⟩
          obtain ⟨g2, hg2⟩ : ∃ g2, tog rg = g2 := ⟨_, rfl⟩
          rw [hg1] at IP NO YES
          rw [hg2] at TG NO YES
          have T2 := Lib.hid TG; have P2 := Lib.hid IP; have N2 := Lib.hid NO; have Y2 := Lib.hid YES
          generalize rg.length = m at *
          generalize str nm = X at *
          generalize str pt = Y at *
          clear TG IP NO YES hok hg1 hg2 hp hxx ha hkl hfit hrg hB1 hB2
          have BIN := Lib.hid (fun (W : World) (h : Below wr.heap.size wr W) => (HI.out.2.trans (h.mono HI.out.2.size)))
          clear HI
          cases g1
          · have HE := Lib.hid (N2.out rfl)
            go_wp2_with (go_at_call 47; refine (P2.out _).mono ?_; rintro _ w2 ⟨rfl, hb2⟩)
            go_ret
            exact ⟨ret_b HE.out.symm, bnext HW.out hb2⟩
          · cases g2
            · have HE := Lib.hid (N2.out rfl)
              go_wp2_with (first
                | (go_at_call 47; refine (P2.out _).mono ?_; rintro _ w2 ⟨rfl, hb2⟩; have BB2 := Lib.hid hb2; have k0 := cellb hb2 k0; have c2' := cellb hb2 c2')
                | (go_at_call 48; refine (T2.out _ BB2.out).mono ?_; rintro _ w3 ⟨rfl, hb3⟩))
              go_ret
              exact ⟨ret_b HE.out.symm, bnext (bnext HW.out BB2.out) hb3⟩
            · go_wp2_with (first
                | (go_at_call 47; refine (P2.out _).mono ?_; rintro _ w2 ⟨rfl, hb2⟩; have BB2 := Lib.hid hb2; have k0 := cellb hb2 k0; have c2' := cellb hb2 c2')
                | (go_at_call 48; refine (T2.out _ BB2.out).mono ?_; rintro _ w3 ⟨rfl, hb3⟩))
              go_roundw
              case rel => exact ⟨k + 1, by go_num, by omega, Y2.out rfl, BIN.out _ (bnext BB2.out hb3)⟩
              case measure => simp [intOf]; omega
        · obtain rfl : n = k := by omega
          have ALLS := Lib.hid HI.out.1
          have HI2 := Lib.hid HI.out.2
          clear HI
          go_wp2
          go_loopw [4] (fun i wx => ∃ k : Nat, i = .int .i64 (k : Nat) ∧ k ≤ q ∧ Hid ((∀ (j : Nat) (s : Fol), j < k → fs[j]? = some s → folOk s = true) ∧ Below wb.heap.size wb wx)) (fun i _ => q - (intOf i).toNat)
          case atStart => exact ⟨0, rfl, Nat.zero_le _, fun j x hj => absurd hj (Nat.not_lt_zero j), HI2.out⟩
          case round =>
            clear k0 k1 HW HI2
            obtain ⟨k, rfl, hk, HI⟩ := hrel
            have k0 := cellb HI.out.2 K0.out
            have k1 := cellb HI.out.2 K1.out
            have HW := Lib.hid (bnext HBW.out HI.out.2)
            by_cases hlt : k < q
            · have hkl : k < fs.length := by rw [HQ.out]; exact hlt
              obtain ⟨bb, off, rfl, ha⟩ := HX2.out (by intro e; rw [e] at hkl; exact absurd hkl (Nat.not_lt_zero _))
              have hp := List.getElem?_eq_getElem hkl
              obtain ⟨⟨nm, pt, fa, me⟩, hxx⟩ : ∃ x, fs[k] = x := ⟨_, rfl⟩
              rw [hxx] at hp
              obtain ⟨⟨hB1, hB2⟩, c0, c1, c2', c3⟩ := (ha.below HW.out) k (nm, pt, fa, me) hp
              have hfit := FIT.out.fo (nm, pt, fa, me) (List.mem_of_getElem? hp)
              simp only at hB1 hB2 c0 c1 c2' c3 hfit
              have IP := fun (W : World) => LR.compiles_c (str pt) (by rw [str_size]; exact hfit) W
              rw [bs_str hB2] at IP
              have NO := fun (h : folOk (nm, pt, fa, me) = false) => BF.out k (nm, pt, fa, me) hp h
              have YES := fun (h : folOk (nm, pt, fa, me) = true) => (show ∀ (j : Nat) (s : Fol), j < k + 1 → fs[j]? = some s → folOk s = true from fun j y hj hy => by
                by_cases e : j = k
                · rw [e, hp] at hy
                  obtain rfl := Option.some.inj hy
                  exact h
                · exact HI.out.1 j y (by omega) hy)
              have hok : folOk (nm, pt, fa, me) = (decide ((Nd.ndComp pt).2 = 0) && decide (0 ≤ fa ∧ fa ≤ 1000000 ∧ 1 ≤ me ∧ me ≤ 5)) := rfl
              rw [hok] at NO YES
              obtain ⟨g1, hg1⟩ : ∃ g1, decide ((Nd.ndComp pt).2 = 0) = g1 := ⟨_, rfl⟩
              rw [hg1] at IP NO YES
              have P2 := Lib.hid IP; have N2 := Lib.hid NO; have Y2 := Lib.hid YES
              generalize str nm = X at *
              generalize str pt = Y at *
              clear IP NO YES hok hg1 hp hxx ha hkl hfit hB1 hB2
              have BOX := Lib.hid (alloc_below wr (.cells #[.string X, .string Y, .int .i64 fa, .int .i64 me] 74))
              have HV := Lib.hid (show (wr.alloc (.cells #[.string X, .string Y, .int .i64 fa, .int .i64 me] 74)).cell? ⟨wr.heap.size, 2, none⟩ = some (.int .i64 fa) ∧ (wr.alloc (.cells #[.string X, .string Y, .int .i64 fa, .int .i64 me] 74)).cell? ⟨wr.heap.size, 3, none⟩ = some (.int .i64 me) from
                ⟨cell_of_row _ _ 2 _ _ (0, 0) (heap_alloc_new wr _), cell_of_row _ _ 3 _ _ (0, 0) (heap_alloc_new wr _)⟩)
              have BIN := Lib.hid (fun (W : World) (h : Below wr.heap.size wr W) => (HI.out.2.trans (h.mono HI.out.2.size)))
              clear HI
              cases g1
              · have HE := Lib.hid (N2.out rfl)
                go_wp2_with (go_at_call 47; refine (P2.out _).mono ?_; rintro _ w2 ⟨rfl, hb2⟩)
                go_ret
                exact ⟨ret_b HE.out.symm, bnext (bnext HW.out BOX.out) hb2⟩
              · by_cases a1 : fa < 0
                · have HE := Lib.hid (N2.out (by rw [decide_eq_false (by omega)]; rfl))
                  go_wp2_with (go_at_call 47; refine (P2.out _).mono ?_; rintro _ w2 ⟨rfl, hb2⟩; have BB2 := Lib.hid (bnext BOX.out hb2); have v2 := cellb hb2 HV.out.1; have v3 := cellb hb2 HV.out.2)
                  go_ret
                  exact ⟨ret_b HE.out.symm, bnext HW.out BB2.out⟩
                · by_cases a2 : 1000000 < fa
                  · have HE := Lib.hid (N2.out (by rw [decide_eq_false (by omega)]; rfl))
                    go_wp2_with (go_at_call 47; refine (P2.out _).mono ?_; rintro _ w2 ⟨rfl, hb2⟩; have BB2 := Lib.hid (bnext BOX.out hb2); have v2 := cellb hb2 HV.out.1; have v3 := cellb hb2 HV.out.2)
                    go_ret
                    exact ⟨ret_b HE.out.symm, bnext HW.out BB2.out⟩
                  · by_cases a3 : me < 1
                    · have HE := Lib.hid (N2.out (by rw [decide_eq_false (by omega)]; rfl))
                      go_wp2_with (go_at_call 47; refine (P2.out _).mono ?_; rintro _ w2 ⟨rfl, hb2⟩; have BB2 := Lib.hid (bnext BOX.out hb2); have v2 := cellb hb2 HV.out.1; have v3 := cellb hb2 HV.out.2)
                      go_ret
                      exact ⟨ret_b HE.out.symm, bnext HW.out BB2.out⟩
                    · by_cases a4 : 5 < me
                      · have HE := Lib.hid (N2.out (by rw [decide_eq_false (by omega)]; rfl))
                        go_wp2_with (go_at_call 47; refine (P2.out _).mono ?_; rintro _ w2 ⟨rfl, hb2⟩; have BB2 := Lib.hid (bnext BOX.out hb2); have v2 := cellb hb2 HV.out.1; have v3 := cellb hb2 HV.out.2)
                        go_ret
                        exact ⟨ret_b HE.out.symm, bnext HW.out BB2.out⟩
                      · have YY := Lib.hid (Y2.out (by rw [decide_eq_true (by omega)]; rfl))
                        go_wp2_with (go_at_call 47; refine (P2.out _).mono ?_; rintro _ w2 ⟨rfl, hb2⟩; have BB2 := Lib.hid (bnext BOX.out hb2); have v2 := cellb hb2 HV.out.1; have v3 := cellb hb2 HV.out.2)
                        go_roundw
                        case rel => exact ⟨k + 1, by go_num, by omega, YY.out, BIN.out _ BB2.out⟩
                        case measure => simp [intOf]; omega
            · obtain rfl : q = k := by omega
              have HE := Lib.hid (GD.out (by omega) (by omega) ALLS.out HI.out.1)
              go_wp2
              go_ret
              exact ⟨ret_b HE.out.symm, HW.out⟩
end LR
end Go.Proofs.YtodlgbihdehmbaaGreatDoor
/-
  Contracts of the reference's functions of layer 12: how a metric is kept (Find); the same schemas.
-/
set_option linter.unusedSimpArgs false
set_option linter.unusedVariables false
namespace Go.Proofs.YtodlgbihdehmbaaGreatDoor.LR
open Go.RowKit Cf Cf.KR Cf.KP LP
set_option maxRecDepth 100000 in
set_option maxHeartbeats 4000000 in
theorem find_c (vs vf : Value) (ss : List Sto) (fs : List Fol) (path : ByteArray) (fit : RuFit ss fs) (hp : path.size ≤ 100000) (w : World) (hs : StOut w vs ss) (hf : FoOut w vf fs) :
    Calls Tryz.prog 20 #[.agg #[vs, vf], .string path] w fun e w' => ∃ v, e = .returned (.tuple #[v, .int .i64 (findV ss fs (bs path)).2]) ∧ SchOut w' v (findV ss fs (bs path)).1 ∧ Below w.heap.size w w' := by
  have RT := fun (W : World) (h : Below w.heap.size w W) => right_c vs vf ss fs fit W (hs.below h) (hf.below h)
  have MC := fun (p : List Nat) (hy : Byt p) (hl : p.length ≤ 9223372036854775807) (W : World) => Nd.NR.match_c (str p) path (by rw [str_size]; exact hl) hp W
  have FD : findV ss fs (bs path) = if rightR ss fs = true then pickV ss fs (bs path) else (Sch.none, 1) := rfl
  have SMALL : rightR ss fs = true → ss.length ≤ 16 ∧ fs.length ≤ 16 := fun h => (rightR_iff.1 h).1
  have PN := @pick_none ss fs (bs path)
  have P1 := fun (s : Sto) => @pick_one ss fs (bs path) s
  have P2 := fun (s : Sto) (f : Fol) => @pick_two ss fs (bs path) s f
  obtain ⟨A, c, rfl, hc, hx⟩ := id hs
  obtain ⟨A2, c2, rfl, hc2, hx2⟩ := id hf
  obtain ⟨n, hn⟩ : ∃ n, ss.length = n := ⟨_, rfl⟩
  obtain ⟨q, hq⟩ : ∃ q, fs.length = q := ⟨_, rfl⟩
  rw [hn] at hc SMALL RT
  rw [hq] at hc2 SMALL RT
  rw [hn, hq]
  obtain ⟨d, hd⟩ : ∃ d, rightR ss fs = d := ⟨_, rfl⟩
  rw [hd] at RT FD SMALL
  obtain ⟨S, hS⟩ : ∃ S, findV ss fs (bs path) = S := ⟨_, rfl⟩
  rw [hS] at FD ⊢
  obtain ⟨i0, hi0, hz0, hz1, hz2⟩ := info_parts rung_info
  obtain ⟨k0, k1, -, -⟩ := two_new w (.slice A n c) (.slice A2 q c2) 37
  obtain ⟨wp, hwp⟩ : ∃ wp, w.alloc (.cells #[.slice A n c, .slice A2 q c2] 37) = wp := ⟨_, rfl⟩
  have hbw := alloc_below w (.cells #[.slice A n c, .slice A2 q c2] 37)
  have zp : wp.heap.size = w.heap.size + 1 := by rw [← hwp]; simp
  rw [hwp] at k0 k1 hbw
  have d3 : DVar (wp.alloc (.cells #[.slice none 0 0, .int .i64 0, .int .i64 0] 41)) wp.heap.size 3 := DVar.alloc _ _
  have hbs := alloc_below wp (.cells #[.slice none 0 0, .int .i64 0, .int .i64 0] 41)
  obtain ⟨w2, hw2⟩ : ∃ w2, wp.alloc (.cells #[.slice none 0 0, .int .i64 0, .int .i64 0] 41) = w2 := ⟨_, rfl⟩
  have z2 : w2.heap.size = w.heap.size + 2 := by rw [← hw2]; simp [zp]
  rw [hw2] at d3 hbs
  have k0 := cellb hbs k0
  have k1 := cellb hbs k1
  have HB2 := Lib.hid (bnext hbw hbs)
  have RT2 := Lib.hid (RT w2 HB2.out)
  have HMC := Lib.hid MC; have HX := Lib.hid hx; have HX2 := Lib.hid hx2; have HN := Lib.hid hn; have HQ := Lib.hid hq; have HFD := Lib.hid FD; have HPN := Lib.hid PN; have HP1 := Lib.hid P1; have HP2 := Lib.hid P2; have HSM := Lib.hid SMALL; have Z2 := Lib.hid z2; have ZP := Lib.hid zp; have FIT := Lib.hid fit
  have D3 := Lib.hid d3
  have GEP := Lib.hid (show w.heap.size ≤ wp.heap.size from by omega)
  clear RT MC hx hx2 hn hq FD PN P1 P2 SMALL hbw hbs z2 zp d3 hd hS hs hf fit
  go_enter Tryz.func20, Tryz.ntmps20
  go_wp2_with fail
  (try rw [hwp]); (try rw [hw2])
  refine RT2.out.mono ?_; rintro _ w3 ⟨rfl, hb3⟩
  have k0 := cellb hb3 k0
  have k1 := cellb hb3 k1
  have D4 := D3.out.below hb3
  have HB3 := Lib.hid (bnext HB2.out hb3)
  have z3 := hb3.size
  have lt3 : wp.heap.size + 1 ≤ w3.heap.size := by have := Z2.out; have := ZP.out; omega
  have LT3 := Lib.hid lt3
  clear z3 lt3
  cases d
  · have SV := Lib.hid (HFD.out.trans (if_neg (by decide)))
    obtain ⟨x0, p0⟩ := D4.c 0 (by decide); obtain ⟨x1, p1⟩ := D4.c 1 (by decide); obtain ⟨x2, p2⟩ := D4.c 2 (by decide)
    have f0 := D4.f 0 (by decide); have f1 := D4.f 1 (by decide); have f2 := D4.f 2 (by decide)
    go_wp2
    have q0 : ((((w3.setCell ⟨wp.heap.size, 0, none⟩ (.slice none 0 0)).setCell ⟨wp.heap.size, 1, none⟩ (.int .i64 0)).setCell ⟨wp.heap.size, 2, none⟩ (.int .i64 0))).cell? ⟨wp.heap.size, 0, none⟩ = some (.slice none 0 0) := by go_simp
    have q1 : ((((w3.setCell ⟨wp.heap.size, 0, none⟩ (.slice none 0 0)).setCell ⟨wp.heap.size, 1, none⟩ (.int .i64 0)).setCell ⟨wp.heap.size, 2, none⟩ (.int .i64 0))).cell? ⟨wp.heap.size, 1, none⟩ = some (.int .i64 0) := by go_simp
    have q2 : ((((w3.setCell ⟨wp.heap.size, 0, none⟩ (.slice none 0 0)).setCell ⟨wp.heap.size, 1, none⟩ (.int .i64 0)).setCell ⟨wp.heap.size, 2, none⟩ (.int .i64 0))).cell? ⟨wp.heap.size, 2, none⟩ = some (.int .i64 0) := by go_simp
    exact bodyPost_ret (v := .tuple #[.agg #[.slice none 0 0, .int .i64 0, .int .i64 0], .int .i64 1]) (by simp [results, Tryz.results20, go_sem, q0, q1, q2]) rfl ⟨_, ret_find (by rw [SV.out]), by rw [SV.out]; exact SchOut.none _, below_puts3 HB3.out GEP.out _ _ _⟩
  · have SV := Lib.hid (HFD.out.trans (if_pos rfl))
    obtain ⟨n16, q16⟩ := HSM.out rfl
    have K0 := Lib.hid k0; have K1 := Lib.hid k1; have DD := Lib.hid D4
    clear k0 k1 D4 hb3
    go_wp2
    go_loopw [6] (fun i wr => ∃ k : Nat, i = .int .i64 (k : Nat) ∧ k ≤ n ∧ Hid ((∀ (j : Nat) (s : Sto), j < k → ss[j]? = some s → stoHit (bs path) s = false) ∧ Below w3.heap.size w3 wr)) (fun i _ => n - (intOf i).toNat)
    case atStart => exact ⟨0, rfl, Nat.zero_le _, fun j x hj => absurd hj (Nat.not_lt_zero j), Below.refl _ _⟩
    case round =>
      obtain ⟨k, rfl, hk, HI⟩ := hrel
      have k0 := cellb HI.out.2 K0.out
      have k1 := cellb HI.out.2 K1.out
      have HW := Lib.hid (bnext HB3.out HI.out.2)
      have HD5 := Lib.hid (DD.out.below HI.out.2)
      by_cases hlt : k < n
      · have hkl : k < ss.length := by rw [HN.out]; exact hlt
        obtain ⟨bb, off, rfl, ha⟩ := HX.out (by intro e; rw [e] at hkl; exact absurd hkl (Nat.not_lt_zero _))
        have hpp := List.getElem?_eq_getElem hkl
        obtain ⟨⟨nm, pt, rg⟩, hxx⟩ : ∃ x, ss[k] = x := ⟨_, rfl⟩
        rw [hxx] at hpp
        obtain ⟨⟨hB1, hB2⟩, u, c0, c1, c3, hrg⟩ := (ha.below HW.out) k (nm, pt, rg) hpp
        have hfit := FIT.out.st (nm, pt, rg) (List.mem_of_getElem? hpp)
        simp only at hB1 hB2 c0 c1 c3 hrg hfit
        obtain ⟨A4, c4, rfl, -, -⟩ := id hrg
        have CL := fun W => HMC.out pt hB2 hfit.1 W
        rw [bs_str hB2] at CL
        obtain ⟨⟨d, E⟩, hd⟩ : ∃ d, Nd.ndMatch pt (bs path) = d := ⟨_, rfl⟩
        rw [hd] at CL
        have HIT := Lib.hid (show stoHit (bs path) (nm, pt, rg) = d from by unfold stoHit; rw [hd])
        have HP := Lib.hid hpp
        have CL2 := Lib.hid CL
        have HRG := Lib.hid hrg
        have hrl := hfit.2
        obtain ⟨m, hm⟩ : ∃ m, rg.length = m := ⟨_, rfl⟩
        rw [hm] at c3 HRG hrl
        have HM := Lib.hid hm
        generalize str nm = X at *
        generalize str pt = Y at *
        clear CL hpp hxx ha hkl hd hB1 hB2 hfit hrg hm c0
        cases d
        · have NEXT := Lib.hid (show ∀ (j : Nat) (y : Sto), j < k + 1 → ss[j]? = some y → stoHit (bs path) y = false from fun j y hj hy => by
            by_cases e : j = k
            · rw [e, HP.out] at hy
              obtain rfl := Option.some.inj hy
              exact HIT.out
            · exact HI.out.1 j y (by omega) hy)
          go_wp2_with (go_at_call 43; refine (CL2.out _).mono ?_; rintro e w' ⟨rfl, hb1⟩)
          go_roundw
          case rel => exact ⟨k + 1, by go_num, by omega, NEXT.out, HI.out.2.trans (hb1.mono HI.out.2.size)⟩
          case measure => simp [intOf]; omega
        · have hfnd := find_at HP.out HIT.out HI.out.1
          have P1 := Lib.hid (fun h => HP1.out (nm, pt, rg) hfnd h)
          have P2 := Lib.hid (fun f h => HP2.out (nm, pt, rg) f hfnd h)
          simp only at P1 P2
          have GE := Lib.hid (HI.out.2.size)
          clear hfnd HPN HP1 HP2 HI HIT HP DD K0 K1
          go_wp2_with fail
          refine (CL2.out _).mono ?_; rintro _ w6 ⟨rfl, hb6⟩
          have k0 := cellb hb6 k0
          have k1 := cellb hb6 k1
          have c3 := cellb hb6 c3
          have k0' := k0; have k1' := k1
          have HR := Lib.hid (show Reads w6 w6.heap.size 2 A4 m (rgC rg) from by
            have h := HRG.out.below hb6
            rw [← HM.out] at h ⊢
            exact rg_reads h)
          have H1 := Lib.hid (rgC_one rg)
          have HB6 := Lib.hid (bnext HW.out hb6)
          have D6 := Lib.hid (HD5.out.below hb6)
          have GE6 := Lib.hid (Nat.le_trans GE.out hb6.size)
          have k0 := cellb (alloc_below w6 (.cells #[] 49)) k0
          have k1 := cellb (alloc_below w6 (.cells #[] 49)) k1
          have c3 := cellb (alloc_below w6 (.cells #[] 49)) c3
          have GEA := Lib.hid (show ∀ (W : World), (w6.alloc (.cells #[] 49)).grownBy W (some w6.heap.size) → Below (w6.alloc (.cells #[] 49)).heap.size (w6.alloc (.cells #[] 49)) W → True from fun _ _ _ => trivial)
          clear HRG hb6 c1 HD5 CL2 GEA
          go_wp2_with (at_builtin; refine wpList_append_any _ rfl (.tmp 37) (.tmp 43) _ rfl w6.heap.size 49 i0 (.agg #[.int .i64 0, .int .i64 0]) 2 16 Tryz.underlying39 hi0 hz0 hz1 hz2 rfl (by decide) (.slice (some ⟨w6.heap.size, 0, none⟩) 0 0) 0 [] rfl (World.ownsRow_made _ _ _ (Nat.le_refl _) (by decide) rfl) w6.heap.size A4 m c4 (rgC rg) rfl (HR.out.alloc (Nat.le_refl _) _) H1.out (by simp only [maxLen]; omega) (by omega) (by simp) ?_; intro v1 w7 hown1 hg1 hat1; have HO1 := Lib.hid (show w7.ownsRow w6.heap.size 49 2 v1 m (rgC rg) from by simpa using hown1); have HBA := Lib.hid (show Below w6.heap.size w6 w7 from Below.grown ((Below.refl _ _).alloc (Nat.le_refl _) _) hg1 (by simp) (by intro g hg; simp [Value.ownBlock] at hg; omega)); clear hown1 hg1 hat1; obtain ⟨A6, c6, rfl, -, -⟩ := own_form HO1.out; have k0 := cellb HBA.out k0'; have k1 := cellb HBA.out k1')
          have hb8 := alloc_below w7 (.cells #[.slice A6 m c6, .int .i64 1, .int .i64 500000] 41)
          have DV : DVar (w7.alloc (.cells #[.slice A6 m c6, .int .i64 1, .int .i64 500000] 41)) w7.heap.size 3 := DVar.alloc _ _
          have v0 : (w7.alloc (.cells #[.slice A6 m c6, .int .i64 1, .int .i64 500000] 41)).cell? ⟨w7.heap.size, 0, none⟩ = some (.slice A6 m c6) := cell_of_row _ _ 0 _ _ (0, 0) (heap_alloc_new w7 _)
          have v1 : (w7.alloc (.cells #[.slice A6 m c6, .int .i64 1, .int .i64 500000] 41)).cell? ⟨w7.heap.size, 1, none⟩ = some (.int .i64 1) := cell_of_row _ _ 1 _ _ (0, 0) (heap_alloc_new w7 _)
          have v2 : (w7.alloc (.cells #[.slice A6 m c6, .int .i64 1, .int .i64 500000] 41)).cell? ⟨w7.heap.size, 2, none⟩ = some (.int .i64 500000) := cell_of_row _ _ 2 _ _ (0, 0) (heap_alloc_new w7 _)
          have k0 := cellb hb8 k0
          have k1 := cellb hb8 k1
          have D8 := (D6.out.below HBA.out).below hb8
          have HB8 := Lib.hid (bnext (bnext HB6.out HBA.out) hb8)
          have N8 := Lib.hid (show RgNew w6.heap.size (w7.alloc (.cells #[.slice A6 m c6, .int .i64 1, .int .i64 500000] 41)) (.slice A6 m c6) rg ∧ (∀ g, (Value.slice A6 m c6).ownBlock = some g → g < w7.heap.size) from by
            have h := HO1.out
            refine ⟨?_, fun g hg => (own_lt h hg).2⟩
            have h2 : RgNew w6.heap.size w7 (.slice A6 m c6) rg := by unfold RgNew; rw [HM.out]; exact h
            exact h2.below hb8)
          have z7 := HBA.out.size
          have nep : wp.heap.size ≠ w7.heap.size := by have := LT3.out; have := GE6.out; omega
          have ge7 : w.heap.size ≤ w7.heap.size := by have := LT3.out; have := GE6.out; have := GEP.out; omega
          have nek : w7.heap.size ≠ w.heap.size := by have := LT3.out; have := GE6.out; have := ZP.out; omega
          have lt6 : wp.heap.size < w6.heap.size := by have := LT3.out; have := GE6.out; omega
          have K0 := Lib.hid k0; have K1 := Lib.hid k1; have V0 := Lib.hid v0; have V1 := Lib.hid v1; have V2 := Lib.hid v2; have DV2 := Lib.hid DV; have D82 := Lib.hid D8
          clear k0 k1 k0' k1' v0 v1 v2 DV D8 hb8 D6 HO1 HBA HR H1 HB6 GE GE6 c3
          generalize (w7.alloc (.cells #[.slice A6 m c6, .int .i64 1, .int .i64 500000] 41)) = w8 at *
          go_loopw [10] (fun i wx => ∃ j : Nat, i = .int .i64 (j : Nat) ∧ j ≤ q ∧ Hid ((∀ (i : Nat) (f : Fol), i < j → fs[i]? = some f → folHit (bs path) f = false) ∧ Below w8.heap.size w8 wx)) (fun i _ => q - (intOf i).toNat)
          case atStart => exact ⟨0, rfl, Nat.zero_le _, fun j x hj => absurd hj (Nat.not_lt_zero j), Below.refl _ _⟩
          case round =>
            obtain ⟨j, rfl, hj, HI⟩ := hrel
            have k0 := cellb HI.out.2 K0.out
            have k1 := cellb HI.out.2 K1.out
            have HW8 := Lib.hid (bnext HB8.out HI.out.2)
            by_cases hjt : j < q
            · have hjl : j < fs.length := by rw [HQ.out]; exact hjt
              obtain ⟨b2, off2, rfl, ha⟩ := HX2.out (by intro e; rw [e] at hjl; exact absurd hjl (Nat.not_lt_zero _))
              have hpp := List.getElem?_eq_getElem hjl
              obtain ⟨⟨nf, pf, fa, me⟩, hxx⟩ : ∃ x, fs[j] = x := ⟨_, rfl⟩
              rw [hxx] at hpp
              obtain ⟨⟨hB1, hB2⟩, e0, e1, e2, e3⟩ := (ha.below HW8.out) j (nf, pf, fa, me) hpp
              have hfit := FIT.out.fo (nf, pf, fa, me) (List.mem_of_getElem? hpp)
              simp only at hB1 hB2 e0 e1 e2 e3 hfit
              have CL := fun W => HMC.out pf hB2 hfit W
              rw [bs_str hB2] at CL
              obtain ⟨⟨d, E3⟩, hd⟩ : ∃ d, Nd.ndMatch pf (bs path) = d := ⟨_, rfl⟩
              rw [hd] at CL
              have HIT := Lib.hid (show folHit (bs path) (nf, pf, fa, me) = d from by unfold folHit; rw [hd])
              have HP := Lib.hid hpp
              have CL2 := Lib.hid CL
              generalize str nf = X2 at *
              generalize str pf = Y2 at *
              clear CL hpp hxx ha hjl hd hB1 hB2 hfit e0
              cases d
              · have NEXT := Lib.hid (show ∀ (i : Nat) (y : Fol), i < j + 1 → fs[i]? = some y → folHit (bs path) y = false from fun i y hi hy => by
                  by_cases e : i = j
                  · rw [e, HP.out] at hy
                    obtain rfl := Option.some.inj hy
                    exact HIT.out
                  · exact HI.out.1 i y (by omega) hy)
                go_wp2_with (go_at_call 43; refine (CL2.out _).mono ?_; rintro e w' ⟨rfl, hb1⟩)
                go_roundw
                case rel => exact ⟨j + 1, by go_num, by omega, NEXT.out, HI.out.2.trans (hb1.mono HI.out.2.size)⟩
                case measure => simp [intOf]; omega
              · have SS := Lib.hid (SV.out.trans (P2.out _ (find_at HP.out HIT.out HI.out.1)))
                clear P1 P2
                go_wp2_with fail
                refine (CL2.out _).mono ?_; rintro _ w9 ⟨rfl, hb9⟩
                have hb19 := HI.out.2.trans (hb9.mono HI.out.2.size)
                have k1 := cellb hb9 k1
                have e2 := cellb hb9 e2
                have e3 := cellb hb9 e3
                have v0 := cellb hb19 V0.out
                have v1 := cellb hb19 V1.out
                have v2 := cellb hb19 V2.out
                have DV := DV2.out.below hb19
                have D9 := D82.out.below hb19
                have HB9 := Lib.hid (bnext HW8.out hb9)
                have N9 := Lib.hid (N8.out.1.below hb19)
                obtain ⟨x0, p0⟩ := D9.c 0 (by decide); obtain ⟨x1, p1⟩ := D9.c 1 (by decide); obtain ⟨x2, p2⟩ := D9.c 2 (by decide)
                have f0 := D9.f 0 (by decide); have f1 := D9.f 1 (by decide); have f2 := D9.f 2 (by decide)
                have g0 := DV.f 0 (by decide); have g1 := DV.f 1 (by decide); have g2 := DV.f 2 (by decide)
                have OUT := Lib.hid (show ∀ (W : World), (∀ g, g ≠ wp.heap.size → g ≠ w7.heap.size → W.heap[g]? = w9.heap[g]?) → SchOut W (.agg #[.slice A6 m c6, .int .i64 me, .int .i64 fa]) S.1 from fun W hW => by
                  rw [SS.out]
                  refine ⟨A6, c6, by simp only; rw [HM.out], ?_⟩
                  simp only
                  rw [HM.out]
                  refine (N9.out.keep fun g hg hl ho => hW g ?_ ?_).out
                  · omega
                  · have := N8.out.2 g ho; omega)
                clear DV D9 hb9 hb19 HI HIT HP CL2 k0
                go_wp2_with fail
                go_region
                have u0 : ((w9.setCell ⟨w7.heap.size, 1, none⟩ (.int .i64 me)).setCell ⟨w7.heap.size, 2, none⟩ (.int .i64 fa)).drew.cell? ⟨w7.heap.size, 0, none⟩ = some (.slice A6 m c6) := by go_simp
                have u1 : ((w9.setCell ⟨w7.heap.size, 1, none⟩ (.int .i64 me)).setCell ⟨w7.heap.size, 2, none⟩ (.int .i64 fa)).drew.cell? ⟨w7.heap.size, 1, none⟩ = some (.int .i64 me) := by go_simp
                have u2 : ((w9.setCell ⟨w7.heap.size, 1, none⟩ (.int .i64 me)).setCell ⟨w7.heap.size, 2, none⟩ (.int .i64 fa)).drew.cell? ⟨w7.heap.size, 2, none⟩ = some (.int .i64 fa) := by go_simp
                have p0' : ((w9.setCell ⟨w7.heap.size, 1, none⟩ (.int .i64 me)).setCell ⟨w7.heap.size, 2, none⟩ (.int .i64 fa)).drew.cell? ⟨wp.heap.size, 0, none⟩ = some x0 := by go_simp
                have p1' : ((w9.setCell ⟨w7.heap.size, 1, none⟩ (.int .i64 me)).setCell ⟨w7.heap.size, 2, none⟩ (.int .i64 fa)).drew.cell? ⟨wp.heap.size, 1, none⟩ = some x1 := by go_simp
                have p2' : ((w9.setCell ⟨w7.heap.size, 1, none⟩ (.int .i64 me)).setCell ⟨w7.heap.size, 2, none⟩ (.int .i64 fa)).drew.cell? ⟨wp.heap.size, 2, none⟩ = some x2 := by go_simp
                have f0' : ((w9.setCell ⟨w7.heap.size, 1, none⟩ (.int .i64 me)).setCell ⟨w7.heap.size, 2, none⟩ (.int .i64 fa)).drew.frozen? ⟨wp.heap.size, 0, none⟩ = false := by go_simp
                have f1' : ((w9.setCell ⟨w7.heap.size, 1, none⟩ (.int .i64 me)).setCell ⟨w7.heap.size, 2, none⟩ (.int .i64 fa)).drew.frozen? ⟨wp.heap.size, 1, none⟩ = false := by go_simp
                have f2' : ((w9.setCell ⟨w7.heap.size, 1, none⟩ (.int .i64 me)).setCell ⟨w7.heap.size, 2, none⟩ (.int .i64 fa)).drew.frozen? ⟨wp.heap.size, 2, none⟩ = false := by go_simp
                have hbz : Below w.heap.size w ((w9.setCell ⟨w7.heap.size, 1, none⟩ (.int .i64 me)).setCell ⟨w7.heap.size, 2, none⟩ (.int .i64 fa)).drew := (below_put1 (below_put1 HB9.out ge7 _) ge7 _).drew
                have hkz : ∀ g, g ≠ w7.heap.size → ((w9.setCell ⟨w7.heap.size, 1, none⟩ (.int .i64 me)).setCell ⟨w7.heap.size, 2, none⟩ (.int .i64 fa)).drew.heap[g]? = w9.heap[g]? := fun g hg => (Below.heap_setCell _ _ _ g hg).trans (Below.heap_setCell _ _ _ g hg)
                generalize ((w9.setCell ⟨w7.heap.size, 1, none⟩ (.int .i64 me)).setCell ⟨w7.heap.size, 2, none⟩ (.int .i64 fa)).drew = wz at *
                have PUT := Lib.hid (fun x y z => below_puts3 hbz GEP.out x y z)
                have HKZ := Lib.hid hkz
                clear p0 p1 p2 f0 f1 f2 v0 v1 v2 g0 g1 g2 e2 e3 hbz hkz k1
                go_wp2
                have q0 : ((((wz.setCell ⟨wp.heap.size, 0, none⟩ (.slice A6 m c6)).setCell ⟨wp.heap.size, 1, none⟩ (.int .i64 me)).setCell ⟨wp.heap.size, 2, none⟩ (.int .i64 fa))).cell? ⟨wp.heap.size, 0, none⟩ = some (.slice A6 m c6) := by go_simp
                have q1 : ((((wz.setCell ⟨wp.heap.size, 0, none⟩ (.slice A6 m c6)).setCell ⟨wp.heap.size, 1, none⟩ (.int .i64 me)).setCell ⟨wp.heap.size, 2, none⟩ (.int .i64 fa))).cell? ⟨wp.heap.size, 1, none⟩ = some (.int .i64 me) := by go_simp
                have q2 : ((((wz.setCell ⟨wp.heap.size, 0, none⟩ (.slice A6 m c6)).setCell ⟨wp.heap.size, 1, none⟩ (.int .i64 me)).setCell ⟨wp.heap.size, 2, none⟩ (.int .i64 fa))).cell? ⟨wp.heap.size, 2, none⟩ = some (.int .i64 fa) := by go_simp
                exact bodyPost_ret (v := .tuple #[.agg #[.slice A6 m c6, .int .i64 me, .int .i64 fa], .int .i64 0]) (by simp [results, Tryz.results20, go_sem, q0, q1, q2]) rfl ⟨_, ret_find (by rw [SS.out]), OUT.out _ (fun g h1 h2 => (Below.heap_setCell _ _ _ g h1).trans ((Below.heap_setCell _ _ _ g h1).trans ((Below.heap_setCell _ _ _ g h1).trans (HKZ.out g h2)))), PUT.out _ _ _⟩
            · obtain rfl : q = j := by omega
              have SS := Lib.hid (SV.out.trans (P1.out (find_no (f := folHit (bs path)) HQ.out HI.out.1)))
              have v0 := cellb HI.out.2 V0.out
              have v1 := cellb HI.out.2 V1.out
              have v2 := cellb HI.out.2 V2.out
              have D9 := D82.out.below HI.out.2
              have N9 := Lib.hid (N8.out.1.below HI.out.2)
              obtain ⟨x0, p0⟩ := D9.c 0 (by decide); obtain ⟨x1, p1⟩ := D9.c 1 (by decide); obtain ⟨x2, p2⟩ := D9.c 2 (by decide)
              have f0 := D9.f 0 (by decide); have f1 := D9.f 1 (by decide); have f2 := D9.f 2 (by decide)
              have PUT := Lib.hid (fun x y z => below_puts3 HW8.out GEP.out x y z)
              have OUT := Lib.hid (show ∀ (W : World), (∀ g, g ≠ wp.heap.size → W.heap[g]? = wr.heap[g]?) → SchOut W (.agg #[.slice A6 m c6, .int .i64 1, .int .i64 500000]) S.1 from fun W hW => by
                rw [SS.out]
                refine ⟨A6, c6, by simp only; rw [HM.out], ?_⟩
                simp only
                rw [HM.out]
                refine (N9.out.keep fun g hg hl ho => hW g ?_).out
                omega)
              clear D9 HI P1 P2
              go_wp2
              have q0 : ((((wr.setCell ⟨wp.heap.size, 0, none⟩ (.slice A6 m c6)).setCell ⟨wp.heap.size, 1, none⟩ (.int .i64 1)).setCell ⟨wp.heap.size, 2, none⟩ (.int .i64 500000))).cell? ⟨wp.heap.size, 0, none⟩ = some (.slice A6 m c6) := by go_simp
              have q1 : ((((wr.setCell ⟨wp.heap.size, 0, none⟩ (.slice A6 m c6)).setCell ⟨wp.heap.size, 1, none⟩ (.int .i64 1)).setCell ⟨wp.heap.size, 2, none⟩ (.int .i64 500000))).cell? ⟨wp.heap.size, 1, none⟩ = some (.int .i64 1) := by go_simp
              have q2 : ((((wr.setCell ⟨wp.heap.size, 0, none⟩ (.slice A6 m c6)).setCell ⟨wp.heap.size, 1, none⟩ (.int .i64 1)).setCell ⟨wp.heap.size, 2, none⟩ (.int .i64 500000))).cell? ⟨wp.heap.size, 2, none⟩ = some (.int .i64 500000) := by go_simp
              exact bodyPost_ret (v := .tuple #[.agg #[.slice A6 m c6, .int .i64 1, .int .i64 500000], .int .i64 0]) (by simp [results, Tryz.results20, go_sem, q0, q1, q2]) rfl ⟨_, ret_find (by rw [SS.out]), OUT.out _ (fun g h1 => (Below.heap_setCell _ _ _ g h1).trans ((Below.heap_setCell _ _ _ g h1).trans (Below.heap_setCell _ _ _ g h1))), PUT.out _ _ _⟩
      · obtain rfl : n = k := by omega
        have SS := Lib.hid (SV.out.trans (HPN.out (find_no (f := stoHit (bs path)) HN.out HI.out.1)))
        have D5 := HD5.out
        obtain ⟨x0, p0⟩ := D5.c 0 (by decide); obtain ⟨x1, p1⟩ := D5.c 1 (by decide); obtain ⟨x2, p2⟩ := D5.c 2 (by decide)
        have f0 := D5.f 0 (by decide); have f1 := D5.f 1 (by decide); have f2 := D5.f 2 (by decide)
        have PUT := Lib.hid (fun x y z => below_puts3 HW.out GEP.out x y z)
        clear D5 HPN HP1 HP2 HI HD5
        go_wp2
        have q0 : ((((wr.setCell ⟨wp.heap.size, 0, none⟩ (.slice none 0 0)).setCell ⟨wp.heap.size, 1, none⟩ (.int .i64 0)).setCell ⟨wp.heap.size, 2, none⟩ (.int .i64 0))).cell? ⟨wp.heap.size, 0, none⟩ = some (.slice none 0 0) := by go_simp
        have q1 : ((((wr.setCell ⟨wp.heap.size, 0, none⟩ (.slice none 0 0)).setCell ⟨wp.heap.size, 1, none⟩ (.int .i64 0)).setCell ⟨wp.heap.size, 2, none⟩ (.int .i64 0))).cell? ⟨wp.heap.size, 1, none⟩ = some (.int .i64 0) := by go_simp
        have q2 : ((((wr.setCell ⟨wp.heap.size, 0, none⟩ (.slice none 0 0)).setCell ⟨wp.heap.size, 1, none⟩ (.int .i64 0)).setCell ⟨wp.heap.size, 2, none⟩ (.int .i64 0))).cell? ⟨wp.heap.size, 2, none⟩ = some (.int .i64 0) := by go_simp
        exact bodyPost_ret (v := .tuple #[.agg #[.slice none 0 0, .int .i64 0, .int .i64 0], .int .i64 15]) (by simp [results, Tryz.results20, go_sem, q0, q1, q2]) rfl ⟨_, ret_find (by rw [SS.out]), by rw [SS.out]; exact SchOut.none _, PUT.out _ _ _⟩
end Go.Proofs.YtodlgbihdehmbaaGreatDoor.LR
/-
  Walks of layer 12's laws: how a metric is kept (RulesFinds).
-/
set_option linter.unusedSimpArgs false
set_option linter.unusedVariables false
namespace Go.Proofs.YtodlgbihdehmbaaGreatDoor
open Go.RowKit Cf Cf.KR Cf.KP
/-- What is found is no longer than what may be. -/
theorem find_len {ss : List Sto} {fs : List Fol} {t : List Nat} (h : ∀ s ∈ ss, s.2.2.length ≤ 100000) : (findV ss fs t).1.1.length ≤ 100000 := by
  unfold findV
  split
  · unfold pickV
    split
    · exact Nat.zero_le _
    · rename_i s hs
      exact h s (List.mem_of_find?_eq_some hs)
  · exact Nat.zero_le _
theorem SchOut.form {w : World} {v : Value} {S : Sch} (h : SchOut w v S) : ∃ A n c me fa, v = .agg #[.slice A n c, .int .i64 me, .int .i64 fa] := by
  obtain ⟨A, c, hv, _⟩ := h
  exact ⟨_, _, _, _, _, hv⟩
namespace LW
open LP
set_option maxRecDepth 100000 in
set_option maxHeartbeats 4000000 in
theorem rulesFinds_c (vs vf : Value) (ss : List Sto) (fs : List Fol) (hl : RuLong ss fs) (path : ByteArray) (w : World) (g : G w) (hs : StOut w vs ss) (hf : FoOut w vf fs) :
    Calls Tryz.prog 4 #[.agg #[vs, vf], .string path] w fun e w' => e = .returned (.bool true) ∧ Below w.heap.size w w' := by
  have AL0 := fun (W : World) (h : Below w.heap.size w W) => alive_c W (g.below h)
  have GR0 := fun (W : World) (h : Below w.heap.size w W) => great_c vs vf ss fs hl W (hs.below h) (hf.below h)
  have FIT := fun (h : greatV ss fs = false) => great_fit h hl
  have FD0 := fun (fit : RuFit ss fs) (hp : path.size ≤ 100000) (W : World) (h : Below w.heap.size w W) => find_p vs vf ss fs path fit hp W (hs.below h) (hf.below h)
  have FR0 := fun (fit : RuFit ss fs) (hp : path.size ≤ 100000) (W : World) (h : Below w.heap.size w W) => LR.find_c vs vf ss fs path fit hp W (hs.below h) (hf.below h)
  have RP0 := fun (fit : RuFit ss fs) (W : World) (h : Below w.heap.size w W) => right_p vs vf ss fs fit W (hs.below h) (hf.below h)
  have RR0 := fun (fit : RuFit ss fs) (W : World) (h : Below w.heap.size w W) => LR.right_c vs vf ss fs fit W (hs.below h) (hf.below h)
  have LEN := fun (fit : RuFit ss fs) => find_len (fs := fs) (t := bs path) (fun s h => (fit.st s h).2)
  obtain ⟨A, c, rfl, -, -⟩ := id hs
  obtain ⟨A2, c2, rfl, -, -⟩ := id hf
  obtain ⟨gv, hgv⟩ : ∃ gv, greatV ss fs = gv := ⟨_, rfl⟩
  obtain ⟨⟨S, E⟩, hS⟩ : ∃ S, findV ss fs (bs path) = S := ⟨_, rfl⟩
  obtain ⟨rv, hrv⟩ : ∃ rv, rightR ss fs = rv := ⟨_, rfl⟩
  rw [hgv] at GR0 FIT
  rw [hS] at FD0 FR0 LEN
  rw [hrv] at RP0 RR0
  simp only at FD0 FR0 LEN
  generalize ss.length = n at *
  generalize fs.length = q at *
  obtain ⟨k0, k1, -, -⟩ := two_new w (.slice A n c) (.slice A2 q c2) 37
  obtain ⟨wb, hwb⟩ : ∃ wb, w.alloc (.cells #[.slice A n c, .slice A2 q c2] 37) = wb := ⟨_, rfl⟩
  have hbw := alloc_below w (.cells #[.slice A n c, .slice A2 q c2] 37)
  rw [hwb] at k0 k1 hbw
  have AL := Lib.hid (AL0 wb hbw)
  have GR := Lib.hid GR0; have FITH := Lib.hid FIT; have FD := Lib.hid FD0; have FR := Lib.hid FR0; have RP := Lib.hid RP0; have RR := Lib.hid RR0; have HLEN := Lib.hid LEN; have HBW := Lib.hid hbw
  clear AL0 GR0 FIT FD0 FR0 RP0 RR0 LEN hgv hS hrv hbw hs hf g hl
  cases gv
  · have fit := FITH.out rfl
    by_cases hp : 500 < path.size
    · have hpi : (500 : Int) < (path.size : Int) := by omega
      clear FD FR RP RR HLEN FITH fit
      go_enter Tryz.func4, Tryz.ntmps4
      go_wp2_with fail
      (try rw [hwb])
      refine AL.out.mono ?_; rintro _ w1 ⟨rfl, hb1⟩
      have k0 := cellb hb1 k0
      have k1 := cellb hb1 k1
      go_wp2_with fail
      refine (GR.out w1 (bnext HBW.out hb1)).mono ?_; rintro _ w2 ⟨rfl, hb2⟩
      go_wp2
      go_ret
      exact ⟨rfl, bnext (bnext HBW.out hb1) hb2⟩
    · have hpi : ¬ (500 : Int) < (path.size : Int) := by omega
      have hp1 : path.size ≤ 100000 := by omega
      have FD1 := Lib.hid (FD.out fit hp1); have FR1 := Lib.hid (FR.out fit hp1); have RP1 := Lib.hid (RP.out fit); have RR1 := Lib.hid (RR.out fit); have L1 := Lib.hid (HLEN.out fit)
      clear FD FR RP RR HLEN FITH fit
      go_enter Tryz.func4, Tryz.ntmps4
      go_wp2_with fail
      (try rw [hwb])
      refine AL.out.mono ?_; rintro _ w1 ⟨rfl, hb1⟩
      have k0 := cellb hb1 k0
      have k1 := cellb hb1 k1
      go_wp2_with fail
      refine (GR.out w1 (bnext HBW.out hb1)).mono ?_; rintro _ w2 ⟨rfl, hb2⟩
      have k0 := cellb hb2 k0
      have k1 := cellb hb2 k1
      have B2 := Lib.hid (bnext (bnext HBW.out hb1) hb2)
      go_wp2_with fail
      refine (FD1.out w2 B2.out).mono ?_; rintro _ w3 ⟨v3, rfl, h3, hb3⟩
      obtain ⟨A3, n3, c3, m3, f3, rfl⟩ := h3.form
      have hb4 := alloc_below w3 (.cells #[.slice A3 n3 c3, .int .i64 m3, .int .i64 f3] 41)
      obtain ⟨s0, s1, s2⟩ := three_new w3 (.slice A3 n3 c3) (.int .i64 m3) (.int .i64 f3) 41
      have k0 := cellb (bnext hb3 hb4) k0
      have k1 := cellb (bnext hb3 hb4) k1
      have B4 := Lib.hid (bnext B2.out (bnext hb3 hb4))
      have H3 := Lib.hid (h3.below hb4)
      clear hb1 hb2 hb3 hb4 h3
      go_wp2_with fail
      refine (FR1.out _ B4.out).mono ?_; rintro _ w5 ⟨v5, rfl, h5, hb5⟩
      obtain ⟨A5, n5, c5, m5, f5, rfl⟩ := h5.form
      have hb6 := alloc_below w5 (.cells #[.slice A5 n5 c5, .int .i64 m5, .int .i64 f5] 41)
      obtain ⟨t0, t1, t2⟩ := three_new w5 (.slice A5 n5 c5) (.int .i64 m5) (.int .i64 f5) 41
      have k0 := cellb (bnext hb5 hb6) k0
      have k1 := cellb (bnext hb5 hb6) k1
      have s0 := cellb (bnext hb5 hb6) s0
      have s1 := cellb (bnext hb5 hb6) s1
      have s2 := cellb (bnext hb5 hb6) s2
      have B6 := Lib.hid (bnext B4.out (bnext hb5 hb6))
      have H5 := Lib.hid (h5.below hb6)
      have H6 := Lib.hid (H3.out.below (bnext hb5 hb6))
      clear hb5 hb6 h5
      go_wp2_with fail
      obtain ⟨W6, hW6⟩ : ∃ W6, w5.alloc (.cells #[.slice A5 n5 c5, .int .i64 m5, .int .i64 f5] 41) = W6 := ⟨_, rfl⟩
      rw [hW6] at k0 k1 s0 s1 s2 t0 t1 t2 B6 H5 H6
      (try rw [hW6])
      have Y0 : ∀ z : Laid W6, z.W.cell? ⟨w.heap.size, 0, none⟩ = some (.slice A n c) := fun z => cellb z.h k0
      have Y1 : ∀ z : Laid W6, z.W.cell? ⟨w.heap.size, 1, none⟩ = some (.slice A2 q c2) := fun z => cellb z.h k1
      have Y2 : ∀ z : Laid W6, z.W.cell? ⟨w3.heap.size, 0, none⟩ = some (.slice A3 n3 c3) := fun z => cellb z.h s0
      have Y3 : ∀ z : Laid W6, z.W.cell? ⟨w3.heap.size, 1, none⟩ = some (.int .i64 m3) := fun z => cellb z.h s1
      have Y4 : ∀ z : Laid W6, z.W.cell? ⟨w3.heap.size, 2, none⟩ = some (.int .i64 f3) := fun z => cellb z.h s2
      have Y5 : ∀ z : Laid W6, z.W.cell? ⟨w5.heap.size, 0, none⟩ = some (.slice A5 n5 c5) := fun z => cellb z.h t0
      have Y6 : ∀ z : Laid W6, z.W.cell? ⟨w5.heap.size, 1, none⟩ = some (.int .i64 m5) := fun z => cellb z.h t1
      have Y7 : ∀ z : Laid W6, z.W.cell? ⟨w5.heap.size, 2, none⟩ = some (.int .i64 f5) := fun z => cellb z.h t2
      have P3 := Lib.hid (fun z : Laid W6 => RP1.out z.W (bnext B6.out z.h))
      have R3 := Lib.hid (fun z : Laid W6 => RR1.out z.W (bnext B6.out z.h))
      have S3 := Lib.hid (fun z : Laid W6 => sameSchema_c _ _ S S L1.out L1.out z.W (H6.out.below z.h) (H5.out.below z.h))
      rw [show decide (S = S) = true from decide_eq_true rfl] at S3
      have hrr : (rv == rv) = true := by cases rv <;> rfl
      have hee : (E == E) = true := by simp
      clear k0 k1 s0 s1 s2 t0 t1 t2 H5 H6 H3 FD1 FR1 RP1 RR1 hW6
      refine wp_region_laid (by kernel_rfl) (by kernel_rfl) ?_
      repeat (go_big_quiet_step (first
        | (go_at_call 21; with_reducible exact Calls.laid (P3.out _))
        | (go_at_call 22; with_reducible exact Calls.laid (R3.out _))
        | (go_at_call 23; with_reducible exact Calls.laid (S3.out _))))
      refine wpQuiet_nil ?_
      intro W' hw'
      obtain ⟨pq, hw''⟩ := hw'
      rw [hw'']
      go_wp2
      go_ret
      exact ⟨rfl, bnext B6.out pq.h⟩
  · clear FD FR RP RR HLEN FITH
    go_enter Tryz.func4, Tryz.ntmps4
    go_wp2_with fail
    (try rw [hwb])
    refine AL.out.mono ?_; rintro _ w1 ⟨rfl, hb1⟩
    have k0 := cellb hb1 k0
    have k1 := cellb hb1 k1
    go_wp2_with fail
    refine (GR.out w1 (bnext HBW.out hb1)).mono ?_; rintro _ w2 ⟨rfl, hb2⟩
    go_wp2
    go_ret
    exact ⟨rfl, bnext (bnext HBW.out hb1) hb2⟩
end LW
end Go.Proofs.YtodlgbihdehmbaaGreatDoor
