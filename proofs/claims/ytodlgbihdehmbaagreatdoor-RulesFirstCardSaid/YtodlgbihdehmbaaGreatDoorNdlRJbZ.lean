/-
  Contracts of the document's own functions of layer 9: Compile, no ^ first.
-/
import Derived.Test.YtodlgbihdehmbaaGreatDoorNdlRIZ
set_option linter.unusedSimpArgs false
set_option linter.unusedVariables false
namespace Go.Proofs.YtodlgbihdehmbaaGreatDoor.Nd.NR
open Go.RowKit
set_option maxRecDepth 100000 in
set_option maxHeartbeats 8000000 in
theorem comp_n (p : ByteArray) (hl : ¬ 64 < p.size) (h0 : 0 < p.size) (c : Nat) (h94 : ¬ c = 94) (hcb : cutB 94 (bs p) = (bs p).drop 0) (hst : ((bs p).getD 0 0 == 94) = false) (e0 : (p[0]'h0).toNat = c) (w : World) :
    Calls Tryz.prog 30 #[.string p] w fun e w' => ∃ v, e = .returned (.tuple #[v, .int .i64 (ndComp (bs p)).2]) ∧ NnOut w' v (ndComp (bs p)).1 ∧ (ndComp (bs p)).1.ok ∧ (ndComp (bs p)).1.items.length ≤ 64 ∧ Below w.heap.size w w' := by
  have i94 : ¬ (c : Int) = 94 := by omega
  have i94b : ((c : Int) == 94) = false := beq_false_of_ne i94
  obtain ⟨N, E, hN⟩ : ∃ N E, ndComp (bs p) = (N, E) := ⟨_, _, rfl⟩
  have hl2 : ¬ 64 < (bs p).length := by rw [bs_length]; exact hl
  have HNO0 := Lib.hid (fun (hno : ndItems ((cutB 94 (bs p)).length + 1) (cutB 94 (bs p)) = none) (w' : World) (hb : Below w.heap.size w w') => show ∃ v, Ending.returned (.tuple #[.agg #[.bool false, .bool false, .slice none 0 0], .int .i64 10]) = .returned (.tuple #[v, .int .i64 E]) ∧ NnOut w' v N ∧ N.ok ∧ N.items.length ≤ 64 ∧ Below w.heap.size w w' from by
    have hc := ndComp_no hl2 hno
    rw [hN] at hc
    injection hc with hc1 hc2
    subst hc1 hc2
    exact ⟨_, rfl, ⟨_, rfl, ItOut.nil _⟩, (fun i h => by cases h), Nat.zero_le _, hb⟩)
  have HN := Lib.hid hN; have HL := Lib.hid hl2
  rw [hN]
  obtain ⟨i0, hi0, hz0, hzz1, hzz2⟩ := info_parts items_info
  clear hN hl2
  have H0 := Lib.hid (show CmpI w p (0) 0 (.slice none 0 0) [] ((w.alloc (.cells #[.bool false, .bool false, .slice none 0 0] 67)).alloc (.cells #[.bool false, .bool false, .slice none 0 0] 67)) from ⟨ItNew.nil _ _, rfl, by rw [hcb]; exact ItmI.start _, (fun i h => by cases h), dvar_first _ _ _ _, dvar_second _ _ _ _, alloc2_below _ _ _, by simp⟩)
  have HST := Lib.hid (show ((bs p).getD 0 0 == 94) = false from hst)
  have HCB := Lib.hid hcb
  clear hcb hst
  go_enter Tryz.func30, Tryz.ntmps30
  go_wp2
  go_loopw [5, 6, 7, 8, 9] (fun av _ _ _ _ wr => ∃ (q n : Nat) (vr : Value) (L : List NI), av = .int .i64 (q : Nat) ∧ q ≤ p.size ∧ n ≤ q ∧ 0 ≤ q ∧ wr.cell? ⟨w.heap.size + 1, 0, none⟩ = some (.bool false) ∧ wr.cell? ⟨w.heap.size + 1, 1, none⟩ = some (.bool false) ∧ wr.cell? ⟨w.heap.size + 1, 2, none⟩ = some vr ∧ Hid (CmpI w p q n vr L wr)) (fun av _ _ _ _ _ => p.size - (intOf av).toNat)
  case atStart => exact ⟨0, 0, _, [], by go_num, by omega, by omega, Nat.le_refl _, by go_simp, by go_simp, by go_simp, H0.out⟩
  case round =>
    obtain ⟨q, n, vr, L, rfl, hq, hn, hq0, c0, c1, c2, HI⟩ := hrel
    obtain ⟨wo, rfl⟩ : ∃ wo : World, wo = wr := ⟨_, rfl⟩
    obtain ⟨AL, cl, hvr, hcl, _⟩ := HI.out.new.out
    subst hvr
    rw [HI.out.len] at c2 hcl HI
    by_cases hqs : q < p.size
    · obtain ⟨a, hd, e0, ha⟩ := bs_at hqs
      have HD := Lib.hid hd
      have hi0 := HI.out.itm
      rw [hd] at hi0
      have HM := Lib.hid hi0
      have hqi : (q : Int) < (p.size : Int) := by omega
      clear hd hi0
      by_cases h36 : a = 36
      · subst h36
        by_cases hqe : q + 1 = p.size
        · have hc := ndComp_yes HL.out (ItmI.dollar (show ItmI (cutB 94 (bs p)) [36] L by have h := HM.out; rw [show (bs p).drop (q + 1) = [] from List.drop_eq_nil_of_le (by rw [bs_length]; omega)] at h; exact h))
          rw [HN.out, HST.out] at hc
          injection hc with hc1 hc2
          subst hc1 hc2
          have hqi2 : ((q : Int) == (p.size : Int) - 1) = true := beq_iff_eq.2 (by omega)
          have f1 := HI.out.d1.f 1 (by decide)
          have hb0 := alloc_below (wo.setCell ⟨w.heap.size + 1, 1, none⟩ (.bool true)) (.cells #[.int .u64 0, .int .u64 0, .int .u64 0, .int .u64 0, .bool false] 103)
          have HD2 := Lib.hid ((HI.out.d0.set (b' := w.heap.size + 1) (o := 1) (.bool true)).below hb0)
          have HB2 := Lib.hid (bnext (HI.out.low.setCell (p := ⟨w.heap.size + 1, 1, none⟩) (by simp) (.bool true)) hb0)
          have HI2 := Lib.hid ((HI.out.new.kept (grown_set1 _ (w.heap.size + 1) 1 (.bool true)) (by omega)).below hb0)
          have HLN := Lib.hid (show L.length ≤ 64 by rw [HI.out.len]; omega)
          have z1 : w.heap.size + 1 < wo.heap.size := HI.out.size
          have HQE := Lib.hid hqe
          clear hb0 hqe
          go_wp2_with (refine wpList_put rfl 67 _ _ rfl w.heap.size [.bool false, .bool true, .slice AL n cl] rfl rfl HD2.out (by kernel_rfl) (by simp [Value.oneCell']) ?_; intro y9 hq9; obtain ⟨s0, s1, s2⟩ := hq9.at_.three)
          exact bodyPost_ret (v := .tuple #[.agg #[.bool false, .bool true, .slice AL n cl], .int .i64 0]) (by simp [results, Tryz.results30, go_sem, s0, s1, s2]) rfl ⟨_, rfl, ⟨_, rfl, (HI2.out.kept hq9.grown (by omega)).out⟩, HI.out.ok, HLN.out, hq9.below (Nat.le_refl _) HB2.out⟩
        · have hqi2 : ¬ (q : Int) = (p.size : Int) - 1 := by omega
          have HNO := Lib.hid (HNO0.out (itm_none HM.out (fun e => by have h := congrArg List.length e.2; rw [List.length_drop, bs_length] at h; simp at h; omega) (ndAt_none (by omega))))
          have hb0 := alloc_below wo (.cells #[.int .u64 0, .int .u64 0, .int .u64 0, .int .u64 0, .bool false] 103)
          have HD2 := Lib.hid (HI.out.d0.below hb0); have HB2 := Lib.hid (bnext HI.out.low hb0)
          clear hb0
          go_wp2_with (refine wpList_put rfl 67 _ _ rfl w.heap.size [.bool false, .bool false, .slice none 0 0] rfl rfl HD2.out (by kernel_rfl) (by simp [Value.oneCell']) ?_; intro y9 hq9; obtain ⟨s0, s1, s2⟩ := hq9.at_.three)
          exact bodyPost_ret (v := .tuple #[.agg #[.bool false, .bool false, .slice none 0 0], .int .i64 10]) (by simp [results, Tryz.results30, go_sem, s0, s1, s2]) rfl (HNO.out _ (hq9.below (Nat.le_refl _) HB2.out))
      · have i36 : ¬ (a : Int) = 36 := by omega
        have i36b : ((a : Int) == 36) = false := beq_false_of_ne i36
        go_upto_block 2 with fail
        have hv0 := DVar.alloc (w := wo) #[.int .u64 0, .int .u64 0, .int .u64 0, .int .u64 0, .bool false] 103
        have hk0 : (wo.alloc (.cells #[.int .u64 0, .int .u64 0, .int .u64 0, .int .u64 0, .bool false] 103)).cell? ⟨wo.heap.size, 4, none⟩ = some (.bool false) := by simp
        have hb0 := alloc_below wo (.cells #[.int .u64 0, .int .u64 0, .int .u64 0, .int .u64 0, .bool false] 103)
        generalize wo.alloc (.cells #[.int .u64 0, .int .u64 0, .int .u64 0, .int .u64 0, .bool false] 103) = w1 at hv0 hk0 hb0 ⊢
        have HV := Lib.hid (show DVar w1 wo.heap.size 5 from hv0); have HB0 := Lib.hid hb0; have k4 := hk0
        have HB1 := Lib.hid (bnext HI.out.low hb0); have HD1 := Lib.hid (HI.out.d0.below hb0)
        clear hv0 hk0 hb0
        go_cut [5, 7, 8, 9] from 30 to 86 (fun av _ _ _ wx => ∃ (q2 a0 a1 a2 a3 : Nat), av = .int .i64 (q2 : Nat) ∧ q < q2 ∧ q2 ≤ p.size ∧ wx.cell? ⟨wo.heap.size, 0, none⟩ = some (.int .u64 (a0 : Nat)) ∧ wx.cell? ⟨wo.heap.size, 1, none⟩ = some (.int .u64 (a1 : Nat)) ∧ wx.cell? ⟨wo.heap.size, 2, none⟩ = some (.int .u64 (a2 : Nat)) ∧ wx.cell? ⟨wo.heap.size, 3, none⟩ = some (.int .u64 (a3 : Nat)) ∧ wx.cell? ⟨wo.heap.size, 4, none⟩ = some (.bool false) ∧ Hid (DVar wx wo.heap.size 5) ∧ Hid (Below wo.heap.size wo wx) ∧ Hid (ndAt ((bs p).drop q) = some (NI.set a0 a1 a2 a3, (bs p).drop q2)) ∧ Hid (a0 < 18446744073709551616 ∧ a1 < 18446744073709551616 ∧ a2 < 18446744073709551616 ∧ a3 < 18446744073709551616))
        case first =>
          by_cases h94 : a = 94
          · subst h94
            have HNO := Lib.hid (HNO0.out (itm_none HM.out (fun e => by omega) (ndAt_none (by omega))))
            go_wp2_with (refine wpList_put rfl 67 _ _ rfl w.heap.size [.bool false, .bool false, .slice none 0 0] rfl rfl HD1.out (by kernel_rfl) (by simp [Value.oneCell']) ?_; intro y9 hq9; obtain ⟨s0, s1, s2⟩ := hq9.at_.three)
            exact bodyPost_ret (v := .tuple #[.agg #[.bool false, .bool false, .slice none 0 0], .int .i64 10]) (by simp [results, Tryz.results30, go_sem, s0, s1, s2]) rfl (HNO.out _ (hq9.below (Nat.le_refl _) HB1.out))
          · have i94 : ¬ (a : Int) = 94 := by omega
            have i94b : ((a : Int) == 94) = false := beq_false_of_ne i94
            by_cases h42 : a = 42
            · subst h42
              have HNO := Lib.hid (HNO0.out (itm_none HM.out (fun e => by omega) (ndAt_none (by omega))))
              go_wp2_with (refine wpList_put rfl 67 _ _ rfl w.heap.size [.bool false, .bool false, .slice none 0 0] rfl rfl HD1.out (by kernel_rfl) (by simp [Value.oneCell']) ?_; intro y9 hq9; obtain ⟨s0, s1, s2⟩ := hq9.at_.three)
              exact bodyPost_ret (v := .tuple #[.agg #[.bool false, .bool false, .slice none 0 0], .int .i64 10]) (by simp [results, Tryz.results30, go_sem, s0, s1, s2]) rfl (HNO.out _ (hq9.below (Nat.le_refl _) HB1.out))
            · have i42 : ¬ (a : Int) = 42 := by omega
              have i42b : ((a : Int) == 42) = false := beq_false_of_ne i42
              by_cases h93 : a = 93
              · subst h93
                have HNO := Lib.hid (HNO0.out (itm_none HM.out (fun e => by omega) (ndAt_none (by omega))))
                go_wp2_with (refine wpList_put rfl 67 _ _ rfl w.heap.size [.bool false, .bool false, .slice none 0 0] rfl rfl HD1.out (by kernel_rfl) (by simp [Value.oneCell']) ?_; intro y9 hq9; obtain ⟨s0, s1, s2⟩ := hq9.at_.three)
                exact bodyPost_ret (v := .tuple #[.agg #[.bool false, .bool false, .slice none 0 0], .int .i64 10]) (by simp [results, Tryz.results30, go_sem, s0, s1, s2]) rfl (HNO.out _ (hq9.below (Nat.le_refl _) HB1.out))
              · have i93 : ¬ (a : Int) = 93 := by omega
                have i93b : ((a : Int) == 93) = false := beq_false_of_ne i93
                by_cases h46 : a = 46
                · subst h46
                  have HAT := Lib.hid (show ndAt ((bs p).drop q) = some (NI.set 18446744073709551615 18446744073709551615 18446744073709551615 18446744073709551615, (bs p).drop (q + 1)) by rw [HD.out]; rfl)
                  have HD4 := Lib.hid (show DVar w1 wo.heap.size 4 from HV.out.mono (by decide))
                  go_wp2_with (refine wpList_put rfl 101 _ _ rfl wo.heap.size [.int .u64 ((18446744073709551615 : Nat) : Int), .int .u64 ((18446744073709551615 : Nat) : Int), .int .u64 ((18446744073709551615 : Nat) : Int), .int .u64 ((18446744073709551615 : Nat) : Int)] rfl rfl HD4.out (by kernel_rfl) (by simp [Value.oneCell']) ?_; intro y1 hp; obtain ⟨t0, t1, t2, t3⟩ := hp.at_.four)
                  have t4 := (hp.off 4 (Nat.le_refl _)).trans k4
                  have HV2 := Lib.hid (hp.vars _ _ HV.out); have HB2 := Lib.hid (hp.below (Nat.le_refl _) HB0.out)
                  go_meet
                  exact ⟨q + 1, _, _, _, _, by go_num, by omega, by omega, t0, t1, t2, t3, t4, HV2.out, HB2.out, HAT.out, ⟨by decide, by decide, by decide, by decide⟩⟩
                · have i46 : ¬ (a : Int) = 46 := by omega
                  have i46b : ((a : Int) == 46) = false := beq_false_of_ne i46
                  by_cases h92 : a = 92
                  · subst h92
                    by_cases hq1 : q + 1 < p.size
                    · obtain ⟨b, hd1, x0, hb⟩ := bs_at hq1
                      have HAT := Lib.hid (show ndAt ((bs p).drop q) = some (NI.set (ndOne b).s0 (ndOne b).s1 (ndOne b).s2 (ndOne b).s3, (bs p).drop (q + 2)) by rw [HD.out, hd1, set_one]; rfl)
                      have HLT := Lib.hid (one_lt hb)
                      have OC := Lib.hid (fun W => one_c b hb W)
                      have hne : ¬ (q : Int) = (p.size : Int) - 1 := by omega
                      clear hd1
                      go_wp2_with fail
                      refine (OC.out _).mono ?_; rintro _ w2 ⟨rfl, hb2⟩
                      have HV1 := Lib.hid (HV.out.below hb2); have HB5 := Lib.hid (bnext HB0.out hb2)
                      clear hb2
                      go_wp2_with (refine wpList_put rfl 103 _ _ rfl wo.heap.size [.int .u64 ((ndOne b).s0 : Nat), .int .u64 ((ndOne b).s1 : Nat), .int .u64 ((ndOne b).s2 : Nat), .int .u64 ((ndOne b).s3 : Nat), .bool false] rfl rfl HV1.out (by kernel_rfl) (by simp [Value.oneCell']) ?_; intro y1 hp; obtain ⟨t0, t1, t2, t3, t4⟩ := hp.at_.cells5)
                      have HV2 := Lib.hid (hp.vars _ _ HV1.out); have HB2 := Lib.hid (hp.below (Nat.le_refl _) HB5.out)
                      go_meet
                      exact ⟨q + 2, _, _, _, _, by go_num, by omega, by omega, t0, t1, t2, t3, t4, HV2.out, HB2.out, HAT.out, HLT.out⟩
                    · have hqe : (q : Int) = (p.size : Int) - 1 := by omega
                      have HNO := Lib.hid (HNO0.out (itm_none HM.out (fun e => by omega) (by rw [show (bs p).drop (q + 1) = [] from List.drop_eq_nil_of_le (by rw [bs_length]; omega)]; rfl)))
                      go_wp2_with (refine wpList_put rfl 67 _ _ rfl w.heap.size [.bool false, .bool false, .slice none 0 0] rfl rfl HD1.out (by kernel_rfl) (by simp [Value.oneCell']) ?_; intro y9 hq9; obtain ⟨s0, s1, s2⟩ := hq9.at_.three)
                      exact bodyPost_ret (v := .tuple #[.agg #[.bool false, .bool false, .slice none 0 0], .int .i64 10]) (by simp [results, Tryz.results30, go_sem, s0, s1, s2]) rfl (HNO.out _ (hq9.below (Nat.le_refl _) HB1.out))
                  · have i92 : ¬ (a : Int) = 92 := by omega
                    have i92b : ((a : Int) == 92) = false := beq_false_of_ne i92
                    by_cases h91 : a = 91
                    · subst h91
                      have CC := Lib.hid (fun W => class_c p (q + 1) (by omega) (by omega) W)
                      go_wp2_with fail
                      refine (CC.out _).mono ?_; rintro _ w2 ⟨a0, a1, a2, a3, k2, ok, rfl, hci, hk2, hlt, hb2⟩
                      have HV1 := Lib.hid (HV.out.below hb2); have HB5 := Lib.hid (bnext HB0.out hb2)
                      cases ok with
                      | false =>
                        have HNO := Lib.hid (HNO0.out (itm_none HM.out (fun e => by omega) (cls_no hci)))
                        clear hci hk2 hlt
                        go_upto_if 83 with (refine wpList_put rfl 103 _ _ rfl w2.heap.size [.int .u64 (a0 : Nat), .int .u64 (a1 : Nat), .int .u64 (a2 : Nat), .int .u64 (a3 : Nat), .bool false] rfl rfl (DVar.alloc _ _) (by kernel_rfl) (by simp [Value.oneCell']) ?_; intro y1 hp; obtain ⟨t0, t1, t2, t3, t4⟩ := hp.at_.cells5)
                        have hb3 : Below w2.heap.size w2 y1 := hp.below (Nat.le_refl _) (alloc_below _ _)
                        have HB6 := Lib.hid (bnext (bnext HB1.out hb2) hb3); have HD6 := Lib.hid ((HD1.out.below hb2).below hb3)
                        clear hp hb2 hb3 t0 t1 t2 t3 t4
                        go_wp2_with (refine wpList_put rfl 67 _ _ rfl w.heap.size [.bool false, .bool false, .slice none 0 0] rfl rfl HD6.out (by kernel_rfl) (by simp [Value.oneCell']) ?_; intro y9 hq9; obtain ⟨s0, s1, s2⟩ := hq9.at_.three)
                        exact bodyPost_ret (v := .tuple #[.agg #[.bool false, .bool false, .slice none 0 0], .int .i64 10]) (by simp [results, Tryz.results30, go_sem, s0, s1, s2]) rfl (HNO.out _ (hq9.below (Nat.le_refl _) HB6.out))
                      | true =>
                        have HLT := Lib.hid hlt
                        have hk3 := hk2 rfl
                        have HAT := Lib.hid (show ndAt ((bs p).drop q) = some (NI.set a0 a1 a2 a3, (bs p).drop k2) by rw [HD.out]; exact cls_at hci)
                        have hkq : q + 1 < k2 := by
                          have h1 := ndClass_rest (l := (bs p).drop (q + 1)) (x := (NI.set a0 a1 a2 a3, (bs p).drop k2)) (by rw [← ndAt_cls]; exact cls_at hci)
                          rw [List.length_drop, List.length_drop, bs_length] at h1
                          omega
                        clear hci hk2 hlt
                        go_upto_if 83 with (refine wpList_put rfl 103 _ _ rfl w2.heap.size [.int .u64 (a0 : Nat), .int .u64 (a1 : Nat), .int .u64 (a2 : Nat), .int .u64 (a3 : Nat), .bool false] rfl rfl (DVar.alloc _ _) (by kernel_rfl) (by simp [Value.oneCell']) ?_; intro y1 hp; obtain ⟨t0, t1, t2, t3, t4⟩ := hp.at_.cells5)
                        have hb3 : Below w2.heap.size w2 y1 := hp.below (Nat.le_refl _) (alloc_below _ _)
                        have HV6 := Lib.hid ((HV.out.below hb2).below hb3); have HB6 := Lib.hid (bnext (bnext HB0.out hb2) hb3)
                        clear hp hb2 hb3
                        go_wp2_with (refine wpList_put rfl 103 _ _ rfl wo.heap.size [.int .u64 (a0 : Nat), .int .u64 (a1 : Nat), .int .u64 (a2 : Nat), .int .u64 (a3 : Nat), .bool false] rfl rfl HV6.out (by kernel_rfl) (by simp [Value.oneCell']) ?_; intro y2 hp; obtain ⟨s0, s1, s2, s3, s4⟩ := hp.at_.cells5)
                        have HV2 := Lib.hid (hp.vars _ _ HV6.out); have HB2 := Lib.hid (hp.below (Nat.le_refl _) HB6.out)
                        go_meet
                        exact ⟨k2, _, _, _, _, by go_num, by omega, hk3, s0, s1, s2, s3, s4, HV2.out, HB2.out, HAT.out, HLT.out⟩
                    · have i91 : ¬ (a : Int) = 91 := by omega
                      have i91b : ((a : Int) == 91) = false := beq_false_of_ne i91
                      have HAT := Lib.hid (show ndAt ((bs p).drop q) = some (NI.set (ndOne a).s0 (ndOne a).s1 (ndOne a).s2 (ndOne a).s3, (bs p).drop (q + 1)) by rw [HD.out, set_one]; exact ndAt_one h46 h91 h92 h94 h36 h42 h93)
                      have HLT := Lib.hid (one_lt ha)
                      have OC := Lib.hid (fun W => one_c a ha W)
                      go_wp2_with fail
                      refine (OC.out _).mono ?_; rintro _ w2 ⟨rfl, hb2⟩
                      have HV1 := Lib.hid (HV.out.below hb2); have HB5 := Lib.hid (bnext HB0.out hb2)
                      clear hb2
                      go_wp2_with (refine wpList_put rfl 103 _ _ rfl wo.heap.size [.int .u64 ((ndOne a).s0 : Nat), .int .u64 ((ndOne a).s1 : Nat), .int .u64 ((ndOne a).s2 : Nat), .int .u64 ((ndOne a).s3 : Nat), .bool false] rfl rfl HV1.out (by kernel_rfl) (by simp [Value.oneCell']) ?_; intro y1 hp; obtain ⟨t0, t1, t2, t3, t4⟩ := hp.at_.cells5)
                      have HV2 := Lib.hid (hp.vars _ _ HV1.out); have HB2 := Lib.hid (hp.below (Nat.le_refl _) HB5.out)
                      go_meet
                      exact ⟨q + 1, _, _, _, _, by go_num, by omega, by omega, t0, t1, t2, t3, t4, HV2.out, HB2.out, HAT.out, HLT.out⟩
        case rest =>
          obtain ⟨q2, a0, a1, a2, a3, rfl, hq2, hq2s, k0, k1, k2, k3, k5, HV2, HB2, HAT, HLT⟩ := hcut
          have z1 : w.heap.size + 1 < wo.heap.size := HI.out.size
          have d0 := cell_low HB2.out z1 c0; have d1 := cell_low HB2.out z1 c1; have d2 := cell_low HB2.out z1 c2
          have HD2 := Lib.hid (dvar_low HB2.out z1 HI.out.d1)
          clear c0 c1 c2 k4 HB1 HD1 HV HB0
          by_cases hq2e : q2 < p.size
          · obtain ⟨b, hd2, x0, hbb⟩ := bs_at hq2e
            by_cases hb42 : b = 42
            · subst hb42
              have HIT := Lib.hid (item_star HAT.out (st := true) (r2 := (bs p).drop (q2 + 1)) (by rw [hd2]; rfl) (by rw [hd2]; rfl))
              rw [HD.out] at HIT
              have f4 := HV2.out.f 4 (by decide)
              clear hd2
              go_upto_region 38 with (fail)
              have g0 : (wc.setCell ⟨wo.heap.size, 4, none⟩ (.bool true)).cell? ⟨wo.heap.size, 0, none⟩ = some (.int .u64 (a0 : Nat)) := by go_simp
              have g1 : (wc.setCell ⟨wo.heap.size, 4, none⟩ (.bool true)).cell? ⟨wo.heap.size, 1, none⟩ = some (.int .u64 (a1 : Nat)) := by go_simp
              have g2 : (wc.setCell ⟨wo.heap.size, 4, none⟩ (.bool true)).cell? ⟨wo.heap.size, 2, none⟩ = some (.int .u64 (a2 : Nat)) := by go_simp
              have g3 : (wc.setCell ⟨wo.heap.size, 4, none⟩ (.bool true)).cell? ⟨wo.heap.size, 3, none⟩ = some (.int .u64 (a3 : Nat)) := by go_simp
              have g4 : (wc.setCell ⟨wo.heap.size, 4, none⟩ (.bool true)).cell? ⟨wo.heap.size, 4, none⟩ = some (.bool true) := by go_simp
              have hlo : Below wo.heap.size wc (wc.setCell ⟨wo.heap.size, 4, none⟩ (.bool true)) := (Below.refl _ wc).setCell (p := ⟨_, _, _⟩) (Nat.le_refl _) _
              have e0' := cell_low hlo z1 d0; have e1' := cell_low hlo z1 d1; have e2' := cell_low hlo z1 d2
              have HBy := Lib.hid (HB2.out.trans hlo); have HDy := Lib.hid (dvar_low hlo z1 HD2.out)
              clear k0 k1 k2 k3 k5 d0 d1 d2 f4 hlo HB2 HD2
              generalize wc.setCell ⟨wo.heap.size, 4, none⟩ (.bool true) = wy at g0 g1 g2 g3 g4 e0' e1' e2' HBy HDy ⊢
              have how := ownsRow_next HI.out.new HBy.out
              rw [HI.out.len] at how
              have HOW := Lib.hid how
              have hszy := Nat.le_trans HI.out.size HBy.out.size
              have f2 := HDy.out.f 2 (by decide)
              clear how
              go_wp2_with (at_builtin; refine wpList_append_any _ rfl (.tmp 101) (.tmp 103) _ rfl (w.heap.size + 2) 103 i0 (.agg #[.int .u64 0, .int .u64 0, .int .u64 0, .int .u64 0, .bool false]) 5 40 Tryz.underlying65 hi0 hz0 hzz1 hzz2 rfl (by decide) (.slice AL n cl) n (itsC L) rfl (World.ownsRow.alloc HOW.out _) _ (some ⟨wy.heap.size, 0, none⟩) 1 1 (itC ⟨a0, a1, a2, a3, true⟩) rfl (Reads.of_own (World.ownsRow_lit (base := 0) (e := 103) (size := 5) wy #[.int .u64 (a0 : Nat), .int .u64 (a1 : Nat), .int .u64 (a2 : Nat), .int .u64 (a3 : Nat), .bool true] 1 (Nat.zero_le _) (by decide) rfl)) (it_one _) (by simp only [maxLen]; omega) (by omega) (by simp; omega) ?_; intro v3 w3 hown3 hg3 hat3; obtain ⟨A3, c3, rfl⟩ := own_slice hown3; have hlow : Below (w.heap.size + 2) wy w3 := Below.grown ((Below.refl _ wy).alloc hszy _) hg3 (by simp; omega) (fun k e => (World.ownsRow.lt HOW.out k e).1); have m0 := cell_low hlow (Nat.lt_succ_self (w.heap.size + 1)) e0'; have m1 := cell_low hlow (Nat.lt_succ_self (w.heap.size + 1)) e1'; have m2 := cell_low hlow (Nat.lt_succ_self (w.heap.size + 1)) e2'; have fm2 := (hlow.frozen (p := ⟨w.heap.size + 1, 2, none⟩) (Nat.lt_succ_self (w.heap.size + 1))).trans f2)
              have HCX := Lib.hid (fun (u : Value) => CmpI.next (b := 2) (u := u) HI.out HD.out HIT.out HLT.out hown3 ((HBy.out.mono HI.out.size).trans hlow))
              clear hown3 hg3 hlow; try clear hat3
              go_roundw
              case rel => exact ⟨q2 + 1, n + 1, _, L ++ [⟨a0, a1, a2, a3, true⟩], by go_num, by omega, by omega, by omega, by go_simp, by go_simp, by go_simp, Lib.hid (HCX.out _)⟩
              case measure => simp [intOf]; omega
            · have i42 : ¬ (b : Int) = 42 := by omega
              have i42b : ((b : Int) == 42) = false := beq_false_of_ne i42
              have HIT := Lib.hid (item_star HAT.out (st := false) (r2 := (bs p).drop q2) (by rw [hd2]; exact beq_false_of_ne hb42) (by rw [hd2]; exact if_neg (fun e => hb42 (eq_of_beq e))))
              rw [HD.out] at HIT
              clear hd2
              have g0 := k0; have g1 := k1; have g2 := k2; have g3 := k3; have g4 := k5; have e0' := d0; have e1' := d1; have e2' := d2
              have HBy := HB2; have HDy := HD2
              clear k0 k1 k2 k3 k5 d0 d1 d2 HB2 HD2
              obtain ⟨wy, rfl⟩ : ∃ wy : World, wy = wc := ⟨_, rfl⟩
              have how := ownsRow_next HI.out.new HBy.out
              rw [HI.out.len] at how
              have HOW := Lib.hid how
              have hszy := Nat.le_trans HI.out.size HBy.out.size
              have f2 := HDy.out.f 2 (by decide)
              clear how
              go_wp2_with (at_builtin; refine wpList_append_any _ rfl (.tmp 101) (.tmp 103) _ rfl (w.heap.size + 2) 103 i0 (.agg #[.int .u64 0, .int .u64 0, .int .u64 0, .int .u64 0, .bool false]) 5 40 Tryz.underlying65 hi0 hz0 hzz1 hzz2 rfl (by decide) (.slice AL n cl) n (itsC L) rfl (World.ownsRow.alloc HOW.out _) _ (some ⟨wy.heap.size, 0, none⟩) 1 1 (itC ⟨a0, a1, a2, a3, false⟩) rfl (Reads.of_own (World.ownsRow_lit (base := 0) (e := 103) (size := 5) wy #[.int .u64 (a0 : Nat), .int .u64 (a1 : Nat), .int .u64 (a2 : Nat), .int .u64 (a3 : Nat), .bool false] 1 (Nat.zero_le _) (by decide) rfl)) (it_one _) (by simp only [maxLen]; omega) (by omega) (by simp; omega) ?_; intro v3 w3 hown3 hg3 hat3; obtain ⟨A3, c3, rfl⟩ := own_slice hown3; have hlow : Below (w.heap.size + 2) wy w3 := Below.grown ((Below.refl _ wy).alloc hszy _) hg3 (by simp; omega) (fun k e => (World.ownsRow.lt HOW.out k e).1); have m0 := cell_low hlow (Nat.lt_succ_self (w.heap.size + 1)) e0'; have m1 := cell_low hlow (Nat.lt_succ_self (w.heap.size + 1)) e1'; have m2 := cell_low hlow (Nat.lt_succ_self (w.heap.size + 1)) e2'; have fm2 := (hlow.frozen (p := ⟨w.heap.size + 1, 2, none⟩) (Nat.lt_succ_self (w.heap.size + 1))).trans f2)
              have HCX := Lib.hid (fun (u : Value) => CmpI.next (b := 2) (u := u) HI.out HD.out HIT.out HLT.out hown3 ((HBy.out.mono HI.out.size).trans hlow))
              clear hown3 hg3 hlow; try clear hat3
              go_roundw
              case rel => exact ⟨q2, n + 1, _, L ++ [⟨a0, a1, a2, a3, false⟩], by go_num, by omega, by omega, by omega, by go_simp, by go_simp, by go_simp, Lib.hid (HCX.out _)⟩
              case measure => simp [intOf]; omega
          · obtain rfl : q2 = p.size := by omega
            have HIT := Lib.hid (item_star HAT.out (st := false) (r2 := (bs p).drop p.size) (by rw [drop_end]; rfl) (by rw [drop_end]; rfl))
            rw [HD.out] at HIT
            have g0 := k0; have g1 := k1; have g2 := k2; have g3 := k3; have g4 := k5; have e0' := d0; have e1' := d1; have e2' := d2
            have HBy := HB2; have HDy := HD2
            clear k0 k1 k2 k3 k5 d0 d1 d2 HB2 HD2
            obtain ⟨wy, rfl⟩ : ∃ wy : World, wy = wc := ⟨_, rfl⟩
            have how := ownsRow_next HI.out.new HBy.out
            rw [HI.out.len] at how
            have HOW := Lib.hid how
            have hszy := Nat.le_trans HI.out.size HBy.out.size
            have f2 := HDy.out.f 2 (by decide)
            clear how
            go_wp2_with (at_builtin; refine wpList_append_any _ rfl (.tmp 101) (.tmp 103) _ rfl (w.heap.size + 2) 103 i0 (.agg #[.int .u64 0, .int .u64 0, .int .u64 0, .int .u64 0, .bool false]) 5 40 Tryz.underlying65 hi0 hz0 hzz1 hzz2 rfl (by decide) (.slice AL n cl) n (itsC L) rfl (World.ownsRow.alloc HOW.out _) _ (some ⟨wy.heap.size, 0, none⟩) 1 1 (itC ⟨a0, a1, a2, a3, false⟩) rfl (Reads.of_own (World.ownsRow_lit (base := 0) (e := 103) (size := 5) wy #[.int .u64 (a0 : Nat), .int .u64 (a1 : Nat), .int .u64 (a2 : Nat), .int .u64 (a3 : Nat), .bool false] 1 (Nat.zero_le _) (by decide) rfl)) (it_one _) (by simp only [maxLen]; omega) (by omega) (by simp; omega) ?_; intro v3 w3 hown3 hg3 hat3; obtain ⟨A3, c3, rfl⟩ := own_slice hown3; have hlow : Below (w.heap.size + 2) wy w3 := Below.grown ((Below.refl _ wy).alloc hszy _) hg3 (by simp; omega) (fun k e => (World.ownsRow.lt HOW.out k e).1); have m0 := cell_low hlow (Nat.lt_succ_self (w.heap.size + 1)) e0'; have m1 := cell_low hlow (Nat.lt_succ_self (w.heap.size + 1)) e1'; have m2 := cell_low hlow (Nat.lt_succ_self (w.heap.size + 1)) e2'; have fm2 := (hlow.frozen (p := ⟨w.heap.size + 1, 2, none⟩) (Nat.lt_succ_self (w.heap.size + 1))).trans f2)
            have HCX := Lib.hid (fun (u : Value) => CmpI.next (b := 2) (u := u) HI.out HD.out HIT.out HLT.out hown3 ((HBy.out.mono HI.out.size).trans hlow))
            clear hown3 hg3 hlow; try clear hat3
            go_roundw
            case rel => exact ⟨p.size, n + 1, _, L ++ [⟨a0, a1, a2, a3, false⟩], by go_num, by omega, by omega, by omega, by go_simp, by go_simp, by go_simp, Lib.hid (HCX.out _)⟩
            case measure => simp [intOf]; omega
    · obtain rfl : q = p.size := by omega
      have hc := ndComp_yes HL.out (ItmI.end_ (show ItmI (cutB 94 (bs p)) [] L by have h := HI.out.itm; rw [drop_end] at h; exact h))
      rw [HN.out, HST.out] at hc
      injection hc with hc1 hc2
      subst hc1 hc2
      have HLN := Lib.hid (show L.length ≤ 64 by rw [HI.out.len]; omega)
      go_wp2_with (refine wpList_put rfl 67 _ _ rfl w.heap.size [.bool false, .bool false, .slice AL n cl] rfl rfl HI.out.d0 (by kernel_rfl) (by simp [Value.oneCell']) ?_; intro y9 hq9; obtain ⟨s0, s1, s2⟩ := hq9.at_.three)
      exact bodyPost_ret (v := .tuple #[.agg #[.bool false, .bool false, .slice AL n cl], .int .i64 0]) (by simp [results, Tryz.results30, go_sem, s0, s1, s2]) rfl ⟨_, rfl, ⟨_, rfl, (HI.out.new.kept hq9.grown (by omega)).out⟩, HI.out.ok, HLN.out, hq9.below (Nat.le_refl _) HI.out.low⟩
set_option maxRecDepth 100000 in
set_option maxHeartbeats 8000000 in
theorem comp_e (p : ByteArray) (hl : ¬ 64 < p.size) (h0 : p.size = 0) (hcb : cutB 94 (bs p) = (bs p).drop 0) (hst : ((bs p).getD 0 0 == 94) = false) (w : World) :
    Calls Tryz.prog 30 #[.string p] w fun e w' => ∃ v, e = .returned (.tuple #[v, .int .i64 (ndComp (bs p)).2]) ∧ NnOut w' v (ndComp (bs p)).1 ∧ (ndComp (bs p)).1.ok ∧ (ndComp (bs p)).1.items.length ≤ 64 ∧ Below w.heap.size w w' := by
  obtain ⟨N, E, hN⟩ : ∃ N E, ndComp (bs p) = (N, E) := ⟨_, _, rfl⟩
  have hl2 : ¬ 64 < (bs p).length := by rw [bs_length]; exact hl
  have HNO0 := Lib.hid (fun (hno : ndItems ((cutB 94 (bs p)).length + 1) (cutB 94 (bs p)) = none) (w' : World) (hb : Below w.heap.size w w') => show ∃ v, Ending.returned (.tuple #[.agg #[.bool false, .bool false, .slice none 0 0], .int .i64 10]) = .returned (.tuple #[v, .int .i64 E]) ∧ NnOut w' v N ∧ N.ok ∧ N.items.length ≤ 64 ∧ Below w.heap.size w w' from by
    have hc := ndComp_no hl2 hno
    rw [hN] at hc
    injection hc with hc1 hc2
    subst hc1 hc2
    exact ⟨_, rfl, ⟨_, rfl, ItOut.nil _⟩, (fun i h => by cases h), Nat.zero_le _, hb⟩)
  have HN := Lib.hid hN; have HL := Lib.hid hl2
  rw [hN]
  obtain ⟨i0, hi0, hz0, hzz1, hzz2⟩ := info_parts items_info
  clear hN hl2
  have H0 := Lib.hid (show CmpI w p (0) 0 (.slice none 0 0) [] ((w.alloc (.cells #[.bool false, .bool false, .slice none 0 0] 67)).alloc (.cells #[.bool false, .bool false, .slice none 0 0] 67)) from ⟨ItNew.nil _ _, rfl, by rw [hcb]; exact ItmI.start _, (fun i h => by cases h), dvar_first _ _ _ _, dvar_second _ _ _ _, alloc2_below _ _ _, by simp⟩)
  have HST := Lib.hid (show ((bs p).getD 0 0 == 94) = false from hst)
  have HCB := Lib.hid hcb
  clear hcb hst
  go_enter Tryz.func30, Tryz.ntmps30
  go_wp2
  go_loopw [5, 6, 7, 8, 9] (fun av _ _ _ _ wr => ∃ (q n : Nat) (vr : Value) (L : List NI), av = .int .i64 (q : Nat) ∧ q ≤ p.size ∧ n ≤ q ∧ 0 ≤ q ∧ wr.cell? ⟨w.heap.size + 1, 0, none⟩ = some (.bool false) ∧ wr.cell? ⟨w.heap.size + 1, 1, none⟩ = some (.bool false) ∧ wr.cell? ⟨w.heap.size + 1, 2, none⟩ = some vr ∧ Hid (CmpI w p q n vr L wr)) (fun av _ _ _ _ _ => p.size - (intOf av).toNat)
  case atStart => exact ⟨0, 0, _, [], by go_num, by omega, by omega, Nat.le_refl _, by go_simp, by go_simp, by go_simp, H0.out⟩
  case round =>
    obtain ⟨q, n, vr, L, rfl, hq, hn, hq0, c0, c1, c2, HI⟩ := hrel
    obtain ⟨wo, rfl⟩ : ∃ wo : World, wo = wr := ⟨_, rfl⟩
    obtain ⟨AL, cl, hvr, hcl, _⟩ := HI.out.new.out
    subst hvr
    rw [HI.out.len] at c2 hcl HI
    by_cases hqs : q < p.size
    · exact absurd hqs (by omega)
    · obtain rfl : q = p.size := by omega
      have hc := ndComp_yes HL.out (ItmI.end_ (show ItmI (cutB 94 (bs p)) [] L by have h := HI.out.itm; rw [drop_end] at h; exact h))
      rw [HN.out, HST.out] at hc
      injection hc with hc1 hc2
      subst hc1 hc2
      have HLN := Lib.hid (show L.length ≤ 64 by rw [HI.out.len]; omega)
      go_wp2_with (refine wpList_put rfl 67 _ _ rfl w.heap.size [.bool false, .bool false, .slice AL n cl] rfl rfl HI.out.d0 (by kernel_rfl) (by simp [Value.oneCell']) ?_; intro y9 hq9; obtain ⟨s0, s1, s2⟩ := hq9.at_.three)
      exact bodyPost_ret (v := .tuple #[.agg #[.bool false, .bool false, .slice AL n cl], .int .i64 0]) (by simp [results, Tryz.results30, go_sem, s0, s1, s2]) rfl ⟨_, rfl, ⟨_, rfl, (HI.out.new.kept hq9.grown (by omega)).out⟩, HI.out.ok, HLN.out, hq9.below (Nat.le_refl _) HI.out.low⟩
end Go.Proofs.YtodlgbihdehmbaaGreatDoor.Nd.NR
