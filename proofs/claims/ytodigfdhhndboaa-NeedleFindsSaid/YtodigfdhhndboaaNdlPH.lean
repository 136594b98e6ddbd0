/-
  Contracts of the program's own functions of layer 9: atom, item.
-/
import Derived.Test.YtodigfdhhndboaaNdlPG
set_option linter.unusedSimpArgs false
set_option linter.unusedVariables false
namespace Go.Proofs.Ytodigfdhhndboaa.NP
open Go.RowKit
theorem one_range (a : Nat) : ∀ x, x < 256 → ((fun _ => false) x || (decide (a ≤ x) && decide (x ≤ a))) = decide (x = a) := fun x _ => by
  rw [Bool.false_or, ← Bool.decide_and, decide_eq_decide]
  omega
set_option maxRecDepth 100000 in
set_option maxHeartbeats 4000000 in
theorem atom_c (s : ByteArray) (hs0 : 0 < s.size) (hs : s.size ≤ 1000) (w : World) :
    Calls Try.prog 30 #[.string s] w fun e w' => ∃ (a0 a1 a2 a3 : Nat) (R : ByteArray) (ok : Bool), e = .returned (.tuple #[.agg #[.int .u64 (a0 : Nat), .int .u64 (a1 : Nat), .int .u64 (a2 : Nat), .int .u64 (a3 : Nat)], .string R, .bool ok]) ∧
      AtI (bs s) a0 a1 a2 a3 (bs R) ok ∧ (a0 < 18446744073709551616 ∧ a1 < 18446744073709551616 ∧ a2 < 18446744073709551616 ∧ a3 < 18446744073709551616) ∧ Below w.heap.size w w' := by
  obtain ⟨a, m, hb, e0, hml, ha⟩ := bs_cons hs0
  have hz1 : (1 : Int) ≤ (s.size : Int) := by omega
  have HF1 := Lib.hid (show bs (s.extract 1 s.size) = m by rw [bs_from, hb]; rfl)
  have hrl : (s.extract 1 s.size).size = m.length := by rw [← bs_length, HF1.out]
  rw [hb]
  clear hb
  go_enter Try.func30, Try.ntmps30
  go_wp2
  go_region
  have HD := Lib.hid (show DVar (w.alloc (.cells #[.int .u64 0, .int .u64 0, .int .u64 0, .int .u64 0] 55)).drew w.heap.size 4 from (DVar.alloc _ _).drew)
  have HB := Lib.hid (show Below w.heap.size w (w.alloc (.cells #[.int .u64 0, .int .u64 0, .int .u64 0, .int .u64 0] 55)).drew from (alloc_below _ _).drew)
  generalize (w.alloc (.cells #[.int .u64 0, .int .u64 0, .int .u64 0, .int .u64 0] 55)).drew = w1 at HD HB ⊢
  obtain ⟨R, hR⟩ : ∃ R, s.extract 1 s.size = R := ⟨_, rfl⟩
  rw [hR] at hrl HF1 ⊢
  have hrs : R.size ≤ 1000 := by omega
  have HRL := Lib.hid hrl
  clear hR hrl
  by_cases h46 : a = 46
  · subst h46
    have OC := Lib.hid (fun W => others_c 0 0 0 0 (by decide) (by decide) (by decide) (by decide) W)
    have HWD := Lib.hid Wd.none_.not
    have HLT := Lib.hid HWD.out.lt
    have HAI := Lib.hid (show AtI (46 :: m) (18446744073709551615 - 0) (18446744073709551615 - 0) (18446744073709551615 - 0) (18446744073709551615 - 0) m true from AtI.yes (by rw [ndAt_dot]; exact congrArg (fun z => some (z, m)) (Wd.all HWD.out).symm))
    obtain ⟨b0, hb0⟩ : ∃ b, 18446744073709551615 - 0 = b := ⟨_, rfl⟩
    rw [hb0] at OC HWD HLT HAI
    clear hb0
    go_wp2_with fail
    refine (OC.out _).mono ?_; rintro _ w2 ⟨rfl, hb2⟩
    have HD2 := Lib.hid (HD.out.below hb2); have HB2 := Lib.hid (bnext HB.out hb2)
    clear hb2
    go_wp2_with (refine wpList_put rfl 55 _ _ rfl w.heap.size [.int .u64 ((b0 : Nat)), .int .u64 ((b0 : Nat)), .int .u64 ((b0 : Nat)), .int .u64 ((b0 : Nat))] rfl rfl HD2.out (by kernel_rfl) (by simp [Value.oneCell']) ?_; intro y1 hp; obtain ⟨t0, t1, t2, t3⟩ := hp.at_.four)
    exact bodyPost_ret (v := .tuple #[.agg #[.int .u64 ((b0 : Nat)), .int .u64 ((b0 : Nat)), .int .u64 ((b0 : Nat)), .int .u64 ((b0 : Nat))], .string R, .bool true]) (by simp [results, Try.results30, go_sem, t0, t1, t2, t3]) rfl ⟨_, _, _, _, _, _, rfl, by rw [HF1.out]; exact HAI.out, HLT.out, hp.below (Nat.le_refl _) HB2.out⟩
  · have i46 : ¬ (a : Int) = 46 := by omega
    by_cases h91 : a = 91
    · subst h91
      have CC := Lib.hid (fun W => class_c R hrs W)
      go_wp2_with fail
      refine (CC.out _).mono ?_; rintro _ w2 ⟨b0, b1, b2, b3, R2, ok, rfl, hci, hlt, hb2⟩
      have HD2 := Lib.hid (HD.out.below hb2); have HB2 := Lib.hid (bnext HB.out hb2)
      rw [HF1.out] at hci
      have HAI := Lib.hid (AtI.cls hci); have HLT := Lib.hid hlt
      clear hb2 hci hlt
      go_wp2_with (refine wpList_put rfl 55 _ _ rfl w.heap.size [.int .u64 ((b0 : Nat)), .int .u64 ((b1 : Nat)), .int .u64 ((b2 : Nat)), .int .u64 ((b3 : Nat))] rfl rfl HD2.out (by kernel_rfl) (by simp [Value.oneCell']) ?_; intro y1 hp; obtain ⟨t0, t1, t2, t3⟩ := hp.at_.four)
      exact bodyPost_ret (v := .tuple #[.agg #[.int .u64 ((b0 : Nat)), .int .u64 ((b1 : Nat)), .int .u64 ((b2 : Nat)), .int .u64 ((b3 : Nat))], .string R2, .bool ok]) (by simp [results, Try.results30, go_sem, t0, t1, t2, t3]) rfl ⟨_, _, _, _, _, _, rfl, HAI.out, HLT.out, hp.below (Nat.le_refl _) HB2.out⟩
    · have i91 : ¬ (a : Int) = 91 := by omega
      by_cases h92 : a = 92
      · subst h92
        by_cases hz : R.size = 0
        · obtain rfl := is_empty hz
          have HNO := Lib.hid (show ndAt (92 :: m) = none by rw [List.eq_nil_of_length_eq_zero (l := m) (by have := HRL.out; omega)]; rfl)
          go_wp2_with (refine wpList_put rfl 55 _ _ rfl w.heap.size [.int .u64 (0), .int .u64 (0), .int .u64 (0), .int .u64 (0)] rfl rfl HD.out (by kernel_rfl) (by simp [Value.oneCell']) ?_; intro y1 hp; obtain ⟨t0, t1, t2, t3⟩ := hp.at_.four)
          exact bodyPost_ret (v := .tuple #[.agg #[.int .u64 (((0 : Nat) : Int)), .int .u64 (((0 : Nat) : Int)), .int .u64 (((0 : Nat) : Int)), .int .u64 (((0 : Nat) : Int))], .string ⟨#[]⟩, .bool false]) (by simp [results, Try.results30, go_sem, t0, t1, t2, t3]) rfl ⟨_, _, _, _, _, _, rfl, AtI.no HNO.out 0 0 0 0 _, ⟨by decide, by decide, by decide, by decide⟩, hp.below (Nat.le_refl _) HB.out⟩
        · have hz2 : 0 < R.size := by omega
          have hne := ne_empty hz2
          obtain ⟨b, m2, hb, x0, hml2, hb256⟩ := bs_cons hz2
          have hz3 : (1 : Int) ≤ (R.size : Int) := by omega
          have HF2 := Lib.hid (show bs (R.extract 1 R.size) = m2 by rw [bs_from, hb]; rfl)
          have HM := Lib.hid (show m = b :: m2 by rw [← HF1.out]; exact hb)
          have WC := Lib.hid (fun W => with_c (fun _ => false) 0 0 0 0 Wd.none_ b b (Nat.le_refl _) hb256 W)
          clear hb
          go_upto_region 10 with (fail)
          go_region
          have HD1 := Lib.hid HD.out.drew; have HB1 := Lib.hid HB.out.drew
          go_wp2_with fail
          refine (WC.out _).mono ?_; rintro _ w2 ⟨b0, b1, b2, b3, rfl, hwd, hb2⟩
          have HD2 := Lib.hid (HD1.out.below hb2); have HB2 := Lib.hid (bnext HB1.out hb2)
          have HLT := Lib.hid hwd.lt
          have HON := Lib.hid (Wd.one hb256 (hwd.congr (one_range b)))
          clear hb2 hwd
          go_wp2_with (refine wpList_put rfl 55 _ _ rfl w.heap.size [.int .u64 ((b0 : Nat)), .int .u64 ((b1 : Nat)), .int .u64 ((b2 : Nat)), .int .u64 ((b3 : Nat))] rfl rfl HD2.out (by kernel_rfl) (by simp [Value.oneCell']) ?_; intro y1 hp; obtain ⟨t0, t1, t2, t3⟩ := hp.at_.four)
          exact bodyPost_ret (v := .tuple #[.agg #[.int .u64 ((b0 : Nat)), .int .u64 ((b1 : Nat)), .int .u64 ((b2 : Nat)), .int .u64 ((b3 : Nat))], .string (R.extract 1 R.size), .bool true]) (by simp [results, Try.results30, go_sem, t0, t1, t2, t3]) rfl ⟨_, _, _, _, _, _, rfl, by rw [HF2.out, HM.out]; exact AtI.yes (by rw [HON.out]; exact ndAt_esc _ _), HLT.out, hp.below (Nat.le_refl _) HB2.out⟩
      · have i92 : ¬ (a : Int) = 92 := by omega
        by_cases h94 : a = 94
        · subst h94
          have HNO := Lib.hid (show ndAt (94 :: m) = none from ndAt_none (by omega))
          go_wp2_with (refine wpList_put rfl 55 _ _ rfl w.heap.size [.int .u64 (0), .int .u64 (0), .int .u64 (0), .int .u64 (0)] rfl rfl HD.out (by kernel_rfl) (by simp [Value.oneCell']) ?_; intro y1 hp; obtain ⟨t0, t1, t2, t3⟩ := hp.at_.four)
          exact bodyPost_ret (v := .tuple #[.agg #[.int .u64 (((0 : Nat) : Int)), .int .u64 (((0 : Nat) : Int)), .int .u64 (((0 : Nat) : Int)), .int .u64 (((0 : Nat) : Int))], .string ⟨#[]⟩, .bool false]) (by simp [results, Try.results30, go_sem, t0, t1, t2, t3]) rfl ⟨_, _, _, _, _, _, rfl, AtI.no HNO.out 0 0 0 0 _, ⟨by decide, by decide, by decide, by decide⟩, hp.below (Nat.le_refl _) HB.out⟩
        · have i94 : ¬ (a : Int) = 94 := by omega
          by_cases h36 : a = 36
          · subst h36
            have HNO := Lib.hid (show ndAt (36 :: m) = none from ndAt_none (by omega))
            go_wp2_with (refine wpList_put rfl 55 _ _ rfl w.heap.size [.int .u64 (0), .int .u64 (0), .int .u64 (0), .int .u64 (0)] rfl rfl HD.out (by kernel_rfl) (by simp [Value.oneCell']) ?_; intro y1 hp; obtain ⟨t0, t1, t2, t3⟩ := hp.at_.four)
            exact bodyPost_ret (v := .tuple #[.agg #[.int .u64 (((0 : Nat) : Int)), .int .u64 (((0 : Nat) : Int)), .int .u64 (((0 : Nat) : Int)), .int .u64 (((0 : Nat) : Int))], .string ⟨#[]⟩, .bool false]) (by simp [results, Try.results30, go_sem, t0, t1, t2, t3]) rfl ⟨_, _, _, _, _, _, rfl, AtI.no HNO.out 0 0 0 0 _, ⟨by decide, by decide, by decide, by decide⟩, hp.below (Nat.le_refl _) HB.out⟩
          · have i36 : ¬ (a : Int) = 36 := by omega
            by_cases h42 : a = 42
            · subst h42
              have HNO := Lib.hid (show ndAt (42 :: m) = none from ndAt_none (by omega))
              go_wp2_with (refine wpList_put rfl 55 _ _ rfl w.heap.size [.int .u64 (0), .int .u64 (0), .int .u64 (0), .int .u64 (0)] rfl rfl HD.out (by kernel_rfl) (by simp [Value.oneCell']) ?_; intro y1 hp; obtain ⟨t0, t1, t2, t3⟩ := hp.at_.four)
              exact bodyPost_ret (v := .tuple #[.agg #[.int .u64 (((0 : Nat) : Int)), .int .u64 (((0 : Nat) : Int)), .int .u64 (((0 : Nat) : Int)), .int .u64 (((0 : Nat) : Int))], .string ⟨#[]⟩, .bool false]) (by simp [results, Try.results30, go_sem, t0, t1, t2, t3]) rfl ⟨_, _, _, _, _, _, rfl, AtI.no HNO.out 0 0 0 0 _, ⟨by decide, by decide, by decide, by decide⟩, hp.below (Nat.le_refl _) HB.out⟩
            · have i42 : ¬ (a : Int) = 42 := by omega
              by_cases h93 : a = 93
              · subst h93
                have HNO := Lib.hid (show ndAt (93 :: m) = none from ndAt_none (by omega))
                go_wp2_with (refine wpList_put rfl 55 _ _ rfl w.heap.size [.int .u64 (0), .int .u64 (0), .int .u64 (0), .int .u64 (0)] rfl rfl HD.out (by kernel_rfl) (by simp [Value.oneCell']) ?_; intro y1 hp; obtain ⟨t0, t1, t2, t3⟩ := hp.at_.four)
                exact bodyPost_ret (v := .tuple #[.agg #[.int .u64 (((0 : Nat) : Int)), .int .u64 (((0 : Nat) : Int)), .int .u64 (((0 : Nat) : Int)), .int .u64 (((0 : Nat) : Int))], .string ⟨#[]⟩, .bool false]) (by simp [results, Try.results30, go_sem, t0, t1, t2, t3]) rfl ⟨_, _, _, _, _, _, rfl, AtI.no HNO.out 0 0 0 0 _, ⟨by decide, by decide, by decide, by decide⟩, hp.below (Nat.le_refl _) HB.out⟩
              · have i93 : ¬ (a : Int) = 93 := by omega
                have HAT := Lib.hid (ndAt_one (l := m) h46 h91 h92 h94 h36 h42 h93)
                have WC := Lib.hid (fun W => with_c (fun _ => false) 0 0 0 0 Wd.none_ a a (Nat.le_refl _) ha W)
                go_wp2_with fail
                refine (WC.out _).mono ?_; rintro _ w2 ⟨b0, b1, b2, b3, rfl, hwd, hb2⟩
                have HD2 := Lib.hid (HD.out.below hb2); have HB2 := Lib.hid (bnext HB.out hb2)
                have HLT := Lib.hid hwd.lt
                have HON := Lib.hid (Wd.one ha (hwd.congr (one_range a)))
                clear hb2 hwd
                go_wp2_with (refine wpList_put rfl 55 _ _ rfl w.heap.size [.int .u64 ((b0 : Nat)), .int .u64 ((b1 : Nat)), .int .u64 ((b2 : Nat)), .int .u64 ((b3 : Nat))] rfl rfl HD2.out (by kernel_rfl) (by simp [Value.oneCell']) ?_; intro y1 hp; obtain ⟨t0, t1, t2, t3⟩ := hp.at_.four)
                exact bodyPost_ret (v := .tuple #[.agg #[.int .u64 ((b0 : Nat)), .int .u64 ((b1 : Nat)), .int .u64 ((b2 : Nat)), .int .u64 ((b3 : Nat))], .string R, .bool true]) (by simp [results, Try.results30, go_sem, t0, t1, t2, t3]) rfl ⟨_, _, _, _, _, _, rfl, by rw [HF1.out]; exact AtI.yes (by rw [HON.out]; exact HAT.out), HLT.out, hp.below (Nat.le_refl _) HB2.out⟩
end Go.Proofs.Ytodigfdhhndboaa.NP
