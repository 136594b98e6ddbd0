/-
  Contracts of the document's own functions of layer 9: class, ^ first.
-/
import Derived.Test.YtodigfdhhndboaaNdlRB
set_option linter.unusedSimpArgs false
set_option linter.unusedVariables false
namespace Go.Proofs.Ytodigfdhhndboaa.NR
open Go.RowKit
set_option maxRecDepth 100000 in
set_option maxHeartbeats 8000000 in
theorem class_y (p : ByteArray) (k : Nat) (hk : k ≤ p.size) (hp : p.size ≤ 1000) (hks : k < p.size) (hd : (bs p).drop k = 94 :: (bs p).drop (k + 1)) (e0 : (p[k]'hks).toNat = 94) (w : World) :
    Calls Try.prog 25 #[.string p, .int .i64 (k : Nat)] w fun e w' => ∃ (a0 a1 a2 a3 k2 : Nat) (ok : Bool), e = .returned (.tuple #[.agg #[.int .u64 (a0 : Nat), .int .u64 (a1 : Nat), .int .u64 (a2 : Nat), .int .u64 (a3 : Nat), .bool false], .int .i64 (k2 : Nat), .bool ok]) ∧
      ClsI ((bs p).drop k) a0 a1 a2 a3 ((bs p).drop k2) ok ∧ (ok = true → k2 ≤ p.size) ∧ (a0 < 18446744073709551616 ∧ a1 < 18446744073709551616 ∧ a2 < 18446744073709551616 ∧ a3 < 18446744073709551616) ∧ Below w.heap.size w w' := by
  obtain ⟨zs, hz, hz1, hz2, hz3⟩ := zero256
  have HZ1 := Lib.hid hz1; have HZ3 := Lib.hid hz3
  clear hz1 hz3
  have hcb : cutB 94 ((bs p).drop k) = (bs p).drop (k + 1) := by rw [hd]; rfl
  have HNT := Lib.hid (show (((bs p).drop k).getD 0 0 == 94) = true by rw [hd]; rfl)
  clear hd
  go_enter Try.func25, Try.ntmps25
  have HCB := Lib.hid hcb
  clear hcb
  go_wp2
  go_loopw [1, 9, 10, 11, 12] (fun av nv _ _ _ wr => ∃ (q n : Nat) (rs : List (Nat × Nat)), av = .int .i64 (q : Nat) ∧ nv = .int .i64 (n : Nat) ∧ q ≤ p.size ∧ n ≤ q ∧ k ≤ q ∧ Hid (rs.length = n) ∧ Hid (DVar wr w.heap.size 5) ∧ Hid (DVar wr (w.heap.size + 1) 256) ∧ Hid (Marks wr (w.heap.size + 1) (ndIn rs)) ∧ Hid (MemI (cutB 94 ((bs p).drop k)) ((bs p).drop q) rs) ∧ Hid (Below w.heap.size w wr)) (fun av _ _ _ _ _ => p.size - (intOf av).toNat)
  case atStart => exact ⟨k + 1, 0, [], by go_num, rfl, by omega, Nat.zero_le _, by omega, rfl, (DVar.alloc _ _).below (alloc_below _ _), (by have h := dvar_second w (.cells #[.int .u64 0, .int .u64 0, .int .u64 0, .int .u64 0, .bool false] 25) zs 58; rw [HZ1.out] at h; exact h), (by have h := Marks.first (w := w.alloc (.cells #[.int .u64 0, .int .u64 0, .int .u64 0, .int .u64 0, .bool false] 25)) (t := 58) HZ3.out; rw [show (w.alloc (.cells #[.int .u64 0, .int .u64 0, .int .u64 0, .int .u64 0, .bool false] 25)).heap.size = w.heap.size + 1 by simp] at h; exact h), by rw [HCB.out]; exact MemI.start _, alloc2_below _ _ _⟩
  case round =>
    obtain ⟨q, n, rs, rfl, rfl, hq, hn, hkq, HL, HDR, HDF, HM, HI, HB⟩ := hrel
    obtain ⟨wo, rfl⟩ : ∃ wo : World, wo = wr := ⟨_, rfl⟩
    by_cases hqs : q < p.size
    · obtain ⟨a, hd, e0, ha⟩ := bs_at hqs
      have hi0 := HI.out
      rw [hd] at hi0
      have HI2 := Lib.hid hi0
      clear hi0 hd
      by_cases h93 : a = 93
      · subst h93
        have HCL := Lib.hid (MemI.close HI2.out)
        by_cases hn0 : n = 0
        · subst hn0
          obtain rfl : rs = [] := List.eq_nil_of_length_eq_zero HL.out
          have HNO := Lib.hid (fun a0 a1 a2 a3 r2 => ClsI.empty HCL.out a0 a1 a2 a3 r2)
          go_wp2_with (refine wpList_put rfl 25 _ _ rfl w.heap.size [.int .u64 0, .int .u64 0, .int .u64 0, .int .u64 0, .bool false] rfl rfl HDR.out (by kernel_rfl) (by simp [Value.oneCell']) ?_; intro y1 hp; obtain ⟨t0, t1, t2, t3, t4⟩ := hp.at_.cells5)
          exact bodyPost_ret (v := .tuple #[.agg #[.int .u64 ((0 : Nat) : Int), .int .u64 ((0 : Nat) : Int), .int .u64 ((0 : Nat) : Int), .int .u64 ((0 : Nat) : Int), .bool false], .int .i64 ((0 : Nat) : Int), .bool false]) (by simp [results, Try.results25, go_sem, t0, t1, t2, t3, t4]) rfl ⟨0, 0, 0, 0, 0, false, rfl, HNO.out 0 0 0 0 _, (fun e => by cases e), ⟨by decide, by decide, by decide, by decide⟩, hp.below (Nat.le_refl _) HB.out⟩
        · have hni : ¬ (n : Int) = 0 := by omega
          have hnb : ((n : Int) == 0) = false := beq_false_of_ne hni
          have hqn : ¬ p.size ≤ q := by omega
          have HHS := Lib.hid (show w.heap.size + 1 < wo.heap.size from HDF.out.lt)
          have HDI0 := Lib.hid (DVar.alloc (w := wo) #[.int .u64 0, .int .u64 0, .int .u64 0, .int .u64 0, .bool false] 25)
          have HB0 := Lib.hid (alloc_below wo (.cells #[.int .u64 0, .int .u64 0, .int .u64 0, .int .u64 0, .bool false] 25))
          have HW0 := Lib.hid (Wd.none_.congr (g := fun x => (ndIn rs x != true) && decide (x < 0)) (fun x _ => by simp))
          go_wp2
          go_loopw [14] (fun bv wx => ∃ (b c0 c1 c2 c3 : Nat), bv = .int .i64 (b : Nat) ∧ b ≤ 256 ∧ wx.cell? ⟨wo.heap.size, 0, none⟩ = some (.int .u64 (c0 : Nat)) ∧ wx.cell? ⟨wo.heap.size, 1, none⟩ = some (.int .u64 (c1 : Nat)) ∧ wx.cell? ⟨wo.heap.size, 2, none⟩ = some (.int .u64 (c2 : Nat)) ∧ wx.cell? ⟨wo.heap.size, 3, none⟩ = some (.int .u64 (c3 : Nat)) ∧ wx.cell? ⟨wo.heap.size, 4, none⟩ = some (.bool false) ∧ Hid (DVar wx wo.heap.size 5) ∧ Hid (DVar wx w.heap.size 5) ∧ Hid (Marks wx (w.heap.size + 1) (ndIn rs)) ∧ Hid (Wd (fun x => (ndIn rs x != true) && decide (x < b)) c0 c1 c2 c3) ∧ Hid (Below w.heap.size w wx) ∧ Hid (Below wo.heap.size wo wx)) (fun bv _ => 256 - (intOf bv).toNat)
          case atStart => exact ⟨0, 0, 0, 0, 0, rfl, Nat.zero_le _, by go_simp, by go_simp, by go_simp, by go_simp, by go_simp, HDI0.out, HDR.out.below HB0.out, HM.out.low HB0.out HHS.out, HW0.out, bnext HB.out HB0.out, HB0.out⟩
          case round =>
            obtain ⟨b, c0, c1, c2, c3, rfl, hb, k0, k1, k2, k3, k4, HDI, HDR2, HM2, HWD, HB2, HB3⟩ := hrel
            by_cases hb256 : b < 256
            · have kb := HM2.out b hb256
              obtain ⟨fz0, fz1, fz2, fz3⟩ := (HDI.out.mono (m := 4) (by decide)).four
              cases hx : ndIn rs b with
              | true =>
                have HWN := Lib.hid (Wd.skip HWD.out (b := b) (by show (ndIn rs b != true) = false; rw [hx]; rfl))
                rw [hx] at kb
                clear hx
                go_wp2
                go_roundw
                case rel => exact ⟨b + 1, c0, c1, c2, c3, by go_num, by omega, k0, k1, k2, k3, k4, HDI.out, HDR2.out, HM2.out, HWN.out, HB2.out, HB3.out⟩
                case measure => simp [intOf]; omega
              | false =>
                have hfb : (fun x => ndIn rs x != true) b = true := by show (ndIn rs b != true) = true; rw [hx]; rfl
                rw [hx] at kb
                clear hx
                have hq4 : b / 64 = 0 ∨ b / 64 = 1 ∨ b / 64 = 2 ∨ b / 64 = 3 := by omega
                rcases hq4 with hq4 | hq4 | hq4 | hq4
                · have hwd := Wd.take HWD.out (b := b) hfb
                  rw [hq4] at hwd
                  have HWN := Lib.hid (show Wd (fun x => (ndIn rs x != true) && decide (x < b + 1)) (c0 ||| 2 ^ (b % 64)) c1 c2 c3 from hwd)
                  clear hwd
                  have hq1 : IntKind.i64.wrap ((b : Int).tdiv 64) = 0 := by
                    rw [IntKind.wrap_i64]
                    have : (b : Int).tdiv 64 = ((b / 64 : Nat) : Int) := by rw [Int.tdiv_eq_ediv_of_nonneg (by omega)]; omega
                    rw [this, hq4]; rfl
                  go_wp2
                  go_roundw
                  case rel =>
                    have hwl := HWD.out.lt
                    exact ⟨b + 1, (c0 ||| 2 ^ (b % 64)), c1, c2, c3, by go_num, by omega, by rw [← or_bit c0 (b % 64) hwl.1 (Nat.mod_lt _ (by decide))]; go_simp, by go_simp, by go_simp, by go_simp, by go_simp, HDI.out.set _, HDR2.out.set _, (Marks.low HM2.out ((Below.refl wo.heap.size wr).setCell (p := ⟨_, _, _⟩) (Nat.le_refl _) _) HHS.out), HWN.out, HB2.out.setCell (p := ⟨_, _, _⟩) (Nat.le_of_lt (Nat.lt_of_succ_lt HHS.out)) _, HB3.out.setCell (p := ⟨_, _, _⟩) (Nat.le_refl _) _⟩
                  case measure => simp [intOf]; omega
                · have hwd := Wd.take HWD.out (b := b) hfb
                  rw [hq4] at hwd
                  have HWN := Lib.hid (show Wd (fun x => (ndIn rs x != true) && decide (x < b + 1)) c0 (c1 ||| 2 ^ (b % 64)) c2 c3 from hwd)
                  clear hwd
                  have hq1 : IntKind.i64.wrap ((b : Int).tdiv 64) = 1 := by
                    rw [IntKind.wrap_i64]
                    have : (b : Int).tdiv 64 = ((b / 64 : Nat) : Int) := by rw [Int.tdiv_eq_ediv_of_nonneg (by omega)]; omega
                    rw [this, hq4]; rfl
                  go_wp2
                  go_roundw
                  case rel =>
                    have hwl := HWD.out.lt
                    exact ⟨b + 1, c0, (c1 ||| 2 ^ (b % 64)), c2, c3, by go_num, by omega, by go_simp, by rw [← or_bit c1 (b % 64) hwl.2.1 (Nat.mod_lt _ (by decide))]; go_simp, by go_simp, by go_simp, by go_simp, HDI.out.set _, HDR2.out.set _, (Marks.low HM2.out ((Below.refl wo.heap.size wr).setCell (p := ⟨_, _, _⟩) (Nat.le_refl _) _) HHS.out), HWN.out, HB2.out.setCell (p := ⟨_, _, _⟩) (Nat.le_of_lt (Nat.lt_of_succ_lt HHS.out)) _, HB3.out.setCell (p := ⟨_, _, _⟩) (Nat.le_refl _) _⟩
                  case measure => simp [intOf]; omega
                · have hwd := Wd.take HWD.out (b := b) hfb
                  rw [hq4] at hwd
                  have HWN := Lib.hid (show Wd (fun x => (ndIn rs x != true) && decide (x < b + 1)) c0 c1 (c2 ||| 2 ^ (b % 64)) c3 from hwd)
                  clear hwd
                  have hq1 : IntKind.i64.wrap ((b : Int).tdiv 64) = 2 := by
                    rw [IntKind.wrap_i64]
                    have : (b : Int).tdiv 64 = ((b / 64 : Nat) : Int) := by rw [Int.tdiv_eq_ediv_of_nonneg (by omega)]; omega
                    rw [this, hq4]; rfl
                  go_wp2
                  go_roundw
                  case rel =>
                    have hwl := HWD.out.lt
                    exact ⟨b + 1, c0, c1, (c2 ||| 2 ^ (b % 64)), c3, by go_num, by omega, by go_simp, by go_simp, by rw [← or_bit c2 (b % 64) hwl.2.2.1 (Nat.mod_lt _ (by decide))]; go_simp, by go_simp, by go_simp, HDI.out.set _, HDR2.out.set _, (Marks.low HM2.out ((Below.refl wo.heap.size wr).setCell (p := ⟨_, _, _⟩) (Nat.le_refl _) _) HHS.out), HWN.out, HB2.out.setCell (p := ⟨_, _, _⟩) (Nat.le_of_lt (Nat.lt_of_succ_lt HHS.out)) _, HB3.out.setCell (p := ⟨_, _, _⟩) (Nat.le_refl _) _⟩
                  case measure => simp [intOf]; omega
                · have hwd := Wd.take HWD.out (b := b) hfb
                  rw [hq4] at hwd
                  have HWN := Lib.hid (show Wd (fun x => (ndIn rs x != true) && decide (x < b + 1)) c0 c1 c2 (c3 ||| 2 ^ (b % 64)) from hwd)
                  clear hwd
                  have hq1 : IntKind.i64.wrap ((b : Int).tdiv 64) = 3 := by
                    rw [IntKind.wrap_i64]
                    have : (b : Int).tdiv 64 = ((b / 64 : Nat) : Int) := by rw [Int.tdiv_eq_ediv_of_nonneg (by omega)]; omega
                    rw [this, hq4]; rfl
                  go_wp2
                  go_roundw
                  case rel =>
                    have hwl := HWD.out.lt
                    exact ⟨b + 1, c0, c1, c2, (c3 ||| 2 ^ (b % 64)), by go_num, by omega, by go_simp, by go_simp, by go_simp, by rw [← or_bit c3 (b % 64) hwl.2.2.2 (Nat.mod_lt _ (by decide))]; go_simp, by go_simp, HDI.out.set _, HDR2.out.set _, (Marks.low HM2.out ((Below.refl wo.heap.size wr).setCell (p := ⟨_, _, _⟩) (Nat.le_refl _) _) HHS.out), HWN.out, HB2.out.setCell (p := ⟨_, _, _⟩) (Nat.le_of_lt (Nat.lt_of_succ_lt HHS.out)) _, HB3.out.setCell (p := ⟨_, _, _⟩) (Nat.le_refl _) _⟩
                  case measure => simp [intOf]; omega
            · obtain rfl : b = 256 := by omega
              have hw6 := HWD.out.congr (g := fun x => ndIn rs x != true) (fun x hx => by show ((ndIn rs x != true) && decide (x < 256)) = _; rw [decide_eq_true hx, Bool.and_true])
              have HLT := Lib.hid hw6.lt
              have HCI := Lib.hid (ClsI.yes HCL.out (a0 := c0) (a1 := c1) (a2 := c2) (a3 := c3) (ok := true) (by rw [HNT.out]; obtain ⟨e0, e1, e2, e3⟩ := hw6; rw [e0, e1, e2, e3]; rfl) (decide_eq_true (by rw [HL.out]; omega)).symm)
              clear hw6
              go_wp2_with (refine wpList_put rfl 25 _ _ rfl w.heap.size [.int .u64 (c0 : Nat), .int .u64 (c1 : Nat), .int .u64 (c2 : Nat), .int .u64 (c3 : Nat), .bool false] rfl rfl HDR2.out (by kernel_rfl) (by simp [Value.oneCell']) ?_; intro y1 hp; obtain ⟨t0, t1, t2, t3, t4⟩ := hp.at_.cells5)
              exact bodyPost_ret (v := .tuple #[.agg #[.int .u64 (c0 : Nat), .int .u64 (c1 : Nat), .int .u64 (c2 : Nat), .int .u64 (c3 : Nat), .bool false], .int .i64 ((q + 1 : Nat) : Int), .bool true]) (by simp [results, Try.results25, go_sem, t0, t1, t2, t3, t4]) rfl ⟨_, _, _, _, q + 1, true, rfl, HCI.out, (fun _ => hqs), HLT.out, hp.below (Nat.le_refl _) HB2.out⟩
      · have i93 : ¬ (a : Int) = 93 := by omega
        have hqi : (q : Int) < (p.size : Int) := by omega
        go_upto_region 7 with (fail)
        go_quiet (fail)
        have HDR1 := Lib.hid (DVar.drewN HDR.out (m := nq)); have HDF1 := Lib.hid (DVar.drewN HDF.out (m := nq)); have HM1 := Lib.hid (HM.out.drewN (n := nq)); have HB1 := Lib.hid (below_drewN HB.out nq)
        generalize wo.drewN nq = wd at HDR1 HDF1 HM1 HB1 ⊢
        have TM := Lib.hid (two_more (p := p) (q := q) (a := a))
        by_cases h2 : q + 2 < p.size
        · have h1 : q + 1 < p.size := by omega
          obtain ⟨x, hx⟩ : ∃ x, byteAt (bs p) (q + 1) = x := ⟨_, rfl⟩
          obtain ⟨y, hy⟩ : ∃ y, byteAt (bs p) (q + 2) = y := ⟨_, rfl⟩
          have e1 : (p[q + 1]'h1).toNat = x := (at_byte h1).trans hx
          have e2 : (p[q + 2]'h2).toNat = y := (at_byte h2).trans hy
          have hy256 : y < 256 := by have := byte_le p (q + 2); omega
          rw [hx, hy] at TM
          clear hx hy
          by_cases hx45 : x = 45
          · subst hx45
            by_cases hy93 : y = 93
            · subst hy93
              have HMB := Lib.hid (TM.out.trans (if_neg (fun e => e.2.2 rfl)))
              clear TM
              have HMN := Lib.hid (HI2.out.next h93 HMB.out (Nat.lt_irrefl a))
              have HLN := Lib.hid (show (rs ++ [(a, a)]).length = n + 1 by rw [List.length_append, HL.out]; rfl)
              have HM0 := Lib.hid (show Marks wd (w.heap.size + 1) (fun j => ndIn rs j || (decide (a ≤ j) && decide (j < a))) from by
                have h := HM1.out
                intro j hj
                rw [h j hj]
                have e : (decide (a ≤ j) && decide (j < a)) = false := by rw [← Bool.decide_and]; exact decide_eq_false (by omega)
                show _ = some (Value.bool (ndIn rs j || (decide (a ≤ j) && decide (j < a))))
                rw [e, Bool.or_false])
              go_wp2
              go_loopw [12] (fun bv wx => ∃ (b : Nat), bv = .int .i64 (b : Nat) ∧ a ≤ b ∧ b ≤ a + 1 ∧ Hid (DVar wx w.heap.size 5) ∧ Hid (DVar wx (w.heap.size + 1) 256) ∧ Hid (Marks wx (w.heap.size + 1) (fun j => ndIn rs j || (decide (a ≤ j) && decide (j < b)))) ∧ Hid (Below w.heap.size w wx)) (fun bv _ => a + 1 - (intOf bv).toNat)
              case atStart => exact ⟨a, rfl, Nat.le_refl _, by omega, HDR1.out, HDF1.out, HM0.out, HB1.out⟩
              case round =>
                obtain ⟨b, rfl, hb1, hb2, HDR2, HDF2, HM2, HB2⟩ := hrel
                by_cases hbh : b ≤ a
                · have kb : wr.cell? ⟨w.heap.size + 1, b, none⟩ = some (.bool (ndIn rs b || (decide (a ≤ b) && decide (b < b)))) := HM2.out b (by omega)
                  have fb := HDF2.out.f b (by omega)
                  have HMX := Lib.hid (HM2.out.set (b := b) (h := fun j => ndIn rs j || (decide (a ≤ j) && decide (j < b + 1))) (by omega) (fun j _ => by
                    by_cases e : j = b
                    · subst e
                      rw [if_pos rfl, decide_eq_true hb1, decide_eq_true (Nat.lt_succ_self _)]
                      simp
                    · rw [if_neg e]
                      congr 2
                      rw [decide_eq_decide]; omega))
                  obtain ⟨xb, hxb⟩ : ∃ x, (ndIn rs b || (decide (a ≤ b) && decide (b < b))) = x := ⟨_, rfl⟩
                  rw [hxb] at kb
                  clear hxb
                  go_wp2
                  go_roundw
                  case rel => exact ⟨b + 1, by go_num, by omega, by omega, HDR2.out.set _, HDF2.out.set _, HMX.out, HB2.out.setCell (p := ⟨_, _, _⟩) (by simp) _⟩
                  case measure => simp [intOf]; omega
                · obtain rfl : b = a + 1 := by omega
                  have HMX := Lib.hid (show Marks _ (w.heap.size + 1) (ndIn (rs ++ [(a, a)])) from fun j hj => by
                    rw [HM2.out j hj, ndIn_snoc]
                    show some (Value.bool (ndIn rs j || (decide (a ≤ j) && decide (j < a + 1)))) = some (Value.bool (ndIn rs j || (decide (a ≤ j) && decide (j ≤ a))))
                    have e : decide (j < a + 1) = decide (j ≤ a) := by rw [decide_eq_decide]; omega
                    rw [e])
                  go_wp2
                  go_roundw
                  case rel => exact ⟨q + 1, n + 1, rs ++ [(a, a)], by go_num, by go_num, by omega, by omega, by omega, HLN.out, HDR2.out, HDF2.out, HMX.out, HMN.out, HB2.out⟩
                  case measure => simp [intOf]; omega
            · have iy93 : ¬ (y : Int) = 93 := by omega
              have HMB := Lib.hid (TM.out.trans (if_pos ⟨h2, rfl, hy93⟩))
              clear TM
              by_cases hlt : y < a
              · have HNO := Lib.hid (HI2.out.falls h93 HMB.out hlt)
                have hlti : (y : Int) < (a : Int) := by omega
                go_wp2_with (refine wpList_put rfl 25 _ _ rfl w.heap.size [.int .u64 0, .int .u64 0, .int .u64 0, .int .u64 0, .bool false] rfl rfl HDR1.out (by kernel_rfl) (by simp [Value.oneCell']) ?_; intro y1 hp; obtain ⟨t0, t1, t2, t3, t4⟩ := hp.at_.cells5)
                exact bodyPost_ret (v := .tuple #[.agg #[.int .u64 ((0 : Nat) : Int), .int .u64 ((0 : Nat) : Int), .int .u64 ((0 : Nat) : Int), .int .u64 ((0 : Nat) : Int), .bool false], .int .i64 ((0 : Nat) : Int), .bool false]) (by simp [results, Try.results25, go_sem, t0, t1, t2, t3, t4]) rfl ⟨0, 0, 0, 0, 0, false, rfl, ClsI.no HNO.out 0 0 0 0 _, (fun e => by cases e), ⟨by decide, by decide, by decide, by decide⟩, hp.below (Nat.le_refl _) HB1.out⟩
              · have hlti : ¬ (y : Int) < (a : Int) := by omega
                have HMN := Lib.hid (HI2.out.next h93 HMB.out hlt)
                have HLN := Lib.hid (show (rs ++ [(a, y)]).length = n + 1 by rw [List.length_append, HL.out]; rfl)
                have HM0 := Lib.hid (show Marks wd (w.heap.size + 1) (fun j => ndIn rs j || (decide (a ≤ j) && decide (j < a))) from by
                  have h := HM1.out
                  intro j hj
                  rw [h j hj]
                  have e : (decide (a ≤ j) && decide (j < a)) = false := by rw [← Bool.decide_and]; exact decide_eq_false (by omega)
                  show _ = some (Value.bool (ndIn rs j || (decide (a ≤ j) && decide (j < a))))
                  rw [e, Bool.or_false])
                go_wp2
                go_loopw [12] (fun bv wx => ∃ (b : Nat), bv = .int .i64 (b : Nat) ∧ a ≤ b ∧ b ≤ y + 1 ∧ Hid (DVar wx w.heap.size 5) ∧ Hid (DVar wx (w.heap.size + 1) 256) ∧ Hid (Marks wx (w.heap.size + 1) (fun j => ndIn rs j || (decide (a ≤ j) && decide (j < b)))) ∧ Hid (Below w.heap.size w wx)) (fun bv _ => y + 1 - (intOf bv).toNat)
                case atStart => exact ⟨a, rfl, Nat.le_refl _, by omega, HDR1.out, HDF1.out, HM0.out, HB1.out⟩
                case round =>
                  obtain ⟨b, rfl, hb1, hb2, HDR2, HDF2, HM2, HB2⟩ := hrel
                  by_cases hbh : b ≤ y
                  · have kb : wr.cell? ⟨w.heap.size + 1, b, none⟩ = some (.bool (ndIn rs b || (decide (a ≤ b) && decide (b < b)))) := HM2.out b (by omega)
                    have fb := HDF2.out.f b (by omega)
                    have HMX := Lib.hid (HM2.out.set (b := b) (h := fun j => ndIn rs j || (decide (a ≤ j) && decide (j < b + 1))) (by omega) (fun j _ => by
                      by_cases e : j = b
                      · subst e
                        rw [if_pos rfl, decide_eq_true hb1, decide_eq_true (Nat.lt_succ_self _)]
                        simp
                      · rw [if_neg e]
                        congr 2
                        rw [decide_eq_decide]; omega))
                    obtain ⟨xb, hxb⟩ : ∃ x, (ndIn rs b || (decide (a ≤ b) && decide (b < b))) = x := ⟨_, rfl⟩
                    rw [hxb] at kb
                    clear hxb
                    go_wp2
                    go_roundw
                    case rel => exact ⟨b + 1, by go_num, by omega, by omega, HDR2.out.set _, HDF2.out.set _, HMX.out, HB2.out.setCell (p := ⟨_, _, _⟩) (by simp) _⟩
                    case measure => simp [intOf]; omega
                  · obtain rfl : b = y + 1 := by omega
                    have HMX := Lib.hid (show Marks _ (w.heap.size + 1) (ndIn (rs ++ [(a, y)])) from fun j hj => by
                      rw [HM2.out j hj, ndIn_snoc]
                      show some (Value.bool (ndIn rs j || (decide (a ≤ j) && decide (j < y + 1)))) = some (Value.bool (ndIn rs j || (decide (a ≤ j) && decide (j ≤ y))))
                      have e : decide (j < y + 1) = decide (j ≤ y) := by rw [decide_eq_decide]; omega
                      rw [e])
                    go_wp2
                    go_roundw
                    case rel => exact ⟨q + 3, n + 1, rs ++ [(a, y)], by go_num, by go_num, by omega, by omega, by omega, HLN.out, HDR2.out, HDF2.out, HMX.out, HMN.out, HB2.out⟩
                    case measure => simp [intOf]; omega
          · have ix45 : ¬ (x : Int) = 45 := by omega
            have HMB := Lib.hid (TM.out.trans (if_neg (fun e => hx45 e.2.1)))
            clear TM
            have HMN := Lib.hid (HI2.out.next h93 HMB.out (Nat.lt_irrefl a))
            have HLN := Lib.hid (show (rs ++ [(a, a)]).length = n + 1 by rw [List.length_append, HL.out]; rfl)
            have HM0 := Lib.hid (show Marks wd (w.heap.size + 1) (fun j => ndIn rs j || (decide (a ≤ j) && decide (j < a))) from by
              have h := HM1.out
              intro j hj
              rw [h j hj]
              have e : (decide (a ≤ j) && decide (j < a)) = false := by rw [← Bool.decide_and]; exact decide_eq_false (by omega)
              show _ = some (Value.bool (ndIn rs j || (decide (a ≤ j) && decide (j < a))))
              rw [e, Bool.or_false])
            go_wp2
            go_loopw [12] (fun bv wx => ∃ (b : Nat), bv = .int .i64 (b : Nat) ∧ a ≤ b ∧ b ≤ a + 1 ∧ Hid (DVar wx w.heap.size 5) ∧ Hid (DVar wx (w.heap.size + 1) 256) ∧ Hid (Marks wx (w.heap.size + 1) (fun j => ndIn rs j || (decide (a ≤ j) && decide (j < b)))) ∧ Hid (Below w.heap.size w wx)) (fun bv _ => a + 1 - (intOf bv).toNat)
            case atStart => exact ⟨a, rfl, Nat.le_refl _, by omega, HDR1.out, HDF1.out, HM0.out, HB1.out⟩
            case round =>
              obtain ⟨b, rfl, hb1, hb2, HDR2, HDF2, HM2, HB2⟩ := hrel
              by_cases hbh : b ≤ a
              · have kb : wr.cell? ⟨w.heap.size + 1, b, none⟩ = some (.bool (ndIn rs b || (decide (a ≤ b) && decide (b < b)))) := HM2.out b (by omega)
                have fb := HDF2.out.f b (by omega)
                have HMX := Lib.hid (HM2.out.set (b := b) (h := fun j => ndIn rs j || (decide (a ≤ j) && decide (j < b + 1))) (by omega) (fun j _ => by
                  by_cases e : j = b
                  · subst e
                    rw [if_pos rfl, decide_eq_true hb1, decide_eq_true (Nat.lt_succ_self _)]
                    simp
                  · rw [if_neg e]
                    congr 2
                    rw [decide_eq_decide]; omega))
                obtain ⟨xb, hxb⟩ : ∃ x, (ndIn rs b || (decide (a ≤ b) && decide (b < b))) = x := ⟨_, rfl⟩
                rw [hxb] at kb
                clear hxb
                go_wp2
                go_roundw
                case rel => exact ⟨b + 1, by go_num, by omega, by omega, HDR2.out.set _, HDF2.out.set _, HMX.out, HB2.out.setCell (p := ⟨_, _, _⟩) (by simp) _⟩
                case measure => simp [intOf]; omega
              · obtain rfl : b = a + 1 := by omega
                have HMX := Lib.hid (show Marks _ (w.heap.size + 1) (ndIn (rs ++ [(a, a)])) from fun j hj => by
                  rw [HM2.out j hj, ndIn_snoc]
                  show some (Value.bool (ndIn rs j || (decide (a ≤ j) && decide (j < a + 1)))) = some (Value.bool (ndIn rs j || (decide (a ≤ j) && decide (j ≤ a))))
                  have e : decide (j < a + 1) = decide (j ≤ a) := by rw [decide_eq_decide]; omega
                  rw [e])
                go_wp2
                go_roundw
                case rel => exact ⟨q + 1, n + 1, rs ++ [(a, a)], by go_num, by go_num, by omega, by omega, by omega, HLN.out, HDR2.out, HDF2.out, HMX.out, HMN.out, HB2.out⟩
                case measure => simp [intOf]; omega
        · have HMB := Lib.hid (TM.out.trans (if_neg (fun e => h2 e.1)))
          have i2 : ¬ (q : Int) < (p.size : Int) - 2 := by omega
          clear TM
          have HMN := Lib.hid (HI2.out.next h93 HMB.out (Nat.lt_irrefl a))
          have HLN := Lib.hid (show (rs ++ [(a, a)]).length = n + 1 by rw [List.length_append, HL.out]; rfl)
          have HM0 := Lib.hid (show Marks wd (w.heap.size + 1) (fun j => ndIn rs j || (decide (a ≤ j) && decide (j < a))) from by
            have h := HM1.out
            intro j hj
            rw [h j hj]
            have e : (decide (a ≤ j) && decide (j < a)) = false := by rw [← Bool.decide_and]; exact decide_eq_false (by omega)
            show _ = some (Value.bool (ndIn rs j || (decide (a ≤ j) && decide (j < a))))
            rw [e, Bool.or_false])
          go_wp2
          go_loopw [12] (fun bv wx => ∃ (b : Nat), bv = .int .i64 (b : Nat) ∧ a ≤ b ∧ b ≤ a + 1 ∧ Hid (DVar wx w.heap.size 5) ∧ Hid (DVar wx (w.heap.size + 1) 256) ∧ Hid (Marks wx (w.heap.size + 1) (fun j => ndIn rs j || (decide (a ≤ j) && decide (j < b)))) ∧ Hid (Below w.heap.size w wx)) (fun bv _ => a + 1 - (intOf bv).toNat)
          case atStart => exact ⟨a, rfl, Nat.le_refl _, by omega, HDR1.out, HDF1.out, HM0.out, HB1.out⟩
          case round =>
            obtain ⟨b, rfl, hb1, hb2, HDR2, HDF2, HM2, HB2⟩ := hrel
            by_cases hbh : b ≤ a
            · have kb : wr.cell? ⟨w.heap.size + 1, b, none⟩ = some (.bool (ndIn rs b || (decide (a ≤ b) && decide (b < b)))) := HM2.out b (by omega)
              have fb := HDF2.out.f b (by omega)
              have HMX := Lib.hid (HM2.out.set (b := b) (h := fun j => ndIn rs j || (decide (a ≤ j) && decide (j < b + 1))) (by omega) (fun j _ => by
                by_cases e : j = b
                · subst e
                  rw [if_pos rfl, decide_eq_true hb1, decide_eq_true (Nat.lt_succ_self _)]
                  simp
                · rw [if_neg e]
                  congr 2
                  rw [decide_eq_decide]; omega))
              obtain ⟨xb, hxb⟩ : ∃ x, (ndIn rs b || (decide (a ≤ b) && decide (b < b))) = x := ⟨_, rfl⟩
              rw [hxb] at kb
              clear hxb
              go_wp2
              go_roundw
              case rel => exact ⟨b + 1, by go_num, by omega, by omega, HDR2.out.set _, HDF2.out.set _, HMX.out, HB2.out.setCell (p := ⟨_, _, _⟩) (by simp) _⟩
              case measure => simp [intOf]; omega
            · obtain rfl : b = a + 1 := by omega
              have HMX := Lib.hid (show Marks _ (w.heap.size + 1) (ndIn (rs ++ [(a, a)])) from fun j hj => by
                rw [HM2.out j hj, ndIn_snoc]
                show some (Value.bool (ndIn rs j || (decide (a ≤ j) && decide (j < a + 1)))) = some (Value.bool (ndIn rs j || (decide (a ≤ j) && decide (j ≤ a))))
                have e : decide (j < a + 1) = decide (j ≤ a) := by rw [decide_eq_decide]; omega
                rw [e])
              go_wp2
              go_roundw
              case rel => exact ⟨q + 1, n + 1, rs ++ [(a, a)], by go_num, by go_num, by omega, by omega, by omega, HLN.out, HDR2.out, HDF2.out, HMX.out, HMN.out, HB2.out⟩
              case measure => simp [intOf]; omega
    · obtain rfl : q = p.size := by omega
      have hi0 := HI.out
      rw [drop_end] at hi0
      have HNO := Lib.hid (MemI.none_ hi0)
      clear hi0 hqs
      go_wp2_with (refine wpList_put rfl 25 _ _ rfl w.heap.size [.int .u64 0, .int .u64 0, .int .u64 0, .int .u64 0, .bool false] rfl rfl HDR.out (by kernel_rfl) (by simp [Value.oneCell']) ?_; intro y1 hp; obtain ⟨t0, t1, t2, t3, t4⟩ := hp.at_.cells5)
      exact bodyPost_ret (v := .tuple #[.agg #[.int .u64 ((0 : Nat) : Int), .int .u64 ((0 : Nat) : Int), .int .u64 ((0 : Nat) : Int), .int .u64 ((0 : Nat) : Int), .bool false], .int .i64 ((0 : Nat) : Int), .bool false]) (by simp [results, Try.results25, go_sem, t0, t1, t2, t3, t4]) rfl ⟨0, 0, 0, 0, 0, false, rfl, ClsI.no HNO.out 0 0 0 0 _, (fun e => by cases e), ⟨by decide, by decide, by decide, by decide⟩, hp.below (Nat.le_refl _) HB.out⟩
end Go.Proofs.Ytodigfdhhndboaa.NR
