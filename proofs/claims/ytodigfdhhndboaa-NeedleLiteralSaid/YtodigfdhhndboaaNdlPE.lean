/-
  Contracts of the program's own functions of layer 9: sets (with, others).
-/
import Derived.Test.YtodigfdhhndboaaNdlPat
import Derived.Test.YtodigfdhhndboaaNdlBox
import Derived.Lib.Hide
import Derived.WalkKit
import Derived.WalkSmall
import Derived.Laws.BitsAllLaws
import Derived.BigRegion
import Derived.Deep.RegionWith
import Derived.Deep.QuietTactic
import Derived.BigQuiet
import Derived.Deep.RegionHeld3
import Derived.Carry
set_option linter.unusedSimpArgs false
set_option linter.unusedVariables false
namespace Go.Proofs.Ytodigfdhhndboaa.NP
open Go.RowKit
theorem or_bit (c k : Nat) (hc : c < 18446744073709551616) (hk : k < 64) : bits .or .u64 (c : Int) (IntKind.u64.wrap (2 ^ k)) = ((c ||| 2 ^ k : Nat) : Int) := by
  have h1 : 2 ^ k ≤ 2 ^ 63 := Nat.pow_le_pow_right (by decide) (by omega)
  have h2 : ((2 : Int) ^ k) = ((2 ^ k : Nat) : Int) := by simp
  rw [h2, IntKind.wrap_u64]
  generalize 2 ^ k = p at *
  rw [Int.emod_eq_of_lt (by omega) (by omega)]
  exact u64_or_nat c p (by omega) (by omega)
theorem alloc2_below (w : World) (o1 o2 : Obj) : Below w.heap.size w ((w.alloc o1).alloc o2) := ((Below.refl _ _).alloc (Nat.le_refl _) _).alloc (by simp) _
theorem dvar_first (w : World) (cs : Array Value) (t : TypeId) (o : Obj) : DVar ((w.alloc (.cells cs t)).alloc o) w.heap.size cs.size := (DVar.alloc cs t).below (alloc_below _ _)
theorem dvar_second (w : World) (o : Obj) (cs : Array Value) (t : TypeId) : DVar ((w.alloc o).alloc (.cells cs t)) (w.heap.size + 1) cs.size := by
  have h := DVar.alloc (w := w.alloc o) cs t
  have e : (w.alloc o).heap.size = w.heap.size + 1 := by simp
  rw [e] at h
  exact h
set_option maxRecDepth 100000 in
set_option maxHeartbeats 2000000 in
theorem with_c (f : Nat → Bool) (a0 a1 a2 a3 : Nat) (hW : Wd f a0 a1 a2 a3) (lo hi : Nat) (hl : lo ≤ hi) (hh : hi < 256) (w : World) :
    Calls Try.prog 34 #[.agg #[.int .u64 (a0 : Nat), .int .u64 (a1 : Nat), .int .u64 (a2 : Nat), .int .u64 (a3 : Nat)], .int .u8 (lo : Nat), .int .u8 (hi : Nat)] w fun e w' => ∃ b0 b1 b2 b3 : Nat, e = .returned (.agg #[.int .u64 (b0 : Nat), .int .u64 (b1 : Nat), .int .u64 (b2 : Nat), .int .u64 (b3 : Nat)]) ∧ Wd (fun x => f x || (decide (lo ≤ x) && decide (x ≤ hi))) b0 b1 b2 b3 ∧ Below w.heap.size w w' := by
  have H0 := Lib.hid (hW.congr (g := fun x => f x || (decide (lo ≤ x) && decide (x < lo))) (fun x _ => by
    have : (decide (lo ≤ x) && decide (x < lo)) = false := by rw [← Bool.decide_and]; exact decide_eq_false (by omega)
    simp [this]))
  clear hW
  go_enter Try.func34, Try.ntmps34
  go_wp2
  go_loopw [7] (fun bv wr => ∃ (b c0 c1 c2 c3 : Nat), bv = .int .i64 (b : Nat) ∧ lo ≤ b ∧ b ≤ hi + 1 ∧ wr.cell? ⟨w.heap.size, 0, none⟩ = some (.int .u64 (c0 : Nat)) ∧ wr.cell? ⟨w.heap.size, 1, none⟩ = some (.int .u64 (c1 : Nat)) ∧ wr.cell? ⟨w.heap.size, 2, none⟩ = some (.int .u64 (c2 : Nat)) ∧ wr.cell? ⟨w.heap.size, 3, none⟩ = some (.int .u64 (c3 : Nat)) ∧ Hid (DVar wr w.heap.size 4) ∧ Hid (DVar wr (w.heap.size + 1) 4) ∧ Hid (Wd (fun x => f x || (decide (lo ≤ x) && decide (x < b))) c0 c1 c2 c3) ∧ Hid (Below w.heap.size w wr)) (fun bv _ => hi + 1 - (intOf bv).toNat)
  case atStart => exact ⟨lo, a0, a1, a2, a3, rfl, Nat.le_refl _, by omega, by go_simp, by go_simp, by go_simp, by go_simp, dvar_first _ _ _ _, dvar_second _ _ _ _, H0.out, alloc2_below _ _ _⟩
  case round =>
    obtain ⟨b, c0, c1, c2, c3, rfl, hb1, hb2, k0, k1, k2, k3, HDS, HDR, HWD, HB⟩ := hrel
    by_cases hlt : b ≤ hi
    · have hq : b / 64 = 0 ∨ b / 64 = 1 ∨ b / 64 = 2 ∨ b / 64 = 3 := by omega
      rcases hq with hq | hq | hq | hq
      · have hq1 : IntKind.i64.wrap ((b : Int).tdiv 64) = 0 := by
          rw [IntKind.wrap_i64]
          have : (b : Int).tdiv 64 = ((b / 64 : Nat) : Int) := by rw [Int.tdiv_eq_ediv_of_nonneg (by omega)]; omega
          rw [this, hq]; rfl
        obtain ⟨fz0, fz1, fz2, fz3⟩ := HDS.out.four
        have hwd := HWD.out.range hb1
        rw [hq] at hwd
        have HWN := Lib.hid (show Wd (fun x => f x || (decide (lo ≤ x) && decide (x < b + 1))) (c0 ||| 2 ^ (b % 64)) c1 c2 c3 from hwd)
        clear hwd
        go_wp2
        go_region
        go_wp2
        go_roundw
        case rel =>
          have hwl := HWD.out.lt
          exact ⟨b + 1, (c0 ||| 2 ^ (b % 64)), c1, c2, c3, by go_num, by omega, by omega, by rw [← or_bit c0 (b % 64) hwl.1 (Nat.mod_lt _ (by decide))]; go_simp, by go_simp, by go_simp, by go_simp, (HDS.out.set _).drew, (HDR.out.set _).drew, HWN.out, (HB.out.setCell (p := ⟨_, _, _⟩) (Nat.le_refl _) _).drew⟩
        case measure => simp [intOf]; omega
      · have hq1 : IntKind.i64.wrap ((b : Int).tdiv 64) = 1 := by
          rw [IntKind.wrap_i64]
          have : (b : Int).tdiv 64 = ((b / 64 : Nat) : Int) := by rw [Int.tdiv_eq_ediv_of_nonneg (by omega)]; omega
          rw [this, hq]; rfl
        obtain ⟨fz0, fz1, fz2, fz3⟩ := HDS.out.four
        have hwd := HWD.out.range hb1
        rw [hq] at hwd
        have HWN := Lib.hid (show Wd (fun x => f x || (decide (lo ≤ x) && decide (x < b + 1))) c0 (c1 ||| 2 ^ (b % 64)) c2 c3 from hwd)
        clear hwd
        go_wp2
        go_region
        go_wp2
        go_roundw
        case rel =>
          have hwl := HWD.out.lt
          exact ⟨b + 1, c0, (c1 ||| 2 ^ (b % 64)), c2, c3, by go_num, by omega, by omega, by go_simp, by rw [← or_bit c1 (b % 64) hwl.2.1 (Nat.mod_lt _ (by decide))]; go_simp, by go_simp, by go_simp, (HDS.out.set _).drew, (HDR.out.set _).drew, HWN.out, (HB.out.setCell (p := ⟨_, _, _⟩) (Nat.le_refl _) _).drew⟩
        case measure => simp [intOf]; omega
      · have hq1 : IntKind.i64.wrap ((b : Int).tdiv 64) = 2 := by
          rw [IntKind.wrap_i64]
          have : (b : Int).tdiv 64 = ((b / 64 : Nat) : Int) := by rw [Int.tdiv_eq_ediv_of_nonneg (by omega)]; omega
          rw [this, hq]; rfl
        obtain ⟨fz0, fz1, fz2, fz3⟩ := HDS.out.four
        have hwd := HWD.out.range hb1
        rw [hq] at hwd
        have HWN := Lib.hid (show Wd (fun x => f x || (decide (lo ≤ x) && decide (x < b + 1))) c0 c1 (c2 ||| 2 ^ (b % 64)) c3 from hwd)
        clear hwd
        go_wp2
        go_region
        go_wp2
        go_roundw
        case rel =>
          have hwl := HWD.out.lt
          exact ⟨b + 1, c0, c1, (c2 ||| 2 ^ (b % 64)), c3, by go_num, by omega, by omega, by go_simp, by go_simp, by rw [← or_bit c2 (b % 64) hwl.2.2.1 (Nat.mod_lt _ (by decide))]; go_simp, by go_simp, (HDS.out.set _).drew, (HDR.out.set _).drew, HWN.out, (HB.out.setCell (p := ⟨_, _, _⟩) (Nat.le_refl _) _).drew⟩
        case measure => simp [intOf]; omega
      · have hq1 : IntKind.i64.wrap ((b : Int).tdiv 64) = 3 := by
          rw [IntKind.wrap_i64]
          have : (b : Int).tdiv 64 = ((b / 64 : Nat) : Int) := by rw [Int.tdiv_eq_ediv_of_nonneg (by omega)]; omega
          rw [this, hq]; rfl
        obtain ⟨fz0, fz1, fz2, fz3⟩ := HDS.out.four
        have hwd := HWD.out.range hb1
        rw [hq] at hwd
        have HWN := Lib.hid (show Wd (fun x => f x || (decide (lo ≤ x) && decide (x < b + 1))) c0 c1 c2 (c3 ||| 2 ^ (b % 64)) from hwd)
        clear hwd
        go_wp2
        go_region
        go_wp2
        go_roundw
        case rel =>
          have hwl := HWD.out.lt
          exact ⟨b + 1, c0, c1, c2, (c3 ||| 2 ^ (b % 64)), by go_num, by omega, by omega, by go_simp, by go_simp, by go_simp, by rw [← or_bit c3 (b % 64) hwl.2.2.2 (Nat.mod_lt _ (by decide))]; go_simp, (HDS.out.set _).drew, (HDR.out.set _).drew, HWN.out, (HB.out.setCell (p := ⟨_, _, _⟩) (Nat.le_refl _) _).drew⟩
        case measure => simp [intOf]; omega
    · obtain rfl : b = hi + 1 := by omega
      have HWE := Lib.hid (HWD.out.congr (g := fun x => f x || (decide (lo ≤ x) && decide (x ≤ hi))) (fun x _ => by
        congr 2
        rw [decide_eq_decide]; omega))
      go_wp2_with (refine wpList_put rfl 55 _ _ rfl (w.heap.size + 1) [.int .u64 (c0 : Nat), .int .u64 (c1 : Nat), .int .u64 (c2 : Nat), .int .u64 (c3 : Nat)] rfl rfl HDR.out (by kernel_rfl) (by simp [Value.oneCell']) ?_; intro y1 hp; obtain ⟨t0, t1, t2, t3⟩ := hp.at_.four)
      exact bodyPost_ret (v := .agg #[.int .u64 (c0 : Nat), .int .u64 (c1 : Nat), .int .u64 (c2 : Nat), .int .u64 (c3 : Nat)]) (by simp [results, Try.results34, go_sem, t0, t1, t2, t3]) rfl ⟨c0, c1, c2, c3, rfl, HWE.out, hp.below (by omega) HB.out⟩
theorem xor_nat (a : Nat) (h : a < 18446744073709551616) : 18446744073709551615 ^^^ a = 18446744073709551615 - a := by
  refine Nat.eq_of_testBit_eq fun j => ?_
  have h1 := Nat.testBit_two_pow_sub_succ (show a < 2 ^ 64 from h) j
  rw [show 2 ^ 64 - (a + 1) = 18446744073709551615 - a from by omega] at h1
  have h2 := Nat.testBit_two_pow_sub_one 64 j
  rw [show 2 ^ 64 - 1 = 18446744073709551615 from rfl] at h2
  rw [Nat.testBit_xor, h1, h2]
  by_cases hj : j < 64
  · rw [decide_eq_true hj]; cases a.testBit j <;> rfl
  · rw [decide_eq_false hj, Nat.testBit_lt_two_pow (Nat.lt_of_lt_of_le h (Nat.pow_le_pow_right (n := 2) (by decide) (show 64 ≤ j by omega)))]; rfl
theorem xor_all (a : Nat) (h : a < 18446744073709551616) : bits .xor .u64 (if IntKind.u64.signed = true then -1 else IntKind.u64.max) (a : Int) = ((18446744073709551615 - a : Nat) : Int) := by
  rw [← xor_nat a h]
  exact u64_xor_nat 18446744073709551615 a (by decide) h
set_option maxRecDepth 100000 in
set_option maxHeartbeats 2000000 in
theorem others_c (a0 a1 a2 a3 : Nat) (h0 : a0 < 18446744073709551616) (h1 : a1 < 18446744073709551616) (h2 : a2 < 18446744073709551616) (h3 : a3 < 18446744073709551616) (w : World) :
    Calls Try.prog 32 #[.agg #[.int .u64 (a0 : Nat), .int .u64 (a1 : Nat), .int .u64 (a2 : Nat), .int .u64 (a3 : Nat)]] w fun e w' => e = .returned (.agg #[.int .u64 ((18446744073709551615 - a0 : Nat) : Int), .int .u64 ((18446744073709551615 - a1 : Nat) : Int), .int .u64 ((18446744073709551615 - a2 : Nat) : Int), .int .u64 ((18446744073709551615 - a3 : Nat) : Int)]) ∧ Below w.heap.size w w' := by
  have X0 := Lib.hid (xor_all a0 h0); have X1 := Lib.hid (xor_all a1 h1); have X2 := Lib.hid (xor_all a2 h2); have X3 := Lib.hid (xor_all a3 h3)
  obtain ⟨n0, hn0⟩ : ∃ n, 18446744073709551615 - a0 = n := ⟨_, rfl⟩
  obtain ⟨n1, hn1⟩ : ∃ n, 18446744073709551615 - a1 = n := ⟨_, rfl⟩
  obtain ⟨n2, hn2⟩ : ∃ n, 18446744073709551615 - a2 = n := ⟨_, rfl⟩
  obtain ⟨n3, hn3⟩ : ∃ n, 18446744073709551615 - a3 = n := ⟨_, rfl⟩
  rw [hn0] at X0; rw [hn1] at X1; rw [hn2] at X2; rw [hn3] at X3
  rw [hn0, hn1, hn2, hn3]
  clear h0 h1 h2 h3 hn0 hn1 hn2 hn3
  go_enter Try.func32, Try.ntmps32
  go_wp2
  go_loopw [3, 4] (fun _ kv wr => ∃ (k c0 c1 c2 c3 : Nat), kv = .int .i64 (k : Nat) ∧ wr.cell? ⟨w.heap.size, 0, none⟩ = some (.int .u64 (c0 : Nat)) ∧ wr.cell? ⟨w.heap.size, 1, none⟩ = some (.int .u64 (c1 : Nat)) ∧ wr.cell? ⟨w.heap.size, 2, none⟩ = some (.int .u64 (c2 : Nat)) ∧ wr.cell? ⟨w.heap.size, 3, none⟩ = some (.int .u64 (c3 : Nat)) ∧ Hid (DVar wr w.heap.size 4) ∧ Hid (DVar wr (w.heap.size + 1) 4) ∧ Hid ((k = 0 ∧ c0 = a0 ∧ c1 = a1 ∧ c2 = a2 ∧ c3 = a3) ∨ (k = 1 ∧ c0 = n0 ∧ c1 = a1 ∧ c2 = a2 ∧ c3 = a3) ∨ (k = 2 ∧ c0 = n0 ∧ c1 = n1 ∧ c2 = a2 ∧ c3 = a3) ∨ (k = 3 ∧ c0 = n0 ∧ c1 = n1 ∧ c2 = n2 ∧ c3 = a3) ∨ (k = 4 ∧ c0 = n0 ∧ c1 = n1 ∧ c2 = n2 ∧ c3 = n3)) ∧ Hid (Below w.heap.size w wr)) (fun _ kv _ => 4 - (intOf kv).toNat)
  case atStart => exact ⟨0, a0, a1, a2, a3, rfl, by go_simp, by go_simp, by go_simp, by go_simp, dvar_first _ _ _ _, dvar_second _ _ _ _, .inl ⟨rfl, rfl, rfl, rfl, rfl⟩, alloc2_below _ _ _⟩
  case round =>
    obtain ⟨k, c0, c1, c2, c3, rfl, k0, k1, k2, k3, HDS, HDR, HK, HB⟩ := hrel
    obtain ⟨fz0, fz1, fz2, fz3⟩ := HDS.out.four
    rcases HK.out with ⟨rfl, rfl, rfl, rfl, rfl⟩ | ⟨rfl, rfl, rfl, rfl, rfl⟩ | ⟨rfl, rfl, rfl, rfl, rfl⟩ | ⟨rfl, rfl, rfl, rfl, rfl⟩ | ⟨rfl, rfl, rfl, rfl, rfl⟩
    · go_wp2
      go_roundw
      case rel => exact ⟨1, n0, c1, c2, c3, rfl, by rw [← X0.out]; go_simp, by go_simp, by go_simp, by go_simp, HDS.out.set _, HDR.out.set _, .inr (.inl ⟨rfl, rfl, rfl, rfl, rfl⟩), HB.out.setCell (p := ⟨_, _, _⟩) (Nat.le_refl _) _⟩
      case measure => simp [intOf]
    · go_wp2
      go_roundw
      case rel => exact ⟨2, c0, n1, c2, c3, rfl, by go_simp, by rw [← X1.out]; go_simp, by go_simp, by go_simp, HDS.out.set _, HDR.out.set _, .inr (.inr (.inl ⟨rfl, rfl, rfl, rfl, rfl⟩)), HB.out.setCell (p := ⟨_, _, _⟩) (Nat.le_refl _) _⟩
      case measure => simp [intOf]
    · go_wp2
      go_roundw
      case rel => exact ⟨3, c0, c1, n2, c3, rfl, by go_simp, by go_simp, by rw [← X2.out]; go_simp, by go_simp, HDS.out.set _, HDR.out.set _, .inr (.inr (.inr (.inl ⟨rfl, rfl, rfl, rfl, rfl⟩))), HB.out.setCell (p := ⟨_, _, _⟩) (Nat.le_refl _) _⟩
      case measure => simp [intOf]
    · go_wp2
      go_roundw
      case rel => exact ⟨4, c0, c1, c2, n3, rfl, by go_simp, by go_simp, by go_simp, by rw [← X3.out]; go_simp, HDS.out.set _, HDR.out.set _, .inr (.inr (.inr (.inr (⟨rfl, rfl, rfl, rfl, rfl⟩)))), HB.out.setCell (p := ⟨_, _, _⟩) (Nat.le_refl _) _⟩
      case measure => simp [intOf]
    · go_wp2_with (refine wpList_put rfl 55 _ _ rfl (w.heap.size + 1) [.int .u64 (c0 : Nat), .int .u64 (c1 : Nat), .int .u64 (c2 : Nat), .int .u64 (c3 : Nat)] rfl rfl HDR.out (by kernel_rfl) (by simp [Value.oneCell']) ?_; intro y1 hp; obtain ⟨t0, t1, t2, t3⟩ := hp.at_.four)
      exact bodyPost_ret (v := .agg #[.int .u64 (c0 : Nat), .int .u64 (c1 : Nat), .int .u64 (c2 : Nat), .int .u64 (c3 : Nat)]) (by simp [results, Try.results32, go_sem, t0, t1, t2, t3]) rfl ⟨rfl, hp.below (by omega) HB.out⟩
end Go.Proofs.Ytodigfdhhndboaa.NP
