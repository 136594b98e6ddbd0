/-
  Contracts of the program's own functions of layer 9: sets (with, others).
-/
import Derived.Test.YtodlgbihdehmbaaGreatDoorNdlPatP
import Derived.Test.YtodlgbihdehmbaaGreatDoorNdlBoxP
import Derived.Lib.Hide
import Derived.WalkKit
import Derived.WalkSmall
import Derived.Laws.BitsAllLaws
import Derived.BigRegion
import Derived.Deep.RegionWith
import Derived.Deep.QuietTactic
import Derived.BigQuiet
import Derived.Deep.RegionHeld3
import Derived.Carry
import Derived.Test.YtodlgbihdehmbaaGreatDoorDecMathP
import Derived.Test.YtodlgbihdehmbaaGreatDoorShelfP
import Derived.Laws.Cover1
import Derived.StillTailTactics
import Derived.Deep.Cut
import Derived.Test.YtodlgbihdehmbaaGreatDoorNdlOwnP
set_option linter.unusedSimpArgs false
set_option linter.unusedVariables false
namespace Go.Proofs.YtodlgbihdehmbaaGreatDoor.Nd.NP
open Go.RowKit
theorem or_bit (c k : Nat) (hc : c < 18446744073709551616) (hk : k < 64) : bits .or .u64 (c : Int) (IntKind.u64.wrap (2 ^ k)) = ((c ||| 2 ^ k : Nat) : Int) := by
  have h1 : 2 ^ k ≤ 2 ^ 63 := Nat.pow_le_pow_right (by decide) (by omega)
  have h2 : ((2 : Int) ^ k) = ((2 ^ k : Nat) : Int) := by simp
  rw [h2, IntKind.wrap_u64]
  generalize 2 ^ k = p at *
  rw [Int.emod_eq_of_lt (by omega) (by omega)]
  exact u64_or_nat c p (by omega) (by omega)
theorem alloc2_below (w : World) (o1 o2 : Obj) : Below w.heap.size w ((w.alloc o1).alloc o2) := ((Below.refl _ _).alloc (Nat.le_refl _) _).alloc (by simp) _
theorem dvar_first (w : World) (cs : Array Value) (t : TypeId) (o : Obj) : DVar ((w.alloc (.cells cs t)).alloc o) w.heap.size cs.size := (DVar.alloc cs t).below (alloc_below _ _)
theorem dvar_second (w : World) (o : Obj) (cs : Array Value) (t : TypeId) : DVar ((w.alloc o).alloc (.cells cs t)) (w.heap.size + 1) cs.size := by
  have h := DVar.alloc (w := w.alloc o) cs t
  have e : (w.alloc o).heap.size = w.heap.size + 1 := by simp
  rw [e] at h
  exact h
set_option maxRecDepth 100000 in
set_option maxHeartbeats 2000000 in
theorem with_c (f : Nat → Bool) (a0 a1 a2 a3 : Nat) (hW : Wd f a0 a1 a2 a3) (lo hi : Nat) (hl : lo ≤ hi) (hh : hi < 256) (w : World) :
    Calls Tryz.prog 136 #[.agg #[.int .u64 (a0 : Nat), .int .u64 (a1 : Nat), .int .u64 (a2 : Nat), .int .u64 (a3 : Nat)], .int .u8 (lo : Nat), .int .u8 (hi : Nat)] w fun e w' => ∃ b0 b1 b2 b3 : Nat, e = .returned (.agg #[.int .u64 (b0 : Nat), .int .u64 (b1 : Nat), .int .u64 (b2 : Nat), .int .u64 (b3 : Nat)]) ∧ Wd (fun x => f x || (decide (lo ≤ x) && decide (x ≤ hi))) b0 b1 b2 b3 ∧ Below w.heap.size w w' := by
  have H0 := Lib.hid (hW.congr (g := fun x => f x || (decide (lo ≤ x) && decide (x < lo))) (fun x _ => by
    have : (decide (lo ≤ x) && decide (x < lo)) = false := by rw [← Bool.decide_and]; exact decide_eq_false (by omega)
    simp [this]))
  clear hW
  go_enter Tryz.func136, Tryz.ntmps136
  go_wp2
  go_loopw [7] (fun bv wr => ∃ (b c0 c1 c2 c3 : Nat), bv = .int .i64 (b : Nat) ∧ lo ≤ b ∧ b ≤ hi + 1 ∧ wr.cell? ⟨w.heap.size, 0, none⟩ = some (.int .u64 (c0 : Nat)) ∧ wr.cell? ⟨w.heap.size, 1, none⟩ = some (.int .u64 (c1 : Nat)) ∧ wr.cell? ⟨w.heap.size, 2, none⟩ = some (.int .u64 (c2 : Nat)) ∧ wr.cell? ⟨w.heap.size, 3, none⟩ = some (.int .u64 (c3 : Nat)) ∧ Hid (DVar wr w.heap.size 4) ∧ Hid (DVar wr (w.heap.size + 1) 4) ∧ Hid (Wd (fun x => f x || (decide (lo ≤ x) && decide (x < b))) c0 c1 c2 c3) ∧ Hid (Below w.heap.size w wr)) (fun bv _ => hi + 1 - (intOf bv).toNat)
  case atStart => exact ⟨lo, a0, a1, a2, a3, rfl, Nat.le_refl _, by omega, by go_simp, by go_simp, by go_simp, by go_simp, dvar_first _ _ _ _, dvar_second _ _ _ _, H0.out, alloc2_below _ _ _⟩
  case round =>
    obtain ⟨b, c0, c1, c2, c3, rfl, hb1, hb2, k0, k1, k2, k3, HDS, HDR, HWD, HB⟩ := hrel
    by_cases hlt : b ≤ hi
    · have hq : b / 64 = 0 ∨ b / 64 = 1 ∨ b / 64 = 2 ∨ b / 64 = 3 := by omega
      rcases hq with hq | hq | hq | hq
      · have hq1 : IntKind.i64.wrap ((b : Int).tdiv 64) = 0 := by
          rw [IntKind.wrap_i64]
          have : (b : Int).tdiv 64 = ((b / 64 : Nat) : Int) := by rw [Int.tdiv_eq_ediv_of_nonneg (by omega)]; omega
          rw [this, hq]; rfl
        obtain ⟨fz0, fz1, fz2, fz3⟩ := HDS.out.four
        have hwd := HWD.out.range hb1
        rw [hq] at hwd
        have HWN := Lib.hid (show Wd (fun x => f x || (decide (lo ≤ x) && decide (x < b + 1))) (c0 ||| 2 ^ (b % 64)) c1 c2 c3 from hwd)
        clear hwd
        go_wp2
        go_region
        go_wp2
        go_roundw
        case rel =>
          have hwl := HWD.out.lt
          exact ⟨b + 1, (c0 ||| 2 ^ (b % 64)), c1, c2, c3, by go_num, by omega, by omega, by rw [← or_bit c0 (b % 64) hwl.1 (Nat.mod_lt _ (by decide))]; go_simp, by go_simp, by go_simp, by go_simp, (HDS.out.set _).drew, (HDR.out.set _).drew, HWN.out, (HB.out.setCell (p := ⟨_, _, _⟩) (Nat.le_refl _) _).drew⟩
        case measure => simp [intOf]; omega
      · have hq1 : IntKind.i64.wrap ((b : Int).tdiv 64) = 1 := by
          rw [IntKind.wrap_i64]
          have : (b : Int).tdiv 64 = ((b / 64 : Nat) : Int) := by rw [Int.tdiv_eq_ediv_of_nonneg (by omega)]; omega
          rw [this, hq]; rfl
        obtain ⟨fz0, fz1, fz2, fz3⟩ := HDS.out.four
        have hwd := HWD.out.range hb1
        rw [hq] at hwd
        have HWN := Lib.hid (show Wd (fun x => f x || (decide (lo ≤ x) && decide (x < b + 1))) c0 (c1 ||| 2 ^ (b % 64)) c2 c3 from hwd)
        clear hwd
        go_wp2
        go_region
        go_wp2
        go_roundw
        case rel =>
          have hwl := HWD.out.lt
          exact ⟨b + 1, c0, (c1 ||| 2 ^ (b % 64)), c2, c3, by go_num, by omega, by omega, by go_simp, by rw [← or_bit c1 (b % 64) hwl.2.1 (Nat.mod_lt _ (by decide))]; go_simp, by go_simp, by go_simp, (HDS.out.set _).drew, (HDR.out.set _).drew, HWN.out, (HB.out.setCell (p := ⟨_, _, _⟩) (Nat.le_refl _) _).drew⟩
        case measure => simp [intOf]; omega
      · have hq1 : IntKind.i64.wrap ((b : Int).tdiv 64) = 2 := by
          rw [IntKind.wrap_i64]
          have : (b : Int).tdiv 64 = ((b / 64 : Nat) : Int) := by rw [Int.tdiv_eq_ediv_of_nonneg (by omega)]; omega
          rw [this, hq]; rfl
        obtain ⟨fz0, fz1, fz2, fz3⟩ := HDS.out.four
        have hwd := HWD.out.range hb1
        rw [hq] at hwd
        have HWN := Lib.hid (show Wd (fun x => f x || (decide (lo ≤ x) && decide (x < b + 1))) c0 c1 (c2 ||| 2 ^ (b % 64)) c3 from hwd)
        clear hwd
        go_wp2
        go_region
        go_wp2
        go_roundw
        case rel =>
          have hwl := HWD.out.lt
          exact ⟨b + 1, c0, c1, (c2 ||| 2 ^ (b % 64)), c3, by go_num, by omega, by omega, by go_simp, by go_simp, by rw [← or_bit c2 (b % 64) hwl.2.2.1 (Nat.mod_lt _ (by decide))]; go_simp, by go_simp, (HDS.out.set _).drew, (HDR.out.set _).drew, HWN.out, (HB.out.setCell (p := ⟨_, _, _⟩) (Nat.le_refl _) _).drew⟩
        case measure => simp [intOf]; omega
      · have hq1 : IntKind.i64.wrap ((b : Int).tdiv 64) = 3 := by
          rw [IntKind.wrap_i64]
          have : (b : Int).tdiv 64 = ((b / 64 : Nat) : Int) := by rw [Int.tdiv_eq_ediv_of_nonneg (by omega)]; omega
          rw [this, hq]; rfl
        obtain ⟨fz0, fz1, fz2, fz3⟩ := HDS.out.four
        have hwd := HWD.out.range hb1
        rw [hq] at hwd
        have HWN := Lib.hid (show Wd (fun x => f x || (decide (lo ≤ x) && decide (x < b + 1))) c0 c1 c2 (c3 ||| 2 ^ (b % 64)) from hwd)
        clear hwd
        go_wp2
        go_region
        go_wp2
        go_roundw
        case rel =>
          have hwl := HWD.out.lt
          exact ⟨b + 1, c0, c1, c2, (c3 ||| 2 ^ (b % 64)), by go_num, by omega, by omega, by go_simp, by go_simp, by go_simp, by rw [← or_bit c3 (b % 64) hwl.2.2.2 (Nat.mod_lt _ (by decide))]; go_simp, (HDS.out.set _).drew, (HDR.out.set _).drew, HWN.out, (HB.out.setCell (p := ⟨_, _, _⟩) (Nat.le_refl _) _).drew⟩
        case measure => simp [intOf]; omega
    · obtain rfl : b = hi + 1 := by omega
      have HWE := Lib.hid (HWD.out.congr (g := fun x => f x || (decide (lo ≤ x) && decide (x ≤ hi))) (fun x _ => by
        congr 2
        rw [decide_eq_decide]; omega))
      go_wp2_with (refine wpList_put rfl 156 _ _ rfl (w.heap.size + 1) [.int .u64 (c0 : Nat), .int .u64 (c1 : Nat), .int .u64 (c2 : Nat), .int .u64 (c3 : Nat)] rfl rfl HDR.out (by kernel_rfl) (by simp [Value.oneCell']) ?_; intro y1 hp; obtain ⟨t0, t1, t2, t3⟩ := hp.at_.four)
      exact bodyPost_ret (v := .agg #[.int .u64 (c0 : Nat), .int .u64 (c1 : Nat), .int .u64 (c2 : Nat), .int .u64 (c3 : Nat)]) (by simp [results, Tryz.results136, go_sem, t0, t1, t2, t3]) rfl ⟨c0, c1, c2, c3, rfl, HWE.out, hp.below (by omega) HB.out⟩
theorem xor_nat (a : Nat) (h : a < 18446744073709551616) : 18446744073709551615 ^^^ a = 18446744073709551615 - a := by
  refine Nat.eq_of_testBit_eq fun j => ?_
  have h1 := Nat.testBit_two_pow_sub_succ (show a < 2 ^ 64 from h) j
  rw [show 2 ^ 64 - (a + 1) = 18446744073709551615 - a from by omega] at h1
  have h2 := Nat.testBit_two_pow_sub_one 64 j
  rw [show 2 ^ 64 - 1 = 18446744073709551615 from rfl] at h2
  rw [Nat.testBit_xor, h1, h2]
  by_cases hj : j < 64
  · rw [decide_eq_true hj]; cases a.testBit j <;> rfl
  · rw [decide_eq_false hj, Nat.testBit_lt_two_pow (Nat.lt_of_lt_of_le h (Nat.pow_le_pow_right (n := 2) (by decide) (show 64 ≤ j by omega)))]; rfl
theorem xor_all (a : Nat) (h : a < 18446744073709551616) : bits .xor .u64 (if IntKind.u64.signed = true then -1 else IntKind.u64.max) (a : Int) = ((18446744073709551615 - a : Nat) : Int) := by
  rw [← xor_nat a h]
  exact u64_xor_nat 18446744073709551615 a (by decide) h
set_option maxRecDepth 100000 in
set_option maxHeartbeats 2000000 in
theorem others_c (a0 a1 a2 a3 : Nat) (h0 : a0 < 18446744073709551616) (h1 : a1 < 18446744073709551616) (h2 : a2 < 18446744073709551616) (h3 : a3 < 18446744073709551616) (w : World) :
    Calls Tryz.prog 134 #[.agg #[.int .u64 (a0 : Nat), .int .u64 (a1 : Nat), .int .u64 (a2 : Nat), .int .u64 (a3 : Nat)]] w fun e w' => e = .returned (.agg #[.int .u64 ((18446744073709551615 - a0 : Nat) : Int), .int .u64 ((18446744073709551615 - a1 : Nat) : Int), .int .u64 ((18446744073709551615 - a2 : Nat) : Int), .int .u64 ((18446744073709551615 - a3 : Nat) : Int)]) ∧ Below w.heap.size w w' := by
  have X0 := Lib.hid (xor_all a0 h0); have X1 := Lib.hid (xor_all a1 h1); have X2 := Lib.hid (xor_all a2 h2); have X3 := Lib.hid (xor_all a3 h3)
  obtain ⟨n0, hn0⟩ : ∃ n, 18446744073709551615 - a0 = n := ⟨_, rfl⟩
  obtain ⟨n1, hn1⟩ : ∃ n, 18446744073709551615 - a1 = n := ⟨_, rfl⟩
  obtain ⟨n2, hn2⟩ : ∃ n, 18446744073709551615 - a2 = n := ⟨_, rfl⟩
  obtain ⟨n3, hn3⟩ : ∃ n, 18446744073709551615 - a3 = n := ⟨_, rfl⟩
  rw [hn0] at X0; rw [hn1] at X1; rw [hn2] at X2; rw [hn3] at X3
  rw [hn0, hn1, hn2, hn3]
  clear h0 h1 h2 h3 hn0 hn1 hn2 hn3
  go_enter Tryz.func134, Tryz.ntmps134
  go_wp2
  go_loopw [3, 4] (fun _ kv wr => ∃ (k c0 c1 c2 c3 : Nat), kv = .int .i64 (k : Nat) ∧ wr.cell? ⟨w.heap.size, 0, none⟩ = some (.int .u64 (c0 : Nat)) ∧ wr.cell? ⟨w.heap.size, 1, none⟩ = some (.int .u64 (c1 : Nat)) ∧ wr.cell? ⟨w.heap.size, 2, none⟩ = some (.int .u64 (c2 : Nat)) ∧ wr.cell? ⟨w.heap.size, 3, none⟩ = some (.int .u64 (c3 : Nat)) ∧ Hid (DVar wr w.heap.size 4) ∧ Hid (DVar wr (w.heap.size + 1) 4) ∧ Hid ((k = 0 ∧ c0 = a0 ∧ c1 = a1 ∧ c2 = a2 ∧ c3 = a3) ∨ (k = 1 ∧ c0 = n0 ∧ c1 = a1 ∧ c2 = a2 ∧ c3 = a3) ∨ (k = 2 ∧ c0 = n0 ∧ c1 = n1 ∧ c2 = a2 ∧ c3 = a3) ∨ (k = 3 ∧ c0 = n0 ∧ c1 = n1 ∧ c2 = n2 ∧ c3 = a3) ∨ (k = 4 ∧ c0 = n0 ∧ c1 = n1 ∧ c2 = n2 ∧ c3 = n3)) ∧ Hid (Below w.heap.size w wr)) (fun _ kv _ => 4 - (intOf kv).toNat)
  case atStart => exact ⟨0, a0, a1, a2, a3, rfl, by go_simp, by go_simp, by go_simp, by go_simp, dvar_first _ _ _ _, dvar_second _ _ _ _, .inl ⟨rfl, rfl, rfl, rfl, rfl⟩, alloc2_below _ _ _⟩
  case round =>
    obtain ⟨k, c0, c1, c2, c3, rfl, k0, k1, k2, k3, HDS, HDR, HK, HB⟩ := hrel
    obtain ⟨fz0, fz1, fz2, fz3⟩ := HDS.out.four
    rcases HK.out with ⟨rfl, rfl, rfl, rfl, rfl⟩ | ⟨rfl, rfl, rfl, rfl, rfl⟩ | ⟨rfl, rfl, rfl, rfl, rfl⟩ | ⟨rfl, rfl, rfl, rfl, rfl⟩ | ⟨rfl, rfl, rfl, rfl, rfl⟩
    · go_wp2
      go_roundw
      case rel => exact ⟨1, n0, c1, c2, c3, rfl, by rw [← X0.out]; go_simp, by go_simp, by go_simp, by go_simp, HDS.out.set _, HDR.out.set _, .inr (.inl ⟨rfl, rfl, rfl, rfl, rfl⟩), HB.out.setCell (p := ⟨_, _, _⟩) (Nat.le_refl _) _⟩
      case measure => simp [intOf]
    · go_wp2
      go_roundw
      case rel => exact ⟨2, c0, n1, c2, c3, rfl, by go_simp, by rw [← X1.out]; go_simp, by go_simp, by go_simp, HDS.out.set _, HDR.out.set _, .inr (.inr (.inl ⟨rfl, rfl, rfl, rfl, rfl⟩)), HB.out.setCell (p := ⟨_, _, _⟩) (Nat.le_refl _) _⟩
      case measure => simp [intOf]
    · go_wp2
      go_roundw
      case rel => exact ⟨3, c0, c1, n2, c3, rfl, by go_simp, by go_simp, by rw [← X2.out]; go_simp, by go_simp, HDS.out.set _, HDR.out.set _, .inr (.inr (.inr (.inl ⟨rfl, rfl, rfl, rfl, rfl⟩))), HB.out.setCell (p := ⟨_, _, _⟩) (Nat.le_refl _) _⟩
      case measure => simp [intOf]
    · go_wp2
      go_roundw
      case rel => exact ⟨4, c0, c1, c2, n3, rfl, by go_simp, by go_simp, by go_simp, by rw [← X3.out]; go_simp, HDS.out.set _, HDR.out.set _, .inr (.inr (.inr (.inr (⟨rfl, rfl, rfl, rfl, rfl⟩)))), HB.out.setCell (p := ⟨_, _, _⟩) (Nat.le_refl _) _⟩
      case measure => simp [intOf]
    · go_wp2_with (refine wpList_put rfl 156 _ _ rfl (w.heap.size + 1) [.int .u64 (c0 : Nat), .int .u64 (c1 : Nat), .int .u64 (c2 : Nat), .int .u64 (c3 : Nat)] rfl rfl HDR.out (by kernel_rfl) (by simp [Value.oneCell']) ?_; intro y1 hp; obtain ⟨t0, t1, t2, t3⟩ := hp.at_.four)
      exact bodyPost_ret (v := .agg #[.int .u64 (c0 : Nat), .int .u64 (c1 : Nat), .int .u64 (c2 : Nat), .int .u64 (c3 : Nat)]) (by simp [results, Tryz.results134, go_sem, t0, t1, t2, t3]) rfl ⟨rfl, hp.below (by omega) HB.out⟩
end Go.Proofs.YtodlgbihdehmbaaGreatDoor.Nd.NP
/-
  Contracts of the program's own functions of layer 9: member, and the library's CutPrefix in plain words.
-/
set_option linter.unusedSimpArgs false
set_option linter.unusedVariables false
namespace Go.Proofs.YtodlgbihdehmbaaGreatDoor.Nd.NP
open Go.RowKit
theorem bs_cons {s : ByteArray} (h : 0 < s.size) : ∃ a m, bs s = a :: m ∧ (s[0]'h).toNat = a ∧ m.length + 1 = s.size ∧ a < 256 := by
  have hl := bs_length s
  have h0 := at_byte h
  have h1 := byte_le s 0
  cases hb : bs s with
  | nil => rw [hb] at hl; simp at hl; omega
  | cons a m =>
    rw [hb] at hl h0 h1
    exact ⟨a, m, rfl, h0, hl, by unfold byteAt at h1; simp at h1; omega⟩
theorem bs_from (s : ByteArray) (k : Nat) : bs (s.extract k s.size) = (bs s).drop k := by
  obtain ⟨⟨l⟩⟩ := s
  simp [bs, ByteArray.extract_mk]
  exact List.take_of_length_le (by rw [List.length_drop, List.length_map]; exact Nat.le_refl _)
theorem below_drew (w : World) : Below w.heap.size w w.drew := (Below.refl _ _).drew
set_option maxRecDepth 100000 in
set_option maxHeartbeats 2000000 in
theorem member_c (s : ByteArray) (a : Nat) (m : List Nat) (hb : bs s = a :: m) (hs : s.size ≤ 1000) (w : World) :
    Calls Tryz.prog 161 #[.string s] w fun e w' => ∃ (lo hi : Nat) (R : ByteArray), e = .returned (.tuple #[.int .u8 (lo : Nat), .int .u8 (hi : Nat), .string R]) ∧ ndMemb a m = (lo, hi, bs R) ∧ Below w.heap.size w w' := by
  have hl := bs_length s
  rw [hb] at hl
  have h0 : 0 < s.size := by simp at hl; omega
  have e0 := at_byte h0
  rw [hb] at e0
  have e0' : (s[0]'h0).toNat = a := e0
  have HF1 := Lib.hid (show bs (s.extract 1 s.size) = m by rw [bs_from, hb]; rfl)
  have HF3 := Lib.hid (show bs (s.extract 3 s.size) = m.drop 2 by rw [bs_from, hb]; rfl)
  by_cases h3 : s.size < 3
  · have HM := Lib.hid (show ndMemb a m = (a, a, m) from if_neg (fun e => by have := e.1; simp at hl; omega))
    clear e0 hb hl
    go_enter Tryz.func161, Tryz.ntmps161
    go_wp2
    go_region
    go_wp2
    exact bodyPost_ret (v := .tuple #[.int .u8 (a : Nat), .int .u8 (a : Nat), .string (s.extract 1 s.size)]) (by simp [results, Tryz.results161, go_sem]) rfl ⟨a, a, _, rfl, by rw [HF1.out]; exact HM.out, below_drew w⟩
  · have h1 : 1 < s.size := by omega
    have h2 : 2 < s.size := by omega
    have h3' : 3 ≤ s.size := by omega
    have e1 := at_byte h1
    have e2 := at_byte h2
    rw [hb] at e1 e2
    have e1' : (s[1]'h1).toNat = m.getD 0 0 := e1
    have e2' : (s[2]'h2).toNat = m.getD 1 0 := e2
    have hml : 2 ≤ m.length := by simp at hl; omega
    obtain ⟨x, hx⟩ : ∃ x, m.getD 0 0 = x := ⟨_, rfl⟩
    obtain ⟨y, hy⟩ : ∃ y, m.getD 1 0 = y := ⟨_, rfl⟩
    rw [hx] at e1'; rw [hy] at e2'
    by_cases hc : x = 45 ∧ y ≠ 93
    · obtain ⟨rfl, hy2⟩ := hc
      have HM := Lib.hid (show ndMemb a m = (a, y, m.drop 2) from hy ▸ if_pos ⟨hml, hx, by rw [hy]; exact hy2⟩)
      have hy3 : ¬ (y : Int) = 93 := by omega
      clear e0 e1 e2 hb hl hx hy hml
      go_enter Tryz.func161, Tryz.ntmps161
      go_wp2
      go_region
      go_wp2
      exact bodyPost_ret (v := .tuple #[.int .u8 (a : Nat), .int .u8 (y : Nat), .string (s.extract 3 s.size)]) (by simp [results, Tryz.results161, go_sem]) rfl ⟨a, y, _, rfl, by rw [HF3.out]; exact HM.out, below_drew w⟩
    · have HM := Lib.hid (show ndMemb a m = (a, a, m) from if_neg (fun e => hc ⟨by rw [← hx]; exact e.2.1, by rw [← hy]; exact e.2.2⟩))
      by_cases hx2 : x = 45
      · obtain rfl : y = 93 := by
          rcases Nat.decEq y 93 with h | h
          · exact absurd ⟨hx2, h⟩ hc
          · exact h
        subst hx2
        clear e0 e1 e2 hb hl hx hy hml hc
        go_enter Tryz.func161, Tryz.ntmps161
        go_wp2
        go_region
        go_wp2
        exact bodyPost_ret (v := .tuple #[.int .u8 (a : Nat), .int .u8 (a : Nat), .string (s.extract 1 s.size)]) (by simp [results, Tryz.results161, go_sem]) rfl ⟨a, a, _, rfl, by rw [HF1.out]; exact HM.out, below_drew w⟩
      · have hx3 : ¬ (x : Int) = 45 := by omega
        clear e0 e1 e2 hb hl hx hy hml hc
        go_enter Tryz.func161, Tryz.ntmps161
        go_wp2
        go_region
        go_wp2
        exact bodyPost_ret (v := .tuple #[.int .u8 (a : Nat), .int .u8 (a : Nat), .string (s.extract 1 s.size)]) (by simp [results, Tryz.results161, go_sem]) rfl ⟨a, a, _, rfl, by rw [HF1.out]; exact HM.out, below_drew w⟩
/-- CutPrefix of one byte. -/
theorem trim_one (c : UInt8) (l : List UInt8) : (Lib.trimPrefix l [c]).map (·.toNat) = cutB c.toNat (l.map (·.toNat)) ∧ Lib.hasPrefix l [c] = ((l.map (·.toNat)).getD 0 0 == c.toNat && decide (l ≠ [])) := by
  cases l with
  | nil => exact ⟨by simp [Lib.trimPrefix, Lib.hasPrefix, cutB], by simp [Lib.hasPrefix]⟩
  | cons x l =>
    by_cases h : x = c
    · subst h
      simp [Lib.trimPrefix, Lib.hasPrefix, cutB]
    · have hn : ¬ x.toNat = c.toNat := fun e => h (UInt8.toNat_inj.1 e)
      have hn2 : ¬ c = x := fun e => h e.symm
      have h5 : (c == x) = false := beq_false_of_ne hn2
      have h6 : (x.toNat == c.toNat) = false := beq_false_of_ne hn
      simp [Lib.trimPrefix, Lib.hasPrefix, cutB, List.isPrefixOf, h5, h6, hn]
theorem cutp_c (s p : ByteArray) (c : UInt8) (hp : p = ⟨#[c]⟩) (hc : c.toNat ≠ 0) (w : World) :
    Calls Tryz.prog 76 #[.string s, .string p] w fun e w' => ∃ R : ByteArray, e = .returned (.tuple #[.string R, .bool ((bs s).getD 0 0 == c.toNat)]) ∧ bs R = cutB c.toNat (bs s) ∧ w' = w := by
  subst hp
  refine (Tryz.strings_CutPrefix s ⟨#[c]⟩ w).mono ?_
  rintro e w' ⟨rfl, rfl⟩
  obtain ⟨h1, h2⟩ := trim_one c s.data.toList
  refine ⟨⟨(Lib.trimPrefix s.data.toList (⟨#[c]⟩ : ByteArray).data.toList).toArray⟩, ?_, ?_, rfl⟩
  · rw [show (⟨#[c]⟩ : ByteArray).data.toList = [c] from rfl, h2]
    have e : ((bs s).getD 0 0 == c.toNat) = ((s.data.toList.map (·.toNat)).getD 0 0 == c.toNat && decide (s.data.toList ≠ [])) := by
      show ((s.data.toList.map (·.toNat)).getD 0 0 == c.toNat) = _
      cases s.data.toList with
      | nil => simp [hc.symm]
      | cons x l => simp
    rw [e]
  · rw [show (⟨#[c]⟩ : ByteArray).data.toList = [c] from rfl]
    show ((Lib.trimPrefix s.data.toList [c]).toArray.toList).map (·.toNat) = _
    rw [List.toList_toArray]
    exact h1
end Go.Proofs.YtodlgbihdehmbaaGreatDoor.Nd.NP
/-
  Contracts of the program's own functions of layer 9: class.
-/
set_option linter.unusedSimpArgs false
set_option linter.unusedVariables false
namespace Go.Proofs.YtodlgbihdehmbaaGreatDoor.Nd.NP
open Go.RowKit
def strLen : Value → Nat
  | .string s => s.size
  | _ => 0
theorem strLen_is (s : ByteArray) : strLen (.string s) = s.size := rfl
theorem ne_empty {R : ByteArray} (h : 0 < R.size) : R.toList.isEmpty = false := by
  rw [ByteArray.toList_eq]
  obtain ⟨⟨l⟩⟩ := R
  have h2 : 0 < l.length := h
  cases l with
  | nil => simp at h2
  | cons x l => rfl
theorem bs_mem (s : ByteArray) : ∀ c ∈ bs s, c < 256 := by
  intro c hc
  simp only [bs, List.mem_map] at hc
  obtain ⟨x, _, rfl⟩ := hc
  exact x.toNat_lt
theorem memb_lt {R : ByteArray} {a : Nat} {m : List Nat} (hb : bs R = a :: m) {lo hi : Nat} {r : List Nat} (h : ndMemb a m = (lo, hi, r)) : lo < 256 ∧ hi < 256 := by
  have h1 := bs_mem R
  rw [hb] at h1
  have ha := h1 a List.mem_cons_self
  unfold ndMemb at h
  split at h
  · rename_i hc
    injection h with h2 h3
    injection h3 with h3 h4
    refine ⟨by omega, ?_⟩
    rw [← h3, List.getD_eq_getElem?_getD, List.getElem?_eq_getElem (show 1 < m.length by omega)]
    exact h1 _ (List.mem_cons_of_mem _ (List.getElem_mem _))
  · injection h with h2 h3
    injection h3 with h3 h4
    omega
theorem is_empty {R : ByteArray} (h : R.size = 0) : R = ⟨#[]⟩ := by
  obtain ⟨⟨l⟩⟩ := R
  have : l.length = 0 := h
  rw [List.eq_nil_of_length_eq_zero this]
set_option maxRecDepth 100000 in
set_option maxHeartbeats 4000000 in
theorem class_c (s : ByteArray) (hs : s.size ≤ 1000) (w : World) :
    Calls Tryz.prog 135 #[.string s] w fun e w' => ∃ (a0 a1 a2 a3 : Nat) (R : ByteArray) (ok : Bool), e = .returned (.tuple #[.agg #[.int .u64 (a0 : Nat), .int .u64 (a1 : Nat), .int .u64 (a2 : Nat), .int .u64 (a3 : Nat)], .string R, .bool ok]) ∧
      ClsI (bs s) a0 a1 a2 a3 (bs R) ok ∧ (a0 < 18446744073709551616 ∧ a1 < 18446744073709551616 ∧ a2 < 18446744073709551616 ∧ a3 < 18446744073709551616) ∧ Below w.heap.size w w' := by
  have CP := Lib.hid (fun W => cutp_c s ⟨#[94]⟩ 94 rfl (by decide) W)
  go_enter Tryz.func135, Tryz.ntmps135
  go_wp2_with fail
  refine (CP.out _).mono ?_; rintro _ w1 ⟨R0, rfl, hR0, hw1⟩
  obtain ⟨nt, hnt⟩ : ∃ nt, ((bs s).getD 0 0 == (94 : UInt8).toNat) = nt := ⟨_, rfl⟩
  rw [hnt]
  have hD : DVar w1 w.heap.size 4 := hw1 ▸ DVar.alloc _ _
  have hB : Below w.heap.size w w1 := hw1 ▸ alloc_below _ _
  have hC : Holds w1 w.heap.size [.int .u64 ((0 : Nat) : Int), .int .u64 ((0 : Nat) : Int), .int .u64 ((0 : Nat) : Int), .int .u64 ((0 : Nat) : Int)] := by
    rw [hw1]
    exact Holds.of4 (by simp) (by simp) (by simp) (by simp)
  have hlr : R0.size ≤ 1000 := by rw [← bs_length, hR0]; have := cutB_length 94 (bs s); rw [bs_length] at this; exact Nat.le_trans this hs
  have HNT := Lib.hid hnt; have HR0 := Lib.hid (show bs R0 = cutB 94 (bs s) from hR0); have HD0 := Lib.hid hD; have HB0 := Lib.hid hB
  obtain ⟨g0, g1, g2, g3⟩ := hC.four
  clear hnt hR0 hD hB hw1 hC
  go_wp2
  go_loopw [3, 6, 7, 8, 9] (fun rv nv _ _ _ wr => ∃ (R : ByteArray) (n c0 c1 c2 c3 : Nat) (rs : List (Nat × Nat)), rv = .string R ∧ nv = .int .i64 (n : Nat) ∧ n + R.size ≤ 1000 ∧ wr.cell? ⟨w.heap.size, 0, none⟩ = some (.int .u64 (c0 : Nat)) ∧ wr.cell? ⟨w.heap.size, 1, none⟩ = some (.int .u64 (c1 : Nat)) ∧ wr.cell? ⟨w.heap.size, 2, none⟩ = some (.int .u64 (c2 : Nat)) ∧ wr.cell? ⟨w.heap.size, 3, none⟩ = some (.int .u64 (c3 : Nat)) ∧ Hid (DVar wr w.heap.size 4) ∧ Hid (rs.length = n) ∧ Hid (MemI (cutB 94 (bs s)) (bs R) rs) ∧ Hid (Wd (ndIn rs) c0 c1 c2 c3) ∧ Hid (Below w.heap.size w wr)) (fun rv _ _ _ _ _ => strLen rv)
  case atStart => exact ⟨R0, 0, 0, 0, 0, 0, [], rfl, rfl, by omega, g0, g1, g2, g3, HD0.out, rfl, by rw [HR0.out]; exact MemI.start _, Wd.none_, HB0.out⟩
  case round =>
    obtain ⟨R, n, c0, c1, c2, c3, rs, rfl, rfl, hn, k0, k1, k2, k3, HD, HL, HM, HW, HB⟩ := hrel
    by_cases hz : R.size = 0
    · obtain rfl := is_empty hz
      have HNO := Lib.hid (show ndMem ((cutB 94 (bs s)).length + 1) (cutB 94 (bs s)) = none from MemI.none_ HM.out)
      go_wp2_with (refine wpList_put rfl 156 _ _ rfl w.heap.size [.int .u64 0, .int .u64 0, .int .u64 0, .int .u64 0] rfl rfl HD.out (by kernel_rfl) (by simp [Value.oneCell']) ?_; intro y1 hp; obtain ⟨t0, t1, t2, t3⟩ := hp.at_.four)
      exact bodyPost_ret (v := .tuple #[.agg #[.int .u64 ((0 : Nat) : Int), .int .u64 ((0 : Nat) : Int), .int .u64 ((0 : Nat) : Int), .int .u64 ((0 : Nat) : Int)], .string ⟨#[]⟩, .bool false]) (by simp [results, Tryz.results135, go_sem, t0, t1, t2, t3]) rfl ⟨0, 0, 0, 0, ⟨#[]⟩, false, rfl, ClsI.no HNO.out 0 0 0 0 _, ⟨by decide, by decide, by decide, by decide⟩, hp.below (Nat.le_refl _) HB.out⟩
    · have hz2 : 0 < R.size := by omega
      have hne := ne_empty hz2
      have hz1 : (1 : Int) ≤ (R.size : Int) := by omega
      obtain ⟨a, m, hb, e0, hml, ha⟩ := bs_cons hz2
      have HBS := Lib.hid hb
      have hm0 := HM.out
      rw [hb] at hm0
      have HM2 := Lib.hid hm0
      have HF1 := Lib.hid (show bs (R.extract 1 R.size) = m by rw [bs_from, hb]; rfl)
      clear hb hm0
      by_cases h93 : a = 93
      · subst h93
        have HCL := Lib.hid (MemI.close HM2.out)
        have HOK := Lib.hid (show decide (0 < n) = decide (0 < rs.length) by rw [HL.out])
        cases nt with
        | true =>
          have HWN := Lib.hid (HW.out.not)
          have HLT := Lib.hid HWN.out.lt
          have OC := Lib.hid (fun W => others_c c0 c1 c2 c3 HW.out.lt.1 HW.out.lt.2.1 HW.out.lt.2.2.1 HW.out.lt.2.2.2 W)
          generalize 18446744073709551615 - c0 = b0 at HWN HLT OC
          generalize 18446744073709551615 - c1 = b1 at HWN HLT OC
          generalize 18446744073709551615 - c2 = b2 at HWN HLT OC
          generalize 18446744073709551615 - c3 = b3 at HWN HLT OC
          have HCI := Lib.hid (ClsI.yes HCL.out (a0 := b0) (a1 := b1) (a2 := b2) (a3 := b3) (HNT.out.symm ▸ Wd.clsNot HWN.out) HOK.out)
          go_wp2_with fail
          refine (OC.out _).mono ?_; rintro _ w2 ⟨rfl, hb2⟩
          have HD2 := Lib.hid (HD.out.below hb2); have HB2 := Lib.hid (bnext HB.out hb2)
          clear hb2
          go_upto_region 8 with (refine wpList_put rfl 156 _ _ rfl w.heap.size [.int .u64 (b0 : Nat), .int .u64 (b1 : Nat), .int .u64 (b2 : Nat), .int .u64 (b3 : Nat)] rfl rfl HD2.out (by kernel_rfl) (by simp [Value.oneCell']) ?_; intro y2 hp2; obtain ⟨k4, k5, k6, k7⟩ := hp2.at_.four)
          have HD3 := Lib.hid hp2.var; have HB3 := Lib.hid (hp2.below (Nat.le_refl _) HB2.out)
          clear hp2
          obtain ⟨f0, f1, f2, f3⟩ := HD3.out.four
          go_region
          go_wp2
          exact bodyPost_ret (v := .tuple #[.agg #[.int .u64 (b0 : Nat), .int .u64 (b1 : Nat), .int .u64 (b2 : Nat), .int .u64 (b3 : Nat)], .string (R.extract 1 R.size), .bool (decide (0 < n))]) (by simp [results, Tryz.results135, go_sem, Act.put, k4, k5, k6, k7]) rfl ⟨b0, b1, b2, b3, _, _, rfl, by rw [HF1.out]; exact HCI.out, HLT.out, by first | exact ((((HB3.out.setCell (p := ⟨_, _, _⟩) (Nat.le_refl _) _).setCell (p := ⟨_, _, _⟩) (Nat.le_refl _) _).setCell (p := ⟨_, _, _⟩) (Nat.le_refl _) _).setCell (p := ⟨_, _, _⟩) (Nat.le_refl _) _).drew | exact ((((HB3.out.drew.setCell (p := ⟨_, _, _⟩) (Nat.le_refl _) _).setCell (p := ⟨_, _, _⟩) (Nat.le_refl _) _).setCell (p := ⟨_, _, _⟩) (Nat.le_refl _) _).setCell (p := ⟨_, _, _⟩) (Nat.le_refl _) _)⟩
        | false =>
          have HLT := Lib.hid HW.out.lt
          have HCI := Lib.hid (ClsI.yes HCL.out (a0 := c0) (a1 := c1) (a2 := c2) (a3 := c3) (HNT.out.symm ▸ Wd.cls HW.out) HOK.out)
          obtain ⟨f0, f1, f2, f3⟩ := HD.out.four
          go_upto_region 8 with (fail)
          go_region
          go_wp2
          exact bodyPost_ret (v := .tuple #[.agg #[.int .u64 (c0 : Nat), .int .u64 (c1 : Nat), .int .u64 (c2 : Nat), .int .u64 (c3 : Nat)], .string (R.extract 1 R.size), .bool (decide (0 < n))]) (by simp [results, Tryz.results135, go_sem, Act.put, k0, k1, k2, k3]) rfl ⟨c0, c1, c2, c3, _, _, rfl, by rw [HF1.out]; exact HCI.out, HLT.out, by first | exact ((((HB.out.setCell (p := ⟨_, _, _⟩) (Nat.le_refl _) _).setCell (p := ⟨_, _, _⟩) (Nat.le_refl _) _).setCell (p := ⟨_, _, _⟩) (Nat.le_refl _) _).setCell (p := ⟨_, _, _⟩) (Nat.le_refl _) _).drew | exact ((((HB.out.drew.setCell (p := ⟨_, _, _⟩) (Nat.le_refl _) _).setCell (p := ⟨_, _, _⟩) (Nat.le_refl _) _).setCell (p := ⟨_, _, _⟩) (Nat.le_refl _) _).setCell (p := ⟨_, _, _⟩) (Nat.le_refl _) _)⟩
      · obtain ⟨P, hP⟩ : ∃ P, ndMemb a m = P := ⟨_, rfl⟩
        have hs2 : R.size ≤ 1000 := by omega
        have HPB := Lib.hid (ndMemb_rest a m)
        have MC := Lib.hid (fun W => member_c R a m HBS.out hs2 W)
        have ha3 : ¬ (a : Int) = 93 := by omega
        clear hP P
        go_wp2_with fail
        refine (MC.out _).mono ?_; rintro _ w2 ⟨lo, hi, R2, rfl, hmb, hb2⟩
        have hlh : lo < 256 ∧ hi < 256 := memb_lt HBS.out hmb
        have hr2 : R2.size ≤ m.length := by have := HPB.out; rw [hmb] at this; rw [← bs_length]; exact this
        have HMB := Lib.hid hmb
        have HD2 := Lib.hid (HD.out.below hb2); have HB2 := Lib.hid (bnext HB.out hb2)
        have q0 := cell_keep hb2 k0; have q1 := cell_keep hb2 k1; have q2 := cell_keep hb2 k2; have q3 := cell_keep hb2 k3
        clear hmb hb2 k0 k1 k2 k3
        by_cases hlt : hi < lo
        · have HNO := Lib.hid (HM2.out.falls h93 HMB.out hlt)
          have hlti : (hi : Int) < (lo : Int) := by omega
          go_wp2_with (refine wpList_put rfl 156 _ _ rfl w.heap.size [.int .u64 0, .int .u64 0, .int .u64 0, .int .u64 0] rfl rfl HD2.out (by kernel_rfl) (by simp [Value.oneCell']) ?_; intro y1 hp; obtain ⟨t0, t1, t2, t3⟩ := hp.at_.four)
          exact bodyPost_ret (v := .tuple #[.agg #[.int .u64 ((0 : Nat) : Int), .int .u64 ((0 : Nat) : Int), .int .u64 ((0 : Nat) : Int), .int .u64 ((0 : Nat) : Int)], .string ⟨#[]⟩, .bool false]) (by simp [results, Tryz.results135, go_sem, t0, t1, t2, t3]) rfl ⟨0, 0, 0, 0, ⟨#[]⟩, false, rfl, ClsI.no HNO.out 0 0 0 0 _, ⟨by decide, by decide, by decide, by decide⟩, hp.below (Nat.le_refl _) HB2.out⟩
        · have hlti : ¬ (hi : Int) < (lo : Int) := by omega
          have HMN := Lib.hid (HM2.out.next h93 HMB.out hlt)
          have WC := Lib.hid (fun W => with_c (ndIn rs) c0 c1 c2 c3 HW.out lo hi (by omega) hlh.2 W)
          go_wp2_with fail
          refine (WC.out _).mono ?_; rintro _ w3 ⟨b0, b1, b2, b3, rfl, hwd, hb3⟩
          have HWN := Lib.hid (hwd.congr (g := ndIn (rs ++ [(lo, hi)])) (fun x _ => (ndIn_snoc rs lo hi x).symm))
          have HD3 := Lib.hid (HD2.out.below hb3); have HB3 := Lib.hid (bnext HB2.out hb3)
          have HLN := Lib.hid (show (rs ++ [(lo, hi)]).length = n + 1 by rw [List.length_append, HL.out]; rfl)
          clear hwd hb3 q0 q1 q2 q3
          go_wp2_with (refine wpList_put rfl 156 _ _ rfl w.heap.size [.int .u64 (b0 : Nat), .int .u64 (b1 : Nat), .int .u64 (b2 : Nat), .int .u64 (b3 : Nat)] rfl rfl HD3.out (by kernel_rfl) (by simp [Value.oneCell']) ?_; intro y2 hp2; obtain ⟨k4, k5, k6, k7⟩ := hp2.at_.four)
          go_roundw
          case rel => exact ⟨R2, n + 1, b0, b1, b2, b3, rs ++ [(lo, hi)], rfl, by go_num, by omega, k4, k5, k6, k7, hp2.var, HLN.out, HMN.out, HWN.out, hp2.below (Nat.le_refl _) HB3.out⟩
          case measure => simp only [strLen_is]; omega
end Go.Proofs.YtodlgbihdehmbaaGreatDoor.Nd.NP
/-
  Contracts of the program's own functions of layer 9: atom, item.
-/
set_option linter.unusedSimpArgs false
set_option linter.unusedVariables false
namespace Go.Proofs.YtodlgbihdehmbaaGreatDoor.Nd.NP
open Go.RowKit
theorem one_range (a : Nat) : ∀ x, x < 256 → ((fun _ => false) x || (decide (a ≤ x) && decide (x ≤ a))) = decide (x = a) := fun x _ => by
  rw [Bool.false_or, ← Bool.decide_and, decide_eq_decide]
  omega
set_option maxRecDepth 100000 in
set_option maxHeartbeats 4000000 in
theorem atom_c (s : ByteArray) (hs0 : 0 < s.size) (hs : s.size ≤ 1000) (w : World) :
    Calls Tryz.prog 105 #[.string s] w fun e w' => ∃ (a0 a1 a2 a3 : Nat) (R : ByteArray) (ok : Bool), e = .returned (.tuple #[.agg #[.int .u64 (a0 : Nat), .int .u64 (a1 : Nat), .int .u64 (a2 : Nat), .int .u64 (a3 : Nat)], .string R, .bool ok]) ∧
      AtI (bs s) a0 a1 a2 a3 (bs R) ok ∧ (a0 < 18446744073709551616 ∧ a1 < 18446744073709551616 ∧ a2 < 18446744073709551616 ∧ a3 < 18446744073709551616) ∧ Below w.heap.size w w' := by
  obtain ⟨a, m, hb, e0, hml, ha⟩ := bs_cons hs0
  have hz1 : (1 : Int) ≤ (s.size : Int) := by omega
  have HF1 := Lib.hid (show bs (s.extract 1 s.size) = m by rw [bs_from, hb]; rfl)
  have hrl : (s.extract 1 s.size).size = m.length := by rw [← bs_length, HF1.out]
  rw [hb]
  clear hb
  go_enter Tryz.func105, Tryz.ntmps105
  go_wp2
  go_region
  have HD := Lib.hid (show DVar (w.alloc (.cells #[.int .u64 0, .int .u64 0, .int .u64 0, .int .u64 0] 156)).drew w.heap.size 4 from (DVar.alloc _ _).drew)
  have HB := Lib.hid (show Below w.heap.size w (w.alloc (.cells #[.int .u64 0, .int .u64 0, .int .u64 0, .int .u64 0] 156)).drew from (alloc_below _ _).drew)
  generalize (w.alloc (.cells #[.int .u64 0, .int .u64 0, .int .u64 0, .int .u64 0] 156)).drew = w1 at HD HB ⊢
  obtain ⟨R, hR⟩ : ∃ R, s.extract 1 s.size = R := ⟨_, rfl⟩
  rw [hR] at hrl HF1 ⊢
  have hrs : R.size ≤ 1000 := by omega
  have HRL := Lib.hid hrl
  clear hR hrl
  by_cases h46 : a = 46
  · subst h46
    have OC := Lib.hid (fun W => others_c 0 0 0 0 (by decide) (by decide) (by decide) (by decide) W)
    have HWD := Lib.hid Wd.none_.not
    have HLT := Lib.hid HWD.out.lt
    have HAI := Lib.hid (show AtI (46 :: m) (18446744073709551615 - 0) (18446744073709551615 - 0) (18446744073709551615 - 0) (18446744073709551615 - 0) m true from AtI.yes (by rw [ndAt_dot]; exact congrArg (fun z => some (z, m)) (Wd.all HWD.out).symm))
    obtain ⟨b0, hb0⟩ : ∃ b, 18446744073709551615 - 0 = b := ⟨_, rfl⟩
    rw [hb0] at OC HWD HLT HAI
    clear hb0
    go_wp2_with fail
    refine (OC.out _).mono ?_; rintro _ w2 ⟨rfl, hb2⟩
    have HD2 := Lib.hid (HD.out.below hb2); have HB2 := Lib.hid (bnext HB.out hb2)
    clear hb2
    go_wp2_with (refine wpList_put rfl 156 _ _ rfl w.heap.size [.int .u64 ((b0 : Nat)), .int .u64 ((b0 : Nat)), .int .u64 ((b0 : Nat)), .int .u64 ((b0 : Nat))] rfl rfl HD2.out (by kernel_rfl) (by simp [Value.oneCell']) ?_; intro y1 hp; obtain ⟨t0, t1, t2, t3⟩ := hp.at_.four)
    exact bodyPost_ret (v := .tuple #[.agg #[.int .u64 ((b0 : Nat)), .int .u64 ((b0 : Nat)), .int .u64 ((b0 : Nat)), .int .u64 ((b0 : Nat))], .string R, .bool true]) (by simp [results, Tryz.results105, go_sem, t0, t1, t2, t3]) rfl ⟨_, _, _, _, _, _, rfl, by rw [HF1.out]; exact HAI.out, HLT.out, hp.below (Nat.le_refl _) HB2.out⟩
  · have i46 : ¬ (a : Int) = 46 := by omega
    by_cases h91 : a = 91
    · subst h91
      have CC := Lib.hid (fun W => class_c R hrs W)
      go_wp2_with fail
      refine (CC.out _).mono ?_; rintro _ w2 ⟨b0, b1, b2, b3, R2, ok, rfl, hci, hlt, hb2⟩
      have HD2 := Lib.hid (HD.out.below hb2); have HB2 := Lib.hid (bnext HB.out hb2)
      rw [HF1.out] at hci
      have HAI := Lib.hid (AtI.cls hci); have HLT := Lib.hid hlt
      clear hb2 hci hlt
      go_wp2_with (refine wpList_put rfl 156 _ _ rfl w.heap.size [.int .u64 ((b0 : Nat)), .int .u64 ((b1 : Nat)), .int .u64 ((b2 : Nat)), .int .u64 ((b3 : Nat))] rfl rfl HD2.out (by kernel_rfl) (by simp [Value.oneCell']) ?_; intro y1 hp; obtain ⟨t0, t1, t2, t3⟩ := hp.at_.four)
      exact bodyPost_ret (v := .tuple #[.agg #[.int .u64 ((b0 : Nat)), .int .u64 ((b1 : Nat)), .int .u64 ((b2 : Nat)), .int .u64 ((b3 : Nat))], .string R2, .bool ok]) (by simp [results, Tryz.results105, go_sem, t0, t1, t2, t3]) rfl ⟨_, _, _, _, _, _, rfl, HAI.out, HLT.out, hp.below (Nat.le_refl _) HB2.out⟩
    · have i91 : ¬ (a : Int) = 91 := by omega
      by_cases h92 : a = 92
      · subst h92
        by_cases hz : R.size = 0
        · obtain rfl := is_empty hz
          have HNO := Lib.hid (show ndAt (92 :: m) = none by rw [List.eq_nil_of_length_eq_zero (l := m) (by have := HRL.out; omega)]; rfl)
          go_wp2_with (refine wpList_put rfl 156 _ _ rfl w.heap.size [.int .u64 (0), .int .u64 (0), .int .u64 (0), .int .u64 (0)] rfl rfl HD.out (by kernel_rfl) (by simp [Value.oneCell']) ?_; intro y1 hp; obtain ⟨t0, t1, t2, t3⟩ := hp.at_.four)
          exact bodyPost_ret (v := .tuple #[.agg #[.int .u64 (((0 : Nat) : Int)), .int .u64 (((0 : Nat) : Int)), .int .u64 (((0 : Nat) : Int)), .int .u64 (((0 : Nat) : Int))], .string ⟨#[]⟩, .bool false]) (by simp [results, Tryz.results105, go_sem, t0, t1, t2, t3]) rfl ⟨_, _, _, _, _, _, rfl, AtI.no HNO.out 0 0 0 0 _, ⟨by decide, by decide, by decide, by decide⟩, hp.below (Nat.le_refl _) HB.out⟩
        · have hz2 : 0 < R.size := by omega
          have hne := ne_empty hz2
          obtain ⟨b, m2, hb, x0, hml2, hb256⟩ := bs_cons hz2
          have hz3 : (1 : Int) ≤ (R.size : Int) := by omega
          have HF2 := Lib.hid (show bs (R.extract 1 R.size) = m2 by rw [bs_from, hb]; rfl)
          have HM := Lib.hid (show m = b :: m2 by rw [← HF1.out]; exact hb)
          have WC := Lib.hid (fun W => with_c (fun _ => false) 0 0 0 0 Wd.none_ b b (Nat.le_refl _) hb256 W)
          clear hb
          go_upto_region 10 with (fail)
          go_region
          have HD1 := Lib.hid HD.out.drew; have HB1 := Lib.hid HB.out.drew
          go_wp2_with fail
          refine (WC.out _).mono ?_; rintro _ w2 ⟨b0, b1, b2, b3, rfl, hwd, hb2⟩
          have HD2 := Lib.hid (HD1.out.below hb2); have HB2 := Lib.hid (bnext HB1.out hb2)
          have HLT := Lib.hid hwd.lt
          have HON := Lib.hid (Wd.one hb256 (hwd.congr (one_range b)))
          clear hb2 hwd
          go_wp2_with (refine wpList_put rfl 156 _ _ rfl w.heap.size [.int .u64 ((b0 : Nat)), .int .u64 ((b1 : Nat)), .int .u64 ((b2 : Nat)), .int .u64 ((b3 : Nat))] rfl rfl HD2.out (by kernel_rfl) (by simp [Value.oneCell']) ?_; intro y1 hp; obtain ⟨t0, t1, t2, t3⟩ := hp.at_.four)
          exact bodyPost_ret (v := .tuple #[.agg #[.int .u64 ((b0 : Nat)), .int .u64 ((b1 : Nat)), .int .u64 ((b2 : Nat)), .int .u64 ((b3 : Nat))], .string (R.extract 1 R.size), .bool true]) (by simp [results, Tryz.results105, go_sem, t0, t1, t2, t3]) rfl ⟨_, _, _, _, _, _, rfl, by rw [HF2.out, HM.out]; exact AtI.yes (by rw [HON.out]; exact ndAt_esc _ _), HLT.out, hp.below (Nat.le_refl _) HB2.out⟩
      · have i92 : ¬ (a : Int) = 92 := by omega
        by_cases h94 : a = 94
        · subst h94
          have HNO := Lib.hid (show ndAt (94 :: m) = none from ndAt_none (by omega))
          go_wp2_with (refine wpList_put rfl 156 _ _ rfl w.heap.size [.int .u64 (0), .int .u64 (0), .int .u64 (0), .int .u64 (0)] rfl rfl HD.out (by kernel_rfl) (by simp [Value.oneCell']) ?_; intro y1 hp; obtain ⟨t0, t1, t2, t3⟩ := hp.at_.four)
          exact bodyPost_ret (v := .tuple #[.agg #[.int .u64 (((0 : Nat) : Int)), .int .u64 (((0 : Nat) : Int)), .int .u64 (((0 : Nat) : Int)), .int .u64 (((0 : Nat) : Int))], .string ⟨#[]⟩, .bool false]) (by simp [results, Tryz.results105, go_sem, t0, t1, t2, t3]) rfl ⟨_, _, _, _, _, _, rfl, AtI.no HNO.out 0 0 0 0 _, ⟨by decide, by decide, by decide, by decide⟩, hp.below (Nat.le_refl _) HB.out⟩
        · have i94 : ¬ (a : Int) = 94 := by omega
          by_cases h36 : a = 36
          · subst h36
            have HNO := Lib.hid (show ndAt (36 :: m) = none from ndAt_none (by omega))
            go_wp2_with (refine wpList_put rfl 156 _ _ rfl w.heap.size [.int .u64 (0), .int .u64 (0), .int .u64 (0), .int .u64 (0)] rfl rfl HD.out (by kernel_rfl) (by simp [Value.oneCell']) ?_; intro y1 hp; obtain ⟨t0, t1, t2, t3⟩ := hp.at_.four)
            exact bodyPost_ret (v := .tuple #[.agg #[.int .u64 (((0 : Nat) : Int)), .int .u64 (((0 : Nat) : Int)), .int .u64 (((0 : Nat) : Int)), .int .u64 (((0 : Nat) : Int))], .string ⟨#[]⟩, .bool false]) (by simp [results, Tryz.results105, go_sem, t0, t1, t2, t3]) rfl ⟨_, _, _, _, _, _, rfl, AtI.no HNO.out 0 0 0 0 _, ⟨by decide, by decide, by decide, by decide⟩, hp.below (Nat.le_refl _) HB.out⟩
          · have i36 : ¬ (a : Int) = 36 := by omega
            by_cases h42 : a = 42
            · subst h42
              have HNO := Lib.hid (show ndAt (42 :: m) = none from ndAt_none (by omega))
              go_wp2_with (refine wpList_put rfl 156 _ _ rfl w.heap.size [.int .u64 (0), .int .u64 (0), .int .u64 (0), .int .u64 (0)] rfl rfl HD.out (by kernel_rfl) (by simp [Value.oneCell']) ?_; intro y1 hp; obtain ⟨t0, t1, t2, t3⟩ := hp.at_.four)
              exact bodyPost_ret (v := .tuple #[.agg #[.int .u64 (((0 : Nat) : Int)), .int .u64 (((0 : Nat) : Int)), .int .u64 (((0 : Nat) : Int)), .int .u64 (((0 : Nat) : Int))], .string ⟨#[]⟩, .bool false]) (by simp [results, Tryz.results105, go_sem, t0, t1, t2, t3]) rfl ⟨_, _, _, _, _, _, rfl, AtI.no HNO.out 0 0 0 0 _, ⟨by decide, by decide, by decide, by decide⟩, hp.below (Nat.le_refl _) HB.out⟩
            · have i42 : ¬ (a : Int) = 42 := by omega
              by_cases h93 : a = 93
              · subst h93
                have HNO := Lib.hid (show ndAt (93 :: m) = none from ndAt_none (by omega))
                go_wp2_with (refine wpList_put rfl 156 _ _ rfl w.heap.size [.int .u64 (0), .int .u64 (0), .int .u64 (0), .int .u64 (0)] rfl rfl HD.out (by kernel_rfl) (by simp [Value.oneCell']) ?_; intro y1 hp; obtain ⟨t0, t1, t2, t3⟩ := hp.at_.four)
                exact bodyPost_ret (v := .tuple #[.agg #[.int .u64 (((0 : Nat) : Int)), .int .u64 (((0 : Nat) : Int)), .int .u64 (((0 : Nat) : Int)), .int .u64 (((0 : Nat) : Int))], .string ⟨#[]⟩, .bool false]) (by simp [results, Tryz.results105, go_sem, t0, t1, t2, t3]) rfl ⟨_, _, _, _, _, _, rfl, AtI.no HNO.out 0 0 0 0 _, ⟨by decide, by decide, by decide, by decide⟩, hp.below (Nat.le_refl _) HB.out⟩
              · have i93 : ¬ (a : Int) = 93 := by omega
                have HAT := Lib.hid (ndAt_one (l := m) h46 h91 h92 h94 h36 h42 h93)
                have WC := Lib.hid (fun W => with_c (fun _ => false) 0 0 0 0 Wd.none_ a a (Nat.le_refl _) ha W)
                go_wp2_with fail
                refine (WC.out _).mono ?_; rintro _ w2 ⟨b0, b1, b2, b3, rfl, hwd, hb2⟩
                have HD2 := Lib.hid (HD.out.below hb2); have HB2 := Lib.hid (bnext HB.out hb2)
                have HLT := Lib.hid hwd.lt
                have HON := Lib.hid (Wd.one ha (hwd.congr (one_range a)))
                clear hb2 hwd
                go_wp2_with (refine wpList_put rfl 156 _ _ rfl w.heap.size [.int .u64 ((b0 : Nat)), .int .u64 ((b1 : Nat)), .int .u64 ((b2 : Nat)), .int .u64 ((b3 : Nat))] rfl rfl HD2.out (by kernel_rfl) (by simp [Value.oneCell']) ?_; intro y1 hp; obtain ⟨t0, t1, t2, t3⟩ := hp.at_.four)
                exact bodyPost_ret (v := .tuple #[.agg #[.int .u64 ((b0 : Nat)), .int .u64 ((b1 : Nat)), .int .u64 ((b2 : Nat)), .int .u64 ((b3 : Nat))], .string R, .bool true]) (by simp [results, Tryz.results105, go_sem, t0, t1, t2, t3]) rfl ⟨_, _, _, _, _, _, rfl, by rw [HF1.out]; exact AtI.yes (by rw [HON.out]; exact HAT.out), HLT.out, hp.below (Nat.le_refl _) HB2.out⟩
end Go.Proofs.YtodlgbihdehmbaaGreatDoor.Nd.NP
/-
  Contracts of the program's own functions of layer 9: item.
-/
set_option linter.unusedSimpArgs false
set_option linter.unusedVariables false
namespace Go.Proofs.YtodlgbihdehmbaaGreatDoor.Nd.NP
open Go.RowKit
set_option maxRecDepth 100000 in
set_option maxHeartbeats 4000000 in
theorem item_c (s : ByteArray) (hs0 : 0 < s.size) (hs : s.size ≤ 1000) (w : World) :
    Calls Tryz.prog 77 #[.string s] w fun e w' => ∃ (a0 a1 a2 a3 : Nat) (st : Bool) (R : ByteArray) (ok : Bool), e = .returned (.tuple #[.agg #[.int .u64 (a0 : Nat), .int .u64 (a1 : Nat), .int .u64 (a2 : Nat), .int .u64 (a3 : Nat), .bool st], .string R, .bool ok]) ∧
      ItI (bs s) ⟨a0, a1, a2, a3, st⟩ (bs R) ok ∧ NI.ok ⟨a0, a1, a2, a3, st⟩ ∧ Below w.heap.size w w' := by
  have AC := Lib.hid (fun W => atom_c s hs0 hs W)
  go_enter Tryz.func77, Tryz.ntmps77
  go_wp2_with fail
  refine (AC.out _).mono ?_; rintro _ w1 ⟨a0, a1, a2, a3, R, ok, rfl, hai, hlt, hb1⟩
  have HD1 := Lib.hid (show DVar w1 w.heap.size 5 from (DVar.alloc _ _).below hb1)
  have HD4 := Lib.hid (show DVar w1 w.heap.size 4 from HD1.out.mono (by decide))
  have HB1 := Lib.hid (bnext (alloc_below _ _) hb1)
  have HAI := Lib.hid hai; have HLT := Lib.hid hlt
  have CP := Lib.hid (fun W => cutp_c R ⟨#[42]⟩ 42 rfl (by decide) W)
  clear hai hlt hb1
  go_wp2_with (refine wpList_put rfl 101 _ _ rfl w.heap.size [.int .u64 (a0 : Nat), .int .u64 (a1 : Nat), .int .u64 (a2 : Nat), .int .u64 (a3 : Nat)] rfl rfl HD4.out (by kernel_rfl) (by simp [Value.oneCell']) ?_; intro y1 hp; obtain ⟨t0, t1, t2, t3⟩ := hp.at_.four)
  have HD2 := Lib.hid (hp.vars _ _ HD1.out); have HB2 := Lib.hid (hp.below (Nat.le_refl _) HB1.out)
  obtain ⟨u4, hu4⟩ := HD2.out.c 4 (by decide)
  have f4 := HD2.out.f 4 (by decide)
  clear hp
  refine (CP.out _).mono ?_; rintro _ w2 ⟨R2, rfl, hR2, hw2⟩
  obtain rfl := hw2.symm
  have HIT := Lib.hid (ItI.of HAI.out)
  obtain ⟨st, hst⟩ : ∃ st, ((bs R).getD 0 0 == (42 : UInt8).toNat) = st := ⟨_, rfl⟩
  have hst2 : ((bs R).getD 0 0 == 42) = st := hst
  rw [hst2, ← show bs R2 = cutB 42 (bs R) from hR2] at HIT
  rw [hst]
  clear hst hst2 hR2 hw2 AC CP
  go_wp2_with (refine wpList_put rfl 103 _ _ rfl w.heap.size [.int .u64 (a0 : Nat), .int .u64 (a1 : Nat), .int .u64 (a2 : Nat), .int .u64 (a3 : Nat), .bool st] rfl rfl (HD2.out.set _) (by kernel_rfl) (by simp [Value.oneCell']) ?_; intro y2 hp; obtain ⟨s0, s1, s2, s3, s4⟩ := hp.at_.cells5)
  exact bodyPost_ret (v := .tuple #[.agg #[.int .u64 (a0 : Nat), .int .u64 (a1 : Nat), .int .u64 (a2 : Nat), .int .u64 (a3 : Nat), .bool st], .string R2, .bool ok]) (by simp [results, Tryz.results77, go_sem, s0, s1, s2, s3, s4]) rfl ⟨_, _, _, _, _, _, _, rfl, HIT.out, HLT.out, hp.below (Nat.le_refl _) (HB2.out.setCell (p := ⟨_, _, _⟩) (Nat.le_refl _) _)⟩
end Go.Proofs.YtodlgbihdehmbaaGreatDoor.Nd.NP
/-
  Contracts of the program's own functions of layer 9: Compile.
-/
set_option linter.unusedSimpArgs false
set_option linter.unusedVariables false
namespace Go.Proofs.YtodlgbihdehmbaaGreatDoor.Nd.NP
open Go.RowKit
theorem ownsRow_next {B : Nat} {w w' : World} {e : TypeId} {sz n : Nat} {v : Value} {us : List Value} (h : w.ownsRow B e sz v n us) (hb : Below w.heap.size w w') : w'.ownsRow B e sz v n us := by
  refine ⟨h.1, ?_⟩
  rcases h.2 with ⟨rfl, h0⟩ | ⟨g, cap, cur, rfl, hg, hh, hr⟩
  · exact Or.inl ⟨rfl, h0⟩
  · exact Or.inr ⟨g, cap, cur, rfl, hg, (hb.block g (Array.getElem?_eq_some_iff.1 hh).1).trans hh, hr⟩
theorem dvar_low {B b n : Nat} {w w' : World} (hb : Below B w w') (hlt : b < B) (h : DVar w b n) : DVar w' b n :=
  ⟨Nat.lt_of_lt_of_le h.lt hb.size, fun i hi => by obtain ⟨u, hu⟩ := h.c i hi; exact ⟨u, (hb.cell (p := ⟨b, i, none⟩) hlt).trans hu⟩, fun i hi => (hb.frozen (p := ⟨b, i, none⟩) hlt).trans (h.f i hi)⟩
theorem is_dollar {R : ByteArray} (h : bs R = [36]) : R = ⟨#[36]⟩ := by
  have e : str (bs R) = R := str_bs R
  rw [← e, h]
  rfl
theorem not_dollar {R : ByteArray} (h : ¬ bs R = [36]) : (R.toList == [36]) = false := by
  rw [beq_eq_false_iff_ne]
  intro e
  apply h
  rw [ByteArray.toList_eq] at e
  show R.data.toList.map (·.toNat) = [36]
  rw [e]
  rfl
set_option maxRecDepth 100000 in
set_option maxHeartbeats 4000000 in
theorem compile_c (p : ByteArray) (hp : p.size ≤ 9223372036854775807) (w : World) :
    Calls Tryz.prog 52 #[.string p] w fun e w' => ∃ v, e = .returned (.tuple #[v, .int .i64 (ndComp (bs p)).2]) ∧ NnOut w' v (ndComp (bs p)).1 ∧ (ndComp (bs p)).1.ok ∧ (ndComp (bs p)).1.items.length ≤ 64 ∧ Below w.heap.size w w' := by
  obtain ⟨N, E, hN⟩ : ∃ N E, ndComp (bs p) = (N, E) := ⟨_, _, rfl⟩
  rw [hN]
  by_cases hl : 64 < p.size
  · rw [ndComp_long (by rw [bs_length]; exact hl)] at hN
    injection hN with h1 h2
    subst h1 h2
    go_enter Tryz.func52, Tryz.ntmps52
    go_wp2
    exact bodyPost_ret (v := .tuple #[.agg #[.bool false, .bool false, .slice none 0 0], .int .i64 12]) (by simp [results, Tryz.results52, go_sem]) rfl ⟨_, rfl, ⟨_, rfl, ItOut.nil _⟩, (fun i h => by cases h), Nat.zero_le _, alloc_below _ _⟩
  · have hl2 : ¬ 64 < (bs p).length := by rw [bs_length]; exact hl
    have CP := Lib.hid (fun W => cutp_c p ⟨#[94]⟩ 94 rfl (by decide) W)
    have HN := Lib.hid hN; have HL := Lib.hid hl2
    obtain ⟨i0, hi0, hz0, hzz1, hzz2⟩ := info_parts items_info
    clear hN hl2
    go_enter Tryz.func52, Tryz.ntmps52
    go_wp2_with fail
    refine (CP.out _).mono ?_; rintro _ w1 ⟨R0, rfl, hR0, hw1⟩
    obtain ⟨st, hst⟩ : ∃ st, ((bs p).getD 0 0 == (94 : UInt8).toNat) = st := ⟨_, rfl⟩
    rw [hst]
    have hD : DVar w1 w.heap.size 3 := hw1 ▸ DVar.alloc _ _
    have hB : Below w.heap.size w w1 := hw1 ▸ alloc_below _ _
    have hS : w.heap.size + 1 ≤ w1.heap.size := by rw [hw1]; simp
    have hlr : R0.size ≤ 64 := by rw [← bs_length, hR0]; have := cutB_length 94 (bs p); rw [bs_length] at this; exact Nat.le_trans this (by omega)
    have HST := Lib.hid (show ((bs p).getD 0 0 == 94) = st from hst); have HR0 := Lib.hid (show bs R0 = cutB 94 (bs p) from hR0); have HD0 := Lib.hid hD; have HB0 := Lib.hid hB; have HS0 := Lib.hid hS
    clear hst hR0 hD hB hw1 hS
    go_wp2
    go_loopw [4, 6, 7, 8, 9] (fun rv iv _ _ _ wr => ∃ (R : ByteArray) (n : Nat) (vr : Value) (L : List NI), rv = .string R ∧ iv = vr ∧ n + R.size ≤ 64 ∧ Hid (ItNew (w.heap.size + 1) wr vr L) ∧ Hid (L.length = n) ∧ Hid (ItmI (cutB 94 (bs p)) (bs R) L) ∧ Hid (∀ i ∈ L, i.ok) ∧ Hid (DVar wr w.heap.size 3) ∧ Hid (Below w.heap.size w wr) ∧ Hid (w.heap.size + 1 ≤ wr.heap.size)) (fun rv _ _ _ _ _ => strLen rv)
    case atStart => exact ⟨R0, 0, _, [], rfl, rfl, by omega, ItNew.nil _ _, rfl, by rw [HR0.out]; exact ItmI.start _, (fun i h => by cases h), HD0.out, HB0.out, HS0.out⟩
    case round =>
      obtain ⟨R, n, vr, L, rfl, rfl, hn, HI, HL2, HM, HOK, HD, HB, HS⟩ := hrel
      by_cases hz : R.size = 0
      · obtain rfl := is_empty hz
        obtain ⟨A, cap, hv, hcap, _⟩ := HI.out.out
        subst hv
        have hc := ndComp_yes HL.out (ItmI.end_ (show ItmI (cutB 94 (bs p)) [] L from HM.out))
        rw [HN.out, HST.out] at hc
        injection hc with hc1 hc2
        subst hc1 hc2
        have hLl : L.length ≤ 64 := by have := HL2.out; omega
        have HLL := Lib.hid hLl
        clear hLl
        go_wp2_with (refine wpList_put rfl 67 _ _ rfl w.heap.size [.bool st, .bool false, .slice A L.length cap] rfl rfl HD.out (by kernel_rfl) (by simp [Value.oneCell']) ?_; intro y1 hq; obtain ⟨t0, t1, t2⟩ := hq.at_.three)
        exact bodyPost_ret (v := .tuple #[.agg #[.bool st, .bool false, .slice A L.length cap], .int .i64 0]) (by simp [results, Tryz.results52, go_sem, t0, t1, t2]) rfl ⟨_, rfl, ⟨_, rfl, (HI.out.kept hq.grown (Nat.lt_succ_self _)).out⟩, HOK.out, HLL.out, hq.below (Nat.le_refl _) HB.out⟩
      · have hz2 : 0 < R.size := by omega
        have hne := ne_empty hz2
        by_cases hdol : bs R = [36]
        · obtain rfl := is_dollar hdol
          obtain ⟨A, cap, hv, hcap, _⟩ := HI.out.out
          subst hv
          have hc := ndComp_yes HL.out (ItmI.dollar (show ItmI (cutB 94 (bs p)) [36] L from HM.out))
          rw [HN.out, HST.out] at hc
          injection hc with hc1 hc2
          subst hc1 hc2
          have hLl : L.length ≤ 64 := by have := HL2.out; omega
          have HLL := Lib.hid hLl
          clear hLl
          go_wp2_with (refine wpList_put rfl 67 _ _ rfl w.heap.size [.bool st, .bool true, .slice A L.length cap] rfl rfl HD.out (by kernel_rfl) (by simp [Value.oneCell']) ?_; intro y1 hq; obtain ⟨t0, t1, t2⟩ := hq.at_.three)
          exact bodyPost_ret (v := .tuple #[.agg #[.bool st, .bool true, .slice A L.length cap], .int .i64 0]) (by simp [results, Tryz.results52, go_sem, t0, t1, t2]) rfl ⟨_, rfl, ⟨_, rfl, (HI.out.kept hq.grown (Nat.lt_succ_self _)).out⟩, HOK.out, HLL.out, hq.below (Nat.le_refl _) HB.out⟩
        · have hnd := not_dollar hdol
          obtain ⟨a, m, hb, e0, hml, ha⟩ := bs_cons hz2
          have IC := Lib.hid (fun W => item_c R hz2 (by omega) W)
          have hm0 := HM.out
          rw [hb] at hm0
          have HM2 := Lib.hid hm0
          have HBS := Lib.hid hb
          have HND := Lib.hid (show ¬ (a = 36 ∧ m = []) from fun e => hdol (by rw [hb, e.1, e.2]))
          clear hb hm0 hdol
          go_wp2_with fail
          refine (IC.out _).mono ?_; rintro _ w2 ⟨a0, a1, a2, a3, sst, R2, ok, rfl, hii, hio, hb2⟩
          rw [HBS.out] at hii
          have HD2 := Lib.hid (HD.out.below hb2); have HB2 := Lib.hid (bnext HB.out hb2); have HI2 := Lib.hid (HI.out.below hb2); have HS2 := Lib.hid (Nat.le_trans HS.out hb2.size)
          cases ok with
          | false =>
            have hc := ndComp_no HL.out (ItmI.fail HM2.out HND.out hii)
            rw [HN.out] at hc
            injection hc with hc1 hc2
            subst hc1 hc2
            clear hii hb2 hio
            go_upto_region 8 with (refine wpList_put rfl 103 _ _ rfl w2.heap.size [.int .u64 (a0 : Nat), .int .u64 (a1 : Nat), .int .u64 (a2 : Nat), .int .u64 (a3 : Nat), .bool sst] rfl rfl (DVar.alloc _ _) (by kernel_rfl) (by simp [Value.oneCell']) ?_; intro y1 hq)
            have hb3 : Below w2.heap.size w2 y1 := hq.below (Nat.le_refl _) (alloc_below _ _)
            have HD3 := Lib.hid (HD2.out.below hb3); have HB3 := Lib.hid (bnext HB2.out hb3)
            clear hq hb3
            go_wp2_with (refine wpList_put rfl 67 _ _ rfl w.heap.size [.bool false, .bool false, .slice none 0 0] rfl rfl HD3.out (by kernel_rfl) (by simp [Value.oneCell']) ?_; intro y2 hq2; obtain ⟨t0, t1, t2⟩ := hq2.at_.three)
            exact bodyPost_ret (v := .tuple #[.agg #[.bool false, .bool false, .slice none 0 0], .int .i64 10]) (by simp [results, Tryz.results52, go_sem, t0, t1, t2]) rfl ⟨_, rfl, ⟨_, rfl, ItOut.nil _⟩, (fun i h => by cases h), Nat.zero_le _, hq2.below (Nat.le_refl _) HB3.out⟩
          | true =>
            obtain ⟨hnx, hrl⟩ := ItmI.next HM2.out hii
            have HNX := Lib.hid hnx
            rw [bs_length] at hrl
            have HIO := Lib.hid hio
            obtain ⟨A, cap, hv, hcap, _⟩ := HI2.out.out
            subst hv
            have how : w2.ownsRow (w.heap.size + 1) 103 5 (.slice A L.length cap) L.length (itsC L) := HI2.out
            have HLE := Lib.hid (show ∀ i ∈ L ++ [(⟨a0, a1, a2, a3, sst⟩ : NI)], i.ok from fun i h => by
              rcases List.mem_append.1 h with h | h
              · exact HOK.out i h
              · obtain rfl := List.mem_singleton.1 h
                exact HIO.out)
            have HLN := Lib.hid (show (L ++ [(⟨a0, a1, a2, a3, sst⟩ : NI)]).length = n + 1 by rw [List.length_append, HL2.out]; rfl)
            rw [HL2.out] at how HI HI2 hcap ⊢
            clear hii hb2 hnx hio
            go_upto_region 9 with (refine wpList_put rfl 103 _ _ rfl w2.heap.size [.int .u64 (a0 : Nat), .int .u64 (a1 : Nat), .int .u64 (a2 : Nat), .int .u64 (a3 : Nat), .bool sst] rfl rfl (DVar.alloc _ _) (by kernel_rfl) (by simp [Value.oneCell']) ?_; intro y1 hq; obtain ⟨t0, t1, t2, t3, t4⟩ := hq.at_.cells5)
            have hb3 : Below w2.heap.size w2 y1 := hq.below (Nat.le_refl _) (alloc_below _ _)
            have HD3 := Lib.hid (HD2.out.below hb3); have HB3 := Lib.hid (bnext HB2.out hb3)
            have HOW := Lib.hid (ownsRow_next how hb3); have HS3 := Lib.hid (Nat.le_trans HS2.out hb3.size)
            clear hq hb3 how
            go_wp2_with (at_builtin; refine wpList_append_any _ rfl (.tmp 34) (.tmp 36) _ rfl (w.heap.size + 1) 103 i0 (.agg #[.int .u64 0, .int .u64 0, .int .u64 0, .int .u64 0, .bool false]) 5 40 Tryz.underlying65 hi0 hz0 hzz1 hzz2 rfl (by decide) (.slice A n cap) n (itsC L) rfl (World.ownsRow.alloc HOW.out _) _ (some ⟨y1.heap.size, 0, none⟩) 1 1 (itC ⟨a0, a1, a2, a3, sst⟩) rfl (Reads.of_own (World.ownsRow_lit (base := 0) (e := 103) (size := 5) y1 #[.int .u64 (a0 : Nat), .int .u64 (a1 : Nat), .int .u64 (a2 : Nat), .int .u64 (a3 : Nat), .bool sst] 1 (Nat.zero_le _) (by decide) rfl)) (it_one _) (by simp only [maxLen]; omega) (by omega) (by have := HS3.out; simp; omega) ?_; intro v3 w3 hown3 hg3 hat3)
            have hlow : Below (w.heap.size + 1) y1 w3 := Below.grown ((Below.refl _ y1).alloc HS3.out _) hg3 (by have := HS3.out; simp; omega) (fun k e => (World.ownsRow.lt HOW.out k e).1)
            have HB4 := Lib.hid (HB3.out.trans (hlow.mono (Nat.le_succ _))); have HD4 := Lib.hid (dvar_low hlow (Nat.lt_succ_self _) HD3.out)
            have HI4 := Lib.hid (ItNew.push (l := L) (i := ⟨a0, a1, a2, a3, sst⟩) (by rw [HL2.out]; exact hown3)); have HS4 := Lib.hid (Nat.le_trans HS3.out hlow.size)
            clear hown3 hg3 hat3 hlow
            go_wp2
            go_roundw
            case rel => exact ⟨R2, n + 1, _, _, rfl, rfl, by omega, HI4.out, HLN.out, HNX.out, HLE.out, HD4.out, HB4.out, HS4.out⟩
            case measure => simp only [strLen_is]; omega
end Go.Proofs.YtodlgbihdehmbaaGreatDoor.Nd.NP
