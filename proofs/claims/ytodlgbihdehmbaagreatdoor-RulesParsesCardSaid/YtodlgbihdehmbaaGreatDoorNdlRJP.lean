/-
  Contracts of the document's own functions of layer 9: class.
-/
import Derived.Test.YtodlgbihdehmbaaGreatDoorNdlRAP
import Derived.Deep.QuietTactic
import Derived.BigQuiet
import Derived.BigRegion
import Derived.Deep.Cut
import Derived.Test.YtodlgbihdehmbaaGreatDoorNdlOwnP
import Derived.Deep.CutRange
import Derived.Deep.CutBlock
set_option linter.unusedSimpArgs false
set_option linter.unusedVariables false
namespace Go.Proofs.YtodlgbihdehmbaaGreatDoor.Nd.NR
open Go.RowKit
theorem bools_info : (Tryz.prog.info? 132).map (fun i => i.zero) = some (some (.agg (Array.replicate 256 (.bool false)))) := by kernel_rfl
theorem zero256 : ∃ zs : Array Value, (∀ W : World, Sem.run Tryz.prog (zeroValue 132) W = .ok (.agg zs) W) ∧ zs.size = 256 ∧ ¬ zs = #[] ∧ ∀ j, j < 256 → zs[j]? = some (.bool false) := by
  have h := bools_info
  cases hi : Tryz.prog.info? 132 with
  | none => rw [hi] at h; cases h
  | some i =>
    rw [hi] at h
    have hz : i.zero = some (.agg (Array.replicate 256 (.bool false))) := Option.some.inj h
    refine ⟨Array.replicate 256 (.bool false), fun W => ?_, Array.size_replicate, fun e => ?_, fun j hj => ?_⟩
    · simp [zeroValue, typeInfo, hi, hz]
    · have := congrArg Array.size e
      rw [Array.size_replicate] at this
      cases this
    · rw [Array.getElem?_replicate, if_pos hj]
theorem bs_at {p : ByteArray} {q : Nat} (h : q < p.size) : ∃ a, (bs p).drop q = a :: (bs p).drop (q + 1) ∧ (p[q]'h).toNat = a ∧ a < 256 := by
  have h2 : q < (bs p).length := by rw [bs_length]; exact h
  have e := at_byte h
  have hb := byte_le p q
  have e2 : byteAt (bs p) q = (bs p)[q] := by
    unfold byteAt
    rw [List.getD_eq_getElem?_getD, List.getElem?_eq_getElem h2]
    rfl
  refine ⟨(bs p)[q], List.drop_eq_getElem_cons h2, by rw [e, e2], by omega⟩
theorem drop_end {p : ByteArray} : (bs p).drop p.size = [] := List.drop_eq_nil_of_le (by rw [bs_length]; exact Nat.le_refl _)
theorem drop_getD (p : ByteArray) (q j : Nat) : ((bs p).drop q).getD j 0 = byteAt (bs p) (q + j) := by
  unfold byteAt
  rw [List.getD_eq_getElem?_getD, List.getD_eq_getElem?_getD, List.getElem?_drop]
theorem two_more {p : ByteArray} {q : Nat} {a : Nat} : ndMemb a ((bs p).drop (q + 1)) = if q + 2 < p.size ∧ byteAt (bs p) (q + 1) = 45 ∧ byteAt (bs p) (q + 2) ≠ 93 then (a, byteAt (bs p) (q + 2), (bs p).drop (q + 3)) else (a, a, (bs p).drop (q + 1)) := by
  unfold ndMemb
  rw [drop_getD, drop_getD, List.length_drop, bs_length, List.drop_drop]
  have e : (2 ≤ p.size - (q + 1)) ↔ q + 2 < p.size := by omega
  by_cases h : q + 2 < p.size ∧ byteAt (bs p) (q + 1) = 45 ∧ byteAt (bs p) (q + 2) ≠ 93
  · rw [if_pos h, if_pos ⟨e.2 h.1, h.2.1, h.2.2⟩]
  · rw [if_neg h, if_neg (fun x => h ⟨e.1 x.1, x.2.1, x.2.2⟩)]
/-- The 256 marks. -/
def Marks (w : World) (g : Nat) (f : Nat → Bool) : Prop := ∀ j, j < 256 → w.cell? ⟨g, j, none⟩ = some (.bool (f j))
theorem Marks.first {w : World} {zs : Array Value} {t : TypeId} (hz : ∀ j, j < 256 → zs[j]? = some (.bool false)) : Marks (w.alloc (.cells zs t)) w.heap.size (ndIn []) := fun j hj => by
  have hh : (w.alloc (.cells zs t)).heap[w.heap.size]? = some (.cells zs t) := by
    show (w.heap.push (.cells zs t))[w.heap.size]? = _
    exact Array.getElem?_push_size
  rw [cell_of_row _ _ _ _ _ _ hh]
  exact hz j hj
theorem Marks.set {w : World} {g b : Nat} {f h : Nat → Bool} (hm : Marks w g f) (hb : b < 256) (hf : ∀ j, j < 256 → h j = if j = b then true else f j) : Marks (w.setCell ⟨g, b, none⟩ (.bool true)) g h := fun j hj => by
  rw [hf j hj]
  by_cases e : j = b
  · subst e
    rw [if_pos rfl]
    exact World.cell?_setCell_same w _ _ (hm j hj)
  · rw [if_neg e]
    exact (World.cell?_setCell_other w _ _ _ (by intro e2; simp only [Addr.mk.injEq] at e2; omega)).trans (hm j hj)
theorem Marks.drewN {w : World} {g n : Nat} {f : Nat → Bool} (h : Marks w g f) : Marks (w.drewN n) g f := h
theorem Marks.low {w w' : World} {g B : Nat} {f : Nat → Bool} (h : Marks w g f) (hb : Below B w w') (hg : g < B) : Marks w' g f := fun j hj => (hb.cell (p := ⟨g, j, none⟩) hg).trans (h j hj)
theorem DVar.drewN {w : World} {b n m : Nat} (h : DVar w b n) : DVar (w.drewN m) b n := ⟨h.lt, h.c, h.f⟩
theorem below_drewN {B : Nat} {w0 w : World} (h : Below B w0 w) (m : Nat) : Below B w0 (w.drewN m) := ⟨h.os, h.tape, h.output, h.size, h.block⟩
theorem ClsI.empty {l r : List Nat} (h : ndMem ((cutB 94 l).length + 1) (cutB 94 l) = some ([], r)) (a0 a1 a2 a3 : Nat) (r2 : List Nat) : ClsI l a0 a1 a2 a3 r2 false := by
  unfold ClsI
  rw [ndClass_is, h]
  rfl
theorem Wd.skip {f : Nat → Bool} {b a0 a1 a2 a3 : Nat} (h : Wd (fun x => f x && decide (x < b)) a0 a1 a2 a3) (hf : f b = false) : Wd (fun x => f x && decide (x < b + 1)) a0 a1 a2 a3 := h.congr fun x _ => by
  show (f x && decide (x < b)) = (f x && decide (x < b + 1))
  by_cases e : x = b
  · rw [e, hf]; rfl
  · congr 1
    rw [decide_eq_decide]; omega
theorem Wd.take {f : Nat → Bool} {b a0 a1 a2 a3 : Nat} (h : Wd (fun x => f x && decide (x < b)) a0 a1 a2 a3) (hf : f b = true) : Wd (fun x => f x && decide (x < b + 1)) (if b / 64 = 0 then a0 ||| 2 ^ (b % 64) else a0) (if b / 64 = 1 then a1 ||| 2 ^ (b % 64) else a1) (if b / 64 = 2 then a2 ||| 2 ^ (b % 64) else a2) (if b / 64 = 3 then a3 ||| 2 ^ (b % 64) else a3) := (h.put (b := b)).congr fun x _ => by
  show ((f x && decide (x < b)) || decide (x = b)) = (f x && decide (x < b + 1))
  by_cases e : x = b
  · subst e; rw [hf]; simp
  · rw [decide_eq_false e, Bool.or_false]
    congr 1
    rw [decide_eq_decide]; omega
end Go.Proofs.YtodlgbihdehmbaaGreatDoor.Nd.NR
/-
  Contracts of the document's own functions of layer 9: class, ^ first.
-/
set_option linter.unusedSimpArgs false
set_option linter.unusedVariables false
namespace Go.Proofs.YtodlgbihdehmbaaGreatDoor.Nd.NR
open Go.RowKit
set_option maxRecDepth 100000 in
set_option maxHeartbeats 8000000 in
theorem class_y (p : ByteArray) (k : Nat) (hk : k ≤ p.size) (hp : p.size ≤ 1000) (hks : k < p.size) (hd : (bs p).drop k = 94 :: (bs p).drop (k + 1)) (e0 : (p[k]'hks).toNat = 94) (w : World) :
    Calls Tryz.prog 59 #[.string p, .int .i64 (k : Nat)] w fun e w' => ∃ (a0 a1 a2 a3 k2 : Nat) (ok : Bool), e = .returned (.tuple #[.agg #[.int .u64 (a0 : Nat), .int .u64 (a1 : Nat), .int .u64 (a2 : Nat), .int .u64 (a3 : Nat), .bool false], .int .i64 (k2 : Nat), .bool ok]) ∧
      ClsI ((bs p).drop k) a0 a1 a2 a3 ((bs p).drop k2) ok ∧ (ok = true → k2 ≤ p.size) ∧ (a0 < 18446744073709551616 ∧ a1 < 18446744073709551616 ∧ a2 < 18446744073709551616 ∧ a3 < 18446744073709551616) ∧ Below w.heap.size w w' := by
  obtain ⟨zs, hz, hz1, hz2, hz3⟩ := zero256
  have HZ1 := Lib.hid hz1; have HZ3 := Lib.hid hz3
  clear hz1 hz3
  have hcb : cutB 94 ((bs p).drop k) = (bs p).drop (k + 1) := by rw [hd]; rfl
  have HNT := Lib.hid (show (((bs p).drop k).getD 0 0 == 94) = true by rw [hd]; rfl)
  clear hd
  go_enter Tryz.func59, Tryz.ntmps59
  have HCB := Lib.hid hcb
  clear hcb
  go_wp2
  go_loopw [1, 9, 10, 11, 12] (fun av nv _ _ _ wr => ∃ (q n : Nat) (rs : List (Nat × Nat)), av = .int .i64 (q : Nat) ∧ nv = .int .i64 (n : Nat) ∧ q ≤ p.size ∧ n ≤ q ∧ k ≤ q ∧ Hid (rs.length = n) ∧ Hid (DVar wr w.heap.size 5) ∧ Hid (DVar wr (w.heap.size + 1) 256) ∧ Hid (Marks wr (w.heap.size + 1) (ndIn rs)) ∧ Hid (MemI (cutB 94 ((bs p).drop k)) ((bs p).drop q) rs) ∧ Hid (Below w.heap.size w wr)) (fun av _ _ _ _ _ => p.size - (intOf av).toNat)
  case atStart => exact ⟨k + 1, 0, [], by go_num, rfl, by omega, Nat.zero_le _, by omega, rfl, (DVar.alloc _ _).below (alloc_below _ _), (by have h := dvar_second w (.cells #[.int .u64 0, .int .u64 0, .int .u64 0, .int .u64 0, .bool false] 103) zs 132; rw [HZ1.out] at h; exact h), (by have h := Marks.first (w := w.alloc (.cells #[.int .u64 0, .int .u64 0, .int .u64 0, .int .u64 0, .bool false] 103)) (t := 132) HZ3.out; rw [show (w.alloc (.cells #[.int .u64 0, .int .u64 0, .int .u64 0, .int .u64 0, .bool false] 103)).heap.size = w.heap.size + 1 by simp] at h; exact h), by rw [HCB.out]; exact MemI.start _, alloc2_below _ _ _⟩
  case round =>
    obtain ⟨q, n, rs, rfl, rfl, hq, hn, hkq, HL, HDR, HDF, HM, HI, HB⟩ := hrel
    obtain ⟨wo, rfl⟩ : ∃ wo : World, wo = wr := ⟨_, rfl⟩
    by_cases hqs : q < p.size
    · obtain ⟨a, hd, e0, ha⟩ := bs_at hqs
      have hi0 := HI.out
      rw [hd] at hi0
      have HI2 := Lib.hid hi0
      clear hi0 hd
      by_cases h93 : a = 93
      · subst h93
        have HCL := Lib.hid (MemI.close HI2.out)
        by_cases hn0 : n = 0
        · subst hn0
          obtain rfl : rs = [] := List.eq_nil_of_length_eq_zero HL.out
          have HNO := Lib.hid (fun a0 a1 a2 a3 r2 => ClsI.empty HCL.out a0 a1 a2 a3 r2)
          go_wp2_with (refine wpList_put rfl 103 _ _ rfl w.heap.size [.int .u64 0, .int .u64 0, .int .u64 0, .int .u64 0, .bool false] rfl rfl HDR.out (by kernel_rfl) (by simp [Value.oneCell']) ?_; intro y1 hp; obtain ⟨t0, t1, t2, t3, t4⟩ := hp.at_.cells5)
          exact bodyPost_ret (v := .tuple #[.agg #[.int .u64 ((0 : Nat) : Int), .int .u64 ((0 : Nat) : Int), .int .u64 ((0 : Nat) : Int), .int .u64 ((0 : Nat) : Int), .bool false], .int .i64 ((0 : Nat) : Int), .bool false]) (by simp [results, Tryz.results59, go_sem, t0, t1, t2, t3, t4]) rfl ⟨0, 0, 0, 0, 0, false, rfl, HNO.out 0 0 0 0 _, (fun e => by cases e), ⟨by decide, by decide, by decide, by decide⟩, hp.below (Nat.le_refl _) HB.out⟩
        · have hni : ¬ (n : Int) = 0 := by omega
          have hnb : ((n : Int) == 0) = false := beq_false_of_ne hni
          have hqn : ¬ p.size ≤ q := by omega
          have HHS := Lib.hid (show w.heap.size + 1 < wo.heap.size from HDF.out.lt)
          have HDI0 := Lib.hid (DVar.alloc (w := wo) #[.int .u64 0, .int .u64 0, .int .u64 0, .int .u64 0, .bool false] 103)
          have HB0 := Lib.hid (alloc_below wo (.cells #[.int .u64 0, .int .u64 0, .int .u64 0, .int .u64 0, .bool false] 103))
          have HW0 := Lib.hid (Wd.none_.congr (g := fun x => (ndIn rs x != true) && decide (x < 0)) (fun x _ => by simp))
          go_wp2
          go_loopw [14] (fun bv wx => ∃ (b c0 c1 c2 c3 : Nat), bv = .int .i64 (b : Nat) ∧ b ≤ 256 ∧ wx.cell? ⟨wo.heap.size, 0, none⟩ = some (.int .u64 (c0 : Nat)) ∧ wx.cell? ⟨wo.heap.size, 1, none⟩ = some (.int .u64 (c1 : Nat)) ∧ wx.cell? ⟨wo.heap.size, 2, none⟩ = some (.int .u64 (c2 : Nat)) ∧ wx.cell? ⟨wo.heap.size, 3, none⟩ = some (.int .u64 (c3 : Nat)) ∧ wx.cell? ⟨wo.heap.size, 4, none⟩ = some (.bool false) ∧ Hid (DVar wx wo.heap.size 5) ∧ Hid (DVar wx w.heap.size 5) ∧ Hid (Marks wx (w.heap.size + 1) (ndIn rs)) ∧ Hid (Wd (fun x => (ndIn rs x != true) && decide (x < b)) c0 c1 c2 c3) ∧ Hid (Below w.heap.size w wx) ∧ Hid (Below wo.heap.size wo wx)) (fun bv _ => 256 - (intOf bv).toNat)
          case atStart => exact ⟨0, 0, 0, 0, 0, rfl, Nat.zero_le _, by go_simp, by go_simp, by go_simp, by go_simp, by go_simp, HDI0.out, HDR.out.below HB0.out, HM.out.low HB0.out HHS.out, HW0.out, bnext HB.out HB0.out, HB0.out⟩
          case round =>
            obtain ⟨b, c0, c1, c2, c3, rfl, hb, k0, k1, k2, k3, k4, HDI, HDR2, HM2, HWD, HB2, HB3⟩ := hrel
            by_cases hb256 : b < 256
            · have kb := HM2.out b hb256
              obtain ⟨fz0, fz1, fz2, fz3⟩ := (HDI.out.mono (m := 4) (by decide)).four
              cases hx : ndIn rs b with
              | true =>
                have HWN := Lib.hid (Wd.skip HWD.out (b := b) (by show (ndIn rs b != true) = false; rw [hx]; rfl))
                rw [hx] at kb
                clear hx
                go_wp2
                go_roundw
                case rel => exact ⟨b + 1, c0, c1, c2, c3, by go_num, by omega, k0, k1, k2, k3, k4, HDI.out, HDR2.out, HM2.out, HWN.out, HB2.out, HB3.out⟩
                case measure => simp [intOf]; omega
              | false =>
                have hfb : (fun x => ndIn rs x != true) b = true := by show (ndIn rs b != true) = true; rw [hx]; rfl
                rw [hx] at kb
                clear hx
                have hq4 : b / 64 = 0 ∨ b / 64 = 1 ∨ b / 64 = 2 ∨ b / 64 = 3 := by omega
                rcases hq4 with hq4 | hq4 | hq4 | hq4
                · have hwd := Wd.take HWD.out (b := b) hfb
                  rw [hq4] at hwd
                  have HWN := Lib.hid (show Wd (fun x => (ndIn rs x != true) && decide (x < b + 1)) (c0 ||| 2 ^ (b % 64)) c1 c2 c3 from hwd)
                  clear hwd
                  have hq1 : IntKind.i64.wrap ((b : Int).tdiv 64) = 0 := by
                    rw [IntKind.wrap_i64]
                    have : (b : Int).tdiv 64 = ((b / 64 : Nat) : Int) := by rw [Int.tdiv_eq_ediv_of_nonneg (by omega)]; omega
                    rw [this, hq4]; rfl
                  go_wp2
                  go_roundw
                  case rel =>
                    have hwl := HWD.out.lt
                    exact ⟨b + 1, (c0 ||| 2 ^ (b % 64)), c1, c2, c3, by go_num, by omega, by rw [← or_bit c0 (b % 64) hwl.1 (Nat.mod_lt _ (by decide))]; go_simp, by go_simp, by go_simp, by go_simp, by go_simp, HDI.out.set _, HDR2.out.set _, (Marks.low HM2.out ((Below.refl wo.heap.size wr).setCell (p := ⟨_, _, _⟩) (Nat.le_refl _) _) HHS.out), HWN.out, HB2.out.setCell (p := ⟨_, _, _⟩) (Nat.le_of_lt (Nat.lt_of_succ_lt HHS.out)) _, HB3.out.setCell (p := ⟨_, _, _⟩) (Nat.le_refl _) _⟩
                  case measure => simp [intOf]; omega
                · have hwd := Wd.take HWD.out (b := b) hfb
                  rw [hq4] at hwd
                  have HWN := Lib.hid (show Wd (fun x => (ndIn rs x != true) && decide (x < b + 1)) c0 (c1 ||| 2 ^ (b % 64)) c2 c3 from hwd)
                  clear hwd
                  have hq1 : IntKind.i64.wrap ((b : Int).tdiv 64) = 1 := by
                    rw [IntKind.wrap_i64]
                    have : (b : Int).tdiv 64 = ((b / 64 : Nat) : Int) := by rw [Int.tdiv_eq_ediv_of_nonneg (by omega)]; omega
                    rw [this, hq4]; rfl
                  go_wp2
                  go_roundw
                  case rel =>
                    have hwl := HWD.out.lt
                    exact ⟨b + 1, c0, (c1 ||| 2 ^ (b % 64)), c2, c3, by go_num, by omega, by go_simp, by rw [← or_bit c1 (b % 64) hwl.2.1 (Nat.mod_lt _ (by decide))]; go_simp, by go_simp, by go_simp, by go_simp, HDI.out.set _, HDR2.out.set _, (Marks.low HM2.out ((Below.refl wo.heap.size wr).setCell (p := ⟨_, _, _⟩) (Nat.le_refl _) _) HHS.out), HWN.out, HB2.out.setCell (p := ⟨_, _, _⟩) (Nat.le_of_lt (Nat.lt_of_succ_lt HHS.out)) _, HB3.out.setCell (p := ⟨_, _, _⟩) (Nat.le_refl _) _⟩
                  case measure => simp [intOf]; omega
                · have hwd := Wd.take HWD.out (b := b) hfb
                  rw [hq4] at hwd
                  have HWN := Lib.hid (show Wd (fun x => (ndIn rs x != true) && decide (x < b + 1)) c0 c1 (c2 ||| 2 ^ (b % 64)) c3 from hwd)
                  clear hwd
                  have hq1 : IntKind.i64.wrap ((b : Int).tdiv 64) = 2 := by
                    rw [IntKind.wrap_i64]
                    have : (b : Int).tdiv 64 = ((b / 64 : Nat) : Int) := by rw [Int.tdiv_eq_ediv_of_nonneg (by omega)]; omega
                    rw [this, hq4]; rfl
                  go_wp2
                  go_roundw
                  case rel =>
                    have hwl := HWD.out.lt
                    exact ⟨b + 1, c0, c1, (c2 ||| 2 ^ (b % 64)), c3, by go_num, by omega, by go_simp, by go_simp, by rw [← or_bit c2 (b % 64) hwl.2.2.1 (Nat.mod_lt _ (by decide))]; go_simp, by go_simp, by go_simp, HDI.out.set _, HDR2.out.set _, (Marks.low HM2.out ((Below.refl wo.heap.size wr).setCell (p := ⟨_, _, _⟩) (Nat.le_refl _) _) HHS.out), HWN.out, HB2.out.setCell (p := ⟨_, _, _⟩) (Nat.le_of_lt (Nat.lt_of_succ_lt HHS.out)) _, HB3.out.setCell (p := ⟨_, _, _⟩) (Nat.le_refl _) _⟩
                  case measure => simp [intOf]; omega
                · have hwd := Wd.take HWD.out (b := b) hfb
                  rw [hq4] at hwd
                  have HWN := Lib.hid (show Wd (fun x => (ndIn rs x != true) && decide (x < b + 1)) c0 c1 c2 (c3 ||| 2 ^ (b % 64)) from hwd)
                  clear hwd
                  have hq1 : IntKind.i64.wrap ((b : Int).tdiv 64) = 3 := by
                    rw [IntKind.wrap_i64]
                    have : (b : Int).tdiv 64 = ((b / 64 : Nat) : Int) := by rw [Int.tdiv_eq_ediv_of_nonneg (by omega)]; omega
                    rw [this, hq4]; rfl
                  go_wp2
                  go_roundw
                  case rel =>
                    have hwl := HWD.out.lt
                    exact ⟨b + 1, c0, c1, c2, (c3 ||| 2 ^ (b % 64)), by go_num, by omega, by go_simp, by go_simp, by go_simp, by rw [← or_bit c3 (b % 64) hwl.2.2.2 (Nat.mod_lt _ (by decide))]; go_simp, by go_simp, HDI.out.set _, HDR2.out.set _, (Marks.low HM2.out ((Below.refl wo.heap.size wr).setCell (p := ⟨_, _, _⟩) (Nat.le_refl _) _) HHS.out), HWN.out, HB2.out.setCell (p := ⟨_, _, _⟩) (Nat.le_of_lt (Nat.lt_of_succ_lt HHS.out)) _, HB3.out.setCell (p := ⟨_, _, _⟩) (Nat.le_refl _) _⟩
                  case measure => simp [intOf]; omega
            · obtain rfl : b = 256 := by omega
              have hw6 := HWD.out.congr (g := fun x => ndIn rs x != true) (fun x hx => by show ((ndIn rs x != true) && decide (x < 256)) = _; rw [decide_eq_true hx, Bool.and_true])
              have HLT := Lib.hid hw6.lt
              have HCI := Lib.hid (ClsI.yes HCL.out (a0 := c0) (a1 := c1) (a2 := c2) (a3 := c3) (ok := true) (by rw [HNT.out]; obtain ⟨e0, e1, e2, e3⟩ := hw6; rw [e0, e1, e2, e3]; rfl) (decide_eq_true (by rw [HL.out]; omega)).symm)
              clear hw6
              go_wp2_with (refine wpList_put rfl 103 _ _ rfl w.heap.size [.int .u64 (c0 : Nat), .int .u64 (c1 : Nat), .int .u64 (c2 : Nat), .int .u64 (c3 : Nat), .bool false] rfl rfl HDR2.out (by kernel_rfl) (by simp [Value.oneCell']) ?_; intro y1 hp; obtain ⟨t0, t1, t2, t3, t4⟩ := hp.at_.cells5)
              exact bodyPost_ret (v := .tuple #[.agg #[.int .u64 (c0 : Nat), .int .u64 (c1 : Nat), .int .u64 (c2 : Nat), .int .u64 (c3 : Nat), .bool false], .int .i64 ((q + 1 : Nat) : Int), .bool true]) (by simp [results, Tryz.results59, go_sem, t0, t1, t2, t3, t4]) rfl ⟨_, _, _, _, q + 1, true, rfl, HCI.out, (fun _ => hqs), HLT.out, hp.below (Nat.le_refl _) HB2.out⟩
      · have i93 : ¬ (a : Int) = 93 := by omega
        have hqi : (q : Int) < (p.size : Int) := by omega
        go_upto_region 7 with (fail)
        go_quiet (fail)
        have HDR1 := Lib.hid (DVar.drewN HDR.out (m := nq)); have HDF1 := Lib.hid (DVar.drewN HDF.out (m := nq)); have HM1 := Lib.hid (HM.out.drewN (n := nq)); have HB1 := Lib.hid (below_drewN HB.out nq)
        generalize wo.drewN nq = wd at HDR1 HDF1 HM1 HB1 ⊢
        have TM := Lib.hid (two_more (p := p) (q := q) (a := a))
        by_cases h2 : q + 2 < p.size
        · have h1 : q + 1 < p.size := by omega
          obtain ⟨x, hx⟩ : ∃ x, byteAt (bs p) (q + 1) = x := ⟨_, rfl⟩
          obtain ⟨y, hy⟩ : ∃ y, byteAt (bs p) (q + 2) = y := ⟨_, rfl⟩
          have e1 : (p[q + 1]'h1).toNat = x := (at_byte h1).trans hx
          have e2 : (p[q + 2]'h2).toNat = y := (at_byte h2).trans hy
          have hy256 : y < 256 := by have := byte_le p (q + 2); omega
          rw [hx, hy] at TM
          clear hx hy
          by_cases hx45 : x = 45
          · subst hx45
            by_cases hy93 : y = 93
            · subst hy93
              have HMB := Lib.hid (TM.out.trans (if_neg (fun e => e.2.2 rfl)))
              clear TM
              have HMN := Lib.hid (HI2.out.next h93 HMB.out (Nat.lt_irrefl a))
              have HLN := Lib.hid (show (rs ++ [(a, a)]).length = n + 1 by rw [List.length_append, HL.out]; rfl)
              have HM0 := Lib.hid (show Marks wd (w.heap.size + 1) (fun j => ndIn rs j || (decide (a ≤ j) && decide (j < a))) from by
                have h := HM1.out
                intro j hj
                rw [h j hj]
                have e : (decide (a ≤ j) && decide (j < a)) = false := by rw [← Bool.decide_and]; exact decide_eq_false (by omega)
                show _ = some (Value.bool (ndIn rs j || (decide (a ≤ j) && decide (j < a))))
                rw [e, Bool.or_false])
              go_wp2
              go_loopw [12] (fun bv wx => ∃ (b : Nat), bv = .int .i64 (b : Nat) ∧ a ≤ b ∧ b ≤ a + 1 ∧ Hid (DVar wx w.heap.size 5) ∧ Hid (DVar wx (w.heap.size + 1) 256) ∧ Hid (Marks wx (w.heap.size + 1) (fun j => ndIn rs j || (decide (a ≤ j) && decide (j < b)))) ∧ Hid (Below w.heap.size w wx)) (fun bv _ => a + 1 - (intOf bv).toNat)
              case atStart => exact ⟨a, rfl, Nat.le_refl _, by omega, HDR1.out, HDF1.out, HM0.out, HB1.out⟩
              case round =>
                obtain ⟨b, rfl, hb1, hb2, HDR2, HDF2, HM2, HB2⟩ := hrel
                by_cases hbh : b ≤ a
                · have kb : wr.cell? ⟨w.heap.size + 1, b, none⟩ = some (.bool (ndIn rs b || (decide (a ≤ b) && decide (b < b)))) := HM2.out b (by omega)
                  have fb := HDF2.out.f b (by omega)
                  have HMX := Lib.hid (HM2.out.set (b := b) (h := fun j => ndIn rs j || (decide (a ≤ j) && decide (j < b + 1))) (by omega) (fun j _ => by
                    by_cases e : j = b
                    · subst e
                      rw [if_pos rfl, decide_eq_true hb1, decide_eq_true (Nat.lt_succ_self _)]
                      simp
                    · rw [if_neg e]
                      congr 2
                      rw [decide_eq_decide]; omega))
                  obtain ⟨xb, hxb⟩ : ∃ x, (ndIn rs b || (decide (a ≤ b) && decide (b < b))) = x := ⟨_, rfl⟩
                  rw [hxb] at kb
                  clear hxb
                  go_wp2
                  go_roundw
                  case rel => exact ⟨b + 1, by go_num, by omega, by omega, HDR2.out.set _, HDF2.out.set _, HMX.out, HB2.out.setCell (p := ⟨_, _, _⟩) (by simp) _⟩
                  case measure => simp [intOf]; omega
                · obtain rfl : b = a + 1 := by omega
                  have HMX := Lib.hid (show Marks _ (w.heap.size + 1) (ndIn (rs ++ [(a, a)])) from fun j hj => by
                    rw [HM2.out j hj, ndIn_snoc]
                    show some (Value.bool (ndIn rs j || (decide (a ≤ j) && decide (j < a + 1)))) = some (Value.bool (ndIn rs j || (decide (a ≤ j) && decide (j ≤ a))))
                    have e : decide (j < a + 1) = decide (j ≤ a) := by rw [decide_eq_decide]; omega
                    rw [e])
                  go_wp2
                  go_roundw
                  case rel => exact ⟨q + 1, n + 1, rs ++ [(a, a)], by go_num, by go_num, by omega, by omega, by omega, HLN.out, HDR2.out, HDF2.out, HMX.out, HMN.out, HB2.out⟩
                  case measure => simp [intOf]; omega
            · have iy93 : ¬ (y : Int) = 93 := by omega
              have HMB := Lib.hid (TM.out.trans (if_pos ⟨h2, rfl, hy93⟩))
              clear TM
              by_cases hlt : y < a
              · have HNO := Lib.hid (HI2.out.falls h93 HMB.out hlt)
                have hlti : (y : Int) < (a : Int) := by omega
                go_wp2_with (refine wpList_put rfl 103 _ _ rfl w.heap.size [.int .u64 0, .int .u64 0, .int .u64 0, .int .u64 0, .bool false] rfl rfl HDR1.out (by kernel_rfl) (by simp [Value.oneCell']) ?_; intro y1 hp; obtain ⟨t0, t1, t2, t3, t4⟩ := hp.at_.cells5)
                exact bodyPost_ret (v := .tuple #[.agg #[.int .u64 ((0 : Nat) : Int), .int .u64 ((0 : Nat) : Int), .int .u64 ((0 : Nat) : Int), .int .u64 ((0 : Nat) : Int), .bool false], .int .i64 ((0 : Nat) : Int), .bool false]) (by simp [results, Tryz.results59, go_sem, t0, t1, t2, t3, t4]) rfl ⟨0, 0, 0, 0, 0, false, rfl, ClsI.no HNO.out 0 0 0 0 _, (fun e => by cases e), ⟨by decide, by decide, by decide, by decide⟩, hp.below (Nat.le_refl _) HB1.out⟩
              · have hlti : ¬ (y : Int) < (a : Int) := by omega
                have HMN := Lib.hid (HI2.out.next h93 HMB.out hlt)
                have HLN := Lib.hid (show (rs ++ [(a, y)]).length = n + 1 by rw [List.length_append, HL.out]; rfl)
                have HM0 := Lib.hid (show Marks wd (w.heap.size + 1) (fun j => ndIn rs j || (decide (a ≤ j) && decide (j < a))) from by
                  have h := HM1.out
                  intro j hj
                  rw [h j hj]
                  have e : (decide (a ≤ j) && decide (j < a)) = false := by rw [← Bool.decide_and]; exact decide_eq_false (by omega)
                  show _ = some (Value.bool (ndIn rs j || (decide (a ≤ j) && decide (j < a))))
                  rw [e, Bool.or_false])
                go_wp2
                go_loopw [12] (fun bv wx => ∃ (b : Nat), bv = .int .i64 (b : Nat) ∧ a ≤ b ∧ b ≤ y + 1 ∧ Hid (DVar wx w.heap.size 5) ∧ Hid (DVar wx (w.heap.size + 1) 256) ∧ Hid (Marks wx (w.heap.size + 1) (fun j => ndIn rs j || (decide (a ≤ j) && decide (j < b)))) ∧ Hid (Below w.heap.size w wx)) (fun bv _ => y + 1 - (intOf bv).toNat)
                case atStart => exact ⟨a, rfl, Nat.le_refl _, by omega, HDR1.out, HDF1.out, HM0.out, HB1.out⟩
                case round =>
                  obtain ⟨b, rfl, hb1, hb2, HDR2, HDF2, HM2, HB2⟩ := hrel
                  by_cases hbh : b ≤ y
                  · have kb : wr.cell? ⟨w.heap.size + 1, b, none⟩ = some (.bool (ndIn rs b || (decide (a ≤ b) && decide (b < b)))) := HM2.out b (by omega)
                    have fb := HDF2.out.f b (by omega)
                    have HMX := Lib.hid (HM2.out.set (b := b) (h := fun j => ndIn rs j || (decide (a ≤ j) && decide (j < b + 1))) (by omega) (fun j _ => by
                      by_cases e : j = b
                      · subst e
                        rw [if_pos rfl, decide_eq_true hb1, decide_eq_true (Nat.lt_succ_self _)]
                        simp
                      · rw [if_neg e]
                        congr 2
                        rw [decide_eq_decide]; omega))
                    obtain ⟨xb, hxb⟩ : ∃ x, (ndIn rs b || (decide (a ≤ b) && decide (b < b))) = x := ⟨_, rfl⟩
                    rw [hxb] at kb
                    clear hxb
                    go_wp2
                    go_roundw
                    case rel => exact ⟨b + 1, by go_num, by omega, by omega, HDR2.out.set _, HDF2.out.set _, HMX.out, HB2.out.setCell (p := ⟨_, _, _⟩) (by simp) _⟩
                    case measure => simp [intOf]; omega
                  · obtain rfl : b = y + 1 := by omega
                    have HMX := Lib.hid (show Marks _ (w.heap.size + 1) (ndIn (rs ++ [(a, y)])) from fun j hj => by
                      rw [HM2.out j hj, ndIn_snoc]
                      show some (Value.bool (ndIn rs j || (decide (a ≤ j) && decide (j < y + 1)))) = some (Value.bool (ndIn rs j || (decide (a ≤ j) && decide (j ≤ y))))
                      have e : decide (j < y + 1) = decide (j ≤ y) := by rw [decide_eq_decide]; omega
                      rw [e])
                    go_wp2
                    go_roundw
                    case rel => exact ⟨q + 3, n + 1, rs ++ [(a, y)], by go_num, by go_num, by omega, by omega, by omega, HLN.out, HDR2.out, HDF2.out, HMX.out, HMN.out, HB2.out⟩
                    case measure => simp [intOf]; omega
          · have ix45 : ¬ (x : Int) = 45 := by omega
            have HMB := Lib.hid (TM.out.trans (if_neg (fun e => hx45 e.2.1)))
            clear TM
            have HMN := Lib.hid (HI2.out.next h93 HMB.out (Nat.lt_irrefl a))
            have HLN := Lib.hid (show (rs ++ [(a, a)]).length = n + 1 by rw [List.length_append, HL.out]; rfl)
            have HM0 := Lib.hid (show Marks wd (w.heap.size + 1) (fun j => ndIn rs j || (decide (a ≤ j) && decide (j < a))) from by
              have h := HM1.out
              intro j hj
              rw [h j hj]
              have e : (decide (a ≤ j) && decide (j < a)) = false := by rw [← Bool.decide_and]; exact decide_eq_false (by omega)
              show _ = some (Value.bool (ndIn rs j || (decide (a ≤ j) && decide (j < a))))
              rw [e, Bool.or_false])
            go_wp2
            go_loopw [12] (fun bv wx => ∃ (b : Nat), bv = .int .i64 (b : Nat) ∧ a ≤ b ∧ b ≤ a + 1 ∧ Hid (DVar wx w.heap.size 5) ∧ Hid (DVar wx (w.heap.size + 1) 256) ∧ Hid (Marks wx (w.heap.size + 1) (fun j => ndIn rs j || (decide (a ≤ j) && decide (j < b)))) ∧ Hid (Below w.heap.size w wx)) (fun bv _ => a + 1 - (intOf bv).toNat)
            case atStart => exact ⟨a, rfl, Nat.le_refl _, by omega, HDR1.out, HDF1.out, HM0.out, HB1.out⟩
            case round =>
              obtain ⟨b, rfl, hb1, hb2, HDR2, HDF2, HM2, HB2⟩ := hrel
              by_cases hbh : b ≤ a
              · have kb : wr.cell? ⟨w.heap.size + 1, b, none⟩ = some (.bool (ndIn rs b || (decide (a ≤ b) && decide (b < b)))) := HM2.out b (by omega)
                have fb := HDF2.out.f b (by omega)
                have HMX := Lib.hid (HM2.out.set (b := b) (h := fun j => ndIn rs j || (decide (a ≤ j) && decide (j < b + 1))) (by omega) (fun j _ => by
                  by_cases e : j = b
                  · subst e
                    rw [if_pos rfl, decide_eq_true hb1, decide_eq_true (Nat.lt_succ_self _)]
                    simp
                  · rw [if_neg e]
                    congr 2
                    rw [decide_eq_decide]; omega))
                obtain ⟨xb, hxb⟩ : ∃ x, (ndIn rs b || (decide (a ≤ b) && decide (b < b))) = x := ⟨_, rfl⟩
                rw [hxb] at kb
                clear hxb
                go_wp2
                go_roundw
                case rel => exact ⟨b + 1, by go_num, by omega, by omega, HDR2.out.set _, HDF2.out.set _, HMX.out, HB2.out.setCell (p := ⟨_, _, _⟩) (by simp) _⟩
                case measure => simp [intOf]; omega
              · obtain rfl : b = a + 1 := by omega
                have HMX := Lib.hid (show Marks _ (w.heap.size + 1) (ndIn (rs ++ [(a, a)])) from fun j hj => by
                  rw [HM2.out j hj, ndIn_snoc]
                  show some (Value.bool (ndIn rs j || (decide (a ≤ j) && decide (j < a + 1)))) = some (Value.bool (ndIn rs j || (decide (a ≤ j) && decide (j ≤ a))))
                  have e : decide (j < a + 1) = decide (j ≤ a) := by rw [decide_eq_decide]; omega
                  rw [e])
                go_wp2
                go_roundw
                case rel => exact ⟨q + 1, n + 1, rs ++ [(a, a)], by go_num, by go_num, by omega, by omega, by omega, HLN.out, HDR2.out, HDF2.out, HMX.out, HMN.out, HB2.out⟩
                case measure => simp [intOf]; omega
        · have HMB := Lib.hid (TM.out.trans (if_neg (fun e => h2 e.1)))
          have i2 : ¬ (q : Int) < (p.size : Int) - 2 := by omega
          clear TM
          have HMN := Lib.hid (HI2.out.next h93 HMB.out (Nat.lt_irrefl a))
          have HLN := Lib.hid (show (rs ++ [(a, a)]).length = n + 1 by rw [List.length_append, HL.out]; rfl)
          have HM0 := Lib.hid (show Marks wd (w.heap.size + 1) (fun j => ndIn rs j || (decide (a ≤ j) && decide (j < a))) from by
            have h := HM1.out
            intro j hj
            rw [h j hj]
            have e : (decide (a ≤ j) && decide (j < a)) = false := by rw [← Bool.decide_and]; exact decide_eq_false (by omega)
            show _ = some (Value.bool (ndIn rs j || (decide (a ≤ j) && decide (j < a))))
            rw [e, Bool.or_false])
          go_wp2
          go_loopw [12] (fun bv wx => ∃ (b : Nat), bv = .int .i64 (b : Nat) ∧ a ≤ b ∧ b ≤ a + 1 ∧ Hid (DVar wx w.heap.size 5) ∧ Hid (DVar wx (w.heap.size + 1) 256) ∧ Hid (Marks wx (w.heap.size + 1) (fun j => ndIn rs j || (decide (a ≤ j) && decide (j < b)))) ∧ Hid (Below w.heap.size w wx)) (fun bv _ => a + 1 - (intOf bv).toNat)
          case atStart => exact ⟨a, rfl, Nat.le_refl _, by omega, HDR1.out, HDF1.out, HM0.out, HB1.out⟩
          case round =>
            obtain ⟨b, rfl, hb1, hb2, HDR2, HDF2, HM2, HB2⟩ := hrel
            by_cases hbh : b ≤ a
            · have kb : wr.cell? ⟨w.heap.size + 1, b, none⟩ = some (.bool (ndIn rs b || (decide (a ≤ b) && decide (b < b)))) := HM2.out b (by omega)
              have fb := HDF2.out.f b (by omega)
              have HMX := Lib.hid (HM2.out.set (b := b) (h := fun j => ndIn rs j || (decide (a ≤ j) && decide (j < b + 1))) (by omega) (fun j _ => by
                by_cases e : j = b
                · subst e
                  rw [if_pos rfl, decide_eq_true hb1, decide_eq_true (Nat.lt_succ_self _)]
                  simp
                · rw [if_neg e]
                  congr 2
                  rw [decide_eq_decide]; omega))
              obtain ⟨xb, hxb⟩ : ∃ x, (ndIn rs b || (decide (a ≤ b) && decide (b < b))) = x := ⟨_, rfl⟩
              rw [hxb] at kb
              clear hxb
              go_wp2
              go_roundw
              case rel => exact ⟨b + 1, by go_num, by omega, by omega, HDR2.out.set _, HDF2.out.set _, HMX.out, HB2.out.setCell (p := ⟨_, _, _⟩) (by simp) _⟩
              case measure => simp [intOf]; omega
            · obtain rfl : b = a + 1 := by omega
              have HMX := Lib.hid (show Marks _ (w.heap.size + 1) (ndIn (rs ++ [(a, a)])) from fun j hj => by
                rw [HM2.out j hj, ndIn_snoc]
                show some (Value.bool (ndIn rs j || (decide (a ≤ j) && decide (j < a + 1)))) = some (Value.bool (ndIn rs j || (decide (a ≤ j) && decide (j ≤ a))))
                have e : decide (j < a + 1) = decide (j ≤ a) := by rw [decide_eq_decide]; omega
                rw [e])
              go_wp2
              go_roundw
              case rel => exact ⟨q + 1, n + 1, rs ++ [(a, a)], by go_num, by go_num, by omega, by omega, by omega, HLN.out, HDR2.out, HDF2.out, HMX.out, HMN.out, HB2.out⟩
              case measure => simp [intOf]; omega
    · obtain rfl : q = p.size := by omega
      have hi0 := HI.out
      rw [drop_end] at hi0
      have HNO := Lib.hid (MemI.none_ hi0)
      clear hi0 hqs
      go_wp2_with (refine wpList_put rfl 103 _ _ rfl w.heap.size [.int .u64 0, .int .u64 0, .int .u64 0, .int .u64 0, .bool false] rfl rfl HDR.out (by kernel_rfl) (by simp [Value.oneCell']) ?_; intro y1 hp; obtain ⟨t0, t1, t2, t3, t4⟩ := hp.at_.cells5)
      exact bodyPost_ret (v := .tuple #[.agg #[.int .u64 ((0 : Nat) : Int), .int .u64 ((0 : Nat) : Int), .int .u64 ((0 : Nat) : Int), .int .u64 ((0 : Nat) : Int), .bool false], .int .i64 ((0 : Nat) : Int), .bool false]) (by simp [results, Tryz.results59, go_sem, t0, t1, t2, t3, t4]) rfl ⟨0, 0, 0, 0, 0, false, rfl, ClsI.no HNO.out 0 0 0 0 _, (fun e => by cases e), ⟨by decide, by decide, by decide, by decide⟩, hp.below (Nat.le_refl _) HB.out⟩
end Go.Proofs.YtodlgbihdehmbaaGreatDoor.Nd.NR
/-
  Contracts of the document's own functions of layer 9: class, no ^ first.
-/
set_option linter.unusedSimpArgs false
set_option linter.unusedVariables false
namespace Go.Proofs.YtodlgbihdehmbaaGreatDoor.Nd.NR
open Go.RowKit
set_option maxRecDepth 100000 in
set_option maxHeartbeats 8000000 in
theorem class_n (p : ByteArray) (k : Nat) (hk : k ≤ p.size) (hp : p.size ≤ 1000) (hks : k < p.size) (c : Nat) (h94 : ¬ c = 94) (hd : (bs p).drop k = c :: (bs p).drop (k + 1)) (e0 : (p[k]'hks).toNat = c) (w : World) :
    Calls Tryz.prog 59 #[.string p, .int .i64 (k : Nat)] w fun e w' => ∃ (a0 a1 a2 a3 k2 : Nat) (ok : Bool), e = .returned (.tuple #[.agg #[.int .u64 (a0 : Nat), .int .u64 (a1 : Nat), .int .u64 (a2 : Nat), .int .u64 (a3 : Nat), .bool false], .int .i64 (k2 : Nat), .bool ok]) ∧
      ClsI ((bs p).drop k) a0 a1 a2 a3 ((bs p).drop k2) ok ∧ (ok = true → k2 ≤ p.size) ∧ (a0 < 18446744073709551616 ∧ a1 < 18446744073709551616 ∧ a2 < 18446744073709551616 ∧ a3 < 18446744073709551616) ∧ Below w.heap.size w w' := by
  obtain ⟨zs, hz, hz1, hz2, hz3⟩ := zero256
  have HZ1 := Lib.hid hz1; have HZ3 := Lib.hid hz3
  clear hz1 hz3
  have hcb : cutB 94 ((bs p).drop k) = (bs p).drop k := by rw [hd]; exact if_neg (fun e => h94 (eq_of_beq e))
  have HNT := Lib.hid (show (((bs p).drop k).getD 0 0 == 94) = false by rw [hd]; exact beq_false_of_ne h94)
  have i94 : ¬ (c : Int) = 94 := by omega
  have i94b : ((c : Int) == 94) = false := beq_false_of_ne i94
  clear hd
  go_enter Tryz.func59, Tryz.ntmps59
  have HCB := Lib.hid hcb
  clear hcb
  go_wp2
  go_loopw [1, 9, 10, 11, 12] (fun av nv _ _ _ wr => ∃ (q n : Nat) (rs : List (Nat × Nat)), av = .int .i64 (q : Nat) ∧ nv = .int .i64 (n : Nat) ∧ q ≤ p.size ∧ n ≤ q ∧ k ≤ q ∧ Hid (rs.length = n) ∧ Hid (DVar wr w.heap.size 5) ∧ Hid (DVar wr (w.heap.size + 1) 256) ∧ Hid (Marks wr (w.heap.size + 1) (ndIn rs)) ∧ Hid (MemI (cutB 94 ((bs p).drop k)) ((bs p).drop q) rs) ∧ Hid (Below w.heap.size w wr)) (fun av _ _ _ _ _ => p.size - (intOf av).toNat)
  case atStart => exact ⟨k, 0, [], by go_num, rfl, by omega, Nat.zero_le _, by omega, rfl, (DVar.alloc _ _).below (alloc_below _ _), (by have h := dvar_second w (.cells #[.int .u64 0, .int .u64 0, .int .u64 0, .int .u64 0, .bool false] 103) zs 132; rw [HZ1.out] at h; exact h), (by have h := Marks.first (w := w.alloc (.cells #[.int .u64 0, .int .u64 0, .int .u64 0, .int .u64 0, .bool false] 103)) (t := 132) HZ3.out; rw [show (w.alloc (.cells #[.int .u64 0, .int .u64 0, .int .u64 0, .int .u64 0, .bool false] 103)).heap.size = w.heap.size + 1 by simp] at h; exact h), by rw [HCB.out]; exact MemI.start _, alloc2_below _ _ _⟩
  case round =>
    obtain ⟨q, n, rs, rfl, rfl, hq, hn, hkq, HL, HDR, HDF, HM, HI, HB⟩ := hrel
    obtain ⟨wo, rfl⟩ : ∃ wo : World, wo = wr := ⟨_, rfl⟩
    by_cases hqs : q < p.size
    · obtain ⟨a, hd, e0, ha⟩ := bs_at hqs
      have hi0 := HI.out
      rw [hd] at hi0
      have HI2 := Lib.hid hi0
      clear hi0 hd
      by_cases h93 : a = 93
      · subst h93
        have HCL := Lib.hid (MemI.close HI2.out)
        by_cases hn0 : n = 0
        · subst hn0
          obtain rfl : rs = [] := List.eq_nil_of_length_eq_zero HL.out
          have HNO := Lib.hid (fun a0 a1 a2 a3 r2 => ClsI.empty HCL.out a0 a1 a2 a3 r2)
          go_wp2_with (refine wpList_put rfl 103 _ _ rfl w.heap.size [.int .u64 0, .int .u64 0, .int .u64 0, .int .u64 0, .bool false] rfl rfl HDR.out (by kernel_rfl) (by simp [Value.oneCell']) ?_; intro y1 hp; obtain ⟨t0, t1, t2, t3, t4⟩ := hp.at_.cells5)
          exact bodyPost_ret (v := .tuple #[.agg #[.int .u64 ((0 : Nat) : Int), .int .u64 ((0 : Nat) : Int), .int .u64 ((0 : Nat) : Int), .int .u64 ((0 : Nat) : Int), .bool false], .int .i64 ((0 : Nat) : Int), .bool false]) (by simp [results, Tryz.results59, go_sem, t0, t1, t2, t3, t4]) rfl ⟨0, 0, 0, 0, 0, false, rfl, HNO.out 0 0 0 0 _, (fun e => by cases e), ⟨by decide, by decide, by decide, by decide⟩, hp.below (Nat.le_refl _) HB.out⟩
        · have hni : ¬ (n : Int) = 0 := by omega
          have hnb : ((n : Int) == 0) = false := beq_false_of_ne hni
          have hqn : ¬ p.size ≤ q := by omega
          have HHS := Lib.hid (show w.heap.size + 1 < wo.heap.size from HDF.out.lt)
          have HDI0 := Lib.hid (DVar.alloc (w := wo) #[.int .u64 0, .int .u64 0, .int .u64 0, .int .u64 0, .bool false] 103)
          have HB0 := Lib.hid (alloc_below wo (.cells #[.int .u64 0, .int .u64 0, .int .u64 0, .int .u64 0, .bool false] 103))
          have HW0 := Lib.hid (Wd.none_.congr (g := fun x => (ndIn rs x != false) && decide (x < 0)) (fun x _ => by simp))
          go_wp2
          go_loopw [14] (fun bv wx => ∃ (b c0 c1 c2 c3 : Nat), bv = .int .i64 (b : Nat) ∧ b ≤ 256 ∧ wx.cell? ⟨wo.heap.size, 0, none⟩ = some (.int .u64 (c0 : Nat)) ∧ wx.cell? ⟨wo.heap.size, 1, none⟩ = some (.int .u64 (c1 : Nat)) ∧ wx.cell? ⟨wo.heap.size, 2, none⟩ = some (.int .u64 (c2 : Nat)) ∧ wx.cell? ⟨wo.heap.size, 3, none⟩ = some (.int .u64 (c3 : Nat)) ∧ wx.cell? ⟨wo.heap.size, 4, none⟩ = some (.bool false) ∧ Hid (DVar wx wo.heap.size 5) ∧ Hid (DVar wx w.heap.size 5) ∧ Hid (Marks wx (w.heap.size + 1) (ndIn rs)) ∧ Hid (Wd (fun x => (ndIn rs x != false) && decide (x < b)) c0 c1 c2 c3) ∧ Hid (Below w.heap.size w wx) ∧ Hid (Below wo.heap.size wo wx)) (fun bv _ => 256 - (intOf bv).toNat)
          case atStart => exact ⟨0, 0, 0, 0, 0, rfl, Nat.zero_le _, by go_simp, by go_simp, by go_simp, by go_simp, by go_simp, HDI0.out, HDR.out.below HB0.out, HM.out.low HB0.out HHS.out, HW0.out, bnext HB.out HB0.out, HB0.out⟩
          case round =>
            obtain ⟨b, c0, c1, c2, c3, rfl, hb, k0, k1, k2, k3, k4, HDI, HDR2, HM2, HWD, HB2, HB3⟩ := hrel
            by_cases hb256 : b < 256
            · have kb := HM2.out b hb256
              obtain ⟨fz0, fz1, fz2, fz3⟩ := (HDI.out.mono (m := 4) (by decide)).four
              cases hx : ndIn rs b with
              | false =>
                have HWN := Lib.hid (Wd.skip HWD.out (b := b) (by show (ndIn rs b != false) = false; rw [hx]; rfl))
                rw [hx] at kb
                clear hx
                go_wp2
                go_roundw
                case rel => exact ⟨b + 1, c0, c1, c2, c3, by go_num, by omega, k0, k1, k2, k3, k4, HDI.out, HDR2.out, HM2.out, HWN.out, HB2.out, HB3.out⟩
                case measure => simp [intOf]; omega
              | true =>
                have hfb : (fun x => ndIn rs x != false) b = true := by show (ndIn rs b != false) = true; rw [hx]; rfl
                rw [hx] at kb
                clear hx
                have hq4 : b / 64 = 0 ∨ b / 64 = 1 ∨ b / 64 = 2 ∨ b / 64 = 3 := by omega
                rcases hq4 with hq4 | hq4 | hq4 | hq4
                · have hwd := Wd.take HWD.out (b := b) hfb
                  rw [hq4] at hwd
                  have HWN := Lib.hid (show Wd (fun x => (ndIn rs x != false) && decide (x < b + 1)) (c0 ||| 2 ^ (b % 64)) c1 c2 c3 from hwd)
                  clear hwd
                  have hq1 : IntKind.i64.wrap ((b : Int).tdiv 64) = 0 := by
                    rw [IntKind.wrap_i64]
                    have : (b : Int).tdiv 64 = ((b / 64 : Nat) : Int) := by rw [Int.tdiv_eq_ediv_of_nonneg (by omega)]; omega
                    rw [this, hq4]; rfl
                  go_wp2
                  go_roundw
                  case rel =>
                    have hwl := HWD.out.lt
                    exact ⟨b + 1, (c0 ||| 2 ^ (b % 64)), c1, c2, c3, by go_num, by omega, by rw [← or_bit c0 (b % 64) hwl.1 (Nat.mod_lt _ (by decide))]; go_simp, by go_simp, by go_simp, by go_simp, by go_simp, HDI.out.set _, HDR2.out.set _, (Marks.low HM2.out ((Below.refl wo.heap.size wr).setCell (p := ⟨_, _, _⟩) (Nat.le_refl _) _) HHS.out), HWN.out, HB2.out.setCell (p := ⟨_, _, _⟩) (Nat.le_of_lt (Nat.lt_of_succ_lt HHS.out)) _, HB3.out.setCell (p := ⟨_, _, _⟩) (Nat.le_refl _) _⟩
                  case measure => simp [intOf]; omega
                · have hwd := Wd.take HWD.out (b := b) hfb
                  rw [hq4] at hwd
                  have HWN := Lib.hid (show Wd (fun x => (ndIn rs x != false) && decide (x < b + 1)) c0 (c1 ||| 2 ^ (b % 64)) c2 c3 from hwd)
                  clear hwd
                  have hq1 : IntKind.i64.wrap ((b : Int).tdiv 64) = 1 := by
                    rw [IntKind.wrap_i64]
                    have : (b : Int).tdiv 64 = ((b / 64 : Nat) : Int) := by rw [Int.tdiv_eq_ediv_of_nonneg (by omega)]; omega
                    rw [this, hq4]; rfl
                  go_wp2
                  go_roundw
                  case rel =>
                    have hwl := HWD.out.lt
                    exact ⟨b + 1, c0, (c1 ||| 2 ^ (b % 64)), c2, c3, by go_num, by omega, by go_simp, by rw [← or_bit c1 (b % 64) hwl.2.1 (Nat.mod_lt _ (by decide))]; go_simp, by go_simp, by go_simp, by go_simp, HDI.out.set _, HDR2.out.set _, (Marks.low HM2.out ((Below.refl wo.heap.size wr).setCell (p := ⟨_, _, _⟩) (Nat.le_refl _) _) HHS.out), HWN.out, HB2.out.setCell (p := ⟨_, _, _⟩) (Nat.le_of_lt (Nat.lt_of_succ_lt HHS.out)) _, HB3.out.setCell (p := ⟨_, _, _⟩) (Nat.le_refl _) _⟩
                  case measure => simp [intOf]; omega
                · have hwd := Wd.take HWD.out (b := b) hfb
                  rw [hq4] at hwd
                  have HWN := Lib.hid (show Wd (fun x => (ndIn rs x != false) && decide (x < b + 1)) c0 c1 (c2 ||| 2 ^ (b % 64)) c3 from hwd)
                  clear hwd
                  have hq1 : IntKind.i64.wrap ((b : Int).tdiv 64) = 2 := by
                    rw [IntKind.wrap_i64]
                    have : (b : Int).tdiv 64 = ((b / 64 : Nat) : Int) := by rw [Int.tdiv_eq_ediv_of_nonneg (by omega)]; omega
                    rw [this, hq4]; rfl
                  go_wp2
                  go_roundw
                  case rel =>
                    have hwl := HWD.out.lt
                    exact ⟨b + 1, c0, c1, (c2 ||| 2 ^ (b % 64)), c3, by go_num, by omega, by go_simp, by go_simp, by rw [← or_bit c2 (b % 64) hwl.2.2.1 (Nat.mod_lt _ (by decide))]; go_simp, by go_simp, by go_simp, HDI.out.set _, HDR2.out.set _, (Marks.low HM2.out ((Below.refl wo.heap.size wr).setCell (p := ⟨_, _, _⟩) (Nat.le_refl _) _) HHS.out), HWN.out, HB2.out.setCell (p := ⟨_, _, _⟩) (Nat.le_of_lt (Nat.lt_of_succ_lt HHS.out)) _, HB3.out.setCell (p := ⟨_, _, _⟩) (Nat.le_refl _) _⟩
                  case measure => simp [intOf]; omega
                · have hwd := Wd.take HWD.out (b := b) hfb
                  rw [hq4] at hwd
                  have HWN := Lib.hid (show Wd (fun x => (ndIn rs x != false) && decide (x < b + 1)) c0 c1 c2 (c3 ||| 2 ^ (b % 64)) from hwd)
                  clear hwd
                  have hq1 : IntKind.i64.wrap ((b : Int).tdiv 64) = 3 := by
                    rw [IntKind.wrap_i64]
                    have : (b : Int).tdiv 64 = ((b / 64 : Nat) : Int) := by rw [Int.tdiv_eq_ediv_of_nonneg (by omega)]; omega
                    rw [this, hq4]; rfl
                  go_wp2
                  go_roundw
                  case rel =>
                    have hwl := HWD.out.lt
                    exact ⟨b + 1, c0, c1, c2, (c3 ||| 2 ^ (b % 64)), by go_num, by omega, by go_simp, by go_simp, by go_simp, by rw [← or_bit c3 (b % 64) hwl.2.2.2 (Nat.mod_lt _ (by decide))]; go_simp, by go_simp, HDI.out.set _, HDR2.out.set _, (Marks.low HM2.out ((Below.refl wo.heap.size wr).setCell (p := ⟨_, _, _⟩) (Nat.le_refl _) _) HHS.out), HWN.out, HB2.out.setCell (p := ⟨_, _, _⟩) (Nat.le_of_lt (Nat.lt_of_succ_lt HHS.out)) _, HB3.out.setCell (p := ⟨_, _, _⟩) (Nat.le_refl _) _⟩
                  case measure => simp [intOf]; omega
            · obtain rfl : b = 256 := by omega
              have hw6 := HWD.out.congr (g := fun x => ndIn rs x != false) (fun x hx => by show ((ndIn rs x != false) && decide (x < 256)) = _; rw [decide_eq_true hx, Bool.and_true])
              have HLT := Lib.hid hw6.lt
              have HCI := Lib.hid (ClsI.yes HCL.out (a0 := c0) (a1 := c1) (a2 := c2) (a3 := c3) (ok := true) (by rw [HNT.out]; obtain ⟨e0, e1, e2, e3⟩ := hw6; rw [e0, e1, e2, e3]; rfl) (decide_eq_true (by rw [HL.out]; omega)).symm)
              clear hw6
              go_wp2_with (refine wpList_put rfl 103 _ _ rfl w.heap.size [.int .u64 (c0 : Nat), .int .u64 (c1 : Nat), .int .u64 (c2 : Nat), .int .u64 (c3 : Nat), .bool false] rfl rfl HDR2.out (by kernel_rfl) (by simp [Value.oneCell']) ?_; intro y1 hp; obtain ⟨t0, t1, t2, t3, t4⟩ := hp.at_.cells5)
              exact bodyPost_ret (v := .tuple #[.agg #[.int .u64 (c0 : Nat), .int .u64 (c1 : Nat), .int .u64 (c2 : Nat), .int .u64 (c3 : Nat), .bool false], .int .i64 ((q + 1 : Nat) : Int), .bool true]) (by simp [results, Tryz.results59, go_sem, t0, t1, t2, t3, t4]) rfl ⟨_, _, _, _, q + 1, true, rfl, HCI.out, (fun _ => hqs), HLT.out, hp.below (Nat.le_refl _) HB2.out⟩
      · have i93 : ¬ (a : Int) = 93 := by omega
        have hqi : (q : Int) < (p.size : Int) := by omega
        go_upto_region 7 with (fail)
        go_quiet (fail)
        have HDR1 := Lib.hid (DVar.drewN HDR.out (m := nq)); have HDF1 := Lib.hid (DVar.drewN HDF.out (m := nq)); have HM1 := Lib.hid (HM.out.drewN (n := nq)); have HB1 := Lib.hid (below_drewN HB.out nq)
        generalize wo.drewN nq = wd at HDR1 HDF1 HM1 HB1 ⊢
        have TM := Lib.hid (two_more (p := p) (q := q) (a := a))
        by_cases h2 : q + 2 < p.size
        · have h1 : q + 1 < p.size := by omega
          obtain ⟨x, hx⟩ : ∃ x, byteAt (bs p) (q + 1) = x := ⟨_, rfl⟩
          obtain ⟨y, hy⟩ : ∃ y, byteAt (bs p) (q + 2) = y := ⟨_, rfl⟩
          have e1 : (p[q + 1]'h1).toNat = x := (at_byte h1).trans hx
          have e2 : (p[q + 2]'h2).toNat = y := (at_byte h2).trans hy
          have hy256 : y < 256 := by have := byte_le p (q + 2); omega
          rw [hx, hy] at TM
          clear hx hy
          by_cases hx45 : x = 45
          · subst hx45
            by_cases hy93 : y = 93
            · subst hy93
              have HMB := Lib.hid (TM.out.trans (if_neg (fun e => e.2.2 rfl)))
              clear TM
              have HMN := Lib.hid (HI2.out.next h93 HMB.out (Nat.lt_irrefl a))
              have HLN := Lib.hid (show (rs ++ [(a, a)]).length = n + 1 by rw [List.length_append, HL.out]; rfl)
              have HM0 := Lib.hid (show Marks wd (w.heap.size + 1) (fun j => ndIn rs j || (decide (a ≤ j) && decide (j < a))) from by
                have h := HM1.out
                intro j hj
                rw [h j hj]
                have e : (decide (a ≤ j) && decide (j < a)) = false := by rw [← Bool.decide_and]; exact decide_eq_false (by omega)
                show _ = some (Value.bool (ndIn rs j || (decide (a ≤ j) && decide (j < a))))
                rw [e, Bool.or_false])
              go_wp2
              go_loopw [12] (fun bv wx => ∃ (b : Nat), bv = .int .i64 (b : Nat) ∧ a ≤ b ∧ b ≤ a + 1 ∧ Hid (DVar wx w.heap.size 5) ∧ Hid (DVar wx (w.heap.size + 1) 256) ∧ Hid (Marks wx (w.heap.size + 1) (fun j => ndIn rs j || (decide (a ≤ j) && decide (j < b)))) ∧ Hid (Below w.heap.size w wx)) (fun bv _ => a + 1 - (intOf bv).toNat)
              case atStart => exact ⟨a, rfl, Nat.le_refl _, by omega, HDR1.out, HDF1.out, HM0.out, HB1.out⟩
              case round =>
                obtain ⟨b, rfl, hb1, hb2, HDR2, HDF2, HM2, HB2⟩ := hrel
                by_cases hbh : b ≤ a
                · have kb : wr.cell? ⟨w.heap.size + 1, b, none⟩ = some (.bool (ndIn rs b || (decide (a ≤ b) && decide (b < b)))) := HM2.out b (by omega)
                  have fb := HDF2.out.f b (by omega)
                  have HMX := Lib.hid (HM2.out.set (b := b) (h := fun j => ndIn rs j || (decide (a ≤ j) && decide (j < b + 1))) (by omega) (fun j _ => by
                    by_cases e : j = b
                    · subst e
                      rw [if_pos rfl, decide_eq_true hb1, decide_eq_true (Nat.lt_succ_self _)]
                      simp
                    · rw [if_neg e]
                      congr 2
                      rw [decide_eq_decide]; omega))
                  obtain ⟨xb, hxb⟩ : ∃ x, (ndIn rs b || (decide (a ≤ b) && decide (b < b))) = x := ⟨_, rfl⟩
                  rw [hxb] at kb
                  clear hxb
                  go_wp2
                  go_roundw
                  case rel => exact ⟨b + 1, by go_num, by omega, by omega, HDR2.out.set _, HDF2.out.set _, HMX.out, HB2.out.setCell (p := ⟨_, _, _⟩) (by simp) _⟩
                  case measure => simp [intOf]; omega
                · obtain rfl : b = a + 1 := by omega
                  have HMX := Lib.hid (show Marks _ (w.heap.size + 1) (ndIn (rs ++ [(a, a)])) from fun j hj => by
                    rw [HM2.out j hj, ndIn_snoc]
                    show some (Value.bool (ndIn rs j || (decide (a ≤ j) && decide (j < a + 1)))) = some (Value.bool (ndIn rs j || (decide (a ≤ j) && decide (j ≤ a))))
                    have e : decide (j < a + 1) = decide (j ≤ a) := by rw [decide_eq_decide]; omega
                    rw [e])
                  go_wp2
                  go_roundw
                  case rel => exact ⟨q + 1, n + 1, rs ++ [(a, a)], by go_num, by go_num, by omega, by omega, by omega, HLN.out, HDR2.out, HDF2.out, HMX.out, HMN.out, HB2.out⟩
                  case measure => simp [intOf]; omega
            · have iy93 : ¬ (y : Int) = 93 := by omega
              have HMB := Lib.hid (TM.out.trans (if_pos ⟨h2, rfl, hy93⟩))
              clear TM
              by_cases hlt : y < a
              · have HNO := Lib.hid (HI2.out.falls h93 HMB.out hlt)
                have hlti : (y : Int) < (a : Int) := by omega
                go_wp2_with (refine wpList_put rfl 103 _ _ rfl w.heap.size [.int .u64 0, .int .u64 0, .int .u64 0, .int .u64 0, .bool false] rfl rfl HDR1.out (by kernel_rfl) (by simp [Value.oneCell']) ?_; intro y1 hp; obtain ⟨t0, t1, t2, t3, t4⟩ := hp.at_.cells5)
                exact bodyPost_ret (v := .tuple #[.agg #[.int .u64 ((0 : Nat) : Int), .int .u64 ((0 : Nat) : Int), .int .u64 ((0 : Nat) : Int), .int .u64 ((0 : Nat) : Int), .bool false], .int .i64 ((0 : Nat) : Int), .bool false]) (by simp [results, Tryz.results59, go_sem, t0, t1, t2, t3, t4]) rfl ⟨0, 0, 0, 0, 0, false, rfl, ClsI.no HNO.out 0 0 0 0 _, (fun e => by cases e), ⟨by decide, by decide, by decide, by decide⟩, hp.below (Nat.le_refl _) HB1.out⟩
              · have hlti : ¬ (y : Int) < (a : Int) := by omega
                have HMN := Lib.hid (HI2.out.next h93 HMB.out hlt)
                have HLN := Lib.hid (show (rs ++ [(a, y)]).length = n + 1 by rw [List.length_append, HL.out]; rfl)
                have HM0 := Lib.hid (show Marks wd (w.heap.size + 1) (fun j => ndIn rs j || (decide (a ≤ j) && decide (j < a))) from by
                  have h := HM1.out
                  intro j hj
                  rw [h j hj]
                  have e : (decide (a ≤ j) && decide (j < a)) = false := by rw [← Bool.decide_and]; exact decide_eq_false (by omega)
                  show _ = some (Value.bool (ndIn rs j || (decide (a ≤ j) && decide (j < a))))
                  rw [e, Bool.or_false])
                go_wp2
                go_loopw [12] (fun bv wx => ∃ (b : Nat), bv = .int .i64 (b : Nat) ∧ a ≤ b ∧ b ≤ y + 1 ∧ Hid (DVar wx w.heap.size 5) ∧ Hid (DVar wx (w.heap.size + 1) 256) ∧ Hid (Marks wx (w.heap.size + 1) (fun j => ndIn rs j || (decide (a ≤ j) && decide (j < b)))) ∧ Hid (Below w.heap.size w wx)) (fun bv _ => y + 1 - (intOf bv).toNat)
                case atStart => exact ⟨a, rfl, Nat.le_refl _, by omega, HDR1.out, HDF1.out, HM0.out, HB1.out⟩
                case round =>
                  obtain ⟨b, rfl, hb1, hb2, HDR2, HDF2, HM2, HB2⟩ := hrel
                  by_cases hbh : b ≤ y
                  · have kb : wr.cell? ⟨w.heap.size + 1, b, none⟩ = some (.bool (ndIn rs b || (decide (a ≤ b) && decide (b < b)))) := HM2.out b (by omega)
                    have fb := HDF2.out.f b (by omega)
                    have HMX := Lib.hid (HM2.out.set (b := b) (h := fun j => ndIn rs j || (decide (a ≤ j) && decide (j < b + 1))) (by omega) (fun j _ => by
                      by_cases e : j = b
                      · subst e
                        rw [if_pos rfl, decide_eq_true hb1, decide_eq_true (Nat.lt_succ_self _)]
                        simp
                      · rw [if_neg e]
                        congr 2
                        rw [decide_eq_decide]; omega))
                    obtain ⟨xb, hxb⟩ : ∃ x, (ndIn rs b || (decide (a ≤ b) && decide (b < b))) = x := ⟨_, rfl⟩
                    rw [hxb] at kb
                    clear hxb
                    go_wp2
                    go_roundw
                    case rel => exact ⟨b + 1, by go_num, by omega, by omega, HDR2.out.set _, HDF2.out.set _, HMX.out, HB2.out.setCell (p := ⟨_, _, _⟩) (by simp) _⟩
                    case measure => simp [intOf]; omega
                  · obtain rfl : b = y + 1 := by omega
                    have HMX := Lib.hid (show Marks _ (w.heap.size + 1) (ndIn (rs ++ [(a, y)])) from fun j hj => by
                      rw [HM2.out j hj, ndIn_snoc]
                      show some (Value.bool (ndIn rs j || (decide (a ≤ j) && decide (j < y + 1)))) = some (Value.bool (ndIn rs j || (decide (a ≤ j) && decide (j ≤ y))))
                      have e : decide (j < y + 1) = decide (j ≤ y) := by rw [decide_eq_decide]; omega
                      rw [e])
                    go_wp2
                    go_roundw
                    case rel => exact ⟨q + 3, n + 1, rs ++ [(a, y)], by go_num, by go_num, by omega, by omega, by omega, HLN.out, HDR2.out, HDF2.out, HMX.out, HMN.out, HB2.out⟩
                    case measure => simp [intOf]; omega
          · have ix45 : ¬ (x : Int) = 45 := by omega
            have HMB := Lib.hid (TM.out.trans (if_neg (fun e => hx45 e.2.1)))
            clear TM
            have HMN := Lib.hid (HI2.out.next h93 HMB.out (Nat.lt_irrefl a))
            have HLN := Lib.hid (show (rs ++ [(a, a)]).length = n + 1 by rw [List.length_append, HL.out]; rfl)
            have HM0 := Lib.hid (show Marks wd (w.heap.size + 1) (fun j => ndIn rs j || (decide (a ≤ j) && decide (j < a))) from by
              have h := HM1.out
              intro j hj
              rw [h j hj]
              have e : (decide (a ≤ j) && decide (j < a)) = false := by rw [← Bool.decide_and]; exact decide_eq_false (by omega)
              show _ = some (Value.bool (ndIn rs j || (decide (a ≤ j) && decide (j < a))))
              rw [e, Bool.or_false])
            go_wp2
            go_loopw [12] (fun bv wx => ∃ (b : Nat), bv = .int .i64 (b : Nat) ∧ a ≤ b ∧ b ≤ a + 1 ∧ Hid (DVar wx w.heap.size 5) ∧ Hid (DVar wx (w.heap.size + 1) 256) ∧ Hid (Marks wx (w.heap.size + 1) (fun j => ndIn rs j || (decide (a ≤ j) && decide (j < b)))) ∧ Hid (Below w.heap.size w wx)) (fun bv _ => a + 1 - (intOf bv).toNat)
            case atStart => exact ⟨a, rfl, Nat.le_refl _, by omega, HDR1.out, HDF1.out, HM0.out, HB1.out⟩
            case round =>
              obtain ⟨b, rfl, hb1, hb2, HDR2, HDF2, HM2, HB2⟩ := hrel
              by_cases hbh : b ≤ a
              · have kb : wr.cell? ⟨w.heap.size + 1, b, none⟩ = some (.bool (ndIn rs b || (decide (a ≤ b) && decide (b < b)))) := HM2.out b (by omega)
                have fb := HDF2.out.f b (by omega)
                have HMX := Lib.hid (HM2.out.set (b := b) (h := fun j => ndIn rs j || (decide (a ≤ j) && decide (j < b + 1))) (by omega) (fun j _ => by
                  by_cases e : j = b
                  · subst e
                    rw [if_pos rfl, decide_eq_true hb1, decide_eq_true (Nat.lt_succ_self _)]
                    simp
                  · rw [if_neg e]
                    congr 2
                    rw [decide_eq_decide]; omega))
                obtain ⟨xb, hxb⟩ : ∃ x, (ndIn rs b || (decide (a ≤ b) && decide (b < b))) = x := ⟨_, rfl⟩
                rw [hxb] at kb
                clear hxb
                go_wp2
                go_roundw
                case rel => exact ⟨b + 1, by go_num, by omega, by omega, HDR2.out.set _, HDF2.out.set _, HMX.out, HB2.out.setCell (p := ⟨_, _, _⟩) (by simp) _⟩
                case measure => simp [intOf]; omega
              · obtain rfl : b = a + 1 := by omega
                have HMX := Lib.hid (show Marks _ (w.heap.size + 1) (ndIn (rs ++ [(a, a)])) from fun j hj => by
                  rw [HM2.out j hj, ndIn_snoc]
                  show some (Value.bool (ndIn rs j || (decide (a ≤ j) && decide (j < a + 1)))) = some (Value.bool (ndIn rs j || (decide (a ≤ j) && decide (j ≤ a))))
                  have e : decide (j < a + 1) = decide (j ≤ a) := by rw [decide_eq_decide]; omega
                  rw [e])
                go_wp2
                go_roundw
                case rel => exact ⟨q + 1, n + 1, rs ++ [(a, a)], by go_num, by go_num, by omega, by omega, by omega, HLN.out, HDR2.out, HDF2.out, HMX.out, HMN.out, HB2.out⟩
                case measure => simp [intOf]; omega
        · have HMB := Lib.hid (TM.out.trans (if_neg (fun e => h2 e.1)))
          have i2 : ¬ (q : Int) < (p.size : Int) - 2 := by omega
          clear TM
          have HMN := Lib.hid (HI2.out.next h93 HMB.out (Nat.lt_irrefl a))
          have HLN := Lib.hid (show (rs ++ [(a, a)]).length = n + 1 by rw [List.length_append, HL.out]; rfl)
          have HM0 := Lib.hid (show Marks wd (w.heap.size + 1) (fun j => ndIn rs j || (decide (a ≤ j) && decide (j < a))) from by
            have h := HM1.out
            intro j hj
            rw [h j hj]
            have e : (decide (a ≤ j) && decide (j < a)) = false := by rw [← Bool.decide_and]; exact decide_eq_false (by omega)
            show _ = some (Value.bool (ndIn rs j || (decide (a ≤ j) && decide (j < a))))
            rw [e, Bool.or_false])
          go_wp2
          go_loopw [12] (fun bv wx => ∃ (b : Nat), bv = .int .i64 (b : Nat) ∧ a ≤ b ∧ b ≤ a + 1 ∧ Hid (DVar wx w.heap.size 5) ∧ Hid (DVar wx (w.heap.size + 1) 256) ∧ Hid (Marks wx (w.heap.size + 1) (fun j => ndIn rs j || (decide (a ≤ j) && decide (j < b)))) ∧ Hid (Below w.heap.size w wx)) (fun bv _ => a + 1 - (intOf bv).toNat)
          case atStart => exact ⟨a, rfl, Nat.le_refl _, by omega, HDR1.out, HDF1.out, HM0.out, HB1.out⟩
          case round =>
            obtain ⟨b, rfl, hb1, hb2, HDR2, HDF2, HM2, HB2⟩ := hrel
            by_cases hbh : b ≤ a
            · have kb : wr.cell? ⟨w.heap.size + 1, b, none⟩ = some (.bool (ndIn rs b || (decide (a ≤ b) && decide (b < b)))) := HM2.out b (by omega)
              have fb := HDF2.out.f b (by omega)
              have HMX := Lib.hid (HM2.out.set (b := b) (h := fun j => ndIn rs j || (decide (a ≤ j) && decide (j < b + 1))) (by omega) (fun j _ => by
                by_cases e : j = b
                · subst e
                  rw [if_pos rfl, decide_eq_true hb1, decide_eq_true (Nat.lt_succ_self _)]
                  simp
                · rw [if_neg e]
                  congr 2
                  rw [decide_eq_decide]; omega))
              obtain ⟨xb, hxb⟩ : ∃ x, (ndIn rs b || (decide (a ≤ b) && decide (b < b))) = x := ⟨_, rfl⟩
              rw [hxb] at kb
              clear hxb
              go_wp2
              go_roundw
              case rel => exact ⟨b + 1, by go_num, by omega, by omega, HDR2.out.set _, HDF2.out.set _, HMX.out, HB2.out.setCell (p := ⟨_, _, _⟩) (by simp) _⟩
              case measure => simp [intOf]; omega
            · obtain rfl : b = a + 1 := by omega
              have HMX := Lib.hid (show Marks _ (w.heap.size + 1) (ndIn (rs ++ [(a, a)])) from fun j hj => by
                rw [HM2.out j hj, ndIn_snoc]
                show some (Value.bool (ndIn rs j || (decide (a ≤ j) && decide (j < a + 1)))) = some (Value.bool (ndIn rs j || (decide (a ≤ j) && decide (j ≤ a))))
                have e : decide (j < a + 1) = decide (j ≤ a) := by rw [decide_eq_decide]; omega
                rw [e])
              go_wp2
              go_roundw
              case rel => exact ⟨q + 1, n + 1, rs ++ [(a, a)], by go_num, by go_num, by omega, by omega, by omega, HLN.out, HDR2.out, HDF2.out, HMX.out, HMN.out, HB2.out⟩
              case measure => simp [intOf]; omega
    · obtain rfl : q = p.size := by omega
      have hi0 := HI.out
      rw [drop_end] at hi0
      have HNO := Lib.hid (MemI.none_ hi0)
      clear hi0 hqs
      go_wp2_with (refine wpList_put rfl 103 _ _ rfl w.heap.size [.int .u64 0, .int .u64 0, .int .u64 0, .int .u64 0, .bool false] rfl rfl HDR.out (by kernel_rfl) (by simp [Value.oneCell']) ?_; intro y1 hp; obtain ⟨t0, t1, t2, t3, t4⟩ := hp.at_.cells5)
      exact bodyPost_ret (v := .tuple #[.agg #[.int .u64 ((0 : Nat) : Int), .int .u64 ((0 : Nat) : Int), .int .u64 ((0 : Nat) : Int), .int .u64 ((0 : Nat) : Int), .bool false], .int .i64 ((0 : Nat) : Int), .bool false]) (by simp [results, Tryz.results59, go_sem, t0, t1, t2, t3, t4]) rfl ⟨0, 0, 0, 0, 0, false, rfl, ClsI.no HNO.out 0 0 0 0 _, (fun e => by cases e), ⟨by decide, by decide, by decide, by decide⟩, hp.below (Nat.le_refl _) HB.out⟩
set_option maxRecDepth 100000 in
set_option maxHeartbeats 8000000 in
theorem class_e (p : ByteArray) (k : Nat) (hk : k ≤ p.size) (hp : p.size ≤ 1000) (hks : ¬ k < p.size) (w : World) :
    Calls Tryz.prog 59 #[.string p, .int .i64 (k : Nat)] w fun e w' => ∃ (a0 a1 a2 a3 k2 : Nat) (ok : Bool), e = .returned (.tuple #[.agg #[.int .u64 (a0 : Nat), .int .u64 (a1 : Nat), .int .u64 (a2 : Nat), .int .u64 (a3 : Nat), .bool false], .int .i64 (k2 : Nat), .bool ok]) ∧
      ClsI ((bs p).drop k) a0 a1 a2 a3 ((bs p).drop k2) ok ∧ (ok = true → k2 ≤ p.size) ∧ (a0 < 18446744073709551616 ∧ a1 < 18446744073709551616 ∧ a2 < 18446744073709551616 ∧ a3 < 18446744073709551616) ∧ Below w.heap.size w w' := by
  obtain ⟨zs, hz, hz1, hz2, hz3⟩ := zero256
  have HZ1 := Lib.hid hz1; have HZ3 := Lib.hid hz3
  clear hz1 hz3
  have hks2 : k = p.size := by omega
  have hcb : cutB 94 ((bs p).drop k) = (bs p).drop k := by rw [hks2, drop_end]; rfl
  clear hks2
  go_enter Tryz.func59, Tryz.ntmps59
  have HCB := Lib.hid hcb
  clear hcb
  go_wp2
  go_loopw [1, 9, 10, 11, 12] (fun av nv _ _ _ wr => ∃ (q n : Nat) (rs : List (Nat × Nat)), av = .int .i64 (q : Nat) ∧ nv = .int .i64 (n : Nat) ∧ q ≤ p.size ∧ n ≤ q ∧ k ≤ q ∧ Hid (rs.length = n) ∧ Hid (DVar wr w.heap.size 5) ∧ Hid (DVar wr (w.heap.size + 1) 256) ∧ Hid (Marks wr (w.heap.size + 1) (ndIn rs)) ∧ Hid (MemI (cutB 94 ((bs p).drop k)) ((bs p).drop q) rs) ∧ Hid (Below w.heap.size w wr)) (fun av _ _ _ _ _ => p.size - (intOf av).toNat)
  case atStart => exact ⟨k, 0, [], by go_num, rfl, by omega, Nat.zero_le _, by omega, rfl, (DVar.alloc _ _).below (alloc_below _ _), (by have h := dvar_second w (.cells #[.int .u64 0, .int .u64 0, .int .u64 0, .int .u64 0, .bool false] 103) zs 132; rw [HZ1.out] at h; exact h), (by have h := Marks.first (w := w.alloc (.cells #[.int .u64 0, .int .u64 0, .int .u64 0, .int .u64 0, .bool false] 103)) (t := 132) HZ3.out; rw [show (w.alloc (.cells #[.int .u64 0, .int .u64 0, .int .u64 0, .int .u64 0, .bool false] 103)).heap.size = w.heap.size + 1 by simp] at h; exact h), by rw [HCB.out]; exact MemI.start _, alloc2_below _ _ _⟩
  case round =>
    obtain ⟨q, n, rs, rfl, rfl, hq, hn, hkq, HL, HDR, HDF, HM, HI, HB⟩ := hrel
    obtain ⟨wo, rfl⟩ : ∃ wo : World, wo = wr := ⟨_, rfl⟩
    by_cases hqs : q < p.size
    · exact absurd hqs (by omega)
    · obtain rfl : q = p.size := by omega
      have hi0 := HI.out
      rw [drop_end] at hi0
      have HNO := Lib.hid (MemI.none_ hi0)
      clear hi0 hqs
      go_wp2_with (refine wpList_put rfl 103 _ _ rfl w.heap.size [.int .u64 0, .int .u64 0, .int .u64 0, .int .u64 0, .bool false] rfl rfl HDR.out (by kernel_rfl) (by simp [Value.oneCell']) ?_; intro y1 hp; obtain ⟨t0, t1, t2, t3, t4⟩ := hp.at_.cells5)
      exact bodyPost_ret (v := .tuple #[.agg #[.int .u64 ((0 : Nat) : Int), .int .u64 ((0 : Nat) : Int), .int .u64 ((0 : Nat) : Int), .int .u64 ((0 : Nat) : Int), .bool false], .int .i64 ((0 : Nat) : Int), .bool false]) (by simp [results, Tryz.results59, go_sem, t0, t1, t2, t3, t4]) rfl ⟨0, 0, 0, 0, 0, false, rfl, ClsI.no HNO.out 0 0 0 0 _, (fun e => by cases e), ⟨by decide, by decide, by decide, by decide⟩, hp.below (Nat.le_refl _) HB.out⟩
end Go.Proofs.YtodlgbihdehmbaaGreatDoor.Nd.NR
/-
  Contracts of the document's own functions of layer 9: class.
-/
set_option linter.unusedSimpArgs false
set_option linter.unusedVariables false
namespace Go.Proofs.YtodlgbihdehmbaaGreatDoor.Nd.NR
open Go.RowKit
theorem class_c (p : ByteArray) (k : Nat) (hk : k ≤ p.size) (hp : p.size ≤ 1000) (w : World) :
    Calls Tryz.prog 59 #[.string p, .int .i64 (k : Nat)] w fun e w' => ∃ (a0 a1 a2 a3 k2 : Nat) (ok : Bool), e = .returned (.tuple #[.agg #[.int .u64 (a0 : Nat), .int .u64 (a1 : Nat), .int .u64 (a2 : Nat), .int .u64 (a3 : Nat), .bool false], .int .i64 (k2 : Nat), .bool ok]) ∧
      ClsI ((bs p).drop k) a0 a1 a2 a3 ((bs p).drop k2) ok ∧ (ok = true → k2 ≤ p.size) ∧ (a0 < 18446744073709551616 ∧ a1 < 18446744073709551616 ∧ a2 < 18446744073709551616 ∧ a3 < 18446744073709551616) ∧ Below w.heap.size w w' := by
  by_cases hks : k < p.size
  · obtain ⟨c, hd, e0, hc⟩ := bs_at hks
    by_cases h94 : c = 94
    · subst h94
      exact class_y p k hk hp hks hd e0 w
    · exact class_n p k hk hp hks c h94 hd e0 w
  · exact class_e p k hk hp hks w
end Go.Proofs.YtodlgbihdehmbaaGreatDoor.Nd.NR
/-
  Contracts of the document's own functions of layer 9: Compile, what its walk wants.
-/
set_option linter.unusedSimpArgs false
set_option linter.unusedVariables false
namespace Go.Proofs.YtodlgbihdehmbaaGreatDoor.Nd.NR
open Go.RowKit
theorem own_slice {B : Nat} {w : World} {e : TypeId} {sz n : Nat} {v : Value} {us : List Value} (h : w.ownsRow B e sz v n us) : ∃ A c, v = .slice A n c := by
  rcases h.2 with ⟨rfl, h0⟩ | ⟨g, cap, cur, rfl, _⟩
  · exact ⟨none, 0, by rw [h0]⟩
  · exact ⟨_, cap, rfl⟩
theorem ownsRow_next {B : Nat} {w w' : World} {e : TypeId} {sz n : Nat} {v : Value} {us : List Value} (h : w.ownsRow B e sz v n us) (hb : Below w.heap.size w w') : w'.ownsRow B e sz v n us := by
  refine ⟨h.1, ?_⟩
  rcases h.2 with ⟨rfl, h0⟩ | ⟨g, cap, cur, rfl, hg, hh, hr⟩
  · exact Or.inl ⟨rfl, h0⟩
  · exact Or.inr ⟨g, cap, cur, rfl, hg, (hb.block g (Array.getElem?_eq_some_iff.1 hh).1).trans hh, hr⟩
theorem dvar_low {B b n : Nat} {w w' : World} (hb : Below B w w') (hlt : b < B) (h : DVar w b n) : DVar w' b n :=
  ⟨Nat.lt_of_lt_of_le h.lt hb.size, fun i hi => by obtain ⟨u, hu⟩ := h.c i hi; exact ⟨u, (hb.cell (p := ⟨b, i, none⟩) hlt).trans hu⟩, fun i hi => (hb.frozen (p := ⟨b, i, none⟩) hlt).trans (h.f i hi)⟩
theorem cell_low {B b o : Nat} {w w' : World} {u : Value} (hb : Below B w w') (hlt : b < B) (h : w.cell? ⟨b, o, none⟩ = some u) : w'.cell? ⟨b, o, none⟩ = some u := (hb.cell (p := ⟨b, o, none⟩) hlt).trans h
theorem itm_none {l : List Nat} {a : Nat} {m : List Nat} {L : List NI} (h : ItmI l (a :: m) L) (hm : ¬ (a = 36 ∧ m = [])) (hn : ndAt (a :: m) = none) : ndItems (l.length + 1) l = none :=
  ItmI.fail (i := NI.zero) (r := []) h hm (by unfold ItI; rw [hn])
theorem set_one (b : Nat) : NI.set (ndOne b).s0 (ndOne b).s1 (ndOne b).s2 (ndOne b).s3 = ndOne b := rfl
theorem one_lt {b : Nat} (hb : b < 256) : (ndOne b).s0 < 18446744073709551616 ∧ (ndOne b).s1 < 18446744073709551616 ∧ (ndOne b).s2 < 18446744073709551616 ∧ (ndOne b).s3 < 18446744073709551616 := by
  have h : 2 ^ (b % 64) ≤ 2 ^ 63 := Nat.pow_le_pow_right (by decide) (by omega)
  unfold ndOne
  generalize 2 ^ (b % 64) = x at *
  refine ⟨?_, ?_, ?_, ?_⟩ <;> (show ite _ _ _ < _) <;> split <;> omega
theorem cls_at {l r : List Nat} {a0 a1 a2 a3 : Nat} (h : ClsI l a0 a1 a2 a3 r true) : ndAt (91 :: l) = some (NI.set a0 a1 a2 a3, r) := by
  rw [ndAt_cls]
  unfold ClsI at h
  cases hc : ndClass l with
  | none => rw [hc] at h; have h2 : true = false := h; cases h2
  | some x =>
    obtain ⟨i, r'⟩ := x
    rw [hc] at h
    obtain ⟨_, h2, h3⟩ := h
    rw [h2, h3]
theorem cls_no {l r : List Nat} {a0 a1 a2 a3 : Nat} (h : ClsI l a0 a1 a2 a3 r false) : ndAt (91 :: l) = none := by
  rw [ndAt_cls]
  unfold ClsI at h
  cases hc : ndClass l with
  | none => rfl
  | some x =>
    obtain ⟨i, r'⟩ := x
    rw [hc] at h
    exact absurd h.1 (by decide)
/-- What Compile's loop keeps. -/
structure CmpI (w : World) (p : ByteArray) (q n : Nat) (vr : Value) (L : List NI) (wr : World) : Prop where
  new : ItNew (w.heap.size + 2) wr vr L
  len : L.length = n
  itm : ItmI (cutB 94 (bs p)) ((bs p).drop q) L
  ok : ∀ i ∈ L, i.ok
  d0 : DVar wr w.heap.size 3
  d1 : DVar wr (w.heap.size + 1) 3
  low : Below w.heap.size w wr
  size : w.heap.size + 2 ≤ wr.heap.size
theorem item_star {l : List Nat} {a0 a1 a2 a3 : Nat} {r : List Nat} (h : ndAt l = some (NI.set a0 a1 a2 a3, r)) {st : Bool} (hs : (r.getD 0 0 == 42) = st) {r2 : List Nat} (hr : cutB 42 r = r2) : ItI l ⟨a0, a1, a2, a3, st⟩ r2 true := by
  unfold ItI
  rw [h]
  exact ⟨rfl, by rw [hs]; rfl, hr.symm⟩
/-- Behind an item that is put onto the row. -/
theorem CmpI.next {w : World} {p : ByteArray} {q n q3 : Nat} {vr v3 : Value} {L : List NI} {wo w3 : World} {a : Nat} {i : NI} (h : CmpI w p q n vr L wo) (hd : (bs p).drop q = a :: (bs p).drop (q + 1)) (hi : ItI (a :: (bs p).drop (q + 1)) i ((bs p).drop q3) true) (hio : i.ok)
    (hown : w3.ownsRow (w.heap.size + 2) 103 5 v3 (n + 1) (itsC L ++ itC i)) {b : Nat} (hb : Below (w.heap.size + 2) wo w3) {u : Value} : CmpI w p q3 (n + 1) v3 (L ++ [i]) (w3.setCell ⟨w.heap.size + 1, b, none⟩ u) := by
  have hm := h.itm
  rw [hd] at hm
  have hown2 : ItNew (w.heap.size + 2) w3 v3 (L ++ [i]) := ItNew.push (by rw [h.len]; exact hown)
  refine ⟨hown2.kept (grown_set1 w3 (w.heap.size + 1) b u) (by omega), by rw [List.length_append, h.len]; rfl, (ItmI.next hm hi).1, fun x hx => ?_, (dvar_low hb (by omega) h.d0).set u, (dvar_low hb (by omega) h.d1).set u, (h.low.trans (hb.mono (by omega))).setCell (p := ⟨_, _, _⟩) (by simp) u, ?_⟩
  · rcases List.mem_append.1 hx with hx | hx
    · exact h.ok x hx
    · obtain rfl := List.mem_singleton.1 hx
      exact hio
  · have := hb.size
    have := h.size
    simp
    omega
end Go.Proofs.YtodlgbihdehmbaaGreatDoor.Nd.NR
/-
  Contracts of the document's own functions of layer 9: Compile, ^ first.
-/
set_option linter.unusedSimpArgs false
set_option linter.unusedVariables false
namespace Go.Proofs.YtodlgbihdehmbaaGreatDoor.Nd.NR
open Go.RowKit
set_option maxRecDepth 100000 in
set_option maxHeartbeats 8000000 in
theorem comp_y (p : ByteArray) (hl : ¬ 64 < p.size) (h0 : 0 < p.size) (hcb : cutB 94 (bs p) = (bs p).drop 1) (hst : ((bs p).getD 0 0 == 94) = true) (e0 : (p[0]'h0).toNat = 94) (w : World) :
    Calls Tryz.prog 30 #[.string p] w fun e w' => ∃ v, e = .returned (.tuple #[v, .int .i64 (ndComp (bs p)).2]) ∧ NnOut w' v (ndComp (bs p)).1 ∧ (ndComp (bs p)).1.ok ∧ (ndComp (bs p)).1.items.length ≤ 64 ∧ Below w.heap.size w w' := by
  obtain ⟨N, E, hN⟩ : ∃ N E, ndComp (bs p) = (N, E) := ⟨_, _, rfl⟩
  have hl2 : ¬ 64 < (bs p).length := by rw [bs_length]; exact hl
  have HNO0 := Lib.hid (fun (hno : ndItems ((cutB 94 (bs p)).length + 1) (cutB 94 (bs p)) = none) (w' : World) (hb : Below w.heap.size w w') => show ∃ v, Ending.returned (.tuple #[.agg #[.bool false, .bool false, .slice none 0 0], .int .i64 10]) = .returned (.tuple #[v, .int .i64 E]) ∧ NnOut w' v N ∧ N.ok ∧ N.items.length ≤ 64 ∧ Below w.heap.size w w' from by
    have hc := ndComp_no hl2 hno
    rw [hN] at hc
    injection hc with hc1 hc2
    subst hc1 hc2
    exact ⟨_, rfl, ⟨_, rfl, ItOut.nil _⟩, (fun i h => by cases h), Nat.zero_le _, hb⟩)
  have HN := Lib.hid hN; have HL := Lib.hid hl2
  rw [hN]
  obtain ⟨i0, hi0, hz0, hzz1, hzz2⟩ := info_parts items_info
  clear hN hl2
  have H0 := Lib.hid (show CmpI w p (1) 0 (.slice none 0 0) [] ((w.alloc (.cells #[.bool false, .bool false, .slice none 0 0] 67)).alloc (.cells #[.bool true, .bool false, .slice none 0 0] 67)) from ⟨ItNew.nil _ _, rfl, by rw [hcb]; exact ItmI.start _, (fun i h => by cases h), dvar_first _ _ _ _, dvar_second _ _ _ _, alloc2_below _ _ _, by simp⟩)
  have HST := Lib.hid (show ((bs p).getD 0 0 == 94) = true from hst)
  have HCB := Lib.hid hcb
  clear hcb hst
  go_enter Tryz.func30, Tryz.ntmps30
  go_wp2
  go_loopw [5, 6, 7, 8, 9] (fun av _ _ _ _ wr => ∃ (q n : Nat) (vr : Value) (L : List NI), av = .int .i64 (q : Nat) ∧ q ≤ p.size ∧ n ≤ q ∧ 1 ≤ q ∧ wr.cell? ⟨w.heap.size + 1, 0, none⟩ = some (.bool true) ∧ wr.cell? ⟨w.heap.size + 1, 1, none⟩ = some (.bool false) ∧ wr.cell? ⟨w.heap.size + 1, 2, none⟩ = some vr ∧ Hid (CmpI w p q n vr L wr)) (fun av _ _ _ _ _ => p.size - (intOf av).toNat)
  case atStart => exact ⟨1, 0, _, [], by go_num, by omega, by omega, Nat.le_refl _, by go_simp, by go_simp, by go_simp, H0.out⟩
  case round =>
    obtain ⟨q, n, vr, L, rfl, hq, hn, hq0, c0, c1, c2, HI⟩ := hrel
    obtain ⟨wo, rfl⟩ : ∃ wo : World, wo = wr := ⟨_, rfl⟩
    obtain ⟨AL, cl, hvr, hcl, _⟩ := HI.out.new.out
    subst hvr
    rw [HI.out.len] at c2 hcl HI
    by_cases hqs : q < p.size
    · obtain ⟨a, hd, e0, ha⟩ := bs_at hqs
      have HD := Lib.hid hd
      have hi0 := HI.out.itm
      rw [hd] at hi0
      have HM := Lib.hid hi0
      have hqi : (q : Int) < (p.size : Int) := by omega
      clear hd hi0
      by_cases h36 : a = 36
      · subst h36
        by_cases hqe : q + 1 = p.size
        · have hc := ndComp_yes HL.out (ItmI.dollar (show ItmI (cutB 94 (bs p)) [36] L by have h := HM.out; rw [show (bs p).drop (q + 1) = [] from List.drop_eq_nil_of_le (by rw [bs_length]; omega)] at h; exact h))
          rw [HN.out, HST.out] at hc
          injection hc with hc1 hc2
          subst hc1 hc2
          have hqi2 : ((q : Int) == (p.size : Int) - 1) = true := beq_iff_eq.2 (by omega)
          have f1 := HI.out.d1.f 1 (by decide)
          have hb0 := alloc_below (wo.setCell ⟨w.heap.size + 1, 1, none⟩ (.bool true)) (.cells #[.int .u64 0, .int .u64 0, .int .u64 0, .int .u64 0, .bool false] 103)
          have HD2 := Lib.hid ((HI.out.d0.set (b' := w.heap.size + 1) (o := 1) (.bool true)).below hb0)
          have HB2 := Lib.hid (bnext (HI.out.low.setCell (p := ⟨w.heap.size + 1, 1, none⟩) (by simp) (.bool true)) hb0)
          have HI2 := Lib.hid ((HI.out.new.kept (grown_set1 _ (w.heap.size + 1) 1 (.bool true)) (by omega)).below hb0)
          have HLN := Lib.hid (show L.length ≤ 64 by rw [HI.out.len]; omega)
          have z1 : w.heap.size + 1 < wo.heap.size := HI.out.size
          have HQE := Lib.hid hqe
          clear hb0 hqe
          go_wp2_with (refine wpList_put rfl 67 _ _ rfl w.heap.size [.bool true, .bool true, .slice AL n cl] rfl rfl HD2.out (by kernel_rfl) (by simp [Value.oneCell']) ?_; intro y9 hq9; obtain ⟨s0, s1, s2⟩ := hq9.at_.three)
          exact bodyPost_ret (v := .tuple #[.agg #[.bool true, .bool true, .slice AL n cl], .int .i64 0]) (by simp [results, Tryz.results30, go_sem, s0, s1, s2]) rfl ⟨_, rfl, ⟨_, rfl, (HI2.out.kept hq9.grown (by omega)).out⟩, HI.out.ok, HLN.out, hq9.below (Nat.le_refl _) HB2.out⟩
        · have hqi2 : ¬ (q : Int) = (p.size : Int) - 1 := by omega
          have HNO := Lib.hid (HNO0.out (itm_none HM.out (fun e => by have h := congrArg List.length e.2; rw [List.length_drop, bs_length] at h; simp at h; omega) (ndAt_none (by omega))))
          have hb0 := alloc_below wo (.cells #[.int .u64 0, .int .u64 0, .int .u64 0, .int .u64 0, .bool false] 103)
          have HD2 := Lib.hid (HI.out.d0.below hb0); have HB2 := Lib.hid (bnext HI.out.low hb0)
          clear hb0
          go_wp2_with (refine wpList_put rfl 67 _ _ rfl w.heap.size [.bool false, .bool false, .slice none 0 0] rfl rfl HD2.out (by kernel_rfl) (by simp [Value.oneCell']) ?_; intro y9 hq9; obtain ⟨s0, s1, s2⟩ := hq9.at_.three)
          exact bodyPost_ret (v := .tuple #[.agg #[.bool false, .bool false, .slice none 0 0], .int .i64 10]) (by simp [results, Tryz.results30, go_sem, s0, s1, s2]) rfl (HNO.out _ (hq9.below (Nat.le_refl _) HB2.out))
      · have i36 : ¬ (a : Int) = 36 := by omega
        have i36b : ((a : Int) == 36) = false := beq_false_of_ne i36
        go_upto_block 2 with fail
        have hv0 := DVar.alloc (w := wo) #[.int .u64 0, .int .u64 0, .int .u64 0, .int .u64 0, .bool false] 103
        have hk0 : (wo.alloc (.cells #[.int .u64 0, .int .u64 0, .int .u64 0, .int .u64 0, .bool false] 103)).cell? ⟨wo.heap.size, 4, none⟩ = some (.bool false) := by simp
        have hb0 := alloc_below wo (.cells #[.int .u64 0, .int .u64 0, .int .u64 0, .int .u64 0, .bool false] 103)
        generalize wo.alloc (.cells #[.int .u64 0, .int .u64 0, .int .u64 0, .int .u64 0, .bool false] 103) = w1 at hv0 hk0 hb0 ⊢
        have HV := Lib.hid (show DVar w1 wo.heap.size 5 from hv0); have HB0 := Lib.hid hb0; have k4 := hk0
        have HB1 := Lib.hid (bnext HI.out.low hb0); have HD1 := Lib.hid (HI.out.d0.below hb0)
        clear hv0 hk0 hb0
        go_cut [5, 7, 8, 9] from 30 to 86 (fun av _ _ _ wx => ∃ (q2 a0 a1 a2 a3 : Nat), av = .int .i64 (q2 : Nat) ∧ q < q2 ∧ q2 ≤ p.size ∧ wx.cell? ⟨wo.heap.size, 0, none⟩ = some (.int .u64 (a0 : Nat)) ∧ wx.cell? ⟨wo.heap.size, 1, none⟩ = some (.int .u64 (a1 : Nat)) ∧ wx.cell? ⟨wo.heap.size, 2, none⟩ = some (.int .u64 (a2 : Nat)) ∧ wx.cell? ⟨wo.heap.size, 3, none⟩ = some (.int .u64 (a3 : Nat)) ∧ wx.cell? ⟨wo.heap.size, 4, none⟩ = some (.bool false) ∧ Hid (DVar wx wo.heap.size 5) ∧ Hid (Below wo.heap.size wo wx) ∧ Hid (ndAt ((bs p).drop q) = some (NI.set a0 a1 a2 a3, (bs p).drop q2)) ∧ Hid (a0 < 18446744073709551616 ∧ a1 < 18446744073709551616 ∧ a2 < 18446744073709551616 ∧ a3 < 18446744073709551616))
        case first =>
          by_cases h94 : a = 94
          · subst h94
            have HNO := Lib.hid (HNO0.out (itm_none HM.out (fun e => by omega) (ndAt_none (by omega))))
            go_wp2_with (refine wpList_put rfl 67 _ _ rfl w.heap.size [.bool false, .bool false, .slice none 0 0] rfl rfl HD1.out (by kernel_rfl) (by simp [Value.oneCell']) ?_; intro y9 hq9; obtain ⟨s0, s1, s2⟩ := hq9.at_.three)
            exact bodyPost_ret (v := .tuple #[.agg #[.bool false, .bool false, .slice none 0 0], .int .i64 10]) (by simp [results, Tryz.results30, go_sem, s0, s1, s2]) rfl (HNO.out _ (hq9.below (Nat.le_refl _) HB1.out))
          · have i94 : ¬ (a : Int) = 94 := by omega
            have i94b : ((a : Int) == 94) = false := beq_false_of_ne i94
            by_cases h42 : a = 42
            · subst h42
              have HNO := Lib.hid (HNO0.out (itm_none HM.out (fun e => by omega) (ndAt_none (by omega))))
              go_wp2_with (refine wpList_put rfl 67 _ _ rfl w.heap.size [.bool false, .bool false, .slice none 0 0] rfl rfl HD1.out (by kernel_rfl) (by simp [Value.oneCell']) ?_; intro y9 hq9; obtain ⟨s0, s1, s2⟩ := hq9.at_.three)
              exact bodyPost_ret (v := .tuple #[.agg #[.bool false, .bool false, .slice none 0 0], .int .i64 10]) (by simp [results, Tryz.results30, go_sem, s0, s1, s2]) rfl (HNO.out _ (hq9.below (Nat.le_refl _) HB1.out))
            · have i42 : ¬ (a : Int) = 42 := by omega
              have i42b : ((a : Int) == 42) = false := beq_false_of_ne i42
              by_cases h93 : a = 93
              · subst h93
                have HNO := Lib.hid (HNO0.out (itm_none HM.out (fun e => by omega) (ndAt_none (by omega))))
                go_wp2_with (refine wpList_put rfl 67 _ _ rfl w.heap.size [.bool false, .bool false, .slice none 0 0] rfl rfl HD1.out (by kernel_rfl) (by simp [Value.oneCell']) ?_; intro y9 hq9; obtain ⟨s0, s1, s2⟩ := hq9.at_.three)
                exact bodyPost_ret (v := .tuple #[.agg #[.bool false, .bool false, .slice none 0 0], .int .i64 10]) (by simp [results, Tryz.results30, go_sem, s0, s1, s2]) rfl (HNO.out _ (hq9.below (Nat.le_refl _) HB1.out))
              · have i93 : ¬ (a : Int) = 93 := by omega
                have i93b : ((a : Int) == 93) = false := beq_false_of_ne i93
                by_cases h46 : a = 46
                · subst h46
                  have HAT := Lib.hid (show ndAt ((bs p).drop q) = some (NI.set 18446744073709551615 18446744073709551615 18446744073709551615 18446744073709551615, (bs p).drop (q + 1)) by rw [HD.out]; rfl)
                  have HD4 := Lib.hid (show DVar w1 wo.heap.size 4 from HV.out.mono (by decide))
                  go_wp2_with (refine wpList_put rfl 101 _ _ rfl wo.heap.size [.int .u64 ((18446744073709551615 : Nat) : Int), .int .u64 ((18446744073709551615 : Nat) : Int), .int .u64 ((18446744073709551615 : Nat) : Int), .int .u64 ((18446744073709551615 : Nat) : Int)] rfl rfl HD4.out (by kernel_rfl) (by simp [Value.oneCell']) ?_; intro y1 hp; obtain ⟨t0, t1, t2, t3⟩ := hp.at_.four)
                  have t4 := (hp.off 4 (Nat.le_refl _)).trans k4
                  have HV2 := Lib.hid (hp.vars _ _ HV.out); have HB2 := Lib.hid (hp.below (Nat.le_refl _) HB0.out)
                  go_meet
                  exact ⟨q + 1, _, _, _, _, by go_num, by omega, by omega, t0, t1, t2, t3, t4, HV2.out, HB2.out, HAT.out, ⟨by decide, by decide, by decide, by decide⟩⟩
                · have i46 : ¬ (a : Int) = 46 := by omega
                  have i46b : ((a : Int) == 46) = false := beq_false_of_ne i46
                  by_cases h92 : a = 92
                  · subst h92
                    by_cases hq1 : q + 1 < p.size
                    · obtain ⟨b, hd1, x0, hb⟩ := bs_at hq1
                      have HAT := Lib.hid (show ndAt ((bs p).drop q) = some (NI.set (ndOne b).s0 (ndOne b).s1 (ndOne b).s2 (ndOne b).s3, (bs p).drop (q + 2)) by rw [HD.out, hd1, set_one]; rfl)
                      have HLT := Lib.hid (one_lt hb)
                      have OC := Lib.hid (fun W => one_c b hb W)
                      have hne : ¬ (q : Int) = (p.size : Int) - 1 := by omega
                      clear hd1
                      go_wp2_with fail
                      refine (OC.out _).mono ?_; rintro _ w2 ⟨rfl, hb2⟩
                      have HV1 := Lib.hid (HV.out.below hb2); have HB5 := Lib.hid (bnext HB0.out hb2)
                      clear hb2
                      go_wp2_with (refine wpList_put rfl 103 _ _ rfl wo.heap.size [.int .u64 ((ndOne b).s0 : Nat), .int .u64 ((ndOne b).s1 : Nat), .int .u64 ((ndOne b).s2 : Nat), .int .u64 ((ndOne b).s3 : Nat), .bool false] rfl rfl HV1.out (by kernel_rfl) (by simp [Value.oneCell']) ?_; intro y1 hp; obtain ⟨t0, t1, t2, t3, t4⟩ := hp.at_.cells5)
                      have HV2 := Lib.hid (hp.vars _ _ HV1.out); have HB2 := Lib.hid (hp.below (Nat.le_refl _) HB5.out)
                      go_meet
                      exact ⟨q + 2, _, _, _, _, by go_num, by omega, by omega, t0, t1, t2, t3, t4, HV2.out, HB2.out, HAT.out, HLT.out⟩
                    · have hqe : (q : Int) = (p.size : Int) - 1 := by omega
                      have HNO := Lib.hid (HNO0.out (itm_none HM.out (fun e => by omega) (by rw [show (bs p).drop (q + 1) = [] from List.drop_eq_nil_of_le (by rw [bs_length]; omega)]; rfl)))
                      go_wp2_with (refine wpList_put rfl 67 _ _ rfl w.heap.size [.bool false, .bool false, .slice none 0 0] rfl rfl HD1.out (by kernel_rfl) (by simp [Value.oneCell']) ?_; intro y9 hq9; obtain ⟨s0, s1, s2⟩ := hq9.at_.three)
                      exact bodyPost_ret (v := .tuple #[.agg #[.bool false, .bool false, .slice none 0 0], .int .i64 10]) (by simp [results, Tryz.results30, go_sem, s0, s1, s2]) rfl (HNO.out _ (hq9.below (Nat.le_refl _) HB1.out))
                  · have i92 : ¬ (a : Int) = 92 := by omega
                    have i92b : ((a : Int) == 92) = false := beq_false_of_ne i92
                    by_cases h91 : a = 91
                    · subst h91
                      have CC := Lib.hid (fun W => class_c p (q + 1) (by omega) (by omega) W)
                      go_wp2_with fail
                      refine (CC.out _).mono ?_; rintro _ w2 ⟨a0, a1, a2, a3, k2, ok, rfl, hci, hk2, hlt, hb2⟩
                      have HV1 := Lib.hid (HV.out.below hb2); have HB5 := Lib.hid (bnext HB0.out hb2)
                      cases ok with
                      | false =>
                        have HNO := Lib.hid (HNO0.out (itm_none HM.out (fun e => by omega) (cls_no hci)))
                        clear hci hk2 hlt
                        go_upto_if 83 with (refine wpList_put rfl 103 _ _ rfl w2.heap.size [.int .u64 (a0 : Nat), .int .u64 (a1 : Nat), .int .u64 (a2 : Nat), .int .u64 (a3 : Nat), .bool false] rfl rfl (DVar.alloc _ _) (by kernel_rfl) (by simp [Value.oneCell']) ?_; intro y1 hp; obtain ⟨t0, t1, t2, t3, t4⟩ := hp.at_.cells5)
                        have hb3 : Below w2.heap.size w2 y1 := hp.below (Nat.le_refl _) (alloc_below _ _)
                        have HB6 := Lib.hid (bnext (bnext HB1.out hb2) hb3); have HD6 := Lib.hid ((HD1.out.below hb2).below hb3)
                        clear hp hb2 hb3 t0 t1 t2 t3 t4
                        go_wp2_with (refine wpList_put rfl 67 _ _ rfl w.heap.size [.bool false, .bool false, .slice none 0 0] rfl rfl HD6.out (by kernel_rfl) (by simp [Value.oneCell']) ?_; intro y9 hq9; obtain ⟨s0, s1, s2⟩ := hq9.at_.three)
                        exact bodyPost_ret (v := .tuple #[.agg #[.bool false, .bool false, .slice none 0 0], .int .i64 10]) (by simp [results, Tryz.results30, go_sem, s0, s1, s2]) rfl (HNO.out _ (hq9.below (Nat.le_refl _) HB6.out))
                      | true =>
                        have HLT := Lib.hid hlt
                        have hk3 := hk2 rfl
                        have HAT := Lib.hid (show ndAt ((bs p).drop q) = some (NI.set a0 a1 a2 a3, (bs p).drop k2) by rw [HD.out]; exact cls_at hci)
                        have hkq : q + 1 < k2 := by
                          have h1 := ndClass_rest (l := (bs p).drop (q + 1)) (x := (NI.set a0 a1 a2 a3, (bs p).drop k2)) (by rw [← ndAt_cls]; exact cls_at hci)
                          rw [List.length_drop, List.length_drop, bs_length] at h1
                          omega
                        clear hci hk2 hlt
                        go_upto_if 83 with (refine wpList_put rfl 103 _ _ rfl w2.heap.size [.int .u64 (a0 : Nat), .int .u64 (a1 : Nat), .int .u64 (a2 : Nat), .int .u64 (a3 : Nat), .bool false] rfl rfl (DVar.alloc _ _) (by kernel_rfl) (by simp [Value.oneCell']) ?_; intro y1 hp; obtain ⟨t0, t1, t2, t3, t4⟩ := hp.at_.cells5)
                        have hb3 : Below w2.heap.size w2 y1 := hp.below (Nat.le_refl _) (alloc_below _ _)
                        have HV6 := Lib.hid ((HV.out.below hb2).below hb3); have HB6 := Lib.hid (bnext (bnext HB0.out hb2) hb3)
                        clear hp hb2 hb3
                        go_wp2_with (refine wpList_put rfl 103 _ _ rfl wo.heap.size [.int .u64 (a0 : Nat), .int .u64 (a1 : Nat), .int .u64 (a2 : Nat), .int .u64 (a3 : Nat), .bool false] rfl rfl HV6.out (by kernel_rfl) (by simp [Value.oneCell']) ?_; intro y2 hp; obtain ⟨s0, s1, s2, s3, s4⟩ := hp.at_.cells5)
                        have HV2 := Lib.hid (hp.vars _ _ HV6.out); have HB2 := Lib.hid (hp.below (Nat.le_refl _) HB6.out)
                        go_meet
                        exact ⟨k2, _, _, _, _, by go_num, by omega, hk3, s0, s1, s2, s3, s4, HV2.out, HB2.out, HAT.out, HLT.out⟩
                    · have i91 : ¬ (a : Int) = 91 := by omega
                      have i91b : ((a : Int) == 91) = false := beq_false_of_ne i91
                      have HAT := Lib.hid (show ndAt ((bs p).drop q) = some (NI.set (ndOne a).s0 (ndOne a).s1 (ndOne a).s2 (ndOne a).s3, (bs p).drop (q + 1)) by rw [HD.out, set_one]; exact ndAt_one h46 h91 h92 h94 h36 h42 h93)
                      have HLT := Lib.hid (one_lt ha)
                      have OC := Lib.hid (fun W => one_c a ha W)
                      go_wp2_with fail
                      refine (OC.out _).mono ?_; rintro _ w2 ⟨rfl, hb2⟩
                      have HV1 := Lib.hid (HV.out.below hb2); have HB5 := Lib.hid (bnext HB0.out hb2)
                      clear hb2
                      go_wp2_with (refine wpList_put rfl 103 _ _ rfl wo.heap.size [.int .u64 ((ndOne a).s0 : Nat), .int .u64 ((ndOne a).s1 : Nat), .int .u64 ((ndOne a).s2 : Nat), .int .u64 ((ndOne a).s3 : Nat), .bool false] rfl rfl HV1.out (by kernel_rfl) (by simp [Value.oneCell']) ?_; intro y1 hp; obtain ⟨t0, t1, t2, t3, t4⟩ := hp.at_.cells5)
                      have HV2 := Lib.hid (hp.vars _ _ HV1.out); have HB2 := Lib.hid (hp.below (Nat.le_refl _) HB5.out)
                      go_meet
                      exact ⟨q + 1, _, _, _, _, by go_num, by omega, by omega, t0, t1, t2, t3, t4, HV2.out, HB2.out, HAT.out, HLT.out⟩
        case rest =>
          obtain ⟨q2, a0, a1, a2, a3, rfl, hq2, hq2s, k0, k1, k2, k3, k5, HV2, HB2, HAT, HLT⟩ := hcut
          have z1 : w.heap.size + 1 < wo.heap.size := HI.out.size
          have d0 := cell_low HB2.out z1 c0; have d1 := cell_low HB2.out z1 c1; have d2 := cell_low HB2.out z1 c2
          have HD2 := Lib.hid (dvar_low HB2.out z1 HI.out.d1)
          clear c0 c1 c2 k4 HB1 HD1 HV HB0
          by_cases hq2e : q2 < p.size
          · obtain ⟨b, hd2, x0, hbb⟩ := bs_at hq2e
            by_cases hb42 : b = 42
            · subst hb42
              have HIT := Lib.hid (item_star HAT.out (st := true) (r2 := (bs p).drop (q2 + 1)) (by rw [hd2]; rfl) (by rw [hd2]; rfl))
              rw [HD.out] at HIT
              have f4 := HV2.out.f 4 (by decide)
              clear hd2
              go_upto_region 38 with (fail)
              have g0 : (wc.setCell ⟨wo.heap.size, 4, none⟩ (.bool true)).cell? ⟨wo.heap.size, 0, none⟩ = some (.int .u64 (a0 : Nat)) := by go_simp
              have g1 : (wc.setCell ⟨wo.heap.size, 4, none⟩ (.bool true)).cell? ⟨wo.heap.size, 1, none⟩ = some (.int .u64 (a1 : Nat)) := by go_simp
              have g2 : (wc.setCell ⟨wo.heap.size, 4, none⟩ (.bool true)).cell? ⟨wo.heap.size, 2, none⟩ = some (.int .u64 (a2 : Nat)) := by go_simp
              have g3 : (wc.setCell ⟨wo.heap.size, 4, none⟩ (.bool true)).cell? ⟨wo.heap.size, 3, none⟩ = some (.int .u64 (a3 : Nat)) := by go_simp
              have g4 : (wc.setCell ⟨wo.heap.size, 4, none⟩ (.bool true)).cell? ⟨wo.heap.size, 4, none⟩ = some (.bool true) := by go_simp
              have hlo : Below wo.heap.size wc (wc.setCell ⟨wo.heap.size, 4, none⟩ (.bool true)) := (Below.refl _ wc).setCell (p := ⟨_, _, _⟩) (Nat.le_refl _) _
              have e0' := cell_low hlo z1 d0; have e1' := cell_low hlo z1 d1; have e2' := cell_low hlo z1 d2
              have HBy := Lib.hid (HB2.out.trans hlo); have HDy := Lib.hid (dvar_low hlo z1 HD2.out)
              clear k0 k1 k2 k3 k5 d0 d1 d2 f4 hlo HB2 HD2
              generalize wc.setCell ⟨wo.heap.size, 4, none⟩ (.bool true) = wy at g0 g1 g2 g3 g4 e0' e1' e2' HBy HDy ⊢
              have how := ownsRow_next HI.out.new HBy.out
              rw [HI.out.len] at how
              have HOW := Lib.hid how
              have hszy := Nat.le_trans HI.out.size HBy.out.size
              have f2 := HDy.out.f 2 (by decide)
              clear how
              go_wp2_with (at_builtin; refine wpList_append_any _ rfl (.tmp 101) (.tmp 103) _ rfl (w.heap.size + 2) 103 i0 (.agg #[.int .u64 0, .int .u64 0, .int .u64 0, .int .u64 0, .bool false]) 5 40 Tryz.underlying65 hi0 hz0 hzz1 hzz2 rfl (by decide) (.slice AL n cl) n (itsC L) rfl (World.ownsRow.alloc HOW.out _) _ (some ⟨wy.heap.size, 0, none⟩) 1 1 (itC ⟨a0, a1, a2, a3, true⟩) rfl (Reads.of_own (World.ownsRow_lit (base := 0) (e := 103) (size := 5) wy #[.int .u64 (a0 : Nat), .int .u64 (a1 : Nat), .int .u64 (a2 : Nat), .int .u64 (a3 : Nat), .bool true] 1 (Nat.zero_le _) (by decide) rfl)) (it_one _) (by simp only [maxLen]; omega) (by omega) (by simp; omega) ?_; intro v3 w3 hown3 hg3 hat3; obtain ⟨A3, c3, rfl⟩ := own_slice hown3; have hlow : Below (w.heap.size + 2) wy w3 := Below.grown ((Below.refl _ wy).alloc hszy _) hg3 (by simp; omega) (fun k e => (World.ownsRow.lt HOW.out k e).1); have m0 := cell_low hlow (Nat.lt_succ_self (w.heap.size + 1)) e0'; have m1 := cell_low hlow (Nat.lt_succ_self (w.heap.size + 1)) e1'; have m2 := cell_low hlow (Nat.lt_succ_self (w.heap.size + 1)) e2'; have fm2 := (hlow.frozen (p := ⟨w.heap.size + 1, 2, none⟩) (Nat.lt_succ_self (w.heap.size + 1))).trans f2)
              have HCX := Lib.hid (fun (u : Value) => CmpI.next (b := 2) (u := u) HI.out HD.out HIT.out HLT.out hown3 ((HBy.out.mono HI.out.size).trans hlow))
              clear hown3 hg3 hlow; try clear hat3
              go_roundw
              case rel => exact ⟨q2 + 1, n + 1, _, L ++ [⟨a0, a1, a2, a3, true⟩], by go_num, by omega, by omega, by omega, by go_simp, by go_simp, by go_simp, Lib.hid (HCX.out _)⟩
              case measure => simp [intOf]; omega
            · have i42 : ¬ (b : Int) = 42 := by omega
              have i42b : ((b : Int) == 42) = false := beq_false_of_ne i42
              have HIT := Lib.hid (item_star HAT.out (st := false) (r2 := (bs p).drop q2) (by rw [hd2]; exact beq_false_of_ne hb42) (by rw [hd2]; exact if_neg (fun e => hb42 (eq_of_beq e))))
              rw [HD.out] at HIT
              clear hd2
              have g0 := k0; have g1 := k1; have g2 := k2; have g3 := k3; have g4 := k5; have e0' := d0; have e1' := d1; have e2' := d2
              have HBy := HB2; have HDy := HD2
              clear k0 k1 k2 k3 k5 d0 d1 d2 HB2 HD2
              obtain ⟨wy, rfl⟩ : ∃ wy : World, wy = wc := ⟨_, rfl⟩
              have how := ownsRow_next HI.out.new HBy.out
              rw [HI.out.len] at how
              have HOW := Lib.hid how
              have hszy := Nat.le_trans HI.out.size HBy.out.size
              have f2 := HDy.out.f 2 (by decide)
              clear how
              go_wp2_with (at_builtin; refine wpList_append_any _ rfl (.tmp 101) (.tmp 103) _ rfl (w.heap.size + 2) 103 i0 (.agg #[.int .u64 0, .int .u64 0, .int .u64 0, .int .u64 0, .bool false]) 5 40 Tryz.underlying65 hi0 hz0 hzz1 hzz2 rfl (by decide) (.slice AL n cl) n (itsC L) rfl (World.ownsRow.alloc HOW.out _) _ (some ⟨wy.heap.size, 0, none⟩) 1 1 (itC ⟨a0, a1, a2, a3, false⟩) rfl (Reads.of_own (World.ownsRow_lit (base := 0) (e := 103) (size := 5) wy #[.int .u64 (a0 : Nat), .int .u64 (a1 : Nat), .int .u64 (a2 : Nat), .int .u64 (a3 : Nat), .bool false] 1 (Nat.zero_le _) (by decide) rfl)) (it_one _) (by simp only [maxLen]; omega) (by omega) (by simp; omega) ?_; intro v3 w3 hown3 hg3 hat3; obtain ⟨A3, c3, rfl⟩ := own_slice hown3; have hlow : Below (w.heap.size + 2) wy w3 := Below.grown ((Below.refl _ wy).alloc hszy _) hg3 (by simp; omega) (fun k e => (World.ownsRow.lt HOW.out k e).1); have m0 := cell_low hlow (Nat.lt_succ_self (w.heap.size + 1)) e0'; have m1 := cell_low hlow (Nat.lt_succ_self (w.heap.size + 1)) e1'; have m2 := cell_low hlow (Nat.lt_succ_self (w.heap.size + 1)) e2'; have fm2 := (hlow.frozen (p := ⟨w.heap.size + 1, 2, none⟩) (Nat.lt_succ_self (w.heap.size + 1))).trans f2)
              have HCX := Lib.hid (fun (u : Value) => CmpI.next (b := 2) (u := u) HI.out HD.out HIT.out HLT.out hown3 ((HBy.out.mono HI.out.size).trans hlow))
              clear hown3 hg3 hlow; try clear hat3
              go_roundw
              case rel => exact ⟨q2, n + 1, _, L ++ [⟨a0, a1, a2, a3, false⟩], by go_num, by omega, by omega, by omega, by go_simp, by go_simp, by go_simp, Lib.hid (HCX.out _)⟩
              case measure => simp [intOf]; omega
          · obtain rfl : q2 = p.size := by omega
            have HIT := Lib.hid (item_star HAT.out (st := false) (r2 := (bs p).drop p.size) (by rw [drop_end]; rfl) (by rw [drop_end]; rfl))
            rw [HD.out] at HIT
            have g0 := k0; have g1 := k1; have g2 := k2; have g3 := k3; have g4 := k5; have e0' := d0; have e1' := d1; have e2' := d2
            have HBy := HB2; have HDy := HD2
            clear k0 k1 k2 k3 k5 d0 d1 d2 HB2 HD2
            obtain ⟨wy, rfl⟩ : ∃ wy : World, wy = wc := ⟨_, rfl⟩
            have how := ownsRow_next HI.out.new HBy.out
            rw [HI.out.len] at how
            have HOW := Lib.hid how
            have hszy := Nat.le_trans HI.out.size HBy.out.size
            have f2 := HDy.out.f 2 (by decide)
            clear how
            go_wp2_with (at_builtin; refine wpList_append_any _ rfl (.tmp 101) (.tmp 103) _ rfl (w.heap.size + 2) 103 i0 (.agg #[.int .u64 0, .int .u64 0, .int .u64 0, .int .u64 0, .bool false]) 5 40 Tryz.underlying65 hi0 hz0 hzz1 hzz2 rfl (by decide) (.slice AL n cl) n (itsC L) rfl (World.ownsRow.alloc HOW.out _) _ (some ⟨wy.heap.size, 0, none⟩) 1 1 (itC ⟨a0, a1, a2, a3, false⟩) rfl (Reads.of_own (World.ownsRow_lit (base := 0) (e := 103) (size := 5) wy #[.int .u64 (a0 : Nat), .int .u64 (a1 : Nat), .int .u64 (a2 : Nat), .int .u64 (a3 : Nat), .bool false] 1 (Nat.zero_le _) (by decide) rfl)) (it_one _) (by simp only [maxLen]; omega) (by omega) (by simp; omega) ?_; intro v3 w3 hown3 hg3 hat3; obtain ⟨A3, c3, rfl⟩ := own_slice hown3; have hlow : Below (w.heap.size + 2) wy w3 := Below.grown ((Below.refl _ wy).alloc hszy _) hg3 (by simp; omega) (fun k e => (World.ownsRow.lt HOW.out k e).1); have m0 := cell_low hlow (Nat.lt_succ_self (w.heap.size + 1)) e0'; have m1 := cell_low hlow (Nat.lt_succ_self (w.heap.size + 1)) e1'; have m2 := cell_low hlow (Nat.lt_succ_self (w.heap.size + 1)) e2'; have fm2 := (hlow.frozen (p := ⟨w.heap.size + 1, 2, none⟩) (Nat.lt_succ_self (w.heap.size + 1))).trans f2)
            have HCX := Lib.hid (fun (u : Value) => CmpI.next (b := 2) (u := u) HI.out HD.out HIT.out HLT.out hown3 ((HBy.out.mono HI.out.size).trans hlow))
            clear hown3 hg3 hlow; try clear hat3
            go_roundw
            case rel => exact ⟨p.size, n + 1, _, L ++ [⟨a0, a1, a2, a3, false⟩], by go_num, by omega, by omega, by omega, by go_simp, by go_simp, by go_simp, Lib.hid (HCX.out _)⟩
            case measure => simp [intOf]; omega
    · obtain rfl : q = p.size := by omega
      have hc := ndComp_yes HL.out (ItmI.end_ (show ItmI (cutB 94 (bs p)) [] L by have h := HI.out.itm; rw [drop_end] at h; exact h))
      rw [HN.out, HST.out] at hc
      injection hc with hc1 hc2
      subst hc1 hc2
      have HLN := Lib.hid (show L.length ≤ 64 by rw [HI.out.len]; omega)
      go_wp2_with (refine wpList_put rfl 67 _ _ rfl w.heap.size [.bool true, .bool false, .slice AL n cl] rfl rfl HI.out.d0 (by kernel_rfl) (by simp [Value.oneCell']) ?_; intro y9 hq9; obtain ⟨s0, s1, s2⟩ := hq9.at_.three)
      exact bodyPost_ret (v := .tuple #[.agg #[.bool true, .bool false, .slice AL n cl], .int .i64 0]) (by simp [results, Tryz.results30, go_sem, s0, s1, s2]) rfl ⟨_, rfl, ⟨_, rfl, (HI.out.new.kept hq9.grown (by omega)).out⟩, HI.out.ok, HLN.out, hq9.below (Nat.le_refl _) HI.out.low⟩
end Go.Proofs.YtodlgbihdehmbaaGreatDoor.Nd.NR
/-
  Contracts of the document's own functions of layer 9: Compile, no ^ first.
-/
set_option linter.unusedSimpArgs false
set_option linter.unusedVariables false
namespace Go.Proofs.YtodlgbihdehmbaaGreatDoor.Nd.NR
open Go.RowKit
set_option maxRecDepth 100000 in
set_option maxHeartbeats 8000000 in
theorem comp_n (p : ByteArray) (hl : ¬ 64 < p.size) (h0 : 0 < p.size) (c : Nat) (h94 : ¬ c = 94) (hcb : cutB 94 (bs p) = (bs p).drop 0) (hst : ((bs p).getD 0 0 == 94) = false) (e0 : (p[0]'h0).toNat = c) (w : World) :
    Calls Tryz.prog 30 #[.string p] w fun e w' => ∃ v, e = .returned (.tuple #[v, .int .i64 (ndComp (bs p)).2]) ∧ NnOut w' v (ndComp (bs p)).1 ∧ (ndComp (bs p)).1.ok ∧ (ndComp (bs p)).1.items.length ≤ 64 ∧ Below w.heap.size w w' := by
  have i94 : ¬ (c : Int) = 94 := by omega
  have i94b : ((c : Int) == 94) = false := beq_false_of_ne i94
  obtain ⟨N, E, hN⟩ : ∃ N E, ndComp (bs p) = (N, E) := ⟨_, _, rfl⟩
  have hl2 : ¬ 64 < (bs p).length := by rw [bs_length]; exact hl
  have HNO0 := Lib.hid (fun (hno : ndItems ((cutB 94 (bs p)).length + 1) (cutB 94 (bs p)) = none) (w' : World) (hb : Below w.heap.size w w') => show ∃ v, Ending.returned (.tuple #[.agg #[.bool false, .bool false, .slice none 0 0], .int .i64 10]) = .returned (.tuple #[v, .int .i64 E]) ∧ NnOut w' v N ∧ N.ok ∧ N.items.length ≤ 64 ∧ Below w.heap.size w w' from by
    have hc := ndComp_no hl2 hno
    rw [hN] at hc
    injection hc with hc1 hc2
    subst hc1 hc2
    exact ⟨_, rfl, ⟨_, rfl, ItOut.nil _⟩, (fun i h => by cases h), Nat.zero_le _, hb⟩)
  have HN := Lib.hid hN; have HL := Lib.hid hl2
  rw [hN]
  obtain ⟨i0, hi0, hz0, hzz1, hzz2⟩ := info_parts items_info
  clear hN hl2
  have H0 := Lib.hid (show CmpI w p (0) 0 (.slice none 0 0) [] ((w.alloc (.cells #[.bool false, .bool false, .slice none 0 0] 67)).alloc (.cells #[.bool false, .bool false, .slice none 0 0] 67)) from ⟨ItNew.nil _ _, rfl, by rw [hcb]; exact ItmI.start _, (fun i h => by cases h), dvar_first _ _ _ _, dvar_second _ _ _ _, alloc2_below _ _ _, by simp⟩)
  have HST := Lib.hid (show ((bs p).getD 0 0 == 94) = false from hst)
  have HCB := Lib.hid hcb
  clear hcb hst
  go_enter Tryz.func30, Tryz.ntmps30
  go_wp2
  go_loopw [5, 6, 7, 8, 9] (fun av _ _ _ _ wr => ∃ (q n : Nat) (vr : Value) (L : List NI), av = .int .i64 (q : Nat) ∧ q ≤ p.size ∧ n ≤ q ∧ 0 ≤ q ∧ wr.cell? ⟨w.heap.size + 1, 0, none⟩ = some (.bool false) ∧ wr.cell? ⟨w.heap.size + 1, 1, none⟩ = some (.bool false) ∧ wr.cell? ⟨w.heap.size + 1, 2, none⟩ = some vr ∧ Hid (CmpI w p q n vr L wr)) (fun av _ _ _ _ _ => p.size - (intOf av).toNat)
  case atStart => exact ⟨0, 0, _, [], by go_num, by omega, by omega, Nat.le_refl _, by go_simp, by go_simp, by go_simp, H0.out⟩
  case round =>
    obtain ⟨q, n, vr, L, rfl, hq, hn, hq0, c0, c1, c2, HI⟩ := hrel
    obtain ⟨wo, rfl⟩ : ∃ wo : World, wo = wr := ⟨_, rfl⟩
    obtain ⟨AL, cl, hvr, hcl, _⟩ := HI.out.new.out
    subst hvr
    rw [HI.out.len] at c2 hcl HI
    by_cases hqs : q < p.size
    · obtain ⟨a, hd, e0, ha⟩ := bs_at hqs
      have HD := Lib.hid hd
      have hi0 := HI.out.itm
      rw [hd] at hi0
      have HM := Lib.hid hi0
      have hqi : (q : Int) < (p.size : Int) := by omega
      clear hd hi0
      by_cases h36 : a = 36
      · subst h36
        by_cases hqe : q + 1 = p.size
        · have hc := ndComp_yes HL.out (ItmI.dollar (show ItmI (cutB 94 (bs p)) [36] L by have h := HM.out; rw [show (bs p).drop (q + 1) = [] from List.drop_eq_nil_of_le (by rw [bs_length]; omega)] at h; exact h))
          rw [HN.out, HST.out] at hc
          injection hc with hc1 hc2
          subst hc1 hc2
          have hqi2 : ((q : Int) == (p.size : Int) - 1) = true := beq_iff_eq.2 (by omega)
          have f1 := HI.out.d1.f 1 (by decide)
          have hb0 := alloc_below (wo.setCell ⟨w.heap.size + 1, 1, none⟩ (.bool true)) (.cells #[.int .u64 0, .int .u64 0, .int .u64 0, .int .u64 0, .bool false] 103)
          have HD2 := Lib.hid ((HI.out.d0.set (b' := w.heap.size + 1) (o := 1) (.bool true)).below hb0)
          have HB2 := Lib.hid (bnext (HI.out.low.setCell (p := ⟨w.heap.size + 1, 1, none⟩) (by simp) (.bool true)) hb0)
          have HI2 := Lib.hid ((HI.out.new.kept (grown_set1 _ (w.heap.size + 1) 1 (.bool true)) (by omega)).below hb0)
          have HLN := Lib.hid (show L.length ≤ 64 by rw [HI.out.len]; omega)
          have z1 : w.heap.size + 1 < wo.heap.size := HI.out.size
          have HQE := Lib.hid hqe
          clear hb0 hqe
          go_wp2_with (refine wpList_put rfl 67 _ _ rfl w.heap.size [.bool false, .bool true, .slice AL n cl] rfl rfl HD2.out (by kernel_rfl) (by simp [Value.oneCell']) ?_; intro y9 hq9; obtain ⟨s0, s1, s2⟩ := hq9.at_.three)
          exact bodyPost_ret (v := .tuple #[.agg #[.bool false, .bool true, .slice AL n cl], .int .i64 0]) (by simp [results, Tryz.results30, go_sem, s0, s1, s2]) rfl ⟨_, rfl, ⟨_, rfl, (HI2.out.kept hq9.grown (by omega)).out⟩, HI.out.ok, HLN.out, hq9.below (Nat.le_refl _) HB2.out⟩
        · have hqi2 : ¬ (q : Int) = (p.size : Int) - 1 := by omega
          have HNO := Lib.hid (HNO0.out (itm_none HM.out (fun e => by have h := congrArg List.length e.2; rw [List.length_drop, bs_length] at h; simp at h; omega) (ndAt_none (by omega))))
          have hb0 := alloc_below wo (.cells #[.int .u64 0, .int .u64 0, .int .u64 0, .int .u64 0, .bool false] 103)
          have HD2 := Lib.hid (HI.out.d0.below hb0); have HB2 := Lib.hid (bnext HI.out.low hb0)
          clear hb0
          go_wp2_with (refine wpList_put rfl 67 _ _ rfl w.heap.size [.bool false, .bool false, .slice none 0 0] rfl rfl HD2.out (by kernel_rfl) (by simp [Value.oneCell']) ?_; intro y9 hq9; obtain ⟨s0, s1, s2⟩ := hq9.at_.three)
          exact bodyPost_ret (v := .tuple #[.agg #[.bool false, .bool false, .slice none 0 0], .int .i64 10]) (by simp [results, Tryz.results30, go_sem, s0, s1, s2]) rfl (HNO.out _ (hq9.below (Nat.le_refl _) HB2.out))
      · have i36 : ¬ (a : Int) = 36 := by omega
        have i36b : ((a : Int) == 36) = false := beq_false_of_ne i36
        go_upto_block 2 with fail
        have hv0 := DVar.alloc (w := wo) #[.int .u64 0, .int .u64 0, .int .u64 0, .int .u64 0, .bool false] 103
        have hk0 : (wo.alloc (.cells #[.int .u64 0, .int .u64 0, .int .u64 0, .int .u64 0, .bool false] 103)).cell? ⟨wo.heap.size, 4, none⟩ = some (.bool false) := by simp
        have hb0 := alloc_below wo (.cells #[.int .u64 0, .int .u64 0, .int .u64 0, .int .u64 0, .bool false] 103)
        generalize wo.alloc (.cells #[.int .u64 0, .int .u64 0, .int .u64 0, .int .u64 0, .bool false] 103) = w1 at hv0 hk0 hb0 ⊢
        have HV := Lib.hid (show DVar w1 wo.heap.size 5 from hv0); have HB0 := Lib.hid hb0; have k4 := hk0
        have HB1 := Lib.hid (bnext HI.out.low hb0); have HD1 := Lib.hid (HI.out.d0.below hb0)
        clear hv0 hk0 hb0
        go_cut [5, 7, 8, 9] from 30 to 86 (fun av _ _ _ wx => ∃ (q2 a0 a1 a2 a3 : Nat), av = .int .i64 (q2 : Nat) ∧ q < q2 ∧ q2 ≤ p.size ∧ wx.cell? ⟨wo.heap.size, 0, none⟩ = some (.int .u64 (a0 : Nat)) ∧ wx.cell? ⟨wo.heap.size, 1, none⟩ = some (.int .u64 (a1 : Nat)) ∧ wx.cell? ⟨wo.heap.size, 2, none⟩ = some (.int .u64 (a2 : Nat)) ∧ wx.cell? ⟨wo.heap.size, 3, none⟩ = some (.int .u64 (a3 : Nat)) ∧ wx.cell? ⟨wo.heap.size, 4, none⟩ = some (.bool false) ∧ Hid (DVar wx wo.heap.size 5) ∧ Hid (Below wo.heap.size wo wx) ∧ Hid (ndAt ((bs p).drop q) = some (NI.set a0 a1 a2 a3, (bs p).drop q2)) ∧ Hid (a0 < 18446744073709551616 ∧ a1 < 18446744073709551616 ∧ a2 < 18446744073709551616 ∧ a3 < 18446744073709551616))
        case first =>
          by_cases h94 : a = 94
          · subst h94
            have HNO := Lib.hid (HNO0.out (itm_none HM.out (fun e => by omega) (ndAt_none (by omega))))
            go_wp2_with (refine wpList_put rfl 67 _ _ rfl w.heap.size [.bool false, .bool false, .slice none 0 0] rfl rfl HD1.out (by kernel_rfl) (by simp [Value.oneCell']) ?_; intro y9 hq9; obtain ⟨s0, s1, s2⟩ := hq9.at_.three)
            exact bodyPost_ret (v := .tuple #[.agg #[.bool false, .bool false, .slice none 0 0], .int .i64 10]) (by simp [results, Tryz.results30, go_sem, s0, s1, s2]) rfl (HNO.out _ (hq9.below (Nat.le_refl _) HB1.out))
          · have i94 : ¬ (a : Int) = 94 := by omega
            have i94b : ((a : Int) == 94) = false := beq_false_of_ne i94
            by_cases h42 : a = 42
            · subst h42
              have HNO := Lib.hid (HNO0.out (itm_none HM.out (fun e => by omega) (ndAt_none (by omega))))
              go_wp2_with (refine wpList_put rfl 67 _ _ rfl w.heap.size [.bool false, .bool false, .slice none 0 0] rfl rfl HD1.out (by kernel_rfl) (by simp [Value.oneCell']) ?_; intro y9 hq9; obtain ⟨s0, s1, s2⟩ := hq9.at_.three)
              exact bodyPost_ret (v := .tuple #[.agg #[.bool false, .bool false, .slice none 0 0], .int .i64 10]) (by simp [results, Tryz.results30, go_sem, s0, s1, s2]) rfl (HNO.out _ (hq9.below (Nat.le_refl _) HB1.out))
            · have i42 : ¬ (a : Int) = 42 := by omega
              have i42b : ((a : Int) == 42) = false := beq_false_of_ne i42
              by_cases h93 : a = 93
              · subst h93
                have HNO := Lib.hid (HNO0.out (itm_none HM.out (fun e => by omega) (ndAt_none (by omega))))
                go_wp2_with (refine wpList_put rfl 67 _ _ rfl w.heap.size [.bool false, .bool false, .slice none 0 0] rfl rfl HD1.out (by kernel_rfl) (by simp [Value.oneCell']) ?_; intro y9 hq9; obtain ⟨s0, s1, s2⟩ := hq9.at_.three)
                exact bodyPost_ret (v := .tuple #[.agg #[.bool false, .bool false, .slice none 0 0], .int .i64 10]) (by simp [results, Tryz.results30, go_sem, s0, s1, s2]) rfl (HNO.out _ (hq9.below (Nat.le_refl _) HB1.out))
              · have i93 : ¬ (a : Int) = 93 := by omega
                have i93b : ((a : Int) == 93) = false := beq_false_of_ne i93
                by_cases h46 : a = 46
                · subst h46
                  have HAT := Lib.hid (show ndAt ((bs p).drop q) = some (NI.set 18446744073709551615 18446744073709551615 18446744073709551615 18446744073709551615, (bs p).drop (q + 1)) by rw [HD.out]; rfl)
                  have HD4 := Lib.hid (show DVar w1 wo.heap.size 4 from HV.out.mono (by decide))
                  go_wp2_with (refine wpList_put rfl 101 _ _ rfl wo.heap.size [.int .u64 ((18446744073709551615 : Nat) : Int), .int .u64 ((18446744073709551615 : Nat) : Int), .int .u64 ((18446744073709551615 : Nat) : Int), .int .u64 ((18446744073709551615 : Nat) : Int)] rfl rfl HD4.out (by kernel_rfl) (by simp [Value.oneCell']) ?_; intro y1 hp; obtain ⟨t0, t1, t2, t3⟩ := hp.at_.four)
                  have t4 := (hp.off 4 (Nat.le_refl _)).trans k4
                  have HV2 := Lib.hid (hp.vars _ _ HV.out); have HB2 := Lib.hid (hp.below (Nat.le_refl _) HB0.out)
                  go_meet
                  exact ⟨q + 1, _, _, _, _, by go_num, by omega, by omega, t0, t1, t2, t3, t4, HV2.out, HB2.out, HAT.out, ⟨by decide, by decide, by decide, by decide⟩⟩
                · have i46 : ¬ (a : Int) = 46 := by omega
                  have i46b : ((a : Int) == 46) = false := beq_false_of_ne i46
                  by_cases h92 : a = 92
                  · subst h92
                    by_cases hq1 : q + 1 < p.size
                    · obtain ⟨b, hd1, x0, hb⟩ := bs_at hq1
                      have HAT := Lib.hid (show ndAt ((bs p).drop q) = some (NI.set (ndOne b).s0 (ndOne b).s1 (ndOne b).s2 (ndOne b).s3, (bs p).drop (q + 2)) by rw [HD.out, hd1, set_one]; rfl)
                      have HLT := Lib.hid (one_lt hb)
                      have OC := Lib.hid (fun W => one_c b hb W)
                      have hne : ¬ (q : Int) = (p.size : Int) - 1 := by omega
                      clear hd1
                      go_wp2_with fail
                      refine (OC.out _).mono ?_; rintro _ w2 ⟨rfl, hb2⟩
                      have HV1 := Lib.hid (HV.out.below hb2); have HB5 := Lib.hid (bnext HB0.out hb2)
                      clear hb2
                      go_wp2_with (refine wpList_put rfl 103 _ _ rfl wo.heap.size [.int .u64 ((ndOne b).s0 : Nat), .int .u64 ((ndOne b).s1 : Nat), .int .u64 ((ndOne b).s2 : Nat), .int .u64 ((ndOne b).s3 : Nat), .bool false] rfl rfl HV1.out (by kernel_rfl) (by simp [Value.oneCell']) ?_; intro y1 hp; obtain ⟨t0, t1, t2, t3, t4⟩ := hp.at_.cells5)
                      have HV2 := Lib.hid (hp.vars _ _ HV1.out); have HB2 := Lib.hid (hp.below (Nat.le_refl _) HB5.out)
                      go_meet
                      exact ⟨q + 2, _, _, _, _, by go_num, by omega, by omega, t0, t1, t2, t3, t4, HV2.out, HB2.out, HAT.out, HLT.out⟩
                    · have hqe : (q : Int) = (p.size : Int) - 1 := by omega
                      have HNO := Lib.hid (HNO0.out (itm_none HM.out (fun e => by omega) (by rw [show (bs p).drop (q + 1) = [] from List.drop_eq_nil_of_le (by rw [bs_length]; omega)]; rfl)))
                      go_wp2_with (refine wpList_put rfl 67 _ _ rfl w.heap.size [.bool false, .bool false, .slice none 0 0] rfl rfl HD1.out (by kernel_rfl) (by simp [Value.oneCell']) ?_; intro y9 hq9; obtain ⟨s0, s1, s2⟩ := hq9.at_.three)
                      exact bodyPost_ret (v := .tuple #[.agg #[.bool false, .bool false, .slice none 0 0], .int .i64 10]) (by simp [results, Tryz.results30, go_sem, s0, s1, s2]) rfl (HNO.out _ (hq9.below (Nat.le_refl _) HB1.out))
                  · have i92 : ¬ (a : Int) = 92 := by omega
                    have i92b : ((a : Int) == 92) = false := beq_false_of_ne i92
                    by_cases h91 : a = 91
                    · subst h91
                      have CC := Lib.hid (fun W => class_c p (q + 1) (by omega) (by omega) W)
                      go_wp2_with fail
                      refine (CC.out _).mono ?_; rintro _ w2 ⟨a0, a1, a2, a3, k2, ok, rfl, hci, hk2, hlt, hb2⟩
                      have HV1 := Lib.hid (HV.out.below hb2); have HB5 := Lib.hid (bnext HB0.out hb2)
                      cases ok with
                      | false =>
                        have HNO := Lib.hid (HNO0.out (itm_none HM.out (fun e => by omega) (cls_no hci)))
                        clear hci hk2 hlt
                        go_upto_if 83 with (refine wpList_put rfl 103 _ _ rfl w2.heap.size [.int .u64 (a0 : Nat), .int .u64 (a1 : Nat), .int .u64 (a2 : Nat), .int .u64 (a3 : Nat), .bool false] rfl rfl (DVar.alloc _ _) (by kernel_rfl) (by simp [Value.oneCell']) ?_; intro y1 hp; obtain ⟨t0, t1, t2, t3, t4⟩ := hp.at_.cells5)
                        have hb3 : Below w2.heap.size w2 y1 := hp.below (Nat.le_refl _) (alloc_below _ _)
                        have HB6 := Lib.hid (bnext (bnext HB1.out hb2) hb3); have HD6 := Lib.hid ((HD1.out.below hb2).below hb3)
                        clear hp hb2 hb3 t0 t1 t2 t3 t4
                        go_wp2_with (refine wpList_put rfl 67 _ _ rfl w.heap.size [.bool false, .bool false, .slice none 0 0] rfl rfl HD6.out (by kernel_rfl) (by simp [Value.oneCell']) ?_; intro y9 hq9; obtain ⟨s0, s1, s2⟩ := hq9.at_.three)
                        exact bodyPost_ret (v := .tuple #[.agg #[.bool false, .bool false, .slice none 0 0], .int .i64 10]) (by simp [results, Tryz.results30, go_sem, s0, s1, s2]) rfl (HNO.out _ (hq9.below (Nat.le_refl _) HB6.out))
                      | true =>
                        have HLT := Lib.hid hlt
                        have hk3 := hk2 rfl
                        have HAT := Lib.hid (show ndAt ((bs p).drop q) = some (NI.set a0 a1 a2 a3, (bs p).drop k2) by rw [HD.out]; exact cls_at hci)
                        have hkq : q + 1 < k2 := by
                          have h1 := ndClass_rest (l := (bs p).drop (q + 1)) (x := (NI.set a0 a1 a2 a3, (bs p).drop k2)) (by rw [← ndAt_cls]; exact cls_at hci)
                          rw [List.length_drop, List.length_drop, bs_length] at h1
                          omega
                        clear hci hk2 hlt
                        go_upto_if 83 with (refine wpList_put rfl 103 _ _ rfl w2.heap.size [.int .u64 (a0 : Nat), .int .u64 (a1 : Nat), .int .u64 (a2 : Nat), .int .u64 (a3 : Nat), .bool false] rfl rfl (DVar.alloc _ _) (by kernel_rfl) (by simp [Value.oneCell']) ?_; intro y1 hp; obtain ⟨t0, t1, t2, t3, t4⟩ := hp.at_.cells5)
                        have hb3 : Below w2.heap.size w2 y1 := hp.below (Nat.le_refl _) (alloc_below _ _)
                        have HV6 := Lib.hid ((HV.out.below hb2).below hb3); have HB6 := Lib.hid (bnext (bnext HB0.out hb2) hb3)
                        clear hp hb2 hb3
                        go_wp2_with (refine wpList_put rfl 103 _ _ rfl wo.heap.size [.int .u64 (a0 : Nat), .int .u64 (a1 : Nat), .int .u64 (a2 : Nat), .int .u64 (a3 : Nat), .bool false] rfl rfl HV6.out (by kernel_rfl) (by simp [Value.oneCell']) ?_; intro y2 hp; obtain ⟨s0, s1, s2, s3, s4⟩ := hp.at_.cells5)
                        have HV2 := Lib.hid (hp.vars _ _ HV6.out); have HB2 := Lib.hid (hp.below (Nat.le_refl _) HB6.out)
                        go_meet
                        exact ⟨k2, _, _, _, _, by go_num, by omega, hk3, s0, s1, s2, s3, s4, HV2.out, HB2.out, HAT.out, HLT.out⟩
                    · have i91 : ¬ (a : Int) = 91 := by omega
                      have i91b : ((a : Int) == 91) = false := beq_false_of_ne i91
                      have HAT := Lib.hid (show ndAt ((bs p).drop q) = some (NI.set (ndOne a).s0 (ndOne a).s1 (ndOne a).s2 (ndOne a).s3, (bs p).drop (q + 1)) by rw [HD.out, set_one]; exact ndAt_one h46 h91 h92 h94 h36 h42 h93)
                      have HLT := Lib.hid (one_lt ha)
                      have OC := Lib.hid (fun W => one_c a ha W)
                      go_wp2_with fail
                      refine (OC.out _).mono ?_; rintro _ w2 ⟨rfl, hb2⟩
                      have HV1 := Lib.hid (HV.out.below hb2); have HB5 := Lib.hid (bnext HB0.out hb2)
                      clear hb2
                      go_wp2_with (refine wpList_put rfl 103 _ _ rfl wo.heap.size [.int .u64 ((ndOne a).s0 : Nat), .int .u64 ((ndOne a).s1 : Nat), .int .u64 ((ndOne a).s2 : Nat), .int .u64 ((ndOne a).s3 : Nat), .bool false] rfl rfl HV1.out (by kernel_rfl) (by simp [Value.oneCell']) ?_; intro y1 hp; obtain ⟨t0, t1, t2, t3, t4⟩ := hp.at_.cells5)
                      have HV2 := Lib.hid (hp.vars _ _ HV1.out); have HB2 := Lib.hid (hp.below (Nat.le_refl _) HB5.out)
                      go_meet
                      exact ⟨q + 1, _, _, _, _, by go_num, by omega, by omega, t0, t1, t2, t3, t4, HV2.out, HB2.out, HAT.out, HLT.out⟩
        case rest =>
          obtain ⟨q2, a0, a1, a2, a3, rfl, hq2, hq2s, k0, k1, k2, k3, k5, HV2, HB2, HAT, HLT⟩ := hcut
          have z1 : w.heap.size + 1 < wo.heap.size := HI.out.size
          have d0 := cell_low HB2.out z1 c0; have d1 := cell_low HB2.out z1 c1; have d2 := cell_low HB2.out z1 c2
          have HD2 := Lib.hid (dvar_low HB2.out z1 HI.out.d1)
          clear c0 c1 c2 k4 HB1 HD1 HV HB0
          by_cases hq2e : q2 < p.size
          · obtain ⟨b, hd2, x0, hbb⟩ := bs_at hq2e
            by_cases hb42 : b = 42
            · subst hb42
              have HIT := Lib.hid (item_star HAT.out (st := true) (r2 := (bs p).drop (q2 + 1)) (by rw [hd2]; rfl) (by rw [hd2]; rfl))
              rw [HD.out] at HIT
              have f4 := HV2.out.f 4 (by decide)
              clear hd2
              go_upto_region 38 with (fail)
              have g0 : (wc.setCell ⟨wo.heap.size, 4, none⟩ (.bool true)).cell? ⟨wo.heap.size, 0, none⟩ = some (.int .u64 (a0 : Nat)) := by go_simp
              have g1 : (wc.setCell ⟨wo.heap.size, 4, none⟩ (.bool true)).cell? ⟨wo.heap.size, 1, none⟩ = some (.int .u64 (a1 : Nat)) := by go_simp
              have g2 : (wc.setCell ⟨wo.heap.size, 4, none⟩ (.bool true)).cell? ⟨wo.heap.size, 2, none⟩ = some (.int .u64 (a2 : Nat)) := by go_simp
              have g3 : (wc.setCell ⟨wo.heap.size, 4, none⟩ (.bool true)).cell? ⟨wo.heap.size, 3, none⟩ = some (.int .u64 (a3 : Nat)) := by go_simp
              have g4 : (wc.setCell ⟨wo.heap.size, 4, none⟩ (.bool true)).cell? ⟨wo.heap.size, 4, none⟩ = some (.bool true) := by go_simp
              have hlo : Below wo.heap.size wc (wc.setCell ⟨wo.heap.size, 4, none⟩ (.bool true)) := (Below.refl _ wc).setCell (p := ⟨_, _, _⟩) (Nat.le_refl _) _
              have e0' := cell_low hlo z1 d0; have e1' := cell_low hlo z1 d1; have e2' := cell_low hlo z1 d2
              have HBy := Lib.hid (HB2.out.trans hlo); have HDy := Lib.hid (dvar_low hlo z1 HD2.out)
              clear k0 k1 k2 k3 k5 d0 d1 d2 f4 hlo HB2 HD2
              generalize wc.setCell ⟨wo.heap.size, 4, none⟩ (.bool true) = wy at g0 g1 g2 g3 g4 e0' e1' e2' HBy HDy ⊢
              have how := ownsRow_next HI.out.new HBy.out
              rw [HI.out.len] at how
              have HOW := Lib.hid how
              have hszy := Nat.le_trans HI.out.size HBy.out.size
              have f2 := HDy.out.f 2 (by decide)
              clear how
              go_wp2_with (at_builtin; refine wpList_append_any _ rfl (.tmp 101) (.tmp 103) _ rfl (w.heap.size + 2) 103 i0 (.agg #[.int .u64 0, .int .u64 0, .int .u64 0, .int .u64 0, .bool false]) 5 40 Tryz.underlying65 hi0 hz0 hzz1 hzz2 rfl (by decide) (.slice AL n cl) n (itsC L) rfl (World.ownsRow.alloc HOW.out _) _ (some ⟨wy.heap.size, 0, none⟩) 1 1 (itC ⟨a0, a1, a2, a3, true⟩) rfl (Reads.of_own (World.ownsRow_lit (base := 0) (e := 103) (size := 5) wy #[.int .u64 (a0 : Nat), .int .u64 (a1 : Nat), .int .u64 (a2 : Nat), .int .u64 (a3 : Nat), .bool true] 1 (Nat.zero_le _) (by decide) rfl)) (it_one _) (by simp only [maxLen]; omega) (by omega) (by simp; omega) ?_; intro v3 w3 hown3 hg3 hat3; obtain ⟨A3, c3, rfl⟩ := own_slice hown3; have hlow : Below (w.heap.size + 2) wy w3 := Below.grown ((Below.refl _ wy).alloc hszy _) hg3 (by simp; omega) (fun k e => (World.ownsRow.lt HOW.out k e).1); have m0 := cell_low hlow (Nat.lt_succ_self (w.heap.size + 1)) e0'; have m1 := cell_low hlow (Nat.lt_succ_self (w.heap.size + 1)) e1'; have m2 := cell_low hlow (Nat.lt_succ_self (w.heap.size + 1)) e2'; have fm2 := (hlow.frozen (p := ⟨w.heap.size + 1, 2, none⟩) (Nat.lt_succ_self (w.heap.size + 1))).trans f2)
              have HCX := Lib.hid (fun (u : Value) => CmpI.next (b := 2) (u := u) HI.out HD.out HIT.out HLT.out hown3 ((HBy.out.mono HI.out.size).trans hlow))
              clear hown3 hg3 hlow; try clear hat3
              go_roundw
              case rel => exact ⟨q2 + 1, n + 1, _, L ++ [⟨a0, a1, a2, a3, true⟩], by go_num, by omega, by omega, by omega, by go_simp, by go_simp, by go_simp, Lib.hid (HCX.out _)⟩
              case measure => simp [intOf]; omega
            · have i42 : ¬ (b : Int) = 42 := by omega
              have i42b : ((b : Int) == 42) = false := beq_false_of_ne i42
              have HIT := Lib.hid (item_star HAT.out (st := false) (r2 := (bs p).drop q2) (by rw [hd2]; exact beq_false_of_ne hb42) (by rw [hd2]; exact if_neg (fun e => hb42 (eq_of_beq e))))
              rw [HD.out] at HIT
              clear hd2
              have g0 := k0; have g1 := k1; have g2 := k2; have g3 := k3; have g4 := k5; have e0' := d0; have e1' := d1; have e2' := d2
              have HBy := HB2; have HDy := HD2
              clear k0 k1 k2 k3 k5 d0 d1 d2 HB2 HD2
              obtain ⟨wy, rfl⟩ : ∃ wy : World, wy = wc := ⟨_, rfl⟩
              have how := ownsRow_next HI.out.new HBy.out
              rw [HI.out.len] at how
              have HOW := Lib.hid how
              have hszy := Nat.le_trans HI.out.size HBy.out.size
              have f2 := HDy.out.f 2 (by decide)
              clear how
              go_wp2_with (at_builtin; refine wpList_append_any _ rfl (.tmp 101) (.tmp 103) _ rfl (w.heap.size + 2) 103 i0 (.agg #[.int .u64 0, .int .u64 0, .int .u64 0, .int .u64 0, .bool false]) 5 40 Tryz.underlying65 hi0 hz0 hzz1 hzz2 rfl (by decide) (.slice AL n cl) n (itsC L) rfl (World.ownsRow.alloc HOW.out _) _ (some ⟨wy.heap.size, 0, none⟩) 1 1 (itC ⟨a0, a1, a2, a3, false⟩) rfl (Reads.of_own (World.ownsRow_lit (base := 0) (e := 103) (size := 5) wy #[.int .u64 (a0 : Nat), .int .u64 (a1 : Nat), .int .u64 (a2 : Nat), .int .u64 (a3 : Nat), .bool false] 1 (Nat.zero_le _) (by decide) rfl)) (it_one _) (by simp only [maxLen]; omega) (by omega) (by simp; omega) ?_; intro v3 w3 hown3 hg3 hat3; obtain ⟨A3, c3, rfl⟩ := own_slice hown3; have hlow : Below (w.heap.size + 2) wy w3 := Below.grown ((Below.refl _ wy).alloc hszy _) hg3 (by simp; omega) (fun k e => (World.ownsRow.lt HOW.out k e).1); have m0 := cell_low hlow (Nat.lt_succ_self (w.heap.size + 1)) e0'; have m1 := cell_low hlow (Nat.lt_succ_self (w.heap.size + 1)) e1'; have m2 := cell_low hlow (Nat.lt_succ_self (w.heap.size + 1)) e2'; have fm2 := (hlow.frozen (p := ⟨w.heap.size + 1, 2, none⟩) (Nat.lt_succ_self (w.heap.size + 1))).trans f2)
              have HCX := Lib.hid (fun (u : Value) => CmpI.next (b := 2) (u := u) HI.out HD.out HIT.out HLT.out hown3 ((HBy.out.mono HI.out.size).trans hlow))
              clear hown3 hg3 hlow; try clear hat3
              go_roundw
              case rel => exact ⟨q2, n + 1, _, L ++ [⟨a0, a1, a2, a3, false⟩], by go_num, by omega, by omega, by omega, by go_simp, by go_simp, by go_simp, Lib.hid (HCX.out _)⟩
              case measure => simp [intOf]; omega
          · obtain rfl : q2 = p.size := by omega
            have HIT := Lib.hid (item_star HAT.out (st := false) (r2 := (bs p).drop p.size) (by rw [drop_end]; rfl) (by rw [drop_end]; rfl))
            rw [HD.out] at HIT
            have g0 := k0; have g1 := k1; have g2 := k2; have g3 := k3; have g4 := k5; have e0' := d0; have e1' := d1; have e2' := d2
            have HBy := HB2; have HDy := HD2
            clear k0 k1 k2 k3 k5 d0 d1 d2 HB2 HD2
            obtain ⟨wy, rfl⟩ : ∃ wy : World, wy = wc := ⟨_, rfl⟩
            have how := ownsRow_next HI.out.new HBy.out
            rw [HI.out.len] at how
            have HOW := Lib.hid how
            have hszy := Nat.le_trans HI.out.size HBy.out.size
            have f2 := HDy.out.f 2 (by decide)
            clear how
            go_wp2_with (at_builtin; refine wpList_append_any _ rfl (.tmp 101) (.tmp 103) _ rfl (w.heap.size + 2) 103 i0 (.agg #[.int .u64 0, .int .u64 0, .int .u64 0, .int .u64 0, .bool false]) 5 40 Tryz.underlying65 hi0 hz0 hzz1 hzz2 rfl (by decide) (.slice AL n cl) n (itsC L) rfl (World.ownsRow.alloc HOW.out _) _ (some ⟨wy.heap.size, 0, none⟩) 1 1 (itC ⟨a0, a1, a2, a3, false⟩) rfl (Reads.of_own (World.ownsRow_lit (base := 0) (e := 103) (size := 5) wy #[.int .u64 (a0 : Nat), .int .u64 (a1 : Nat), .int .u64 (a2 : Nat), .int .u64 (a3 : Nat), .bool false] 1 (Nat.zero_le _) (by decide) rfl)) (it_one _) (by simp only [maxLen]; omega) (by omega) (by simp; omega) ?_; intro v3 w3 hown3 hg3 hat3; obtain ⟨A3, c3, rfl⟩ := own_slice hown3; have hlow : Below (w.heap.size + 2) wy w3 := Below.grown ((Below.refl _ wy).alloc hszy _) hg3 (by simp; omega) (fun k e => (World.ownsRow.lt HOW.out k e).1); have m0 := cell_low hlow (Nat.lt_succ_self (w.heap.size + 1)) e0'; have m1 := cell_low hlow (Nat.lt_succ_self (w.heap.size + 1)) e1'; have m2 := cell_low hlow (Nat.lt_succ_self (w.heap.size + 1)) e2'; have fm2 := (hlow.frozen (p := ⟨w.heap.size + 1, 2, none⟩) (Nat.lt_succ_self (w.heap.size + 1))).trans f2)
            have HCX := Lib.hid (fun (u : Value) => CmpI.next (b := 2) (u := u) HI.out HD.out HIT.out HLT.out hown3 ((HBy.out.mono HI.out.size).trans hlow))
            clear hown3 hg3 hlow; try clear hat3
            go_roundw
            case rel => exact ⟨p.size, n + 1, _, L ++ [⟨a0, a1, a2, a3, false⟩], by go_num, by omega, by omega, by omega, by go_simp, by go_simp, by go_simp, Lib.hid (HCX.out _)⟩
            case measure => simp [intOf]; omega
    · obtain rfl : q = p.size := by omega
      have hc := ndComp_yes HL.out (ItmI.end_ (show ItmI (cutB 94 (bs p)) [] L by have h := HI.out.itm; rw [drop_end] at h; exact h))
      rw [HN.out, HST.out] at hc
      injection hc with hc1 hc2
      subst hc1 hc2
      have HLN := Lib.hid (show L.length ≤ 64 by rw [HI.out.len]; omega)
      go_wp2_with (refine wpList_put rfl 67 _ _ rfl w.heap.size [.bool false, .bool false, .slice AL n cl] rfl rfl HI.out.d0 (by kernel_rfl) (by simp [Value.oneCell']) ?_; intro y9 hq9; obtain ⟨s0, s1, s2⟩ := hq9.at_.three)
      exact bodyPost_ret (v := .tuple #[.agg #[.bool false, .bool false, .slice AL n cl], .int .i64 0]) (by simp [results, Tryz.results30, go_sem, s0, s1, s2]) rfl ⟨_, rfl, ⟨_, rfl, (HI.out.new.kept hq9.grown (by omega)).out⟩, HI.out.ok, HLN.out, hq9.below (Nat.le_refl _) HI.out.low⟩
set_option maxRecDepth 100000 in
set_option maxHeartbeats 8000000 in
theorem comp_e (p : ByteArray) (hl : ¬ 64 < p.size) (h0 : p.size = 0) (hcb : cutB 94 (bs p) = (bs p).drop 0) (hst : ((bs p).getD 0 0 == 94) = false) (w : World) :
    Calls Tryz.prog 30 #[.string p] w fun e w' => ∃ v, e = .returned (.tuple #[v, .int .i64 (ndComp (bs p)).2]) ∧ NnOut w' v (ndComp (bs p)).1 ∧ (ndComp (bs p)).1.ok ∧ (ndComp (bs p)).1.items.length ≤ 64 ∧ Below w.heap.size w w' := by
  obtain ⟨N, E, hN⟩ : ∃ N E, ndComp (bs p) = (N, E) := ⟨_, _, rfl⟩
  have hl2 : ¬ 64 < (bs p).length := by rw [bs_length]; exact hl
  have HNO0 := Lib.hid (fun (hno : ndItems ((cutB 94 (bs p)).length + 1) (cutB 94 (bs p)) = none) (w' : World) (hb : Below w.heap.size w w') => show ∃ v, Ending.returned (.tuple #[.agg #[.bool false, .bool false, .slice none 0 0], .int .i64 10]) = .returned (.tuple #[v, .int .i64 E]) ∧ NnOut w' v N ∧ N.ok ∧ N.items.length ≤ 64 ∧ Below w.heap.size w w' from by
    have hc := ndComp_no hl2 hno
    rw [hN] at hc
    injection hc with hc1 hc2
    subst hc1 hc2
    exact ⟨_, rfl, ⟨_, rfl, ItOut.nil _⟩, (fun i h => by cases h), Nat.zero_le _, hb⟩)
  have HN := Lib.hid hN; have HL := Lib.hid hl2
  rw [hN]
  obtain ⟨i0, hi0, hz0, hzz1, hzz2⟩ := info_parts items_info
  clear hN hl2
  have H0 := Lib.hid (show CmpI w p (0) 0 (.slice none 0 0) [] ((w.alloc (.cells #[.bool false, .bool false, .slice none 0 0] 67)).alloc (.cells #[.bool false, .bool false, .slice none 0 0] 67)) from ⟨ItNew.nil _ _, rfl, by rw [hcb]; exact ItmI.start _, (fun i h => by cases h), dvar_first _ _ _ _, dvar_second _ _ _ _, alloc2_below _ _ _, by simp⟩)
  have HST := Lib.hid (show ((bs p).getD 0 0 == 94) = false from hst)
  have HCB := Lib.hid hcb
  clear hcb hst
  go_enter Tryz.func30, Tryz.ntmps30
  go_wp2
  go_loopw [5, 6, 7, 8, 9] (fun av _ _ _ _ wr => ∃ (q n : Nat) (vr : Value) (L : List NI), av = .int .i64 (q : Nat) ∧ q ≤ p.size ∧ n ≤ q ∧ 0 ≤ q ∧ wr.cell? ⟨w.heap.size + 1, 0, none⟩ = some (.bool false) ∧ wr.cell? ⟨w.heap.size + 1, 1, none⟩ = some (.bool false) ∧ wr.cell? ⟨w.heap.size + 1, 2, none⟩ = some vr ∧ Hid (CmpI w p q n vr L wr)) (fun av _ _ _ _ _ => p.size - (intOf av).toNat)
  case atStart => exact ⟨0, 0, _, [], by go_num, by omega, by omega, Nat.le_refl _, by go_simp, by go_simp, by go_simp, H0.out⟩
  case round =>
    obtain ⟨q, n, vr, L, rfl, hq, hn, hq0, c0, c1, c2, HI⟩ := hrel
    obtain ⟨wo, rfl⟩ : ∃ wo : World, wo = wr := ⟨_, rfl⟩
    obtain ⟨AL, cl, hvr, hcl, _⟩ := HI.out.new.out
    subst hvr
    rw [HI.out.len] at c2 hcl HI
    by_cases hqs : q < p.size
    · exact absurd hqs (by omega)
    · obtain rfl : q = p.size := by omega
      have hc := ndComp_yes HL.out (ItmI.end_ (show ItmI (cutB 94 (bs p)) [] L by have h := HI.out.itm; rw [drop_end] at h; exact h))
      rw [HN.out, HST.out] at hc
      injection hc with hc1 hc2
      subst hc1 hc2
      have HLN := Lib.hid (show L.length ≤ 64 by rw [HI.out.len]; omega)
      go_wp2_with (refine wpList_put rfl 67 _ _ rfl w.heap.size [.bool false, .bool false, .slice AL n cl] rfl rfl HI.out.d0 (by kernel_rfl) (by simp [Value.oneCell']) ?_; intro y9 hq9; obtain ⟨s0, s1, s2⟩ := hq9.at_.three)
      exact bodyPost_ret (v := .tuple #[.agg #[.bool false, .bool false, .slice AL n cl], .int .i64 0]) (by simp [results, Tryz.results30, go_sem, s0, s1, s2]) rfl ⟨_, rfl, ⟨_, rfl, (HI.out.new.kept hq9.grown (by omega)).out⟩, HI.out.ok, HLN.out, hq9.below (Nat.le_refl _) HI.out.low⟩
end Go.Proofs.YtodlgbihdehmbaaGreatDoor.Nd.NR
/-
  Contracts of the document's own functions of layer 9: Compile, all.
-/
set_option linter.unusedSimpArgs false
set_option linter.unusedVariables false
namespace Go.Proofs.YtodlgbihdehmbaaGreatDoor.Nd.NR
open Go.RowKit
theorem compile_c (p : ByteArray) (hp : p.size ≤ 9223372036854775807) (w : World) :
    Calls Tryz.prog 30 #[.string p] w fun e w' => ∃ v, e = .returned (.tuple #[v, .int .i64 (ndComp (bs p)).2]) ∧ NnOut w' v (ndComp (bs p)).1 ∧ (ndComp (bs p)).1.ok ∧ (ndComp (bs p)).1.items.length ≤ 64 ∧ Below w.heap.size w w' := by
  by_cases hl : 64 < p.size
  · obtain ⟨N, E, hN⟩ : ∃ N E, ndComp (bs p) = (N, E) := ⟨_, _, rfl⟩
    rw [hN]
    rw [ndComp_long (by rw [bs_length]; exact hl)] at hN
    injection hN with h1 h2
    subst h1 h2
    go_enter Tryz.func30, Tryz.ntmps30
    go_wp2_with (refine wpList_put rfl 67 _ _ rfl w.heap.size [.bool false, .bool false, .slice none 0 0] rfl rfl (dvar_first _ _ _ _) (by kernel_rfl) (by simp [Value.oneCell']) ?_; intro y9 hq9; obtain ⟨s0, s1, s2⟩ := hq9.at_.three)
    exact bodyPost_ret (v := .tuple #[.agg #[.bool false, .bool false, .slice none 0 0], .int .i64 12]) (by simp [results, Tryz.results30, go_sem, s0, s1, s2]) rfl ⟨_, rfl, ⟨_, rfl, ItOut.nil _⟩, (fun i h => by cases h), Nat.zero_le _, hq9.below (Nat.le_refl _) (alloc2_below _ _ _)⟩
  · by_cases h0 : 0 < p.size
    · obtain ⟨c, hd, e0, hc⟩ := bs_at h0
      rw [List.drop_zero] at hd
      by_cases h94 : c = 94
      · subst h94
        exact comp_y p hl h0 (by rw [hd]; rfl) (by rw [hd]; rfl) e0 w
      · exact comp_n p hl h0 c h94 (by rw [hd]; exact if_neg (fun e => h94 (eq_of_beq e))) (by rw [hd]; exact beq_false_of_ne h94) e0 w
    · have hz : p.size = 0 := by omega
      have hb : bs p = [] := List.eq_nil_of_length_eq_zero (by rw [bs_length]; exact hz)
      exact comp_e p hl hz (by rw [hb]; rfl) (by rw [hb]; rfl) w
end Go.Proofs.YtodlgbihdehmbaaGreatDoor.Nd.NR
