/-
  Contracts of the program's own functions of layer 9: class.
-/
import Derived.Test.YtodigfdhhndboaaNdlPF
import Derived.StillTailTactics
import Derived.Deep.Cut
set_option linter.unusedSimpArgs false
set_option linter.unusedVariables false
namespace Go.Proofs.Ytodigfdhhndboaa.NP
open Go.RowKit
def strLen : Value → Nat
  | .string s => s.size
  | _ => 0
theorem strLen_is (s : ByteArray) : strLen (.string s) = s.size := rfl
theorem ne_empty {R : ByteArray} (h : 0 < R.size) : R.toList.isEmpty = false := by
  rw [ByteArray.toList_eq]
  obtain ⟨⟨l⟩⟩ := R
  have h2 : 0 < l.length := h
  cases l with
  | nil => simp at h2
  | cons x l => rfl
theorem bs_mem (s : ByteArray) : ∀ c ∈ bs s, c < 256 := by
  intro c hc
  simp only [bs, List.mem_map] at hc
  obtain ⟨x, _, rfl⟩ := hc
  exact x.toNat_lt
theorem memb_lt {R : ByteArray} {a : Nat} {m : List Nat} (hb : bs R = a :: m) {lo hi : Nat} {r : List Nat} (h : ndMemb a m = (lo, hi, r)) : lo < 256 ∧ hi < 256 := by
  have h1 := bs_mem R
  rw [hb] at h1
  have ha := h1 a List.mem_cons_self
  unfold ndMemb at h
  split at h
  · rename_i hc
    injection h with h2 h3
    injection h3 with h3 h4
    refine ⟨by omega, ?_⟩
    rw [← h3, List.getD_eq_getElem?_getD, List.getElem?_eq_getElem (show 1 < m.length by omega)]
    exact h1 _ (List.mem_cons_of_mem _ (List.getElem_mem _))
  · injection h with h2 h3
    injection h3 with h3 h4
    omega
theorem is_empty {R : ByteArray} (h : R.size = 0) : R = ⟨#[]⟩ := by
  obtain ⟨⟨l⟩⟩ := R
  have : l.length = 0 := h
  rw [List.eq_nil_of_length_eq_zero this]
set_option maxRecDepth 100000 in
set_option maxHeartbeats 4000000 in
theorem class_c (s : ByteArray) (hs : s.size ≤ 1000) (w : World) :
    Calls Try.prog 33 #[.string s] w fun e w' => ∃ (a0 a1 a2 a3 : Nat) (R : ByteArray) (ok : Bool), e = .returned (.tuple #[.agg #[.int .u64 (a0 : Nat), .int .u64 (a1 : Nat), .int .u64 (a2 : Nat), .int .u64 (a3 : Nat)], .string R, .bool ok]) ∧
      ClsI (bs s) a0 a1 a2 a3 (bs R) ok ∧ (a0 < 18446744073709551616 ∧ a1 < 18446744073709551616 ∧ a2 < 18446744073709551616 ∧ a3 < 18446744073709551616) ∧ Below w.heap.size w w' := by
  have CP := Lib.hid (fun W => cutp_c s ⟨#[94]⟩ 94 rfl (by decide) W)
  go_enter Try.func33, Try.ntmps33
  go_wp2_with fail
  refine (CP.out _).mono ?_; rintro _ w1 ⟨R0, rfl, hR0, hw1⟩
  obtain ⟨nt, hnt⟩ : ∃ nt, ((bs s).getD 0 0 == (94 : UInt8).toNat) = nt := ⟨_, rfl⟩
  rw [hnt]
  have hD : DVar w1 w.heap.size 4 := hw1 ▸ DVar.alloc _ _
  have hB : Below w.heap.size w w1 := hw1 ▸ alloc_below _ _
  have hC : Holds w1 w.heap.size [.int .u64 ((0 : Nat) : Int), .int .u64 ((0 : Nat) : Int), .int .u64 ((0 : Nat) : Int), .int .u64 ((0 : Nat) : Int)] := by
    rw [hw1]
    exact Holds.of4 (by simp) (by simp) (by simp) (by simp)
  have hlr : R0.size ≤ 1000 := by rw [← bs_length, hR0]; have := cutB_length 94 (bs s); rw [bs_length] at this; exact Nat.le_trans this hs
  have HNT := Lib.hid hnt; have HR0 := Lib.hid (show bs R0 = cutB 94 (bs s) from hR0); have HD0 := Lib.hid hD; have HB0 := Lib.hid hB
  obtain ⟨g0, g1, g2, g3⟩ := hC.four
  clear hnt hR0 hD hB hw1 hC
  go_wp2
  go_loopw [3, 6, 7, 8, 9] (fun rv nv _ _ _ wr => ∃ (R : ByteArray) (n c0 c1 c2 c3 : Nat) (rs : List (Nat × Nat)), rv = .string R ∧ nv = .int .i64 (n : Nat) ∧ n + R.size ≤ 1000 ∧ wr.cell? ⟨w.heap.size, 0, none⟩ = some (.int .u64 (c0 : Nat)) ∧ wr.cell? ⟨w.heap.size, 1, none⟩ = some (.int .u64 (c1 : Nat)) ∧ wr.cell? ⟨w.heap.size, 2, none⟩ = some (.int .u64 (c2 : Nat)) ∧ wr.cell? ⟨w.heap.size, 3, none⟩ = some (.int .u64 (c3 : Nat)) ∧ Hid (DVar wr w.heap.size 4) ∧ Hid (rs.length = n) ∧ Hid (MemI (cutB 94 (bs s)) (bs R) rs) ∧ Hid (Wd (ndIn rs) c0 c1 c2 c3) ∧ Hid (Below w.heap.size w wr)) (fun rv _ _ _ _ _ => strLen rv)
  case atStart => exact ⟨R0, 0, 0, 0, 0, 0, [], rfl, rfl, by omega, g0, g1, g2, g3, HD0.out, rfl, by rw [HR0.out]; exact MemI.start _, Wd.none_, HB0.out⟩
  case round =>
    obtain ⟨R, n, c0, c1, c2, c3, rs, rfl, rfl, hn, k0, k1, k2, k3, HD, HL, HM, HW, HB⟩ := hrel
    by_cases hz : R.size = 0
    · obtain rfl := is_empty hz
      have HNO := Lib.hid (show ndMem ((cutB 94 (bs s)).length + 1) (cutB 94 (bs s)) = none from MemI.none_ HM.out)
      go_wp2_with (refine wpList_put rfl 55 _ _ rfl w.heap.size [.int .u64 0, .int .u64 0, .int .u64 0, .int .u64 0] rfl rfl HD.out (by kernel_rfl) (by simp [Value.oneCell']) ?_; intro y1 hp; obtain ⟨t0, t1, t2, t3⟩ := hp.at_.four)
      exact bodyPost_ret (v := .tuple #[.agg #[.int .u64 ((0 : Nat) : Int), .int .u64 ((0 : Nat) : Int), .int .u64 ((0 : Nat) : Int), .int .u64 ((0 : Nat) : Int)], .string ⟨#[]⟩, .bool false]) (by simp [results, Try.results33, go_sem, t0, t1, t2, t3]) rfl ⟨0, 0, 0, 0, ⟨#[]⟩, false, rfl, ClsI.no HNO.out 0 0 0 0 _, ⟨by decide, by decide, by decide, by decide⟩, hp.below (Nat.le_refl _) HB.out⟩
    · have hz2 : 0 < R.size := by omega
      have hne := ne_empty hz2
      have hz1 : (1 : Int) ≤ (R.size : Int) := by omega
      obtain ⟨a, m, hb, e0, hml, ha⟩ := bs_cons hz2
      have HBS := Lib.hid hb
      have hm0 := HM.out
      rw [hb] at hm0
      have HM2 := Lib.hid hm0
      have HF1 := Lib.hid (show bs (R.extract 1 R.size) = m by rw [bs_from, hb]; rfl)
      clear hb hm0
      by_cases h93 : a = 93
      · subst h93
        have HCL := Lib.hid (MemI.close HM2.out)
        have HOK := Lib.hid (show decide (0 < n) = decide (0 < rs.length) by rw [HL.out])
        cases nt with
        | true =>
          have HWN := Lib.hid (HW.out.not)
          have HLT := Lib.hid HWN.out.lt
          have OC := Lib.hid (fun W => others_c c0 c1 c2 c3 HW.out.lt.1 HW.out.lt.2.1 HW.out.lt.2.2.1 HW.out.lt.2.2.2 W)
          generalize 18446744073709551615 - c0 = b0 at HWN HLT OC
          generalize 18446744073709551615 - c1 = b1 at HWN HLT OC
          generalize 18446744073709551615 - c2 = b2 at HWN HLT OC
          generalize 18446744073709551615 - c3 = b3 at HWN HLT OC
          have HCI := Lib.hid (ClsI.yes HCL.out (a0 := b0) (a1 := b1) (a2 := b2) (a3 := b3) (HNT.out.symm ▸ Wd.clsNot HWN.out) HOK.out)
          go_wp2_with fail
          refine (OC.out _).mono ?_; rintro _ w2 ⟨rfl, hb2⟩
          have HD2 := Lib.hid (HD.out.below hb2); have HB2 := Lib.hid (bnext HB.out hb2)
          clear hb2
          go_upto_region 8 with (refine wpList_put rfl 55 _ _ rfl w.heap.size [.int .u64 (b0 : Nat), .int .u64 (b1 : Nat), .int .u64 (b2 : Nat), .int .u64 (b3 : Nat)] rfl rfl HD2.out (by kernel_rfl) (by simp [Value.oneCell']) ?_; intro y2 hp2; obtain ⟨k4, k5, k6, k7⟩ := hp2.at_.four)
          have HD3 := Lib.hid hp2.var; have HB3 := Lib.hid (hp2.below (Nat.le_refl _) HB2.out)
          clear hp2
          obtain ⟨f0, f1, f2, f3⟩ := HD3.out.four
          go_region
          go_wp2
          exact bodyPost_ret (v := .tuple #[.agg #[.int .u64 (b0 : Nat), .int .u64 (b1 : Nat), .int .u64 (b2 : Nat), .int .u64 (b3 : Nat)], .string (R.extract 1 R.size), .bool (decide (0 < n))]) (by simp [results, Try.results33, go_sem, Act.put, k4, k5, k6, k7]) rfl ⟨b0, b1, b2, b3, _, _, rfl, by rw [HF1.out]; exact HCI.out, HLT.out, by first | exact ((((HB3.out.setCell (p := ⟨_, _, _⟩) (Nat.le_refl _) _).setCell (p := ⟨_, _, _⟩) (Nat.le_refl _) _).setCell (p := ⟨_, _, _⟩) (Nat.le_refl _) _).setCell (p := ⟨_, _, _⟩) (Nat.le_refl _) _).drew | exact ((((HB3.out.drew.setCell (p := ⟨_, _, _⟩) (Nat.le_refl _) _).setCell (p := ⟨_, _, _⟩) (Nat.le_refl _) _).setCell (p := ⟨_, _, _⟩) (Nat.le_refl _) _).setCell (p := ⟨_, _, _⟩) (Nat.le_refl _) _)⟩
        | false =>
          have HLT := Lib.hid HW.out.lt
          have HCI := Lib.hid (ClsI.yes HCL.out (a0 := c0) (a1 := c1) (a2 := c2) (a3 := c3) (HNT.out.symm ▸ Wd.cls HW.out) HOK.out)
          obtain ⟨f0, f1, f2, f3⟩ := HD.out.four
          go_upto_region 8 with (fail)
          go_region
          go_wp2
          exact bodyPost_ret (v := .tuple #[.agg #[.int .u64 (c0 : Nat), .int .u64 (c1 : Nat), .int .u64 (c2 : Nat), .int .u64 (c3 : Nat)], .string (R.extract 1 R.size), .bool (decide (0 < n))]) (by simp [results, Try.results33, go_sem, Act.put, k0, k1, k2, k3]) rfl ⟨c0, c1, c2, c3, _, _, rfl, by rw [HF1.out]; exact HCI.out, HLT.out, by first | exact ((((HB.out.setCell (p := ⟨_, _, _⟩) (Nat.le_refl _) _).setCell (p := ⟨_, _, _⟩) (Nat.le_refl _) _).setCell (p := ⟨_, _, _⟩) (Nat.le_refl _) _).setCell (p := ⟨_, _, _⟩) (Nat.le_refl _) _).drew | exact ((((HB.out.drew.setCell (p := ⟨_, _, _⟩) (Nat.le_refl _) _).setCell (p := ⟨_, _, _⟩) (Nat.le_refl _) _).setCell (p := ⟨_, _, _⟩) (Nat.le_refl _) _).setCell (p := ⟨_, _, _⟩) (Nat.le_refl _) _)⟩
      · obtain ⟨P, hP⟩ : ∃ P, ndMemb a m = P := ⟨_, rfl⟩
        have hs2 : R.size ≤ 1000 := by omega
        have HPB := Lib.hid (ndMemb_rest a m)
        have MC := Lib.hid (fun W => member_c R a m HBS.out hs2 W)
        have ha3 : ¬ (a : Int) = 93 := by omega
        clear hP P
        go_wp2_with fail
        refine (MC.out _).mono ?_; rintro _ w2 ⟨lo, hi, R2, rfl, hmb, hb2⟩
        have hlh : lo < 256 ∧ hi < 256 := memb_lt HBS.out hmb
        have hr2 : R2.size ≤ m.length := by have := HPB.out; rw [hmb] at this; rw [← bs_length]; exact this
        have HMB := Lib.hid hmb
        have HD2 := Lib.hid (HD.out.below hb2); have HB2 := Lib.hid (bnext HB.out hb2)
        have q0 := cell_keep hb2 k0; have q1 := cell_keep hb2 k1; have q2 := cell_keep hb2 k2; have q3 := cell_keep hb2 k3
        clear hmb hb2 k0 k1 k2 k3
        by_cases hlt : hi < lo
        · have HNO := Lib.hid (HM2.out.falls h93 HMB.out hlt)
          have hlti : (hi : Int) < (lo : Int) := by omega
          go_wp2_with (refine wpList_put rfl 55 _ _ rfl w.heap.size [.int .u64 0, .int .u64 0, .int .u64 0, .int .u64 0] rfl rfl HD2.out (by kernel_rfl) (by simp [Value.oneCell']) ?_; intro y1 hp; obtain ⟨t0, t1, t2, t3⟩ := hp.at_.four)
          exact bodyPost_ret (v := .tuple #[.agg #[.int .u64 ((0 : Nat) : Int), .int .u64 ((0 : Nat) : Int), .int .u64 ((0 : Nat) : Int), .int .u64 ((0 : Nat) : Int)], .string ⟨#[]⟩, .bool false]) (by simp [results, Try.results33, go_sem, t0, t1, t2, t3]) rfl ⟨0, 0, 0, 0, ⟨#[]⟩, false, rfl, ClsI.no HNO.out 0 0 0 0 _, ⟨by decide, by decide, by decide, by decide⟩, hp.below (Nat.le_refl _) HB2.out⟩
        · have hlti : ¬ (hi : Int) < (lo : Int) := by omega
          have HMN := Lib.hid (HM2.out.next h93 HMB.out hlt)
          have WC := Lib.hid (fun W => with_c (ndIn rs) c0 c1 c2 c3 HW.out lo hi (by omega) hlh.2 W)
          go_wp2_with fail
          refine (WC.out _).mono ?_; rintro _ w3 ⟨b0, b1, b2, b3, rfl, hwd, hb3⟩
          have HWN := Lib.hid (hwd.congr (g := ndIn (rs ++ [(lo, hi)])) (fun x _ => (ndIn_snoc rs lo hi x).symm))
          have HD3 := Lib.hid (HD2.out.below hb3); have HB3 := Lib.hid (bnext HB2.out hb3)
          have HLN := Lib.hid (show (rs ++ [(lo, hi)]).length = n + 1 by rw [List.length_append, HL.out]; rfl)
          clear hwd hb3 q0 q1 q2 q3
          go_wp2_with (refine wpList_put rfl 55 _ _ rfl w.heap.size [.int .u64 (b0 : Nat), .int .u64 (b1 : Nat), .int .u64 (b2 : Nat), .int .u64 (b3 : Nat)] rfl rfl HD3.out (by kernel_rfl) (by simp [Value.oneCell']) ?_; intro y2 hp2; obtain ⟨k4, k5, k6, k7⟩ := hp2.at_.four)
          go_roundw
          case rel => exact ⟨R2, n + 1, b0, b1, b2, b3, rs ++ [(lo, hi)], rfl, by go_num, by omega, k4, k5, k6, k7, hp2.var, HLN.out, HMN.out, HWN.out, hp2.below (Nat.le_refl _) HB3.out⟩
          case measure => simp only [strLen_is]; omega
end Go.Proofs.Ytodigfdhhndboaa.NP
