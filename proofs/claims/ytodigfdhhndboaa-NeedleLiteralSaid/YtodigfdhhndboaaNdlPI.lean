/-
  Contracts of the program's own functions of layer 9: item.
-/
import Derived.Test.YtodigfdhhndboaaNdlPH
set_option linter.unusedSimpArgs false
set_option linter.unusedVariables false
namespace Go.Proofs.Ytodigfdhhndboaa.NP
open Go.RowKit
set_option maxRecDepth 100000 in
set_option maxHeartbeats 4000000 in
theorem item_c (s : ByteArray) (hs0 : 0 < s.size) (hs : s.size ≤ 1000) (w : World) :
    Calls Try.prog 23 #[.string s] w fun e w' => ∃ (a0 a1 a2 a3 : Nat) (st : Bool) (R : ByteArray) (ok : Bool), e = .returned (.tuple #[.agg #[.int .u64 (a0 : Nat), .int .u64 (a1 : Nat), .int .u64 (a2 : Nat), .int .u64 (a3 : Nat), .bool st], .string R, .bool ok]) ∧
      ItI (bs s) ⟨a0, a1, a2, a3, st⟩ (bs R) ok ∧ NI.ok ⟨a0, a1, a2, a3, st⟩ ∧ Below w.heap.size w w' := by
  have AC := Lib.hid (fun W => atom_c s hs0 hs W)
  go_enter Try.func23, Try.ntmps23
  go_wp2_with fail
  refine (AC.out _).mono ?_; rintro _ w1 ⟨a0, a1, a2, a3, R, ok, rfl, hai, hlt, hb1⟩
  have HD1 := Lib.hid (show DVar w1 w.heap.size 5 from (DVar.alloc _ _).below hb1)
  have HD4 := Lib.hid (show DVar w1 w.heap.size 4 from HD1.out.mono (by decide))
  have HB1 := Lib.hid (bnext (alloc_below _ _) hb1)
  have HAI := Lib.hid hai; have HLT := Lib.hid hlt
  have CP := Lib.hid (fun W => cutp_c R ⟨#[42]⟩ 42 rfl (by decide) W)
  clear hai hlt hb1
  go_wp2_with (refine wpList_put rfl 23 _ _ rfl w.heap.size [.int .u64 (a0 : Nat), .int .u64 (a1 : Nat), .int .u64 (a2 : Nat), .int .u64 (a3 : Nat)] rfl rfl HD4.out (by kernel_rfl) (by simp [Value.oneCell']) ?_; intro y1 hp; obtain ⟨t0, t1, t2, t3⟩ := hp.at_.four)
  have HD2 := Lib.hid (hp.vars _ _ HD1.out); have HB2 := Lib.hid (hp.below (Nat.le_refl _) HB1.out)
  obtain ⟨u4, hu4⟩ := HD2.out.c 4 (by decide)
  have f4 := HD2.out.f 4 (by decide)
  clear hp
  refine (CP.out _).mono ?_; rintro _ w2 ⟨R2, rfl, hR2, hw2⟩
  obtain rfl := hw2.symm
  have HIT := Lib.hid (ItI.of HAI.out)
  obtain ⟨st, hst⟩ : ∃ st, ((bs R).getD 0 0 == (42 : UInt8).toNat) = st := ⟨_, rfl⟩
  have hst2 : ((bs R).getD 0 0 == 42) = st := hst
  rw [hst2, ← show bs R2 = cutB 42 (bs R) from hR2] at HIT
  rw [hst]
  clear hst hst2 hR2 hw2 AC CP
  go_wp2_with (refine wpList_put rfl 25 _ _ rfl w.heap.size [.int .u64 (a0 : Nat), .int .u64 (a1 : Nat), .int .u64 (a2 : Nat), .int .u64 (a3 : Nat), .bool st] rfl rfl (HD2.out.set _) (by kernel_rfl) (by simp [Value.oneCell']) ?_; intro y2 hp; obtain ⟨s0, s1, s2, s3, s4⟩ := hp.at_.cells5)
  exact bodyPost_ret (v := .tuple #[.agg #[.int .u64 (a0 : Nat), .int .u64 (a1 : Nat), .int .u64 (a2 : Nat), .int .u64 (a3 : Nat), .bool st], .string R2, .bool ok]) (by simp [results, Try.results23, go_sem, s0, s1, s2, s3, s4]) rfl ⟨_, _, _, _, _, _, _, rfl, HIT.out, HLT.out, hp.below (Nat.le_refl _) (HB2.out.setCell (p := ⟨_, _, _⟩) (Nat.le_refl _) _)⟩
end Go.Proofs.Ytodigfdhhndboaa.NP
