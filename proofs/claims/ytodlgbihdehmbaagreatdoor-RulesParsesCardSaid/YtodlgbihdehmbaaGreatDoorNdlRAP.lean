/-
  Contracts of the document's own functions of layer 9: one.
-/
import Derived.Test.YtodlgbihdehmbaaGreatDoorNdlPatP
import Derived.Test.YtodlgbihdehmbaaGreatDoorNdlBoxP
import Derived.Test.YtodlgbihdehmbaaGreatDoorDecMathP
import Derived.Lib.Hide
import Derived.WalkKit
import Derived.WalkSmall
import Derived.Laws.BitsAllLaws
import Derived.Carry
set_option linter.unusedSimpArgs false
set_option linter.unusedVariables false
namespace Go.Proofs.YtodlgbihdehmbaaGreatDoor.Nd.NR
open Go.RowKit
theorem alloc2_below (w : World) (o1 o2 : Obj) : Below w.heap.size w ((w.alloc o1).alloc o2) := ((Below.refl _ _).alloc (Nat.le_refl _) _).alloc (by simp) _
theorem dvar_first (w : World) (cs : Array Value) (t : TypeId) (o : Obj) : DVar ((w.alloc (.cells cs t)).alloc o) w.heap.size cs.size := (DVar.alloc cs t).below (alloc_below _ _)
theorem dvar_second (w : World) (o : Obj) (cs : Array Value) (t : TypeId) : DVar ((w.alloc o).alloc (.cells cs t)) (w.heap.size + 1) cs.size := by
  have h := DVar.alloc (w := w.alloc o) cs t
  have e : (w.alloc o).heap.size = w.heap.size + 1 := by simp
  rw [e] at h
  exact h
theorem shl_bit (k : Nat) (hk : k < 64) : IntKind.u64.wrap (2 ^ k) = ((2 ^ k : Nat) : Int) := by
  have h1 : 2 ^ k ≤ 2 ^ 63 := Nat.pow_le_pow_right (by decide) (by omega)
  have h2 : ((2 : Int) ^ k) = ((2 ^ k : Nat) : Int) := by simp
  rw [h2, IntKind.wrap_u64]
  generalize 2 ^ k = p at *
  rw [Int.emod_eq_of_lt (by omega) (by omega)]
theorem or_bit (c k : Nat) (hc : c < 18446744073709551616) (hk : k < 64) : bits .or .u64 (c : Int) (IntKind.u64.wrap (2 ^ k)) = ((c ||| 2 ^ k : Nat) : Int) := by
  have h1 : 2 ^ k ≤ 2 ^ 63 := Nat.pow_le_pow_right (by decide) (by omega)
  rw [shl_bit k hk]
  generalize 2 ^ k = p at *
  exact u64_or_nat c p (by omega) (by omega)
set_option maxRecDepth 100000 in
set_option maxHeartbeats 2000000 in
theorem one_c (b : Nat) (hb : b < 256) (w : World) :
    Calls Tryz.prog 58 #[.int .u8 (b : Nat)] w fun e w' => e = .returned (.agg #[.int .u64 ((ndOne b).s0 : Nat), .int .u64 ((ndOne b).s1 : Nat), .int .u64 ((ndOne b).s2 : Nat), .int .u64 ((ndOne b).s3 : Nat), .bool false]) ∧ Below w.heap.size w w' := by
  have hq : b / 64 = 0 ∨ b / 64 = 1 ∨ b / 64 = 2 ∨ b / 64 = 3 := by omega
  rcases hq with hq | hq | hq | hq
  · have hN : ndOne b = ⟨2 ^ (b % 64), 0, 0, 0, false⟩ := by unfold ndOne; rw [hq]; rfl
    rw [hN]
    have SB := Lib.hid (shl_bit (b % 64) (Nat.mod_lt _ (by decide)))
    clear hN
    go_enter Tryz.func58, Tryz.ntmps58
    go_wp2_with (refine wpList_put rfl 103 _ _ rfl w.heap.size [.int .u64 (IntKind.u64.wrap (2 ^ (b % 64))), .int .u64 0, .int .u64 0, .int .u64 0, .bool false] rfl rfl (dvar_first _ _ _ _) (by kernel_rfl) (by simp [Value.oneCell']) ?_; intro y1 hp; obtain ⟨t0, t1, t2, t3, t4⟩ := hp.at_.cells5)
    rw [SB.out] at t0
    exact bodyPost_ret (v := .agg #[.int .u64 ((2 ^ (b % 64) : Nat) : Int), .int .u64 ((0 : Nat) : Int), .int .u64 ((0 : Nat) : Int), .int .u64 ((0 : Nat) : Int), .bool false]) (by simp [results, Tryz.results58, go_sem, t0, t1, t2, t3, t4]) rfl ⟨rfl, hp.below (Nat.le_refl _) (alloc2_below _ _ _)⟩
  · have hN : ndOne b = ⟨0, 2 ^ (b % 64), 0, 0, false⟩ := by unfold ndOne; rw [hq]; rfl
    rw [hN]
    have SB := Lib.hid (shl_bit (b % 64) (Nat.mod_lt _ (by decide)))
    clear hN
    go_enter Tryz.func58, Tryz.ntmps58
    go_wp2_with (refine wpList_put rfl 103 _ _ rfl w.heap.size [.int .u64 0, .int .u64 (IntKind.u64.wrap (2 ^ (b % 64))), .int .u64 0, .int .u64 0, .bool false] rfl rfl (dvar_first _ _ _ _) (by kernel_rfl) (by simp [Value.oneCell']) ?_; intro y1 hp; obtain ⟨t0, t1, t2, t3, t4⟩ := hp.at_.cells5)
    rw [SB.out] at t1
    exact bodyPost_ret (v := .agg #[.int .u64 ((0 : Nat) : Int), .int .u64 ((2 ^ (b % 64) : Nat) : Int), .int .u64 ((0 : Nat) : Int), .int .u64 ((0 : Nat) : Int), .bool false]) (by simp [results, Tryz.results58, go_sem, t0, t1, t2, t3, t4]) rfl ⟨rfl, hp.below (Nat.le_refl _) (alloc2_below _ _ _)⟩
  · have hN : ndOne b = ⟨0, 0, 2 ^ (b % 64), 0, false⟩ := by unfold ndOne; rw [hq]; rfl
    rw [hN]
    have SB := Lib.hid (shl_bit (b % 64) (Nat.mod_lt _ (by decide)))
    clear hN
    go_enter Tryz.func58, Tryz.ntmps58
    go_wp2_with (refine wpList_put rfl 103 _ _ rfl w.heap.size [.int .u64 0, .int .u64 0, .int .u64 (IntKind.u64.wrap (2 ^ (b % 64))), .int .u64 0, .bool false] rfl rfl (dvar_first _ _ _ _) (by kernel_rfl) (by simp [Value.oneCell']) ?_; intro y1 hp; obtain ⟨t0, t1, t2, t3, t4⟩ := hp.at_.cells5)
    rw [SB.out] at t2
    exact bodyPost_ret (v := .agg #[.int .u64 ((0 : Nat) : Int), .int .u64 ((0 : Nat) : Int), .int .u64 ((2 ^ (b % 64) : Nat) : Int), .int .u64 ((0 : Nat) : Int), .bool false]) (by simp [results, Tryz.results58, go_sem, t0, t1, t2, t3, t4]) rfl ⟨rfl, hp.below (Nat.le_refl _) (alloc2_below _ _ _)⟩
  · have hN : ndOne b = ⟨0, 0, 0, 2 ^ (b % 64), false⟩ := by unfold ndOne; rw [hq]; rfl
    rw [hN]
    have SB := Lib.hid (shl_bit (b % 64) (Nat.mod_lt _ (by decide)))
    clear hN
    go_enter Tryz.func58, Tryz.ntmps58
    go_wp2_with (refine wpList_put rfl 103 _ _ rfl w.heap.size [.int .u64 0, .int .u64 0, .int .u64 0, .int .u64 (IntKind.u64.wrap (2 ^ (b % 64))), .bool false] rfl rfl (dvar_first _ _ _ _) (by kernel_rfl) (by simp [Value.oneCell']) ?_; intro y1 hp; obtain ⟨t0, t1, t2, t3, t4⟩ := hp.at_.cells5)
    rw [SB.out] at t3
    exact bodyPost_ret (v := .agg #[.int .u64 ((0 : Nat) : Int), .int .u64 ((0 : Nat) : Int), .int .u64 ((0 : Nat) : Int), .int .u64 ((2 ^ (b % 64) : Nat) : Int), .bool false]) (by simp [results, Tryz.results58, go_sem, t0, t1, t2, t3, t4]) rfl ⟨rfl, hp.below (Nat.le_refl _) (alloc2_below _ _ _)⟩
end Go.Proofs.YtodlgbihdehmbaaGreatDoor.Nd.NR
