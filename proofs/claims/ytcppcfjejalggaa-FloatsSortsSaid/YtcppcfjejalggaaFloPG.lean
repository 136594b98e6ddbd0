/-
  Contracts of the program's own functions of layer 4 (floats): Bits.
-/
import Derived.Test.YtcppcfjejalggaaFloPF
import Derived.Deep.OwnRows
set_option linter.unusedSimpArgs false
set_option linter.unusedVariables false
namespace Go.Proofs.Ytcppcfjejalggaa.LP
open Go.RowKit
/-- Where the words stand that are laid one by one. -/
def BtInv (w0 w : World) (g n : Nat) (l : List Nat) (k : Nat) : Prop :=
  RowKit.Below w0.heap.size w0 w ∧ w0.heap.size ≤ g ∧ g < w.heap.size ∧ (∀ i, w.frozen? ⟨g, i, none⟩ = false) ∧ (∀ i, i < n → ∃ u, w.cell? ⟨g, i, none⟩ = some u) ∧ ∀ i m, i < k → l[i]? = some m → w.cell? ⟨g, i, none⟩ = some (.int .u64 (m : Int))
theorem bt_start (w : World) (n : Nat) (l : List Nat) : BtInv w (w.alloc (.cells (madeCells #[.int .u64 0] n) 33)) w.heap.size n l 0 := by
  have hs : ∀ i, i < n → i < (madeCells #[Value.int .u64 0] n).size := fun i hi => by rw [size_madeCells]; exact hi
  generalize madeCells #[Value.int .u64 0] n = cs at *
  have hh : (w.alloc (.cells cs 33)).heap[w.heap.size]? = some (.cells cs 33 (0, 0)) := by
    show (w.heap.push (.cells cs 33 (0, 0)))[w.heap.size]? = _
    exact Array.getElem?_push_size
  refine ⟨(RowKit.Below.refl _ _).alloc (Nat.le_refl _) _, Nat.le_refl _, by simp, fun i => frozen_of_row _ _ _ _ _ hh, fun i hi => ?_, fun i m hi => by omega⟩
  rw [cell_of_row _ _ _ _ _ _ hh]
  exact ⟨_, Array.getElem?_eq_getElem (hs i hi)⟩
theorem bt_step {w0 w : World} {g n k m : Nat} {l : List Nat} (h : BtInv w0 w g n l k) (hk : k < n) (hm : l[k]? = some m) : BtInv w0 (w.setCell ⟨g, k, none⟩ (.int .u64 (m : Int))) g n l (k + 1) := by
  obtain ⟨h1, h2, h3, h4, h5, h6⟩ := h
  obtain ⟨u, hu⟩ := h5 k hk
  have same : (w.setCell ⟨g, k, none⟩ (.int .u64 (m : Int))).cell? ⟨g, k, none⟩ = some (.int .u64 (m : Int)) := World.cell?_setCell_same _ _ _ hu
  have other : ∀ i, i ≠ k → (w.setCell ⟨g, k, none⟩ (.int .u64 (m : Int))).cell? ⟨g, i, none⟩ = w.cell? ⟨g, i, none⟩ := fun i hi => World.cell?_setCell_other _ _ _ _ (by intro e; simp only [Addr.mk.injEq] at e; omega)
  refine ⟨h1.setCell (p := ⟨g, k, none⟩) h2 _, h2, by simpa using h3, fun i => by rw [World.frozen?_setCell]; exact h4 i, fun i hi => ?_, fun i j hi hj => ?_⟩
  · by_cases e : i = k
    · subst e; exact ⟨_, same⟩
    · rw [other i e]; exact h5 i hi
  · by_cases e : i = k
    · subst e
      rw [hm] at hj
      rw [same, Option.some.inj hj]
    · rw [other i e]; exact h6 i j (by omega) hj
set_option maxRecDepth 100000 in
set_option maxHeartbeats 2000000 in
theorem bits_c (v : Value) (l : List Nat) (hl : l.length ≤ 300) (hn : ∀ n ∈ l, n < 18446744073709551616) (w : World) (h : FlOut w v l) :
    Calls Try.prog 21 #[v] w fun e w' => ∃ v', e = .returned v' ∧ BtOut w' v' l ∧ RowKit.Below w.heap.size w w' := by
  obtain ⟨A, c, rfl, hc, hx⟩ := h
  obtain ⟨n, hln⟩ : ∃ n, l.length = n := ⟨_, rfl⟩
  rw [hln] at hl hc ⊢
  have hmk := run_make_row' (P := Try.prog) 40 33 (.int .u64 0) 8 Try.underlying40 (by kernel_rfl) rfl .i64 .i64 n (by omega) (by omega)
  have HX := Lib.hid hx; have HL := Lib.hid hln
  clear hx hln hn
  go_enter Try.func21, Try.ntmps21
  go_wp2
  go_loopw [11, 4, 5] (fun i x y wr => ∃ k : Nat, k ≤ n ∧ i = .int .i64 k ∧ Hid (BtInv w wr w.heap.size n l k)) (fun i _ _ _ => n - (intOf i).toNat)
  case atStart => exact ⟨0, Nat.zero_le _, rfl, bt_start w n l⟩
  case round =>
    obtain ⟨k, hk, rfl, HI⟩ := hrel
    by_cases hlt : k < n
    · have hl1 : k < l.length := by rw [HL.out]; exact hlt
      obtain ⟨b1, o1, rfl, a1⟩ := HX.out (by intro h; rw [h] at hl1; exact absurd hl1 (Nat.not_lt_zero _))
      have y1 := (a1.below HI.out.1) k _ (List.getElem?_eq_getElem hl1)
      have e1 : l[k]? = some l[k] := List.getElem?_eq_getElem hl1
      generalize l[k] = p at *
      have st := bt_step HI.out hlt e1
      obtain ⟨u, hu⟩ := HI.out.2.2.2.2.1 k hlt
      have hf := HI.out.2.2.2.1 k
      have BR := fun w => LR.bits_run p w
      have ST := Lib.hid st
      clear e1 a1 st HI
      go_wp2
      go_roundw
      case rel => exact ⟨k + 1, by omega, by go_num, ST⟩
      case measure => simp [intOf]; omega
    · obtain rfl : k = n := by omega
      go_wp2
      go_ret
      refine ⟨_, rfl, ⟨some ⟨w.heap.size, 0, none⟩, k, by rw [HL.out]; rfl, by rw [HL.out]; omega, fun _ => ⟨w.heap.size, 0, rfl, fun i m hi => ?_⟩⟩, HI.out.1⟩
      rw [Nat.zero_add]
      refine HI.out.2.2.2.2.2 i m ?_ hi
      rcases Nat.lt_or_ge i l.length with h | h
      · rw [← HL.out]; exact h
      · rw [List.getElem?_eq_none h] at hi; cases hi
end Go.Proofs.Ytcppcfjejalggaa.LP
