/-
  The fixed fact of layer 14's statements; whether a ladder is more than is looked at.
-/
import Derived.Test.YtmmpnbkbjlpalaaLadPI
import Derived.Test.YtmmpnbkbjlpalaaLadPJ
set_option linter.unusedSimpArgs false
set_option linter.unusedVariables false
namespace Go.Proofs.Ytmmpnbkbjlpalaa.AW
open Go.RowKit IP AP
def R0 : List (Int × Int) := [(10, 6), (60, 5)]
def E6 : List (Int × Int) := List.replicate 6 (-1, 0)
def L0 : List Rg := lNew R0
def L1 : List Rg := [(10, [(0, 1000000), (-1, 0), (-1, 0), (-1, 0), (-1, 0), (-1, 0)]), (60, [(-1, 0), (-1, 0), (-1, 0), (-1, 0), (-1, 0)])]
def L2 : List Rg := [(10, [(0, 1000000), (10, 2000000), (-1, 0), (-1, 0), (-1, 0), (-1, 0)]), (60, [(-1, 0), (-1, 0), (-1, 0), (-1, 0), (-1, 0)])]
def L3 : List Rg := [(10, [(0, 1000000), (10, 2000000), (20, 3000000), (-1, 0), (-1, 0), (-1, 0)]), (60, [(0, 2000000), (-1, 0), (-1, 0), (-1, 0), (-1, 0)])]
theorem a_facts : (nwL 1 500000 R0 = L0 ∧ nwM 1 500000 R0 = 1 ∧ nwF 1 500000 R0 = 500000 ∧ nwE 1 500000 R0 = 0) ∧ lAccept 1 500000 L0 0 1000000 30 = (L1, 0) ∧ lAccept 1 500000 L1 10 2000000 30 = (L2, 0) ∧ lAccept 1 500000 L2 20 3000000 30 = (L3, 0) := by decide +kernel
theorem small2 (L : List Rg) (h : (L.all fun r => decide (r.2.length ≤ 100000) && r.2.all fun g => decide (-9223372036854775808 ≤ g.2 ∧ g.2 ≤ 9223372036854775807)) = true) : (∀ r ∈ L, r.2.length ≤ 100000) ∧ lFine L := by
  rw [List.all_eq_true] at h
  refine ⟨fun r hr => ?_, fun r hr g hg => ?_⟩
  · have := h r hr; rw [Bool.and_eq_true] at this; exact of_decide_eq_true this.1
  · have := h r hr
    rw [Bool.and_eq_true, List.all_eq_true] at this
    exact (of_decide_eq_true (this.2 g hg) : -9223372036854775808 ≤ g.2 ∧ g.2 ≤ 9223372036854775807)
theorem rungs_out (w : World) (t : TypeId) : RgOut (w.alloc (.cells #[.int .i64 10, .int .i64 6, .int .i64 60, .int .i64 5] t)) (.slice (some ⟨w.heap.size, 0, none⟩) 2 2) R0 := by
  have b := bx_new w #[.int .i64 10, .int .i64 6, .int .i64 60, .int .i64 5] t
  refine ⟨_, 2, rfl, Nat.le_refl _, fun _ => ⟨_, 0, rfl, fun k g hk => ?_⟩⟩
  match k, hk with
  | 0, hk =>
    obtain rfl : ((10, 6) : Int × Int) = g := by simpa [R0] using hk
    exact ⟨(b.cells 0 _ rfl).1, (b.cells 1 _ rfl).1⟩
  | 1, hk =>
    obtain rfl : ((60, 5) : Int × Int) = g := by simpa [R0] using hk
    exact ⟨(b.cells 2 _ rfl).1, (b.cells 3 _ rfl).1⟩
/-- A ladder's variable stored anew: three cells. -/
theorem _root_.Go.Proofs.Ytmmpnbkbjlpalaa.Bx.put3 {w : World} {b : Nat} {x y z x' y' z' : Value} (h : Bx w b [x, y, z]) : Bx (((w.setCell ⟨b, 0, none⟩ x').setCell ⟨b, 1, none⟩ y').setCell ⟨b, 2, none⟩ z') b [x', y', z'] :=
  ((h.set (j := 0) (by simp) x').set (j := 1) (by simp) y').set (j := 2) (by simp) z'
theorem below_put3 {B b : Nat} {a w : World} (h : Below B a w) (hB : B ≤ b) (x y z : Value) : Below B a (((w.setCell ⟨b, 0, none⟩ x).setCell ⟨b, 1, none⟩ y).setCell ⟨b, 2, none⟩ z) := below_set (below_set (below_set h hB _) hB _) hB _
theorem slots_far {S : List Nat} {w : World} {A : Option Addr} {n c : Nat} {x y : Int} {l : List (Int × Int)} (h : RgFar S w (.slice A n c) ((x, y) :: l)) : ∃ b off, A = some ⟨b, off, none⟩ ∧ b ∉ S ∧ w.cell? ⟨b, off, none⟩ = some (.int .i64 x) ∧ w.cell? ⟨b, off + 1, none⟩ = some (.int .i64 y) := by
  obtain ⟨A', c', hv, hc, hx⟩ := h
  obtain ⟨b, off, hA, hS, ha⟩ := hx (by simp)
  injection hv with e1
  have := ha 0 (x, y) rfl
  exact ⟨b, off, e1.trans hA, hS, by simpa using this.1, by simpa using this.2⟩
theorem slots_first {w : World} {A : Option Addr} {n c : Nat} {x y : Int} {l : List (Int × Int)} (h : RgOut w (.slice A n c) ((x, y) :: l)) : ∃ b off, A = some ⟨b, off, none⟩ ∧ w.cell? ⟨b, off, none⟩ = some (.int .i64 x) ∧ w.cell? ⟨b, off + 1, none⟩ = some (.int .i64 y) := by
  obtain ⟨A', c', hv, hc, hx⟩ := h
  obtain ⟨b, off, hA, ha⟩ := hx (by simp)
  injection hv with e1
  have := ha 0 (x, y) rfl
  exact ⟨b, off, e1.trans hA, by simpa using this.1, by simpa using this.2⟩
set_option maxRecDepth 100000 in
set_option maxHeartbeats 4000000 in
theorem alive_c (w : World) : Calls Try.prog 8 #[] w fun e w' => e = .returned (.bool true) ∧ Below w.heap.size w w' := by
  obtain ⟨⟨n1, n2, n3, n4⟩, a1, a2, a3⟩ := a_facts
  have NW := fun (S : List Nat) (W : World) (v : Value) (h : RgOut W v R0) (hS : ∀ z ∈ S, z < W.heap.size) => AP.new_c S 1 500000 v R0 (by decide) W h hS
  rw [n1, n2, n3, n4, show L0.length = 2 from rfl] at NW
  have A1 := fun (S : List Nat) (W : World) (v : Value) (h : RiFar S W v L0) (hS : ∀ z ∈ S, z < W.heap.size) => accept_c S 1 500000 0 1000000 30 v L0 (by decide) (small2 L0 (by decide +kernel)).1 (small2 L0 (by decide +kernel)).2 ⟨by omega, by omega⟩ W h hS
  rw [a1, show L0.length = 2 from rfl] at A1
  have A2 := fun (S : List Nat) (W : World) (v : Value) (h : RiFar S W v L1) (hS : ∀ z ∈ S, z < W.heap.size) => accept_c S 1 500000 10 2000000 30 v L1 (by decide) (small2 L1 (by decide +kernel)).1 (small2 L1 (by decide +kernel)).2 ⟨by omega, by omega⟩ W h hS
  rw [a2, show L1.length = 2 from rfl] at A2
  have A3 := fun (S : List Nat) (W : World) (v : Value) (h : RiFar S W v L2) (hS : ∀ z ∈ S, z < W.heap.size) => accept_c S 1 500000 20 3000000 30 v L2 (by decide) (small2 L2 (by decide +kernel)).1 (small2 L2 (by decide +kernel)).2 ⟨by omega, by omega⟩ W h hS
  rw [a3, show L2.length = 2 from rfl] at A3
  have hb0 := alloc_below w (.cells #[.int .i64 10, .int .i64 6, .int .i64 60, .int .i64 5] 55)
  have NW1 := NW [] _ _ (rungs_out w 55) (fun z hz => by cases hz)
  obtain ⟨w0, hw0⟩ : ∃ w0, w.alloc (.cells #[.int .i64 10, .int .i64 6, .int .i64 60, .int .i64 5] 55) = w0 := ⟨_, rfl⟩
  rw [hw0] at NW1 hb0
  have HW0 := Lib.hid hw0; have NW1 := Lib.hid NW1; have K0 := Lib.hid hb0
  have A1 := Lib.hid A1; have A2 := Lib.hid A2; have A3 := Lib.hid A3
  clear n1 n2 n3 n4 a1 a2 a3 NW hw0 hb0
  go_enter Try.func8, Try.ntmps8
  go_wp2_with fail
  rw [HW0.out]
  refine NW1.out.mono ?_; rintro _ w1 ⟨A1', c1, rfl, h1, hb1⟩
  obtain ⟨b2, hb2, hz2⟩ := bx_new1 w1 #[.int .i64 1, .int .i64 500000, .slice A1' 2 c1] 24
  have hf2 := (h1.less (S' := [w1.heap.size]) (fun z hz => .inr (by simp at hz; omega))).below hb2
  obtain ⟨w2, hw2⟩ : ∃ w2, w1.alloc (.cells #[.int .i64 1, .int .i64 500000, .slice A1' 2 c1] 24) = w2 := ⟨_, rfl⟩
  rw [hw2] at b2 hb2 hz2 hf2
  have HW2 := Lib.hid hw2
  have ACC1 := Lib.hid (A1.out [w1.heap.size] w2 _ hf2.farS (fun z hz => by simp at hz; omega))
  have K2 := Lib.hid (bnext (bnext K0.out hb1) hb2); have B2 := Lib.hid b2
  have LE := Lib.hid (show w.heap.size ≤ w1.heap.size from by have h1 := K0.out.size; have h2 := hb1.size; omega)
  clear hw2 hb2 hz2 hf2 h1 hb1 b2
  go_wp2_with fail
  rw [HW2.out]
  refine ACC1.out.mono ?_; rintro _ w3 ⟨A3', c3, rfl, h3, hb3⟩
  have b3 := B2.out.below hb3
  obtain ⟨k0, k1, k2, k3, k4, k5⟩ := b3.three
  have b4 := b3.put3 (x' := .int .i64 1) (y' := .int .i64 500000) (z' := .slice A3' 2 c3)
  have h4 := h3.set3 (b := w1.heap.size) (by simp) (.int .i64 1) (.int .i64 500000) (.slice A3' 2 c3)
  have hb4 := below_put3 (b := w1.heap.size) (bnext K2.out hb3) LE.out (.int .i64 1) (.int .i64 500000) (.slice A3' 2 c3)
  have hlt4 : w1.heap.size < (((w3.setCell ⟨w1.heap.size, 0, none⟩ (.int .i64 1)).setCell ⟨w1.heap.size, 1, none⟩ (.int .i64 500000)).setCell ⟨w1.heap.size, 2, none⟩ (.slice A3' 2 c3)).heap.size := by have := b3.lt; simpa using this
  obtain ⟨w4, hw4⟩ : ∃ w4, ((w3.setCell ⟨w1.heap.size, 0, none⟩ (.int .i64 1)).setCell ⟨w1.heap.size, 1, none⟩ (.int .i64 500000)).setCell ⟨w1.heap.size, 2, none⟩ (.slice A3' 2 c3) = w4 := ⟨_, rfl⟩
  rw [hw4] at b4 h4 hb4 hlt4
  have HW4 := Lib.hid hw4
  have ACC2 := Lib.hid (A2.out [w1.heap.size] w4 _ h4.farS (fun z hz => by simp at hz; omega))
  have K4 := Lib.hid hb4; have B4 := Lib.hid b4
  clear hw4 hb4 hlt4 h4 b4 b3 h3 hb3
  go_wp2_with fail
  rw [HW4.out]
  refine ACC2.out.mono ?_; rintro _ w5 ⟨A5, c5, rfl, h5, hb5⟩
  clear k0 k1 k2 k3 k4 k5
  have b5 := B4.out.below hb5
  obtain ⟨k0, k1, k2, k3, k4, k5⟩ := b5.three
  have b6 := b5.put3 (x' := .int .i64 1) (y' := .int .i64 500000) (z' := .slice A5 2 c5)
  have h6 := h5.set3 (b := w1.heap.size) (by simp) (.int .i64 1) (.int .i64 500000) (.slice A5 2 c5)
  have hb6 := below_put3 (b := w1.heap.size) (bnext K4.out hb5) LE.out (.int .i64 1) (.int .i64 500000) (.slice A5 2 c5)
  have hlt6 : w1.heap.size < (((w5.setCell ⟨w1.heap.size, 0, none⟩ (.int .i64 1)).setCell ⟨w1.heap.size, 1, none⟩ (.int .i64 500000)).setCell ⟨w1.heap.size, 2, none⟩ (.slice A5 2 c5)).heap.size := by have := b5.lt; simpa using this
  obtain ⟨g, hg, hgB, hgl, hgS⟩ : ∃ g, A5 = some ⟨g, 0, none⟩ ∧ w4.heap.size ≤ g ∧ g < w5.heap.size ∧ g ∉ [w1.heap.size] := by
    obtain ⟨A0, c0, h0, hle, hg0⟩ := h5.form
    injection h0 with h0
    obtain ⟨g, hg, h⟩ := hg0 (by decide)
    exact ⟨g, h0.trans hg, h⟩
  subst hg
  obtain ⟨B9, d9, e0, e1, ho9, -, -⟩ := h5.at (k := 1) (r := (60, [(-1, 0), (-1, 0), (-1, 0), (-1, 0), (-1, 0)])) rfl rfl
  obtain ⟨b9, off9, hB9, hS9, x0, x1⟩ := slots_far ho9
  subst hB9
  have c1' : w5.cell? ⟨g, 3, none⟩ = some (.slice (some ⟨b9, off9, none⟩) 5 d9) := e1
  have n1 : w1.heap.size ≠ g := fun e => hgS (by rw [← e]; simp)
  have n2 : w1.heap.size ≠ b9 := fun e => hS9 (by rw [← e]; simp)
  have n3 : g ≠ w1.heap.size := fun e => n1 e.symm
  have n4 : b9 ≠ w1.heap.size := fun e => n2 e.symm
  obtain ⟨w6, hw6⟩ : ∃ w6, ((w5.setCell ⟨w1.heap.size, 0, none⟩ (.int .i64 1)).setCell ⟨w1.heap.size, 1, none⟩ (.int .i64 500000)).setCell ⟨w1.heap.size, 2, none⟩ (.slice (some ⟨g, 0, none⟩) 2 c5) = w6 := ⟨_, rfl⟩
  rw [hw6] at b6 h6 hb6 hlt6
  have HW6 := Lib.hid hw6
  have ACC3 := Lib.hid (A3.out [w1.heap.size] w6 _ h6.farS (fun z hz => by simp at hz; omega))
  have K6 := Lib.hid hb6; have B6 := Lib.hid b6
  clear hw6 hb6 hlt6 h6 b5 h5 hb5 ho9 b6 e0 e1 hS9 hgS
  go_wp2_with fail
  rw [HW6.out]
  refine ACC3.out.mono ?_; rintro _ w7 ⟨A7, c7, rfl, h7, hb7⟩
  clear k0 k1 k2 k3 k4 k5 x0 x1 c1' n1 n2 n3 n4
  have b7 := B6.out.below hb7
  obtain ⟨k0, k1, k2, k3, k4, k5⟩ := b7.three
  have b8 := b7.put3 (x' := .int .i64 1) (y' := .int .i64 500000) (z' := .slice A7 2 c7)
  have h8 := h7.set3 (b := w1.heap.size) (by simp) (.int .i64 1) (.int .i64 500000) (.slice A7 2 c7)
  have hb8 := below_put3 (b := w1.heap.size) (bnext K6.out hb7) LE.out (.int .i64 1) (.int .i64 500000) (.slice A7 2 c7)
  obtain ⟨g7, hg7, hgS7⟩ : ∃ g, A7 = some ⟨g, 0, none⟩ ∧ g ∉ [w1.heap.size] := by
    obtain ⟨A0, c0, h0, hle, hg0⟩ := h7.form
    injection h0 with h0
    obtain ⟨g, hg, h⟩ := hg0 (by decide)
    exact ⟨g, h0.trans hg, h.2.2⟩
  subst hg7
  obtain ⟨B10, d10, e0, e1, ho10, -, -⟩ := h7.at (k := 1) (r := (60, [(0, 2000000), (-1, 0), (-1, 0), (-1, 0), (-1, 0)])) rfl rfl
  obtain ⟨b10, off10, hB10, hS10, x0, x1⟩ := slots_far ho10
  subst hB10
  have c1' : w7.cell? ⟨g7, 3, none⟩ = some (.slice (some ⟨b10, off10, none⟩) 5 d10) := e1
  have n1 : w1.heap.size ≠ g7 := fun e => hgS7 (by rw [← e]; simp)
  have n2 : w1.heap.size ≠ b10 := fun e => hS10 (by rw [← e]; simp)
  have n3 : g7 ≠ w1.heap.size := fun e => n1 e.symm
  have n4 : b10 ≠ w1.heap.size := fun e => n2 e.symm
  have K8 := Lib.hid hb8
  clear hb8 h8 b7 h7 hb7 ho10 b8 e0 e1 hS10 hgS7
  go_wp2_with fail
  go_ret
  exact ⟨rfl, K8.out⟩
end Go.Proofs.Ytmmpnbkbjlpalaa.AW
