/-
  The statement on sums, walked.
-/
import Derived.Test.YtbkjmcpdeckcgaaWalks
import Derived.Deep.RegionHeld3
namespace Go.Proofs.Ytbkjmcpdeckcgaa
open Go.RowKit

/-- The cells that a region reads lie on behind a call. -/
theorem held_on {x y : World} {a0 a1 a2 a3 : Nat} {p0 q0 p1 q1 p2 q2 p3 q3 : Value} (h : x.cell? ⟨a0, 0, none⟩ = some p0 ∧ x.cell? ⟨a0, 1, none⟩ = some q0 ∧ x.cell? ⟨a1, 0, none⟩ = some p1 ∧ x.cell? ⟨a1, 1, none⟩ = some q1 ∧ x.cell? ⟨a2, 0, none⟩ = some p2 ∧ x.cell? ⟨a2, 1, none⟩ = some q2 ∧ x.cell? ⟨a3, 0, none⟩ = some p3 ∧ x.cell? ⟨a3, 1, none⟩ = some q3 ∧ a0 < x.heap.size ∧ a1 < x.heap.size ∧ a2 < x.heap.size ∧ a3 < x.heap.size)
    (hb : Below x.heap.size x y) : y.cell? ⟨a0, 0, none⟩ = some p0 ∧ y.cell? ⟨a0, 1, none⟩ = some q0 ∧ y.cell? ⟨a1, 0, none⟩ = some p1 ∧ y.cell? ⟨a1, 1, none⟩ = some q1 ∧ y.cell? ⟨a2, 0, none⟩ = some p2 ∧ y.cell? ⟨a2, 1, none⟩ = some q2 ∧ y.cell? ⟨a3, 0, none⟩ = some p3 ∧ y.cell? ⟨a3, 1, none⟩ = some q3 ∧ a0 < y.heap.size ∧ a1 < y.heap.size ∧ a2 < y.heap.size ∧ a3 < y.heap.size := by
  obtain ⟨c0, d0, c1, d1, c2, d2, c3, d3, l0, l1, l2, l3⟩ := h
  have c := fun (b o : Nat) (hlt : b < x.heap.size) => hb.cell (p := ⟨b, o, none⟩) hlt
  exact ⟨(c _ _ l0).trans c0, (c _ _ l0).trans d0, (c _ _ l1).trans c1, (c _ _ l1).trans d1, (c _ _ l2).trans c2, (c _ _ l2).trans d2, (c _ _ l3).trans c3, (c _ _ l3).trans d3,
    Nat.lt_of_lt_of_le l0 hb.size, Nat.lt_of_lt_of_le l1 hb.size, Nat.lt_of_lt_of_le l2 hb.size, Nat.lt_of_lt_of_le l3 hb.size⟩

set_option maxRecDepth 100000 in
set_option maxHeartbeats 1000000 in
theorem adds_c (u v : Nat) (hu : u < M) (hv : v < M) (w : World) :
    Calls Try.prog 4 #[.agg #[.int .u64 (hiOf u : Nat), .int .u64 (loOf u : Nat)], .agg #[.int .u64 (hiOf v : Nat), .int .u64 (loOf v : Nat)]] w fun e w' => e = .returned (.bool true) ∧ Below w.heap.size w w' := by
  have HU := Lib.hid hu; have HV := Lib.hid hv
  clear hu hv
  go_enter Try.func4, Try.ntmps4
  go_wp2_with fail
  refine (alive_c _).mono ?_; rintro e w1 ⟨rfl, hb1⟩; obtain ⟨hc1, hf1⟩ := bcell hb1
  have z1 : w.heap.size + 1 + 1 ≤ w1.heap.size := by simpa using hb1.size
  have y1 : w.heap.size < w1.heap.size := by omega
  have x1 : w.heap.size + 1 < w1.heap.size := by omega
  go_wp2_with fail
  refine (add_c u v HU.out HV.out _).mono ?_; rintro e w2 ⟨rfl, hb2⟩; obtain ⟨hc2, hf2⟩ := bcell hb2
  have z2 : w1.heap.size ≤ w2.heap.size := hb2.size
  have y2 : w.heap.size < w2.heap.size := by omega
  have x2 : w.heap.size + 1 < w2.heap.size := by omega
  go_wp2_with fail
  refine (radd_c u v HU.out HV.out _).mono ?_; rintro e w3 ⟨rfl, hb3⟩; obtain ⟨hc3, hf3⟩ := bcell hb3
  have z3 : w2.heap.size + 1 ≤ w3.heap.size := by simpa using hb3.size
  have y3 : w.heap.size < w3.heap.size := by omega
  have x3 : w.heap.size + 1 < w3.heap.size := by omega
  have q3 : w2.heap.size < w3.heap.size := by omega
  have HX : Below w.heap.size w w3 := below_next (below_next (((Below.refl _ _).alloc (Nat.le_refl _) _ |>.alloc (by simp) _).trans (hb1.mono (by simp; omega))) hb2) (below_box hb3)
  go_wp2_with fail
  have HY : Below w.heap.size w (w3.alloc (.cells #[.int .u64 (hiOf (u + v) : Nat), .int .u64 (loOf (u + v) : Nat)] 25)) := HX.alloc (by omega) _
  have K0 : Has (w3.alloc (.cells #[.int .u64 (hiOf (u + v) : Nat), .int .u64 (loOf (u + v) : Nat)] 25)) w.heap.size u := ⟨by simp; omega, by go_simp, by go_simp, by go_simp, by go_simp⟩
  have K1 : Has (w3.alloc (.cells #[.int .u64 (hiOf (u + v) : Nat), .int .u64 (loOf (u + v) : Nat)] 25)) (w.heap.size + 1) v := ⟨by simp; omega, by go_simp, by go_simp, by go_simp, by go_simp⟩
  have K2 : Has (w3.alloc (.cells #[.int .u64 (hiOf (u + v) : Nat), .int .u64 (loOf (u + v) : Nat)] 25)) w2.heap.size (u + v) := ⟨by simp; omega, by go_simp, by go_simp, by go_simp, by go_simp⟩
  have K3 : Has (w3.alloc (.cells #[.int .u64 (hiOf (u + v) : Nat), .int .u64 (loOf (u + v) : Nat)] 25)) w3.heap.size (u + v) := ⟨by simp, by go_simp, by go_simp, by go_simp, by go_simp⟩
  clear hc1 hf1 hc2 hf2 hc3 hf3 hb1 hb2 hb3 z1 y1 x1 z2 y2 x2 z3 y3 x3 q3 HX
  generalize w3.alloc (.cells #[.int .u64 (hiOf (u + v) : Nat), .int .u64 (loOf (u + v) : Nat)] 25) = wz at *
  generalize w2.heap.size = b2 at *
  generalize w3.heap.size = b3 at *
  obtain ⟨k0s, k0h, k0l, -, -⟩ := K0
  obtain ⟨k1s, k1h, k1l, -, -⟩ := K1
  obtain ⟨k2s, k2h, k2l, -, -⟩ := K2
  obtain ⟨k3s, k3h, k3l, -, -⟩ := K3
  go_region_held3 (fun x => x.cell? ⟨w.heap.size, 0, none⟩ = some (.int .u64 (hiOf u : Nat)) ∧ x.cell? ⟨w.heap.size, 1, none⟩ = some (.int .u64 (loOf u : Nat)) ∧ x.cell? ⟨w.heap.size + 1, 0, none⟩ = some (.int .u64 (hiOf v : Nat)) ∧ x.cell? ⟨w.heap.size + 1, 1, none⟩ = some (.int .u64 (loOf v : Nat)) ∧
      x.cell? ⟨b2, 0, none⟩ = some (.int .u64 (hiOf (u + v) : Nat)) ∧ x.cell? ⟨b2, 1, none⟩ = some (.int .u64 (loOf (u + v) : Nat)) ∧ x.cell? ⟨b3, 0, none⟩ = some (.int .u64 (hiOf (u + v) : Nat)) ∧ x.cell? ⟨b3, 1, none⟩ = some (.int .u64 (loOf (u + v) : Nat)) ∧ w.heap.size < x.heap.size ∧ w.heap.size + 1 < x.heap.size ∧ b2 < x.heap.size ∧ b3 < x.heap.size)
    (first
      | go_keep
      | (refine held_on ?_ (by assumption); assumption))
    (first
      | (go_at_call 13; refine (less_c u v HU.out HV.out _).mono ?_; rintro e w4 ⟨rfl, hb4⟩)
      | (go_at_call 14; refine (rless_c u v HU.out HV.out _).mono ?_; rintro e w5 ⟨rfl, hb5⟩))
  all_goals go_wp2
  all_goals go_ret
  exact ⟨rfl, below_next (below_next HY.drew hb4) hb5⟩
end Go.Proofs.Ytbkjmcpdeckcgaa
