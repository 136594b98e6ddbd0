/-
  The statement on roots and shifts, walked.
-/
import Derived.Test.YtbkjmcpdeckcgaaWalkA
namespace Go.Proofs.Ytbkjmcpdeckcgaa
open Go.RowKit

theorem held_three {x y : World} {a0 a2 a3 : Nat} {p0 q0 p2 q2 p3 q3 : Value} (h : x.cell? ⟨a0, 0, none⟩ = some p0 ∧ x.cell? ⟨a0, 1, none⟩ = some q0 ∧ x.cell? ⟨a2, 0, none⟩ = some p2 ∧ x.cell? ⟨a2, 1, none⟩ = some q2 ∧ x.cell? ⟨a3, 0, none⟩ = some p3 ∧ x.cell? ⟨a3, 1, none⟩ = some q3)
    (hb : Below x.heap.size x y) : y.cell? ⟨a0, 0, none⟩ = some p0 ∧ y.cell? ⟨a0, 1, none⟩ = some q0 ∧ y.cell? ⟨a2, 0, none⟩ = some p2 ∧ y.cell? ⟨a2, 1, none⟩ = some q2 ∧ y.cell? ⟨a3, 0, none⟩ = some p3 ∧ y.cell? ⟨a3, 1, none⟩ = some q3 := by
  obtain ⟨c0, d0, c2, d2, c3, d3⟩ := h
  have c := fun (b o : Nat) (u : Value) (hc : x.cell? ⟨b, o, none⟩ = some u) => (hb.cell (p := ⟨b, o, none⟩) (World.block_lt_of_cell? x ⟨b, o, none⟩ hc)).trans hc
  exact ⟨c _ _ _ c0, c _ _ _ d0, c _ _ _ c2, c _ _ _ d2, c _ _ _ c3, c _ _ _ d3⟩

def Shifts (f : Nat) (v : Nat) (n : Int) (s : Nat) (b : Bool) : Prop := ∀ W : World, Calls Try.prog f #[.agg #[.int .u64 (hiOf v : Nat), .int .u64 (loOf v : Nat)], .int .i64 n] W fun e w' =>
      e = .returned (.tuple #[.agg #[.int .u64 (hiOf s : Nat), .int .u64 (loOf s : Nat)], .bool b]) ∧ Below W.heap.size W w'

set_option maxRecDepth 100000 in
set_option maxHeartbeats 1000000 in
theorem roots_of (v s : Nat) (b : Bool) (n : Int) (hv : v < M) (h1 : Shifts 19 v n s b) (h2 : Shifts 20 v n s b) (w : World) :
    Calls Try.prog 6 #[.agg #[.int .u64 (hiOf v : Nat), .int .u64 (loOf v : Nat)], .int .i64 n] w fun e w' => e = .returned (.bool true) ∧ Below w.heap.size w w' := by
  have HV := Lib.hid hv
  clear hv
  go_enter Try.func6, Try.ntmps6
  go_wp2_with fail
  refine (alive_c _).mono ?_; rintro e w1 ⟨rfl, hb1⟩; obtain ⟨hc1, hf1⟩ := bcell hb1
  have z1 : w.heap.size + 1 ≤ w1.heap.size := by simpa using hb1.size
  have y1 : w.heap.size < w1.heap.size := by omega
  go_wp2_with fail
  refine (h1 _).mono ?_; rintro e w2 ⟨rfl, hb2⟩; obtain ⟨hc2, hf2⟩ := bcell hb2
  have z2 : w1.heap.size ≤ w2.heap.size := hb2.size
  have y2 : w.heap.size < w2.heap.size := by omega
  go_wp2_with fail
  refine (h2 _).mono ?_; rintro e w3 ⟨rfl, hb3⟩; obtain ⟨hc3, hf3⟩ := bcell hb3
  have z3 : w2.heap.size + 1 ≤ w3.heap.size := by simpa using hb3.size
  have y3 : w.heap.size < w3.heap.size := by omega
  have q3 : w2.heap.size < w3.heap.size := by omega
  have HX : Below w.heap.size w w3 := below_next (below_next (below_box hb1) hb2) (below_box hb3)
  go_wp2_with fail
  have HY : Below w.heap.size w (w3.alloc (.cells #[.int .u64 (hiOf s : Nat), .int .u64 (loOf s : Nat)] 25)) := HX.alloc (by omega) _
  have K0 : Has (w3.alloc (.cells #[.int .u64 (hiOf s : Nat), .int .u64 (loOf s : Nat)] 25)) w.heap.size v := ⟨by simp; omega, by go_simp, by go_simp, by go_simp, by go_simp⟩
  have K2 : Has (w3.alloc (.cells #[.int .u64 (hiOf s : Nat), .int .u64 (loOf s : Nat)] 25)) w2.heap.size s := ⟨by simp; omega, by go_simp, by go_simp, by go_simp, by go_simp⟩
  have K3 : Has (w3.alloc (.cells #[.int .u64 (hiOf s : Nat), .int .u64 (loOf s : Nat)] 25)) w3.heap.size s := ⟨by simp, by go_simp, by go_simp, by go_simp, by go_simp⟩
  clear hc1 hf1 hc2 hf2 hc3 hf3 hb1 hb2 hb3 z1 y1 z2 y2 z3 y3 q3 HX
  generalize w3.alloc (.cells #[.int .u64 (hiOf s : Nat), .int .u64 (loOf s : Nat)] 25) = wz at *
  generalize w2.heap.size = b2 at *
  generalize w3.heap.size = b3 at *
  obtain ⟨k0s, k0h, k0l, -, -⟩ := K0
  obtain ⟨k2s, k2h, k2l, -, -⟩ := K2
  obtain ⟨k3s, k3h, k3l, -, -⟩ := K3
  go_region_held3 (fun x => x.cell? ⟨w.heap.size, 0, none⟩ = some (.int .u64 (hiOf v : Nat)) ∧ x.cell? ⟨w.heap.size, 1, none⟩ = some (.int .u64 (loOf v : Nat)) ∧
      x.cell? ⟨b2, 0, none⟩ = some (.int .u64 (hiOf s : Nat)) ∧ x.cell? ⟨b2, 1, none⟩ = some (.int .u64 (loOf s : Nat)) ∧ x.cell? ⟨b3, 0, none⟩ = some (.int .u64 (hiOf s : Nat)) ∧ x.cell? ⟨b3, 1, none⟩ = some (.int .u64 (loOf s : Nat)))
    (first
      | go_keep
      | (refine held_three (x := wz.drew) ⟨k0h, k0l, k2h, k2l, k3h, k3l⟩ (by assumption))
      | (refine held_three ?_ (by assumption); assumption))
    (first
      | (go_at_call 21; refine (root_c v HV.out _).mono ?_; rintro e w4 ⟨rfl, hb4⟩)
      | (go_at_call 22; refine (rroot_c v HV.out _).mono ?_; rintro e w5 ⟨rfl, hb5⟩))
  all_goals go_wp2
  all_goals go_ret
  all_goals first
    | exact ⟨rfl, below_next (below_next HY.drew hb4) hb5⟩
    | exact ⟨rfl, below_next (below_next HY.drew hb5) hb4⟩

theorem roots_c (v : Nat) (n : Int) (hv : v < M) (w : World) :
    Calls Try.prog 6 #[.agg #[.int .u64 (hiOf v : Nat), .int .u64 (loOf v : Nat)], .int .i64 n] w fun e w' => e = .returned (.bool true) ∧ Below w.heap.size w w' := by
  by_cases h : 0 ≤ n ∧ n ≤ 127
  · obtain ⟨m, rfl⟩ := Int.eq_ofNat_of_zero_le h.1
    exact roots_of v (v * 2 ^ m) (okN v m) m hv (fun W => shift_c v m hv (by omega) W) (fun W => rshift_c v m hv (by omega) W) w
  · exact roots_of v v false n hv (fun W => shift_no v n (by omega) W) (fun W => rshift_no v n (by omega) W) w
end Go.Proofs.Ytbkjmcpdeckcgaa
