/-
  The statement on there and back, walked.
-/
import Derived.Test.YtbkjmcpdeckcgaaWalks
import Derived.Deep.RegionHeld3
import Derived.Deep.DeepCutAuto
namespace Go.Proofs.Ytbkjmcpdeckcgaa
open Go.RowKit

theorem root_d (d : Nat) (hd : d < 18446744073709551616) (w : World) :
    Calls Try.prog 21 #[.agg #[.int .u64 (hiOf (d * d) : Nat), .int .u64 (loOf (d * d) : Nat)]] w fun e w' => e = .returned (.int .u64 (d : Nat)) ∧ Below w.heap.size w w' := by
  have h := root_c (d * d) (prod_lt hd hd) w
  rw [rt_square hd] at h
  exact h
theorem root_0 (w : World) :
    Calls Try.prog 21 #[.agg #[.int .u64 0, .int .u64 0]] w fun e w' => e = .returned (.int .u64 0) ∧ Below w.heap.size w w' := root_d 0 (by decide) w
theorem mul_0 (w : World) :
    Calls Try.prog 9 #[.int .u64 0, .int .u64 0] w fun e w' => e = .returned (.agg #[.int .u64 0, .int .u64 0]) ∧ Below w.heap.size w w' := mul_c 0 0 (by decide) (by decide) w
/-- A sum whose first number has no lower half. -/
theorem add_hi (H x : Nat) (hH : H < 18446744073709551616) (hx : x < M) (w : World) :
    Calls Try.prog 11 #[.agg #[.int .u64 (H : Nat), .int .u64 0], .agg #[.int .u64 (hiOf x : Nat), .int .u64 (loOf x : Nat)]] w fun e w' =>
      e = .returned (.tuple #[.agg #[.int .u64 (hiOf (H * 18446744073709551616 + x) : Nat), .int .u64 (loOf (H * 18446744073709551616 + x) : Nat)], .bool (ovf (H * 18446744073709551616 + x))]) ∧ Below w.heap.size w w' := by
  have h := add_c (H * 18446744073709551616 + 0) x (val_lt hH (by decide)) hx w
  rw [hi_val hH (by decide), lo_val hH (by decide), Nat.add_zero] at h
  exact h
/-- A sum whose second number is a word. -/
theorem add_lo (u r : Nat) (hu : u < M) (hr : r < 18446744073709551616) (w : World) :
    Calls Try.prog 11 #[.agg #[.int .u64 (hiOf u : Nat), .int .u64 (loOf u : Nat)], .agg #[.int .u64 0, .int .u64 (r : Nat)]] w fun e w' =>
      e = .returned (.tuple #[.agg #[.int .u64 (hiOf (u + r) : Nat), .int .u64 (loOf (u + r) : Nat)], .bool (ovf (u + r))]) ∧ Below w.heap.size w w' := by
  have h := add_c u (0 * 18446744073709551616 + r) hu (val_lt (by decide) hr) w
  rw [hi_val (by decide) hr, lo_val (by decide) hr, Nat.zero_mul, Nat.zero_add] at h
  exact h

theorem held_two {x y : World} {a0 : Nat} {p0 q0 : Value} (h : x.cell? ⟨a0, 0, none⟩ = some p0 ∧ x.cell? ⟨a0, 1, none⟩ = some q0) (hb : Below x.heap.size x y) : y.cell? ⟨a0, 0, none⟩ = some p0 ∧ y.cell? ⟨a0, 1, none⟩ = some q0 := by
  have l : a0 < x.heap.size := World.block_lt_of_cell? x ⟨a0, 0, none⟩ h.1
  exact ⟨(hb.cell (p := ⟨a0, 0, none⟩) l).trans h.1, (hb.cell (p := ⟨a0, 1, none⟩) l).trans h.2⟩

/-- The quotient times the divisor, half by half. -/
theorem back_is {v d : Nat} (hv : v < M) (_hd0 : 0 < d) : hiOf (hiOf (v / d) * d) = 0 ∧ loOf (hiOf (v / d) * d) = hiOf (v / d) * d ∧ hiOf (v / d) * d < 18446744073709551616 ∧
    hiOf (v / d) * d * 18446744073709551616 + loOf (v / d) * d = v / d * d ∧ v / d * d + v % d = v ∧ v / d * d < M ∧ ovf (v / d * d) = false ∧ ovf v = false := by
  have hq := q_lt (d := d) hv
  have e := val_hl hq
  have e2 : d * (v / d) + v % d = v := Nat.div_add_mod _ _
  rw [Nat.mul_comm] at e2
  generalize v % d = r at *
  generalize v / d = q at *
  have e3 : hiOf q * d * 18446744073709551616 + loOf q * d = q * d := by
    rw [Nat.mul_right_comm, ← Nat.add_mul, e]
  have hM : M = 340282366920938463463374607431768211456 := rfl
  generalize hiOf q * d = H at *
  generalize loOf q * d = L at *
  generalize q * d = X at *
  refine ⟨?_, ?_, ?_, e3, e2, ?_, ?_, ?_⟩
  · unfold hiOf; omega
  · unfold loOf; omega
  · omega
  · omega
  · unfold ovf; rw [decide_eq_false_iff_not]; omega
  · unfold ovf; rw [decide_eq_false_iff_not]; omega

set_option maxRecDepth 100000 in
set_option maxHeartbeats 1000000 in
theorem back_no (v : Nat) (w : World) :
    Calls Try.prog 7 #[.agg #[.int .u64 (hiOf v : Nat), .int .u64 (loOf v : Nat)], .int .u64 0] w fun e w' => e = .returned (.bool true) ∧ Below w.heap.size w w' := by
  go_enter Try.func7, Try.ntmps7
  go_wp2_with fail
  refine (alive_c _).mono ?_; rintro e w1 ⟨rfl, hb1⟩; obtain ⟨hc1, hf1⟩ := bcell hb1
  have y1 : w.heap.size < w1.heap.size := by have := hb1.size; simp at this; omega
  go_wp2_with fail
  refine (mul_0 _).mono ?_; rintro e w2 ⟨rfl, hb2⟩; obtain ⟨hc2, hf2⟩ := bcell hb2
  have y2 : w.heap.size < w2.heap.size := Nat.lt_of_lt_of_le y1 hb2.size
  go_wp2_with fail
  refine (root_0 _).mono ?_; rintro e w3 ⟨rfl, hb3⟩; obtain ⟨hc3, hf3⟩ := bcell hb3
  have y3 : w.heap.size < w3.heap.size := Nat.lt_of_lt_of_le y2 hb3.size
  go_wp2_with fail
  refine (div_no v _).mono ?_; rintro e w4 ⟨rfl, hb4⟩; obtain ⟨hc4, hf4⟩ := bcell hb4
  go_wp2
  go_ret
  exact ⟨rfl, (below_next (below_next (below_next (below_box hb1) hb2) hb3) hb4).alloc (by have := hb4.size; omega) _⟩

set_option maxRecDepth 100000 in
set_option maxHeartbeats 1000000 in
theorem back_c (v d : Nat) (hv : v < M) (hd0 : 0 < d) (hd : d < 18446744073709551616) (w : World) :
    Calls Try.prog 7 #[.agg #[.int .u64 (hiOf v : Nat), .int .u64 (loOf v : Nat)], .int .u64 d] w fun e w' => e = .returned (.bool true) ∧ Below w.heap.size w w' := by
  have HB := Lib.hid (back_is hv hd0)
  obtain ⟨q, hq⟩ : ∃ q, v / d = q := ⟨_, rfl⟩
  obtain ⟨r, hr⟩ : ∃ r, v % d = r := ⟨_, rfl⟩
  rw [hq, hr] at HB
  have hrd : r < d := by rw [← hr]; exact Nat.mod_lt _ hd0
  have hh := hiOf_lt q
  have hl := loOf_lt q
  have td : ((d : Int) == 0) = false := by rw [beq_eq_false_iff_ne]; omega
  have Hq := Lib.hid hq; have Hr := Lib.hid hr; have HV := Lib.hid hv
  clear hq hr hv
  go_enter Try.func7, Try.ntmps7
  go_wp2_with fail
  refine (alive_c _).mono ?_; rintro e w1 ⟨rfl, hb1⟩; obtain ⟨hc1, hf1⟩ := bcell hb1
  have y1 : w.heap.size < w1.heap.size := by have := hb1.size; simp at this; omega
  go_wp2_with fail
  refine (mul_c d d hd hd _).mono ?_; rintro e w2 ⟨rfl, hb2⟩; obtain ⟨hc2, hf2⟩ := bcell hb2
  have y2 : w.heap.size < w2.heap.size := Nat.lt_of_lt_of_le y1 hb2.size
  go_wp2_with fail
  refine (root_d d hd _).mono ?_; rintro e w3 ⟨rfl, hb3⟩; obtain ⟨hc3, hf3⟩ := bcell hb3
  have y3 : w.heap.size < w3.heap.size := Nat.lt_of_lt_of_le y2 hb3.size
  go_wp2_with fail
  refine (div_q v d q r HV.out hd0 hd Hq.out Hr.out _).mono ?_; rintro e w4 ⟨rfl, hb4⟩; obtain ⟨hc4, hf4⟩ := bcell hb4
  have y4 : w.heap.size < w4.heap.size := Nat.lt_of_lt_of_le y3 hb4.size
  have HX : Below w.heap.size w w4 := below_next (below_next (below_next (below_box hb1) hb2) hb3) hb4
  go_wp2_with fail
  have HY : Below w.heap.size w (w4.alloc (.cells #[.int .u64 (hiOf q : Nat), .int .u64 (loOf q : Nat)] 25)) := HX.alloc (by omega) _
  have K0 : Has (w4.alloc (.cells #[.int .u64 (hiOf q : Nat), .int .u64 (loOf q : Nat)] 25)) w.heap.size v := ⟨by simp; omega, by go_simp, by go_simp, by go_simp, by go_simp⟩
  have K4 : Has (w4.alloc (.cells #[.int .u64 (hiOf q : Nat), .int .u64 (loOf q : Nat)] 25)) w4.heap.size q := ⟨by simp, by go_simp, by go_simp, by go_simp, by go_simp⟩
  clear hc1 hf1 hc2 hf2 hc3 hf3 hc4 hf4 hb1 hb2 hb3 hb4 y1 y2 y3 y4 HX
  generalize w4.alloc (.cells #[.int .u64 (hiOf q : Nat), .int .u64 (loOf q : Nat)] 25) = wz at *
  generalize w4.heap.size = b4 at *
  obtain ⟨k4s, k4h, k4l, -, -⟩ := K4
  go_cut [9, 10] (fun s t wx => ∃ b9 b10 : Nat, s = .pointer (some ⟨b9, 0, none⟩) ∧ t = .pointer (some ⟨b10, 0, none⟩) ∧ Has wx b9 (hiOf q * d) ∧ Has wx b10 (loOf q * d) ∧ Below wz.heap.size wz wx)
  case first =>
    have nz : wz.heap.size ≠ b4 := by omega
    have ez : wz.heap.size + 1 ≠ b4 := by omega
    go_region_held3 (fun x => x.cell? ⟨b4, 0, none⟩ = some (.int .u64 (hiOf q : Nat)) ∧ x.cell? ⟨b4, 1, none⟩ = some (.int .u64 (loOf q : Nat)))
      (first
        | go_keep
        | (refine held_two (x := wz.drew) ⟨k4h, k4l⟩ (by assumption))
        | (refine held_two ?_ (by assumption); assumption))
      (first
        | (go_at_call_of 9 (hiOf q); refine (mul_c _ d (by assumption) hd _).mono ?_; rintro e w5 ⟨rfl, hw5⟩; have Kw5 : w5.cell? ⟨b4, 0, none⟩ = some (.int .u64 (hiOf q : Nat)) ∧ w5.cell? ⟨b4, 1, none⟩ = some (.int .u64 (loOf q : Nat)) := (by first | exact held_two (by assumption) hw5 | exact held_two (x := wz.drew) ⟨k4h, k4l⟩ hw5); obtain ⟨cw5, dw5⟩ := Kw5; have nw5 := World.new_ne w5 ⟨b4, 0, none⟩ cw5; have mw5 : b4 < w5.heap.size := World.block_lt_of_cell? w5 ⟨b4, 0, none⟩ cw5; have ew5 : w5.heap.size + 1 ≠ b4 := (by omega); obtain ⟨hcw5, hfw5⟩ := bcell hw5; (try (have sw5wz : wz.heap.size ≤ w5.heap.size := (by have := hw5.size; (try simp at this); omega))); (try (have lw5wz : wz.heap.size < w5.heap.size := (by have := hw5.size; (try simp at this); omega))); (try (have kw5wz : wz.heap.size + 1 < w5.heap.size := (by have := hw5.size; (try simp at this); omega))))
        | (go_at_call_of 9 (loOf q); refine (mul_c _ d (by assumption) hd _).mono ?_; rintro e w6 ⟨rfl, hw6⟩; have Kw6 : w6.cell? ⟨b4, 0, none⟩ = some (.int .u64 (hiOf q : Nat)) ∧ w6.cell? ⟨b4, 1, none⟩ = some (.int .u64 (loOf q : Nat)) := (by first | exact held_two (by assumption) hw6 | exact held_two (x := wz.drew) ⟨k4h, k4l⟩ hw6); obtain ⟨cw6, dw6⟩ := Kw6; have nw6 := World.new_ne w6 ⟨b4, 0, none⟩ cw6; have mw6 : b4 < w6.heap.size := World.block_lt_of_cell? w6 ⟨b4, 0, none⟩ cw6; have ew6 : w6.heap.size + 1 ≠ b4 := (by omega); obtain ⟨hcw6, hfw6⟩ := bcell hw6; (try (have sw6w5 : w5.heap.size ≤ w6.heap.size := (by have := hw6.size; (try simp at this); omega))); (try (have lw6w5 : w5.heap.size < w6.heap.size := (by have := hw6.size; (try simp at this); omega))); (try (have kw6w5 : w5.heap.size + 1 < w6.heap.size := (by have := hw6.size; (try simp at this); omega))); (try (have sw6wz : wz.heap.size ≤ w6.heap.size := (by have := hw6.size; (try simp at this); omega))); (try (have lw6wz : wz.heap.size < w6.heap.size := (by have := hw6.size; (try simp at this); omega))); (try (have kw6wz : wz.heap.size + 1 < w6.heap.size := (by have := hw6.size; (try simp at this); omega)))))
    all_goals (try go_wp2_with fail)
    all_goals go_meet
    all_goals refine ⟨_, _, rfl, rfl, ?_, ?_, ?_⟩
    all_goals repeat (first
      | (with_reducible exact Below.refl _ _)
      | (with_reducible refine below_next ?_ hw6)
      | (with_reducible refine below_next ?_ hw5)
      | (with_reducible refine below_put ?_ ?_ _ _)
      | (with_reducible refine Below.alloc ?_ ?_ _)
      | (with_reducible refine Below.drew ?_)
      | (with_reducible refine Has.put (v := 0) ?_ _)
      | (with_reducible refine Has.put_other ?_ ?_ _ _)
      | (refine ⟨?_, ?_, ?_, ?_, ?_⟩ <;> (first | (go_simp; done) | (rw [hi0]; go_simp; done) | (rw [lo0]; go_simp; done) | (simp; done) | (simp; omega) | omega))
      | (with_reducible refine Has.alloc ?_ _)
      | (with_reducible refine Has.below ?_ hw6)
      | (with_reducible refine Has.below ?_ hw5))
    all_goals ((try simp [World.setCell]) <;> omega)
  case rest =>
    obtain ⟨b9, b10, rfl, rfl, K9, K10, hbx⟩ := hcut
    obtain ⟨g1, g2, g3, g4, g5, g6, g7, g8⟩ := HB.out
    obtain ⟨H, hH⟩ : ∃ H, H = hiOf q * d := ⟨_, rfl⟩
    obtain ⟨L, hL⟩ : ∃ L, L = loOf q * d := ⟨_, rfl⟩
    rw [← hH] at g1 g2 g3 g4 K9
    rw [← hL] at g4 K10
    have hLM : L < M := by rw [hL]; exact prod_lt hl hd
    have k0 := K0.below hbx
    obtain ⟨k0s, k0h, k0l, -, -⟩ := k0
    obtain ⟨k9s, k9h, k9l, -, -⟩ := K9
    obtain ⟨k10s, k10h, k10l, -, -⟩ := K10
    rw [g1] at k9h
    rw [g2] at k9l
    have HZ : Below w.heap.size w wc := below_next HY hbx
    have A1 := fun W => add_hi H L g3 hLM W
    rw [g4, g7] at A1
    have A2 := fun W => add_lo (q * d) r g6 (by omega) W
    rw [g5, g8] at A2
    have HA1 := Lib.hid A1
    have HA2 := Lib.hid A2
    clear A1 A2 g1 g2 g3 g4 g5 g6 g7 g8 hH hL HY K0 hbx k4s k4h k4l
    go_wp2_with fail
    refine (HA1.out _).mono ?_; rintro e w7 ⟨rfl, hb7⟩; obtain ⟨hc7, hf7⟩ := bcell hb7
    have y7 : w.heap.size < w7.heap.size := Nat.lt_of_lt_of_le k0s hb7.size
    have z7 : b9 < w7.heap.size := Nat.lt_of_lt_of_le k9s hb7.size
    go_wp2_with fail
    refine (HA2.out _).mono ?_; rintro e w8 ⟨rfl, hb8⟩; obtain ⟨hc8, hf8⟩ := bcell hb8
    have s8 : w7.heap.size + 1 ≤ w8.heap.size := by simpa using hb8.size
    have y8 : w.heap.size < w8.heap.size := by omega
    have z8 : b9 < w8.heap.size := by omega
    go_wp2
    go_ret
    exact ⟨rfl, (below_next (below_next HZ hb7) (below_box hb8)).alloc (by have := HZ.size; have := hb7.size; omega) _⟩
end Go.Proofs.Ytbkjmcpdeckcgaa
