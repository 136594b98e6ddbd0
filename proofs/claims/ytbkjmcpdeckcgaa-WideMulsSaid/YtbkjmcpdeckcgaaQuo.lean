/-
  The program's quotient, and its rounded one.
-/
import Derived.Test.YtbkjmcpdeckcgaaRefN
import Derived.Test.YtbkjmcpdeckcgaaDiv
namespace Go.Proofs.Ytbkjmcpdeckcgaa
open Go.RowKit

/-- A quotient of words, whatever the upper half. -/
theorem div64_any (h l y : Nat) (hh : h < y) (hl : l < 18446744073709551616) (hy : y < 18446744073709551616) (w : World) :
    Calls Try.prog 28 #[.int .u64 h, .int .u64 l, .int .u64 y] w fun e w' => e = .returned (.tuple #[.int .u64 ((h * 18446744073709551616 + l) / y : Nat), .int .u64 ((h * 18446744073709551616 + l) % y : Nat)]) ∧ Below w.heap.size w w' := by
  rcases Nat.eq_zero_or_pos h with h0 | h0
  · subst h0
    have := div64_low l y hl (by omega) hy w
    rw [Nat.zero_mul, Nat.zero_add]
    exact this
  · exact div64_c h l y hh h0 hl hy w
theorem div64_q (h l y q r : Nat) (hh : h < y) (hl : l < 18446744073709551616) (hy : y < 18446744073709551616) (hq : (h * 18446744073709551616 + l) / y = q) (hr : (h * 18446744073709551616 + l) % y = r) (w : World) :
    Calls Try.prog 28 #[.int .u64 h, .int .u64 l, .int .u64 y] w fun e w' => e = .returned (.tuple #[.int .u64 (q : Nat), .int .u64 (r : Nat)]) ∧ Below w.heap.size w w' := by
  subst hq hr
  exact div64_any h l y hh hl hy w

set_option maxRecDepth 100000 in
theorem div_no (v : Nat) (w : World) :
    Calls Try.prog 15 #[.agg #[.int .u64 (hiOf v : Nat), .int .u64 (loOf v : Nat)], .int .u64 0] w fun e w' =>
      e = .returned (.tuple #[.agg #[.int .u64 0, .int .u64 0], .int .u64 0, .int .i64 1]) ∧ Below w.heap.size w w' := by
  go_enter Try.func15, Try.ntmps15
  go_wp2
  exact bodyPost_ret (v := .tuple #[.agg #[.int .u64 0, .int .u64 0], .int .u64 0, .int .i64 1]) (by simp [results, Try.results15, go_sem]) rfl
        ⟨rfl, ((Below.refl _ _).alloc (Nat.le_refl _) _).alloc (by simp) _⟩

theorem long_of {h l d q1 r q0 x : Nat} (e1 : d * q1 + r = h) (e2 : d * q0 + x = r * 18446744073709551616 + l) : d * (q1 * 18446744073709551616 + q0) + x = h * 18446744073709551616 + l := by
  rw [Nat.mul_add, ← Nat.mul_assoc]
  omega
theorem long_div {v d : Nat} (hv : v < M) (hd0 : 0 < d) (_hd : d < 18446744073709551616) :
    hiOf v / d = hiOf (v / d) ∧ (hiOf v % d * 18446744073709551616 + loOf v) / d = loOf (v / d) ∧ (hiOf v % d * 18446744073709551616 + loOf v) % d = v % d := by
  have hvl := val_hl hv
  have hl := loOf_lt v
  have hh := hiOf_lt v
  generalize hiOf v = h at *
  generalize loOf v = l at *
  have e1 : d * (h / d) + h % d = h := Nat.div_add_mod _ _
  have r1 : h % d < d := Nat.mod_lt _ hd0
  have e2 : d * ((h % d * 18446744073709551616 + l) / d) + (h % d * 18446744073709551616 + l) % d = h % d * 18446744073709551616 + l := Nat.div_add_mod _ _
  have r2 : (h % d * 18446744073709551616 + l) % d < d := Nat.mod_lt _ hd0
  have b2 : (h % d * 18446744073709551616 + l) / d < 18446744073709551616 := by
    rw [Nat.div_lt_iff_lt_mul hd0]
    have : (h % d + 1) * 18446744073709551616 ≤ d * 18446744073709551616 := Nat.mul_le_mul_right _ r1
    rw [Nat.mul_comm 18446744073709551616]
    omega
  have b1 : h / d < 18446744073709551616 := Nat.lt_of_le_of_lt (Nat.div_le_self _ _) hh
  obtain ⟨a, b⟩ := split_unique hd0 ((long_of e1 e2).trans hvl) r2 rfl
  rw [a, b]
  exact ⟨(hi_val b1 b2).symm, (lo_val b1 b2).symm, rfl⟩

set_option maxRecDepth 100000 in
set_option maxHeartbeats 1000000 in
theorem div_c (v d : Nat) (hv : v < M) (hd0 : 0 < d) (hd : d < 18446744073709551616) (w : World) :
    Calls Try.prog 15 #[.agg #[.int .u64 (hiOf v : Nat), .int .u64 (loOf v : Nat)], .int .u64 d] w fun e w' =>
      e = .returned (.tuple #[.agg #[.int .u64 (hiOf (v / d) : Nat), .int .u64 (loOf (v / d) : Nat)], .int .u64 (v % d : Nat), .int .i64 0]) ∧ Below w.heap.size w w' := by
  obtain ⟨g1, g2, g3⟩ := long_div hv hd0 hd
  have hh := hiOf_lt v
  have hl := loOf_lt v
  have r1 : hiOf v % d < d := Nat.mod_lt _ hd0
  have b1 : hiOf v / d ≤ hiOf v := Nat.div_le_self _ _
  obtain ⟨R, hR⟩ : ∃ R, hiOf v % d = R := ⟨_, rfl⟩
  obtain ⟨Q, hQ⟩ : ∃ Q, hiOf v / d = Q := ⟨_, rfl⟩
  rw [hR] at g2 g3 r1
  rw [hQ] at g1 b1
  have td : ((d : Int) == 0) = false := by rw [beq_eq_false_iff_ne]; omega
  have T1 : (hiOf v : Int) / (d : Int) = (Q : Int) := by rw [← hQ]; simp
  have T2 : (hiOf v : Int) % (d : Int) = (R : Int) := by rw [← hR]; simp
  have G1 := Lib.hid g1
  have G2 := Lib.hid g2
  have G3 := Lib.hid g3
  clear g1 g2 g3 hR hQ hv
  go_enter Try.func15, Try.ntmps15
  go_wp2_with fail
  go_quiet (fail)
  go_wp2_with (go_at_call 28; refine (div64_q R (loOf v) d _ _ r1 hl hd G2.out G3.out _).mono ?_; rintro e w1 ⟨rfl, hb1⟩; obtain ⟨hc, hf⟩ := bcell hb1; have hz1 : w.heap.size + 1 + 1 ≤ w1.heap.size := (by simpa using hb1.size))
  have hb0 : Below w.heap.size w w1 := (below_drewN (((Below.refl _ _).alloc (Nat.le_refl _) _).alloc (by simp) _) _).trans (hb1.mono (by simp; omega))
  refine bodyPost_ret (v := .tuple #[.agg #[.int .u64 (Q : Nat), .int .u64 (loOf (v / d) : Nat)], .int .u64 ((v : Int) % d), .int .i64 0]) (by simp [results, Try.results15, go_sem, hc]) rfl
    ⟨ret_div (by rw [G1.out]) rfl (by simp), below_put hb0 (by omega) _ _⟩

theorem add1_c (u : Nat) (hu : u < M) (w : World) :
    Calls Try.prog 11 #[.agg #[.int .u64 (hiOf u : Nat), .int .u64 (loOf u : Nat)], .agg #[.int .u64 0, .int .u64 1]] w fun e w' =>
      e = .returned (.tuple #[.agg #[.int .u64 (hiOf (u + 1) : Nat), .int .u64 (loOf (u + 1) : Nat)], .bool (ovf (u + 1))]) ∧ Below w.heap.size w w' :=
  add_c u 1 hu (by decide) w
theorem div_q (v d q r : Nat) (hv : v < M) (hd0 : 0 < d) (hd : d < 18446744073709551616) (hq : v / d = q) (hr : v % d = r) (w : World) :
    Calls Try.prog 15 #[.agg #[.int .u64 (hiOf v : Nat), .int .u64 (loOf v : Nat)], .int .u64 d] w fun e w' =>
      e = .returned (.tuple #[.agg #[.int .u64 (hiOf q : Nat), .int .u64 (loOf q : Nat)], .int .u64 (r : Nat), .int .i64 0]) ∧ Below w.heap.size w w' := by
  subst hq hr
  exact div_c v d hv hd0 hd w

set_option maxRecDepth 100000 in
set_option maxHeartbeats 1000000 in
theorem round_no (v : Nat) (w : World) :
    Calls Try.prog 17 #[.agg #[.int .u64 (hiOf v : Nat), .int .u64 (loOf v : Nat)], .int .u64 0] w fun e w' =>
      e = .returned (.tuple #[.int .u64 0, .int .i64 1]) ∧ Below w.heap.size w w' := by
  go_enter Try.func17, Try.ntmps17
  go_wp2_with (go_at_call 15; refine (div_no v _).mono ?_; rintro e w1 ⟨rfl, hb1⟩; obtain ⟨hc, hf⟩ := bcell hb1)
  go_ret2
  exact ⟨rfl, (((Below.refl _ _).alloc (Nat.le_refl _) _).trans (hb1.mono (by simp))).alloc (by have := hb1.size; simp at this; omega) _⟩

set_option maxRecDepth 100000 in
set_option maxHeartbeats 1000000 in
theorem round_c (v d : Nat) (hv : v < M) (hd0 : 0 < d) (hd : d < 18446744073709551616) (w : World) :
    Calls Try.prog 17 #[.agg #[.int .u64 (hiOf v : Nat), .int .u64 (loOf v : Nat)], .int .u64 d] w fun e w' =>
      e = .returned (.tuple #[.int .u64 (rndV v d : Nat), .int .i64 (rndE v d)]) ∧ Below w.heap.size w w' := by
  obtain ⟨r, hr⟩ : ∃ r, v % d = r := ⟨_, rfl⟩
  obtain ⟨q, hq⟩ : ∃ q, v / d = q := ⟨_, rfl⟩
  have hrd : r < d := by rw [← hr]; exact Nat.mod_lt v hd0
  have HQ := Lib.hid (show q < M by rw [← hq]; exact q_lt hv)
  have HV := Lib.hid hv
  have Hq := Lib.hid hq
  have Hr := Lib.hid hr
  clear hv hq hr
  go_enter Try.func17, Try.ntmps17
  go_wp2_with (first
    | (go_at_call 15; refine (div_q v d q r HV.out hd0 hd Hq.out Hr.out _).mono ?_; rintro e w1 ⟨rfl, hb1⟩; obtain ⟨hc, hf⟩ := bcell hb1; have hz1 : w.heap.size + 1 ≤ w1.heap.size := (by simpa using hb1.size))
    | (go_at_call 11; refine (add1_c q HQ.out _).mono ?_; rintro e w2 ⟨rfl, hb2⟩; obtain ⟨hc2, hf2⟩ := bcell hb2; have hz2 := hb2.size))
  · have h1 : (d : Int) - r ≤ r := by assumption
    have h2 : ((hiOf (q + 1) : Int) != 0) = true := by assumption
    have hx := (rnd_up Hq.out Hr.out (by omega)).2 (by have := WalkArith.int_ne' h2; omega)
    have hbb := below_put (b := w1.heap.size) ((((below_box hb1).alloc (by omega) _).trans (hb2.mono (by simp; omega)))) (by omega) (.int .u64 (hiOf (q + 1) : Nat)) (.int .u64 (loOf (q + 1) : Nat))
    go_ret2
    exact ⟨ret_rnd (by rw [hx.1]; rfl) (by rw [hx.2]), hbb⟩
  · have h1 : (d : Int) - r ≤ r := by assumption
    have h2 : ((hiOf (q + 1) : Int) != 0) = false := by assumption
    have hx := (rnd_up Hq.out Hr.out (by omega)).1 (by have := WalkArith.int_eq' h2; omega)
    have hbb := below_put (b := w1.heap.size) ((((below_box hb1).alloc (by omega) _).trans (hb2.mono (by simp; omega)))) (by omega) (.int .u64 (hiOf (q + 1) : Nat)) (.int .u64 (loOf (q + 1) : Nat))
    go_ret2
    exact ⟨ret_rnd (by rw [hx.1]) (by rw [hx.2]), hbb⟩
  · have h1 : (r : Int) < d - r := by assumption
    have h2 : ((hiOf q : Int) != 0) = true := by assumption
    have hx := (rnd_down Hq.out Hr.out (by omega)).2 (by have := WalkArith.int_ne' h2; omega)
    go_ret2
    exact ⟨ret_rnd (by rw [hx.1]; rfl) (by rw [hx.2]), (below_box hb1).alloc (by omega) _⟩
  · have h1 : (r : Int) < d - r := by assumption
    have h2 : ((hiOf q : Int) != 0) = false := by assumption
    have hx := (rnd_down Hq.out Hr.out (by omega)).1 (by have := WalkArith.int_eq' h2; omega)
    go_ret2
    exact ⟨ret_rnd (by rw [hx.1]) (by rw [hx.2]), (below_box hb1).alloc (by omega) _⟩
end Go.Proofs.Ytbkjmcpdeckcgaa
