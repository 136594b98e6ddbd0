/-
  The statements of layer 4, walked, the first part: the fixed fact; floats as numbers, numbers as floats, the order, there and back. @P@ is the text of the program's own contracts.
-/
import Derived.Test.YtcppcfjejalggaaFloP
set_option linter.unusedSimpArgs false
set_option linter.unusedVariables false
namespace Go.Proofs.Ytcppcfjejalggaa.LW
open Go.RowKit
theorem sorted_four : sortF [4607182418800017408, 9221120237041090561, 0, 9223372036854775808] = [9221120237041090561, 9223372036854775808, 0, 4607182418800017408] := by decide +kernel
theorem frN_tenth : frN 4591870180066957722 = (false, 100000, 0) := by decide +kernel
theorem kind_less : fKind (toB (-1)) = 2 := by rw [toB_kind (by decide) (by decide)]; rfl
set_option maxRecDepth 100000 in
set_option maxHeartbeats 2000000 in
theorem alive_c (w : World) : Calls Try.prog 8 #[] w fun e w' => e = .returned (.bool true) ∧ Below w.heap.size w w' := by
  have p1 := LP.from_c 4591870180066957722 (by decide)
  rw [frN_tenth] at p1
  have k0 := LP.kind_c 9221120237041090561 (by decide)
  have k1 := LP.kind_c 9223372036854775808 (by decide)
  have k2 := LP.kind_c 0 (by decide)
  have k3 := LP.kind_c 4607182418800017408 (by decide)
  have k4 := LP.kind_c (toB (-1)) (toB_lt (by decide) (by decide))
  rw [show fKind 9221120237041090561 = 0 from by decide +kernel] at k0
  rw [show fKind 9223372036854775808 = 3 from by decide +kernel] at k1
  rw [show fKind 0 = 4 from by decide +kernel] at k2
  rw [show fKind 4607182418800017408 = 5 from by decide +kernel] at k3
  rw [kind_less] at k4
  have t := LP.to_some (-1) (by decide) (by decide)
  generalize toB (-1) = TB at *
  have f1 : ∀ w : World, (callFunc 25 #[.int .u64 9221120237041090561]).run Try.prog w = .ok (.value (.float .f64 9221120237041090561)) w := fun w => LR.from_run 9221120237041090561 w
  have f2 : ∀ w : World, (callFunc 25 #[.int .u64 9223372036854775808]).run Try.prog w = .ok (.value (.float .f64 9223372036854775808)) w := fun w => LR.from_run 9223372036854775808 w
  have P1 := Lib.hid p1; have K0 := Lib.hid k0; have K1 := Lib.hid k1; have K2 := Lib.hid k2; have K3 := Lib.hid k3; have K4 := Lib.hid k4; have T := Lib.hid t
  clear p1 k0 k1 k2 k3 k4 t
  go_enter Try.func8, Try.ntmps8
  go_wp2_with fail
  refine (P1.out _).mono ?_; rintro e w1 ⟨rfl, hb1⟩; obtain ⟨hc1, hf1⟩ := bcell hb1
  have HX := Lib.hid hb1
  go_wp2_with fail
  have hs := LP.sorted_c (.slice (some ⟨w1.heap.size + 1, 0, none⟩) 4 4) [4607182418800017408, 9221120237041090561, 0, 9223372036854775808] (by decide) (by decide)
  rw [sorted_four] at hs
  refine (hs _ ⟨_, 4, rfl, by decide, fun _ => ⟨_, _, rfl, fun i n hi => ?_⟩⟩).mono ?_
  · rcases i with _ | _ | _ | _ | i
    all_goals simp at hi
    all_goals subst hi
    all_goals go_simp
  rintro e w2 ⟨v', rfl, hv, hb2⟩; obtain ⟨hc2, hf2⟩ := bcell hb2
  obtain ⟨A, cap, rfl, hcap, hx⟩ := hv
  obtain ⟨b, off, rfl, hf⟩ := hx (by simp)
  have F2 := Lib.hid hf
  have H2 := Lib.hid (below_next (below_next HX.out ((Below.refl _ _).alloc (Nat.le_refl _) _)) ((((Below.refl _ _).alloc (Nat.le_refl _) _)).trans (hb2.mono (by simp))))
  have x0 : w2.cell? ⟨b, off, none⟩ = some (.float .f64 9221120237041090561) := F2.out 0 _ rfl
  have hcap4 : 4 ≤ cap := hcap
  clear hf hx hcap
  simp only [List.length_cons, List.length_nil]
  go_wp2_with fail
  refine (K0.out _).mono ?_; rintro e w3 ⟨rfl, hb3⟩
  have F3 := Lib.hid (F2.out.below hb3)
  have H3 := Lib.hid (below_next H2.out hb3)
  have x1 : w3.cell? ⟨b, off + 1, none⟩ = some (.float .f64 9223372036854775808) := F3.out 1 _ rfl
  clear hb3
  go_wp2_with fail
  refine (K1.out _).mono ?_; rintro e w4 ⟨rfl, hb4⟩
  have F4 := Lib.hid (F3.out.below hb4)
  have H4 := Lib.hid (below_next H3.out hb4)
  have x2 : w4.cell? ⟨b, off + 2, none⟩ = some (.float .f64 0) := F4.out 2 _ rfl
  clear hb4
  go_wp2_with fail
  refine (K2.out _).mono ?_; rintro e w5 ⟨rfl, hb5⟩
  have F5 := Lib.hid (F4.out.below hb5)
  have H5 := Lib.hid (below_next H4.out hb5)
  have x3 : w5.cell? ⟨b, off + 3, none⟩ = some (.float .f64 4607182418800017408) := F5.out 3 _ rfl
  clear hb5
  go_wp2_with fail
  refine (K3.out _).mono ?_; rintro e w6 ⟨rfl, hb6⟩
  have F6 := Lib.hid (F5.out.below hb6)
  have H6 := Lib.hid (below_next H5.out hb6)
  clear hb6
  go_wp2_with fail
  refine (T.out _).mono ?_; rintro e w7 ⟨rfl, hb7⟩
  have H7 := Lib.hid (below_next H6.out hb7)
  clear hb7
  go_wp2_with fail
  refine (K4.out _).mono ?_; rintro e w8 ⟨rfl, hb8⟩
  go_wp2
  go_ret
  exact ⟨rfl, below_next H7.out hb8⟩
set_option maxRecDepth 100000 in
set_option maxHeartbeats 2000000 in
theorem floatsFrom_c (n : Nat) (hn : n < 18446744073709551616) (w : World) : Calls Try.prog 3 #[.float .f64 n] w fun e w' => e = .returned (.bool true) ∧ Below w.heap.size w w' := by
  have P1 := Lib.hid (LP.from_c n hn); have R1 := Lib.hid (LR.from_c n hn)
  have P2 := Lib.hid (LP.kind_c n hn); have R2 := Lib.hid (LR.kind_c n hn)
  generalize (frN n).1 = p at *
  generalize (frN n).2.1 = q at *
  generalize (frN n).2.2 = r at *
  generalize fKind n = k at *
  go_enter Try.func3, Try.ntmps3
  go_wp2_with fail
  refine (alive_c _).mono ?_; rintro e w1 ⟨rfl, hb1⟩; obtain ⟨hc1, hf1⟩ := bcell hb1
  go_wp2_with fail
  refine (P1.out _).mono ?_; rintro e w2 ⟨rfl, hb2⟩; obtain ⟨hc2, hf2⟩ := bcell hb2
  have HX := Lib.hid (below_next hb1 hb2)
  go_wp2_with fail
  refine (R1.out _).mono ?_; rintro e w3 ⟨rfl, hb3⟩; obtain ⟨hc3, hf3⟩ := bcell hb3
  have z3 : w2.heap.size < w3.heap.size := (by have := hb3.size; simp at this; omega)
  have HY := Lib.hid (below_next HX.out (below_box hb3))
  go_wp2_with fail
  refine (P2.out _).mono ?_; rintro e w4 ⟨rfl, hb4⟩
  have HZ := Lib.hid (below_next HY.out (below_box hb4))
  go_wp2_with fail
  refine (R2.out _).mono ?_; rintro e w5 ⟨rfl, rfl⟩
  go_wp2
  go_ret
  exact ⟨rfl, HZ.out⟩
set_option maxRecDepth 100000 in
set_option maxHeartbeats 2000000 in
theorem floatsOrder_c (a b c : Nat) (ha : a < 18446744073709551616) (hb : b < 18446744073709551616) (hc : c < 18446744073709551616) (w : World) :
    Calls Try.prog 5 #[.float .f64 a, .float .f64 b, .float .f64 c] w fun e w' => e = .returned (.bool true) ∧ Below w.heap.size w w' := by
  have p1 := LP.cmp_c a b ha hb; have p2 := LP.cmp_c b a hb ha; have p3 := LP.cmp_c b c hb hc; have p4 := LP.cmp_c a c ha hc; have p5 := LP.cmp_c a a ha ha
  have r1 := LR.cmp_c a b ha hb
  rw [fCmp_self a ha] at p5
  have h1 := fCmp_anti ha hb
  have h2 := fCmp_trans ha hb hc
  have e1 : fCmp b a = -fCmp a b := by omega
  rw [e1] at p2
  have hr : -1 ≤ fCmp a b ∧ fCmp a b ≤ 1 := by rw [fCmp_rank ha hb]; split <;> (try split) <;> omega
  generalize fCmp a b = x at *
  generalize fCmp b c = y at *
  generalize fCmp a c = z at *
  have P1 := Lib.hid p1; have P2 := Lib.hid p2; have P3 := Lib.hid p3; have P4 := Lib.hid p4; have P5 := Lib.hid p5; have R1 := Lib.hid r1
  clear p1 p2 p3 p4 p5 r1 h1 e1
  go_enter Try.func5, Try.ntmps5
  go_wp2_with fail
  refine (alive_c _).mono ?_; rintro e w1 ⟨rfl, hb1⟩
  have H1 := Lib.hid hb1
  clear hb1
  go_wp2_with fail
  refine (P1.out _).mono ?_; rintro e w2 ⟨rfl, hb2⟩
  have H2 := Lib.hid (below_next H1.out hb2)
  clear hb2
  go_wp2_with fail
  refine (P2.out _).mono ?_; rintro e w3 ⟨rfl, hb3⟩
  have H3 := Lib.hid (below_next H2.out hb3)
  clear hb3
  go_wp2_with fail
  refine (P3.out _).mono ?_; rintro e w4 ⟨rfl, hb4⟩
  have H4 := Lib.hid (below_next H3.out hb4)
  clear hb4
  go_wp2_with fail
  refine (P4.out _).mono ?_; rintro e w5 ⟨rfl, hb5⟩
  have H5 := Lib.hid (below_next H4.out hb5)
  clear hb5
  go_wp2_with fail
  refine (R1.out _).mono ?_; rintro e w6 ⟨rfl, rfl⟩
  go_wp2_with fail
  refine (P5.out _).mono ?_; rintro e w7 ⟨rfl, hb7⟩
  have H7 := Lib.hid (below_next H5.out hb7)
  clear hb7
  by_cases g1 : 0 < x
  · go_wp2
    go_ret
    exact ⟨rfl, H7.out⟩
  · by_cases g2 : 0 < y
    · go_wp2
      go_ret
      exact ⟨rfl, H7.out⟩
    · have g3 : z ≤ 0 := (h2.resolve_left g1).resolve_left g2
      clear h2
      go_wp2
      go_ret
      exact ⟨rfl, H7.out⟩
theorem right_c (b : Bool) (v : Int) (z : Bool) (hz : (if b then v == 0 else v != -9223372036854775808) = z) (w : World) : Calls Try.prog 15 #[.agg #[.bool b, .int .i64 v]] w fun e w' => e = .returned (.bool z) ∧ Below w.heap.size w w' := by
  subst hz
  cases b
  · go_enter Try.func15, Try.ntmps15
    go_wp2
    go_ret
    exact ⟨rfl, (Below.refl _ _).alloc (Nat.le_refl _) _⟩
  · go_enter Try.func15, Try.ntmps15
    go_wp2
    go_ret
    exact ⟨rfl, (Below.refl _ _).alloc (Nat.le_refl _) _⟩
/-- The cells of a number lie on behind a call. -/
theorem held_num {x y : World} {b : Nat} {p q : Value} (h : x.cell? ⟨b, 0, none⟩ = some p ∧ x.cell? ⟨b, 1, none⟩ = some q) (hb : Below x.heap.size x y) : y.cell? ⟨b, 0, none⟩ = some p ∧ y.cell? ⟨b, 1, none⟩ = some q :=
  ⟨(hb.cell (World.block_lt_of_cell? x _ h.1)).trans h.1, (hb.cell (World.block_lt_of_cell? x _ h.2)).trans h.2⟩
set_option maxRecDepth 100000 in
set_option maxHeartbeats 2000000 in
theorem to_some (v : Int) (h1 : -9223372036854775807 ≤ v) (h2 : v ≤ 9223372036854775807) (w : World) : Calls Try.prog 4 #[.agg #[.bool false, .int .i64 v]] w fun e w' => e = .returned (.bool true) ∧ Below w.heap.size w w' := by
  have p1 := LP.to_some v h1 h2
  have r1 := LR.to_c false v (by omega)
  rw [rd_some rfl (by omega)] at r1
  have r2 := right_c false v true (by rw [if_neg (by decide), bne_iff_ne]; omega)
  have b1 := fun w => LR.bits_run (toB v) w
  change ∀ w : World, Calls _ _ _ w fun e w' => e = .returned (.float .f64 (toB v)) ∧ _ at r1
  generalize toB v = T at *
  have P1 := Lib.hid p1; have R1 := Lib.hid r1; have R2 := Lib.hid r2
  clear p1 r1 r2
  go_enter Try.func4, Try.ntmps4
  go_wp2_with fail
  refine (alive_c _).mono ?_; rintro e w1 ⟨rfl, hb1⟩; obtain ⟨hc1, hf1⟩ := bcell hb1
  have z1 : w.heap.size < w1.heap.size := (by have := hb1.size; simp at this; omega)
  have H1 := Lib.hid (below_box hb1)
  have K := Lib.hid (show w1.cell? ⟨w.heap.size, 0, none⟩ = some (.bool false) ∧ w1.cell? ⟨w.heap.size, 1, none⟩ = some (.int .i64 v) from ⟨by go_simp, by go_simp⟩)
  go_wp2_with fail
  go_region_held3 (fun y => y.cell? ⟨w.heap.size, 0, none⟩ = some (.bool false) ∧ y.cell? ⟨w.heap.size, 1, none⟩ = some (.int .i64 v))
    (first | go_keep | (refine held_num ?_ (by assumption); assumption))
    (first
      | (go_at_call 13; refine (P1.out _).mono ?_; rintro e w2 ⟨rfl, hb2⟩)
      | (go_at_call 14; refine (R1.out _).mono ?_; rintro e w3 ⟨rfl, hb3⟩))
  have HC := Lib.hid (below_next (below_next (Below.refl w1.heap.size w1).drew hb2) hb3)
  have H3 := Lib.hid (below_next H1.out HC.out)
  have K3 := Lib.hid (held_num K.out HC.out)
  obtain ⟨c0, c1⟩ := K3.out
  clear hc1 hf1 hb1 hb2 hb3 HC
  go_wp2_with fail
  refine (R2.out _).mono ?_; rintro e w4 ⟨rfl, hb4⟩
  go_wp2
  go_ret
  exact ⟨rfl, below_next H3.out hb4⟩
set_option maxRecDepth 100000 in
set_option maxHeartbeats 2000000 in
theorem to_none (b : Bool) (v : Int) (g : ¬ (b = false ∧ v ≠ -9223372036854775808)) (h1 : -9223372036854775808 ≤ v ∧ v ≤ 9223372036854775807) (w : World) : Calls Try.prog 4 #[.agg #[.bool b, .int .i64 v]] w fun e w' => e = .returned (.bool true) ∧ Below w.heap.size w w' := by
  have p1 := LP.to_none b v g h1
  have r1 := LR.to_c b v h1
  have r2 := right_c false v false
  have hv : b = false → v = -9223372036854775808 := fun hb => Decidable.byContradiction fun h => g ⟨hb, h⟩
  generalize LR.toA (rd b v) = T at *
  have P1 := Lib.hid p1; have R1 := Lib.hid r1; have R2 := Lib.hid r2; have HV := Lib.hid hv
  clear p1 r1 r2 hv g
  go_enter Try.func4, Try.ntmps4
  go_wp2_with fail
  refine (alive_c _).mono ?_; rintro e w1 ⟨rfl, hb1⟩; obtain ⟨hc1, hf1⟩ := bcell hb1
  have z1 : w.heap.size < w1.heap.size := (by have := hb1.size; simp at this; omega)
  have H1 := Lib.hid (below_box hb1)
  have K := Lib.hid (show w1.cell? ⟨w.heap.size, 0, none⟩ = some (.bool b) ∧ w1.cell? ⟨w.heap.size, 1, none⟩ = some (.int .i64 v) from ⟨by go_simp, by go_simp⟩)
  go_wp2_with fail
  go_region_held3 (fun y => y.cell? ⟨w.heap.size, 0, none⟩ = some (.bool b) ∧ y.cell? ⟨w.heap.size, 1, none⟩ = some (.int .i64 v))
    (first | go_keep | (refine held_num ?_ (by assumption); assumption))
    (first
      | (go_at_call 13; refine (P1.out _).mono ?_; rintro e w2 ⟨n, hn, hk, rfl, hb2⟩)
      | (go_at_call 14; refine (R1.out _).mono ?_; rintro e w3 ⟨rfl, hb3⟩))
  have HC := Lib.hid (below_next (below_next (Below.refl w1.heap.size w1).drew hb2) hb3)
  have H3 := Lib.hid (below_next H1.out HC.out)
  have K3 := Lib.hid (held_num K.out HC.out)
  obtain ⟨c0, c1⟩ := K3.out
  have k := LR.kind_c n hn
  rw [hk] at k
  have KC := Lib.hid k
  clear hc1 hf1 hb1 hb2 hb3 HC k hk
  cases b
  · have r := R2.out (by rw [if_neg (by decide), HV.out rfl]; rfl)
    have R := Lib.hid r
    clear r
    go_wp2_with fail
    refine (R.out _).mono ?_; rintro e w4 ⟨rfl, hb4⟩
    go_wp2_with fail
    refine (KC.out _).mono ?_; rintro e w5 ⟨rfl, rfl⟩
    go_wp2
    go_ret
    exact ⟨rfl, below_next H3.out hb4⟩
  · go_wp2_with fail
    refine (KC.out _).mono ?_; rintro e w5 ⟨rfl, rfl⟩
    go_wp2
    go_ret
    exact ⟨rfl, H3.out⟩
theorem floatsTo_c (b : Bool) (v : Int) (h1 : -9223372036854775808 ≤ v ∧ v ≤ 9223372036854775807) (w : World) : Calls Try.prog 4 #[.agg #[.bool b, .int .i64 v]] w fun e w' => e = .returned (.bool true) ∧ Below w.heap.size w w' := by
  by_cases g : b = false ∧ v ≠ -9223372036854775808
  · obtain ⟨rfl, hv⟩ := g
    exact to_some v (by omega) h1.2 w
  · exact to_none b v g h1 w
/-- The cells of two numbers lie on behind a call. -/
theorem held_two {x y : World} {a0 a1 : Nat} {p0 q0 p1 q1 : Value} (h : x.cell? ⟨a0, 0, none⟩ = some p0 ∧ x.cell? ⟨a0, 1, none⟩ = some q0 ∧ x.cell? ⟨a1, 0, none⟩ = some p1 ∧ x.cell? ⟨a1, 1, none⟩ = some q1) (hb : Below x.heap.size x y) :
    y.cell? ⟨a0, 0, none⟩ = some p0 ∧ y.cell? ⟨a0, 1, none⟩ = some q0 ∧ y.cell? ⟨a1, 0, none⟩ = some p1 ∧ y.cell? ⟨a1, 1, none⟩ = some q1 := by
  have k : ∀ p v, x.cell? p = some v → y.cell? p = some v := fun p v h => (hb.cell (World.block_lt_of_cell? x p h)).trans h
  exact ⟨k _ _ h.1, k _ _ h.2.1, k _ _ h.2.2.1, k _ _ h.2.2.2⟩
theorem nothing_c (w : World) : Calls Try.prog 24 #[] w fun e w' => e = .returned (.agg #[.bool true, .int .i64 0]) ∧ Below w.heap.size w w' := LR.nothing_c w
/-- What To answers, of any number: a float, a NaN where there is none. -/
theorem to_any (b : Bool) (v : Int) (h1 : -9223372036854775808 ≤ v ∧ v ≤ 9223372036854775807) (w : World) :
    Calls Try.prog 13 #[.agg #[.bool b, .int .i64 v]] w fun e w' => ∃ n : Nat, n < 18446744073709551616 ∧ (¬ (b = false ∧ v ≠ -9223372036854775808) → fKind n = 0) ∧ (b = false ∧ v ≠ -9223372036854775808 → n = toB v) ∧ e = .returned (.float .f64 n) ∧ Below w.heap.size w w' := by
  by_cases g : b = false ∧ v ≠ -9223372036854775808
  · obtain ⟨rfl, hv⟩ := g
    refine (LP.to_some v (by omega) h1.2 w).mono ?_
    rintro e w' ⟨he, hb⟩
    exact ⟨toB v, toB_lt (by omega) h1.2, fun hn => absurd ⟨rfl, hv⟩ hn, fun _ => rfl, he, hb⟩
  · refine (LP.to_none b v g h1 w).mono ?_
    rintro e w' ⟨n, hn, hk, he, hb⟩
    exact ⟨n, hn, fun _ => hk, fun h => absurd h g, he, hb⟩
set_option maxRecDepth 100000 in
set_option maxHeartbeats 2000000 in
theorem back_none (b : Bool) (v : Int) (c : Bool) (u : Int) (g : ¬ (b = false ∧ v ≠ -9223372036854775808)) (h1 : -9223372036854775808 ≤ v ∧ v ≤ 9223372036854775807) (h2 : -9223372036854775808 ≤ u ∧ u ≤ 9223372036854775807) (w : World) :
    Calls Try.prog 7 #[.agg #[.bool b, .int .i64 v], .agg #[.bool c, .int .i64 u]] w fun e w' => e = .returned (.bool true) ∧ Below w.heap.size w w' := by
  have P1 := Lib.hid (to_any b v h1)
  have P2 := Lib.hid (to_any c u h2)
  have R2 := Lib.hid (right_c false v false)
  have N := Lib.hid nothing_c
  have HV := Lib.hid (show b = false → v = -9223372036854775808 from fun hb => Decidable.byContradiction fun h => g ⟨hb, h⟩)
  have HGG := Lib.hid g
  clear g
  go_enter Try.func7, Try.ntmps7
  go_wp2_with fail
  refine (alive_c _).mono ?_; rintro e w1 ⟨rfl, hb1⟩; obtain ⟨hc1, hf1⟩ := bcell hb1
  have z1 : w.heap.size + 1 < w1.heap.size := (by have := hb1.size; simp at this; omega)
  have z10 : w.heap.size < w1.heap.size := by omega
  have H1 := Lib.hid ((((Below.refl _ _).alloc (Nat.le_refl _) _).alloc (by simp) _).trans (hb1.mono (by simp; omega)))
  have K := Lib.hid (show w1.cell? ⟨w.heap.size, 0, none⟩ = some (.bool b) ∧ w1.cell? ⟨w.heap.size, 1, none⟩ = some (.int .i64 v) ∧ w1.cell? ⟨w.heap.size + 1, 0, none⟩ = some (.bool c) ∧ w1.cell? ⟨w.heap.size + 1, 1, none⟩ = some (.int .i64 u) from ⟨by go_simp, by go_simp, by go_simp, by go_simp⟩)
  obtain ⟨i0, i1, i2, i3⟩ := K.out
  clear hc1 hf1 hb1
  go_wp2_with fail
  go_region_held3 (fun y => y.cell? ⟨w.heap.size, 0, none⟩ = some (.bool b) ∧ y.cell? ⟨w.heap.size, 1, none⟩ = some (.int .i64 v) ∧ y.cell? ⟨w.heap.size + 1, 0, none⟩ = some (.bool c) ∧ y.cell? ⟨w.heap.size + 1, 1, none⟩ = some (.int .i64 u))
    (first | go_keep | (refine held_two ?_ (by assumption); assumption))
    (first
      | (go_at_call 13; with_reducible refine (P1.out _).mono ?_; rintro e w2 ⟨n, hn, hk, _, rfl, hb2⟩)
      | (go_at_call 13; with_reducible refine (P2.out _).mono ?_; rintro e w3 ⟨m, _, _, _, rfl, hb3⟩))
  have HC := Lib.hid (below_next (below_next (Below.refl w1.heap.size w1).drew hb2) hb3)
  have H3 := Lib.hid (below_next H1.out HC.out)
  have z3 : w.heap.size + 1 < w3.heap.size := Nat.lt_of_lt_of_le z1 HC.out.size
  have K3 := Lib.hid (held_two K.out HC.out)
  have F := Lib.hid (LP.from_c n hn)
  rw [frN_nan (hk HGG.out)] at F
  clear i0 i1 i2 i3 hb2 hb3 HC hk
  go_wp2_with fail
  refine (F.out _).mono ?_; rintro e w4 ⟨rfl, hb4⟩; obtain ⟨hc4, hf4⟩ := bcell hb4
  have H4 := Lib.hid (below_next H3.out hb4)
  have z4 : w.heap.size + 1 < w4.heap.size := Nat.lt_of_lt_of_le z3 hb4.size
  have z40 : w.heap.size < w4.heap.size := by omega
  have K4 := Lib.hid (held_two K3.out hb4)
  obtain ⟨c0, c1, c2, c3⟩ := K4.out
  clear hc4 hf4 hb4
  cases b
  · have R := Lib.hid (R2.out (by rw [if_neg (by decide), HV.out rfl]; rfl))
    go_wp2_with fail
    refine (R.out _).mono ?_; rintro e w5 ⟨rfl, hb5⟩
    have b0 : w5.cell? ⟨w4.heap.size, 0, none⟩ = some (.bool true) := (hb5.cell (p := ⟨w4.heap.size, 0, none⟩) (by simp)).trans (by go_simp)
    have b1 : w5.cell? ⟨w4.heap.size, 1, none⟩ = some (.int .i64 0) := (hb5.cell (p := ⟨w4.heap.size, 1, none⟩) (by simp)).trans (by go_simp)
    have H5 := Lib.hid (below_next H4.out (below_box hb5))
    clear hb5
    go_wp2_with fail
    go_region_held3 (fun y => y.cell? ⟨w4.heap.size, 0, none⟩ = some (.bool true) ∧ y.cell? ⟨w4.heap.size, 1, none⟩ = some (.int .i64 0))
      (first | go_keep | (refine held_num ?_ (by assumption); assumption))
      (first
        | (go_at_call 24; refine (N.out _).mono ?_; rintro e w6 ⟨rfl, hb6⟩))
    go_wp2
    go_ret
    exact ⟨rfl, below_next (Below.drew H5.out) hb6⟩
  · go_wp2_with fail
    go_region_held3 (fun y => y.cell? ⟨w4.heap.size, 0, none⟩ = some (.bool true) ∧ y.cell? ⟨w4.heap.size, 1, none⟩ = some (.int .i64 0))
      (first | go_keep | (refine held_num ?_ (by assumption); assumption))
      (first
        | (go_at_call 24; refine (N.out _).mono ?_; rintro e w6 ⟨rfl, hb6⟩))
    go_wp2
    go_ret
    exact ⟨rfl, below_next (H4.out.alloc (by omega) _).drew hb6⟩
set_option maxRecDepth 100000 in
set_option maxHeartbeats 2000000 in
theorem back_some (v : Int) (c : Bool) (u : Int) (h0 : v ≠ -9223372036854775808) (h1 : -9223372036854775808 ≤ v ∧ v ≤ 9223372036854775807) (h2 : -9223372036854775808 ≤ u ∧ u ≤ 9223372036854775807) (w : World) :
    Calls Try.prog 7 #[.agg #[.bool false, .int .i64 v], .agg #[.bool c, .int .i64 u]] w fun e w' => e = .returned (.bool true) ∧ Below w.heap.size w w' := by
  have P1 := Lib.hid (to_any false v h1)
  have P2 := Lib.hid (to_any c u h2)
  have R2 := Lib.hid (right_c false v true (by rw [if_neg (by decide), bne_iff_ne]; exact h0))
  have HV0 := Lib.hid h0
  clear h0
  go_enter Try.func7, Try.ntmps7
  go_wp2_with fail
  refine (alive_c _).mono ?_; rintro e w1 ⟨rfl, hb1⟩; obtain ⟨hc1, hf1⟩ := bcell hb1
  have z1 : w.heap.size + 1 < w1.heap.size := (by have := hb1.size; simp at this; omega)
  have z10 : w.heap.size < w1.heap.size := by omega
  have H1 := Lib.hid ((((Below.refl _ _).alloc (Nat.le_refl _) _).alloc (by simp) _).trans (hb1.mono (by simp; omega)))
  have K := Lib.hid (show w1.cell? ⟨w.heap.size, 0, none⟩ = some (.bool false) ∧ w1.cell? ⟨w.heap.size, 1, none⟩ = some (.int .i64 v) ∧ w1.cell? ⟨w.heap.size + 1, 0, none⟩ = some (.bool c) ∧ w1.cell? ⟨w.heap.size + 1, 1, none⟩ = some (.int .i64 u) from ⟨by go_simp, by go_simp, by go_simp, by go_simp⟩)
  obtain ⟨i0, i1, i2, i3⟩ := K.out
  clear hc1 hf1 hb1
  go_wp2_with fail
  go_region_held3 (fun y => y.cell? ⟨w.heap.size, 0, none⟩ = some (.bool false) ∧ y.cell? ⟨w.heap.size, 1, none⟩ = some (.int .i64 v) ∧ y.cell? ⟨w.heap.size + 1, 0, none⟩ = some (.bool c) ∧ y.cell? ⟨w.heap.size + 1, 1, none⟩ = some (.int .i64 u))
    (first | go_keep | (refine held_two ?_ (by assumption); assumption))
    (first
      | (go_at_call 13; with_reducible refine (P1.out _).mono ?_; rintro e w2 ⟨n, hn, _, hk, rfl, hb2⟩)
      | (go_at_call 13; with_reducible refine (P2.out _).mono ?_; rintro e w3 ⟨m, hm, _, hkm, rfl, hb3⟩))
  have HC := Lib.hid (below_next (below_next (Below.refl w1.heap.size w1).drew hb2) hb3)
  have H3 := Lib.hid (below_next H1.out HC.out)
  have z3 : w.heap.size + 1 < w3.heap.size := Nat.lt_of_lt_of_le z1 HC.out.size
  have K3 := Lib.hid (held_two K.out HC.out)
  have F := Lib.hid (LP.from_c n hn)
  have C := Lib.hid (LP.cmp_c n m hn hm)
  have hnv := hk ⟨by trivial, HV0.out⟩
  have HKM := Lib.hid hkm
  have HNV := Lib.hid hnv
  have HSM := Lib.hid (show -2251799813685248 ≤ v → v ≤ 2251799813685248 → frN n = (false, v, 0) from fun a b => by rw [hnv]; exact toB_back a b)
  generalize (frN n) = Z at *
  obtain ⟨z0, z1, z2⟩ := Z
  clear i0 i1 i2 i3 hb2 hb3 HC hk hkm hnv
  go_wp2_with fail
  refine (F.out _).mono ?_; rintro e w4 ⟨rfl, hb4⟩; obtain ⟨hc4, hf4⟩ := bcell hb4
  have H4 := Lib.hid (below_next H3.out hb4)
  have z4 : w.heap.size + 1 < w4.heap.size := Nat.lt_of_lt_of_le z3 hb4.size
  have z40 : w.heap.size < w4.heap.size := by omega
  have K4 := Lib.hid (held_two K3.out hb4)
  obtain ⟨c0, c1, c2, c3⟩ := K4.out
  clear hc4 hf4 hb4
  go_wp2_with fail
  refine (R2.out _).mono ?_; rintro e w5 ⟨rfl, hb5⟩
  have b0 : w5.cell? ⟨w4.heap.size, 0, none⟩ = some (.bool z0) := (hb5.cell (p := ⟨w4.heap.size, 0, none⟩) (by simp)).trans (by go_simp)
  have b1 : w5.cell? ⟨w4.heap.size, 1, none⟩ = some (.int .i64 z1) := (hb5.cell (p := ⟨w4.heap.size, 1, none⟩) (by simp)).trans (by go_simp)
  have H5 := Lib.hid (below_next H4.out (below_box hb5))
  have K5 := Lib.hid (held_two K4.out (below_box hb5))
  clear c0 c1 c2 c3 hb5
  obtain ⟨c0, c1, c2, c3⟩ := K5.out
  by_cases hs1 : -2251799813685248 ≤ v
  · by_cases hs2 : v ≤ 2251799813685248
    · have hz := HSM.out hs1 hs2
      simp only [Prod.mk.injEq] at hz
      obtain ⟨rfl, e1, rfl⟩ := hz
      rw [e1] at b1
      clear e1 HSM
      cases c
      · by_cases hu : u = -9223372036854775808
        · have R3 := Lib.hid (right_c false u false (by rw [if_neg (by decide), bne_eq_false_iff_eq]; exact hu))
          clear hu
          go_wp2_with fail
          refine (R3.out _).mono ?_; rintro e w6 ⟨rfl, hb6⟩
          go_wp2
          go_ret
          exact ⟨rfl, below_next H5.out hb6⟩
        · have R3 := Lib.hid (right_c false u true (by rw [if_neg (by decide), bne_iff_ne]; exact hu))
          have HU := Lib.hid hu
          clear hu
          go_wp2_with fail
          refine (R3.out _).mono ?_; rintro e w6 ⟨rfl, hb6⟩
          have K6 := Lib.hid (held_two K5.out hb6)
          obtain ⟨d0, d1, d2, d3⟩ := K6.out
          have H6 := Lib.hid (below_next H5.out hb6)
          clear c0 c1 c2 c3 b0 b1 hb6
          by_cases hvu : u < v
          · go_wp2
            go_ret
            exact ⟨rfl, H6.out⟩
          · have hle := toB_rise (v := v) (u := u) (by have := HV0.out; omega) h1.2 (by have := HU.out; omega) h2.2 (by omega)
            have cc := C.out
            rw [HNV.out, HKM.out ⟨by trivial, HU.out⟩] at cc
            have hn' := HNV.out; have hm' := HKM.out ⟨by trivial, HU.out⟩
            rw [← hn', ← hm'] at cc hle
            generalize fCmp n m = y at *
            have CC := Lib.hid cc
            clear cc hn' hm'
            go_wp2_with fail
            refine (CC.out _).mono ?_; rintro e w7 ⟨rfl, hb7⟩
            go_wp2
            go_ret
            exact ⟨rfl, below_next H6.out hb7⟩
      · go_wp2
        go_ret
        exact ⟨rfl, H5.out⟩
    · clear HSM
      cases c
      · by_cases hu : u = -9223372036854775808
        · have R3 := Lib.hid (right_c false u false (by rw [if_neg (by decide), bne_eq_false_iff_eq]; exact hu))
          clear hu
          go_wp2_with fail
          refine (R3.out _).mono ?_; rintro e w6 ⟨rfl, hb6⟩
          go_wp2
          go_ret
          exact ⟨rfl, below_next H5.out hb6⟩
        · have R3 := Lib.hid (right_c false u true (by rw [if_neg (by decide), bne_iff_ne]; exact hu))
          have HU := Lib.hid hu
          clear hu
          go_wp2_with fail
          refine (R3.out _).mono ?_; rintro e w6 ⟨rfl, hb6⟩
          have K6 := Lib.hid (held_two K5.out hb6)
          obtain ⟨d0, d1, d2, d3⟩ := K6.out
          have H6 := Lib.hid (below_next H5.out hb6)
          clear c0 c1 c2 c3 b0 b1 hb6
          by_cases hvu : u < v
          · go_wp2
            go_ret
            exact ⟨rfl, H6.out⟩
          · have hle := toB_rise (v := v) (u := u) (by have := HV0.out; omega) h1.2 (by have := HU.out; omega) h2.2 (by omega)
            have cc := C.out
            rw [HNV.out, HKM.out ⟨by trivial, HU.out⟩] at cc
            have hn' := HNV.out; have hm' := HKM.out ⟨by trivial, HU.out⟩
            rw [← hn', ← hm'] at cc hle
            generalize fCmp n m = y at *
            have CC := Lib.hid cc
            clear cc hn' hm'
            go_wp2_with fail
            refine (CC.out _).mono ?_; rintro e w7 ⟨rfl, hb7⟩
            go_wp2
            go_ret
            exact ⟨rfl, below_next H6.out hb7⟩
      · go_wp2
        go_ret
        exact ⟨rfl, H5.out⟩
  · have hs2 : v ≤ 2251799813685248 := by omega
    clear HSM
    cases c
    · by_cases hu : u = -9223372036854775808
      · have R3 := Lib.hid (right_c false u false (by rw [if_neg (by decide), bne_eq_false_iff_eq]; exact hu))
        clear hu
        go_wp2_with fail
        refine (R3.out _).mono ?_; rintro e w6 ⟨rfl, hb6⟩
        go_wp2
        go_ret
        exact ⟨rfl, below_next H5.out hb6⟩
      · have R3 := Lib.hid (right_c false u true (by rw [if_neg (by decide), bne_iff_ne]; exact hu))
        have HU := Lib.hid hu
        clear hu
        go_wp2_with fail
        refine (R3.out _).mono ?_; rintro e w6 ⟨rfl, hb6⟩
        have K6 := Lib.hid (held_two K5.out hb6)
        obtain ⟨d0, d1, d2, d3⟩ := K6.out
        have H6 := Lib.hid (below_next H5.out hb6)
        clear c0 c1 c2 c3 b0 b1 hb6
        by_cases hvu : u < v
        · go_wp2
          go_ret
          exact ⟨rfl, H6.out⟩
        · have hle := toB_rise (v := v) (u := u) (by have := HV0.out; omega) h1.2 (by have := HU.out; omega) h2.2 (by omega)
          have cc := C.out
          rw [HNV.out, HKM.out ⟨by trivial, HU.out⟩] at cc
          have hn' := HNV.out; have hm' := HKM.out ⟨by trivial, HU.out⟩
          rw [← hn', ← hm'] at cc hle
          generalize fCmp n m = y at *
          have CC := Lib.hid cc
          clear cc hn' hm'
          go_wp2_with fail
          refine (CC.out _).mono ?_; rintro e w7 ⟨rfl, hb7⟩
          go_wp2
          go_ret
          exact ⟨rfl, below_next H6.out hb7⟩
    · go_wp2
      go_ret
      exact ⟨rfl, H5.out⟩
theorem floatsBack_c (b : Bool) (v : Int) (c : Bool) (u : Int) (h1 : -9223372036854775808 ≤ v ∧ v ≤ 9223372036854775807) (h2 : -9223372036854775808 ≤ u ∧ u ≤ 9223372036854775807) (w : World) :
    Calls Try.prog 7 #[.agg #[.bool b, .int .i64 v], .agg #[.bool c, .int .i64 u]] w fun e w' => e = .returned (.bool true) ∧ Below w.heap.size w w' := by
  by_cases g : b = false ∧ v ≠ -9223372036854775808
  · obtain ⟨rfl, hv⟩ := g
    exact back_some v c u hv h1 h2 w
  · exact back_none b v c u g h1 h2 w
end Go.Proofs.Ytcppcfjejalggaa.LW
