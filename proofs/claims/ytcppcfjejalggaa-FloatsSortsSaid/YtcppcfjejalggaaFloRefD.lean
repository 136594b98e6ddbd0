/-
  Contracts of the document's own functions of layer 4 (isobarref04), the fourth part: To.
-/
import Derived.Test.YtcppcfjejalggaaFloRefC
import Derived.Test.YtcppcfjejalggaaFloMath3
import Derived.Test.YtcppcfjejalggaaMath2
import Derived.Test.YtcppcfjejalggaaWideRLess
import Derived.Deep.RegionHeld3
set_option linter.unusedSimpArgs false
set_option linter.unusedVariables false
namespace Go.Proofs.Ytcppcfjejalggaa.LR
open Go.RowKit
theorem held4 {x y : World} {a0 a1 : Nat} {p0 q0 p1 q1 : Value} (h : x.cell? ⟨a0, 0, none⟩ = some p0 ∧ x.cell? ⟨a0, 1, none⟩ = some q0 ∧ x.cell? ⟨a1, 0, none⟩ = some p1 ∧ x.cell? ⟨a1, 1, none⟩ = some q1) (hb : Below x.heap.size x y) :
    y.cell? ⟨a0, 0, none⟩ = some p0 ∧ y.cell? ⟨a0, 1, none⟩ = some q0 ∧ y.cell? ⟨a1, 0, none⟩ = some p1 ∧ y.cell? ⟨a1, 1, none⟩ = some q1 := by
  have k : ∀ p v, x.cell? p = some v → y.cell? p = some v := fun p v h => (hb.cell (World.block_lt_of_cell? x p h)).trans h
  exact ⟨k _ _ h.1, k _ _ h.2.1, k _ _ h.2.2.1, k _ _ h.2.2.2⟩
theorem right_f (v : Int) (z : Bool) (hz : (v != -9223372036854775808) = z) (w : World) : Calls Try.prog 15 #[.agg #[.bool false, .int .i64 v]] w fun e w' => e = .returned (.bool z) ∧ Below w.heap.size w w' := by
  subst hz
  go_enter Try.func15, Try.ntmps15
  go_wp2
  go_ret
  exact ⟨rfl, (Below.refl _ _).alloc (Nat.le_refl _) _⟩
set_option maxRecDepth 100000 in
set_option maxHeartbeats 2000000 in
theorem to_no (b : Bool) (v : Int) (g : ¬ (b = false ∧ v ≠ -9223372036854775808)) (w : World) :
    Calls Try.prog 14 #[.agg #[.bool b, .int .i64 v]] w fun e w' => e = .returned (.float .f64 9221120237041090561) ∧ Below w.heap.size w w' := by
  have hf : ∀ w : World, (callFunc 25 #[.int .u64 9221120237041090561]).run Try.prog w = .ok (.value (.float .f64 9221120237041090561)) w := fun w => from_run 9221120237041090561 w
  cases b
  · have hv : v = -9223372036854775808 := Decidable.byContradiction fun h => g ⟨rfl, h⟩
    have P := Lib.hid (right_f v false (by rw [bne_eq_false_iff_eq]; exact hv))
    clear g hv
    go_enter Try.func14, Try.ntmps14
    go_wp2_with fail
    refine (P.out _).mono ?_; rintro e w1 ⟨rfl, hb1⟩
    go_wp2
    go_ret
    exact ⟨rfl, below_box hb1⟩
  · clear g
    go_enter Try.func14, Try.ntmps14
    go_wp2
    go_ret
    exact ⟨rfl, (Below.refl _ _).alloc (Nat.le_refl _) _⟩
set_option maxRecDepth 100000 in
set_option maxHeartbeats 2000000 in
theorem to_zero (w : World) :
    Calls Try.prog 14 #[.agg #[.bool false, .int .i64 0]] w fun e w' => e = .returned (.float .f64 0) ∧ Below w.heap.size w w' := by
  have P := Lib.hid (right_f 0 true rfl)
  go_enter Try.func14, Try.ntmps14
  go_wp2_with fail
  refine (P.out _).mono ?_; rintro e w1 ⟨rfl, hb1⟩; obtain ⟨hc1, hf1⟩ := bcell hb1
  have z1 : w.heap.size < w1.heap.size := (by have := hb1.size; simp at this; omega)
  go_wp2
  go_ret
  exact ⟨rfl, below_box hb1⟩
set_option maxRecDepth 100000 in
set_option maxHeartbeats 2000000 in
theorem to_neg (v : Int) (h0 : -9223372036854775807 ≤ v) (h1 : v ≤ 9223372036854775807) (hv0 : v ≠ 0) (hneg : v < 0) (w : World) :
    Calls Try.prog 14 #[.agg #[.bool false, .int .i64 v]] w fun e w' => e = .returned (.float .f64 (toB v)) ∧ Below w.heap.size w w' := by
  obtain ⟨a, ha⟩ : ∃ a, v.natAbs = a := ⟨_, rfl⟩
  have ha0 : 0 < a := by omega
  have ha1 : a ≤ 9223372036854775807 := by omega
  have P := Lib.hid (right_f v true (by rw [bne_iff_ne]; omega))
  have HA := Lib.hid ha
  have HV0 := Lib.hid hv0
  have hvb : (v == 0) = false := by rw [beq_eq_false_iff_ne]; exact hv0
  clear hv0
  have hav : -v = (a : Int) := by omega
  clear ha
  go_enter Try.func14, Try.ntmps14
  go_wp2_with fail
  refine (P.out _).mono ?_; rintro e w1 ⟨rfl, hb1⟩; obtain ⟨hc1, hf1⟩ := bcell hb1
  have z1 : w.heap.size < w1.heap.size := (by have := hb1.size; simp at this; omega)
  have HX := Lib.hid (below_box hb1)
  go_wp2
  go_region
  go_wp2
  have hia : ((hiOf a : Nat) : Int) = 0 := by unfold hiOf; omega
  have hla : ((loOf a : Nat) : Int) = a := by unfold loOf; omega
  have hid : ((hiOf 1000000 : Nat) : Int) = 0 := by decide
  have hld : ((loOf 1000000 : Nat) : Int) = 1000000 := by decide
  go_loopw [7] (fun e wr => ∃ j : Nat, e = .int .i64 j ∧ Hid ((j = 0 ∨ 1000000 * 2 ^ j ≤ a) ∧ 1000000 * 2 ^ j < 9223372036854775808 ∧ Has wr w1.heap.size a ∧ Has wr (w1.heap.size + 1) (1000000 * 2 ^ j) ∧ Below w1.heap.size w1 wr)) (fun e _ => 64 - (intOf e).toNat)
  case atStart =>
    refine ⟨0, rfl, .inl rfl, by decide, ?_, ?_, (((Below.refl _ _).alloc (Nat.le_refl _) _).alloc (by simp) _).drew⟩
    · exact ⟨by simp; omega, by rw [hia]; go_simp, by rw [hla]; go_simp, by go_simp, by go_simp⟩
    · exact ⟨by simp, by rw [Nat.pow_zero, Nat.mul_one, hid]; go_simp, by rw [Nat.pow_zero, Nat.mul_one, hld]; go_simp, by go_simp, by go_simp⟩
  case round =>
    obtain ⟨j, rfl, HI⟩ := hrel
    obtain ⟨hj, hD, hN, hDen, hB⟩ := HI.out
    have hj64 : j < 64 := by
      rcases Nat.lt_or_ge j 64 with h | h
      · exact h
      · have := Nat.pow_le_pow_right (show 0 < 2 by decide) h
        omega
    have zr : w1.heap.size + 1 < wr.heap.size := hDen.lt
    have zr0 : w1.heap.size < wr.heap.size := by omega
    have c0 := hN.hi; have c1 := hN.lo; have c2 := hN.fh; have c3 := hN.fl
    have d0 := hDen.hi; have d1 := hDen.lo; have d2 := hDen.fh; have d3 := hDen.fl
    have e2 : 2 * (1000000 * 2 ^ j) = 1000000 * 2 ^ (j + 1) := by rw [Nat.pow_succ, Nat.mul_comm 2, Nat.mul_assoc]
    obtain ⟨D, hDD⟩ : ∃ D, 1000000 * 2 ^ j = D := ⟨_, rfl⟩
    rw [hDD] at d0 d1 hDen e2 hj hD
    have T := Lib.hid (twice_c D (by unfold M; omega))
    have l := rless_c a (2 * D) (by unfold M; omega) (by unfold M; omega)
    obtain ⟨bl, hbl⟩ : ∃ bl, decide (a < 2 * D) = bl := ⟨_, rfl⟩
    rw [hbl] at l
    have L := Lib.hid l
    have HBL := Lib.hid hbl
    clear l hbl
    have HDD := Lib.hid hDD; have HE2 := Lib.hid e2; have HN := Lib.hid hN; have HDn := Lib.hid hDen; have HB := Lib.hid hB; have HJ := Lib.hid hj; have HD := Lib.hid hD
    clear hDD e2 hN hDen hB hj hD hia hla hid hld
    go_wp2_with fail
    go_region_held3 (fun y => y.cell? ⟨w1.heap.size, 0, none⟩ = some (.int .u64 (hiOf a : Nat)) ∧ y.cell? ⟨w1.heap.size, 1, none⟩ = some (.int .u64 (loOf a : Nat)) ∧ y.cell? ⟨w1.heap.size + 1, 0, none⟩ = some (.int .u64 (hiOf D : Nat)) ∧ y.cell? ⟨w1.heap.size + 1, 1, none⟩ = some (.int .u64 (loOf D : Nat)))
      (first | go_keep | (refine held4 ?_ (by assumption); assumption))
      (first
        | (go_at_call 39; refine (T.out _).mono ?_; rintro e w2 ⟨rfl, hb2⟩; obtain ⟨hc2, hf2⟩ := bcell hb2; have z2 : w1.heap.size + 1 < w2.heap.size := Nat.lt_of_lt_of_le zr hb2.size; have y2 : w1.heap.size < w2.heap.size := (by omega))
        | (go_at_call 38; refine (L.out _).mono ?_; rintro e w3 ⟨rfl, hb3⟩; obtain ⟨hc3, hf3⟩ := bcell hb3))
    have HC := Lib.hid (below_next (below_next (Below.refl wr.heap.size wr).drew hb2) hb3)
    have HD3 := Lib.hid (HDn.out.below HC.out)
    have HN3 := Lib.hid (HN.out.below HC.out)
    have HB3 := Lib.hid (HB.out.trans (HC.out.mono (Nat.le_of_lt zr0)))
    have e0 := HD3.out.hi; have e1 := HD3.out.lo; have e2 := HD3.out.fh; have e3 := HD3.out.fl
    have zr3 := HD3.out.lt
    have f0 := HN3.out.hi; have f1 := HN3.out.lo; have f2 := HN3.out.fh; have f3 := HN3.out.fl
    clear c0 c1 c2 c3 d0 d1 d2 d3 hb2 hc2 hf2 z2 y2 hb3 hc3 hf3 HC HI
    cases bl
    · go_wp2_with fail
      refine (T.out _).mono ?_; rintro e w4 ⟨rfl, hb4⟩; obtain ⟨hc4, hf4⟩ := bcell hb4
      have z4 : w1.heap.size + 1 < w4.heap.size := Nat.lt_of_lt_of_le zr3 hb4.size
      have HB4 := Lib.hid hb4
      clear hb4
      go_wp2
      go_roundw
      case rel =>
        have hle : 2 * D ≤ a := by have := of_decide_eq_false HBL.out; omega
        refine ⟨j + 1, by go_num, ?_⟩
        rw [← HE2.out]
        exact ⟨.inr hle, by omega, (HN3.out.below HB4.out).put_other (by omega) _ _, (HD3.out.below HB4.out).put _, below_put (HB3.out.trans (HB4.out.mono (Nat.le_of_lt (by omega)))) (Nat.le_succ _) _ _⟩
      case measure =>
        simp [intOf]
        omega
    · have Hlt := Lib.hid (of_decide_eq_true HBL.out)
      clear HE2 HBL T L
      have Hw := Lib.hid (show hiOf a = 0 ∧ loOf a = a from by unfold hiOf loOf; omega)
      go_wp2
      simp only [Bool.not_true]
      go_loopw [7] (fun e wr => ∃ i : Nat, e = .int .i64 ((j : Int) - i) ∧ Hid ((j = 0 ∨ i = 0) ∧ i < 64 ∧ a * 2 ^ i < 2 * D ∧ Has wr w1.heap.size (a * 2 ^ i) ∧ Has wr (w1.heap.size + 1) D ∧ Below w1.heap.size w1 wr)) (fun e _ => (intOf e - j + 64).toNat)
      case atStart => exact ⟨0, by go_num, .inr rfl, by decide, by rw [Nat.pow_zero, Nat.mul_one]; exact Hlt.out, by rw [Nat.pow_zero, Nat.mul_one]; exact HN3.out, HD3.out, HB3.out⟩
      case round =>
        obtain ⟨i, rfl, HI⟩ := hrel
        obtain ⟨hi, hi64, hlt, hN, hDen, hB⟩ := HI.out
        have zr : w1.heap.size + 1 < wr.heap.size := hDen.lt
        have zr0 : w1.heap.size < wr.heap.size := by omega
        have c0 := hN.hi; have c1 := hN.lo; have c2 := hN.fh; have c3 := hN.fl
        have d0 := hDen.hi; have d1 := hDen.lo; have d2 := hDen.fh; have d3 := hDen.fl
        have hDl := HD.out
        have hnext : a * 2 ^ i < D → (j = 0 ∨ i + 1 = 0) ∧ i + 1 < 64 := fun hl => by
          have hj0 : j = 0 := by
            rcases hi with h | h
            · exact h
            · rcases HJ.out with h' | h'
              · exact h'
              · rw [h, Nat.pow_zero, Nat.mul_one] at hl; omega
          refine ⟨.inl hj0, ?_⟩
          have hD6 : D = 1000000 := by rw [← HDD.out, hj0]
          rcases Nat.lt_or_ge i 20 with h | h
          · omega
          · have h1 := Nat.pow_le_pow_right (show 0 < 2 by decide) h
            have h2 := Nat.mul_le_mul (show 1 ≤ a from ha0) h1
            omega
        have e2 : 2 * (a * 2 ^ i) = a * 2 ^ (i + 1) := by rw [Nat.pow_succ, Nat.mul_comm 2, Nat.mul_assoc]
        obtain ⟨N, hNN⟩ : ∃ N, a * 2 ^ i = N := ⟨_, rfl⟩
        rw [hNN] at c0 c1 hN e2 hlt hnext
        have T := Lib.hid (twice_c N (by unfold M; omega))
        have l := rless_c N D (by unfold M; omega) (by unfold M; omega)
        obtain ⟨bl, hbl⟩ : ∃ bl, decide (N < D) = bl := ⟨_, rfl⟩
        rw [hbl] at l
        have L := Lib.hid l
        have HBL := Lib.hid hbl
        have HNN := Lib.hid hNN; have HE2 := Lib.hid e2; have HN := Lib.hid hN; have HDn := Lib.hid hDen; have HB := Lib.hid hB; have HI2 := Lib.hid hi; have HLT := Lib.hid hlt; have HNX := Lib.hid hnext
        clear hNN e2 hN hDen hB hi hlt hnext l hbl hDl
        go_wp2_with fail
        refine (L.out _).mono ?_; rintro e w5 ⟨rfl, hb5⟩
        have HD5 := Lib.hid (HDn.out.below hb5)
        have HN5 := Lib.hid (HN.out.below hb5)
        have HB5 := Lib.hid (HB.out.trans (hb5.mono (Nat.le_of_lt zr0)))
        have g0 := HD5.out.hi; have g1 := HD5.out.lo; have g2 := HD5.out.fh; have g3 := HD5.out.fl
        have zr5 := HD5.out.lt
        have k0 := HN5.out.hi; have k1 := HN5.out.lo; have k2 := HN5.out.fh; have k3 := HN5.out.fl
        clear c0 c1 c2 c3 d0 d1 d2 d3 hb5 HI zr zr0
        cases bl
        · have Hge := Lib.hid (show D ≤ N from by have := of_decide_eq_false HBL.out; omega)
          clear HBL L T HE2 HNX
          go_wp2
          go_loopw [8, 9] (fun mm ii wr => ∃ (t m R : Nat), t ≤ 54 ∧ ii = .int .i64 t ∧ mm = .int .u64 m ∧ m < 18014398509481984 ∧ Hid (N * 2 ^ t = m * (2 * D) + R ∧ R < 2 * D ∧ m < 2 ^ t ∧ Has wr w1.heap.size R ∧ Has wr (w1.heap.size + 1) D ∧ Below w1.heap.size w1 wr)) (fun _ ii _ => 54 - (intOf ii).toNat)
          case atStart => exact ⟨0, 0, N, by decide, rfl, rfl, by decide, by rw [Nat.pow_zero, Nat.mul_one, Nat.zero_mul, Nat.zero_add], HLT.out, by decide, HN5.out, HD5.out, HB5.out⟩
          case round =>
            obtain ⟨t, m, R, ht, rfl, rfl, hm54, HI⟩ := hrel
            obtain ⟨hinv, hR, hmt, hN, hDen, hB⟩ := HI.out
            have zr : w1.heap.size + 1 < wr.heap.size := hDen.lt
            have zr0 : w1.heap.size < wr.heap.size := by omega
            have c0 := hN.hi; have c1 := hN.lo; have c2 := hN.fh; have c3 := hN.fl
            have d0 := hDen.hi; have d1 := hDen.lo; have d2 := hDen.fh; have d3 := hDen.fl
            by_cases hlt : t < 54
            · have hDl := HD.out
              have hm2 : m < 9007199254740992 := by
                have := Nat.pow_le_pow_right (show 0 < 2 by decide) (show t ≤ 53 by omega)
                have e : (2 : Nat) ^ 53 = 9007199254740992 := by decide
                omega
              have l := rless_c R D (by unfold M; omega) (by unfold M; omega)
              obtain ⟨bl, hbl⟩ : ∃ bl, decide (R < D) = bl := ⟨_, rfl⟩
              rw [hbl] at l
              have L := Lib.hid l
              have HBL := Lib.hid hbl
              have hor : bits .or .u64 ((m : Int) * 2) 1 = ((2 * m + 1 : Nat) : Int) := by
                have h := or_sum m 1 1 (by decide) (by decide) (by omega)
                have e1 : ((m * 2 ^ 1 : Nat) : Int) = (m : Int) * 2 := by omega
                rw [e1] at h
                refine h.trans ?_
                congr 1
                omega
              have HN := Lib.hid hN; have HDn := Lib.hid hDen; have HB := Lib.hid hB; have HINV := Lib.hid hinv; have HR := Lib.hid hR; have HMT := Lib.hid hmt
              clear hN hDen hB hinv hR hmt l hbl
              go_wp2_with fail
              refine (L.out _).mono ?_; rintro e w7 ⟨rfl, hb7⟩
              have HD7 := Lib.hid (HDn.out.below hb7)
              have HN7 := Lib.hid (HN.out.below hb7)
              have HB7 := Lib.hid (HB.out.trans (hb7.mono (Nat.le_of_lt zr0)))
              have e0 := HD7.out.hi; have e1 := HD7.out.lo; have e2 := HD7.out.fh; have e3 := HD7.out.fl
              have zr7 := HD7.out.lt
              have k0 := HN7.out.hi; have k1 := HN7.out.lo; have k2 := HN7.out.fh; have k3 := HN7.out.fl
              clear c0 c1 c2 c3 d0 d1 d2 d3 hb7 HI zr zr0
              cases bl
              · have hge : D ≤ R := by have := of_decide_eq_false HBL.out; omega
                have S := Lib.hid (less_c R D (by have := HR.out; unfold M; omega) hge)
                have T := Lib.hid (twice_c (R - D) (by have := HR.out; unfold M; omega))
                have HGE := Lib.hid hge
                clear hge hDl
                go_wp2_with fail
                refine (S.out _).mono ?_; rintro e w8 ⟨rfl, hb8⟩; obtain ⟨hc8, hf8⟩ := bcell hb8
                have z8 : w1.heap.size + 1 < w8.heap.size := Nat.lt_of_lt_of_le zr7 hb8.size
                have z80 : w1.heap.size < w8.heap.size := by omega
                have z70 : w1.heap.size < w7.heap.size := by omega
                have HD8 := Lib.hid ((HD7.out.below hb8).put_other (b := w1.heap.size) (by omega) (.int .u64 (hiOf (R - D) : Nat)) (.int .u64 (loOf (R - D) : Nat)))
                have HN8 := Lib.hid ((HN7.out.below hb8).put (R - D))
                have HB8 := Lib.hid (below_put (b := w1.heap.size) (HB7.out.trans (hb8.mono (Nat.le_of_lt z70))) (Nat.le_refl _) (.int .u64 (hiOf (R - D) : Nat)) (.int .u64 (loOf (R - D) : Nat)))
                clear hb8
                go_wp2_with fail
                refine (T.out _).mono ?_; rintro e w9 ⟨rfl, hb9⟩; obtain ⟨hc9, hf9⟩ := bcell hb9
                have q2 : w9.cell? ⟨w1.heap.size, 0, none⟩ = some (.int .u64 (hiOf (R - D) : Nat)) := (HN8.out.below hb9).hi
                have q3 : w9.cell? ⟨w1.heap.size, 1, none⟩ = some (.int .u64 (loOf (R - D) : Nat)) := (HN8.out.below hb9).lo
                have q0 : w9.frozen? ⟨w1.heap.size, 0, none⟩ = false := (HN8.out.below hb9).fh
                have q1 : w9.frozen? ⟨w1.heap.size, 1, none⟩ = false := (HN8.out.below hb9).fl
                have HR9 := Lib.hid (show _ ∧ _ ∧ _ from ⟨(HN8.out.below hb9).put (2 * (R - D)), (HD8.out.below hb9).put_other (b := w1.heap.size) (by omega) (.int .u64 (hiOf (2 * (R - D)) : Nat)) (.int .u64 (loOf (2 * (R - D)) : Nat)), below_put (b := w1.heap.size) (HB8.out.trans (hb9.mono (Nat.le_of_lt HN8.out.lt))) (Nat.le_refl _) (.int .u64 (hiOf (2 * (R - D)) : Nat)) (.int .u64 (loOf (2 * (R - D)) : Nat))⟩)
                clear hb9 hc9 hf9 hc8 hf8
                go_wp2
                refine ⟨⟨t + 1, 2 * m + 1, 2 * (R - D), by omega, by go_num, by go_num, by omega, ?_, ?_, ?_, HR9.out.1, HR9.out.2.1, HR9.out.2.2⟩, by simp [intOf] <;> omega⟩
                · have h1 := HINV.out; have h2 := HGE.out
                  rw [Nat.pow_succ, ← Nat.mul_assoc, h1, Nat.add_mul, Nat.add_mul, Nat.mul_assoc 2 m, Nat.mul_comm (m * (2 * D)) 2]
                  omega
                · have := HR.out; have := HGE.out; omega
                · have := HMT.out; rw [Nat.pow_succ]; omega
              · have T := Lib.hid (twice_c R (by have := HR.out; unfold M; omega))
                have hlt' := of_decide_eq_true HBL.out
                have HLT' := Lib.hid hlt'
                clear hDl hlt'
                go_wp2_with fail
                refine (T.out _).mono ?_; rintro e w9 ⟨rfl, hb9⟩; obtain ⟨hc9, hf9⟩ := bcell hb9
                have z70 : w1.heap.size < w7.heap.size := by omega
                have q2 : w9.cell? ⟨w1.heap.size, 0, none⟩ = some (.int .u64 (hiOf R : Nat)) := (HN7.out.below hb9).hi
                have q3 : w9.cell? ⟨w1.heap.size, 1, none⟩ = some (.int .u64 (loOf R : Nat)) := (HN7.out.below hb9).lo
                have q0 : w9.frozen? ⟨w1.heap.size, 0, none⟩ = false := (HN7.out.below hb9).fh
                have q1 : w9.frozen? ⟨w1.heap.size, 1, none⟩ = false := (HN7.out.below hb9).fl
                have HR9 := Lib.hid (show _ ∧ _ ∧ _ from ⟨(HN7.out.below hb9).put (2 * R), (HD7.out.below hb9).put_other (b := w1.heap.size) (by omega) (.int .u64 (hiOf (2 * R) : Nat)) (.int .u64 (loOf (2 * R) : Nat)), below_put (b := w1.heap.size) (HB7.out.trans (hb9.mono (Nat.le_of_lt z70))) (Nat.le_refl _) (.int .u64 (hiOf (2 * R) : Nat)) (.int .u64 (loOf (2 * R) : Nat))⟩)
                clear hb9 hc9 hf9
                go_wp2
                refine ⟨⟨t + 1, 2 * m, 2 * R, by omega, by go_num, by go_num, by omega, ?_, ?_, ?_, HR9.out.1, HR9.out.2.1, HR9.out.2.2⟩, by simp [intOf] <;> omega⟩
                · have h1 := HINV.out
                  rw [Nat.pow_succ, ← Nat.mul_assoc, h1, Nat.add_mul, Nat.mul_assoc 2 m, Nat.mul_comm (m * (2 * D)) 2]
                  omega
                · have := HLT'.out; omega
                · have := HMT.out; rw [Nat.pow_succ]; omega
            · obtain rfl : t = 54 := by omega
              have HF := Lib.hid (HX.out.trans (hB.mono (Nat.le_of_lt z1)))
              have HINV := Lib.hid hinv; have HR := Lib.hid hR; have HMT := Lib.hid hmt
              clear hN hDen hB hinv hR hmt HI
              obtain ⟨t1, t2, t3⟩ := to_end (S := 9223372036854775808) HA.out HV0.out ha1 HI2.out HDD.out HNN.out Hge.out HLT.out HD.out HINV.out HR.out hm54 (if_pos hneg : (if v < 0 then 1 else 0) = 1) (by decide)
              have run : ∀ (x : Int), x = ((toB v : Nat) : Int) → ∀ w : World, (callFunc 25 #[.int .u64 x]).run Try.prog w = .ok (.value (.float .f64 (toB v))) w := fun x hx w => by rw [hx]; exact from_run (toB v) w
              have hand1 : bits .and .u64 (m : Int) 1 = ((m % 2 : Nat) : Int) := by
                have h := and_mask m 1 (by omega) (by decide)
                exact h
              have hand2 : bits .and .u64 ((m : Int) / 2) 1 = ((m / 2 % 2 : Nat) : Int) := by
                have h := and_mask (m / 2) 1 (by omega) (by decide)
                exact h
              have hRv := val_hl (show R < M from by have := HR.out; have := HD.out; unfold M; omega)
              by_cases hm1 : m % 2 = 1
              · have hs1 : bits .and .u64 (m : Int) 1 = 1 := by rw [hand1, hm1]; rfl
                clear hand1
                by_cases hR0 : R = 0
                · have y0 : ((hiOf R : Nat) : Int) = 0 := by rw [hR0]; rfl
                  have y1 : ((loOf R : Nat) : Int) = 0 := by rw [hR0]; rfl
                  rw [y0] at c0
                  rw [y1] at c1
                  clear y0 y1
                  by_cases hm2 : m / 2 % 2 = 1
                  · have hs2 : bits .and .u64 ((m : Int) / 2) 1 = 1 := by rw [hand2, hm2]; rfl
                    clear hand2
                    have hu : m % 2 = 1 ∧ (R ≠ 0 ∨ m / 2 % 2 = 1) := ⟨hm1, .inr hm2⟩
                    by_cases hc : m / 2 + 1 = 9007199254740992
                    · have hcc : (m : Int) / 2 + 1 = 9007199254740992 := by omega
                      have r0 := t3 hu hc
                      rw [hcc, show (9007199254740992 : Int) / 2 = 4503599627370496 from rfl] at r0
                      have r := run _ r0
                      clear t1 t2 t3 run hm1 hu hc hRv r0 hR0 hm2
                      go_wp2
                      go_ret
                      exact ⟨rfl, HF.out⟩
                    · have r := run _ (t2 hu hc)
                      have hcc : ¬ (m : Int) / 2 + 1 = 9007199254740992 := by omega
                      clear t1 t2 t3 run hm1 hu hc hRv hR0 hm2
                      go_wp2
                      go_ret
                      exact ⟨rfl, HF.out⟩
                  · have hs2 : bits .and .u64 ((m : Int) / 2) 1 = 0 := by rw [hand2, show m / 2 % 2 = 0 from by omega]; rfl
                    have r := run _ (t1 (fun h => h.2.elim (fun k => k hR0) hm2))
                    have hcc : ¬ (m : Int) / 2 = 9007199254740992 := by omega
                    clear t1 t2 t3 run hm1 hR0 hm2 hRv hand2
                    go_wp2
                    go_ret
                    exact ⟨rfl, HF.out⟩
                · by_cases hh : hiOf R = 0
                  · have y1 : ¬ ((loOf R : Nat) : Int) = 0 := by have := val_hl (show R < M from by have := HR.out; have := HD.out; unfold M; omega); omega
                    have y0 : ((hiOf R : Nat) : Int) = 0 := by omega
                    rw [y0] at c0
                    generalize ((loOf R : Nat) : Int) = lo at *
                    clear hand2 y0 hh
                    have hu : m % 2 = 1 ∧ (R ≠ 0 ∨ m / 2 % 2 = 1) := ⟨hm1, .inl hR0⟩
                    by_cases hc : m / 2 + 1 = 9007199254740992
                    · have hcc : (m : Int) / 2 + 1 = 9007199254740992 := by omega
                      have r0 := t3 hu hc
                      rw [hcc, show (9007199254740992 : Int) / 2 = 4503599627370496 from rfl] at r0
                      have r := run _ r0
                      clear t1 t2 t3 run hm1 hu hc hRv r0 hR0
                      go_wp2
                      go_ret
                      exact ⟨rfl, HF.out⟩
                    · have r := run _ (t2 hu hc)
                      have hcc : ¬ (m : Int) / 2 + 1 = 9007199254740992 := by omega
                      clear t1 t2 t3 run hm1 hu hc hRv hR0
                      go_wp2
                      go_ret
                      exact ⟨rfl, HF.out⟩
                  · have y0 : ¬ ((hiOf R : Nat) : Int) = 0 := by omega
                    generalize ((hiOf R : Nat) : Int) = hi at *
                    generalize ((loOf R : Nat) : Int) = lo at *
                    clear hand2 hh
                    have hu : m % 2 = 1 ∧ (R ≠ 0 ∨ m / 2 % 2 = 1) := ⟨hm1, .inl hR0⟩
                    by_cases hc : m / 2 + 1 = 9007199254740992
                    · have hcc : (m : Int) / 2 + 1 = 9007199254740992 := by omega
                      have r0 := t3 hu hc
                      rw [hcc, show (9007199254740992 : Int) / 2 = 4503599627370496 from rfl] at r0
                      have r := run _ r0
                      clear t1 t2 t3 run hm1 hu hc hRv r0 hR0
                      go_wp2
                      go_ret
                      exact ⟨rfl, HF.out⟩
                    · have r := run _ (t2 hu hc)
                      have hcc : ¬ (m : Int) / 2 + 1 = 9007199254740992 := by omega
                      clear t1 t2 t3 run hm1 hu hc hRv hR0
                      go_wp2
                      go_ret
                      exact ⟨rfl, HF.out⟩
              · have hs1 : bits .and .u64 (m : Int) 1 = 0 := by rw [hand1, show m % 2 = 0 from by omega]; rfl
                have r := run _ (t1 (fun h => hm1 h.1))
                have hcc : ¬ (m : Int) / 2 = 9007199254740992 := by omega
                generalize ((hiOf R : Nat) : Int) = hi at *
                generalize ((loOf R : Nat) : Int) = lo at *
                clear t1 t2 t3 run hm1 hRv hand1 hand2
                go_wp2
                all_goals go_ret
                all_goals exact ⟨rfl, HF.out⟩
        · go_wp2_with fail
          refine (T.out _).mono ?_; rintro e w6 ⟨rfl, hb6⟩; obtain ⟨hc6, hf6⟩ := bcell hb6
          have z6 : w1.heap.size + 1 < w6.heap.size := Nat.lt_of_lt_of_le zr5 hb6.size
          have z60 : w1.heap.size < w6.heap.size := by omega
          have z50 : w1.heap.size < w5.heap.size := by omega
          have HB6 := Lib.hid hb6
          clear hb6
          go_wp2
          have hx := HNX.out (of_decide_eq_true HBL.out)
          refine ⟨⟨i + 1, by go_num, ?_⟩, by simp [intOf] <;> omega⟩
          rw [← HE2.out]
          have hl := of_decide_eq_true HBL.out
          exact ⟨hx.1, hx.2, by omega, (HN5.out.below HB6.out).put _, (HD5.out.below HB6.out).put_other (by omega) _ _, below_put (HB5.out.trans (HB6.out.mono (Nat.le_of_lt z50))) (Nat.le_refl _) _ _⟩
set_option maxRecDepth 100000 in
set_option maxHeartbeats 2000000 in
theorem to_pos (v : Int) (h0 : -9223372036854775807 ≤ v) (h1 : v ≤ 9223372036854775807) (hv0 : v ≠ 0) (hneg : ¬ v < 0) (w : World) :
    Calls Try.prog 14 #[.agg #[.bool false, .int .i64 v]] w fun e w' => e = .returned (.float .f64 (toB v)) ∧ Below w.heap.size w w' := by
  obtain ⟨a, ha⟩ : ∃ a, v.natAbs = a := ⟨_, rfl⟩
  have ha0 : 0 < a := by omega
  have ha1 : a ≤ 9223372036854775807 := by omega
  have P := Lib.hid (right_f v true (by rw [bne_iff_ne]; omega))
  have HA := Lib.hid ha
  have HV0 := Lib.hid hv0
  have hvb : (v == 0) = false := by rw [beq_eq_false_iff_ne]; exact hv0
  clear hv0
  have hav : v = (a : Int) := by omega
  subst hav
  clear ha
  go_enter Try.func14, Try.ntmps14
  go_wp2_with fail
  refine (P.out _).mono ?_; rintro e w1 ⟨rfl, hb1⟩; obtain ⟨hc1, hf1⟩ := bcell hb1
  have z1 : w.heap.size < w1.heap.size := (by have := hb1.size; simp at this; omega)
  have HX := Lib.hid (below_box hb1)
  go_wp2
  go_region
  go_wp2
  have hia : ((hiOf a : Nat) : Int) = 0 := by unfold hiOf; omega
  have hla : ((loOf a : Nat) : Int) = a := by unfold loOf; omega
  have hid : ((hiOf 1000000 : Nat) : Int) = 0 := by decide
  have hld : ((loOf 1000000 : Nat) : Int) = 1000000 := by decide
  go_loopw [7] (fun e wr => ∃ j : Nat, e = .int .i64 j ∧ Hid ((j = 0 ∨ 1000000 * 2 ^ j ≤ a) ∧ 1000000 * 2 ^ j < 9223372036854775808 ∧ Has wr w1.heap.size a ∧ Has wr (w1.heap.size + 1) (1000000 * 2 ^ j) ∧ Below w1.heap.size w1 wr)) (fun e _ => 64 - (intOf e).toNat)
  case atStart =>
    refine ⟨0, rfl, .inl rfl, by decide, ?_, ?_, (((Below.refl _ _).alloc (Nat.le_refl _) _).alloc (by simp) _).drew⟩
    · exact ⟨by simp; omega, by rw [hia]; go_simp, by rw [hla]; go_simp, by go_simp, by go_simp⟩
    · exact ⟨by simp, by rw [Nat.pow_zero, Nat.mul_one, hid]; go_simp, by rw [Nat.pow_zero, Nat.mul_one, hld]; go_simp, by go_simp, by go_simp⟩
  case round =>
    obtain ⟨j, rfl, HI⟩ := hrel
    obtain ⟨hj, hD, hN, hDen, hB⟩ := HI.out
    have hj64 : j < 64 := by
      rcases Nat.lt_or_ge j 64 with h | h
      · exact h
      · have := Nat.pow_le_pow_right (show 0 < 2 by decide) h
        omega
    have zr : w1.heap.size + 1 < wr.heap.size := hDen.lt
    have zr0 : w1.heap.size < wr.heap.size := by omega
    have c0 := hN.hi; have c1 := hN.lo; have c2 := hN.fh; have c3 := hN.fl
    have d0 := hDen.hi; have d1 := hDen.lo; have d2 := hDen.fh; have d3 := hDen.fl
    have e2 : 2 * (1000000 * 2 ^ j) = 1000000 * 2 ^ (j + 1) := by rw [Nat.pow_succ, Nat.mul_comm 2, Nat.mul_assoc]
    obtain ⟨D, hDD⟩ : ∃ D, 1000000 * 2 ^ j = D := ⟨_, rfl⟩
    rw [hDD] at d0 d1 hDen e2 hj hD
    have T := Lib.hid (twice_c D (by unfold M; omega))
    have l := rless_c a (2 * D) (by unfold M; omega) (by unfold M; omega)
    obtain ⟨bl, hbl⟩ : ∃ bl, decide (a < 2 * D) = bl := ⟨_, rfl⟩
    rw [hbl] at l
    have L := Lib.hid l
    have HBL := Lib.hid hbl
    clear l hbl
    have HDD := Lib.hid hDD; have HE2 := Lib.hid e2; have HN := Lib.hid hN; have HDn := Lib.hid hDen; have HB := Lib.hid hB; have HJ := Lib.hid hj; have HD := Lib.hid hD
    clear hDD e2 hN hDen hB hj hD hia hla hid hld
    go_wp2_with fail
    go_region_held3 (fun y => y.cell? ⟨w1.heap.size, 0, none⟩ = some (.int .u64 (hiOf a : Nat)) ∧ y.cell? ⟨w1.heap.size, 1, none⟩ = some (.int .u64 (loOf a : Nat)) ∧ y.cell? ⟨w1.heap.size + 1, 0, none⟩ = some (.int .u64 (hiOf D : Nat)) ∧ y.cell? ⟨w1.heap.size + 1, 1, none⟩ = some (.int .u64 (loOf D : Nat)))
      (first | go_keep | (refine held4 ?_ (by assumption); assumption))
      (first
        | (go_at_call 39; refine (T.out _).mono ?_; rintro e w2 ⟨rfl, hb2⟩; obtain ⟨hc2, hf2⟩ := bcell hb2; have z2 : w1.heap.size + 1 < w2.heap.size := Nat.lt_of_lt_of_le zr hb2.size; have y2 : w1.heap.size < w2.heap.size := (by omega))
        | (go_at_call 38; refine (L.out _).mono ?_; rintro e w3 ⟨rfl, hb3⟩; obtain ⟨hc3, hf3⟩ := bcell hb3))
    have HC := Lib.hid (below_next (below_next (Below.refl wr.heap.size wr).drew hb2) hb3)
    have HD3 := Lib.hid (HDn.out.below HC.out)
    have HN3 := Lib.hid (HN.out.below HC.out)
    have HB3 := Lib.hid (HB.out.trans (HC.out.mono (Nat.le_of_lt zr0)))
    have e0 := HD3.out.hi; have e1 := HD3.out.lo; have e2 := HD3.out.fh; have e3 := HD3.out.fl
    have zr3 := HD3.out.lt
    have f0 := HN3.out.hi; have f1 := HN3.out.lo; have f2 := HN3.out.fh; have f3 := HN3.out.fl
    clear c0 c1 c2 c3 d0 d1 d2 d3 hb2 hc2 hf2 z2 y2 hb3 hc3 hf3 HC HI
    cases bl
    · go_wp2_with fail
      refine (T.out _).mono ?_; rintro e w4 ⟨rfl, hb4⟩; obtain ⟨hc4, hf4⟩ := bcell hb4
      have z4 : w1.heap.size + 1 < w4.heap.size := Nat.lt_of_lt_of_le zr3 hb4.size
      have HB4 := Lib.hid hb4
      clear hb4
      go_wp2
      go_roundw
      case rel =>
        have hle : 2 * D ≤ a := by have := of_decide_eq_false HBL.out; omega
        refine ⟨j + 1, by go_num, ?_⟩
        rw [← HE2.out]
        exact ⟨.inr hle, by omega, (HN3.out.below HB4.out).put_other (by omega) _ _, (HD3.out.below HB4.out).put _, below_put (HB3.out.trans (HB4.out.mono (Nat.le_of_lt (by omega)))) (Nat.le_succ _) _ _⟩
      case measure =>
        simp [intOf]
        omega
    · have Hlt := Lib.hid (of_decide_eq_true HBL.out)
      clear HE2 HBL T L
      have Hw := Lib.hid (show hiOf a = 0 ∧ loOf a = a from by unfold hiOf loOf; omega)
      go_wp2
      simp only [Bool.not_true]
      go_loopw [7] (fun e wr => ∃ i : Nat, e = .int .i64 ((j : Int) - i) ∧ Hid ((j = 0 ∨ i = 0) ∧ i < 64 ∧ a * 2 ^ i < 2 * D ∧ Has wr w1.heap.size (a * 2 ^ i) ∧ Has wr (w1.heap.size + 1) D ∧ Below w1.heap.size w1 wr)) (fun e _ => (intOf e - j + 64).toNat)
      case atStart => exact ⟨0, by go_num, .inr rfl, by decide, by rw [Nat.pow_zero, Nat.mul_one]; exact Hlt.out, by rw [Nat.pow_zero, Nat.mul_one]; exact HN3.out, HD3.out, HB3.out⟩
      case round =>
        obtain ⟨i, rfl, HI⟩ := hrel
        obtain ⟨hi, hi64, hlt, hN, hDen, hB⟩ := HI.out
        have zr : w1.heap.size + 1 < wr.heap.size := hDen.lt
        have zr0 : w1.heap.size < wr.heap.size := by omega
        have c0 := hN.hi; have c1 := hN.lo; have c2 := hN.fh; have c3 := hN.fl
        have d0 := hDen.hi; have d1 := hDen.lo; have d2 := hDen.fh; have d3 := hDen.fl
        have hDl := HD.out
        have hnext : a * 2 ^ i < D → (j = 0 ∨ i + 1 = 0) ∧ i + 1 < 64 := fun hl => by
          have hj0 : j = 0 := by
            rcases hi with h | h
            · exact h
            · rcases HJ.out with h' | h'
              · exact h'
              · rw [h, Nat.pow_zero, Nat.mul_one] at hl; omega
          refine ⟨.inl hj0, ?_⟩
          have hD6 : D = 1000000 := by rw [← HDD.out, hj0]
          rcases Nat.lt_or_ge i 20 with h | h
          · omega
          · have h1 := Nat.pow_le_pow_right (show 0 < 2 by decide) h
            have h2 := Nat.mul_le_mul (show 1 ≤ a from ha0) h1
            omega
        have e2 : 2 * (a * 2 ^ i) = a * 2 ^ (i + 1) := by rw [Nat.pow_succ, Nat.mul_comm 2, Nat.mul_assoc]
        obtain ⟨N, hNN⟩ : ∃ N, a * 2 ^ i = N := ⟨_, rfl⟩
        rw [hNN] at c0 c1 hN e2 hlt hnext
        have T := Lib.hid (twice_c N (by unfold M; omega))
        have l := rless_c N D (by unfold M; omega) (by unfold M; omega)
        obtain ⟨bl, hbl⟩ : ∃ bl, decide (N < D) = bl := ⟨_, rfl⟩
        rw [hbl] at l
        have L := Lib.hid l
        have HBL := Lib.hid hbl
        have HNN := Lib.hid hNN; have HE2 := Lib.hid e2; have HN := Lib.hid hN; have HDn := Lib.hid hDen; have HB := Lib.hid hB; have HI2 := Lib.hid hi; have HLT := Lib.hid hlt; have HNX := Lib.hid hnext
        clear hNN e2 hN hDen hB hi hlt hnext l hbl hDl
        go_wp2_with fail
        refine (L.out _).mono ?_; rintro e w5 ⟨rfl, hb5⟩
        have HD5 := Lib.hid (HDn.out.below hb5)
        have HN5 := Lib.hid (HN.out.below hb5)
        have HB5 := Lib.hid (HB.out.trans (hb5.mono (Nat.le_of_lt zr0)))
        have g0 := HD5.out.hi; have g1 := HD5.out.lo; have g2 := HD5.out.fh; have g3 := HD5.out.fl
        have zr5 := HD5.out.lt
        have k0 := HN5.out.hi; have k1 := HN5.out.lo; have k2 := HN5.out.fh; have k3 := HN5.out.fl
        clear c0 c1 c2 c3 d0 d1 d2 d3 hb5 HI zr zr0
        cases bl
        · have Hge := Lib.hid (show D ≤ N from by have := of_decide_eq_false HBL.out; omega)
          clear HBL L T HE2 HNX
          go_wp2
          go_loopw [8, 9] (fun mm ii wr => ∃ (t m R : Nat), t ≤ 54 ∧ ii = .int .i64 t ∧ mm = .int .u64 m ∧ m < 18014398509481984 ∧ Hid (N * 2 ^ t = m * (2 * D) + R ∧ R < 2 * D ∧ m < 2 ^ t ∧ Has wr w1.heap.size R ∧ Has wr (w1.heap.size + 1) D ∧ Below w1.heap.size w1 wr)) (fun _ ii _ => 54 - (intOf ii).toNat)
          case atStart => exact ⟨0, 0, N, by decide, rfl, rfl, by decide, by rw [Nat.pow_zero, Nat.mul_one, Nat.zero_mul, Nat.zero_add], HLT.out, by decide, HN5.out, HD5.out, HB5.out⟩
          case round =>
            obtain ⟨t, m, R, ht, rfl, rfl, hm54, HI⟩ := hrel
            obtain ⟨hinv, hR, hmt, hN, hDen, hB⟩ := HI.out
            have zr : w1.heap.size + 1 < wr.heap.size := hDen.lt
            have zr0 : w1.heap.size < wr.heap.size := by omega
            have c0 := hN.hi; have c1 := hN.lo; have c2 := hN.fh; have c3 := hN.fl
            have d0 := hDen.hi; have d1 := hDen.lo; have d2 := hDen.fh; have d3 := hDen.fl
            by_cases hlt : t < 54
            · have hDl := HD.out
              have hm2 : m < 9007199254740992 := by
                have := Nat.pow_le_pow_right (show 0 < 2 by decide) (show t ≤ 53 by omega)
                have e : (2 : Nat) ^ 53 = 9007199254740992 := by decide
                omega
              have l := rless_c R D (by unfold M; omega) (by unfold M; omega)
              obtain ⟨bl, hbl⟩ : ∃ bl, decide (R < D) = bl := ⟨_, rfl⟩
              rw [hbl] at l
              have L := Lib.hid l
              have HBL := Lib.hid hbl
              have hor : bits .or .u64 ((m : Int) * 2) 1 = ((2 * m + 1 : Nat) : Int) := by
                have h := or_sum m 1 1 (by decide) (by decide) (by omega)
                have e1 : ((m * 2 ^ 1 : Nat) : Int) = (m : Int) * 2 := by omega
                rw [e1] at h
                refine h.trans ?_
                congr 1
                omega
              have HN := Lib.hid hN; have HDn := Lib.hid hDen; have HB := Lib.hid hB; have HINV := Lib.hid hinv; have HR := Lib.hid hR; have HMT := Lib.hid hmt
              clear hN hDen hB hinv hR hmt l hbl
              go_wp2_with fail
              refine (L.out _).mono ?_; rintro e w7 ⟨rfl, hb7⟩
              have HD7 := Lib.hid (HDn.out.below hb7)
              have HN7 := Lib.hid (HN.out.below hb7)
              have HB7 := Lib.hid (HB.out.trans (hb7.mono (Nat.le_of_lt zr0)))
              have e0 := HD7.out.hi; have e1 := HD7.out.lo; have e2 := HD7.out.fh; have e3 := HD7.out.fl
              have zr7 := HD7.out.lt
              have k0 := HN7.out.hi; have k1 := HN7.out.lo; have k2 := HN7.out.fh; have k3 := HN7.out.fl
              clear c0 c1 c2 c3 d0 d1 d2 d3 hb7 HI zr zr0
              cases bl
              · have hge : D ≤ R := by have := of_decide_eq_false HBL.out; omega
                have S := Lib.hid (less_c R D (by have := HR.out; unfold M; omega) hge)
                have T := Lib.hid (twice_c (R - D) (by have := HR.out; unfold M; omega))
                have HGE := Lib.hid hge
                clear hge hDl
                go_wp2_with fail
                refine (S.out _).mono ?_; rintro e w8 ⟨rfl, hb8⟩; obtain ⟨hc8, hf8⟩ := bcell hb8
                have z8 : w1.heap.size + 1 < w8.heap.size := Nat.lt_of_lt_of_le zr7 hb8.size
                have z80 : w1.heap.size < w8.heap.size := by omega
                have z70 : w1.heap.size < w7.heap.size := by omega
                have HD8 := Lib.hid ((HD7.out.below hb8).put_other (b := w1.heap.size) (by omega) (.int .u64 (hiOf (R - D) : Nat)) (.int .u64 (loOf (R - D) : Nat)))
                have HN8 := Lib.hid ((HN7.out.below hb8).put (R - D))
                have HB8 := Lib.hid (below_put (b := w1.heap.size) (HB7.out.trans (hb8.mono (Nat.le_of_lt z70))) (Nat.le_refl _) (.int .u64 (hiOf (R - D) : Nat)) (.int .u64 (loOf (R - D) : Nat)))
                clear hb8
                go_wp2_with fail
                refine (T.out _).mono ?_; rintro e w9 ⟨rfl, hb9⟩; obtain ⟨hc9, hf9⟩ := bcell hb9
                have q2 : w9.cell? ⟨w1.heap.size, 0, none⟩ = some (.int .u64 (hiOf (R - D) : Nat)) := (HN8.out.below hb9).hi
                have q3 : w9.cell? ⟨w1.heap.size, 1, none⟩ = some (.int .u64 (loOf (R - D) : Nat)) := (HN8.out.below hb9).lo
                have q0 : w9.frozen? ⟨w1.heap.size, 0, none⟩ = false := (HN8.out.below hb9).fh
                have q1 : w9.frozen? ⟨w1.heap.size, 1, none⟩ = false := (HN8.out.below hb9).fl
                have HR9 := Lib.hid (show _ ∧ _ ∧ _ from ⟨(HN8.out.below hb9).put (2 * (R - D)), (HD8.out.below hb9).put_other (b := w1.heap.size) (by omega) (.int .u64 (hiOf (2 * (R - D)) : Nat)) (.int .u64 (loOf (2 * (R - D)) : Nat)), below_put (b := w1.heap.size) (HB8.out.trans (hb9.mono (Nat.le_of_lt HN8.out.lt))) (Nat.le_refl _) (.int .u64 (hiOf (2 * (R - D)) : Nat)) (.int .u64 (loOf (2 * (R - D)) : Nat))⟩)
                clear hb9 hc9 hf9 hc8 hf8
                go_wp2
                refine ⟨⟨t + 1, 2 * m + 1, 2 * (R - D), by omega, by go_num, by go_num, by omega, ?_, ?_, ?_, HR9.out.1, HR9.out.2.1, HR9.out.2.2⟩, by simp [intOf] <;> omega⟩
                · have h1 := HINV.out; have h2 := HGE.out
                  rw [Nat.pow_succ, ← Nat.mul_assoc, h1, Nat.add_mul, Nat.add_mul, Nat.mul_assoc 2 m, Nat.mul_comm (m * (2 * D)) 2]
                  omega
                · have := HR.out; have := HGE.out; omega
                · have := HMT.out; rw [Nat.pow_succ]; omega
              · have T := Lib.hid (twice_c R (by have := HR.out; unfold M; omega))
                have hlt' := of_decide_eq_true HBL.out
                have HLT' := Lib.hid hlt'
                clear hDl hlt'
                go_wp2_with fail
                refine (T.out _).mono ?_; rintro e w9 ⟨rfl, hb9⟩; obtain ⟨hc9, hf9⟩ := bcell hb9
                have z70 : w1.heap.size < w7.heap.size := by omega
                have q2 : w9.cell? ⟨w1.heap.size, 0, none⟩ = some (.int .u64 (hiOf R : Nat)) := (HN7.out.below hb9).hi
                have q3 : w9.cell? ⟨w1.heap.size, 1, none⟩ = some (.int .u64 (loOf R : Nat)) := (HN7.out.below hb9).lo
                have q0 : w9.frozen? ⟨w1.heap.size, 0, none⟩ = false := (HN7.out.below hb9).fh
                have q1 : w9.frozen? ⟨w1.heap.size, 1, none⟩ = false := (HN7.out.below hb9).fl
                have HR9 := Lib.hid (show _ ∧ _ ∧ _ from ⟨(HN7.out.below hb9).put (2 * R), (HD7.out.below hb9).put_other (b := w1.heap.size) (by omega) (.int .u64 (hiOf (2 * R) : Nat)) (.int .u64 (loOf (2 * R) : Nat)), below_put (b := w1.heap.size) (HB7.out.trans (hb9.mono (Nat.le_of_lt z70))) (Nat.le_refl _) (.int .u64 (hiOf (2 * R) : Nat)) (.int .u64 (loOf (2 * R) : Nat))⟩)
                clear hb9 hc9 hf9
                go_wp2
                refine ⟨⟨t + 1, 2 * m, 2 * R, by omega, by go_num, by go_num, by omega, ?_, ?_, ?_, HR9.out.1, HR9.out.2.1, HR9.out.2.2⟩, by simp [intOf] <;> omega⟩
                · have h1 := HINV.out
                  rw [Nat.pow_succ, ← Nat.mul_assoc, h1, Nat.add_mul, Nat.mul_assoc 2 m, Nat.mul_comm (m * (2 * D)) 2]
                  omega
                · have := HLT'.out; omega
                · have := HMT.out; rw [Nat.pow_succ]; omega
            · obtain rfl : t = 54 := by omega
              have HF := Lib.hid (HX.out.trans (hB.mono (Nat.le_of_lt z1)))
              have HINV := Lib.hid hinv; have HR := Lib.hid hR; have HMT := Lib.hid hmt
              clear hN hDen hB hinv hR hmt HI
              obtain ⟨t1, t2, t3⟩ := to_end (S := 0) HA.out HV0.out ha1 HI2.out HDD.out HNN.out Hge.out HLT.out HD.out HINV.out HR.out hm54 (if_neg (by omega) : (if (a : Int) < 0 then (1 : Nat) else 0) = 0) (by decide)
              have run : ∀ (x : Int), x = ((toB (a : Int) : Nat) : Int) → ∀ w : World, (callFunc 25 #[.int .u64 x]).run Try.prog w = .ok (.value (.float .f64 (toB (a : Int)))) w := fun x hx w => by rw [hx]; exact from_run (toB (a : Int)) w
              have hand1 : bits .and .u64 (m : Int) 1 = ((m % 2 : Nat) : Int) := by
                have h := and_mask m 1 (by omega) (by decide)
                exact h
              have hand2 : bits .and .u64 ((m : Int) / 2) 1 = ((m / 2 % 2 : Nat) : Int) := by
                have h := and_mask (m / 2) 1 (by omega) (by decide)
                exact h
              have hRv := val_hl (show R < M from by have := HR.out; have := HD.out; unfold M; omega)
              by_cases hm1 : m % 2 = 1
              · have hs1 : bits .and .u64 (m : Int) 1 = 1 := by rw [hand1, hm1]; rfl
                clear hand1
                by_cases hR0 : R = 0
                · have y0 : ((hiOf R : Nat) : Int) = 0 := by rw [hR0]; rfl
                  have y1 : ((loOf R : Nat) : Int) = 0 := by rw [hR0]; rfl
                  rw [y0] at c0
                  rw [y1] at c1
                  clear y0 y1
                  by_cases hm2 : m / 2 % 2 = 1
                  · have hs2 : bits .and .u64 ((m : Int) / 2) 1 = 1 := by rw [hand2, hm2]; rfl
                    clear hand2
                    have hu : m % 2 = 1 ∧ (R ≠ 0 ∨ m / 2 % 2 = 1) := ⟨hm1, .inr hm2⟩
                    by_cases hc : m / 2 + 1 = 9007199254740992
                    · have hcc : (m : Int) / 2 + 1 = 9007199254740992 := by omega
                      have r0 := t3 hu hc
                      rw [hcc, show (9007199254740992 : Int) / 2 = 4503599627370496 from rfl] at r0
                      have r := run _ r0
                      clear t1 t2 t3 run hm1 hu hc hRv r0 hR0 hm2
                      go_wp2
                      go_ret
                      exact ⟨rfl, HF.out⟩
                    · have r := run _ (t2 hu hc)
                      have hcc : ¬ (m : Int) / 2 + 1 = 9007199254740992 := by omega
                      clear t1 t2 t3 run hm1 hu hc hRv hR0 hm2
                      go_wp2
                      go_ret
                      exact ⟨rfl, HF.out⟩
                  · have hs2 : bits .and .u64 ((m : Int) / 2) 1 = 0 := by rw [hand2, show m / 2 % 2 = 0 from by omega]; rfl
                    have r := run _ (t1 (fun h => h.2.elim (fun k => k hR0) hm2))
                    have hcc : ¬ (m : Int) / 2 = 9007199254740992 := by omega
                    clear t1 t2 t3 run hm1 hR0 hm2 hRv hand2
                    go_wp2
                    go_ret
                    exact ⟨rfl, HF.out⟩
                · by_cases hh : hiOf R = 0
                  · have y1 : ¬ ((loOf R : Nat) : Int) = 0 := by have := val_hl (show R < M from by have := HR.out; have := HD.out; unfold M; omega); omega
                    have y0 : ((hiOf R : Nat) : Int) = 0 := by omega
                    rw [y0] at c0
                    generalize ((loOf R : Nat) : Int) = lo at *
                    clear hand2 y0 hh
                    have hu : m % 2 = 1 ∧ (R ≠ 0 ∨ m / 2 % 2 = 1) := ⟨hm1, .inl hR0⟩
                    by_cases hc : m / 2 + 1 = 9007199254740992
                    · have hcc : (m : Int) / 2 + 1 = 9007199254740992 := by omega
                      have r0 := t3 hu hc
                      rw [hcc, show (9007199254740992 : Int) / 2 = 4503599627370496 from rfl] at r0
                      have r := run _ r0
                      clear t1 t2 t3 run hm1 hu hc hRv r0 hR0
                      go_wp2
                      go_ret
                      exact ⟨rfl, HF.out⟩
                    · have r := run _ (t2 hu hc)
                      have hcc : ¬ (m : Int) / 2 + 1 = 9007199254740992 := by omega
                      clear t1 t2 t3 run hm1 hu hc hRv hR0
                      go_wp2
                      go_ret
                      exact ⟨rfl, HF.out⟩
                  · have y0 : ¬ ((hiOf R : Nat) : Int) = 0 := by omega
                    generalize ((hiOf R : Nat) : Int) = hi at *
                    generalize ((loOf R : Nat) : Int) = lo at *
                    clear hand2 hh
                    have hu : m % 2 = 1 ∧ (R ≠ 0 ∨ m / 2 % 2 = 1) := ⟨hm1, .inl hR0⟩
                    by_cases hc : m / 2 + 1 = 9007199254740992
                    · have hcc : (m : Int) / 2 + 1 = 9007199254740992 := by omega
                      have r0 := t3 hu hc
                      rw [hcc, show (9007199254740992 : Int) / 2 = 4503599627370496 from rfl] at r0
                      have r := run _ r0
                      clear t1 t2 t3 run hm1 hu hc hRv r0 hR0
                      go_wp2
                      go_ret
                      exact ⟨rfl, HF.out⟩
                    · have r := run _ (t2 hu hc)
                      have hcc : ¬ (m : Int) / 2 + 1 = 9007199254740992 := by omega
                      clear t1 t2 t3 run hm1 hu hc hRv hR0
                      go_wp2
                      go_ret
                      exact ⟨rfl, HF.out⟩
              · have hs1 : bits .and .u64 (m : Int) 1 = 0 := by rw [hand1, show m % 2 = 0 from by omega]; rfl
                have r := run _ (t1 (fun h => hm1 h.1))
                have hcc : ¬ (m : Int) / 2 = 9007199254740992 := by omega
                generalize ((hiOf R : Nat) : Int) = hi at *
                generalize ((loOf R : Nat) : Int) = lo at *
                clear t1 t2 t3 run hm1 hRv hand1 hand2
                go_wp2
                all_goals go_ret
                all_goals exact ⟨rfl, HF.out⟩
        · go_wp2_with fail
          refine (T.out _).mono ?_; rintro e w6 ⟨rfl, hb6⟩; obtain ⟨hc6, hf6⟩ := bcell hb6
          have z6 : w1.heap.size + 1 < w6.heap.size := Nat.lt_of_lt_of_le zr5 hb6.size
          have z60 : w1.heap.size < w6.heap.size := by omega
          have z50 : w1.heap.size < w5.heap.size := by omega
          have HB6 := Lib.hid hb6
          clear hb6
          go_wp2
          have hx := HNX.out (of_decide_eq_true HBL.out)
          refine ⟨⟨i + 1, by go_num, ?_⟩, by simp [intOf] <;> omega⟩
          rw [← HE2.out]
          have hl := of_decide_eq_true HBL.out
          exact ⟨hx.1, hx.2, by omega, (HN5.out.below HB6.out).put _, (HD5.out.below HB6.out).put_other (by omega) _ _, below_put (HB5.out.trans (HB6.out.mono (Nat.le_of_lt z50))) (Nat.le_refl _) _ _⟩
/-- The bits of what To answers. -/
noncomputable def toA (o : Option Int) : Nat := match o with
  | some v => toB v
  | none => 9221120237041090561
theorem to_c (b : Bool) (v : Int) (h1 : -9223372036854775808 ≤ v ∧ v ≤ 9223372036854775807) (w : World) :
    Calls Try.prog 14 #[.agg #[.bool b, .int .i64 v]] w fun e w' => e = .returned (.float .f64 (toA (rd b v))) ∧ Below w.heap.size w w' := by
  by_cases g : b = false ∧ v ≠ -9223372036854775808
  · obtain ⟨rfl, hv⟩ := g
    rw [rd_some rfl hv]
    by_cases h0 : v = 0
    · subst h0
      have e : toA (some 0) = 0 := by show toB 0 = 0; unfold toB; rw [if_pos rfl]
      rw [e]
      exact to_zero w
    · by_cases hn : v < 0
      · exact to_neg v (by omega) h1.2 h0 hn w
      · exact to_pos v (by omega) h1.2 h0 hn w
  · rw [rd_none g]
    exact to_no b v g w
end Go.Proofs.Ytcppcfjejalggaa.LR
