/-
  Contracts of the document's own functions of layer 4 (isobarref04), the third part: From.
-/
import Derived.Test.YtcppcfjejalggaaFloRef
import Derived.Test.YtcppcfjejalggaaFloRefB
import Derived.Test.YtcppcfjejalggaaFloMath2
import Derived.Test.YtcppcfjejalggaaWideRMul
import Derived.Test.YtcppcfjejalggaaWideRAdd
import Derived.Test.YtcppcfjejalggaaWideRDbl
set_option linter.unusedSimpArgs false
set_option linter.unusedVariables false
namespace Go.Proofs.Ytcppcfjejalggaa.LR
open Go.RowKit
theorem has_new (w : World) (v : Nat) : Has (w.alloc (.cells #[.int .u64 (hiOf v : Nat), .int .u64 (loOf v : Nat)] 53)) w.heap.size v :=
  ⟨by simp, by go_simp, by go_simp, by go_simp, by go_simp⟩
theorem below_put_alloc {B b : Nat} {a w : World} (h : Below B a w) (hB : B ≤ b) (hw : B ≤ w.heap.size) (p q : Value) (o : Obj) : Below B a (((w.setCell ⟨b, 0, none⟩ p).setCell ⟨b, 1, none⟩ q).alloc o) :=
  (below_put h hB p q).alloc (by simpa [World.setCell] using hw) o
theorem nothing_c (w : World) : Calls Try.prog 24 #[] w fun e w' => e = .returned (.agg #[.bool true, .int .i64 0]) ∧ Below w.heap.size w w' := by
  go_enter Try.func24, Try.ntmps24
  go_wp2
  exact bodyPost_ret (v := .agg #[.bool true, .int .i64 0]) (by simp [results, Try.results24, go_sem]) rfl ⟨rfl, (Below.refl _ _).alloc (Nat.le_refl _) _⟩
theorem fM_lt (n : Nat) : fM n < 9007199254740992 := by
  have := frc_lt n
  unfold fM
  split
  · omega
  · split <;> omega
set_option maxRecDepth 100000 in
set_option maxHeartbeats 2000000 in
theorem from_nan (n : Nat) (hn : n < 18446744073709551616) (h : fKind n = 0) (w : World) : Calls Try.prog 10 #[.float .f64 n] w fun e w' => e = .returned (.tuple #[.agg #[.bool true, .int .i64 0], .int .i64 0]) ∧ Below w.heap.size w w' := by
  have p1 := parts_c n hn; have p2 := kind_c n hn; have p3 := nothing_c
  rw [h] at p2
  generalize fSgn n = b at *; generalize ((fM n : Nat) : Int) = m at *; generalize fE n = x at *
  have P1 := Lib.hid p1; have P2 := Lib.hid p2; have P3 := Lib.hid p3
  clear p1 p2 p3
  go_enter Try.func10, Try.ntmps10
  go_wp2_with fail
  refine (P1.out _).mono ?_; rintro e w1 ⟨rfl, rfl⟩
  go_wp2_with fail
  refine (P2.out _).mono ?_; rintro e w1 ⟨rfl, rfl⟩
  go_wp2_with fail
  refine (P3.out _).mono ?_; rintro e w3 ⟨rfl, hb3⟩; obtain ⟨hc3, hf3⟩ := bcell hb3
  have z3 : w.heap.size < w3.heap.size := (by have := hb3.size; simp at this; omega)
  go_wp2
  exact bodyPost_ret (v := .tuple #[.agg #[.bool true, .int .i64 0], .int .i64 0]) (by simp [results, Try.results10, go_sem, hc3, hf3, z3]) rfl ⟨rfl, below_put (below_box hb3) (Nat.le_refl _) _ _⟩
set_option maxRecDepth 100000 in
set_option maxHeartbeats 2000000 in
theorem from_inf (n : Nat) (hn : n < 18446744073709551616) (k : Int) (hk : fKind n = k) (h : k = 1 ∨ k = 6) (w : World) : Calls Try.prog 10 #[.float .f64 n] w fun e w' => e = .returned (.tuple #[.agg #[.bool false, .int .i64 0], .int .i64 3]) ∧ Below w.heap.size w w' := by
  have p1 := parts_c n hn; have p2 := kind_c n hn
  rw [hk] at p2
  generalize fSgn n = b at *; generalize ((fM n : Nat) : Int) = m at *; generalize fE n = x at *
  have P1 := Lib.hid p1; have P2 := Lib.hid p2
  clear p1 p2 hk
  rcases h with rfl | rfl
  all_goals
    go_enter Try.func10, Try.ntmps10
    go_wp2_with fail
    refine (P1.out _).mono ?_; rintro e w1 ⟨rfl, rfl⟩
    go_wp2_with fail
    refine (P2.out _).mono ?_; rintro e w1 ⟨rfl, rfl⟩
    go_wp2
    exact bodyPost_ret (v := .tuple #[.agg #[.bool false, .int .i64 0], .int .i64 3]) (by simp [results, Try.results10, go_sem]) rfl ⟨rfl, (Below.refl _ _).alloc (Nat.le_refl _) _⟩
theorem fin_e {n : Nat} (h0 : ¬ fKind n = 0) (h1 : ¬ fKind n = 1) (h6 : ¬ fKind n = 6) : -1074 ≤ fE n ∧ fE n ≤ 971 ∧ (0 < fE n → 4503599627370496 ≤ fM n) := by
  have hx := exp_lt n
  have hne : fE n ≠ 1000 := by
    intro h
    unfold fKind at h0 h1 h6
    rw [h] at h0 h1 h6
    by_cases hm : fM n = 0 <;> by_cases hs : fSgn n = true <;> simp [hm, hs] at h0 h1 h6
  unfold fE at hne ⊢
  unfold fM
  have := frc_lt n
  by_cases h : fExp n = 2047
  · rw [if_pos h] at hne; exact absurd rfl hne
  · rw [if_neg h] at hne ⊢
    rw [if_neg h]
    by_cases hz : fExp n = 0
    · rw [if_pos hz]; omega
    · rw [if_neg hz, if_neg hz]; omega
set_option maxRecDepth 100000 in
set_option maxHeartbeats 2000000 in
theorem from_up (n : Nat) (hn : n < 18446744073709551616) (k : Int) (hk : fKind n = k) (h0 : ¬ k = 0) (h1 : ¬ k = 1) (h6 : ¬ k = 6) (p : Nat) (hp : fE n = p) (hp0 : 0 < p) (hp1 : p ≤ 971) (w : World) :
    Calls Try.prog 10 #[.float .f64 n] w fun e w' => e = .returned (.tuple #[.agg #[.bool (frN n).1, .int .i64 (frN n).2.1], .int .i64 (frN n).2.2]) ∧ Below w.heap.size w w' := by
  have p1 := parts_c n hn; have p2 := kind_c n hn
  have hm := fM_lt n
  have p3 := rmul_c (fM n) 1000000 (by omega) (by omega)
  obtain ⟨X, hX⟩ : ∃ X, fM n * 1000000 = X := ⟨_, rfl⟩
  have hXM : X < 9007199254740992000000 := by omega
  have hfr : frM n = X * 2 ^ p := by unfold frM; rw [hp, if_pos (by omega), hX, Int.toNat_natCast]
  have hbig : 9223372036854775807 < X * 2 ^ p → frN n = (false, 0, 3) := fun h => by unfold frN; rw [hk, if_neg h0, if_neg (by omega), hfr, if_pos h]
  have hsm : ¬ 9223372036854775807 < X * 2 ^ p → frN n = (false, if fSgn n then -((X * 2 ^ p : Nat) : Int) else ((X * 2 ^ p : Nat) : Int), 0) := fun h => by unfold frN; rw [hk, if_neg h0, if_neg (by omega), hfr, if_neg h]
  rw [hk] at p2
  rw [hX] at p3
  rw [hp] at p1
  generalize frN n = Z at *
  generalize fSgn n = b at *
  generalize fM n = m at *
  have P1 := Lib.hid p1; have P2 := Lib.hid p2; have P3 := Lib.hid p3; have HB := Lib.hid hbig; have HS := Lib.hid hsm
  clear p1 p2 p3 hbig hsm hfr hX hk hn
  go_enter Try.func10, Try.ntmps10
  go_wp2_with fail
  refine (P1.out _).mono ?_; rintro e w1 ⟨rfl, rfl⟩
  go_wp2_with fail
  refine (P2.out _).mono ?_; rintro e w1 ⟨rfl, rfl⟩
  go_wp2_with fail
  refine (P3.out _).mono ?_; rintro e w3 ⟨rfl, hb3⟩; obtain ⟨hc3, hf3⟩ := bcell hb3
  have z3 : w.heap.size < w3.heap.size := (by have := hb3.size; simp at this; omega)
  have HX := Lib.hid (below_box hb3)
  have K0 : w3.cell? ⟨w.heap.size, 0, none⟩ = some (.bool false) := by go_simp
  have K1 : w3.cell? ⟨w.heap.size, 1, none⟩ = some (.int .i64 0) := by go_simp
  have K2 : w3.frozen? ⟨w.heap.size, 0, none⟩ = false := by go_simp
  have K3 : w3.frozen? ⟨w.heap.size, 1, none⟩ = false := by go_simp
  clear hc3 hf3 hb3
  go_wp2
  go_loopw [6] (fun e wr => ∃ i : Nat, i ≤ p ∧ e = .int .i64 ((p : Int) - i) ∧ Hid (X * 2 ^ i < M ∧ Has wr w3.heap.size (X * 2 ^ i) ∧ Below w3.heap.size w3 wr)) (fun e _ => (intOf e).toNat)
  case atStart => exact ⟨0, Nat.zero_le _, (by show Value.int .i64 (p : Int) = .int .i64 ((p : Int) - ((0 : Nat) : Int)); congr 1), ⟨by rw [Nat.pow_zero, Nat.mul_one]; unfold M; omega, by rw [Nat.pow_zero, Nat.mul_one]; exact has_new w3 X, (Below.refl _ _).alloc (Nat.le_refl _) _⟩⟩
  case round =>
    obtain ⟨i, hi, rfl, HI⟩ := hrel
    obtain ⟨hM, hH, hB⟩ := HI.out
    have zr : w3.heap.size < wr.heap.size := hH.lt
    have zr0 : w.heap.size < wr.heap.size := by omega
    have L0 : wr.cell? ⟨w.heap.size, 0, none⟩ = some (.bool false) := (hB.cell (p := ⟨w.heap.size, 0, none⟩) z3).trans K0
    have L1 : wr.cell? ⟨w.heap.size, 1, none⟩ = some (.int .i64 0) := (hB.cell (p := ⟨w.heap.size, 1, none⟩) z3).trans K1
    have L2 : wr.frozen? ⟨w.heap.size, 0, none⟩ = false := (hB.frozen (p := ⟨w.heap.size, 0, none⟩) z3).trans K2
    have L3 : wr.frozen? ⟨w.heap.size, 1, none⟩ = false := (hB.frozen (p := ⟨w.heap.size, 1, none⟩) z3).trans K3
    have c0 := hH.hi; have c1 := hH.lo; have c2 := hH.fh; have c3 := hH.fl
    by_cases hlt : i < p
    · have d := dbl_c (X * 2 ^ i) hM
      have e2 : 2 * (X * 2 ^ i) = X * 2 ^ (i + 1) := by rw [Nat.pow_succ, Nat.mul_comm 2, Nat.mul_assoc]
      rw [e2] at d
      have HN := Lib.hid (show ovf (X * 2 ^ (i + 1)) = false → X * 2 ^ (i + 1) < M from fun h => by have := of_decide_eq_false h; unfold M; omega)
      have HY := Lib.hid (show ovf (X * 2 ^ (i + 1)) = true → 9223372036854775807 < X * 2 ^ p from fun h => by
        have h1 := of_decide_eq_true h
        have h2 : X * 2 ^ (i + 1) ≤ X * 2 ^ p := Nat.mul_le_mul_left X (Nat.pow_le_pow_right (by decide) hlt)
        omega)
      obtain ⟨V, hV⟩ : ∃ V, X * 2 ^ i = V := ⟨_, rfl⟩
      obtain ⟨U, hU⟩ : ∃ U, X * 2 ^ (i + 1) = U := ⟨_, rfl⟩
      rw [hV] at d c0 c1 hH
      rw [hU] at d HN HY
      have D := Lib.hid d
      have HU := Lib.hid hU
      have HH := Lib.hid hH
      have HBB := Lib.hid hB
      clear d e2 hM hH hU hV hB
      cases ho : ovf U
      · rw [ho] at D
        have HUM := Lib.hid (HN.out ho)
        clear HN HY ho
        go_wp2_with fail
        refine (D.out _).mono ?_; rintro e w5 ⟨rfl, hb5⟩; obtain ⟨hc5, hf5⟩ := bcell hb5
        have z5 : w3.heap.size < w5.heap.size := Nat.lt_of_lt_of_le zr hb5.size
        have ne5 : w5.heap.size ≠ w3.heap.size := by omega
        have ne6 : w3.heap.size ≠ w5.heap.size := by omega
        have HB5 := Lib.hid hb5
        clear hb5
        go_wp2
        refine ⟨⟨i + 1, by omega, by go_num, ?_⟩, by simp [intOf] <;> omega⟩
        rw [HU.out]
        refine ⟨HUM.out, ((HH.out.below HB5.out).put U).alloc _, below_put_alloc (HBB.out.trans (HB5.out.mono (Nat.le_of_lt zr))) (Nat.le_refl _) (Nat.le_of_lt z5) _ _ _⟩
      · rw [ho] at D
        have hbig := HY.out ho
        have HZ := Lib.hid (HB.out hbig)
        clear HN HY ho hbig
        go_wp2_with fail
        refine (D.out _).mono ?_; rintro e w5 ⟨rfl, hb5⟩; obtain ⟨hc5, hf5⟩ := bcell hb5
        have z5 : w.heap.size < w5.heap.size := Nat.lt_of_lt_of_le zr0 hb5.size
        have ne5 : w5.heap.size ≠ w.heap.size := by omega
        have ne6 : w.heap.size ≠ w5.heap.size := by omega
        have HF := Lib.hid (HX.out.trans (HBB.out.trans (hb5.mono (Nat.le_of_lt zr)) |>.mono (Nat.le_of_lt z3)))
        go_wp2
        exact bodyPost_ret (v := .tuple #[.agg #[.bool false, .int .i64 0], .int .i64 3]) (by simp [results, Try.results10, go_sem, hc5, hf5, L0, L1, L2, L3, zr0, z5]) rfl ⟨by rw [HZ.out], below_put_alloc HF.out (Nat.le_refl _) (Nat.le_of_lt z5) _ _ _⟩
    · obtain rfl : i = p := by omega
      obtain ⟨G, hG⟩ : ∃ G, X * 2 ^ i = G := ⟨_, rfl⟩
      rw [hG] at c0 c1 hM HB HS
      have HF := Lib.hid (HX.out.trans (hB.mono (Nat.le_of_lt z3)))
      clear hH hB
      have HM := Lib.hid hM
      clear hM
      by_cases hbig : 9223372036854775807 < G
      · have HZ := Lib.hid (HB.out hbig)
        by_cases hh : hiOf G = 0
        · have hlo : (9223372036854775807 : Int) < (loOf G : Nat) := by have := val_hl HM.out; omega
          have hh0 : ((hiOf G : Nat) : Int) = 0 := by omega
          clear hbig hh
          go_wp2
          go_loop [6, 10] (fun e u => e = .int .i64 0 ∧ u = .bool false) (fun _ _ => 0)
          case atStart => exact ⟨by congr 1 <;> omega, rfl⟩
          case round =>
            obtain ⟨rfl, rfl⟩ := hrel
            go_wp2
            exact bodyPost_ret (v := .tuple #[.agg #[.bool false, .int .i64 0], .int .i64 3]) (by simp [results, Try.results10, go_sem, L0, L1, L2, L3, zr0]) rfl ⟨by rw [HZ.out], below_put HF.out (Nat.le_refl _) _ _⟩
        · have hh0 : ¬ ((hiOf G : Nat) : Int) = 0 := by omega
          clear hbig hh
          go_wp2
          go_loop [6, 10] (fun e u => e = .int .i64 0 ∧ u = .bool false) (fun _ _ => 0)
          case atStart => exact ⟨by congr 1 <;> omega, rfl⟩
          case round =>
            obtain ⟨rfl, rfl⟩ := hrel
            go_wp2
            exact bodyPost_ret (v := .tuple #[.agg #[.bool false, .int .i64 0], .int .i64 3]) (by simp [results, Try.results10, go_sem, L0, L1, L2, L3, zr0]) rfl ⟨by rw [HZ.out], below_put HF.out (Nat.le_refl _) _ _⟩
      · have HZ := Lib.hid (HS.out hbig)
        have hv := val_hl HM.out
        have hh0 : ((hiOf G : Nat) : Int) = 0 := by omega
        have hlo : ((loOf G : Nat) : Int) = (G : Int) := by omega
        have hGm : (G : Int) ≤ 9223372036854775807 := by omega
        have hG0 : (0 : Int) ≤ G := by omega
        rw [hh0] at c0
        rw [hlo] at c1
        generalize (G : Int) = g at *
        clear hbig hv hh0 hlo
        cases b
        · go_wp2
          go_loop [6, 10] (fun e u => e = .int .i64 0 ∧ u = .bool false) (fun _ _ => 0)
          case atStart => exact ⟨by congr 1 <;> omega, rfl⟩
          case round =>
            obtain ⟨rfl, rfl⟩ := hrel
            go_wp2
            exact bodyPost_ret (v := .tuple #[.agg #[.bool false, .int .i64 g], .int .i64 0]) (by simp [results, Try.results10, go_sem, L0, L1, L2, L3, zr0]) rfl ⟨by rw [HZ.out]; simp, below_put HF.out (Nat.le_refl _) _ _⟩
        · go_wp2
          go_loop [6, 10] (fun e u => e = .int .i64 0 ∧ u = .bool false) (fun _ _ => 0)
          case atStart => exact ⟨by congr 1 <;> omega, rfl⟩
          case round =>
            obtain ⟨rfl, rfl⟩ := hrel
            go_wp2
            exact bodyPost_ret (v := .tuple #[.agg #[.bool false, .int .i64 (-g)], .int .i64 0]) (by simp [results, Try.results10, go_sem, L0, L1, L2, L3, zr0]) rfl ⟨by rw [HZ.out]; simp, below_put HF.out (Nat.le_refl _) _ _⟩
/-- The bit that fell off last. -/
def upB (X i : Nat) : Bool := decide (i ≠ 0 ∧ X / 2 ^ (i - 1) % 2 = 1)
set_option maxRecDepth 100000 in
set_option maxHeartbeats 2000000 in
theorem from_down (n : Nat) (hn : n < 18446744073709551616) (k : Int) (hk : fKind n = k) (h0 : ¬ k = 0) (h1 : ¬ k = 1) (h6 : ¬ k = 6) (q : Nat) (hp : fE n = -(q : Int)) (hp1 : q ≤ 1074) (w : World) :
    Calls Try.prog 10 #[.float .f64 n] w fun e w' => e = .returned (.tuple #[.agg #[.bool (frN n).1, .int .i64 (frN n).2.1], .int .i64 (frN n).2.2]) ∧ Below w.heap.size w w' := by
  have p1 := parts_c n hn; have p2 := kind_c n hn
  have hm := fM_lt n
  have p3 := rmul_c (fM n) 1000000 (by omega) (by omega)
  obtain ⟨X, hX⟩ : ∃ X, fM n * 1000000 = X := ⟨_, rfl⟩
  have hXM : X < 9007199254740992000000 := by omega
  have hfr : frM n = hup X q := by unfold frM; rw [hp, if_neg (by omega), hX, show (-(-(q : Int))).toNat = q from by omega]
  have hbig : 9223372036854775807 < hup X q → frN n = (false, 0, 3) := fun h => by unfold frN; rw [hk, if_neg h0, if_neg (by omega), hfr, if_pos h]
  have hsm : ¬ 9223372036854775807 < hup X q → frN n = (false, if fSgn n then -((hup X q : Nat) : Int) else ((hup X q : Nat) : Int), 0) := fun h => by unfold frN; rw [hk, if_neg h0, if_neg (by omega), hfr, if_neg h]
  rw [hk] at p2
  rw [hX] at p3
  rw [hp] at p1
  generalize frN n = Z at *
  generalize fSgn n = b at *
  generalize fM n = m at *
  have P1 := Lib.hid p1; have P2 := Lib.hid p2; have P3 := Lib.hid p3; have HB := Lib.hid hbig; have HS := Lib.hid hsm
  clear p1 p2 p3 hbig hsm hfr hX hk hn
  go_enter Try.func10, Try.ntmps10
  go_wp2_with fail
  refine (P1.out _).mono ?_; rintro e w1 ⟨rfl, rfl⟩
  go_wp2_with fail
  refine (P2.out _).mono ?_; rintro e w1 ⟨rfl, rfl⟩
  go_wp2_with fail
  refine (P3.out _).mono ?_; rintro e w3 ⟨rfl, hb3⟩; obtain ⟨hc3, hf3⟩ := bcell hb3
  have z3 : w.heap.size < w3.heap.size := (by have := hb3.size; simp at this; omega)
  have HX := Lib.hid (below_box hb3)
  have K0 : w3.cell? ⟨w.heap.size, 0, none⟩ = some (.bool false) := by go_simp
  have K1 : w3.cell? ⟨w.heap.size, 1, none⟩ = some (.int .i64 0) := by go_simp
  have K2 : w3.frozen? ⟨w.heap.size, 0, none⟩ = false := by go_simp
  have K3 : w3.frozen? ⟨w.heap.size, 1, none⟩ = false := by go_simp
  clear hc3 hf3 hb3
  go_wp2
  go_loop [6] (fun e => e = .int .i64 (-(q : Int))) (fun _ => 0)
  case atStart => rfl
  case round =>
    subst hrel
    go_wp2
    go_loopw [6, 10] (fun e u wr => ∃ i : Nat, i ≤ q ∧ e = .int .i64 ((i : Int) - q) ∧ u = .bool (upB X i) ∧ Hid (Has wr w3.heap.size (X / 2 ^ i) ∧ Below w3.heap.size w3 wr)) (fun e _ _ => (-(intOf e)).toNat)
    case atStart => exact ⟨0, Nat.zero_le _, (by show Value.int .i64 (-(q : Int)) = .int .i64 (((0 : Nat) : Int) - q); congr 1; omega), rfl, ⟨by rw [Nat.pow_zero, Nat.div_one]; exact has_new w3 X, (Below.refl _ _).alloc (Nat.le_refl _) _⟩⟩
    case round =>
      obtain ⟨i, hi, rfl, rfl, HI⟩ := hrel
      obtain ⟨hH, hB⟩ := HI.out
      have zr : w3.heap.size < wr.heap.size := hH.lt
      have zr0 : w.heap.size < wr.heap.size := by omega
      have L0 : wr.cell? ⟨w.heap.size, 0, none⟩ = some (.bool false) := (hB.cell (p := ⟨w.heap.size, 0, none⟩) z3).trans K0
      have L1 : wr.cell? ⟨w.heap.size, 1, none⟩ = some (.int .i64 0) := (hB.cell (p := ⟨w.heap.size, 1, none⟩) z3).trans K1
      have L2 : wr.frozen? ⟨w.heap.size, 0, none⟩ = false := (hB.frozen (p := ⟨w.heap.size, 0, none⟩) z3).trans K2
      have L3 : wr.frozen? ⟨w.heap.size, 1, none⟩ = false := (hB.frozen (p := ⟨w.heap.size, 1, none⟩) z3).trans K3
      have c0 := hH.hi; have c1 := hH.lo; have c2 := hH.fh; have c3 := hH.fl
      have HVM := Lib.hid (show X / 2 ^ i < M from Nat.lt_of_le_of_lt (Nat.div_le_self _ _) (by unfold M; omega))
      by_cases hlt : i < q
      · have e2 : X / 2 ^ i / 2 = X / 2 ^ (i + 1) := by rw [Nat.pow_succ, Nat.div_div_eq_div_mul]
        have HU := Lib.hid (show upB X (i + 1) = decide (X / 2 ^ i % 2 = 1) from by simp [upB])
        have HE := Lib.hid e2
        obtain ⟨V, hV⟩ : ∃ V, X / 2 ^ i = V := ⟨_, rfl⟩
        rw [hV] at c0 c1 hH HU HE HVM
        have HH := Lib.hid hH
        have HBB := Lib.hid hB
        have hA : bits .and .u64 ((loOf V : Nat) : Int) 1 = ((V % 2 : Nat) : Int) := by
          have h := and_mask (loOf V) 1 (Nat.mod_lt _ (by decide)) (by decide)
          have e : loOf V % 2 ^ 1 = V % 2 := by unfold loOf; omega
          rw [e] at h
          exact h
        have hH2 : ((hiOf V : Nat) : Int) / 2 = ((hiOf (V / 2) : Nat) : Int) := by have := half_hi V HVM.out; omega
        have hOr := half_or V
        have hr : V % 2 = 0 ∨ V % 2 = 1 := by omega
        generalize ((hiOf V : Nat) : Int) = a at *
        generalize ((loOf V : Nat) : Int) = b at *
        clear e2 hH hB hV
        rcases hr with hr | hr
        all_goals
          rw [hr] at hA
          have HR := Lib.hid hr
          clear hr
          go_wp2
          refine ⟨⟨i + 1, by omega, by go_num, by rw [HU.out, HR.out]; rfl, ?_⟩, by simp [intOf] <;> omega⟩
          rw [← HE.out]
          exact ⟨HH.out.put _, below_put HBB.out (Nat.le_refl _) _ _⟩
      · obtain rfl : i = q := by omega
        have HF := Lib.hid (HX.out.trans (hB.mono (Nat.le_of_lt z3)))
        cases hu : upB X i
        · have hG : hup X i = X / 2 ^ i := by
            unfold upB at hu
            have h := of_decide_eq_false hu
            unfold hup
            by_cases hz : i = 0
            · rw [if_pos hz, Nat.add_zero]
            · rw [if_neg hz]
              have : ¬ X / 2 ^ (i - 1) % 2 = 1 := fun e => h ⟨hz, e⟩
              omega
          rw [hG] at HB HS
          obtain ⟨G, hGG⟩ : ∃ G, X / 2 ^ i = G := ⟨_, rfl⟩
          rw [hGG] at c0 c1 HB HS HVM
          have HM := HVM
          clear hH hB hu hG hGG HVM
          by_cases hbig : 9223372036854775807 < G
          · have HZ := Lib.hid (HB.out hbig)
            by_cases hh : hiOf G = 0
            · have hlo : (9223372036854775807 : Int) < (loOf G : Nat) := by have := val_hl HM.out; omega
              have hh0 : ((hiOf G : Nat) : Int) = 0 := by omega
              clear hbig hh
              go_wp2
              exact bodyPost_ret (v := .tuple #[.agg #[.bool false, .int .i64 0], .int .i64 3]) (by simp [results, Try.results10, go_sem, L0, L1, L2, L3, zr0]) rfl ⟨by rw [HZ.out], below_put HF.out (Nat.le_refl _) _ _⟩
            · have hh0 : ¬ ((hiOf G : Nat) : Int) = 0 := by omega
              clear hbig hh
              go_wp2
              exact bodyPost_ret (v := .tuple #[.agg #[.bool false, .int .i64 0], .int .i64 3]) (by simp [results, Try.results10, go_sem, L0, L1, L2, L3, zr0]) rfl ⟨by rw [HZ.out], below_put HF.out (Nat.le_refl _) _ _⟩
          · have HZ := Lib.hid (HS.out hbig)
            have hv := val_hl HM.out
            have hh0 : ((hiOf G : Nat) : Int) = 0 := by omega
            have hlo : ((loOf G : Nat) : Int) = (G : Int) := by omega
            have hGm : (G : Int) ≤ 9223372036854775807 := by omega
            have hG0 : (0 : Int) ≤ G := by omega
            rw [hh0] at c0
            rw [hlo] at c1
            generalize (G : Int) = g at *
            clear hbig hv hh0 hlo
            cases b
            · go_wp2
              exact bodyPost_ret (v := .tuple #[.agg #[.bool false, .int .i64 g], .int .i64 0]) (by simp [results, Try.results10, go_sem, L0, L1, L2, L3, zr0]) rfl ⟨by rw [HZ.out]; simp, below_put HF.out (Nat.le_refl _) _ _⟩
            · go_wp2
              exact bodyPost_ret (v := .tuple #[.agg #[.bool false, .int .i64 (-g)], .int .i64 0]) (by simp [results, Try.results10, go_sem, L0, L1, L2, L3, zr0]) rfl ⟨by rw [HZ.out]; simp, below_put HF.out (Nat.le_refl _) _ _⟩
        · have hG : hup X i = X / 2 ^ i + 1 := by
            unfold upB at hu
            have h := of_decide_eq_true hu
            unfold hup
            rw [if_neg h.1, h.2]
          rw [hG] at HB HS
          have d := radd1_c (X / 2 ^ i) HVM.out
          have HM := Lib.hid (show X / 2 ^ i + 1 < M from by have := Nat.div_le_self X (2 ^ i); unfold M; omega)
          obtain ⟨V, hV⟩ : ∃ V, X / 2 ^ i = V := ⟨_, rfl⟩
          rw [hV] at c0 c1 d HB HS HM
          obtain ⟨G, hGG⟩ : ∃ G, V + 1 = G := ⟨_, rfl⟩
          rw [hGG] at d HB HS HM
          clear hH hB hu hG hGG hV HVM
          by_cases hbig : 9223372036854775807 < G
          · have HZ := Lib.hid (HB.out hbig)
            by_cases hh : hiOf G = 0
            · have hlo : (9223372036854775807 : Int) < (loOf G : Nat) := by have := val_hl HM.out; omega
              have hh0 : ((hiOf G : Nat) : Int) = 0 := by omega
              clear hbig hh
              have D := Lib.hid d
              clear d
              go_wp2_with fail
              refine (D.out _).mono ?_; rintro e w6 ⟨rfl, hb6⟩; obtain ⟨hc6, hf6⟩ := bcell hb6
              have z6 : w3.heap.size < w6.heap.size := Nat.lt_of_lt_of_le zr hb6.size
              have z60 : w.heap.size < w6.heap.size := by omega
              have HFF := Lib.hid (HF.out.trans (hb6.mono (Nat.le_of_lt zr0)))
              have M0 : w6.cell? ⟨w.heap.size, 0, none⟩ = some (.bool false) := by go_simp
              have M1 : w6.cell? ⟨w.heap.size, 1, none⟩ = some (.int .i64 0) := by go_simp
              have M2 : w6.frozen? ⟨w.heap.size, 0, none⟩ = false := by go_simp
              have M3 : w6.frozen? ⟨w.heap.size, 1, none⟩ = false := by go_simp
              go_wp2
              exact bodyPost_ret (v := .tuple #[.agg #[.bool false, .int .i64 0], .int .i64 3]) (by simp [results, Try.results10, go_sem, M0, M1, M2, M3, z60]) rfl ⟨by rw [HZ.out], below_put (below_put HFF.out (Nat.le_of_lt z3) _ _) (Nat.le_refl _) _ _⟩
            · have hh0 : ¬ ((hiOf G : Nat) : Int) = 0 := by omega
              clear hbig hh
              have D := Lib.hid d
              clear d
              go_wp2_with fail
              refine (D.out _).mono ?_; rintro e w6 ⟨rfl, hb6⟩; obtain ⟨hc6, hf6⟩ := bcell hb6
              have z6 : w3.heap.size < w6.heap.size := Nat.lt_of_lt_of_le zr hb6.size
              have z60 : w.heap.size < w6.heap.size := by omega
              have HFF := Lib.hid (HF.out.trans (hb6.mono (Nat.le_of_lt zr0)))
              have M0 : w6.cell? ⟨w.heap.size, 0, none⟩ = some (.bool false) := by go_simp
              have M1 : w6.cell? ⟨w.heap.size, 1, none⟩ = some (.int .i64 0) := by go_simp
              have M2 : w6.frozen? ⟨w.heap.size, 0, none⟩ = false := by go_simp
              have M3 : w6.frozen? ⟨w.heap.size, 1, none⟩ = false := by go_simp
              go_wp2
              exact bodyPost_ret (v := .tuple #[.agg #[.bool false, .int .i64 0], .int .i64 3]) (by simp [results, Try.results10, go_sem, M0, M1, M2, M3, z60]) rfl ⟨by rw [HZ.out], below_put (below_put HFF.out (Nat.le_of_lt z3) _ _) (Nat.le_refl _) _ _⟩
          · have HZ := Lib.hid (HS.out hbig)
            have hv := val_hl HM.out
            have hh0 : ((hiOf G : Nat) : Int) = 0 := by omega
            have hlo : ((loOf G : Nat) : Int) = (G : Int) := by omega
            have hGm : (G : Int) ≤ 9223372036854775807 := by omega
            have hG0 : (0 : Int) ≤ G := by omega
            rw [hh0, hlo] at d
            generalize (G : Int) = g at *
            clear hbig hv hh0 hlo
            have D := Lib.hid d
            clear d
            cases b
            · go_wp2_with fail
              refine (D.out _).mono ?_; rintro e w6 ⟨rfl, hb6⟩; obtain ⟨hc6, hf6⟩ := bcell hb6
              have z6 : w3.heap.size < w6.heap.size := Nat.lt_of_lt_of_le zr hb6.size
              have z60 : w.heap.size < w6.heap.size := by omega
              have HFF := Lib.hid (HF.out.trans (hb6.mono (Nat.le_of_lt zr0)))
              have M0 : w6.cell? ⟨w.heap.size, 0, none⟩ = some (.bool false) := by go_simp
              have M1 : w6.cell? ⟨w.heap.size, 1, none⟩ = some (.int .i64 0) := by go_simp
              have M2 : w6.frozen? ⟨w.heap.size, 0, none⟩ = false := by go_simp
              have M3 : w6.frozen? ⟨w.heap.size, 1, none⟩ = false := by go_simp
              go_wp2
              exact bodyPost_ret (v := .tuple #[.agg #[.bool false, .int .i64 g], .int .i64 0]) (by simp [results, Try.results10, go_sem, M0, M1, M2, M3, z60]) rfl ⟨by rw [HZ.out]; simp, below_put (below_put HFF.out (Nat.le_of_lt z3) _ _) (Nat.le_refl _) _ _⟩
            · go_wp2_with fail
              refine (D.out _).mono ?_; rintro e w6 ⟨rfl, hb6⟩; obtain ⟨hc6, hf6⟩ := bcell hb6
              have z6 : w3.heap.size < w6.heap.size := Nat.lt_of_lt_of_le zr hb6.size
              have z60 : w.heap.size < w6.heap.size := by omega
              have HFF := Lib.hid (HF.out.trans (hb6.mono (Nat.le_of_lt zr0)))
              have M0 : w6.cell? ⟨w.heap.size, 0, none⟩ = some (.bool false) := by go_simp
              have M1 : w6.cell? ⟨w.heap.size, 1, none⟩ = some (.int .i64 0) := by go_simp
              have M2 : w6.frozen? ⟨w.heap.size, 0, none⟩ = false := by go_simp
              have M3 : w6.frozen? ⟨w.heap.size, 1, none⟩ = false := by go_simp
              go_wp2
              exact bodyPost_ret (v := .tuple #[.agg #[.bool false, .int .i64 (-g)], .int .i64 0]) (by simp [results, Try.results10, go_sem, M0, M1, M2, M3, z60]) rfl ⟨by rw [HZ.out]; simp, below_put (below_put HFF.out (Nat.le_of_lt z3) _ _) (Nat.le_refl _) _ _⟩
theorem from_c (n : Nat) (hn : n < 18446744073709551616) (w : World) :
    Calls Try.prog 10 #[.float .f64 n] w fun e w' => e = .returned (.tuple #[.agg #[.bool (frN n).1, .int .i64 (frN n).2.1], .int .i64 (frN n).2.2]) ∧ Below w.heap.size w w' := by
  by_cases h0 : fKind n = 0
  · have hZ : frN n = (true, 0, 0) := by unfold frN; rw [if_pos h0]
    rw [hZ]
    exact from_nan n hn h0 w
  · by_cases h1 : fKind n = 1 ∨ fKind n = 6
    · have hZ : frN n = (false, 0, 3) := by unfold frN; rw [if_neg h0, if_pos h1]
      rw [hZ]
      exact from_inf n hn _ rfl h1 w
    · have hf := fin_e h0 (fun h => h1 (.inl h)) (fun h => h1 (.inr h))
      by_cases hp : 0 < fE n
      · exact from_up n hn _ rfl h0 (fun h => h1 (.inl h)) (fun h => h1 (.inr h)) (fE n).toNat (by omega) (by omega) (by omega) w
      · exact from_down n hn _ rfl h0 (fun h => h1 (.inl h)) (fun h => h1 (.inr h)) (-fE n).toNat (by omega) (by omega) w
end Go.Proofs.Ytcppcfjejalggaa.LR
