/-
  Contracts of the program's own functions of layer 4 (floats), the first part: a float's kind, and which of two is greater.
-/
import Derived.Test.YtcppcfjejalggaaFloExact
import Derived.Test.YtcppcfjejalggaaShelf
import Derived.Test.YtcppcfjejalggaaFloRef
import Derived.WalkLawsBesides
set_option linter.unusedSimpArgs false
set_option linter.unusedVariables false
namespace Go.Proofs.Ytcppcfjejalggaa.LP
open Go.RowKit
theorem neg_word (n : Nat) (hn : n < 18446744073709551616) : decide (wrap64 (n : Int) < 0) = fSgn n := by
  unfold fSgn
  have h : wrap64 (n : Int) = ((n : Int) + 9223372036854775808) % 18446744073709551616 - 9223372036854775808 := by
    unfold wrap64
    omega
  rw [h, decide_eq_decide]
  omega
theorem signbit_c (n : Nat) (hn : n < 18446744073709551616) (w : World) : Calls Try.prog 33 #[.float .f64 n] w fun e w' => e = .returned (.bool (fSgn n)) ∧ w = w' := by
  have HB := LR.bits_run n
  have H := Lib.hid (neg_word n hn)
  go_enter Try.func33, Try.ntmps33
  go_wp2
  go_ret
  exact ⟨by rw [← H.out]; rfl, rfl⟩
theorem key_of (n : Nat) : fKey n = if fSgn n = true then -(fAbs n : Int) else (fAbs n : Int) := rfl
theorem ord_c {n c : Nat} {k : Int} (hn : n < 18446744073709551616) (hc : c < 18446744073709551616) (h : fAbs n ≤ 9218868437227405312) (h' : fAbs c ≤ 9218868437227405312) (hk : fKey c = k) : FloatKind.f64.format.order n c = some (cmpI (fKey n) k) := by
  rw [← hk]; exact order_key hn hc h h'
theorem lt_of {x y : Int} (h : x < y) : some (cmpI x y) = some Ordering.lt := by unfold cmpI; rw [if_pos h]
theorem gt_of {x y : Int} (h : y < x) : some (cmpI x y) = some Ordering.gt := by unfold cmpI; rw [if_neg (by omega), if_neg (by omega)]
theorem eq_of {x y : Int} (h : x = y) : some (cmpI x y) = some Ordering.eq := by unfold cmpI; rw [if_neg (by omega), if_pos h]
theorem key_max : fKey 9218868437227405311 = 9218868437227405311 := by decide
theorem key_min : fKey 18442240474082181119 = -9218868437227405311 := by decide
theorem key_zero : fKey 0 = 0 := by decide
set_option maxRecDepth 100000 in
set_option maxHeartbeats 1000000 in
theorem kind_w (n : Nat) (hn : n < 18446744073709551616) (w : World) : Calls Try.prog 11 #[.float .f64 n] w fun e w' => e = .returned (.int .i64 (fKind n)) ∧ w = w' := by
  have hk := kind_abs hn
  have HS := Lib.hid (signbit_c n hn)
  by_cases hN : 9218868437227405312 < fAbs n
  · rw [if_pos hN] at hk
    have o1 : FloatKind.f64.format.order n 18442240474082181119 = none := order_nan1 hn hN _
    have o2 : FloatKind.f64.format.order n 0 = none := order_nan1 hn hN _
    have o3 : FloatKind.f64.format.order n 9218868437227405311 = none := order_nan1 hn hN _
    rw [hk]
    clear hk hN
    go_enter Try.func11, Try.ntmps11
    go_wp2
    go_ret
    exact ⟨rfl, rfl⟩
  · rw [if_neg hN] at hk
    have hx : fAbs n ≤ 9218868437227405312 := by omega
    have o1 := ord_c (c := 18442240474082181119) hn (by decide) hx (by decide) key_min
    have o2 := ord_c (c := 0) hn (by decide) hx (by decide) key_zero
    have o3 := ord_c (c := 9218868437227405311) hn (by decide) hx (by decide) key_max
    have hkey := key_of n
    generalize fKey n = K at *
    generalize fAbs n = A at *
    by_cases hI : A = 9218868437227405312
    · rw [if_pos hI] at hk
      cases hs : fSgn n
      · rw [hs] at hk hkey
        rw [if_neg (by decide)] at hk hkey
        rw [gt_of (by omega)] at o1 o2 o3
        rw [hk]
        clear hk hN hkey hx hs
        go_enter Try.func11, Try.ntmps11
        go_wp2
        go_ret
        exact ⟨rfl, rfl⟩
      · rw [hs] at hk hkey
        rw [if_pos rfl] at hk hkey
        rw [lt_of (by omega)] at o1
        rw [hk]
        clear hk hN hkey hx hs o2 o3
        go_enter Try.func11, Try.ntmps11
        go_wp2
        go_ret
        exact ⟨rfl, rfl⟩
    · rw [if_neg hI] at hk
      by_cases hZ : A = 0
      · rw [if_pos hZ] at hk
        have hK : K = 0 := by rw [hkey]; split <;> omega
        subst hK
        rw [gt_of (by omega)] at o1
        rw [eq_of (by omega)] at o2
        rw [lt_of (by omega)] at o3
        rw [hk]
        clear hk hN hkey hx
        cases hs : fSgn n
        all_goals
          rw [hs] at HS
          clear hs
          go_enter Try.func11, Try.ntmps11
          go_wp2_with fail
          refine (HS.out _).mono ?_; rintro e w' ⟨rfl, rfl⟩
          go_wp2
          go_ret
          exact ⟨rfl, rfl⟩
      · rw [if_neg hZ] at hk
        cases hs : fSgn n
        · rw [hs] at hk hkey
          rw [if_neg (by decide)] at hk hkey
          rw [gt_of (by omega)] at o1 o2
          have h3 : (FloatKind.f64.format.order n 9218868437227405311 == some .gt) = false := by
            rw [o3]
            by_cases he : K = 9218868437227405311
            · rw [eq_of he]; rfl
            · rw [lt_of (by omega)]; rfl
          rw [hk]
          clear hk hN hkey hx hs o3
          go_enter Try.func11, Try.ntmps11
          go_wp2
          go_ret
          exact ⟨rfl, rfl⟩
        · rw [hs] at hk hkey
          rw [if_pos rfl] at hk hkey
          rw [lt_of (by omega)] at o2
          have h1 : (FloatKind.f64.format.order n 18442240474082181119 == some .lt) = false := by
            rw [o1]
            by_cases he : K = -9218868437227405311
            · rw [eq_of he]; rfl
            · rw [gt_of (by omega)]; rfl
          rw [hk]
          clear hk hN hkey hx hs o1 o3
          go_enter Try.func11, Try.ntmps11
          go_wp2
          go_ret
          exact ⟨rfl, rfl⟩
theorem nan_c (n : Nat) (w : World) : Calls Try.prog 58 #[.float .f64 n] w fun e w' => e = .returned (.bool (FloatKind.f64.format.order n n != some .eq)) ∧ w = w' := by
  go_enter Try.func58, Try.ntmps58
  go_wp2
  go_ret
  exact ⟨rfl, rfl⟩
/-- The three-way comparison of floats, NaNs ahead of all. -/
def fCmp3 (a b : Nat) : Int :=
  if 9218868437227405312 < fAbs a then (if 9218868437227405312 < fAbs b then 0 else -1) else if 9218868437227405312 < fAbs b then 1
  else if fKey a < fKey b then -1 else if fKey b < fKey a then 1 else 0
theorem cmpI_self (x : Int) : cmpI x x = .eq := by unfold cmpI; rw [if_neg (Int.lt_irrefl _), if_pos rfl]
theorem nan_val {n : Nat} (hn : n < 18446744073709551616) : (FloatKind.f64.format.order n n != some .eq) = decide (9218868437227405312 < fAbs n) := by
  by_cases h : 9218868437227405312 < fAbs n
  · have o : FloatKind.f64.format.order n n = none := order_nan1 hn h _
    rw [o, decide_eq_true h]; rfl
  · have o : FloatKind.f64.format.order n n = some (cmpI (fKey n) (fKey n)) := order_key hn hn (by omega) (by omega)
    rw [o, decide_eq_false h, cmpI_self]; rfl
set_option maxRecDepth 100000 in
theorem compare_c (a b : Nat) (ha : a < 18446744073709551616) (hb : b < 18446744073709551616) (w : World) : Calls Try.prog 43 #[.float .f64 a, .float .f64 b] w fun e w' => e = .returned (.int .i64 (fCmp3 a b)) ∧ w = w' := by
  have n1 := nan_c a; have n2 := nan_c b
  rw [nan_val ha] at n1
  rw [nan_val hb] at n2
  have hv : fCmp3 a b = if 9218868437227405312 < fAbs a then (if 9218868437227405312 < fAbs b then 0 else -1) else if 9218868437227405312 < fAbs b then 1 else if fKey a < fKey b then -1 else if fKey b < fKey a then 1 else 0 := rfl
  by_cases h1 : 9218868437227405312 < fAbs a
  · rw [decide_eq_true h1] at n1
    rw [if_pos h1] at hv
    by_cases h2 : 9218868437227405312 < fAbs b
    · rw [decide_eq_true h2] at n2
      rw [if_pos h2] at hv
      rw [hv]
      have N1 := Lib.hid n1; have N2 := Lib.hid n2
      clear n1 n2 hv h1 h2
      go_enter Try.func43, Try.ntmps43
      go_wp2_with fail
      refine (N1.out _).mono ?_; rintro e w' ⟨rfl, rfl⟩
      go_wp2_with fail
      refine (N2.out _).mono ?_; rintro e w' ⟨rfl, rfl⟩
      go_wp2
      go_ret
      exact ⟨rfl, rfl⟩
    · rw [decide_eq_false h2] at n2
      rw [if_neg h2] at hv
      rw [hv]
      have N1 := Lib.hid n1; have N2 := Lib.hid n2
      clear n1 n2 hv h1 h2
      go_enter Try.func43, Try.ntmps43
      go_wp2_with fail
      refine (N1.out _).mono ?_; rintro e w' ⟨rfl, rfl⟩
      go_wp2_with fail
      refine (N2.out _).mono ?_; rintro e w' ⟨rfl, rfl⟩
      go_wp2
      go_ret
      exact ⟨rfl, rfl⟩
  · rw [decide_eq_false h1] at n1
    rw [if_neg h1] at hv
    by_cases h2 : 9218868437227405312 < fAbs b
    · rw [decide_eq_true h2] at n2
      rw [if_pos h2] at hv
      rw [hv]
      have N1 := Lib.hid n1; have N2 := Lib.hid n2
      clear n1 n2 hv h1 h2
      go_enter Try.func43, Try.ntmps43
      go_wp2_with fail
      refine (N1.out _).mono ?_; rintro e w' ⟨rfl, rfl⟩
      go_wp2_with fail
      refine (N2.out _).mono ?_; rintro e w' ⟨rfl, rfl⟩
      go_wp2
      go_ret
      exact ⟨rfl, rfl⟩
    · rw [decide_eq_false h2] at n2
      rw [if_neg h2] at hv
      have o : FloatKind.f64.format.order a b = some (cmpI (fKey a) (fKey b)) := order_key ha hb (by omega) (by omega)
      by_cases hl : fKey a < fKey b
      · rw [lt_of hl] at o
        rw [if_pos hl] at hv
        rw [hv]
        have N1 := Lib.hid n1; have N2 := Lib.hid n2
        clear n1 n2 hv h1 h2 hl
        go_enter Try.func43, Try.ntmps43
        go_wp2_with fail
        refine (N1.out _).mono ?_; rintro e w' ⟨rfl, rfl⟩
        go_wp2_with fail
        refine (N2.out _).mono ?_; rintro e w' ⟨rfl, rfl⟩
        go_wp2
        go_ret
        exact ⟨rfl, rfl⟩
      · rw [if_neg hl] at hv
        by_cases hg : fKey b < fKey a
        · rw [gt_of hg] at o
          rw [if_pos hg] at hv
          rw [hv]
          have N1 := Lib.hid n1; have N2 := Lib.hid n2
          clear n1 n2 hv h1 h2 hl hg
          go_enter Try.func43, Try.ntmps43
          go_wp2_with fail
          refine (N1.out _).mono ?_; rintro e w' ⟨rfl, rfl⟩
          go_wp2_with fail
          refine (N2.out _).mono ?_; rintro e w' ⟨rfl, rfl⟩
          go_wp2
          go_ret
          exact ⟨rfl, rfl⟩
        · rw [eq_of (by omega)] at o
          rw [if_neg hg] at hv
          rw [hv]
          have N1 := Lib.hid n1; have N2 := Lib.hid n2
          clear n1 n2 hv h1 h2 hl hg
          go_enter Try.func43, Try.ntmps43
          go_wp2_with fail
          refine (N1.out _).mono ?_; rintro e w' ⟨rfl, rfl⟩
          go_wp2_with fail
          refine (N2.out _).mono ?_; rintro e w' ⟨rfl, rfl⟩
          go_wp2
          go_ret
          exact ⟨rfl, rfl⟩
/-- The first of two numbers that isn't 0. -/
theorem or_c (b : Nat) (x y : Int) (w : World) (c0 : w.cell? ⟨b, 0, none⟩ = some (.int .i64 x)) (c1 : w.cell? ⟨b, 1, none⟩ = some (.int .i64 y)) :
    Calls Try.prog 41 #[.slice (some ⟨b, 0, none⟩) 2 2] w fun e w' => e = .returned (.int .i64 (if x = 0 then y else x)) ∧ w = w' := by
  by_cases hx : x = 0
  · rw [if_pos hx]
    subst hx
    by_cases hy : y = 0
    · subst hy
      go_enter Try.func41, Try.ntmps41
      go_wp2
      go_loop [8] (fun i => ∃ k : Nat, k ≤ 2 ∧ i = .int .i64 k) (fun i => 2 - (intOf i).toNat)
      case atStart => exact ⟨0, by omega, rfl⟩
      case round =>
        obtain ⟨k, hk, rfl⟩ := hrel
        rcases (show k = 0 ∨ k = 1 ∨ k = 2 by omega) with rfl | rfl | rfl
        · go_wp2
          go_round
          case rel => exact ⟨1, by omega, rfl⟩
          case measure => simp [intOf]
        · go_wp2
          go_round
          case rel => exact ⟨2, by omega, rfl⟩
          case measure => simp [intOf]
        · go_wp2
          go_ret
          exact ⟨rfl, rfl⟩
    · have ht : (y != 0) = true := by rw [bne_iff_ne]; exact hy
      go_enter Try.func41, Try.ntmps41
      go_wp2
      go_loop [8] (fun i => ∃ k : Nat, k ≤ 1 ∧ i = .int .i64 k) (fun i => 2 - (intOf i).toNat)
      case atStart => exact ⟨0, by omega, rfl⟩
      case round =>
        obtain ⟨k, hk, rfl⟩ := hrel
        rcases (show k = 0 ∨ k = 1 by omega) with rfl | rfl
        · go_wp2
          go_round
          case rel => exact ⟨1, by omega, rfl⟩
          case measure => simp [intOf]
        · go_wp2
          go_ret
          exact ⟨rfl, rfl⟩
  · rw [if_neg hx]
    have ht : (x != 0) = true := by rw [bne_iff_ne]; exact hx
    go_enter Try.func41, Try.ntmps41
    go_wp2
    go_loop [8] (fun i => i = .int .i64 0) (fun i => 2 - (intOf i).toNat)
    case atStart => rfl
    case round =>
      obtain rfl := hrel
      go_wp2
      go_ret
      exact ⟨rfl, rfl⟩
theorem or_q (b : Nat) (x y v : Int) (hv : (if x = 0 then y else x) = v) (w : World) (c0 : w.cell? ⟨b, 0, none⟩ = some (.int .i64 x)) (c1 : w.cell? ⟨b, 1, none⟩ = some (.int .i64 y)) :
    Calls Try.prog 41 #[.slice (some ⟨b, 0, none⟩) 2 2] w fun e w' => e = .returned (.int .i64 v) ∧ w = w' := by
  subst hv
  exact or_c b x y w c0 c1
theorem cmp3_is {a b : Nat} (ha : a < 18446744073709551616) (hb : b < 18446744073709551616) :
    (if (if fKind a < fKind b then (-1 : Int) else if fKind b < fKind a then 1 else 0) = 0 then fCmp3 a b else (if fKind a < fKind b then (-1 : Int) else if fKind b < fKind a then 1 else 0)) = fCmp a b := by
  by_cases hlt : fKind a < fKind b
  · rw [if_pos hlt, if_neg (by omega)]
    unfold fCmp
    rw [if_pos (by omega), if_pos hlt]
  · by_cases hgt : fKind b < fKind a
    · rw [if_neg hlt, if_pos hgt, if_neg (by omega)]
      unfold fCmp
      rw [if_pos (by omega), if_neg hlt]
    · have he : fKind a = fKind b := by omega
      rw [if_neg hlt, if_neg hgt, if_pos rfl]
      unfold fCmp
      rw [if_neg (by omega)]
      have ka := kind_abs ha
      have kb := kind_abs hb
      rw [ka] at he ⊢
      rw [kb] at he
      unfold fCmp3 fKey
      have da : a = fAbs a + (if fSgn a = true then 9223372036854775808 else 0) := by
        unfold fAbs fSgn
        by_cases h : 9223372036854775808 ≤ a
        · rw [decide_eq_true h, if_pos rfl]; omega
        · rw [decide_eq_false h, if_neg (by decide)]; omega
      have db : b = fAbs b + (if fSgn b = true then 9223372036854775808 else 0) := by
        unfold fAbs fSgn
        by_cases h : 9223372036854775808 ≤ b
        · rw [decide_eq_true h, if_pos rfl]; omega
        · rw [decide_eq_false h, if_neg (by decide)]; omega
      clear ka kb hlt hgt ha hb
      generalize fAbs a = x at *
      generalize fAbs b = y at *
      generalize fSgn a = s at *
      generalize fSgn b = t at *
      simp only [decide_eq_decide, ne_eq]
      cases s <;> cases t <;> simp only [if_true, if_false, Bool.false_eq_true, reduceIte] at he da db ⊢
      all_goals (repeat' split at he) <;> first | (exfalso; omega) | ((repeat' split) <;> omega)
set_option maxRecDepth 100000 in
theorem cmp_x (a b : Nat) (ha : a < 18446744073709551616) (hb : b < 18446744073709551616) (w : World) : Calls Try.prog 17 #[.float .f64 a, .float .f64 b] w fun e w' => e = .returned (.int .i64 (fCmp a b)) ∧ ∃ o, w' = w.alloc o := by
  have k1 := kind_w a ha; have k2 := kind_w b hb
  have c1 := fun w => Try.cmp_Compare_int (fKind a) (fKind b) w
  have c2 := compare_c a b ha hb
  have hv := cmp3_is ha hb
  rw [← hv]
  obtain ⟨Z, hZ⟩ : ∃ Z, (if fKind a < fKind b then (-1 : Int) else if fKind b < fKind a then 1 else 0) = Z := ⟨_, rfl⟩
  have hZ' : Lib.compareInt (fKind a) (fKind b) = Z := hZ
  rw [hZ'] at c1
  rw [hZ]
  clear hZ hZ' hv
  obtain ⟨V, hV⟩ : ∃ V, (if Z = 0 then fCmp3 a b else Z) = V := ⟨_, rfl⟩
  rw [hV]
  generalize fKind a = k at *
  generalize fKind b = l at *
  generalize fCmp3 a b = y at *
  have K1 := Lib.hid k1; have K2 := Lib.hid k2; have C1 := Lib.hid c1; have C2 := Lib.hid c2; have HV := Lib.hid hV
  clear k1 k2 c1 c2 hV
  go_enter Try.func17, Try.ntmps17
  go_wp2_with fail
  refine (K1.out _).mono ?_; rintro e w' ⟨rfl, rfl⟩
  go_wp2_with fail
  refine (K2.out _).mono ?_; rintro e w' ⟨rfl, rfl⟩
  go_wp2_with fail
  refine (C1.out _).mono ?_; rintro e w' ⟨rfl, rfl⟩
  go_wp2_with fail
  refine (C2.out _).mono ?_; rintro e w' ⟨rfl, rfl⟩
  go_wp2_with fail
  refine (or_q _ Z y V HV.out _ (by go_simp) (by go_simp)).mono ?_; rintro e w2 ⟨rfl, rfl⟩
  go_wp2
  go_ret
  exact ⟨rfl, _, rfl⟩
theorem cmp_c (a b : Nat) (ha : a < 18446744073709551616) (hb : b < 18446744073709551616) (w : World) : Calls Try.prog 17 #[.float .f64 a, .float .f64 b] w fun e w' => e = .returned (.int .i64 (fCmp a b)) ∧ Below w.heap.size w w' :=
  (cmp_x a b ha hb w).mono fun _ _ ⟨h, o, hw⟩ => ⟨h, by rw [hw]; exact (Below.refl _ _).alloc (Nat.le_refl _) _⟩
end Go.Proofs.Ytcppcfjejalggaa.LP
