/-
  Contracts of the program's own functions of layer 4 (floats), the third part: how many millionths a float has, and it as a number.
-/
import Derived.Test.YtcppcfjejalggaaFloPB
import Derived.Test.YtcppcfjejalggaaFloRefC
import Derived.Test.YtcppcfjejalggaaFixPB
import Derived.Test.YtcppcfjejalggaaWidePMul
import Derived.Test.YtcppcfjejalggaaWidePDiv
import Derived.Test.YtcppcfjejalggaaWidePRound
import Derived.Test.YtcppcfjejalggaaWidePShift
import Derived.Deep.RegionHeld3
set_option linter.unusedSimpArgs false
set_option linter.unusedVariables false
namespace Go.Proofs.Ytcppcfjejalggaa.LP
open Go.RowKit
/-- A size over a power of 2, a half upwards, where it is a word. -/
def hV (x s : Nat) : Nat := if hiOf (hup x s) = 0 then loOf (hup x s) else 0
def hE (x s : Nat) : Int := if hiOf (hup x s) = 0 then 0 else 3
theorem round_q (v n s : Nat) (V : Nat) (E : Int) (hv : v < M) (hs : 0 < s) (hs2 : s ≤ 63) (hn : n = 2 ^ s) (hV' : hV v s = V) (hE' : hE v s = E) (w : World) :
    Calls Try.prog 65 #[.agg #[.int .u64 (hiOf v : Nat), .int .u64 (loOf v : Nat)], .int .u64 (n : Nat)] w fun e w' => e = .returned (.tuple #[.int .u64 (V : Nat), .int .i64 E]) ∧ Below w.heap.size w w' := by
  have hp : 0 < 2 ^ s := Nat.pow_pos (by decide)
  have hl : (2 : Nat) ^ s ≤ 2 ^ 63 := Nat.pow_le_pow_right (by decide) hs2
  have h := round_c v n hv (by rw [hn]; exact hp) (by rw [hn]; omega) w
  have e1 : rndV v n = V := by rw [← hV', hn]; unfold rndV hV; rw [upN_hup v s hs]
  have e2 : rndE v n = E := by rw [← hE', hn]; unfold rndE hE; rw [upN_hup v s hs]
  rw [e1, e2] at h
  exact h
set_option maxRecDepth 100000 in
set_option maxHeartbeats 2000000 in
theorem halved_c (a n V : Nat) (E : Int) (ha : a < M) (hn0 : 0 < n) (hn : n ≤ 2000) (hV' : hV a n = V) (hE' : hE a n = E) (w : World) :
    Calls Try.prog 49 #[.agg #[.int .u64 (hiOf a : Nat), .int .u64 (loOf a : Nat)], .int .i64 (n : Nat)] w fun e w' => e = .returned (.tuple #[.int .u64 (V : Nat), .int .i64 E]) ∧ Below w.heap.size w w' := by
  have HV := Lib.hid hV'; have HE := Lib.hid hE'; have HA := Lib.hid ha
  clear hV' hE' ha
  go_enter Try.func49, Try.ntmps49
  go_wp2
  go_loopw [1] (fun e wr => ∃ b m : Nat, e = .int .i64 m ∧ m ≤ 2000 ∧ Hid (0 < m ∧ b < M ∧ hup b m = hup a n ∧ Has wr w.heap.size b ∧ Below w.heap.size w wr)) (fun e _ => (intOf e).toNat)
  case atStart => exact ⟨a, n, rfl, hn, ⟨hn0, HA.out, rfl, LR.has_new w a, (Below.refl _ _).alloc (Nat.le_refl _) _⟩⟩
  case round =>
    obtain ⟨b, m, rfl, hm, HI⟩ := hrel
    obtain ⟨hm0, hb, hq, hH, hB⟩ := HI.out
    have c0 := hH.hi; have c1 := hH.lo; have c2 := hH.fh; have c3 := hH.fl
    have zr := hH.lt
    by_cases hlt : 63 < m
    · have d := div_c b 4294967296 hb (by decide) (by decide)
      have hq2 := hup_down b m (by omega)
      have hlt2 : b / 4294967296 < M := Nat.lt_of_le_of_lt (Nat.div_le_self _ _) hb
      generalize b / 4294967296 = U at *
      generalize b % 4294967296 = r at *
      have D := Lib.hid d; have HQ := Lib.hid (hq2.trans hq); have HU := Lib.hid hlt2; have HB := Lib.hid hB; have HH := Lib.hid hH
      clear d hq hq2 hlt2 hb hB hH
      go_wp2_with fail
      refine (D.out _).mono ?_; rintro e w5 ⟨rfl, hb5⟩; obtain ⟨hc5, hf5⟩ := bcell hb5
      have z5 : w.heap.size < w5.heap.size := Nat.lt_of_lt_of_le zr hb5.size
      have H5 := Lib.hid hb5
      clear hb5
      go_wp2
      go_roundw
      case rel => exact ⟨U, m - 32, by congr 1; omega, by omega, by omega, HU.out, HQ.out, (HH.out.below H5.out).put U, below_put (HB.out.trans (H5.out.mono (Nat.le_of_lt zr))) (Nat.le_refl _) _ _⟩
      case measure => simp [intOf]; omega
    · have R := Lib.hid (round_q b (2 ^ m) m V E hb hm0 (by omega) rfl (by rw [← HV.out]; unfold hV; rw [hq]) (by rw [← HE.out]; unfold hE; rw [hq]))
      have HB := Lib.hid hB
      clear hq hb hB hH
      have hsh : IntKind.u64.wrap (2 ^ m) = ((2 ^ m : Nat) : Int) := by
        have hl : (2 : Nat) ^ m ≤ 2 ^ 63 := Nat.pow_le_pow_right (by decide) (by omega)
        have e : ((2 : Int) ^ m) = ((2 ^ m : Nat) : Int) := by simp
        rw [e, IntKind.wrap_u64]
        generalize 2 ^ m = P at *
        omega
      go_wp2_with fail
      go_region_held3 (fun y => y.cell? ⟨w.heap.size, 0, none⟩ = some (.int .u64 (hiOf b : Nat)) ∧ y.cell? ⟨w.heap.size, 1, none⟩ = some (.int .u64 (loOf b : Nat)))
        (first | go_keep)
        (first
          | (go_at_call 65; refine (R.out _).mono ?_; rintro e w3 ⟨rfl, hb3⟩; have c0 : w3.cell? ⟨w.heap.size, 0, none⟩ = some (.int .u64 (hiOf b : Nat)) := (hb3.cell (p := ⟨w.heap.size, 0, none⟩) zr).trans c0; have c1 : w3.cell? ⟨w.heap.size, 1, none⟩ = some (.int .u64 (loOf b : Nat)) := (hb3.cell (p := ⟨w.heap.size, 1, none⟩) zr).trans c1))
      all_goals go_wp2
      all_goals
        exact bodyPost_ret (v := .tuple #[.int .u64 V, .int .i64 E]) (by simp [results, Try.results49, go_sem]) rfl ⟨rfl, below_next HB.out.drew hb3⟩
set_option maxRecDepth 100000 in
set_option maxHeartbeats 2000000 in
theorem mil_neg (n part y m c V : Nat) (E1 E d : Int)
    (fr : ∀ w, Calls Try.prog 46 #[.float .f64 n] w fun e w' => e = .returned (.tuple #[.float .f64 part, .int .i64 E1]) ∧ w = w')
    (ld : ∀ w, Calls Try.prog 48 #[.float .f64 part, .int .i64 53] w fun e w' => e = .returned (.float .f64 y) ∧ w = w')
    (cv : ∀ w, (convert 22 33 (.float .f64 y)).run Try.prog w = .ok (.int .u64 (m : Nat)) w)
    (mu : ∀ w, Calls Try.prog 47 #[.int .u64 (m : Nat), .int .u64 1000000] w fun e w' => e = .returned (.agg #[.int .u64 (hiOf c : Nat), .int .u64 (loOf c : Nat)]) ∧ Below w.heap.size w w')
    (hE0 : -2000 ≤ E1) (hE1 : E1 < 53) (hd : -(E1 - 53) = d)
    (ha : ∀ w, Calls Try.prog 49 #[.agg #[.int .u64 (hiOf c : Nat), .int .u64 (loOf c : Nat)], .int .i64 d] w fun e w' => e = .returned (.tuple #[.int .u64 (V : Nat), .int .i64 E]) ∧ Below w.heap.size w w')
    (w : World) : Calls Try.prog 26 #[.float .f64 n] w fun e w' => e = .returned (.tuple #[.int .u64 (V : Nat), .int .i64 E]) ∧ Below w.heap.size w w' := by
  have FR := Lib.hid fr; have LD := Lib.hid ld; have MU := Lib.hid mu; have HA := Lib.hid ha
  clear fr ld mu ha
  generalize (hiOf c : Int) = p at *
  generalize (loOf c : Int) = q at *
  go_enter Try.func26, Try.ntmps26
  go_wp2_with fail
  refine (FR.out _).mono ?_; rintro e w' ⟨rfl, rfl⟩
  go_wp2_with fail
  refine (LD.out _).mono ?_; rintro e w' ⟨rfl, rfl⟩
  go_wp2_with fail
  refine (MU.out _).mono ?_; rintro e w1 ⟨rfl, hb1⟩; obtain ⟨hc1, hf1⟩ := bcell hb1
  have H1 := Lib.hid hb1
  clear hb1
  go_wp2_with fail
  refine (HA.out _).mono ?_; rintro e w2 ⟨rfl, hb2⟩
  go_wp2
  exact bodyPost_ret (v := .tuple #[.int .u64 V, .int .i64 E]) (by simp [results, Try.results26, go_sem]) rfl ⟨rfl, below_next H1.out (below_box hb2)⟩
set_option maxRecDepth 100000 in
set_option maxHeartbeats 2000000 in
theorem mil_pos (n part y m c V : Nat) (E1 E d u v : Int) (ok : Bool)
    (fr : ∀ w, Calls Try.prog 46 #[.float .f64 n] w fun e w' => e = .returned (.tuple #[.float .f64 part, .int .i64 E1]) ∧ w = w')
    (ld : ∀ w, Calls Try.prog 48 #[.float .f64 part, .int .i64 53] w fun e w' => e = .returned (.float .f64 y) ∧ w = w')
    (cv : ∀ w, (convert 22 33 (.float .f64 y)).run Try.prog w = .ok (.int .u64 (m : Nat)) w)
    (mu : ∀ w, Calls Try.prog 47 #[.int .u64 (m : Nat), .int .u64 1000000] w fun e w' => e = .returned (.agg #[.int .u64 (hiOf c : Nat), .int .u64 (loOf c : Nat)]) ∧ Below w.heap.size w w')
    (hE0 : 53 ≤ E1) (hE1 : E1 < 2000) (hd : E1 - 53 = d)
    (sh : ∀ w, Calls Try.prog 50 #[.agg #[.int .u64 (hiOf c : Nat), .int .u64 (loOf c : Nat)], .int .i64 d] w fun e w' => e = .returned (.tuple #[.agg #[.int .u64 u, .int .u64 v], .bool ok]) ∧ Below w.heap.size w w')
    (hres : (ok = true ∧ u = 0 ∧ v = (V : Nat) ∧ E = 0) ∨ (ok = true ∧ u ≠ 0 ∧ V = 0 ∧ E = 3) ∨ (ok = false ∧ V = 0 ∧ E = 3))
    (w : World) : Calls Try.prog 26 #[.float .f64 n] w fun e w' => e = .returned (.tuple #[.int .u64 (V : Nat), .int .i64 E]) ∧ Below w.heap.size w w' := by
  have FR := Lib.hid fr; have LD := Lib.hid ld; have MU := Lib.hid mu; have SH := Lib.hid sh
  clear fr ld mu sh
  generalize (hiOf c : Int) = p at *
  generalize (loOf c : Int) = q at *
  have HN : ¬ E1 - 53 < 0 := by omega
  rcases hres with ⟨rfl, rfl, rfl, rfl⟩ | ⟨rfl, hu, rfl, rfl⟩ | ⟨rfl, rfl, rfl⟩
  · go_enter Try.func26, Try.ntmps26
    go_wp2_with fail
    refine (FR.out _).mono ?_; rintro e w' ⟨rfl, rfl⟩
    go_wp2_with fail
    refine (LD.out _).mono ?_; rintro e w' ⟨rfl, rfl⟩
    go_wp2_with fail
    refine (MU.out _).mono ?_; rintro e w1 ⟨rfl, hb1⟩; obtain ⟨hc1, hf1⟩ := bcell hb1
    have H1 := Lib.hid hb1
    clear hb1
    go_wp2_with fail
    refine (SH.out _).mono ?_; rintro e w2 ⟨rfl, hb2⟩; obtain ⟨hc2, hf2⟩ := bcell hb2
    have z2 : w1.heap.size < w2.heap.size := (by have := hb2.size; simp at this; omega)
    have H2 := Lib.hid hb2
    clear hb2
    go_wp2
    exact bodyPost_ret (v := .tuple #[.int .u64 V, .int .i64 0]) (by simp [results, Try.results26, go_sem]) rfl ⟨rfl, below_put (below_next H1.out (below_box H2.out)) H1.out.size _ _⟩
  · have t : (u != 0) = true := by rw [bne_iff_ne]; exact hu
    clear hu
    go_enter Try.func26, Try.ntmps26
    go_wp2_with fail
    refine (FR.out _).mono ?_; rintro e w' ⟨rfl, rfl⟩
    go_wp2_with fail
    refine (LD.out _).mono ?_; rintro e w' ⟨rfl, rfl⟩
    go_wp2_with fail
    refine (MU.out _).mono ?_; rintro e w1 ⟨rfl, hb1⟩; obtain ⟨hc1, hf1⟩ := bcell hb1
    have H1 := Lib.hid hb1
    clear hb1
    go_wp2_with fail
    refine (SH.out _).mono ?_; rintro e w2 ⟨rfl, hb2⟩; obtain ⟨hc2, hf2⟩ := bcell hb2
    have z2 : w1.heap.size < w2.heap.size := (by have := hb2.size; simp at this; omega)
    have H2 := Lib.hid hb2
    clear hb2
    go_wp2
    exact bodyPost_ret (v := .tuple #[.int .u64 0, .int .i64 3]) (by simp [results, Try.results26, go_sem]) rfl ⟨rfl, below_put (below_next H1.out (below_box H2.out)) H1.out.size _ _⟩
  · go_enter Try.func26, Try.ntmps26
    go_wp2_with fail
    refine (FR.out _).mono ?_; rintro e w' ⟨rfl, rfl⟩
    go_wp2_with fail
    refine (LD.out _).mono ?_; rintro e w' ⟨rfl, rfl⟩
    go_wp2_with fail
    refine (MU.out _).mono ?_; rintro e w1 ⟨rfl, hb1⟩; obtain ⟨hc1, hf1⟩ := bcell hb1
    have H1 := Lib.hid hb1
    clear hb1
    go_wp2_with fail
    refine (SH.out _).mono ?_; rintro e w2 ⟨rfl, hb2⟩; obtain ⟨hc2, hf2⟩ := bcell hb2
    have z2 : w1.heap.size < w2.heap.size := (by have := hb2.size; simp at this; omega)
    have H2 := Lib.hid hb2
    clear hb2
    go_wp2
    exact bodyPost_ret (v := .tuple #[.int .u64 0, .int .i64 3]) (by simp [results, Try.results26, go_sem]) rfl ⟨rfl, below_put (below_next H1.out (below_box H2.out)) H1.out.size _ _⟩
theorem hup_lt {x s : Nat} (h : x < 9007199254740992 * 1000000) : hup x s < M := by
  unfold hup
  have : x / 2 ^ s ≤ x := Nat.div_le_self _ _
  have hM : M = 340282366920938463463374607431768211456 := rfl
  have := Nat.mod_lt (x / 2 ^ (s - 1)) (show 0 < 2 by decide)
  split <;> omega
theorem hi_zero {v : Nat} (h : v < M) : hiOf v = 0 ↔ v < 18446744073709551616 := by
  have hM : M = 340282366920938463463374607431768211456 := rfl
  unfold hiOf
  omega
theorem lo_small {v : Nat} (h : v < 18446744073709551616) : loOf v = v := by unfold loOf; omega
/-- A float that isn't below zero, nor the infinity, in millionths. -/
theorem mil_c (n V : Nat) (E : Int) (h : n < 9218868437227405312) (hV' : (if frM n < 18446744073709551616 then frM n else 0) = V) (hE' : (if frM n < 18446744073709551616 then (0 : Int) else 3) = E) (w : World) :
    Calls Try.prog 26 #[.float .f64 n] w fun e w' => e = .returned (.tuple #[.int .u64 (V : Nat), .int .i64 E]) ∧ Below w.heap.size w w' := by
  by_cases h0 : 0 < n
  · obtain ⟨t, X, F, hz, hX1, hX2, hF, ht, hm, ht0, he⟩ := nz_fields h0 h
    have hfM := LR.fM_lt n
    obtain ⟨s, hs⟩ : ∃ s : Int, (if n < 4503599627370496 then (-52 : Int) else 0) = s := ⟨_, rfl⟩
    have hsX : s + ((X : Int) - 1023 + 1) - 53 = fE n - t := by
      rcases he with ⟨hl, he⟩ | ⟨hl, he⟩
      · rw [if_pos hl] at hs; omega
      · rw [if_neg (by omega)] at hs; omega
    have hs2 : s = -52 ∨ s = 0 := by rw [← hs]; split <;> omega
    have fr := frexp_c n X F h0 h hz hX2 hF s hs
    have ld := ldexp_c (1022 * 4503599627370496 + F) 1022 F 1075 53 rfl (by decide) (by decide) hF (by decide) (by decide) (by decide)
    have cv : ∀ w, (convert 22 33 (.float .f64 (1075 * 4503599627370496 + F))).run Try.prog w = .ok (.int .u64 ((4503599627370496 + F : Nat) : Int)) w := fun w =>
      run_convert_float_int w _ _ .f64 .u64 _ _ (by kernel_rfl) (by kernel_rfl) (by
        have := to_word (m := 4503599627370496 + F) (by omega) (by omega)
        rw [show 1074 * 4503599627370496 + (4503599627370496 + F) = 1075 * 4503599627370496 + F from by omega] at this
        exact this)
    have mu := mul_c (4503599627370496 + F) 1000000 (by omega) (by decide)
    obtain ⟨c, hc⟩ : ∃ c, (4503599627370496 + F) * 1000000 = c := ⟨_, rfl⟩
    rw [hc] at mu
    have hcM : c < M := by have hM : M = 340282366920938463463374607431768211456 := rfl; omega
    by_cases hneg : fE n < 0
    · obtain ⟨g, hg⟩ : ∃ g : Nat, fE n = -(g : Int) := ⟨(-fE n).toNat, by omega⟩
      have hg2 : g ≤ 1074 := by unfold fE at hg; split at hg <;> (try split at hg) <;> omega
      have hfr : frM n = hup c (g + t) := by
        unfold frM
        rw [if_neg (by omega), hg, show (-(-(g : Int))).toNat = g from by omega, ← hc, hm, Nat.mul_right_comm, hup_scale _ _ _ (by omega)]
      have hlt := hup_lt (x := c) (s := g + t) (by omega)
      rw [hfr] at hV' hE'
      refine mil_neg n _ _ _ c V _ E ((g + t : Nat) : Int) fr ld cv mu (by omega) (by omega) (by omega) ?_ w
      refine halved_c c (g + t) V E hcM (by omega) (by omega) ?_ ?_
      · rw [← hV']; unfold hV
        by_cases hb : hup c (g + t) < 18446744073709551616
        · rw [if_pos ((hi_zero hlt).2 hb), if_pos hb, lo_small hb]
        · rw [if_neg (fun hh => hb ((hi_zero hlt).1 hh)), if_neg hb]
      · rw [← hE']; unfold hE
        by_cases hb : hup c (g + t) < 18446744073709551616
        · rw [if_pos ((hi_zero hlt).2 hb), if_pos hb]
        · rw [if_neg (fun hh => hb ((hi_zero hlt).1 hh)), if_neg hb]
    · obtain ⟨g, hg⟩ : ∃ g : Nat, fE n = (g : Int) := ⟨(fE n).toNat, by omega⟩
      have hg2 : g ≤ 1000 := by have := exp_lt n; unfold fE at hg; split at hg <;> (try split at hg) <;> omega
      have ht' : t = 0 := by
        rcases ht0 with h | h
        · exact h
        · exfalso
          have : fExp n = 0 := by unfold fExp; omega
          unfold fE at hg
          rw [this] at hg
          simp at hg
      subst ht'
      have hfr : frM n = c * 2 ^ g := by
        rw [Nat.pow_zero, Nat.mul_one] at hm
        unfold frM
        by_cases hp : 0 < fE n
        · rw [if_pos hp, hg, Int.toNat_natCast, ← hc, hm]
        · have : g = 0 := by omega
          subst this
          rw [if_neg hp, hg, ← hc, hm]
          unfold hup
          simp
      rw [hfr] at hV' hE'
      have hbig : 18446744073709551616 ≤ c * 2 ^ g ∨ c * 2 ^ g < 18446744073709551616 := by omega
      by_cases hg3 : g ≤ 127
      · have sh := shift_c c g hcM hg3
        refine mil_pos n _ _ _ c V _ E (g : Int) _ _ _ fr ld cv mu (by omega) (by omega) (by omega) sh ?_ w
        by_cases hM' : c * 2 ^ g < M
        · have hok : okN c g = true := decide_eq_true hM'
          by_cases hb : c * 2 ^ g < 18446744073709551616
          · rw [if_pos hb] at hV' hE'
            exact .inl ⟨hok, by rw [(hi_zero hM').2 hb]; rfl, by rw [lo_small hb, hV'], hE'.symm⟩
          · rw [if_neg hb] at hV' hE'
            refine .inr (.inl ⟨hok, fun hh => hb ((hi_zero hM').1 (by omega)), hV'.symm, hE'.symm⟩)
        · have hM : M = 340282366920938463463374607431768211456 := rfl
          rw [if_neg (by omega)] at hV' hE'
          exact .inr (.inr ⟨decide_eq_false hM', hV'.symm, hE'.symm⟩)
      · have sh := shift_no c (g : Int) (.inr (by omega))
        have hge : ¬ c * 2 ^ g < 18446744073709551616 := by
          have h1 : (2 : Nat) ^ 64 ≤ 2 ^ g := Nat.pow_le_pow_right (by decide) (by omega)
          have h2 := Nat.mul_le_mul (show 1 ≤ c by omega) h1
          omega
        rw [if_neg hge] at hV' hE'
        exact mil_pos n _ _ _ c V _ E (g : Int) _ _ _ fr ld cv mu (by omega) (by omega) (by omega) sh (.inr (.inr ⟨rfl, hV'.symm, hE'.symm⟩)) w
  · have hn : n = 0 := by omega
    subst hn
    have hfr : frM 0 = 0 := by decide +kernel
    rw [hfr, if_pos (by decide)] at hV' hE'
    subst hV'; subst hE'
    have cv : ∀ w, (convert 22 33 (.float .f64 0)).run Try.prog w = .ok (.int .u64 ((0 : Nat) : Int)) w := fun w =>
      run_convert_float_int w _ _ .f64 .u64 _ _ (by kernel_rfl) (by kernel_rfl) to_word_zero
    exact mil_neg 0 0 0 0 0 0 0 0 53 frexp_zero (ldexp_zero 53) cv (mul_c 0 1000000 (by decide) (by decide)) (by decide) (by decide) (by decide)
      (halved_c 0 53 0 0 (by decide) (by decide) (by decide) (by decide +kernel) (by decide +kernel)) w
end Go.Proofs.Ytcppcfjejalggaa.LP
