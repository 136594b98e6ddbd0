/-
  Contracts of the program's own functions of layer 2 (fixed) over this seat's translation: what each returns, and that nothing that was there has turned. The first part: what counts, signs, sizes, sums.
-/
import Derived.Test.YtkgajlklhcmmcaaMath2
import Derived.Test.YtkgajlklhcmmcaaWideKit
import Derived.Deep.RegionHeld3
set_option linter.unusedSimpArgs false
set_option linter.unusedVariables false
namespace Go.Proofs.Ytkgajlklhcmmcaa.FP
open Go.RowKit

theorem below_two {w w1 : World} {o1 o2 : Obj} (hb : Below ((w.alloc o1).alloc o2).heap.size ((w.alloc o1).alloc o2) w1) : Below w.heap.size w w1 := (((Below.refl _ _).alloc (Nat.le_refl _) _).alloc (by simp) _).trans (hb.mono (by simp; omega))
theorem below_three {w w1 : World} {o1 o2 o3 : Obj} (hb : Below (((w.alloc o1).alloc o2).alloc o3).heap.size (((w.alloc o1).alloc o2).alloc o3) w1) : Below w.heap.size w w1 :=
  ((((Below.refl _ _).alloc (Nat.le_refl _) _).alloc (by simp) _).alloc (by simp; omega) _).trans (hb.mono (by simp; omega))
theorem alloc_two {w : World} {o1 o2 : Obj} : Below w.heap.size w ((w.alloc o1).alloc o2) := ((Below.refl _ _).alloc (Nat.le_refl _) _).alloc (by simp) _
theorem alloc_three {w : World} {o1 o2 o3 : Obj} : Below w.heap.size w (((w.alloc o1).alloc o2).alloc o3) := (((Below.refl _ _).alloc (Nat.le_refl _) _).alloc (by simp) _).alloc (by simp; omega) _

/-- What is laid of an answer reads as that answer. -/
theorem rd_back (o : Option Int) (h : inR o) : rd (nb o) (nv o) = o := by
  cases o with
  | none => exact rd_none (by simp [nb])
  | some t => exact rd_some rfl (by have := h t rfl; show t ≠ _; omega)
theorem rd_in (b : Bool) (v : Int) (h1 : -9223372036854775808 ≤ v ∧ v ≤ 9223372036854775807) : inR (rd b v) := by
  intro t ht
  unfold rd at ht
  split at ht
  · rename_i g
    have e : v = t := by simpa using ht
    have := g.2
    omega
  · simp at ht
theorem neg_in {o : Option Int} (h : inR o) : inR (negO o) := by
  intro t ht
  cases o with
  | none => simp [negO] at ht
  | some a =>
    have e : -a = t := by simpa [negO] using ht
    have := h a rfl
    omega
theorem nv_in {o : Option Int} (h : inR o) : -9223372036854775808 ≤ nv o ∧ nv o ≤ 9223372036854775807 := by
  cases o with
  | none => rw [nv_none]; omega
  | some t => have := h t rfl; rw [nv_some]; omega

theorem nothing_c (w : World) : Calls Try.prog 82 #[] w fun e w' => e = .returned (.agg #[.bool true, .int .i64 0]) ∧ Below w.heap.size w w' := by
  go_enter Try.func82, Try.ntmps82
  go_wp2
  exact bodyPost_ret (v := .agg #[.bool true, .int .i64 0]) (by simp [results, Try.results82, go_sem]) rfl ⟨rfl, (Below.refl _ _).alloc (Nat.le_refl _) _⟩

theorem right_f (v : Int) (w : World) : Calls Try.prog 58 #[.agg #[.bool false, .int .i64 v]] w fun e w' => e = .returned (.bool (v != -9223372036854775808)) ∧ Below w.heap.size w w' := by
  go_enter Try.func58, Try.ntmps58
  go_wp2
  go_ret
  exact ⟨rfl, (Below.refl _ _).alloc (Nat.le_refl _) _⟩
theorem right_t (v : Int) (w : World) : Calls Try.prog 58 #[.agg #[.bool true, .int .i64 v]] w fun e w' => e = .returned (.bool (v == 0)) ∧ Below w.heap.size w w' := by
  go_enter Try.func58, Try.ntmps58
  go_wp2
  go_ret
  exact ⟨rfl, (Below.refl _ _).alloc (Nat.le_refl _) _⟩

/-- What 'missing' answers of a number. -/
def Mis (b : Bool) (v : Int) (p : Bool) : Prop := ∀ w : World, Calls Try.prog 81 #[.agg #[.bool b, .int .i64 v]] w fun e w' => e = .returned (.bool p) ∧ Below w.heap.size w w'
theorem missing_f (v : Int) (t : Bool) (ht : (v != -9223372036854775808) = t) : Mis false v (!t) := by
  intro w
  have hr := right_f v
  rw [ht] at hr
  have HR := Lib.hid hr
  clear hr ht
  cases t
  all_goals
    go_enter Try.func81, Try.ntmps81
    go_wp2_with fail
    refine (HR.out _).mono ?_; rintro e w1 ⟨rfl, hb1⟩; obtain ⟨hc1, hf1⟩ := bcell hb1
    go_wp2
    go_ret
    exact ⟨rfl, below_box hb1⟩
theorem missing_t (v : Int) : Mis true v true := by
  intro w
  go_enter Try.func81, Try.ntmps81
  go_wp2
  go_ret
  exact ⟨rfl, (Below.refl _ _).alloc (Nat.le_refl _) _⟩
theorem missing_c (b : Bool) (v : Int) : Mis b v (rd b v).isNone := by
  cases b
  · by_cases h : v = -9223372036854775808
    · rw [rd_none (fun hh => hh.2 h)]
      exact missing_f v false (by rw [bne_eq_false_iff_eq]; exact h)
    · rw [rd_some rfl h]
      exact missing_f v true (by rw [bne_iff_ne]; exact h)
  · rw [rd_none (by simp)]
    exact missing_t v
theorem missing_yes (v : Int) (h : v ≠ -9223372036854775808) : Mis false v false := missing_f v true (by rw [bne_iff_ne]; exact h)
theorem missing_no (b : Bool) (v : Int) (h : ¬ (b = false ∧ v ≠ -9223372036854775808)) : Mis b v true := by
  have := missing_c b v
  rw [rd_none h] at this
  exact this

theorem counted_c (b : Bool) (v : Int) (w : World) : Calls Try.prog 78 #[.agg #[.bool b, .int .i64 v]] w fun e w' => e = .returned (.agg #[.bool (nb (rd b v)), .int .i64 (nv (rd b v))]) ∧ Below w.heap.size w w' := by
  by_cases g : b = false ∧ v ≠ -9223372036854775808
  · obtain ⟨rfl, hv⟩ := g
    rw [rd_some rfl hv]
    have HM := Lib.hid (missing_yes v hv)
    clear hv
    go_enter Try.func78, Try.ntmps78
    go_wp2_with fail
    refine (HM.out _).mono ?_; rintro e w1 ⟨rfl, hb1⟩; obtain ⟨hc1, hf1⟩ := bcell hb1
    have z1 : w.heap.size + 1 < w1.heap.size := (by have := hb1.size; simp at this; omega)
    have x1 : w.heap.size < w1.heap.size := by omega
    go_wp2
    exact bodyPost_ret (v := .agg #[.bool false, .int .i64 v]) (by simp [results, Try.results78, go_sem, hc1, hf1, z1, x1]) rfl ⟨rfl, below_put (below_two hb1) (by omega) _ _⟩
  · have HM := Lib.hid (missing_no b v g)
    rw [rd_none g]
    clear g
    go_enter Try.func78, Try.ntmps78
    go_wp2_with fail
    refine (HM.out _).mono ?_; rintro e w1 ⟨rfl, hb1⟩; obtain ⟨hc1, hf1⟩ := bcell hb1
    have z1 : w.heap.size + 1 < w1.heap.size := (by have := hb1.size; simp at this; omega)
    have x1 : w.heap.size < w1.heap.size := by omega
    go_wp2_with fail
    refine (nothing_c _).mono ?_; rintro e w2 ⟨rfl, hb2⟩; obtain ⟨hc2, hf2⟩ := bcell hb2
    go_wp2
    exact bodyPost_ret (v := .agg #[.bool true, .int .i64 0]) (by simp [results, Try.results78, go_sem, hc1, hf1, hc2, hf2, z1, x1]) rfl ⟨rfl, below_put (below_next (below_two hb1) hb2) (by omega) _ _⟩

theorem of_c (v : Int) (w : World) : Calls Try.prog 66 #[.int .i64 v] w fun e w' => e = .returned (.agg #[.bool (nb (rd false v)), .int .i64 (nv (rd false v))]) ∧ Below w.heap.size w w' := by
  have HC := Lib.hid (counted_c false v)
  go_enter Try.func66, Try.ntmps66
  go_wp2_with fail
  refine (HC.out _).mono ?_; rintro e w1 ⟨rfl, hb1⟩; obtain ⟨hc1, hf1⟩ := bcell hb1
  go_wp2
  exact bodyPost_ret (v := .agg #[.bool (nb (rd false v)), .int .i64 (nv (rd false v))]) (by simp [results, Try.results66, go_sem, hc1, hf1]) rfl ⟨rfl, below_put (below_box hb1) (by omega) _ _⟩

/-- A number's place in the row of all. -/
def rkO (o : Option Int) : Int := o.getD (-9223372036854775808)
theorem rank_c (b : Bool) (v : Int) (w : World) : Calls Try.prog 90 #[.agg #[.bool b, .int .i64 v]] w fun e w' => e = .returned (.int .i64 (rkO (rd b v))) ∧ Below w.heap.size w w' := by
  by_cases g : b = false ∧ v ≠ -9223372036854775808
  · obtain ⟨rfl, hv⟩ := g
    rw [rd_some rfl hv]
    have HM := Lib.hid (missing_yes v hv)
    clear hv
    go_enter Try.func90, Try.ntmps90
    go_wp2_with fail
    refine (HM.out _).mono ?_; rintro e w1 ⟨rfl, hb1⟩; obtain ⟨hc1, hf1⟩ := bcell hb1
    go_wp2
    go_ret
    exact ⟨rfl, below_box hb1⟩
  · have HM := Lib.hid (missing_no b v g)
    rw [rd_none g]
    clear g
    go_enter Try.func90, Try.ntmps90
    go_wp2_with fail
    refine (HM.out _).mono ?_; rintro e w1 ⟨rfl, hb1⟩; obtain ⟨hc1, hf1⟩ := bcell hb1
    go_wp2
    go_ret
    exact ⟨rfl, below_box hb1⟩

theorem size_c (v : Int) (h0 : -9223372036854775808 ≤ v) (h1 : v ≤ 9223372036854775807) (w : World) : Calls Try.prog 85 #[.int .i64 v] w fun e w' => e = .returned (.int .u64 (v.natAbs : Nat)) ∧ w = w' := by
  by_cases h : v < 0
  · by_cases h2 : v = -9223372036854775808
    · subst h2
      go_enter Try.func85, Try.ntmps85
      go_wp2
      go_ret
      exact ⟨ret_u64 (by decide +kernel), rfl⟩
    · go_enter Try.func85, Try.ntmps85
      go_wp2
      go_ret
      exact ⟨ret_u64 (by omega), rfl⟩
  · go_enter Try.func85, Try.ntmps85
    go_wp2
    go_ret
    exact ⟨ret_u64 (by omega), rfl⟩
theorem size_q (v : Int) (n : Nat) (h0 : -9223372036854775808 ≤ v) (h1 : v ≤ 9223372036854775807) (hn : v.natAbs = n) (w : World) : Calls Try.prog 85 #[.int .i64 v] w fun e w' => e = .returned (.int .u64 (n : Nat)) ∧ w = w' := by
  subst hn
  exact size_c v h0 h1 w

/-- So many millionths with a sign, of a wide count's halves. -/
def sgO (h l : Nat) (below : Bool) : Option Int := if h = 0 then signO l below else none
theorem signed_c (h l : Nat) (below : Bool) (w : World) : Calls Try.prog 86 #[.bool below, .agg #[.int .u64 h, .int .u64 l]] w fun e w' => e = .returned (.agg #[.bool (nb (sgO h l below)), .int .i64 (nv (sgO h l below))]) ∧ Below w.heap.size w w' := by
  obtain ⟨k, hk⟩ : ∃ k : Int, k = (h : Int) := ⟨_, rfl⟩
  obtain ⟨m, hm⟩ : ∃ m : Int, m = (l : Int) := ⟨_, rfl⟩
  rw [← hk, ← hm]
  by_cases hz : h = 0
  · by_cases hs : l ≤ 9223372036854775807
    · have ho : sgO h l below = some (if below then -m else m) := by rw [hm]; exact (if_pos hz).trans (if_pos hs)
      have HO := Lib.hid ho
      have tk : (k != 0) = false := by rw [bne_eq_false_iff_eq]; omega
      have g1 : ¬ 9223372036854775807 < m := by omega
      have g2 : 0 ≤ m := by omega
      have A := Lib.hid (of_c (-m)); have B := Lib.hid (of_c m)
      have e1 := Lib.hid (rd_some (b := false) (v := -m) rfl (by omega))
      have e2 := Lib.hid (rd_some (b := false) (v := m) rfl (by omega))
      clear ho hk hm hz hs
      cases below
      · go_enter Try.func86, Try.ntmps86
        go_wp2_with fail
        refine (B.out _).mono ?_; rintro e w1 ⟨rfl, hb1⟩; obtain ⟨hc1, hf1⟩ := bcell hb1
        go_wp2
        refine bodyPost_ret (v := .agg #[.bool (nb (rd false m)), .int .i64 (nv (rd false m))]) (by simp [results, Try.results86, go_sem, hc1, hf1]) rfl ⟨?_, below_put (below_two hb1) (by omega) _ _⟩
        rw [HO.out, e2.out]; rfl
      · go_enter Try.func86, Try.ntmps86
        go_wp2_with fail
        refine (A.out _).mono ?_; rintro e w1 ⟨rfl, hb1⟩; obtain ⟨hc1, hf1⟩ := bcell hb1
        go_wp2
        refine bodyPost_ret (v := .agg #[.bool (nb (rd false (-m))), .int .i64 (nv (rd false (-m)))]) (by simp [results, Try.results86, go_sem, hc1, hf1]) rfl ⟨?_, below_put (below_two hb1) (by omega) _ _⟩
        rw [HO.out, e1.out]; rfl
    · have HO := Lib.hid (show sgO h l below = none from (if_pos hz).trans (if_neg hs))
      have tk : (k != 0) = false := by rw [bne_eq_false_iff_eq]; omega
      have g1 : 9223372036854775807 < m := by omega
      clear hk hm hz hs
      go_enter Try.func86, Try.ntmps86
      go_wp2_with fail
      refine (nothing_c _).mono ?_; rintro e w1 ⟨rfl, hb1⟩; obtain ⟨hc1, hf1⟩ := bcell hb1
      go_wp2
      refine bodyPost_ret (v := .agg #[.bool true, .int .i64 0]) (by simp [results, Try.results86, go_sem, hc1, hf1]) rfl ⟨?_, below_put (below_two hb1) (by omega) _ _⟩
      rw [HO.out]; rfl
  · have HO := Lib.hid (show sgO h l below = none from if_neg hz)
    have tk : (k != 0) = true := by rw [bne_iff_ne]; omega
    clear hk hm hz
    go_enter Try.func86, Try.ntmps86
    go_wp2_with fail
    refine (nothing_c _).mono ?_; rintro e w1 ⟨rfl, hb1⟩; obtain ⟨hc1, hf1⟩ := bcell hb1
    go_wp2
    refine bodyPost_ret (v := .agg #[.bool true, .int .i64 0]) (by simp [results, Try.results86, go_sem, hc1, hf1]) rfl ⟨?_, below_put (below_two hb1) (by omega) _ _⟩
    rw [HO.out]; rfl

theorem abs_low (o : Option Int) (b : Bool) (v : Int) (ho : rd b v = o) (h : v < 0) : absO o = negO o := by
  cases o with
  | none => rfl
  | some t =>
    unfold rd at ho
    split at ho
    · obtain rfl : v = t := by simpa using ho
      show some (if v < 0 then -v else v) = some (-v)
      rw [if_pos h]
    · simp at ho
theorem abs_high (o : Option Int) (b : Bool) (v : Int) (ho : rd b v = o) (h : ¬ v < 0) : absO o = o := by
  cases o with
  | none => rfl
  | some t =>
    unfold rd at ho
    split at ho
    · obtain rfl : v = t := by simpa using ho
      show some (if v < 0 then -v else v) = some v
      rw [if_neg h]
    · simp at ho
end Go.Proofs.Ytkgajlklhcmmcaa.FP
