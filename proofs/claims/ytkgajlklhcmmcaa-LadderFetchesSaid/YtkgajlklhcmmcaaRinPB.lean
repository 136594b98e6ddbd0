/-
  Contracts of the program's functions of layer 13: places; whether a slot stands at its place; whether a ring is right.
-/
import Derived.Test.YtkgajlklhcmmcaaRinPA
set_option linter.unusedSimpArgs false
set_option linter.unusedVariables false
namespace Go.Proofs.Ytkgajlklhcmmcaa.IP
open Go.RowKit
theorem place_c (s t : Int) (A : Option Addr) (n c : Nat) (hs : 1 ≤ s ∧ s ≤ 86400) (ht : 0 ≤ t ∧ t ≤ 1099511714176) (hn : 1 ≤ n ∧ n ≤ 400) (w : World) :
    Calls Try.prog 64 #[.agg #[.int .i64 s, .slice A n c], .int .i64 t] w fun e w' => e = .returned (.int .i64 (rPl s n t)) ∧ Below w.heap.size w w' := by
  obtain ⟨q, hq⟩ : ∃ q, t / s = q := ⟨_, rfl⟩
  obtain ⟨p, hp⟩ : ∃ p, rPl s n t = p := ⟨_, rfl⟩
  rw [hp]
  have hp2 : q % (n : Int) = p := by rw [← hq]; exact hp
  have q0 : 0 ≤ q := by rw [← hq]; exact Int.ediv_nonneg (by omega) (by omega)
  have q1 : q ≤ 1099511714176 := by rw [← hq]; exact Int.le_trans (Int.ediv_le_self _ (by omega)) (by omega)
  have HP := Lib.hid hp2
  have s0 : 0 < s := by omega
  have n0 : 0 < (n : Int) := by omega
  clear hp hp2
  go_enter Try.func64, Try.ntmps64
  go_wp2_with fail
  go_region
  go_wp2
  go_ret
  exact ⟨by rw [← HP.out]; rfl, (alloc_below _ _).drew⟩
theorem two_cells (w : World) (a0 a1 b0 b1 : Value) (t u : TypeId) : (((w.alloc (.cells #[a0, a1] t)).alloc (.cells #[b0, b1] u)).cell? ⟨w.heap.size, 0, none⟩ = some a0 ∧ ((w.alloc (.cells #[a0, a1] t)).alloc (.cells #[b0, b1] u)).cell? ⟨w.heap.size, 1, none⟩ = some a1) ∧
    (((w.alloc (.cells #[a0, a1] t)).alloc (.cells #[b0, b1] u)).cell? ⟨w.heap.size + 1, 0, none⟩ = some b0 ∧ ((w.alloc (.cells #[a0, a1] t)).alloc (.cells #[b0, b1] u)).cell? ⟨w.heap.size + 1, 1, none⟩ = some b1) ∧ Below w.heap.size w ((w.alloc (.cells #[a0, a1] t)).alloc (.cells #[b0, b1] u)) := by
  obtain ⟨h0, h1, -, -⟩ := two_new w a0 a1 t
  obtain ⟨g0, g1, -, -⟩ := two_new (w.alloc (.cells #[a0, a1] t)) b0 b1 u
  have hs : (w.alloc (.cells #[a0, a1] t)).heap.size = w.heap.size + 1 := by simp
  rw [hs] at g0 g1
  exact ⟨⟨cellb (alloc_below _ _) h0, cellb (alloc_below _ _) h1⟩, ⟨g0, g1⟩, bnext (alloc_below _ _) (alloc_below _ _)⟩
set_option maxRecDepth 100000 in
set_option maxHeartbeats 1000000 in
theorem standsAt_c (s : Int) (A : Option Addr) (n c i : Nat) (x y : Int) (hs : 1 ≤ s ∧ s ≤ 86400) (hn : 1 ≤ n ∧ n ≤ 400) (w : World) :
    Calls Try.prog 63 #[.agg #[.int .i64 s, .slice A n c], .agg #[.int .i64 x, .int .i64 y], .int .i64 (i : Int)] w fun e w' => e = .returned (.bool (rFits s n i (x, y))) ∧ Below w.heap.size w w' := by
  obtain ⟨d, hd⟩ : ∃ d, rFits s n i (x, y) = d := ⟨_, rfl⟩
  rw [hd]
  have HD := Lib.hid hd
  have IT := Lib.hid (isTime_c x)
  have IV := Lib.hid (isValue_c y)
  have PL := Lib.hid (fun h => place_c s x A n c hs h hn)
  have s0 : 0 < s := by omega
  obtain ⟨⟨k0, k1⟩, ⟨k2, k3⟩, kb⟩ := two_cells w (.int .i64 s) (.slice A n c) (.int .i64 x) (.int .i64 y) 53 50
  obtain ⟨wc, hwc⟩ : ∃ wc, ((w.alloc (.cells #[.int .i64 s, .slice A n c] 53)).alloc (.cells #[.int .i64 x, .int .i64 y] 50)) = wc := ⟨_, rfl⟩
  rw [hwc] at k0 k1 k2 k3 kb
  have HWC := Lib.hid hwc
  have KB := Lib.hid kb
  clear hd hwc kb
  cases ht : rTm x
  · obtain rfl : d = false := by rw [← HD.out]; exact Bool.eq_false_iff.2 fun h => by rw [rTm_iff.2 (rFits_iff.1 h).1] at ht; cases ht
    rw [ht] at IT
    clear ht HD
    go_enter Try.func63, Try.ntmps63
    go_wp2_with fail
    rw [HWC.out]
    refine (IT.out _).mono ?_; rintro _ w1 ⟨rfl, rfl⟩
    go_wp2
    go_ret
    exact ⟨rfl, KB.out⟩
  · have hx := rTm_iff.1 ht
    rw [ht] at IT
    have PL := Lib.hid (PL.out ⟨hx.1, by omega⟩)
    have x0 := hx.1
    clear ht
    by_cases hm : x % s = 0
    · obtain ⟨p, hp⟩ : ∃ p, rPl s n x = p := ⟨_, rfl⟩
      rw [hp] at PL
      by_cases he : p = (i : Int)
      · subst he
        have HV : rV y = d := by rw [← HD.out]; unfold rV; rw [Bool.eq_iff_iff, decide_eq_true_iff, rFits_iff]; exact ⟨fun h => ⟨hx, hm, hp, h⟩, fun h => h.2.2.2⟩
        rw [HV] at IV
        clear HD HV hp hx
        go_enter Try.func63, Try.ntmps63
        go_wp2_with fail
        rw [HWC.out]
        refine (IT.out _).mono ?_; rintro _ w1 ⟨rfl, rfl⟩
        go_wp2_with fail
        refine (PL.out _).mono ?_; rintro _ w2 ⟨rfl, hb2⟩
        have k0 := cellb hb2 k0; have k1 := cellb hb2 k1; have k2 := cellb hb2 k2; have k3 := cellb hb2 k3
        have KB2 := Lib.hid (bnext KB.out hb2)
        clear hb2
        go_wp2_with fail
        refine (IV.out _).mono ?_; rintro _ w3 ⟨rfl, hb3⟩
        have KB3 := Lib.hid (bnext KB2.out hb3)
        go_wp2
        go_ret
        exact ⟨rfl, KB3.out⟩
      · obtain rfl : d = false := by rw [← HD.out]; exact Bool.eq_false_iff.2 fun h => he (by rw [← hp]; exact (rFits_iff.1 h).2.2.1)
        clear HD hp hx
        go_enter Try.func63, Try.ntmps63
        go_wp2_with fail
        rw [HWC.out]
        refine (IT.out _).mono ?_; rintro _ w1 ⟨rfl, rfl⟩
        go_wp2_with fail
        refine (PL.out _).mono ?_; rintro _ w2 ⟨rfl, hb2⟩
        have KB2 := Lib.hid (bnext KB.out hb2)
        clear hb2
        go_wp2
        go_ret
        exact ⟨rfl, KB2.out⟩
    · obtain rfl : d = false := by rw [← HD.out]; exact Bool.eq_false_iff.2 fun h => hm (rFits_iff.1 h).2.1
      clear HD hx
      go_enter Try.func63, Try.ntmps63
      go_wp2_with fail
      rw [HWC.out]
      refine (IT.out _).mono ?_; rintro _ w1 ⟨rfl, rfl⟩
      go_wp2
      go_ret
      exact ⟨rfl, KB.out⟩
end Go.Proofs.Ytkgajlklhcmmcaa.IP
