/-
  The document's own functions of layer 14: SameSeries, at one series twice.
-/
import Derived.Test.YtkgajlklhcmmcaaLadRG
import Derived.Test.YtkgajlklhcmmcaaRinRC
import Derived.Test.YtkgajlklhcmmcaaLadPL
set_option linter.unusedSimpArgs false
set_option linter.unusedVariables false
namespace Go.Proofs.Ytkgajlklhcmmcaa.AR
open Go.RowKit
set_option maxRecDepth 100000 in
set_option maxHeartbeats 4000000 in
theorem sameSeries_c (a s : Int) (A1 A2 : Option Addr) (c1 c2 : Nat) (l : List (Option Int)) (hl : l.length ≤ 100000) (w : World) (h1 : NuOut w (.slice A1 l.length c1) l) (h2 : NuOut w (.slice A2 l.length c2) l) :
    Calls Try.prog 9 #[.agg #[.string ⟨#[]⟩, .int .i64 a, .int .i64 s, .slice A1 l.length c1], .agg #[.string ⟨#[]⟩, .int .i64 a, .int .i64 s, .slice A2 l.length c2]] w fun e w' => e = .returned (.bool true) ∧ Below w.heap.size w w' := by
  have SM := fun (W : World) (hB : Below w.heap.size w W) => IR.numSame_c (.slice A1 l.length c1) (.slice A2 l.length c2) l l hl hl W (h1.below hB) (h2.below hB)
  obtain ⟨n, hn⟩ : ∃ n, l.length = n := ⟨_, rfl⟩
  rw [hn] at SM ⊢
  obtain ⟨b1, b2, hb, hz⟩ := bx_new2 w #[.string ⟨#[]⟩, .int .i64 a, .int .i64 s, .slice A1 n c1] #[.string ⟨#[]⟩, .int .i64 a, .int .i64 s, .slice A2 n c2] 32 32
  obtain ⟨wp, hwp⟩ : ∃ wp, (w.alloc (.cells #[.string ⟨#[]⟩, .int .i64 a, .int .i64 s, .slice A1 n c1] 32)).alloc (.cells #[.string ⟨#[]⟩, .int .i64 a, .int .i64 s, .slice A2 n c2] 32) = wp := ⟨_, rfl⟩
  rw [hwp] at b1 b2 hb hz
  obtain ⟨k0, k1, k2, k3, -⟩ := b1.four
  obtain ⟨j0, j1, j2, j3, -⟩ := b2.four
  have SM1 := SM wp hb
  rw [decide_eq_true rfl] at SM1
  have SM1 := Lib.hid SM1; have KP := Lib.hid hb; have HWP := Lib.hid hwp
  clear SM h1 h2 hn b1 b2 hb hz
  go_enter Try.func9, Try.ntmps9
  go_upto_region 1 with fail
  clear hwp
  go_wp2_with fail
  refine SM1.out.mono ?_; rintro _ w1 ⟨rfl, hb1⟩
  have KX := Lib.hid (bnext KP.out hb1)
  go_wp2
  go_ret
  exact ⟨rfl, KX.out⟩
/-! ### Fetch: which slots -/
/-- Where the slots that are asked for begin. -/
theorem first_is {s : Int} {l : List (Int × Int)} {fr now : Int} (hr : rRight s l = true) (h1 : rTm fr = true) (h3 : rTm now = true) :
    rUp s (lLow (s, l) fr now) * s = (if 0 ≤ now - s * (l.length : Int) then max (max (rUp s fr * s) 0) ((now - s * (l.length : Int)) / s * s + s) else max (rUp s fr * s) 0) := by
  obtain ⟨m1, m2, m3, m4⟩ := rMay_iff.1 (rRight_iff.1 hr).1
  obtain ⟨f0, f1⟩ := rTm_iff.1 h1
  obtain ⟨n0, n1⟩ := rTm_iff.1 h3
  have hl : lReach (s, l) = s * (l.length : Int) := rfl
  obtain ⟨q, hq⟩ : ∃ q, s * (l.length : Int) = q := ⟨_, rfl⟩
  have up0 : 0 ≤ rUp s fr := by unfold rUp; exact Int.ediv_nonneg (by omega) (by omega)
  have up1 : 0 ≤ rUp s fr * s := Int.mul_nonneg up0 (by omega)
  unfold lLow
  rw [hl, hq, Int.max_eq_left up1]
  have e : rUp s (now - q + 1) * s = (now - q) / s * s + s := by
    unfold rUp
    rw [show now - q + 1 + s - 1 = (now - q) + 1 * s by omega, Int.add_mul_ediv_right _ _ (by omega), Int.add_mul]
    omega
  by_cases h : now - q + 1 ≤ fr
  · rw [if_pos h]
    have hm := rUp_mono m1 h
    have hm2 := Int.mul_le_mul_of_nonneg_right hm (show 0 ≤ s by omega)
    rw [e] at hm2
    split
    · omega
    · rfl
  · rw [if_neg h, e, if_pos (by omega)]
    have hm := rUp_mono m1 (show fr ≤ now - q + 1 by omega)
    have hm2 := Int.mul_le_mul_of_nonneg_right hm (show 0 ≤ s by omega)
    rw [e] at hm2
    omega
theorem rUp_le {s x k : Int} (hs : 1 ≤ s) : k * s < x ↔ k < rUp s x := by
  unfold rUp
  constructor
  · intro h
    have : k + 1 ≤ (x + s - 1) / s := by
      refine (Int.le_ediv_iff_mul_le (by omega)).2 ?_
      rw [Int.add_mul]
      omega
    omega
  · intro h
    have h1 : k + 1 ≤ (x + s - 1) / s := by omega
    have := (Int.le_ediv_iff_mul_le (show 0 < s by omega)).1 h1
    rw [Int.add_mul] at this
    omega
end Go.Proofs.Ytkgajlklhcmmcaa.AR
