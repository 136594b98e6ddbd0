/-
  Which ring is asked, by the program.
-/
import Derived.Test.YtkgajlklhcmmcaaLadPI
import Derived.Test.YtkgajlklhcmmcaaRinPF
set_option linter.unusedSimpArgs false
set_option linter.unusedVariables false
namespace Go.Proofs.Ytkgajlklhcmmcaa.AP
open Go.RowKit IP
theorem bx_new3 (w : World) (c1 c2 c3 : Array Value) (t1 t2 t3 : TypeId) : Bx (((w.alloc (.cells c1 t1)).alloc (.cells c2 t2)).alloc (.cells c3 t3)) w.heap.size c1.toList ∧ Bx (((w.alloc (.cells c1 t1)).alloc (.cells c2 t2)).alloc (.cells c3 t3)) (w.heap.size + 1) c2.toList ∧ Bx (((w.alloc (.cells c1 t1)).alloc (.cells c2 t2)).alloc (.cells c3 t3)) (w.heap.size + 2) c3.toList ∧ Below w.heap.size w (((w.alloc (.cells c1 t1)).alloc (.cells c2 t2)).alloc (.cells c3 t3)) ∧ (((w.alloc (.cells c1 t1)).alloc (.cells c2 t2)).alloc (.cells c3 t3)).heap.size = w.heap.size + 3 := by
  obtain ⟨a1, a2, a3, a4⟩ := bx_new2 w c1 c2 t1 t2
  obtain ⟨e1, e2, e3⟩ := bx_new1 ((w.alloc (.cells c1 t1)).alloc (.cells c2 t2)) c3 t3
  rw [a4] at e1 e3
  exact ⟨a1.below e2, a2.below e2, e1, bnext a3 e2, e3⟩
theorem fi_none_iff {α : Type} {L : List α} {p : α → Bool} (h : L.findIdx? p = none) : fiI (L.findIdx? p) = -1 := by rw [h]; rfl
set_option maxRecDepth 100000 in
set_option maxHeartbeats 4000000 in
theorem asked_c (m f fr now : Int) (v : Value) (L : List Rg) (hR : lRight m f L = true) (ht : rTm fr = true) (hn' : rTm now = true) (w : World) (h : RiOut w v L) :
    Calls Try.prog 18 #[.agg #[.int .i64 m, .int .i64 f, v], .int .i64 fr, .int .i64 now] w fun e w' => e = .returned (.int .i64 ((lAsk L fr now : Nat) : Int)) ∧ Below w.heap.size w w' := by
  obtain ⟨-, hT, hrr⟩ := lRight_iff.1 hR
  have hL4 := ((tog_iff _).1 hT).1
  rw [lRungs_length] at hL4
  obtain ⟨A, c, rfl, hc, -⟩ := id h
  obtain ⟨b1, b2, b3, hb, hz⟩ := bx_new3 w #[.int .i64 m, .int .i64 f, .slice A L.length c] #[.int .i64 fr] #[.int .i64 now] 24 3 3
  have IX := index_asks fr now (.slice A L.length c) L hrr (by omega) ht hn' (w.heap.size + 1) (w.heap.size + 2) _ (h.below hb) b2.one.1 b3.one.1
  obtain ⟨n, hn⟩ : ∃ n, L.length = n := ⟨_, rfl⟩
  have HD : ((lAsk L fr now : Nat) : Int) = if fiI (L.findIdx? (lAsks fr now)) < 0 then (n : Int) - 1 else fiI (L.findIdx? (lAsks fr now)) := by
    unfold lAsk
    show (((L.findIdx? (lAsks fr now)).getD (L.length - 1) : Nat) : Int) = _
    cases hf : L.findIdx? (lAsks fr now) with
    | none => rw [if_pos (by show (-1 : Int) < 0; omega)]; simp only [Option.getD_none]; omega
    | some k => rw [if_neg (by show ¬ ((k : Nat) : Int) < 0; omega)]; rfl
  rw [hn] at IX hL4 hc b1 hb b2 b3 hz ⊢
  obtain ⟨wp, hwp⟩ : ∃ wp, ((w.alloc (.cells #[.int .i64 m, .int .i64 f, .slice A n c] 24)).alloc (.cells #[.int .i64 fr] 3)).alloc (.cells #[.int .i64 now] 3) = wp := ⟨_, rfl⟩
  rw [hwp] at IX b1 b2 b3 hb hz
  obtain ⟨k0, k1, k2, -⟩ := b1.three
  obtain ⟨a, ha⟩ : ∃ a, ((lAsk L fr now : Nat) : Int) = a := ⟨_, rfl⟩
  obtain ⟨d, hd⟩ : ∃ d, fiI (L.findIdx? (lAsks fr now)) = d := ⟨_, rfl⟩
  rw [ha, hd] at HD
  rw [hd] at IX
  rw [ha]
  have IX := Lib.hid IX; have HD := Lib.hid HD; have KP := Lib.hid hb; have HWP := Lib.hid hwp; have B1 := Lib.hid b1
  have hn1 : (1 : Int) ≤ (n : Int) := by omega
  have hn4 : (n : Int) ≤ 4 := by omega
  have wn : IntKind.i64.wrap ((n : Int) - 1) = (n : Int) - 1 := by rw [IntKind.wrap_i64]; omega
  clear hR ht hn' h hT hrr hn b1 b2 b3 hb hz hwp ha hd
  go_enter Try.func18, Try.ntmps18
  go_wp2_with fail
  rw [HWP.out]
  refine IX.out.mono ?_; rintro _ w1 ⟨rfl, hb1⟩
  obtain ⟨k0, k1, k2, -⟩ := (B1.out.below hb1).three
  have KX := Lib.hid (bnext KP.out hb1)
  clear hb1
  by_cases hd0 : d < 0
  · have AE := Lib.hid (HD.out.trans (if_pos hd0))
    go_wp2
    go_ret
    exact ⟨congrArg (fun z => Ending.returned (.int .i64 z)) AE.out.symm, KX.out⟩
  · have AE := Lib.hid (HD.out.trans (if_neg hd0))
    go_wp2
    go_ret
    exact ⟨congrArg (fun z => Ending.returned (.int .i64 z)) AE.out.symm, KX.out⟩
theorem lAsk_lt {m f : Int} {L : List Rg} (hR : lRight m f L = true) (fr now : Int) : lAsk L fr now < L.length := by
  obtain ⟨-, hT, -⟩ := lRight_iff.1 hR
  have hL4 := ((tog_iff _).1 hT).1
  rw [lRungs_length] at hL4
  unfold lAsk
  cases hf : L.findIdx? (fun r => decide (now - fr ≤ lReach r)) with
  | none => simp only [Option.getD_none]; omega
  | some k => exact (List.findIdx?_eq_some_iff_getElem.1 hf).1
theorem upward_c (t s : Int) (hs : 1 ≤ s ∧ s ≤ 86400) (ht : 0 ≤ t ∧ t ≤ 1099511627776) (w : World) :
    Calls Try.prog 21 #[.int .i64 t, .int .i64 s] w fun e w' => e = .returned (.int .i64 (rUp s t * s)) ∧ Below w.heap.size w w' := by
  obtain ⟨u0, u1, u2⟩ := rUp_facts hs.1 ht.1
  have hu : (t + s - 1) / s = rUp s t := rfl
  obtain ⟨q, hq⟩ : ∃ q, rUp s t = q := ⟨_, rfl⟩
  rw [hq] at u0 u1 u2 hu ⊢
  have hqb : q ≤ 1099511714176 := by
    have h1 : q * 1 ≤ q * s := Int.mul_le_mul_of_nonneg_left hs.1 u0
    omega
  obtain ⟨p, hp⟩ : ∃ p, q * s = p := ⟨_, rfl⟩
  rw [hp] at u1 u2 ⊢
  have s0 : 0 < s := by omega
  have sne : ¬ s = 0 := by omega
  have x0 : 0 ≤ t + s - 1 := by omega
  clear hq
  go_enter Try.func21, Try.ntmps21
  go_wp2
  go_ret
  exact ⟨by first | rfl | simp, Below.refl _ _⟩
end Go.Proofs.Ytkgajlklhcmmcaa.AP
