/-
  The document's own functions of layer 14: may slots be made so, the same ladders.
-/
import Derived.Test.YtkgajlklhcmmcaaLadPJ
import Derived.Test.YtkgajlklhcmmcaaRinRD
set_option linter.unusedSimpArgs false
set_option linter.unusedVariables false
namespace Go.Proofs.Ytkgajlklhcmmcaa.AR
open Go.RowKit
theorem how_c (s n : Int) (w : World) : Calls Try.prog 45 #[.int .i64 s, .int .i64 n] w fun e w' => e = .returned (.bool (lWay s n)) ∧ w = w' := by
  obtain ⟨d, hd⟩ : ∃ d, lWay s n = d := ⟨_, rfl⟩
  rw [hd]
  have HY := Lib.hid (show 1 ≤ s ∧ s ≤ 5 ∧ 0 ≤ n ∧ n ≤ 1000000 → d = true from fun h => by rw [← hd]; exact lWay_iff.2 h)
  have HN := Lib.hid (show ¬ (1 ≤ s ∧ s ≤ 5 ∧ 0 ≤ n ∧ n ≤ 1000000) → d = false from fun h => by rw [← hd]; exact Bool.eq_false_iff.2 fun hh => h (lWay_iff.1 hh))
  clear hd
  by_cases h0 : 1 ≤ s
  · by_cases h1 : s ≤ 5
    · by_cases h2 : 0 ≤ n
      · by_cases h3 : n ≤ 1000000
        · obtain rfl := HY.out ⟨h0, h1, h2, h3⟩
          go_enter Try.func45, Try.ntmps45
          go_wp2
          go_ret
          exact ⟨rfl, rfl⟩
        · obtain rfl := HN.out (by omega)
          go_enter Try.func45, Try.ntmps45
          go_wp2
          go_ret
          exact ⟨rfl, rfl⟩
      · obtain rfl := HN.out (by omega)
        go_enter Try.func45, Try.ntmps45
        go_wp2
        go_ret
        exact ⟨rfl, rfl⟩
    · obtain rfl := HN.out (by omega)
      go_enter Try.func45, Try.ntmps45
      go_wp2
      go_ret
      exact ⟨rfl, rfl⟩
  · obtain rfl := HN.out (by omega)
    go_enter Try.func45, Try.ntmps45
    go_wp2
    go_ret
    exact ⟨rfl, rfl⟩
theorem how_b (m f : Int) (w : World) : Calls Try.prog 45 #[.int .i64 m, .int .i64 f] w fun e w' => e = .returned (.bool (lWay m f)) ∧ Below w.heap.size w w' := (how_c m f w).mono fun _ _ ⟨h1, h2⟩ => ⟨h1, by rw [← h2]; exact Below.refl _ _⟩
theorem ring_self (s : Int) (a b : Value) (l : List (Int × Int)) (hl : l.length ≤ 100000) (w : World) (f1 : RgOut w a l) (f2 : RgOut w b l) :
    Calls Try.prog 27 #[.agg #[.int .i64 s, a], .agg #[.int .i64 s, b]] w fun e w' => e = .returned (.bool true) ∧ Below w.heap.size w w' := by
  have h := IR.same_c s s a b l l hl hl w f1 f2
  rwa [decide_eq_true (rfl : s = s), decide_eq_true (rfl : l = l)] at h
set_option maxRecDepth 100000 in
set_option maxHeartbeats 4000000 in
theorem same_self (m f : Int) (v1 v2 : Value) (L : List Rg) (hl : L.length ≤ 100000) (hs : ∀ r ∈ L, r.2.length ≤ 100000) (w : World) (h1 : RiOut w v1 L) (h2 : RiOut w v2 L) :
    Calls Try.prog 12 #[.agg #[.int .i64 m, .int .i64 f, v1], .agg #[.int .i64 m, .int .i64 f, v2]] w fun e w' => e = .returned (.bool true) ∧ Below w.heap.size w w' := by
  obtain ⟨A, c, rfl, hc, hx⟩ := h1
  obtain ⟨A2, c2, rfl, hc2, hx2⟩ := h2
  obtain ⟨n, hn⟩ : ∃ n, L.length = n := ⟨_, rfl⟩
  rw [hn] at hc hc2 hl ⊢
  obtain ⟨b1, b2, hb, hz⟩ := bx_new2 w #[.int .i64 m, .int .i64 f, .slice A n c] #[.int .i64 m, .int .i64 f, .slice A2 n c2] 24 24
  obtain ⟨wp, hwp⟩ : ∃ wp, (w.alloc (.cells #[.int .i64 m, .int .i64 f, .slice A n c] 24)).alloc (.cells #[.int .i64 m, .int .i64 f, .slice A2 n c2] 24) = wp := ⟨_, rfl⟩
  rw [hwp] at b1 b2 hb hz
  obtain ⟨k0, k1, k2, -⟩ := b1.three
  obtain ⟨l0, l1, l2, -⟩ := b2.three
  have HX := Lib.hid hx; have HX2 := Lib.hid hx2; have HN := Lib.hid hn; have HS := Lib.hid hs; have KP := Lib.hid hb; have HWP := Lib.hid hwp; have B1 := Lib.hid b1; have B2 := Lib.hid b2
  clear hx hx2 hn hs hb hwp b1 b2 hz
  go_enter Try.func12, Try.ntmps12
  go_wp2_with fail
  rw [HWP.out]
  clear k0 k1 k2 l0 l1 l2
  go_loopw [5] (fun i wr => ∃ k : Nat, k ≤ n ∧ i = .int .i64 k ∧ Hid (Below wp.heap.size wp wr)) (fun i _ => n - (intOf i).toNat)
  case atStart => exact ⟨0, Nat.zero_le _, rfl, Below.refl _ _⟩
  case round =>
    obtain ⟨k, hk, rfl, HI⟩ := hrel
    obtain ⟨k0, k1, k2, -⟩ := (B1.out.below HI.out).three
    obtain ⟨l0, l1, l2, -⟩ := (B2.out.below HI.out).three
    by_cases hlt : k < n
    · have KW := Lib.hid (bnext KP.out HI.out)
      obtain ⟨b, off, s, l, A', c', q, rfl, hp, hq, e0, e1, ho⟩ := AP.ri_at (c := c) (fun hn => by obtain ⟨b, off, e, ha⟩ := HX.out hn; exact ⟨b, off, e, ha.below KW.out⟩) HN.out hlt
      obtain ⟨b', off', s', l', A3, c3, q', rfl, hp', hq', e2, e3, ho'⟩ := AP.ri_at (c := c2) (fun hn => by obtain ⟨b, off, e, ha⟩ := HX2.out hn; exact ⟨b, off, e, ha.below KW.out⟩) HN.out hlt
      rw [hp] at hp'
      have hpp := Option.some.inj hp'
      injection hpp with es el
      subst es el
      rw [hq] at hq'
      subst hq'
      have hq1 : q ≤ 100000 := by rw [← hq]; exact HS.out _ (List.mem_of_getElem? hp)
      have Y0 : ∀ z : Laid wr, z.W.cell? ⟨w.heap.size, 2, none⟩ = some (.slice (some ⟨b, off, none⟩) n c) := fun z => cellb z.h k2
      have Y1 : ∀ z : Laid wr, z.W.cell? ⟨w.heap.size + 1, 2, none⟩ = some (.slice (some ⟨b', off', none⟩) n c2) := fun z => cellb z.h l2
      have Y2 : ∀ z : Laid wr, z.W.cell? ⟨b, off + k * 2, none⟩ = some (.int .i64 s) := fun z => cellb z.h e0
      have Y3 : ∀ z : Laid wr, z.W.cell? ⟨b, off + k * 2 + 1, none⟩ = some (.slice A' q c') := fun z => cellb z.h e1
      have Y4 : ∀ z : Laid wr, z.W.cell? ⟨b', off' + k * 2, none⟩ = some (.int .i64 s) := fun z => cellb z.h e2
      have Y5 : ∀ z : Laid wr, z.W.cell? ⟨b', off' + k * 2 + 1, none⟩ = some (.slice A3 q c3) := fun z => cellb z.h e3
      have RS := Lib.hid (fun (p : Laid wr) => ring_self s (.slice A' q c') (.slice A3 q c3) l (by omega) p.W (ho.below p.h) (ho'.below p.h))
      have i0 : (0 : Int) ≤ (k : Int) := by omega
      have i1 : (k : Int) < (n : Int) := by omega
      clear hp hp' hq ho ho' k0 k1 k2 l0 l1 l2 e0 e1 e2 e3
      have k2 := Y0 ⟨wr, Below.refl _ _⟩
      simp only at k2
      go_wp2_with fail
      refine wp_region_laid (by kernel_rfl) (by kernel_rfl) ?_
      repeat (go_big_quiet_step (first | (go_at_call 27; with_reducible exact Calls.laid (RS.out _))))
      refine wpQuiet_nil ?_
      intro _ hw'
      obtain ⟨pq, hw''⟩ := hw'
      subst hw''
      go_wp2
      go_roundw
      case rel => exact ⟨k + 1, by omega, by go_num, bnext HI.out pq.h⟩
      case measure => simp [intOf]; omega
    · obtain rfl : k = n := by omega
      have KW := Lib.hid (bnext KP.out HI.out)
      go_wp2
      go_ret
      exact ⟨rfl, KW.out⟩
end Go.Proofs.Ytkgajlklhcmmcaa.AR
