/-
  Walks of the statements of layer 10: of archives that are parsed each slot is made of whole ones of the one ahead.
-/
import Derived.Test.YtjbacbbbhedmlaaDoorRetWA
set_option linter.unusedSimpArgs false
set_option linter.unusedVariables false
namespace Go.Proofs.YtjbacbbbhedmlaaDoor.RW
open Go.RowKit RR RP
set_option maxRecDepth 100000 in
set_option maxHeartbeats 4000000 in
theorem retentionMany_c (s : ByteArray) (hs : s.size ≤ 9223372036854775807) (w : World) (g : G w) : Calls Tryd.prog 6 #[.string s] w fun e w' => e = .returned (.bool true) ∧ Below w.heap.size w w' := by
  have AL := Lib.hid (alive_c w g)
  by_cases h5 : 500 < s.size
  · go_enter Tryd.func6, Tryd.ntmps6
    go_wp2_with fail
    refine AL.out.mono ?_; rintro _ w1 ⟨rfl, hb1⟩
    go_wp2
    go_ret
    exact ⟨rfl, hb1⟩
  · have h5' : s.size ≤ 500 := by omega
    have P1 := Lib.hid (fun W gW => parse_p s h5' W gW)
    have GG := Lib.hid g
    obtain ⟨pv, hpv⟩ : ∃ pv, parseV (bs s) = pv := ⟨_, rfl⟩
    have NO := parse_none (l := bs s)
    have YES := fun (r : List (Int × Int)) (h : parseV (bs s) = (r, 0)) => parse_rows h
    rw [hpv] at P1 NO YES
    obtain ⟨l, e⟩ := pv
    simp only at P1 NO
    clear g hpv
    by_cases he : e = 0
    · subst he
      have hT := YES l rfl
      obtain ⟨⟨l1, l4⟩, hok, hfit⟩ := (tog_iff l).1 hT
      have OK := Lib.hid hok; have FIT := Lib.hid hfit
      clear NO YES hT hok hfit
      go_enter Tryd.func6, Tryd.ntmps6
      go_wp2_with fail
      refine AL.out.mono ?_; rintro _ w0 ⟨rfl, hb0⟩
      have g0 := Lib.hid (GG.out.below hb0)
      go_wp2_with fail
      refine (P1.out _ g0.out).mono ?_; rintro _ w1 ⟨v1, rfl, h1, hb1⟩
      have H1 := Lib.hid (bnext hb0 hb1)
      clear hb0 hb1 P1 g0 GG
      obtain ⟨A, c, rfl, hc, hx⟩ := h1
      have HX := Lib.hid hx
      clear hx
      obtain ⟨n, hn⟩ : ∃ n, l.length = n := ⟨_, rfl⟩
      rw [hn] at l1 l4 hc ⊢
      have HN := Lib.hid hn
      clear hn
      have hn1 : (1 : Int) ≤ (n : Int) := by omega
      have hn4 : (n : Int) ≤ 4 := by omega
      go_wp2
      go_loopw [5] (fun i wr => ∃ k : Nat, 1 ≤ k ∧ k ≤ n ∧ i = .int .i64 k ∧ Hid (Below w1.heap.size w1 wr)) (fun i _ => n - (intOf i).toNat)
      case atStart => exact ⟨1, Nat.le_refl _, l1, rfl, Below.refl _ _⟩
      case round =>
        obtain ⟨k, hk1, hk, rfl, HI⟩ := hrel
        by_cases hlt : k < n
        · have hkl : k < l.length := by rw [HN.out]; exact hlt
          obtain ⟨b, off, rfl, ha⟩ := HX.out (by intro e; rw [e] at hkl; exact absurd hkl (Nat.not_lt_zero _))
          have hp0 := List.getElem?_eq_getElem hkl
          obtain ⟨⟨x, y⟩, hp⟩ : ∃ p, l[k] = p := ⟨_, rfl⟩
          rw [hp] at hp0
          have haw := ha.below HI.out
          obtain ⟨c0, c1⟩ := haw k _ hp0
          have hkl1 : k - 1 < l.length := by omega
          have hp1 := List.getElem?_eq_getElem hkl1
          obtain ⟨⟨x1, y1⟩, hpp⟩ : ∃ p, l[k - 1] = p := ⟨_, rfl⟩
          rw [hpp] at hp1
          obtain ⟨e0, e1⟩ := haw (k - 1) _ hp1
          simp only at c0 c1 e0 e1
          have ho := OK.out k _ hp0
          have ho1 := OK.out (k - 1) _ hp1
          have hf := FIT.out (k - 1) _ _ hp1 (by rw [show k - 1 + 1 = k from by omega]; exact hp0)
          have ok0 := of_decide_eq_true ho
          have ok1 := of_decide_eq_true ho1
          have ff := of_decide_eq_true hf
          simp only at ok0 ok1 ff
          have R0 := fun W => RP.reach_c x y W
          have R1 := fun W => RP.reach_c x1 y1 W
          rw [show rgReach (x, y) = x * y from if_pos ho] at R0
          rw [show rgReach (x1, y1) = x1 * y1 from if_pos ho1] at R1
          obtain ⟨P0, hP0⟩ : ∃ P, x * y = P := ⟨_, rfl⟩
          obtain ⟨Q0, hQ0⟩ : ∃ P, x1 * y1 = P := ⟨_, rfl⟩
          rw [hP0] at R0 ff
          rw [hQ0] at R1 ff
          obtain ⟨D, hD⟩ : ∃ D, x / x1 = D := ⟨_, rfl⟩
          have hDx : D * x1 = x := by
            have h := Int.mul_ediv_add_emod x x1
            rw [ff.2.1, hD, Int.add_zero, Int.mul_comm] at h
            exact h
          have hD2 : 2 ≤ D := by
            rcases (show D < 2 ∨ 2 ≤ D by omega) with h | h
            · have h1 : D * x1 ≤ 1 * x1 := Int.mul_le_mul_of_nonneg_right (by omega) (by omega)
              omega
            · exact h
          rw [hD] at ff
          have hD3 : D ≤ 86400 := by omega
          have kk : k - 1 + 1 = k := by omega
          have hqi : (k : Int) - 1 = ((k - 1 : Nat) : Int) := by omega
          have hqw : IntKind.i64.wrap ((k - 1 : Nat) : Int) = ((k - 1 : Nat) : Int) := by rw [IntKind.wrap_i64]; omega
          have hqw2 : IntKind.i64.wrap ((k : Int) - 1) = ((k - 1 : Nat) : Int) := by rw [IntKind.wrap_i64]; omega
          have hql : k - 1 < n := by omega
          have hx1 : x1 ≠ 0 := by omega
          have hxb : (x1 == 0) = false := beq_false_of_ne hx1
          have hwD : IntKind.i64.wrap D = D := by rw [IntKind.wrap_i64]; omega
          have hwX : IntKind.i64.wrap x = x := by rw [IntKind.wrap_i64]; omega
          have hdiv : x.tdiv x1 = D := by rw [Int.tdiv_eq_ediv_of_nonneg (by omega), hD]
          have b0 : decide (D < 2) = false := decide_eq_false (by omega)
          have b1 : (x != x) = false := by simp
          have b2 : decide (D > y1) = false := decide_eq_false (by omega)
          have b2' : decide (y1 < D) = false := decide_eq_false (by omega)
          have b3 : decide (P0 ≤ Q0) = false := decide_eq_false (by omega)
          have S0 := Lib.hid R0; have S1 := Lib.hid R1
          have HIB := Lib.hid HI.out
          generalize k - 1 = q1 at *
          clear hp0 hp hp1 hpp ha haw hkl hkl1 ho ho1 hf R0 R1 hP0 hQ0 hD ok0 ok1 ff HI
          have Y0 : ∀ z : Laid wr, z.W.cell? ⟨b, off + k * 2, none⟩ = some (.int .i64 x) := fun z => cellb z.h c0
          have Y1 : ∀ z : Laid wr, z.W.cell? ⟨b, off + k * 2 + 1, none⟩ = some (.int .i64 y) := fun z => cellb z.h c1
          have Y2 : ∀ z : Laid wr, z.W.cell? ⟨b, off + q1 * 2, none⟩ = some (.int .i64 x1) := fun z => cellb z.h e0
          have Y3 : ∀ z : Laid wr, z.W.cell? ⟨b, off + q1 * 2 + 1, none⟩ = some (.int .i64 y1) := fun z => cellb z.h e1
          go_wp2_with fail
          refine wp_region_laid (by kernel_rfl) (by kernel_rfl) ?_
          repeat (go_big_quiet_step (fail))
          refine wpQuiet_nil ?_
          intro W2 hw'
          obtain ⟨⟨W3, hW3⟩, hw''⟩ := hw'
          have hW2 : Below wr.heap.size wr W2 := by rw [hw'']; exact hW3
          clear hw'' hW3 W3
          have Z0 : ∀ z : Laid W2, z.W.cell? ⟨b, off + k * 2, none⟩ = some (.int .i64 x) := fun z => Y0 ⟨z.W, bnext hW2 z.h⟩
          have Z1 : ∀ z : Laid W2, z.W.cell? ⟨b, off + k * 2 + 1, none⟩ = some (.int .i64 y) := fun z => Y1 ⟨z.W, bnext hW2 z.h⟩
          have Z2 : ∀ z : Laid W2, z.W.cell? ⟨b, off + q1 * 2, none⟩ = some (.int .i64 x1) := fun z => Y2 ⟨z.W, bnext hW2 z.h⟩
          have Z3 : ∀ z : Laid W2, z.W.cell? ⟨b, off + q1 * 2 + 1, none⟩ = some (.int .i64 y1) := fun z => Y3 ⟨z.W, bnext hW2 z.h⟩
          have H2 := Lib.hid (bnext HIB.out hW2)
          clear Y0 Y1 Y2 Y3 hW2 c0 c1 e0 e1
          go_wp2_with fail
          refine wp_region_laid (by kernel_rfl) (by kernel_rfl) ?_
          repeat (go_big_quiet_step (first | (go_at_call_of 17 (x); with_reducible exact Calls.laid (S0.out _)) | (go_at_call_of 17 (x1); with_reducible exact Calls.laid (S1.out _)) | (go_at_call 17; first | with_reducible exact Calls.laid (S0.out _) | with_reducible exact Calls.laid (S1.out _))))
          refine wpQuiet_nil ?_
          intro _ hw'
          obtain ⟨pq, hw''⟩ := hw'
          subst hw''
          go_wp2
          go_roundw
          case rel => exact ⟨k + 1, by omega, by omega, by go_num, bnext H2.out pq.h⟩
          case measure => simp [intOf]; omega
        · obtain rfl : k = n := by omega
          go_wp2
          go_ret
          exact ⟨rfl, bnext H1.out HI.out⟩
    · have hl0 : l = [] := NO he
      subst hl0
      have hei : (e != 0) = true := by simpa using he
      have hei2 : (e == 0) = false := by simpa using he
      clear NO YES
      go_enter Tryd.func6, Tryd.ntmps6
      go_wp2_with fail
      refine AL.out.mono ?_; rintro _ w0 ⟨rfl, hb0⟩
      have g0 := Lib.hid (GG.out.below hb0)
      go_wp2_with fail
      refine (P1.out _ g0.out).mono ?_; rintro _ w1 ⟨v1, rfl, h1, hb1⟩
      obtain ⟨A, c, rfl, hc, hx⟩ := h1
      have e0 : ([] : List (Int × Int)).length = 0 := rfl
      rw [e0] at *
      have H1 := Lib.hid (bnext hb0 hb1)
      clear hb0 hb1 P1 g0 GG hx
      go_wp2
      go_ret
      exact ⟨rfl, H1.out⟩
end Go.Proofs.YtjbacbbbhedmlaaDoor.RW
