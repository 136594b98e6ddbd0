/-
  Contracts of the program's functions of layer 10: Together.
-/
import Derived.Test.YtjbacbbbhedmlaaDoorRetPD
set_option linter.unusedSimpArgs false
set_option linter.unusedVariables false
namespace Go.Proofs.YtjbacbbbhedmlaaDoor.RP
open Go.RowKit RR
set_option maxRecDepth 100000 in
set_option maxHeartbeats 4000000 in
theorem together_c (v : Value) (l : List (Int × Int)) (hl : l.length ≤ 100000) (w : World) (f : RgOut w v l) :
    Calls Tryd.prog 15 #[v] w fun e w' => e = .returned (.bool (tog l)) ∧ Below w.heap.size w w' := by
  obtain ⟨A, c, rfl, hc, hx⟩ := f
  obtain ⟨n, hn⟩ : ∃ n, l.length = n := ⟨_, rfl⟩
  rw [hn] at hl hc ⊢
  obtain ⟨d, hd⟩ : ∃ d, tog l = d := ⟨_, rfl⟩
  rw [hd]
  have HX := Lib.hid hx; have HN := Lib.hid hn; have HD := Lib.hid hd
  clear hx hn hd
  go_enter Tryd.func15, Tryd.ntmps15
  go_wp2
  go_loopw [7] (fun i wr => ∃ k : Nat, k ≤ n ∧ i = .int .i64 k ∧ Hid ((∀ (j : Nat) (g : Int × Int), j < k → l[j]? = some g → rgOk g = true) ∧ (∀ (j : Nat) (a b : Int × Int), j + 1 < k → l[j]? = some a → l[j + 1]? = some b → rgFits a b = true) ∧ Below w.heap.size w wr)) (fun i _ => n - (intOf i).toNat)
  case atStart => exact ⟨0, Nat.zero_le _, rfl, fun j g h => absurd h (Nat.not_lt_zero j), fun j a b h => absurd h (Nat.not_lt_zero _), Below.refl _ _⟩
  case round =>
    obtain ⟨k, hk, rfl, HI⟩ := hrel
    by_cases hlt : k < n
    · have hkl : k < l.length := by rw [HN.out]; exact hlt
      obtain ⟨b, off, rfl, ha⟩ := HX.out (by intro e; rw [e] at hkl; exact absurd hkl (Nat.not_lt_zero _))
      have hp0 := List.getElem?_eq_getElem hkl
      obtain ⟨⟨x, y⟩, hp⟩ : ∃ p, l[k] = p := ⟨_, rfl⟩
      rw [hp] at hp0
      have haw := ha.below HI.out.2.2
      obtain ⟨c0, c1⟩ := haw k _ hp0
      simp only at c0 c1
      have SM0 := fun (X : World) => reach_c x y X
      obtain ⟨a0, a1⟩ := one_cell wr (.int .i64 x) (.int .i64 y) 32
      obtain ⟨wc, hwc⟩ : ∃ wc, (wr.alloc (.cells #[.int .i64 x, .int .i64 y] 32)) = wc := ⟨_, rfl⟩
      rw [hwc] at a0 a1
      have hbc : Below wr.heap.size wr wc := by rw [← hwc]; exact alloc_below _ _
      have KB := Lib.hid (bnext HI.out.2.2 hbc)
      have Y0 : ∀ z : Laid wc, z.W.cell? ⟨wr.heap.size, 0, none⟩ = some (.int .i64 x) := fun z => cellb z.h a0
      have Y1 : ∀ z : Laid wc, z.W.cell? ⟨wr.heap.size, 1, none⟩ = some (.int .i64 y) := fun z => cellb z.h a1
      have HWC := Lib.hid hwc; have HP := Lib.hid hp0; have S0 := Lib.hid SM0
      have STOP := Lib.hid (show rgOk (x, y) = false → d = false from fun h => by rw [← HD.out]; exact tog_single HP.out h)
      by_cases ho : rgOk (x, y) = true
      · have hr0 : rgReach (x, y) = x * y := if_pos ho
        obtain ⟨P0, hP0⟩ : ∃ P, x * y = P := ⟨_, rfl⟩
        have ok0 := of_decide_eq_true ho
        simp only at ok0
        have hP1 : P0 ≠ 0 := by
          rw [← hP0]
          have := Int.mul_pos (show 0 < x by omega) (show 0 < y by omega)
          omega
        have hPb : (P0 == 0) = false := beq_false_of_ne hP1
        rw [hr0, hP0] at S0
        have OK0 := Lib.hid ho
        have NEXT := Lib.hid (show ∀ (j : Nat) (g : Int × Int), j < k + 1 → l[j]? = some g → rgOk g = true from fun j g h1 h2 => by
          rcases Nat.lt_or_ge j k with h | h
          · exact HI.out.1 j g h h2
          · obtain rfl : j = k := by omega
            rw [HP.out] at h2
            obtain rfl := Option.some.inj h2
            exact OK0.out)
        by_cases hk0 : k = 0
        · have PAIR := Lib.hid (show ∀ (j : Nat) (a b : Int × Int), j + 1 < k + 1 → l[j]? = some a → l[j + 1]? = some b → rgFits a b = true from fun j a b h => absurd h (by omega))
          clear SM0 hr0 hP0 hP1 ok0 ho hp0 hp ha haw hwc hbc hkl a0 a1
          subst hk0
          simp only [Nat.zero_mul, Nat.add_zero] at c0 c1
          go_wp2_with fail
          rw [HWC.out]
          refine wp_region_laid (by kernel_rfl) (by kernel_rfl) ?_
          repeat (go_big_quiet_step (first | (go_at_call 17; with_reducible exact Calls.laid (S0.out _))))
          refine wpQuiet_nil ?_
          intro _ hw'
          obtain ⟨pq, hw''⟩ := hw'
          subst hw''
          go_wp2
          go_roundw
          case rel => exact ⟨0 + 1, by omega, by go_num, NEXT.out, PAIR.out, bnext KB.out pq.h⟩
          case measure => simp [intOf]; omega
        · have hkl1 : k - 1 < l.length := by omega
          have hp1 := List.getElem?_eq_getElem hkl1
          obtain ⟨⟨x1, y1⟩, hpp⟩ : ∃ p, l[k - 1] = p := ⟨_, rfl⟩
          rw [hpp] at hp1
          obtain ⟨e0, e1⟩ := haw (k - 1) _ hp1
          simp only at e0 e1
          have ho1 := HI.out.1 (k - 1) _ (by omega) hp1
          have FW := fun (X : World) => follows_c x y x1 y1 ho ho1 X
          obtain ⟨t, ht⟩ : ∃ t, rgFits (x1, y1) (x, y) = t := ⟨_, rfl⟩
          rw [ht] at FW
          have NO := Lib.hid (show t = false → d = false from fun h => by
            rw [← HD.out]
            exact tog_pair hp1 (by rw [show k - 1 + 1 = k from by omega]; exact hp0) (ht.trans h))
          have PAIR := Lib.hid (show t = true → ∀ (j : Nat) (a b : Int × Int), j + 1 < k + 1 → l[j]? = some a → l[j + 1]? = some b → rgFits a b = true from fun h j a b h1 h2 h3 => by
            rcases Nat.lt_or_ge (j + 1) k with h4 | h4
            · exact HI.out.2.1 j a b h4 h2 h3
            · obtain rfl : j = k - 1 := by omega
              rw [hp1] at h2
              obtain rfl := Option.some.inj h2
              rw [show k - 1 + 1 = k from by omega, hp0] at h3
              obtain rfl := Option.some.inj h3
              exact ht.trans h)
          have hbl : b < wr.heap.size := World.block_lt_of_cell? wr _ e0
          have Y2 : ∀ z : Laid wc, z.W.cell? ⟨b, off + (k - 1) * 2, none⟩ = some (.int .i64 x1) := fun z => cellb z.h (cellb hbc e0)
          have Y3 : ∀ z : Laid wc, z.W.cell? ⟨b, off + (k - 1) * 2 + 1, none⟩ = some (.int .i64 y1) := fun z => cellb z.h (cellb hbc e1)
          have hkd : decide ((0 : Int) < (k : Int)) = true := decide_eq_true (by omega)
          have hkn : decide (0 < k) = true := decide_eq_true (by omega)
          have hkp : (0 : Int) < (k : Int) := by omega
          have hqi : (k : Int) - 1 = ((k - 1 : Nat) : Int) := by omega
          have hqw : IntKind.i64.wrap ((k - 1 : Nat) : Int) = ((k - 1 : Nat) : Int) := by rw [IntKind.wrap_i64]; omega
          have hqw2 : IntKind.i64.wrap ((k : Int) - 1) = ((k - 1 : Nat) : Int) := by rw [IntKind.wrap_i64]; omega
          have hql : k - 1 < n := by omega
          have FF := Lib.hid FW
          generalize k - 1 = q1 at *
          clear SM0 hr0 hP0 hP1 ok0 ho ho1 hp0 hp hp1 hpp ha haw hwc hbc hk0 hkl hkl1 a0 a1 e0 e1 FW ht
          cases t
          · obtain rfl : d = false := NO.out rfl
            go_wp2_with fail
            rw [HWC.out]
            refine wp_region_laid (by kernel_rfl) (by kernel_rfl) ?_
            repeat (go_big_quiet_step (first | (go_at_call 17; with_reducible exact Calls.laid (S0.out _)) | (go_at_call 31; with_reducible exact Calls.laid (FF.out _))))
            refine wpQuiet_nil ?_
            intro _ hw'
            obtain ⟨pq, hw''⟩ := hw'
            subst hw''
            go_wp2
            go_ret
            exact ⟨rfl, bnext KB.out pq.h⟩
          · have PR := Lib.hid (PAIR.out rfl)
            clear PAIR NO
            go_wp2_with fail
            rw [HWC.out]
            refine wp_region_laid (by kernel_rfl) (by kernel_rfl) ?_
            repeat (go_big_quiet_step (first | (go_at_call 17; with_reducible exact Calls.laid (S0.out _)) | (go_at_call 31; with_reducible exact Calls.laid (FF.out _))))
            refine wpQuiet_nil ?_
            intro _ hw'
            obtain ⟨pq, hw''⟩ := hw'
            subst hw''
            go_wp2
            go_roundw
            case rel => exact ⟨k + 1, by omega, by go_num, NEXT.out, PR.out, bnext KB.out pq.h⟩
            case measure => simp [intOf]; omega
      · have hof : rgOk (x, y) = false := by simpa using ho
        obtain rfl : d = false := STOP.out hof
        have hr0 : rgReach (x, y) = 0 := if_neg ho
        rw [hr0] at S0
        clear SM0 hr0 ho hof hp0 hp ha haw hwc hbc hkl a0 a1 STOP
        go_wp2_with fail
        rw [HWC.out]
        refine wp_region_laid (by kernel_rfl) (by kernel_rfl) ?_
        repeat (go_big_quiet_step (first | (go_at_call 17; with_reducible exact Calls.laid (S0.out _))))
        refine wpQuiet_nil ?_
        intro _ hw'
        obtain ⟨pq, hw''⟩ := hw'
        subst hw''
        go_wp2
        go_ret
        exact ⟨rfl, bnext KB.out pq.h⟩
    · obtain rfl : k = n := by omega
      have hT : tog l = decide (1 ≤ k ∧ k ≤ 4) := by
        have h := tog_iff l
        rw [HN.out] at h
        have h2 := fun (j : Nat) (g : Int × Int) (hj : l[j]? = some g) => HI.out.1 j g (by rw [← HN.out]; exact (List.getElem?_eq_some_iff.1 hj).1) hj
        have h3 := fun (j : Nat) (a b : Int × Int) (h4 : l[j]? = some a) (h5 : l[j + 1]? = some b) => HI.out.2.1 j a b (by rw [← HN.out]; exact (List.getElem?_eq_some_iff.1 h5).1) h4 h5
        rw [Bool.eq_iff_iff, h, decide_eq_true_eq]
        exact ⟨fun h => h.1, fun h => ⟨h, h2, h3⟩⟩
      have HT := Lib.hid (HD.out.symm.trans hT)
      have BEL := Lib.hid HI.out.2.2
      clear hT HI HD
      by_cases h1 : 1 ≤ k
      · by_cases h4 : k ≤ 4
        · obtain rfl : d = true := HT.out.trans (decide_eq_true ⟨h1, h4⟩)
          have i1 : (1 : Int) ≤ (k : Int) := by omega
          have i4 : (k : Int) ≤ 4 := by omega
          go_wp2
          go_ret
          exact ⟨rfl, BEL.out⟩
        · obtain rfl : d = false := HT.out.trans (decide_eq_false (fun h => h4 h.2))
          have i1 : (1 : Int) ≤ (k : Int) := by omega
          have i4 : ¬ (k : Int) ≤ 4 := by omega
          go_wp2
          go_ret
          exact ⟨rfl, BEL.out⟩
      · obtain rfl : d = false := HT.out.trans (decide_eq_false (fun h => h1 h.1))
        have i1 : ¬ (1 : Int) ≤ (k : Int) := by omega
        go_wp2
        go_ret
        exact ⟨rfl, BEL.out⟩
end Go.Proofs.YtjbacbbbhedmlaaDoor.RP
