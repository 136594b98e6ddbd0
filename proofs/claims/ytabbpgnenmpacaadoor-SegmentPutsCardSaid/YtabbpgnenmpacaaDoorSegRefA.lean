/-
  Contracts of the document's own functions of layer 8 (isobarref08): time, Rungs, SameRungs, number.
-/
import Derived.Test.YtabbpgnenmpacaaDoorSegRow
import Derived.BigRegion
set_option linter.unusedSimpArgs false
set_option linter.unusedVariables false
namespace Go.Proofs.YtabbpgnenmpacaaDoor.SR
open Go.RowKit
open CR (below_next own_ge u8_wrap)
set_option maxRecDepth 100000 in
set_option maxHeartbeats 1000000 in
theorem time_c (t : Int) (w : World) : Calls Tryd.prog 33 #[.int .i64 t] w fun e w' => e = .returned (.bool (tmOk t)) ∧ w = w' := by
  obtain ⟨d, hd⟩ : ∃ d, tmOk t = d := ⟨_, rfl⟩
  rw [hd]
  unfold tmOk at hd
  by_cases h0 : 0 ≤ t
  · by_cases h1 : t ≤ 1099511627776
    · rw [decide_eq_true ⟨h0, h1⟩] at hd
      subst hd
      go_enter Tryd.func33, Tryd.ntmps33
      go_wp2
      go_ret
      exact ⟨rfl, rfl⟩
    · rw [decide_eq_false (fun h => h1 h.2)] at hd
      subst hd
      go_enter Tryd.func33, Tryd.ntmps33
      go_wp2
      go_ret
      exact ⟨rfl, rfl⟩
  · rw [decide_eq_false (fun h => h0 h.1)] at hd
    subst hd
    go_enter Tryd.func33, Tryd.ntmps33
    go_wp2
    go_ret
    exact ⟨rfl, rfl⟩
set_option maxRecDepth 100000 in
set_option maxHeartbeats 2000000 in
theorem rungs_c (v : Value) (l : List (Int × Int)) (hl : l.length ≤ 100000) (w : World) (h : RgOut w v l) : Calls Tryd.prog 32 #[v] w fun e w' => e = .returned (.bool (rgsOk l)) ∧ w = w' := by
  obtain ⟨A, c, rfl, hc, hx⟩ := h
  obtain ⟨n, hln⟩ : ∃ n, l.length = n := ⟨_, rfl⟩
  rw [hln] at hl hc ⊢
  obtain ⟨d, hd⟩ : ∃ d, rgsOk l = d := ⟨_, rfl⟩
  rw [hd]
  have HX := Lib.hid hx; have HL := Lib.hid hln; have HD := Lib.hid hd
  clear hx hln hd
  go_enter Tryd.func32, Tryd.ntmps32
  go_wp2
  go_loop [3] (fun i => ∃ k : Nat, k ≤ n ∧ i = .int .i64 k ∧ Hid (∀ (j : Nat) (g : Int × Int), j < k → l[j]? = some g → rgOk g = true)) (fun i => n - (intOf i).toNat)
  case atStart => exact ⟨0, Nat.zero_le _, rfl, fun j g h => absurd h (Nat.not_lt_zero _)⟩
  case round =>
    obtain ⟨k, hk, rfl, HI⟩ := hrel
    by_cases hlt : k < n
    · have hkl : k < l.length := by rw [HL.out]; exact hlt
      obtain ⟨b, off, rfl, ha⟩ := HX.out (by intro e; rw [e] at hkl; exact absurd hkl (Nat.not_lt_zero _))
      have hp0 := List.getElem?_eq_getElem hkl
      obtain ⟨c0, c1⟩ := ha k _ hp0
      have hbad : rgOk l[k] = false → d = false := fun hb => by
        rw [← HD.out]
        unfold rgsOk
        have : l.all rgOk = false := by
          rw [List.all_eq_false]
          exact ⟨_, List.getElem_mem hkl, by rw [hb]; decide⟩
        rw [this, Bool.false_and]
      have hok : rgOk l[k] = true → ∀ (j : Nat) (g : Int × Int), j < k + 1 → l[j]? = some g → rgOk g = true := fun hb j g h1 h2 => by
        rcases Nat.lt_or_ge j k with h | h
        · exact HI.out j g h h2
        · obtain rfl : j = k := by omega
          rw [hp0] at h2
          obtain rfl := Option.some.inj h2
          exact hb
      have hrg : rgOk l[k] = decide (1 ≤ (l[k]).1 ∧ (l[k]).1 ≤ 86400 ∧ 1 ≤ (l[k]).2 ∧ (l[k]).2 ≤ 400) := rfl
      rw [hrg] at hbad hok
      generalize (l[k]).1 = x at *
      generalize (l[k]).2 = y at *
      have BAD := Lib.hid hbad; have OK := Lib.hid hok
      clear hbad hok hrg hp0 ha hkl
      by_cases h1 : 1 ≤ x
      · by_cases h2 : x ≤ 86400
        · by_cases h3 : 1 ≤ y
          · by_cases h4 : y ≤ 400
            · have GO := Lib.hid (OK.out (decide_eq_true ⟨h1, h2, h3, h4⟩))
              go_wp2
              go_round
              case rel => exact ⟨k + 1, by omega, by go_num, GO.out⟩
              case measure => simp [intOf]; omega
            · have e := BAD.out (decide_eq_false (fun h => h4 h.2.2.2))
              subst e
              go_wp2
              go_ret
              exact ⟨rfl, rfl⟩
          · have e := BAD.out (decide_eq_false (fun h => h3 h.2.2.1))
            subst e
            go_wp2
            go_ret
            exact ⟨rfl, rfl⟩
        · have e := BAD.out (decide_eq_false (fun h => h2 h.2.1))
          subst e
          go_wp2
          go_ret
          exact ⟨rfl, rfl⟩
      · have e := BAD.out (decide_eq_false (fun h => h1 h.1))
        subst e
        go_wp2
        go_ret
        exact ⟨rfl, rfl⟩
    · obtain rfl : k = n := by omega
      have hall : l.all rgOk = true := by
        rw [List.all_eq_true]
        intro g hg
        obtain ⟨j, hj⟩ := List.getElem?_of_mem hg
        exact HI.out j g (by rw [← HL.out]; exact (List.getElem?_eq_some_iff.1 hj).1) hj
      have hdd : d = decide (1 ≤ k ∧ k ≤ 4) := by
        rw [← HD.out]
        unfold rgsOk
        rw [hall, HL.out, Bool.true_and]
      clear hall
      by_cases h1 : 1 ≤ k
      · by_cases h4 : k ≤ 4
        · rw [decide_eq_true ⟨h1, h4⟩] at hdd
          subst hdd
          have h4i : (k : Int) ≤ 4 := by omega
          have h1i : (1 : Int) ≤ (k : Int) := by omega
          go_wp2
          go_ret
          exact ⟨rfl, rfl⟩
        · rw [decide_eq_false (fun h => h4 h.2)] at hdd
          subst hdd
          have h4i : ¬ (k : Int) ≤ 4 := by omega
          have h1i : (1 : Int) ≤ (k : Int) := by omega
          go_wp2
          go_ret
          exact ⟨rfl, rfl⟩
      · rw [decide_eq_false (fun h => h1 h.1)] at hdd
        subst hdd
        have h1i : ¬ (1 : Int) ≤ (k : Int) := by omega
        go_wp2
        go_ret
        exact ⟨rfl, rfl⟩
set_option maxRecDepth 100000 in
set_option maxHeartbeats 2000000 in
theorem sameRungs_c (v1 v2 : Value) (l1 l2 : List (Int × Int)) (h1 : l1.length ≤ 100000) (h2 : l2.length ≤ 100000) (w : World) (f1 : RgOut w v1 l1) (f2 : RgOut w v2 l2) :
    Calls Tryd.prog 37 #[v1, v2] w fun e w' => e = .returned (.bool (decide (l1 = l2))) ∧ Below w.heap.size w w' := by
  obtain ⟨A1, c1, rfl, hc1, x1⟩ := f1
  obtain ⟨A2, c2, rfl, hc2, x2⟩ := f2
  obtain ⟨n1, hn1⟩ : ∃ n, l1.length = n := ⟨_, rfl⟩
  obtain ⟨n2, hn2⟩ : ∃ n, l2.length = n := ⟨_, rfl⟩
  rw [hn1] at h1 hc1 ⊢
  rw [hn2] at h2 hc2 ⊢
  by_cases hne : n1 = n2
  · subst hne
    have X1 := Lib.hid x1; have X2 := Lib.hid x2; have N1 := Lib.hid hn1; have N2 := Lib.hid hn2
    clear x1 x2 hn1 hn2
    go_enter Tryd.func37, Tryd.ntmps37
    go_wp2
    go_loopw [5] (fun i wr => ∃ k : Nat, k ≤ n1 ∧ i = .int .i64 k ∧ Hid ((∀ j, j < k → l1[j]? = l2[j]?) ∧ Below w.heap.size w wr)) (fun i _ => n1 - (intOf i).toNat)
    case atStart => exact ⟨0, Nat.zero_le _, rfl, fun j h => absurd h (Nat.not_lt_zero j), Below.refl _ _⟩
    case round =>
      obtain ⟨k, hk, rfl, HI⟩ := hrel
      by_cases hlt : k < n1
      · have hl1 : k < l1.length := by rw [N1.out]; exact hlt
        have hl2 : k < l2.length := by rw [N2.out]; exact hlt
        obtain ⟨b1, o1, rfl, a1⟩ := X1.out (by intro h; rw [h] at hl1; exact absurd hl1 (Nat.not_lt_zero _))
        obtain ⟨b2, o2, rfl, a2⟩ := X2.out (by intro h; rw [h] at hl2; exact absurd hl2 (Nat.not_lt_zero _))
        obtain ⟨y1, y2⟩ := (a1.below HI.out.2) k _ (List.getElem?_eq_getElem hl1)
        obtain ⟨z1, z2⟩ := (a2.below HI.out.2) k _ (List.getElem?_eq_getElem hl2)
        have e1 : l1[k]? = some l1[k] := List.getElem?_eq_getElem hl1
        have e2 : l2[k]? = some l2[k] := List.getElem?_eq_getElem hl2
        obtain ⟨⟨p1, p2⟩, hp⟩ : ∃ p, l1[k] = p := ⟨_, rfl⟩
        obtain ⟨⟨q1, q2⟩, hq⟩ : ∃ q, l2[k] = q := ⟨_, rfl⟩
        rw [hp] at e1 y1 y2
        rw [hq] at e2 z1 z2
        have E1 := Lib.hid e1; have E2 := Lib.hid e2
        clear e1 e2 a1 a2 hp hq
        by_cases hpq1 : p1 = q1
        · subst hpq1
          by_cases hpq2 : p2 = q2
          · subst hpq2
            have SE := Lib.hid (show l1[k]? = l2[k]? by rw [E1.out, E2.out])
            go_wp2
            go_region
            go_wp2
            go_roundw
            case rel =>
              refine ⟨k + 1, by omega, by go_num, fun j hj => ?_, (Below.drew HI.out.2)⟩
              by_cases he : j = k
              · rw [he, SE.out]
              · exact HI.out.1 j (by omega)
            case measure => simp [intOf]; omega
          · have hd : decide (l1 = l2) = false := by
              rw [decide_eq_false_iff_not]
              intro h
              have h3 := E1.out
              rw [h, E2.out] at h3
              injection h3 with h3
              injection h3 with h3 h4
              exact hpq2 h4.symm
            have HD := Lib.hid hd
            clear hd
            go_wp2
            go_region
            go_wp2
            go_ret
            exact ⟨congrArg (fun z => Ending.returned (.bool z)) HD.out.symm, (Below.drew HI.out.2)⟩
        · have hd : decide (l1 = l2) = false := by
            rw [decide_eq_false_iff_not]
            intro h
            have h3 := E1.out
            rw [h, E2.out] at h3
            injection h3 with h3
            injection h3 with h3 h4
            exact hpq1 h3.symm
          have HD := Lib.hid hd
          clear hd
          go_wp2
          go_region
          go_wp2
          go_ret
          exact ⟨congrArg (fun z => Ending.returned (.bool z)) HD.out.symm, (Below.drew HI.out.2)⟩
      · obtain rfl : k = n1 := by omega
        have hd : decide (l1 = l2) = true := by
          rw [decide_eq_true_eq]
          refine List.ext_getElem? fun j => ?_
          rcases Nat.lt_or_ge j k with hj | hj
          · exact HI.out.1 j hj
          · rw [List.getElem?_eq_none (by rw [N1.out]; exact hj), List.getElem?_eq_none (by rw [N2.out]; exact hj)]
        have HD := Lib.hid hd
        clear hd
        go_wp2
        go_ret
        exact ⟨congrArg (fun z => Ending.returned (.bool z)) HD.out.symm, HI.out.2⟩
  · have hd : decide (l1 = l2) = false := by
      rw [decide_eq_false_iff_not]
      intro h
      rw [h, hn2] at hn1
      exact hne hn1.symm
    have hni : ¬ (n1 : Int) = (n2 : Int) := by omega
    have HD := Lib.hid hd
    clear hd hne x1 x2 hn1 hn2
    go_enter Tryd.func37, Tryd.ntmps37
    go_wp2
    go_ret
    exact ⟨congrArg (fun z => Ending.returned (.bool z)) HD.out.symm, Below.refl _ _⟩
end Go.Proofs.YtabbpgnenmpacaaDoor.SR
