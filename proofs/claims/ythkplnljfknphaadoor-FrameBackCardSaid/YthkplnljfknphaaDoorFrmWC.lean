/-
  The statements of layer 7, walked, the third part: joined, and cut again.
-/
import Derived.Test.YthkplnljfknphaaDoorFrmW
set_option linter.unusedSimpArgs false
set_option linter.unusedVariables false
namespace Go.Proofs.YthkplnljfknphaaDoor.FW
open Go.RowKit
open CR (below_next own_ge)
/-- What is counted of payloads. -/
def fMin : List (List Nat) → Nat
  | [] => 0
  | p :: l => min p.length 10000 + fMin l
theorem fMin_app : ∀ (a b : List (List Nat)), fMin (a ++ b) = fMin a + fMin b
  | [], b => by show fMin b = 0 + fMin b; omega
  | p :: a, b => by show min p.length 10000 + fMin (a ++ b) = (min p.length 10000 + fMin a) + fMin b; rw [fMin_app a b]; omega
theorem fMin_sz : ∀ (ls : List (List Nat)), fMin ls ≤ 5000 → fSz ls = fMin ls + 6 * ls.length
  | [], _ => rfl
  | p :: l, h => by
    have h' : min p.length 10000 + fMin l ≤ 5000 := h
    have ih := fMin_sz l (by omega)
    show (p.length + 6) + fSz l = (min p.length 10000 + fMin l) + 6 * (l.length + 1)
    rw [ih]
    omega
set_option maxRecDepth 100000 in
set_option maxHeartbeats 2000000 in
theorem many_c (v : Value) (ls : List (List Nat)) (hl : ls.length ≤ 9223372036854775807) (hb : ∀ p ∈ ls, p.length ≤ 9223372036854775807) (w : World) (h : BsOut w v ls) :
    Calls Tryd.prog 19 #[v] w fun e w' => ∃ r : Bool, e = .returned (.bool r) ∧ (r = false → ls.length ≤ 200 ∧ fMin ls ≤ 5000) ∧ w = w' := by
  obtain ⟨A, c, rfl, hc, hx⟩ := h
  obtain ⟨n, hln⟩ : ∃ n, ls.length = n := ⟨_, rfl⟩
  rw [hln] at hc hl ⊢
  have HX := Lib.hid hx; have HB := Lib.hid hb; have HL := Lib.hid hln
  clear hx hb hln
  go_enter Tryd.func19, Tryd.ntmps19
  go_wp2
  go_loop [3, 4] (fun s i => ∃ k z : Nat, k ≤ n ∧ s = .int .i64 z ∧ i = .int .i64 k ∧ Hid (z = n + fMin (ls.take k)) ∧ (z ≤ 15000 ∨ k = 0)) (fun _ i => n - (intOf i).toNat)
  case atStart => exact ⟨0, n, Nat.zero_le _, rfl, rfl, by rw [List.take_zero]; rfl, Or.inr rfl⟩
  case round =>
    obtain ⟨k, z, hk, rfl, rfl, HI, hz⟩ := hrel
    by_cases hlt : k < n
    · by_cases h5 : z ≤ 5000
      · have hkl : k < ls.length := by rw [HL.out]; exact hlt
        obtain ⟨b, off, rfl, ha⟩ := HX.out (by intro e; rw [e] at hkl; exact absurd hkl (Nat.not_lt_zero _))
        have hp0 := List.getElem?_eq_getElem hkl
        have hbp := HB.out _ (List.getElem_mem hkl)
        obtain ⟨u, hu, hou⟩ := ha k _ hp0
        have htk : fMin (ls.take (k + 1)) = fMin (ls.take k) + (min (ls[k]).length 10000 + 0) := by rw [List.take_add_one, hp0]; exact fMin_app _ _
        generalize ls[k] = p at *
        obtain ⟨A2, c2, rfl, _, _⟩ := id hou
        obtain ⟨m, hm⟩ : ∃ m, p.length = m := ⟨_, rfl⟩
        rw [hm] at hu htk hbp
        have h5i : (z : Int) ≤ 5000 := by omega
        obtain ⟨q, hq⟩ : ∃ q, min m 10000 = q := ⟨_, rfl⟩
        have hqi : min (m : Int) 10000 = (q : Int) := by rw [← hq]; omega
        have hq1 : q ≤ 10000 := by omega
        rw [hq] at htk
        have HT := Lib.hid htk
        clear htk hou ha hp0 hbp hkl hz hm
        go_wp2
        refine ⟨⟨k + 1, z + q, by omega, congrArg (Value.int .i64) (by split <;> omega), by go_num, Lib.hid (by have := HI.out; rw [HT.out]; omega), Or.inl (by omega)⟩, by simp [intOf]; omega⟩
      · have h5i : ¬ (z : Int) ≤ 5000 := by omega
        clear hz
        go_wp2
        go_ret
        exact Or.inr ⟨rfl, rfl⟩
    · obtain rfl : k = n := by omega
      have htk : ls.take k = ls := List.take_of_length_le (by rw [HL.out]; exact Nat.le_refl _)
      have hz2 := HI.out
      rw [htk] at hz2
      by_cases h5 : z ≤ 5000
      · have h5i : ¬ (5000 : Int) < (z : Int) := by omega
        by_cases h2 : 200 < k
        · have h2i : (200 : Int) < (k : Int) := by omega
          clear hz hz2 htk HI
          go_wp2
          go_ret
          exact Or.inr ⟨rfl, rfl⟩
        · have h2i : ¬ (200 : Int) < (k : Int) := by omega
          have HZ := Lib.hid hz2
          clear hz hz2 htk HI
          go_wp2
          go_ret
          exact Or.inl ⟨rfl, ⟨by omega, by have := HZ.out; omega⟩, rfl⟩
      · have h5i : (5000 : Int) < (z : Int) := by omega
        clear hz hz2 htk HI
        go_wp2
        go_ret
        exact Or.inr ⟨rfl, rfl⟩
set_option maxRecDepth 100000 in
set_option maxHeartbeats 4000000 in
theorem frameBack_c (v : Value) (ls : List (List Nat)) (hl : ls.length ≤ 9223372036854775807) (hl2 : ∀ p ∈ ls, p.length ≤ 9223372036854775807) (hb : ∀ p ∈ ls, Bytes p) (t : Nat) (ht : t < 65536) (w : World) (hG : G w) (g : BsOut w v ls) :
    Calls Tryd.prog 6 #[v, .int .u16 (t : Nat)] w fun e w' => e = .returned (.bool true) ∧ Below w.heap.size w w' := by
  have HG := Lib.hid hG
  clear hG
  have O0 := Lib.hid g
  have AL := Lib.hid alive_c
  have MN := fun w h => many_c v ls hl hl2 w h
  obtain ⟨A, c, rfl, hc, hx⟩ := g
  obtain ⟨n, hn⟩ : ∃ n, ls.length = n := ⟨_, rfl⟩
  rw [hn] at hc O0 MN hl ⊢
  have HX := Lib.hid hx; have HN := Lib.hid hn; have HB := Lib.hid hb
  have MNH := Lib.hid MN
  clear hx hn hb MN hl2
  go_enter Tryd.func6, Tryd.ntmps6
  go_wp2_with fail
  refine (AL.out _ HG.out).mono ?_; rintro _ w1 ⟨rfl, hb1⟩
  have B1 := Lib.hid hb1
  clear hb1
  go_wp2_with fail
  refine (MNH.out _ (O0.out.below B1.out)).mono ?_; rintro _ w2 ⟨r, rfl, hr, rfl⟩
  cases r
  case true =>
    clear hr
    go_wp2
    go_ret
    exact ⟨rfl, B1.out⟩
  case false =>
    obtain ⟨hn2, hm5⟩ := hr rfl
    have hsz := fMin_sz ls hm5
    have hsz2 : fSz ls ≤ 10000 := by rw [HN.out] at hsz; omega
    clear hr hm5 hsz
    have PJ := Lib.hid (fun w k h => FP.join_c (.slice A n c) ls (by omega) HB.out w k h)
    have RJ := Lib.hid (fun w h => FR.join_c (.slice A n c) ls (by omega) HB.out w h)
    by_cases hj : (fJoin ls).2 = 0
    · have hall := fJoin_all hj
      have hJ := fJoin_ok hall
      rw [hJ] at PJ RJ
      have hfl := fFlat_length ls
      have hfb : Bytes (fFlat ls) := fun x hx => by
        obtain ⟨p, hp, hx2⟩ := List.mem_flatMap.1 hx
        exact fFrm_bytes (HB.out p hp) x hx2
      have S1 := fun v1 v2 w f1 f2 => CR.same_c v1 v2 (fFlat ls) (fFlat ls) (by omega) (by omega) w f1 f2
      rw [decide_eq_true rfl] at S1
      have H1 := Lib.hid S1
      have hlen : ∀ p ∈ ls, p.length ≤ 100000 := fun p hp => by have := (hall p hp).2; omega
      have C1 := fun v w k h => FP.cut_c v (fFlat ls) (by omega) hfb w k h
      rw [fCut_flat hall] at C1
      have C1H := Lib.hid C1
      have S2 := fun v1 v2 w f1 f2 => FR.same_c v1 v2 ls ls (by rw [HN.out]; omega) (by rw [HN.out]; omega) hlen hlen w f1 f2
      rw [decide_eq_true rfl] at S2
      have H2 := Lib.hid S2
      have SS := Lib.hid (fun i v1 v2 w f1 f2 => FR.same_c v1 v2 (ls.take i) (ls.take i) (by rw [List.length_take, HN.out]; omega) (by rw [List.length_take, HN.out]; omega) (fun p hp => hlen p (List.mem_of_mem_take hp)) (fun p hp => hlen p (List.mem_of_mem_take hp)) w f1 f2)
      obtain ⟨s, hs⟩ : ∃ s, fSz ls = s := ⟨_, rfl⟩
      rw [hs] at C1H hfl hsz2
      have HALL := Lib.hid hall; have HFL := Lib.hid hfl; have HS := Lib.hid hs
      obtain ⟨en, hen⟩ : ∃ en, t % (s + 1) = en := ⟨_, rfl⟩
      have hens : en ≤ s := by rw [← hen]; have := Nat.mod_lt t (show 0 < s + 1 by omega); omega
      have hmod : (t : Int) % ((s : Int) + 1) = (en : Int) := by
        have h := Int.natCast_emod t (s + 1)
        rw [hen] at h
        have e : ((s + 1 : Nat) : Int) = (s : Int) + 1 := by omega
        rw [e] at h
        exact h.symm
      have C2' := fun v w k h => FP.cut_c v ((fFlat ls).take en) (by rw [List.length_take]; omega) (hfb.takes en) w k h
      obtain ⟨⟨mls, msz⟩, hM⟩ : ∃ x, fCut ((fFlat ls).take en) = x := ⟨_, rfl⟩
      rw [hM] at C2'
      have C2 := Lib.hid C2'
      have HM := Lib.hid (fun (k q : Nat) (h1 : k ≤ n) (h2 : fSz (ls.take k) = q) (h3 : q ≤ en) (h4 : k < n → en < fSz (ls.take (k + 1))) => hM.symm.trans (h2 ▸ fCut_part k hall (by rw [HN.out]; exact h1) (by rw [h2]; exact h3) (fun h5 => h4 (by rw [← HN.out]; exact h5)) : fCut ((fFlat ls).take en) = (ls.take k, q)))
      clear hall hJ hj hfl hfb S1 C1 S2 hlen hs hen C2' hM
      go_wp2_with fail
      refine (PJ.out _ (HG.out.below B1.out) (O0.out.below B1.out)).mono ?_; rintro _ w3 ⟨v3, rfl, hn3, hb3⟩
      have P3 := Lib.hid hn3.out; have B3 := Lib.hid (below_next B1.out hb3)
      clear hn3 hb3
      go_wp2_with fail
      refine (RJ.out _ (O0.out.below B3.out)).mono ?_; rintro _ w4 ⟨v4, rfl, hn4, hb4⟩
      have R4 := Lib.hid hn4.out; have P4 := Lib.hid (P3.out.below hb4); have B4 := Lib.hid (below_next B3.out hb4)
      clear hn4 hb4
      go_wp2_with fail
      refine (H1.out _ _ _ P4.out R4.out).mono ?_; rintro _ w5 ⟨rfl, hb5⟩
      have P5 := Lib.hid (P4.out.below hb5); have B5 := Lib.hid (below_next B4.out hb5)
      clear hb5
      obtain ⟨A3, c3, hv3, hc3, _⟩ := id P5.out
      rw [HFL.out] at hv3 hc3
      subst hv3
      go_wp2_with fail
      refine (C1H.out _ _ (HG.out.below B5.out) P5.out).mono ?_; rintro _ w6 ⟨v6, rfl, hn6, hb6⟩
      have L6 := Lib.hid hn6.out; have P6 := Lib.hid (P5.out.below hb6); have B6 := Lib.hid (below_next B5.out hb6)
      clear hn6 hb6
      go_wp2_with fail
      refine (H2.out _ _ _ L6.out (O0.out.below B6.out)).mono ?_; rintro _ w7 ⟨rfl, hb7⟩
      have P7 := Lib.hid (P6.out.below hb7); have B7 := Lib.hid (below_next B6.out hb7)
      clear hb7
      have hcs : (en : Int) ≤ (c3 : Int) := by omega
      go_wp2_with fail
      refine (C2.out _ _ (HG.out.below B7.out) (CR.ByOut.take P7.out hens)).mono ?_; rintro _ w8 ⟨v8, rfl, hn8, hb8⟩
      have L8 := Lib.hid hn8.out; have B8 := Lib.hid (below_next B7.out hb8)
      clear hn8 hb8
      go_wp2
      try simp only [hmod]
      go_loop [14, 15, 16] (fun z wh i => ∃ k q : Nat, k ≤ n ∧ q ≤ en ∧ z = .int .i64 q ∧ wh = .int .i64 k ∧ i = .int .i64 k ∧ Hid (fSz (ls.take k) = q)) (fun _ _ i => n - (intOf i).toNat)
      case atStart => exact ⟨0, 0, Nat.zero_le _, Nat.zero_le _, rfl, rfl, rfl, by rw [List.take_zero]; rfl⟩
      case round =>
        obtain ⟨k, q, hk, hq, rfl, rfl, rfl, HQ⟩ := hrel
        have hSS : ∀ (v1 v2 : Value) (w : World), BsOut w v1 (ls.take k) → BsOut w v2 (ls.take k) → Calls Tryd.prog 18 #[v1, v2] w fun e w' => e = .returned (.bool true) ∧ Below w.heap.size w w' := fun v1 v2 w f1 f2 => by
          have := SS.out k v1 v2 w f1 f2
          simp only [decide_true] at this
          exact this
        have SK := Lib.hid hSS
        have hkc : (k : Int) ≤ (c : Int) := by omega
        have hki : (k : Int) ≤ (n : Int) := by omega
        clear hSS
        by_cases hlt : k < n
        · have hkl : k < ls.length := by rw [HN.out]; exact hlt
          obtain ⟨b, off, rfl, ha⟩ := HX.out (by intro e; rw [e] at hkl; exact absurd hkl (Nat.not_lt_zero _))
          have hp0 := List.getElem?_eq_getElem hkl
          obtain ⟨u, hu, hou⟩ := ha k _ hp0
          have htk : fSz (ls.take (k + 1)) = fSz (ls.take k) + ((ls[k]).length + 6 + 0) := by rw [List.take_add_one, hp0]; exact fSz_app _ _
          generalize ls[k] = p at *
          obtain ⟨A2, c2, rfl, _, _⟩ := id hou
          obtain ⟨m, hm⟩ : ∃ m, p.length = m := ⟨_, rfl⟩
          rw [hm] at hu htk
          have cu : w8.cell? ⟨b, off + k, none⟩ = some (.slice A2 m c2) := (B8.out.cell (World.block_lt_of_cell? w _ hu)).trans hu
          have hml : q + (m + 6) ≤ 10000 := by
            have := fSz_take ls (k + 1)
            rw [htk, HQ.out, HS.out] at this
            omega
          by_cases h6 : q + m + 6 ≤ en
          · have h6i : (q : Int) + (m : Int) + 6 ≤ (en : Int) := by omega
            have HT := Lib.hid htk
            clear htk hou ha hp0 hkl hm hu
            go_wp2
            go_round
            case rel => exact ⟨k + 1, q + (m + 6), by omega, by omega, by go_num, by go_num, by go_num, Lib.hid (by rw [HT.out, HQ.out])⟩
            case measure => simp [intOf]; omega
          · have h6i : ¬ (q : Int) + (m : Int) + 6 ≤ (en : Int) := by omega
            have hMM := HM.out k q hk HQ.out hq (fun _ => by rw [htk, HQ.out]; omega)
            injection hMM with e1 e2
            subst e1 e2
            clear htk hou ha hp0 hkl hm hu
            go_wp2_with fail
            refine (SK.out _ _ _ L8.out (BsOut.take (O0.out.below B8.out) hk)).mono ?_; rintro _ w9 ⟨rfl, hb9⟩
            go_wp2
            go_ret
            exact ⟨rfl, below_next B8.out hb9⟩
        · obtain rfl : k = n := by omega
          have hMM := HM.out k q hk HQ.out hq (fun h => absurd h hlt)
          injection hMM with e1 e2
          subst e1 e2
          go_wp2_with fail
          refine (SK.out _ _ _ L8.out (BsOut.take (O0.out.below B8.out) hk)).mono ?_; rintro _ w9 ⟨rfl, hb9⟩
          go_wp2
          go_ret
          exact ⟨rfl, below_next B8.out hb9⟩
    · have hz := fJoin_zero hj
      obtain ⟨⟨jl, er⟩, hJ⟩ : ∃ x, fJoin ls = x := ⟨_, rfl⟩
      rw [hJ] at hj hz PJ RJ
      have hj2 : ¬ er = 0 := hj
      have hz2 : jl = [] := hz
      subst hz2
      have S1 := fun v1 v2 w f1 f2 => CR.same_c v1 v2 [] [] (Nat.zero_le _) (Nat.zero_le _) w f1 f2
      rw [decide_eq_true rfl] at S1
      have H1 := Lib.hid S1
      clear hj hz hJ S1
      go_wp2_with fail
      refine (PJ.out _ (HG.out.below B1.out) (O0.out.below B1.out)).mono ?_; rintro _ w3 ⟨v3, rfl, hn3, hb3⟩
      have P3 := Lib.hid hn3.out; have B3 := Lib.hid (below_next B1.out hb3)
      clear hn3 hb3
      go_wp2_with fail
      refine (RJ.out _ (O0.out.below B3.out)).mono ?_; rintro _ w4 ⟨v4, rfl, hn4, hb4⟩
      have R4 := Lib.hid hn4.out; have P4 := Lib.hid (P3.out.below hb4); have B4 := Lib.hid (below_next B3.out hb4)
      clear hn4 hb4
      go_wp2_with fail
      refine (H1.out _ _ _ P4.out R4.out).mono ?_; rintro _ w5 ⟨rfl, hb5⟩
      have P5 := Lib.hid (P4.out.below hb5); have B5 := Lib.hid (below_next B4.out hb5)
      clear hb5
      obtain ⟨A3, c3, hv3, hc3, _⟩ := id P5.out
      subst hv3
      go_wp2
      go_ret
      exact ⟨rfl, B5.out⟩
end Go.Proofs.YthkplnljfknphaaDoor.FW
