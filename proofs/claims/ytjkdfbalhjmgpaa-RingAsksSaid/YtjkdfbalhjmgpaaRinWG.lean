/-
  Walks of the statements of layer 13: what a ring answers.
-/
import Derived.Test.YtjkdfbalhjmgpaaRinWB
import Derived.Test.YtjkdfbalhjmgpaaRinRA
import Derived.Test.YtjkdfbalhjmgpaaRinRB
import Derived.Test.YtjkdfbalhjmgpaaRinRF
import Derived.Test.YtjkdfbalhjmgpaaRinRG
import Derived.Deep.RegionHeld3
set_option linter.unusedSimpArgs false
set_option linter.unusedVariables false
namespace Go.Proofs.Ytjkdfbalhjmgpaa.IW
open Go.RowKit IP
theorem newL_len (s n : Int) : (newL s n).length ≤ 400 := by
  unfold newL
  split
  · rename_i h
    obtain ⟨-, -, m3, m4⟩ := rMay_iff.1 h
    unfold rNew
    rw [List.length_replicate]; omega
  · exact Nat.zero_le _
theorem live_len {s : Int} {l S : List (Int × Int)} (h : rLive s l S) : S.length ≤ l.length := by
  cases hr : rRight s l with
  | false => rw [h.no hr]; exact Nat.zero_le _
  | true => rw [(h.yes hr).1.length_eq]; unfold rFull; exact List.length_filter_le _ _
theorem held8 {w w' : World} {a b c d : Nat} {x0 x1 y0 y1 z0 z1 u0 u1 : Value} (hb : Below w.heap.size w w')
    (h : w.cell? ⟨a, 0, none⟩ = some x0 ∧ w.cell? ⟨a, 1, none⟩ = some x1 ∧ w.cell? ⟨b, 0, none⟩ = some y0 ∧ w.cell? ⟨b, 1, none⟩ = some y1 ∧ w.cell? ⟨c, 0, none⟩ = some z0 ∧ w.cell? ⟨c, 1, none⟩ = some z1 ∧ w.cell? ⟨d, 0, none⟩ = some u0 ∧ w.cell? ⟨d, 1, none⟩ = some u1) :
    w'.cell? ⟨a, 0, none⟩ = some x0 ∧ w'.cell? ⟨a, 1, none⟩ = some x1 ∧ w'.cell? ⟨b, 0, none⟩ = some y0 ∧ w'.cell? ⟨b, 1, none⟩ = some y1 ∧ w'.cell? ⟨c, 0, none⟩ = some z0 ∧ w'.cell? ⟨c, 1, none⟩ = some z1 ∧ w'.cell? ⟨d, 0, none⟩ = some u0 ∧ w'.cell? ⟨d, 1, none⟩ = some u1 := by
  obtain ⟨h0, h1, h2, h3, h4, h5, h6, h7⟩ := h
  exact ⟨cellb hb h0, cellb hb h1, cellb hb h2, cellb hb h3, cellb hb h4, cellb hb h5, cellb hb h6, cellb hb h7⟩
theorem slots_self (a b : Value) (M : List (Int × Int)) (h1 : M.length ≤ 100000) (W : World) (f1 : RgOut W a M) (f2 : RgOut W b M) :
    Calls Try.prog 21 #[a, b] W fun e w' => e = .returned (.bool true) ∧ Below W.heap.size W w' :=
  (IR.sameSlots_c a b M M h1 h1 W f1 f2).mono (by rintro e w' ⟨rfl, h⟩; exact ⟨by simp, h⟩)
theorem nuC_two (o : Option Int) : ∃ (b : Bool) (z : Int), (nuC o).toArray = #[.bool b, .int .i64 z] := by
  cases o with
  | none => exact ⟨_, _, rfl⟩
  | some v => exact ⟨_, _, rfl⟩
set_option maxRecDepth 100000 in
set_option maxHeartbeats 8000000 in
theorem ringAsks_c (s t m : Int) (v : Value) (l : List (Int × Int)) (w : World) (o : RgOut w v l) :
    Calls Try.prog 3 #[.agg #[.int .i64 s, v], .int .i64 t, .int .i64 m] w fun e w' => e = .returned (.bool true) ∧ Below w.heap.size w w' := by
  obtain ⟨A, c, rfl, hc, -⟩ := id o
  obtain ⟨n, hn⟩ : ∃ n, l.length = n := ⟨_, rfl⟩
  have CP := fun (hl : l.length ≤ 100000) (W : World) (h : Below w.heap.size w W) => IR.copy_c s (.slice A l.length c) l hl W (o.below h)
  have OUT := fun (W : World) (h : Below w.heap.size w W) => o.below h
  have ALP := fun (hl : l.length ≤ 100000) (u : Value) (W : World) (h : RgOut W u l) => align_c s t u l (by omega) W h
  have ALR := fun (hl : l.length ≤ 100000) (u : Value) (W : World) (h : RgOut W u l) => IR.align_c s t u l (by omega) W h
  have RIP := fun (hl : l.length ≤ 100000) (u : Value) (W : World) (h : RgOut W u l) => right_c s u l (by omega) W h
  have RIR := fun (hl : l.length ≤ 100000) (u : Value) (W : World) (h : RgOut W u l) => IR.right_c s u l (by omega) W h
  have GEP := fun (hl : l.length ≤ 100000) (u : Value) (W : World) (h : RgOut W u l) => get_c s t u l (by omega) W h
  have GER := fun (hl : l.length ≤ 100000) (u : Value) (W : World) (h : RgOut W u l) => IR.get_c s t u l (by omega) W h
  have LIP := fun (hl : l.length ≤ 100000) (u : Value) (W : World) (h : RgOut W u l) => live_c s u l (by omega) W h
  have LIR := fun (hl : l.length ≤ 100000) (u : Value) (W : World) (h : RgOut W u l) => IR.live_c s u l (by omega) W h
  have SMO := fun (hl : l.length ≤ 100000) (a b : Value) (W : World) (f1 : RgOut W a l) (f2 : RgOut W b l) => same_self s a b l hl W f1 f2
  have NEP := fun (W : World) => new_c s m W
  have NER := fun (W : World) => IR.new_c s m W
  have SMN := fun (a b : Value) (W : World) (f1 : RgOut W a (newL s m)) (f2 : RgOut W b (newL s m)) => same_self (newS s m) a b (newL s m) (by have := newL_len s m; omega) W f1 f2
  obtain ⟨gb, gz, hG⟩ := nuC_two (rGet s l t)
  rw [hG] at GEP GER
  obtain ⟨aa, haa⟩ : ∃ aa, (if rRight s l = true ∧ rTm t = true then rAt s t else 0) = aa := ⟨_, rfl⟩
  obtain ⟨ee, hee⟩ : ∃ ee : Int, (if rRight s l = true ∧ rTm t = true then 0 else 1) = ee := ⟨_, rfl⟩
  rw [haa, hee] at ALP ALR
  obtain ⟨rr, hrr⟩ : ∃ rr, rRight s l = rr := ⟨_, rfl⟩
  rw [hrr] at RIP RIR
  obtain ⟨L, hL⟩ : ∃ L, newL s m = L := ⟨_, rfl⟩
  obtain ⟨s', hs'⟩ : ∃ s', newS s m = s' := ⟨_, rfl⟩
  obtain ⟨e', he'⟩ : ∃ e', newE s m = e' := ⟨_, rfl⟩
  rw [hL, hs', he'] at NEP NER
  rw [hL, hs'] at SMN
  obtain ⟨n', hn'⟩ : ∃ n', L.length = n' := ⟨_, rfl⟩
  rw [hn'] at NEP NER
  rw [hn] at CP OUT ALP ALR RIP RIR GEP GER LIP LIR SMO ⊢
  obtain ⟨k0, k1, -, -⟩ := two_new w (.int .i64 s) (.slice A n c) 24
  obtain ⟨wp, hwp⟩ : ∃ wp, w.alloc (.cells #[.int .i64 s, .slice A n c] 24) = wp := ⟨_, rfl⟩
  have hbp := alloc_below w (.cells #[.int .i64 s, .slice A n c] 24)
  rw [hwp] at k0 k1 hbp
  have HWP := Lib.hid hwp; have KP := Lib.hid hbp
  have CP := Lib.hid CP; have OUT := Lib.hid OUT; have ALP := Lib.hid ALP; have ALR := Lib.hid ALR; have RIP := Lib.hid RIP; have RIR := Lib.hid RIR; have GEP := Lib.hid GEP; have GER := Lib.hid GER; have LIP := Lib.hid LIP; have LIR := Lib.hid LIR; have SMO := Lib.hid SMO; have NEP := Lib.hid NEP; have NER := Lib.hid NER; have SMN := Lib.hid SMN
  have HN := Lib.hid hn; have HN' := Lib.hid hn'
  have AL := Lib.hid (alive_c wp)
  have GR := Lib.hid (great_c s A n c)
  clear hn hn' hwp hbp o hG haa hee hrr hL hs' he'
  go_enter Try.func3, Try.ntmps3
  go_wp2_with fail
  rw [HWP.out]
  refine AL.out.mono ?_; rintro _ w1 ⟨rfl, hb1⟩
  have k0 := cellb hb1 k0; have k1 := cellb hb1 k1
  have B1 := Lib.hid (bnext KP.out hb1)
  clear hb1
  go_wp2_with fail
  refine (GR.out _).mono ?_; rintro _ w2 ⟨rfl, hb2⟩
  have k0 := cellb hb2 k0; have k1 := cellb hb2 k1
  have B2 := Lib.hid (bnext B1.out hb2)
  clear hb2
  by_cases hg : 1000 < n
  · rw [decide_eq_true hg]
    go_wp2_with fail
    go_ret
    exact ⟨rfl, B2.out⟩
  · rw [decide_eq_false hg]
    have CP2 := Lib.hid (CP.out (by omega) w2 B2.out)
    go_wp2_with fail
    refine CP2.out.mono ?_; rintro _ w3 ⟨A3, c3, rfl, h3, hb3⟩
    have k0 := cellb hb3 k0; have k1 := cellb hb3 k1
    obtain ⟨⟨q0, q1⟩, hb4⟩ := ring_new w3 s A3 n c3
    obtain ⟨w4, hw4⟩ : ∃ w4, w3.alloc (.cells #[.int .i64 s, .slice A3 n c3] 24) = w4 := ⟨_, rfl⟩
    rw [hw4] at q0 q1 hb4
    have k0 := cellb hb4 k0; have k1 := cellb hb4 k1
    have HW4 := Lib.hid hw4
    have B4 := Lib.hid (bnext (bnext B2.out hb3) hb4)
    have OWN4 := Lib.hid (h3.out.below hb4)
    have AL2 := Lib.hid (ALP.out (by omega) _ w4 OWN4.out)
    clear hb3 hb4 h3 hw4
    go_wp2_with fail
    rw [HW4.out]
    refine AL2.out.mono ?_; rintro _ w5 ⟨rfl, hb5⟩
    have k0 := cellb hb5 k0; have k1 := cellb hb5 k1; have q0 := cellb hb5 q0; have q1 := cellb hb5 q1
    have B5 := Lib.hid (bnext B4.out hb5)
    have OWN5 := Lib.hid (OWN4.out.below hb5)
    have AR2 := Lib.hid (ALR.out (by omega) _ w5 (OUT.out _ B5.out))
    clear hb5
    go_wp2_with fail
    refine AR2.out.mono ?_; rintro _ w6 ⟨rfl, hb6⟩
    have k0 := cellb hb6 k0; have k1 := cellb hb6 k1; have q0 := cellb hb6 q0; have q1 := cellb hb6 q1
    have B6 := Lib.hid (bnext B5.out hb6)
    have OWN6 := Lib.hid (OWN5.out.below hb6)
    clear hb6
    go_wp2_with fail
    refine (NEP.out w6).mono ?_; rintro _ w7 ⟨A7, c7, rfl, h7, hb7⟩
    have k0 := cellb hb7 k0; have k1 := cellb hb7 k1; have q0 := cellb hb7 q0; have q1 := cellb hb7 q1
    have j0 := cellb (alloc_below w7 (.cells #[.int .i64 s', .slice A7 n' c7] 24)) k0
    have j1 := cellb (alloc_below w7 (.cells #[.int .i64 s', .slice A7 n' c7] 24)) k1
    obtain ⟨⟨y0, y1⟩, hb8⟩ := ring_new w7 s' A7 n' c7
    obtain ⟨w8, hw8⟩ : ∃ w8, w7.alloc (.cells #[.int .i64 s', .slice A7 n' c7] 24) = w8 := ⟨_, rfl⟩
    rw [hw8] at y0 y1 hb8
    have k0 := cellb hb8 k0; have k1 := cellb hb8 k1; have q0 := cellb hb8 q0; have q1 := cellb hb8 q1
    have HW8 := Lib.hid hw8
    have B8 := Lib.hid (bnext (bnext B6.out hb7) hb8)
    have OWN8 := Lib.hid (OWN6.out.below (bnext hb7 hb8))
    have NEW8 := Lib.hid (h7.out.below hb8)
    clear hb7 hb8 h7 hw8
    go_wp2_with fail
    rw [HW8.out]
    clear j0 j1
    refine (NER.out w8).mono ?_; rintro _ w9 ⟨A9, c9, rfl, h9, hb9⟩
    have k0 := cellb hb9 k0; have k1 := cellb hb9 k1; have q0 := cellb hb9 q0; have q1 := cellb hb9 q1; have y0 := cellb hb9 y0; have y1 := cellb hb9 y1
    obtain ⟨⟨z0, z1⟩, hb10⟩ := ring_new w9 s' A9 n' c9
    obtain ⟨w10, hw10⟩ : ∃ w10, w9.alloc (.cells #[.int .i64 s', .slice A9 n' c9] 24) = w10 := ⟨_, rfl⟩
    rw [hw10] at z0 z1 hb10
    have k0 := cellb hb10 k0; have k1 := cellb hb10 k1; have q0 := cellb hb10 q0; have q1 := cellb hb10 q1; have y0 := cellb hb10 y0; have y1 := cellb hb10 y1
    have HW10 := Lib.hid hw10
    have B10 := Lib.hid (bnext (bnext B8.out hb9) hb10)
    have OWN10 := Lib.hid (OWN8.out.below (bnext hb9 hb10))
    have NEW10 := Lib.hid (NEW8.out.below (bnext hb9 hb10))
    have REF10 := Lib.hid (h9.out.below hb10)
    have IN10 := Lib.hid (OUT.out w10 B10.out)
    have H10 := Lib.hid (show w10.cell? ⟨w.heap.size, 0, none⟩ = some (.int .i64 s) ∧ w10.cell? ⟨w.heap.size, 1, none⟩ = some (.slice A n c) ∧ w10.cell? ⟨w3.heap.size, 0, none⟩ = some (.int .i64 s) ∧ w10.cell? ⟨w3.heap.size, 1, none⟩ = some (.slice A3 n c3) ∧ w10.cell? ⟨w7.heap.size, 0, none⟩ = some (.int .i64 s') ∧ w10.cell? ⟨w7.heap.size, 1, none⟩ = some (.slice A7 n' c7) ∧ w10.cell? ⟨w9.heap.size, 0, none⟩ = some (.int .i64 s') ∧ w10.cell? ⟨w9.heap.size, 1, none⟩ = some (.slice A9 n' c9) from ⟨k0, k1, q0, q1, y0, y1, z0, z1⟩)
    have hn1 : n ≤ 100000 := by omega
    have HG := Lib.hid hn1
    have C16 := Lib.hid (fun (W : World) (h : Below w10.heap.size w10 W) => RIP.out hn1 _ W (OWN10.out.below h))
    have C17 := Lib.hid (fun (W : World) (h : Below w10.heap.size w10 W) => RIR.out hn1 _ W (IN10.out.below h))
    have C18 := Lib.hid (fun (W : World) (h : Below w10.heap.size w10 W) => GEP.out hn1 _ W (OWN10.out.below h))
    have C19 := Lib.hid (fun (W : World) (h : Below w10.heap.size w10 W) => GER.out hn1 _ W (IN10.out.below h))
    have C20 := Lib.hid (fun (W : World) (h : Below w10.heap.size w10 W) => SMN.out _ _ W (NEW10.out.below h) (REF10.out.below h))
    have C22 := Lib.hid (fun (W : World) (h : Below w10.heap.size w10 W) => LIP.out hn1 _ W (OWN10.out.below h))
    have C23 := Lib.hid (fun (W : World) (h : Below w10.heap.size w10 W) => LIR.out hn1 _ W (IN10.out.below h))
    have C24 := Lib.hid (fun (W : World) (h : Below w10.heap.size w10 W) => SMO.out hn1 _ _ W (OWN10.out.below h) (IN10.out.below h))
    clear hb9 hb10 h9 hw10 k0 k1 q0 q1 y0 y1 z0 z1 hn1 hg
    go_wp2_with fail
    rw [HW10.out]
    go_region_held3 (fun y => y.cell? ⟨w.heap.size, 0, none⟩ = some (.int .i64 s) ∧ y.cell? ⟨w.heap.size, 1, none⟩ = some (.slice A n c) ∧ y.cell? ⟨w3.heap.size, 0, none⟩ = some (.int .i64 s) ∧ y.cell? ⟨w3.heap.size, 1, none⟩ = some (.slice A3 n c3) ∧ y.cell? ⟨w7.heap.size, 0, none⟩ = some (.int .i64 s') ∧ y.cell? ⟨w7.heap.size, 1, none⟩ = some (.slice A7 n' c7) ∧ y.cell? ⟨w9.heap.size, 0, none⟩ = some (.int .i64 s') ∧ y.cell? ⟨w9.heap.size, 1, none⟩ = some (.slice A9 n' c9))
      (first | (exact held8 (Below.refl _ _).drew H10.out) | (exact held8 T19 H10.out) | (exact held8 T18 H10.out) | (exact held8 T17 H10.out) | (exact held8 T16 H10.out) | (exact held8 T15 H10.out) | (exact held8 T14 H10.out) | (exact held8 T13 H10.out) | (exact held8 T12 H10.out) | (exact held8 T11 H10.out) | go_keep)
      (first
        | (go_at_call 16; refine (C16.out _ (Below.refl _ _).drew).mono ?_; rintro e w11 ⟨rfl, hb11⟩; have T11 := bnext (Below.refl w10.heap.size w10).drew hb11)
        | (go_at_call 17; refine (C17.out _ T11).mono ?_; rintro e w12 ⟨rfl, hb12⟩; have T12 := bnext T11 hb12)
        | (go_at_call 18; refine (C18.out _ T12).mono ?_; rintro e w13 ⟨rfl, hb13⟩; have T13 := bnext T12 hb13)
        | (go_at_call 19; refine (C19.out _ T13).mono ?_; rintro e w14 ⟨rfl, hb14⟩; have T14 := bnext T13 hb14)
        | (go_at_call 20; with_reducible refine (C20.out _ T14).mono ?_; rintro e w15 ⟨rfl, hb15⟩; have T15 := bnext T14 hb15)
        | (go_at_call 22; refine (C22.out _ T15).mono ?_; rintro e w16 ⟨v1, S1, rfl, o1, l1, hb16⟩; have T16 := bnext T15 hb16; have O1 := Lib.hid o1; have L1 := Lib.hid l1; clear o1 l1)
        | (go_at_call 23; refine (C23.out _ T16).mono ?_; rintro e w17 ⟨v2, S2, rfl, o2, l2, hb17⟩; have T17 := bnext T16 hb17; have O1 := Lib.hid (O1.out.below hb17); have O2 := Lib.hid o2; have EQ := Lib.hid (rLive_one L1.out l2); clear o2 l2)
        | (go_at_call 21; refine (slots_self v1 v2 S1 (by have := live_len L1.out; have := HN.out; have := HG.out; omega) w17 O1.out (by rw [EQ.out]; exact O2.out)).mono ?_; rintro e w18 ⟨rfl, hb18⟩; have T18 := bnext T17 hb18)
        | (go_at_call 20; with_reducible refine (C24.out _ T18).mono ?_; rintro e w19 ⟨rfl, hb19⟩; have T19 := bnext T18 hb19)
        | fail)
    go_wp2
    go_ret
    exact ⟨by simp, bnext B10.out T19⟩
end Go.Proofs.Ytjkdfbalhjmgpaa.IW
