/-
  The statements of layer 6, walked: DiskOne.
-/
import Derived.Test.YtmkjjcogheidmaaDskWC
import Derived.Test.YtmkjjcogheidmaaDskLaws
set_option linter.unusedSimpArgs false
set_option linter.unusedVariables false
namespace Go.Proofs.Ytmkjjcogheidmaa.DW
open Go.RowKit
theorem okDA : okN dA := ⟨by decide, by decide⟩
theorem okDB : okN dB := ⟨by decide, by decide⟩
theorem iO1 : PInv oD1 := PInv.of_eq (PInv.create (PInv.new (by decide)) okDA) oE1
section
variable {a b : List Nat} (ha : Bytes a) (hb : Bytes b) (la : a.length ≤ 400) (lb : b.length ≤ 400)
include ha la
theorem iO2 : PInv (oD2 a) := PInv.of_eq (PInv.append iO1 dA ha) (oE2 la)
theorem iO3 : PInv (oD3 a) := PInv.of_eq (PInv.sync (iO2 ha la) dA) (oE3 a)
theorem iO4 : PInv (oD4 a) := oE4 a ▸ PInv.syncDir (iO3 ha la)
theorem iO5 : PInv (oD5 a) := PInv.of_eq (PInv.create (iO4 ha la) okDB) (oE5 a)
include hb lb
theorem iO6 : PInv (oD6 a b) := PInv.of_eq (PInv.append (iO5 ha la) dB hb) (oE6 la lb)
theorem iO7 : PInv (oD7 a b) := PInv.of_eq (PInv.sync (iO6 ha hb la lb) dB) (oE7 a b)
theorem iO8 : PInv (oD8 a b) := PInv.of_eq (PInv.rename (iO7 ha hb la lb) okDB okDA) (oE8 a b)
theorem iO9 : PInv (oD9 b) := oE9 a b ▸ PInv.syncDir (iO8 ha hb la lb)
end
set_option maxRecDepth 100000 in
set_option maxHeartbeats 4000000 in
theorem diskOne_c {u1 u2 : Value} {a b : List Nat} {w : World} (m : Int) (hm : -9223372036854775808 ≤ m ∧ m ≤ 9223372036854775807) (kp : Bool) (ha : Bytes a) (hb : Bytes b) (h1 : ByOut w u1 a) (h2 : ByOut w u2 b) :
    Calls Try.prog 5 #[.agg #[u1, u2], .int .i64 m, .bool kp] w fun e w' => e = .returned (.bool true) ∧ Below w.heap.size w w' := by
  have AL := Lib.hid alive_c
  obtain ⟨P1, p1, rfl, _, _⟩ := id h1
  obtain ⟨P2, p2, rfl, _, _⟩ := id h2
  have Y1 := Lib.hid h1; have Y2 := Lib.hid h2; have YA := Lib.hid ha; have YB := Lib.hid hb; have YM := Lib.hid hm
  obtain ⟨la, hla⟩ : ∃ n, a.length = n := ⟨_, rfl⟩
  obtain ⟨lb, hlb⟩ : ∃ n, b.length = n := ⟨_, rfl⟩
  have LA := Lib.hid hla; have LB := Lib.hid hlb
  rw [hla] at Y1 ⊢
  rw [hlb] at Y2 ⊢
  obtain ⟨hm0, hm1⟩ := hm
  have zl := fun (w : World) => alloc_below w (.cells #[.int .i64 0, .slice none 0 0, .slice none 0 0, .slice none 0 0, .slice none 0 0, .int .i64 0] 29)
  have ZL := Lib.hid zl
  clear h1 h2 ha hb hla hlb zl
  go_enter Try.func5, Try.ntmps5
  go_wp2_with fail
  have A0 := Lib.hid (alloc_below w (.cells #[.slice P1 la p1, .slice P2 lb p2] 49))
  have g0 := holds_alloc2 w #[.slice P1 la p1, .slice P2 lb p2] 49
  have G0 := Lib.hid g0
  clear g0
  refine (AL.out _).mono ?_; rintro _ w1 ⟨rfl, hb⟩
  have g1 := (G0.out.below hb) 0 _ rfl
  have g2 := (G0.out.below hb) 1 _ rfl
  have E0 := Lib.hid (bnext A0.out hb)
  clear hb AL A0 G0
  go_wp2_with fail
  go_region
  obtain ⟨w2, hw2⟩ : ∃ y, w1.drew = y := ⟨_, rfl⟩
  have E1 := Lib.hid (show Below w.heap.size w w2 from hw2 ▸ E0.out.drew)
  rw [hw2]
  clear hw2 E0 g1 g2
  by_cases hA : la ≤ 400
  · by_cases hB : lb ≤ 400
    · have hAi : ¬ (400 : Int) < (la : Int) := by omega
      have hBi : ¬ (400 : Int) < (lb : Int) := by omega
      have HA : a.length ≤ 400 := by rw [LA.out]; exact hA
      have HB : b.length ≤ 400 := by rw [LB.out]; exact hB
      have KA := Lib.hid HA; have KB := Lib.hid HB
      clear HA HB
      go_wp2_with fail
      refine (DP.new_c (S := fun _ => False) 1000 (by decide) _).mono ?_; rintro _ w3 ⟨v3, rfl, hd, hb⟩
      obtain ⟨q0, Aa0, na0, ca0, Ab0, nb0, cb0, Ac0, nc0, cc0, Ad0, nd0, cd0, x0, rfl⟩ := hd.form
      have LE : w.heap.size ≤ w3.heap.size := (bnext E1.out hb).size
      have D0 := Lib.hid (hd.apart.below (ZL.out w3)); have B0 := Lib.hid (bnext (bnext E1.out hb) (ZL.out w3))
      clear hd hb E1
      go_wp2_with (refine wpList_put rfl 29 _ _ rfl (w3.heap.size) _ rfl rfl (DVar.alloc _ _) (by kernel_rfl) (by simp [Value.oneCell']) ?_; intro y0 hp; obtain ⟨c0, c1, c2, c3, c4, c5⟩ := hp.at_.six)
      obtain ⟨bd, hbd⟩ : ∃ b, w3.heap.size = b := ⟨_, rfl⟩
      have V0 := Lib.hid (show DVar y0 w3.heap.size 6 from hp.var); have E0 := Lib.hid (hp.below LE B0.out); have G0 := Lib.hid (D0.out.keep hp.keep)
      clear hp B0 D0
      rw [hbd] at LE V0 G0 c0 c1 c2 c3 c4 c5 ⊢
      clear hbd
      refine (DP.create_c oE1 okDA ⟨G0.out, PInv.new (by decide), by decide⟩).mono ?_; rintro _ w4 ⟨v4, rfl, hd, hb⟩
      obtain ⟨q1, Aa1, na1, ca1, Ab1, nb1, cb1, Ac1, nc1, cc1, Ad1, nd1, cd1, x1, rfl⟩ := hd.form
      have U1 := Lib.hid (DVar.below hb V0.out); have B1 := Lib.hid (bnext E0.out hb); have D1 := Lib.hid (hd.ne V0.out)
      clear hd hb V0 E0 G0 c0 c1 c2 c3 c4 c5
      go_wp2_with (refine wpList_put rfl 29 _ _ rfl (bd) _ rfl rfl U1.out (by kernel_rfl) (by simp [Value.oneCell']) ?_; intro y1 hp; obtain ⟨c0, c1, c2, c3, c4, c5⟩ := hp.at_.six)
      have V1 := Lib.hid (show DVar y1 bd 6 from hp.var); have E1 := Lib.hid (hp.below LE B1.out); have G1 := Lib.hid (D1.out.keep hp.keep)
      clear hp U1 B1 D1
      refine (DP.append_c (oE2 KA.out) okDA YA.out (by have := KA.out; omega) ⟨G1.out, iO1, by decide⟩ (Y1.out.below E1.out)).mono ?_; rintro _ w5 ⟨v5, rfl, hd, hb⟩
      obtain ⟨q2, Aa2, na2, ca2, Ab2, nb2, cb2, Ac2, nc2, cc2, Ad2, nd2, cd2, x2, rfl⟩ := hd.form
      have U2 := Lib.hid (DVar.below hb V1.out); have B2 := Lib.hid (bnext E1.out hb); have D2 := Lib.hid (hd.ne V1.out)
      clear hd hb V1 E1 G1 c0 c1 c2 c3 c4 c5
      go_wp2_with (refine wpList_put rfl 29 _ _ rfl (bd) _ rfl rfl U2.out (by kernel_rfl) (by simp [Value.oneCell']) ?_; intro y2 hp; obtain ⟨c0, c1, c2, c3, c4, c5⟩ := hp.at_.six)
      have V2 := Lib.hid (show DVar y2 bd 6 from hp.var); have E2 := Lib.hid (hp.below LE B2.out); have G2 := Lib.hid (D2.out.keep hp.keep)
      clear hp U2 B2 D2
      refine (DP.sync_c (oE3 a) okDA ⟨G2.out, iO2 YA.out KA.out, by show 1 ≤ 200; decide⟩).mono ?_; rintro _ w6 ⟨v6, rfl, hd, hb⟩
      obtain ⟨q3, Aa3, na3, ca3, Ab3, nb3, cb3, Ac3, nc3, cc3, Ad3, nd3, cd3, x3, rfl⟩ := hd.form
      have U3 := Lib.hid (DVar.below hb V2.out); have B3 := Lib.hid (bnext E2.out hb); have D3 := Lib.hid (hd.ne V2.out)
      clear hd hb V2 E2 G2 c0 c1 c2 c3 c4 c5
      go_wp2_with (refine wpList_put rfl 29 _ _ rfl (bd) _ rfl rfl U3.out (by kernel_rfl) (by simp [Value.oneCell']) ?_; intro y3 hp; obtain ⟨c0, c1, c2, c3, c4, c5⟩ := hp.at_.six)
      have V3 := Lib.hid (show DVar y3 bd 6 from hp.var); have E3 := Lib.hid (hp.below LE B3.out); have G3 := Lib.hid (D3.out.keep hp.keep)
      clear hp U3 B3 D3
      refine (DP.syncDir_c ⟨G3.out, iO3 YA.out KA.out, by show 1 ≤ 200; decide⟩).mono ?_; rintro _ w7 ⟨v7, rfl, hd, hb⟩
      rw [oE4] at hd
      obtain ⟨q4, Aa4, na4, ca4, Ab4, nb4, cb4, Ac4, nc4, cc4, Ad4, nd4, cd4, x4, rfl⟩ := hd.form
      have U4 := Lib.hid (DVar.below hb V3.out); have B4 := Lib.hid (bnext E3.out hb); have D4 := Lib.hid (hd.ne V3.out)
      clear hd hb V3 E3 G3 c0 c1 c2 c3 c4 c5
      go_wp2_with (refine wpList_put rfl 29 _ _ rfl (bd) _ rfl rfl U4.out (by kernel_rfl) (by simp [Value.oneCell']) ?_; intro y4 hp; obtain ⟨c0, c1, c2, c3, c4, c5⟩ := hp.at_.six)
      have V4 := Lib.hid (show DVar y4 bd 6 from hp.var); have E4 := Lib.hid (hp.below LE B4.out); have G4 := Lib.hid (D4.out.keep hp.keep)
      clear hp U4 B4 D4
      refine (DP.create_c (oE5 a) okDB ⟨G4.out, iO4 YA.out KA.out, by show 0 ≤ 200; decide⟩).mono ?_; rintro _ w8 ⟨v8, rfl, hd, hb⟩
      obtain ⟨q5, Aa5, na5, ca5, Ab5, nb5, cb5, Ac5, nc5, cc5, Ad5, nd5, cd5, x5, rfl⟩ := hd.form
      have U5 := Lib.hid (DVar.below hb V4.out); have B5 := Lib.hid (bnext E4.out hb); have D5 := Lib.hid (hd.ne V4.out)
      clear hd hb V4 E4 G4 c0 c1 c2 c3 c4 c5
      go_wp2_with (refine wpList_put rfl 29 _ _ rfl (bd) _ rfl rfl U5.out (by kernel_rfl) (by simp [Value.oneCell']) ?_; intro y5 hp; obtain ⟨c0, c1, c2, c3, c4, c5⟩ := hp.at_.six)
      have V5 := Lib.hid (show DVar y5 bd 6 from hp.var); have E5 := Lib.hid (hp.below LE B5.out); have G5 := Lib.hid (D5.out.keep hp.keep)
      clear hp U5 B5 D5
      refine (DP.append_c (oE6 KA.out KB.out) okDB YB.out (by have := KB.out; omega) ⟨G5.out, iO5 YA.out KA.out, by show 1 ≤ 200; decide⟩ (Y2.out.below E5.out)).mono ?_; rintro _ w9 ⟨v9, rfl, hd, hb⟩
      obtain ⟨q6, Aa6, na6, ca6, Ab6, nb6, cb6, Ac6, nc6, cc6, Ad6, nd6, cd6, x6, rfl⟩ := hd.form
      have U6 := Lib.hid (DVar.below hb V5.out); have B6 := Lib.hid (bnext E5.out hb); have D6 := Lib.hid (hd.ne V5.out)
      clear hd hb V5 E5 G5 c0 c1 c2 c3 c4 c5
      go_wp2_with (refine wpList_put rfl 29 _ _ rfl (bd) _ rfl rfl U6.out (by kernel_rfl) (by simp [Value.oneCell']) ?_; intro y6 hp; obtain ⟨c0, c1, c2, c3, c4, c5⟩ := hp.at_.six)
      have V6 := Lib.hid (show DVar y6 bd 6 from hp.var); have E6 := Lib.hid (hp.below LE B6.out); have G6 := Lib.hid (D6.out.keep hp.keep)
      clear hp U6 B6 D6
      refine (DP.sync_c (oE7 a b) okDB ⟨G6.out, iO6 YA.out YB.out KA.out KB.out, by show 1 ≤ 200; decide⟩).mono ?_; rintro _ w10 ⟨v10, rfl, hd, hb⟩
      obtain ⟨q7, Aa7, na7, ca7, Ab7, nb7, cb7, Ac7, nc7, cc7, Ad7, nd7, cd7, x7, rfl⟩ := hd.form
      have U7 := Lib.hid (DVar.below hb V6.out); have B7 := Lib.hid (bnext E6.out hb); have D7 := Lib.hid (hd.ne V6.out)
      clear hd hb V6 E6 G6 c0 c1 c2 c3 c4 c5
      go_wp2_with (refine wpList_put rfl 29 _ _ rfl (bd) _ rfl rfl U7.out (by kernel_rfl) (by simp [Value.oneCell']) ?_; intro y7 hp; obtain ⟨c0, c1, c2, c3, c4, c5⟩ := hp.at_.six)
      have V7 := Lib.hid (show DVar y7 bd 6 from hp.var); have E7 := Lib.hid (hp.below LE B7.out); have G7 := Lib.hid (D7.out.keep hp.keep)
      clear hp U7 B7 D7
      by_cases h2 : 2 ≤ m
      · cases kp with
        | true =>
          refine (DP.rename_c (oE8 a b) okDB okDA ⟨G7.out, iO7 YA.out YB.out KA.out KB.out, by show 1 ≤ 200; decide⟩).mono ?_; rintro _ w11 ⟨v11, rfl, hd, hb⟩
          obtain ⟨q8, Aa8, na8, ca8, Ab8, nb8, cb8, Ac8, nc8, cc8, Ad8, nd8, cd8, x8, rfl⟩ := hd.form
          have U8 := Lib.hid (DVar.below hb V7.out); have B8 := Lib.hid (bnext E7.out hb); have D8 := Lib.hid (hd.ne V7.out)
          clear hd hb V7 E7 G7 c0 c1 c2 c3 c4 c5
          go_wp2_with (refine wpList_put rfl 29 _ _ rfl (bd) _ rfl rfl U8.out (by kernel_rfl) (by simp [Value.oneCell']) ?_; intro y8 hp; obtain ⟨c0, c1, c2, c3, c4, c5⟩ := hp.at_.six)
          have V8 := Lib.hid (show DVar y8 bd 6 from hp.var); have E8 := Lib.hid (hp.below LE B8.out); have G8 := Lib.hid (D8.out.keep hp.keep)
          clear hp U8 B8 D8
          refine (DP.syncDir_c ⟨G8.out, iO8 YA.out YB.out KA.out KB.out, by show 2 ≤ 200; decide⟩).mono ?_; rintro _ w12 ⟨v12, rfl, hd, hb⟩
          rw [oE9] at hd
          obtain ⟨q9, Aa9, na9, ca9, Ab9, nb9, cb9, Ac9, nc9, cc9, Ad9, nd9, cd9, x9, rfl⟩ := hd.form
          have U9 := Lib.hid (DVar.below hb V8.out); have B9 := Lib.hid (bnext E8.out hb); have D9 := Lib.hid (hd.ne V8.out)
          clear hd hb V8 E8 G8 c0 c1 c2 c3 c4 c5
          go_wp2_with (refine wpList_put rfl 29 _ _ rfl (bd) _ rfl rfl U9.out (by kernel_rfl) (by simp [Value.oneCell']) ?_; intro y9 hp; obtain ⟨c0, c1, c2, c3, c4, c5⟩ := hp.at_.six)
          have V9 := Lib.hid (show DVar y9 bd 6 from hp.var); have E9 := Lib.hid (hp.below LE B9.out); have G9 := Lib.hid (D9.out.keep hp.keep)
          clear hp U9 B9 D9
          refine (DP.crash_c (k := m) (ks := []) YM.out kok0 ⟨G9.out, iO9 YA.out YB.out KA.out KB.out, by show 0 ≤ 200; decide⟩ SlOut.nil).mono ?_; rintro _ wa ⟨va, rfl, hd, hb⟩
          obtain ⟨q20, Aa20, na20, ca20, Ab20, nb20, cb20, Ac20, nc20, cc20, Ad20, nd20, cd20, x20, rfl⟩ := hd.form
          have BA := Lib.hid (bnext (bnext E9.out hb) (ZL.out wa)); have DA := Lib.hid (hd.apart.below (ZL.out wa)); have LA2 : w.heap.size ≤ wa.heap.size := (bnext E9.out hb).size
          clear hd hb V9 E9 G9 c0 c1 c2 c3 c4 c5
          go_wp2_with (refine wpList_put rfl 29 _ _ rfl (wa.heap.size) _ rfl rfl (DVar.alloc _ _) (by kernel_rfl) (by simp [Value.oneCell']) ?_; intro ya hp; obtain ⟨c0, c1, c2, c3, c4, c5⟩ := hp.at_.six)
          have EA := Lib.hid (hp.below LA2 BA.out); have GA := Lib.hid (DA.out.keep hp.keep)
          clear hp BA DA
          have RD := oR9 b m
          refine (DP.read_c RD okDA ⟨GA.out, PInv.crash (iO9 YA.out YB.out KA.out KB.out) _ _, by show 0 ≤ 200; decide⟩).mono ?_; rintro _ wb ⟨vb, rfl, ho, hb⟩
          have OB := Lib.hid ho; have EB := Lib.hid (bnext EA.out hb)
          clear ho hb EA GA RD c0 c1 c2 c3 c4 c5
          have BS := bySame_c vb (.slice P2 lb p2) b b (by have := KB.out; omega) (by have := KB.out; omega) wb OB.out (Y2.out.below EB.out)
          rw [decide_eq_true rfl] at BS
          have BSH := Lib.hid BS
          clear BS
          go_wp2_with fail
          refine BSH.out.mono ?_; rintro _ wc ⟨rfl, hb⟩
          have EC := Lib.hid (bnext EB.out hb)
          clear hb
          go_wp2
          go_ret
          exact ⟨rfl, EC.out⟩
        | false =>
          refine (DP.rename_c (oE8 a b) okDB okDA ⟨G7.out, iO7 YA.out YB.out KA.out KB.out, by show 1 ≤ 200; decide⟩).mono ?_; rintro _ w11 ⟨v11, rfl, hd, hb⟩
          obtain ⟨q8, Aa8, na8, ca8, Ab8, nb8, cb8, Ac8, nc8, cc8, Ad8, nd8, cd8, x8, rfl⟩ := hd.form
          have U8 := Lib.hid (DVar.below hb V7.out); have B8 := Lib.hid (bnext E7.out hb); have D8 := Lib.hid (hd.ne V7.out)
          clear hd hb V7 E7 G7 c0 c1 c2 c3 c4 c5
          go_wp2_with (refine wpList_put rfl 29 _ _ rfl (bd) _ rfl rfl U8.out (by kernel_rfl) (by simp [Value.oneCell']) ?_; intro y8 hp; obtain ⟨c0, c1, c2, c3, c4, c5⟩ := hp.at_.six)
          have V8 := Lib.hid (show DVar y8 bd 6 from hp.var); have E8 := Lib.hid (hp.below LE B8.out); have G8 := Lib.hid (D8.out.keep hp.keep)
          clear hp U8 B8 D8
          refine (DP.crash_c (k := m) (ks := []) YM.out kok0 ⟨G8.out, iO8 YA.out YB.out KA.out KB.out, by show 2 ≤ 200; decide⟩ SlOut.nil).mono ?_; rintro _ wa ⟨va, rfl, hd, hb⟩
          obtain ⟨q20, Aa20, na20, ca20, Ab20, nb20, cb20, Ac20, nc20, cc20, Ad20, nd20, cd20, x20, rfl⟩ := hd.form
          have BA := Lib.hid (bnext (bnext E8.out hb) (ZL.out wa)); have DA := Lib.hid (hd.apart.below (ZL.out wa)); have LA2 : w.heap.size ≤ wa.heap.size := (bnext E8.out hb).size
          clear hd hb V8 E8 G8 c0 c1 c2 c3 c4 c5
          go_wp2_with (refine wpList_put rfl 29 _ _ rfl (wa.heap.size) _ rfl rfl (DVar.alloc _ _) (by kernel_rfl) (by simp [Value.oneCell']) ?_; intro ya hp; obtain ⟨c0, c1, c2, c3, c4, c5⟩ := hp.at_.six)
          have EA := Lib.hid (hp.below LA2 BA.out); have GA := Lib.hid (DA.out.keep hp.keep)
          clear hp BA DA
          have RD := oR8 a b m
          rw [if_pos h2] at RD
          refine (DP.read_c RD okDA ⟨GA.out, PInv.crash (iO8 YA.out YB.out KA.out KB.out) _ _, by show 0 ≤ 200; decide⟩).mono ?_; rintro _ wb ⟨vb, rfl, ho, hb⟩
          have OB := Lib.hid ho; have EB := Lib.hid (bnext EA.out hb)
          clear ho hb EA GA RD c0 c1 c2 c3 c4 c5
          have BS := bySame_c vb (.slice P2 lb p2) b b (by have := KB.out; omega) (by have := KB.out; omega) wb OB.out (Y2.out.below EB.out)
          rw [decide_eq_true rfl] at BS
          have BSH := Lib.hid BS
          clear BS
          go_wp2_with fail
          refine BSH.out.mono ?_; rintro _ wc ⟨rfl, hb⟩
          have EC := Lib.hid (bnext EB.out hb)
          clear hb
          go_wp2
          go_ret
          exact ⟨rfl, EC.out⟩
      · have h2' : m < 2 := by omega
        cases kp with
        | true =>
          refine (DP.rename_c (oE8 a b) okDB okDA ⟨G7.out, iO7 YA.out YB.out KA.out KB.out, by show 1 ≤ 200; decide⟩).mono ?_; rintro _ w11 ⟨v11, rfl, hd, hb⟩
          obtain ⟨q8, Aa8, na8, ca8, Ab8, nb8, cb8, Ac8, nc8, cc8, Ad8, nd8, cd8, x8, rfl⟩ := hd.form
          have U8 := Lib.hid (DVar.below hb V7.out); have B8 := Lib.hid (bnext E7.out hb); have D8 := Lib.hid (hd.ne V7.out)
          clear hd hb V7 E7 G7 c0 c1 c2 c3 c4 c5
          go_wp2_with (refine wpList_put rfl 29 _ _ rfl (bd) _ rfl rfl U8.out (by kernel_rfl) (by simp [Value.oneCell']) ?_; intro y8 hp; obtain ⟨c0, c1, c2, c3, c4, c5⟩ := hp.at_.six)
          have V8 := Lib.hid (show DVar y8 bd 6 from hp.var); have E8 := Lib.hid (hp.below LE B8.out); have G8 := Lib.hid (D8.out.keep hp.keep)
          clear hp U8 B8 D8
          refine (DP.syncDir_c ⟨G8.out, iO8 YA.out YB.out KA.out KB.out, by show 2 ≤ 200; decide⟩).mono ?_; rintro _ w12 ⟨v12, rfl, hd, hb⟩
          rw [oE9] at hd
          obtain ⟨q9, Aa9, na9, ca9, Ab9, nb9, cb9, Ac9, nc9, cc9, Ad9, nd9, cd9, x9, rfl⟩ := hd.form
          have U9 := Lib.hid (DVar.below hb V8.out); have B9 := Lib.hid (bnext E8.out hb); have D9 := Lib.hid (hd.ne V8.out)
          clear hd hb V8 E8 G8 c0 c1 c2 c3 c4 c5
          go_wp2_with (refine wpList_put rfl 29 _ _ rfl (bd) _ rfl rfl U9.out (by kernel_rfl) (by simp [Value.oneCell']) ?_; intro y9 hp; obtain ⟨c0, c1, c2, c3, c4, c5⟩ := hp.at_.six)
          have V9 := Lib.hid (show DVar y9 bd 6 from hp.var); have E9 := Lib.hid (hp.below LE B9.out); have G9 := Lib.hid (D9.out.keep hp.keep)
          clear hp U9 B9 D9
          refine (DP.crash_c (k := m) (ks := []) YM.out kok0 ⟨G9.out, iO9 YA.out YB.out KA.out KB.out, by show 0 ≤ 200; decide⟩ SlOut.nil).mono ?_; rintro _ wa ⟨va, rfl, hd, hb⟩
          obtain ⟨q20, Aa20, na20, ca20, Ab20, nb20, cb20, Ac20, nc20, cc20, Ad20, nd20, cd20, x20, rfl⟩ := hd.form
          have BA := Lib.hid (bnext (bnext E9.out hb) (ZL.out wa)); have DA := Lib.hid (hd.apart.below (ZL.out wa)); have LA2 : w.heap.size ≤ wa.heap.size := (bnext E9.out hb).size
          clear hd hb V9 E9 G9 c0 c1 c2 c3 c4 c5
          go_wp2_with (refine wpList_put rfl 29 _ _ rfl (wa.heap.size) _ rfl rfl (DVar.alloc _ _) (by kernel_rfl) (by simp [Value.oneCell']) ?_; intro ya hp; obtain ⟨c0, c1, c2, c3, c4, c5⟩ := hp.at_.six)
          have EA := Lib.hid (hp.below LA2 BA.out); have GA := Lib.hid (DA.out.keep hp.keep)
          clear hp BA DA
          have RD := oR9 b m
          refine (DP.read_c RD okDA ⟨GA.out, PInv.crash (iO9 YA.out YB.out KA.out KB.out) _ _, by show 0 ≤ 200; decide⟩).mono ?_; rintro _ wb ⟨vb, rfl, ho, hb⟩
          have OB := Lib.hid ho; have EB := Lib.hid (bnext EA.out hb)
          clear ho hb EA GA RD c0 c1 c2 c3 c4 c5
          have BS := bySame_c vb (.slice P2 lb p2) b b (by have := KB.out; omega) (by have := KB.out; omega) wb OB.out (Y2.out.below EB.out)
          rw [decide_eq_true rfl] at BS
          have BSH := Lib.hid BS
          clear BS
          go_wp2_with fail
          refine BSH.out.mono ?_; rintro _ wc ⟨rfl, hb⟩
          have EC := Lib.hid (bnext EB.out hb)
          clear hb
          go_wp2
          go_ret
          exact ⟨rfl, EC.out⟩
        | false =>
          refine (DP.rename_c (oE8 a b) okDB okDA ⟨G7.out, iO7 YA.out YB.out KA.out KB.out, by show 1 ≤ 200; decide⟩).mono ?_; rintro _ w11 ⟨v11, rfl, hd, hb⟩
          obtain ⟨q8, Aa8, na8, ca8, Ab8, nb8, cb8, Ac8, nc8, cc8, Ad8, nd8, cd8, x8, rfl⟩ := hd.form
          have U8 := Lib.hid (DVar.below hb V7.out); have B8 := Lib.hid (bnext E7.out hb); have D8 := Lib.hid (hd.ne V7.out)
          clear hd hb V7 E7 G7 c0 c1 c2 c3 c4 c5
          go_wp2_with (refine wpList_put rfl 29 _ _ rfl (bd) _ rfl rfl U8.out (by kernel_rfl) (by simp [Value.oneCell']) ?_; intro y8 hp; obtain ⟨c0, c1, c2, c3, c4, c5⟩ := hp.at_.six)
          have V8 := Lib.hid (show DVar y8 bd 6 from hp.var); have E8 := Lib.hid (hp.below LE B8.out); have G8 := Lib.hid (D8.out.keep hp.keep)
          clear hp U8 B8 D8
          refine (DP.crash_c (k := m) (ks := []) YM.out kok0 ⟨G8.out, iO8 YA.out YB.out KA.out KB.out, by show 2 ≤ 200; decide⟩ SlOut.nil).mono ?_; rintro _ wa ⟨va, rfl, hd, hb⟩
          obtain ⟨q20, Aa20, na20, ca20, Ab20, nb20, cb20, Ac20, nc20, cc20, Ad20, nd20, cd20, x20, rfl⟩ := hd.form
          have BA := Lib.hid (bnext (bnext E8.out hb) (ZL.out wa)); have DA := Lib.hid (hd.apart.below (ZL.out wa)); have LA2 : w.heap.size ≤ wa.heap.size := (bnext E8.out hb).size
          clear hd hb V8 E8 G8 c0 c1 c2 c3 c4 c5
          go_wp2_with (refine wpList_put rfl 29 _ _ rfl (wa.heap.size) _ rfl rfl (DVar.alloc _ _) (by kernel_rfl) (by simp [Value.oneCell']) ?_; intro ya hp; obtain ⟨c0, c1, c2, c3, c4, c5⟩ := hp.at_.six)
          have EA := Lib.hid (hp.below LA2 BA.out); have GA := Lib.hid (DA.out.keep hp.keep)
          clear hp BA DA
          have RD := oR8 a b m
          rw [if_neg (by omega)] at RD
          refine (DP.read_c RD okDA ⟨GA.out, PInv.crash (iO8 YA.out YB.out KA.out KB.out) _ _, by show 0 ≤ 200; decide⟩).mono ?_; rintro _ wb ⟨vb, rfl, ho, hb⟩
          have OB := Lib.hid ho; have EB := Lib.hid (bnext EA.out hb)
          clear ho hb EA GA RD c0 c1 c2 c3 c4 c5
          have BS := bySame_c vb (.slice P1 la p1) a a (by have := KA.out; omega) (by have := KA.out; omega) wb OB.out (Y1.out.below EB.out)
          rw [decide_eq_true rfl] at BS
          have BSH := Lib.hid BS
          clear BS
          go_wp2_with fail
          refine BSH.out.mono ?_; rintro _ wc ⟨rfl, hb⟩
          have EC := Lib.hid (bnext EB.out hb)
          clear hb
          go_wp2
          go_ret
          exact ⟨rfl, EC.out⟩
    · have hAi : ¬ (400 : Int) < (la : Int) := by omega
      have hBi : (400 : Int) < (lb : Int) := by omega
      go_wp2
      go_ret
      exact ⟨rfl, E1.out⟩
  · have hAi : (400 : Int) < (la : Int) := by omega
    go_wp2
    go_ret
    exact ⟨rfl, E1.out⟩
end Go.Proofs.Ytmkjjcogheidmaa.DW
