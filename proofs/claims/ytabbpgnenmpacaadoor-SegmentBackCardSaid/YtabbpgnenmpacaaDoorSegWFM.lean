/-
  The statements of layer 8, walked: bytes that are scanned.
-/
import Derived.Test.YtabbpgnenmpacaaDoorSegWBM
import Derived.Test.YtabbpgnenmpacaaDoorSegPQM
import Derived.Test.YtabbpgnenmpacaaDoorSegSnM
import Derived.Test.YtabbpgnenmpacaaDoorSegRefDM
import Derived.Test.YtabbpgnenmpacaaDoorFrmBigM
set_option linter.unusedSimpArgs false
set_option linter.unusedVariables false
namespace Go.Proofs.YtabbpgnenmpacaaDoor.SW
open Go Go.RowKit
open CR (below_next own_ge)
open SP (rc_plain)
theorem rTake_ok {l : List Nat} (hb : Bytes l) : Bytes (rTake l).1.path ∧ (rTake l).1.rungs.length ≤ 100000 := by
  rw [SP.rTake_read]
  split
  · exact SP.rRead_ok hb
  · exact ⟨fun _ h => (by cases h), Nat.zero_le _⟩
theorem sOne_ok {b : List Nat} (hb : Bytes b) : Bytes (sOne b).1.path ∧ (sOne b).1.rungs.length ≤ 100000 := by
  unfold sOne
  split
  · exact rTake_ok (SP.fTake_bytes hb)
  · exact ⟨fun _ h => (by cases h), Nat.zero_le _⟩
theorem sCutK_ok : ∀ (k : Nat) (b : List Nat), Bytes b → (∀ p ∈ (sCutK k b).1, Bytes p.path ∧ p.rungs.length ≤ 100000) ∧ (sCutK k b).1.length ≤ k
  | 0, b, hb => ⟨fun p h => (by cases h), Nat.le_refl _⟩
  | k + 1, b, hb => by
    have ih := sCutK_ok k (b.drop (sOne b).2.1) (hb.drops _)
    unfold sCutK
    split
    · refine ⟨fun p h => ?_, by simp only [List.length_cons]; omega⟩
      rcases List.mem_cons.1 h with rfl | h
      · exact sOne_ok hb
      · exact ih.1 p h
    · exact ⟨fun p h => (by cases h), Nat.zero_le _⟩
theorem sScan_ok {b : List Nat} (hb : Bytes b) : (Bytes (sScan b).1.path ∧ (sScan b).1.rungs.length ≤ 100000) ∧ (∀ p ∈ (sScan b).2.1, Bytes p.path ∧ p.rungs.length ≤ 100000) ∧ (sScan b).2.1.length ≤ b.length := by
  unfold sScan
  split
  · have h := sCutK_ok (b.drop (sOne b).2.1).length (b.drop (sOne b).2.1) (hb.drops _)
    refine ⟨sOne_ok hb, h.1, Nat.le_trans h.2 (by rw [List.length_drop]; omega)⟩
  · exact ⟨⟨fun _ h => (by cases h), Nat.zero_le _⟩, fun p h => (by cases h), Nat.zero_le _⟩
/-- What a record in memory is, as a value. -/
theorem rco_form {w : World} {v : Value} {r : PR} (h : RcOut w v r) : ∃ A c, v = .agg #[.int .i64 r.kind, .string (strB r.path), .int .i64 r.method, .int .i64 r.factor, .slice A r.rungs.length c, .int .i64 r.rung, .int .i64 r.time, .int .i64 r.now, .int .i64 r.value] ∧ RgOut w (.slice A r.rungs.length c) r.rungs := by
  obtain ⟨u, rfl, hu⟩ := h
  obtain ⟨A, c, rfl, _⟩ := id hu
  exact ⟨A, c, rfl, hu⟩
set_option maxRecDepth 100000 in
set_option maxHeartbeats 10000000 in
theorem segmentScans_c (v : Value) (l : List Nat) (hl : l.length ≤ 140737488351232) (hb : Bytes l) (w : World) (hG : G w) (g : ByOut w v l) :
    Calls Tryd.prog 4 #[v] w fun e w' => e = .returned (.bool true) ∧ Below w.heap.size w w' := by
  have HG := Lib.hid hG
  have O0 := Lib.hid g
  have AL := Lib.hid alive_c
  have hok := sScan_ok hb
  by_cases hlt : l.length ≤ 5000
  · have CC := Lib.hid (fun w h => CR.copy_big v l hl w h 0 (Nat.zero_le _))
    have SPP := Lib.hid (fun v W k h => SP.scan_c v l hb (by omega) W k h)
    have SRR := Lib.hid (fun W h => SR.scan_c v l hb (by omega) W h)
    have S3 := fun v1 v2 w f1 f2 => CR.same_big v1 v2 l l hl hl w f1 f2
    have S1 := fun va vb w fa fb => SR.same_c va vb (sScan l).1 (sScan l).1 hok.1.1 hok.1.1 hok.1.2 hok.1.2 w fa fb
    have S2 := fun va vb w fa fb => SR.sameList_c va vb (sScan l).2.1 (sScan l).2.1 (by omega) (by omega) hok.2.1 hok.2.1 w fa fb
    rw [decide_eq_true rfl] at S3 S1 S2
    have H3 := Lib.hid S3; have H1 := Lib.hid S1; have H2 := Lib.hid S2
    obtain ⟨⟨r, q, z, x⟩, hT⟩ : ∃ x, sScan l = x := ⟨_, rfl⟩
    rw [hT] at SPP SRR H1 H2
    obtain ⟨A, c, rfl, _, _⟩ := g
    obtain ⟨n, hn⟩ : ∃ n, l.length = n := ⟨_, rfl⟩
    rw [hn] at O0 CC SRR hlt ⊢
    have hli : (n : Int) ≤ 5000 := by omega
    have hmk : ∀ (W : World) (A : Option Addr) (c : Nat), RgOut W (.slice A r.rungs.length c) r.rungs → RcOut W (.agg #[.int .i64 r.kind, .string (strB r.path), .int .i64 r.method, .int .i64 r.factor, .slice A r.rungs.length c, .int .i64 r.rung, .int .i64 r.time, .int .i64 r.now, .int .i64 r.value]) r := fun W A c h => rc_mk h
    have hfm : ∀ (W : World) (v : Value), RcOut W v r → ∃ A c, v = .agg #[.int .i64 r.kind, .string (strB r.path), .int .i64 r.method, .int .i64 r.factor, .slice A r.rungs.length c, .int .i64 r.rung, .int .i64 r.time, .int .i64 r.now, .int .i64 r.value] ∧ RgOut W (.slice A r.rungs.length c) r.rungs := fun W v h => rco_form h
    obtain ⟨nr, hnr⟩ : ∃ n, r.rungs.length = n := ⟨_, rfl⟩
    rw [hnr] at hmk hfm
    have HMK := Lib.hid hmk; have HFM := Lib.hid hfm
    have HV := Lib.hid (fun (W : World) => DVar.alloc (w := W) ([.int .i64 0, .string ⟨#[]⟩, .int .i64 0, .int .i64 0, .slice none 0 0, .int .i64 0, .int .i64 0, .int .i64 0, .int .i64 0] : List Value).toArray 24)
    have hxx : (x == x) = true := beq_self_eq_true _
    have hzz : ((z : Int) == (z : Int)) = true := beq_self_eq_true _
    clear hT hok S1 S2 S3 hmk hfm hn hl hb hnr hG
    go_enter Tryd.func4, Tryd.ntmps4
    go_wp2_with fail
    refine (AL.out _).mono ?_; rintro _ w1 ⟨rfl, hb1⟩
    have B1 := Lib.hid hb1
    clear hb1
    go_wp2_with fail
    refine (CC.out _ (O0.out.below B1.out)).mono ?_; rintro _ w2 ⟨v2, rfl, hn2, hb2⟩
    have OW2 := Lib.hid hn2.out; have B2 := Lib.hid (below_next B1.out hb2)
    clear hn2 hb2
    go_wp2_with fail
    refine (SPP.out _ _ (HG.out.below B2.out) OW2.out).mono ?_; rintro _ w3 ⟨v3, q3, rfl, hr3, hq3, hb3⟩
    obtain ⟨A3, c3, rfl, ho3⟩ := HFM.out _ _ hr3
    have R3 := Lib.hid ho3; have Q3 := Lib.hid hq3; have OW3 := Lib.hid (OW2.out.below hb3); have B3 := Lib.hid (below_next B2.out hb3)
    clear hr3 hb3 ho3 hq3
    go_wp2_with (refine wpList_put rfl 24 _ _ rfl w3.heap.size [.int .i64 r.kind, .string (strB r.path), .int .i64 r.method, .int .i64 r.factor, .slice A3 nr c3, .int .i64 r.rung, .int .i64 r.time, .int .i64 r.now, .int .i64 r.value] rfl rfl (HV.out w3) (by kernel_rfl) (by simp [Value.oneCell']) ?_; intro w4 hp4; have H4 := Lib.hid hp4.at_; have BP4 := Lib.hid (var_put hp4); clear hp4)
    have B4 := Lib.hid (below_next B3.out BP4.out); have OW4 := Lib.hid (OW3.out.below BP4.out); have R4 := Lib.hid (R3.out.below BP4.out); have Q4 := Lib.hid (Q3.out.below BP4.out)
    refine (SRR.out _ (O0.out.below B4.out)).mono ?_; rintro _ w5 ⟨v5, q5, rfl, hr5, hq5, hb5⟩
    obtain ⟨A5, c5, rfl, ho5⟩ := HFM.out _ _ hr5
    have R5 := Lib.hid ho5; have Q5 := Lib.hid hq5; have R45 := Lib.hid (R4.out.below hb5); have Q45 := Lib.hid (Q4.out.below hb5); have H5 := Lib.hid (H4.out.below hb5 : Holds w5 w3.heap.size _); have OW5 := Lib.hid (OW4.out.below hb5); have B5 := Lib.hid (below_next B4.out hb5)
    clear hr5 hb5 ho5 hq5
    go_wp2_with (refine wpList_put rfl 24 _ _ rfl w5.heap.size [.int .i64 r.kind, .string (strB r.path), .int .i64 r.method, .int .i64 r.factor, .slice A5 nr c5, .int .i64 r.rung, .int .i64 r.time, .int .i64 r.now, .int .i64 r.value] rfl rfl (HV.out w5) (by kernel_rfl) (by simp [Value.oneCell']) ?_; intro w6 hp6; have BP6 := Lib.hid (var_put hp6); obtain ⟨x0, x1, x2, x3, x4, x5, x6, x7, x8⟩ := Holds.nine hp6.at_; obtain ⟨y0, y1, y2, y3, y4, y5, y6, y7, y8⟩ := Holds.nine (H5.out.below BP6.out : Holds w6 w3.heap.size _); clear hp6)
    have B6 := Lib.hid (below_next B5.out BP6.out); have OW6 := Lib.hid (OW5.out.below BP6.out); have R46 := Lib.hid (R45.out.below BP6.out); have R56 := Lib.hid (R5.out.below BP6.out); have Q46 := Lib.hid (Q45.out.below BP6.out); have Q56 := Lib.hid (Q5.out.below BP6.out)
    refine (H1.out _ _ _ (HMK.out _ _ _ R46.out) (HMK.out _ _ _ R56.out)).mono ?_; rintro _ w7 ⟨rfl, hb7⟩
    have B7 := Lib.hid (below_next B6.out hb7); have OW7 := Lib.hid (OW6.out.below hb7); have Q47 := Lib.hid (Q46.out.below hb7); have Q57 := Lib.hid (Q56.out.below hb7)
    clear hb7 x0 x1 x2 x3 x4 x5 x6 x7 x8 y0 y1 y2 y3 y4 y5 y6 y7 y8
    go_wp2_with fail
    refine (H2.out _ _ _ Q47.out Q57.out).mono ?_; rintro _ w8 ⟨rfl, hb8⟩
    have B8 := Lib.hid (below_next B7.out hb8); have OW8 := Lib.hid (OW7.out.below hb8)
    clear hb8
    go_wp2_with fail
    refine (H3.out _ _ _ OW8.out (O0.out.below B8.out)).mono ?_; rintro _ w9 ⟨rfl, hb9⟩
    have B9 := Lib.hid (below_next B8.out hb9)
    clear hb9
    go_wp2
    go_ret
    exact ⟨rfl, B9.out⟩
  · obtain ⟨A, c, rfl, _, _⟩ := g
    obtain ⟨n, hn⟩ : ∃ n, l.length = n := ⟨_, rfl⟩
    rw [hn] at O0 hlt ⊢
    have hli : (5000 : Int) < n := by omega
    clear hn hl hb hG hok
    go_enter Tryd.func4, Tryd.ntmps4
    go_wp2_with fail
    refine (AL.out _).mono ?_; rintro _ w1 ⟨rfl, hb1⟩
    have B1 := Lib.hid hb1
    clear hb1
    go_wp2
    go_ret
    exact ⟨rfl, B1.out⟩
end Go.Proofs.YtabbpgnenmpacaaDoor.SW
