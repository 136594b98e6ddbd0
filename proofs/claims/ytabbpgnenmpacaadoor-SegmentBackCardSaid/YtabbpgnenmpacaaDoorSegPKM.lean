/-
  Contracts of the program's functions of layer 8: read, of any bytes.
-/
import Derived.Test.YtabbpgnenmpacaaDoorSegPHM
set_option linter.unusedSimpArgs false
set_option linter.unusedVariables false
namespace Go.Proofs.YtabbpgnenmpacaaDoor.SP
open Go.RowKit
open CR (below_next own_ge u8_wrap)
set_option maxRecDepth 100000 in
set_option maxHeartbeats 1500000 in
theorem read_other (v : Value) (l : List Nat) (hb : Bytes l) (hl : l.length ≤ 9223372036854775807) (w : World) (ho : ByOut w v l) (hk : ¬ (l.headD 0 = 1 ∨ l.headD 0 = 2 ∨ l.headD 0 = 3)) :
    Calls Tryd.prog 38 #[v] w fun e w' => ∃ v', e = .returned v' ∧ RcNew w.heap.size w' v' (rRead l) ∧ Below w.heap.size w w' := by
  have WH := Lib.hid (fun (W : World) (q : List Nat) (k : Nat) (hk : k ≤ 8) (hq : Bytes q) (hql : q.length ≤ 9223372036854775807) (hr : RdSt W (w.heap.size + 1) q) => whole_c (w.heap.size + 1) q hq hql k hk W hr)
  have NB := Lib.hid (fun (W : World) (q : List Nat) (k : Nat) (hk : k ≤ 8) (hq : Bytes q) (hql : q.length ≤ 9223372036854775807) (hr : RdSt W (w.heap.size + 1) q) => number_c (w.heap.size + 1) q hq hql k hk W hr)
  have RHD := Lib.hid (fun (W : World) (q : List Nat) (hq : Bytes q) (hql : q.length ≤ 9223372036854775807) (hr : RdSt W (w.heap.size + 1) q) => readHead_c (w.heap.size + 1) q hq hql W hr)
  have hbd : ∀ k, Bytes (l.drop k) := fun k => hb.drops k
  have hld : ∀ k, (l.drop k).length ≤ 9223372036854775807 := fun k => by rw [List.length_drop]; omega
  obtain ⟨K, hK⟩ : ∃ K, l.headD 0 = K := ⟨_, rfl⟩
  rw [hK] at hk
  have K9 := Lib.hid hk
  have q1 : ((K : Int) == 1) = false := beq_false_of_ne (by omega)
  have q2 : ((K : Int) == 2) = false := beq_false_of_ne (by omega)
  have q3 : ((K : Int) == 3) = false := beq_false_of_ne (by omega)
  have hK2 : K < 256 := by
    rw [← hK, ← nOf_one]
    exact Nat.lt_of_lt_of_le (nOf_lt 1 l hb) (by decide)
  have hk1 : i64 (nOf 1 l) = (K : Int) := by rw [nOf_one, hK]; exact i64_small (by omega)
  obtain ⟨T, hT⟩ : ∃ T, rRead l = T := ⟨_, rfl⟩
  rw [hT]
  obtain ⟨A, c, hv, _, _⟩ := id ho
  obtain ⟨n, hn⟩ : ∃ n, l.length = n := ⟨_, rfl⟩
  rw [hn] at hv
  subst hv
  have HL := Lib.hid hl; have HB := Lib.hid hb; have HBD := Lib.hid hbd; have HLD := Lib.hid hld; have HK1 := Lib.hid hk1; have HO := Lib.hid ho; have HT := Lib.hid hT; have HKK := Lib.hid hK
  have HHD := Lib.hid (show ∀ k, (l.drop k).headD 0 < 9223372036854775808 from fun k => by
    rw [← nOf_one]
    exact Nat.lt_of_lt_of_le (nOf_lt 1 _ (hbd k)) (by decide))
  have WR := Lib.hid (show ∀ q : List Nat, Bytes q → IntKind.i64.wrap ((nOf 8 q : Nat) : Int) = i64 (nOf 8 q) from fun q hq => by
    have hN : nOf 8 q < 18446744073709551616 := Nat.lt_of_lt_of_le (nOf_lt 8 q hq) (by decide)
    generalize nOf 8 q = N at *
    rw [IntKind.wrap_i64]
    unfold i64
    split <;> omega)
  have HV := Lib.hid (fun (W : World) => DVar.alloc (w := W) ([.int .i64 0, .string ByteArray.empty, .int .i64 0, .int .i64 0, .slice none 0 0, .int .i64 0, .int .i64 0, .int .i64 0, .int .i64 0] : List Value).toArray 24)
  clear hl hb hbd hld hk1 ho hT hn hK hk
  go_enter Tryd.func38, Tryd.ntmps38
  go_wp2_with fail
  have HR1 := RdSt.first (C0 := #[.int .i64 0, .string ByteArray.empty, .int .i64 0, .int .i64 0, .slice none 0 0, .int .i64 0, .int .i64 0, .int .i64 0, .int .i64 0]) (t := 24) (t2 := 64) HO.out
  refine (WH.out _ _ 1 (by decide) HB.out HL.out HR1).mono ?_; rintro _ w2 ⟨rfl, hr2, hg2⟩
  rw [HK1.out]
  have HR2 := Lib.hid hr2; have HG2 := Lib.hid hg2
  clear hr2 hg2 HR1
  have HS := Lib.hid (fun (w3 : World) (cs : List Value) (h2 : cs.length = 9) (hp : Put (w2.alloc (.cells ([.int .i64 0, .string ByteArray.empty, .int .i64 0, .int .i64 0, .slice none 0 0, .int .i64 0, .int .i64 0, .int .i64 0, .int .i64 0] : List Value).toArray 24)) w3 w2.heap.size cs) => rs_start (w := w) (C0 := [.int .i64 0, .string ByteArray.empty, .int .i64 0, .int .i64 0, .slice none 0 0, .int .i64 0, .int .i64 0, .int .i64 0, .int .i64 0]) (C2 := [.int .i64 0, .string ByteArray.empty, .int .i64 0, .int .i64 0, .slice none 0 0, .int .i64 0, .int .i64 0, .int .i64 0, .int .i64 0]) HR2.out HG2.out rfl h2 hp)
  clear HR2 HG2
  go_wp2_with (refine wpList_put rfl 24 _ _ rfl w2.heap.size [.int .i64 (K : Nat), .string ByteArray.empty, .int .i64 0, .int .i64 0, .slice none 0 0, .int .i64 0, .int .i64 0, .int .i64 0, .int .i64 0] rfl rfl (HV.out w2) (by kernel_rfl) (by simp [Value.oneCell']) ?_; intro w3 hp3; have h3 := HS.out _ _ rfl hp3; have p0 := h3.bx 0 _ rfl; have H3 := Lib.hid h3; clear h3 hp3)
  refine (NB.out _ _ 8 (by decide) (HBD.out 1) (HLD.out 1) H3.out.rd).mono ?_; rintro _ w20 ⟨rfl, hr20, hg20⟩
  have h20 := H3.out.read hr20 hg20
  have hwv : IntKind.i64.wrap ((nOf 8 (l.drop 1) : Nat) : Int) = i64 (nOf 8 (l.drop 1)) := WR.out _ (HBD.out 1)
  obtain ⟨vv, hvv⟩ : ∃ x, i64 (nOf 8 (l.drop 1)) = x := ⟨_, rfl⟩
  rw [hvv] at hwv
  obtain ⟨N8, hN8⟩ : ∃ x, nOf 8 (l.drop 1) = x := ⟨_, rfl⟩
  rw [hN8] at hwv ⊢
  have q8 := h20.dv.f 8 (by decide)
  have h21 := h20.set 8 (by decide) (.int .i64 vv)
  obtain ⟨r0, r1, r2, r3, r4, r5, r6, r7, r8⟩ := Holds.nine h20.bx
  have HB21 := Lib.hid h21.below; have HD21 := Lib.hid h21.d0; have HR21 := Lib.hid h21.hR
  have HTT := Lib.hid (show T = ⟨(K : Nat), [], 0, 0, [], 0, 0, 0, vv⟩ from HT.out.symm.trans (rRead_other HKK.out K9.out hvv))
  clear hr20 hg20 h20 h21 hvv hN8
  go_wp2_with (refine wpList_put rfl 24 _ _ rfl w.heap.size [.int .i64 (K : Nat), .string ByteArray.empty, .int .i64 0, .int .i64 0, .slice none 0 0, .int .i64 0, .int .i64 0, .int .i64 0, .int .i64 vv] rfl rfl HD21.out (by kernel_rfl) (by simp [Value.oneCell']) ?_; intro w22 hp22; obtain ⟨y0, y1, y2, y3, y4, y5, y6, y7, y8⟩ := Holds.nine hp22.at_; have B22 := Lib.hid (hp22.below (Nat.le_refl _) HB21.out); clear hp22)
  refine bodyPost_ret (v := .agg #[.int .i64 (K : Nat), .string ByteArray.empty, .int .i64 0, .int .i64 0, .slice none 0 0, .int .i64 0, .int .i64 0, .int .i64 0, .int .i64 vv]) (by simp [results, Tryd.results38, go_sem, y0, y1, y2, y3, y4, y5, y6, y7, y8]) rfl ⟨_, rfl, ?_, B22.out⟩
  rw [HTT.out]
  exact rc_plain _ _ _ _ _ _ _
end Go.Proofs.YtabbpgnenmpacaaDoor.SP
/-
  Contracts of the program's functions of layer 8: read, of a point.
-/
set_option linter.unusedSimpArgs false
set_option linter.unusedVariables false
namespace Go.Proofs.YtabbpgnenmpacaaDoor.SP
open Go.RowKit
open CR (below_next own_ge u8_wrap)
set_option maxRecDepth 100000 in
set_option maxHeartbeats 1500000 in
theorem read_two (v : Value) (l : List Nat) (hb : Bytes l) (hl : l.length ≤ 9223372036854775807) (w : World) (ho : ByOut w v l) (hk : l.headD 0 = 2) :
    Calls Tryd.prog 38 #[v] w fun e w' => ∃ v', e = .returned v' ∧ RcNew w.heap.size w' v' (rRead l) ∧ Below w.heap.size w w' := by
  have WH := Lib.hid (fun (W : World) (q : List Nat) (k : Nat) (hk : k ≤ 8) (hq : Bytes q) (hql : q.length ≤ 9223372036854775807) (hr : RdSt W (w.heap.size + 1) q) => whole_c (w.heap.size + 1) q hq hql k hk W hr)
  have NB := Lib.hid (fun (W : World) (q : List Nat) (k : Nat) (hk : k ≤ 8) (hq : Bytes q) (hql : q.length ≤ 9223372036854775807) (hr : RdSt W (w.heap.size + 1) q) => number_c (w.heap.size + 1) q hq hql k hk W hr)
  have RHD := Lib.hid (fun (W : World) (q : List Nat) (hq : Bytes q) (hql : q.length ≤ 9223372036854775807) (hr : RdSt W (w.heap.size + 1) q) => readHead_c (w.heap.size + 1) q hq hql W hr)
  have hbd : ∀ k, Bytes (l.drop k) := fun k => hb.drops k
  have hld : ∀ k, (l.drop k).length ≤ 9223372036854775807 := fun k => by rw [List.length_drop]; omega
  obtain ⟨K, hK⟩ : ∃ K, l.headD 0 = K := ⟨_, rfl⟩
  rw [hK] at hk
  have K2 := Lib.hid hk
  have q1 : ((K : Int) == 1) = false := beq_false_of_ne (by omega)
  have q2 : ((K : Int) == 2) = true := by rw [hk]; rfl
  have hK2 : K < 256 := by
    rw [← hK, ← nOf_one]
    exact Nat.lt_of_lt_of_le (nOf_lt 1 l hb) (by decide)
  have hk1 : i64 (nOf 1 l) = (K : Int) := by rw [nOf_one, hK]; exact i64_small (by omega)
  obtain ⟨T, hT⟩ : ∃ T, rRead l = T := ⟨_, rfl⟩
  rw [hT]
  obtain ⟨A, c, hv, _, _⟩ := id ho
  obtain ⟨n, hn⟩ : ∃ n, l.length = n := ⟨_, rfl⟩
  rw [hn] at hv
  subst hv
  have HL := Lib.hid hl; have HB := Lib.hid hb; have HBD := Lib.hid hbd; have HLD := Lib.hid hld; have HK1 := Lib.hid hk1; have HO := Lib.hid ho; have HT := Lib.hid hT; have HKK := Lib.hid hK
  have HHD := Lib.hid (show ∀ k, (l.drop k).headD 0 < 9223372036854775808 from fun k => by
    rw [← nOf_one]
    exact Nat.lt_of_lt_of_le (nOf_lt 1 _ (hbd k)) (by decide))
  have WR := Lib.hid (show ∀ q : List Nat, Bytes q → IntKind.i64.wrap ((nOf 8 q : Nat) : Int) = i64 (nOf 8 q) from fun q hq => by
    have hN : nOf 8 q < 18446744073709551616 := Nat.lt_of_lt_of_le (nOf_lt 8 q hq) (by decide)
    generalize nOf 8 q = N at *
    rw [IntKind.wrap_i64]
    unfold i64
    split <;> omega)
  have HV := Lib.hid (fun (W : World) => DVar.alloc (w := W) ([.int .i64 0, .string ByteArray.empty, .int .i64 0, .int .i64 0, .slice none 0 0, .int .i64 0, .int .i64 0, .int .i64 0, .int .i64 0] : List Value).toArray 24)
  clear hl hb hbd hld hk1 ho hT hn hK hk
  go_enter Tryd.func38, Tryd.ntmps38
  go_wp2_with fail
  have HR1 := RdSt.first (C0 := #[.int .i64 0, .string ByteArray.empty, .int .i64 0, .int .i64 0, .slice none 0 0, .int .i64 0, .int .i64 0, .int .i64 0, .int .i64 0]) (t := 24) (t2 := 64) HO.out
  refine (WH.out _ _ 1 (by decide) HB.out HL.out HR1).mono ?_; rintro _ w2 ⟨rfl, hr2, hg2⟩
  rw [HK1.out]
  have HR2 := Lib.hid hr2; have HG2 := Lib.hid hg2
  clear hr2 hg2 HR1
  have HS := Lib.hid (fun (w3 : World) (cs : List Value) (h2 : cs.length = 9) (hp : Put (w2.alloc (.cells ([.int .i64 0, .string ByteArray.empty, .int .i64 0, .int .i64 0, .slice none 0 0, .int .i64 0, .int .i64 0, .int .i64 0, .int .i64 0] : List Value).toArray 24)) w3 w2.heap.size cs) => rs_start (w := w) (C0 := [.int .i64 0, .string ByteArray.empty, .int .i64 0, .int .i64 0, .slice none 0 0, .int .i64 0, .int .i64 0, .int .i64 0, .int .i64 0]) (C2 := [.int .i64 0, .string ByteArray.empty, .int .i64 0, .int .i64 0, .slice none 0 0, .int .i64 0, .int .i64 0, .int .i64 0, .int .i64 0]) HR2.out HG2.out rfl h2 hp)
  clear HR2 HG2
  go_wp2_with (refine wpList_put rfl 24 _ _ rfl w2.heap.size [.int .i64 (K : Nat), .string ByteArray.empty, .int .i64 0, .int .i64 0, .slice none 0 0, .int .i64 0, .int .i64 0, .int .i64 0, .int .i64 0] rfl rfl (HV.out w2) (by kernel_rfl) (by simp [Value.oneCell']) ?_; intro w3 hp3; have h3 := HS.out _ _ rfl hp3; have p0 := h3.bx 0 _ rfl; have H3 := Lib.hid h3; clear h3 hp3)
  refine (WH.out _ _ 8 (by decide) (HBD.out 1) (HLD.out 1) H3.out.rd).mono ?_; rintro _ w4 ⟨rfl, hrw4, hgw4⟩
  have hw4 := H3.out.read hrw4 hgw4
  rw [List.drop_drop] at hw4
  obtain ⟨t, ht⟩ : ∃ x, i64 (nOf 8 (l.drop 1)) = x := ⟨_, rfl⟩
  rw [ht]
  have pw4 := hw4.bx 6 _ rfl
  have qw4 := hw4.dv.f 6 (by decide)
  have h5 := hw4.set 6 (by decide) (.int .i64 t)
  clear hrw4 hgw4 hw4
  go_wp2_with fail
  refine (WH.out _ _ 8 (by decide) (HBD.out 9) (HLD.out 9) h5.rd).mono ?_; rintro _ w6 ⟨rfl, hrw6, hgw6⟩
  have hw6 := h5.read hrw6 hgw6
  rw [List.drop_drop] at hw6
  obtain ⟨nw, hnw⟩ : ∃ x, i64 (nOf 8 (l.drop 9)) = x := ⟨_, rfl⟩
  rw [hnw]
  have pw6 := hw6.bx 7 _ rfl
  have qw6 := hw6.dv.f 7 (by decide)
  have h7 := hw6.set 7 (by decide) (.int .i64 nw)
  clear hrw6 hgw6 hw6
  go_wp2_with fail
  refine (NB.out _ _ 8 (by decide) (HBD.out 17) (HLD.out 17) h7.rd).mono ?_; rintro _ w20 ⟨rfl, hr20, hg20⟩
  have h20 := h7.read hr20 hg20
  have hwv : IntKind.i64.wrap ((nOf 8 (l.drop 17) : Nat) : Int) = i64 (nOf 8 (l.drop 17)) := WR.out _ (HBD.out 17)
  obtain ⟨vv, hvv⟩ : ∃ x, i64 (nOf 8 (l.drop 17)) = x := ⟨_, rfl⟩
  rw [hvv] at hwv
  have p8x := True.intro
  have q8 := h20.dv.f 8 (by decide)
  have h21 := h20.set 8 (by decide) (.int .i64 vv)
  obtain ⟨r0, r1, r2, r3, r4, r5, r6, r7, r8⟩ := Holds.nine h20.bx
  have HB21 := Lib.hid h21.below; have HD21 := Lib.hid h21.d0; have HR21 := Lib.hid h21.hR
  have HTT := Lib.hid (show T = ⟨(K : Nat), [], 0, 0, [], 0, t, nw, vv⟩ from HT.out.symm.trans (rRead_two HKK.out K2.out ht hnw hvv))
  clear hr20 hg20 h20 h21 hvv
  go_wp2_with (refine wpList_put rfl 24 _ _ rfl w.heap.size [.int .i64 (K : Nat), .string ByteArray.empty, .int .i64 0, .int .i64 0, .slice none 0 0, .int .i64 0, .int .i64 t, .int .i64 nw, .int .i64 vv] rfl rfl HD21.out (by kernel_rfl) (by simp [Value.oneCell']) ?_; intro w22 hp22; obtain ⟨y0, y1, y2, y3, y4, y5, y6, y7, y8⟩ := Holds.nine hp22.at_; have B22 := Lib.hid (hp22.below (Nat.le_refl _) HB21.out); clear hp22)
  refine bodyPost_ret (v := .agg #[.int .i64 (K : Nat), .string ByteArray.empty, .int .i64 0, .int .i64 0, .slice none 0 0, .int .i64 0, .int .i64 t, .int .i64 nw, .int .i64 vv]) (by simp [results, Tryd.results38, go_sem, y0, y1, y2, y3, y4, y5, y6, y7, y8]) rfl ⟨_, rfl, ?_, B22.out⟩
  rw [HTT.out]
  exact rc_plain _ _ _ _ _ _ _
set_option maxRecDepth 100000 in
set_option maxHeartbeats 1500000 in
theorem read_three (v : Value) (l : List Nat) (hb : Bytes l) (hl : l.length ≤ 9223372036854775807) (w : World) (ho : ByOut w v l) (hk : l.headD 0 = 3) :
    Calls Tryd.prog 38 #[v] w fun e w' => ∃ v', e = .returned v' ∧ RcNew w.heap.size w' v' (rRead l) ∧ Below w.heap.size w w' := by
  have WH := Lib.hid (fun (W : World) (q : List Nat) (k : Nat) (hk : k ≤ 8) (hq : Bytes q) (hql : q.length ≤ 9223372036854775807) (hr : RdSt W (w.heap.size + 1) q) => whole_c (w.heap.size + 1) q hq hql k hk W hr)
  have NB := Lib.hid (fun (W : World) (q : List Nat) (k : Nat) (hk : k ≤ 8) (hq : Bytes q) (hql : q.length ≤ 9223372036854775807) (hr : RdSt W (w.heap.size + 1) q) => number_c (w.heap.size + 1) q hq hql k hk W hr)
  have RHD := Lib.hid (fun (W : World) (q : List Nat) (hq : Bytes q) (hql : q.length ≤ 9223372036854775807) (hr : RdSt W (w.heap.size + 1) q) => readHead_c (w.heap.size + 1) q hq hql W hr)
  have hbd : ∀ k, Bytes (l.drop k) := fun k => hb.drops k
  have hld : ∀ k, (l.drop k).length ≤ 9223372036854775807 := fun k => by rw [List.length_drop]; omega
  obtain ⟨K, hK⟩ : ∃ K, l.headD 0 = K := ⟨_, rfl⟩
  rw [hK] at hk
  have K3 := Lib.hid hk
  have q1 : ((K : Int) == 1) = false := beq_false_of_ne (by omega)
  have q2 : ((K : Int) == 2) = false := beq_false_of_ne (by omega)
  have q3 : ((K : Int) == 3) = true := by rw [hk]; rfl
  have hK2 : K < 256 := by
    rw [← hK, ← nOf_one]
    exact Nat.lt_of_lt_of_le (nOf_lt 1 l hb) (by decide)
  have hk1 : i64 (nOf 1 l) = (K : Int) := by rw [nOf_one, hK]; exact i64_small (by omega)
  obtain ⟨T, hT⟩ : ∃ T, rRead l = T := ⟨_, rfl⟩
  rw [hT]
  obtain ⟨A, c, hv, _, _⟩ := id ho
  obtain ⟨n, hn⟩ : ∃ n, l.length = n := ⟨_, rfl⟩
  rw [hn] at hv
  subst hv
  have HL := Lib.hid hl; have HB := Lib.hid hb; have HBD := Lib.hid hbd; have HLD := Lib.hid hld; have HK1 := Lib.hid hk1; have HO := Lib.hid ho; have HT := Lib.hid hT; have HKK := Lib.hid hK
  have HHD := Lib.hid (show ∀ k, (l.drop k).headD 0 < 9223372036854775808 from fun k => by
    rw [← nOf_one]
    exact Nat.lt_of_lt_of_le (nOf_lt 1 _ (hbd k)) (by decide))
  have WR := Lib.hid (show ∀ q : List Nat, Bytes q → IntKind.i64.wrap ((nOf 8 q : Nat) : Int) = i64 (nOf 8 q) from fun q hq => by
    have hN : nOf 8 q < 18446744073709551616 := Nat.lt_of_lt_of_le (nOf_lt 8 q hq) (by decide)
    generalize nOf 8 q = N at *
    rw [IntKind.wrap_i64]
    unfold i64
    split <;> omega)
  have HV := Lib.hid (fun (W : World) => DVar.alloc (w := W) ([.int .i64 0, .string ByteArray.empty, .int .i64 0, .int .i64 0, .slice none 0 0, .int .i64 0, .int .i64 0, .int .i64 0, .int .i64 0] : List Value).toArray 24)
  clear hl hb hbd hld hk1 ho hT hn hK hk
  go_enter Tryd.func38, Tryd.ntmps38
  go_wp2_with fail
  have HR1 := RdSt.first (C0 := #[.int .i64 0, .string ByteArray.empty, .int .i64 0, .int .i64 0, .slice none 0 0, .int .i64 0, .int .i64 0, .int .i64 0, .int .i64 0]) (t := 24) (t2 := 64) HO.out
  refine (WH.out _ _ 1 (by decide) HB.out HL.out HR1).mono ?_; rintro _ w2 ⟨rfl, hr2, hg2⟩
  rw [HK1.out]
  have HR2 := Lib.hid hr2; have HG2 := Lib.hid hg2
  clear hr2 hg2 HR1
  have HS := Lib.hid (fun (w3 : World) (cs : List Value) (h2 : cs.length = 9) (hp : Put (w2.alloc (.cells ([.int .i64 0, .string ByteArray.empty, .int .i64 0, .int .i64 0, .slice none 0 0, .int .i64 0, .int .i64 0, .int .i64 0, .int .i64 0] : List Value).toArray 24)) w3 w2.heap.size cs) => rs_start (w := w) (C0 := [.int .i64 0, .string ByteArray.empty, .int .i64 0, .int .i64 0, .slice none 0 0, .int .i64 0, .int .i64 0, .int .i64 0, .int .i64 0]) (C2 := [.int .i64 0, .string ByteArray.empty, .int .i64 0, .int .i64 0, .slice none 0 0, .int .i64 0, .int .i64 0, .int .i64 0, .int .i64 0]) HR2.out HG2.out rfl h2 hp)
  clear HR2 HG2
  go_wp2_with (refine wpList_put rfl 24 _ _ rfl w2.heap.size [.int .i64 (K : Nat), .string ByteArray.empty, .int .i64 0, .int .i64 0, .slice none 0 0, .int .i64 0, .int .i64 0, .int .i64 0, .int .i64 0] rfl rfl (HV.out w2) (by kernel_rfl) (by simp [Value.oneCell']) ?_; intro w3 hp3; have h3 := HS.out _ _ rfl hp3; have p0 := h3.bx 0 _ rfl; have H3 := Lib.hid h3; clear h3 hp3)
  refine (WH.out _ _ 1 (by decide) (HBD.out 1) (HLD.out 1) H3.out.rd).mono ?_; rintro _ w4 ⟨rfl, hrw4, hgw4⟩
  have hw4 := H3.out.read hrw4 hgw4
  rw [List.drop_drop] at hw4
  obtain ⟨g, hg⟩ : ∃ x, i64 (nOf 1 (l.drop 1)) = x := ⟨_, rfl⟩
  rw [hg]
  have pw4 := hw4.bx 5 _ rfl
  have qw4 := hw4.dv.f 5 (by decide)
  have h5 := hw4.set 5 (by decide) (.int .i64 g)
  clear hrw4 hgw4 hw4
  go_wp2_with fail
  refine (WH.out _ _ 8 (by decide) (HBD.out 2) (HLD.out 2) h5.rd).mono ?_; rintro _ w6 ⟨rfl, hrw6, hgw6⟩
  have hw6 := h5.read hrw6 hgw6
  rw [List.drop_drop] at hw6
  obtain ⟨t, ht⟩ : ∃ x, i64 (nOf 8 (l.drop 2)) = x := ⟨_, rfl⟩
  rw [ht]
  have pw6 := hw6.bx 6 _ rfl
  have qw6 := hw6.dv.f 6 (by decide)
  have h7 := hw6.set 6 (by decide) (.int .i64 t)
  clear hrw6 hgw6 hw6
  go_wp2_with fail
  refine (NB.out _ _ 8 (by decide) (HBD.out 10) (HLD.out 10) h7.rd).mono ?_; rintro _ w20 ⟨rfl, hr20, hg20⟩
  have h20 := h7.read hr20 hg20
  have hwv : IntKind.i64.wrap ((nOf 8 (l.drop 10) : Nat) : Int) = i64 (nOf 8 (l.drop 10)) := WR.out _ (HBD.out 10)
  obtain ⟨vv, hvv⟩ : ∃ x, i64 (nOf 8 (l.drop 10)) = x := ⟨_, rfl⟩
  rw [hvv] at hwv
  have p8x := True.intro
  have q8 := h20.dv.f 8 (by decide)
  have h21 := h20.set 8 (by decide) (.int .i64 vv)
  obtain ⟨r0, r1, r2, r3, r4, r5, r6, r7, r8⟩ := Holds.nine h20.bx
  have HB21 := Lib.hid h21.below; have HD21 := Lib.hid h21.d0; have HR21 := Lib.hid h21.hR
  have HTT := Lib.hid (show T = ⟨(K : Nat), [], 0, 0, [], g, t, 0, vv⟩ from HT.out.symm.trans (rRead_three HKK.out K3.out hg (HHD.out 1) ht hvv))
  clear hr20 hg20 h20 h21 hvv
  go_wp2_with (refine wpList_put rfl 24 _ _ rfl w.heap.size [.int .i64 (K : Nat), .string ByteArray.empty, .int .i64 0, .int .i64 0, .slice none 0 0, .int .i64 g, .int .i64 t, .int .i64 0, .int .i64 vv] rfl rfl HD21.out (by kernel_rfl) (by simp [Value.oneCell']) ?_; intro w22 hp22; obtain ⟨y0, y1, y2, y3, y4, y5, y6, y7, y8⟩ := Holds.nine hp22.at_; have B22 := Lib.hid (hp22.below (Nat.le_refl _) HB21.out); clear hp22)
  refine bodyPost_ret (v := .agg #[.int .i64 (K : Nat), .string ByteArray.empty, .int .i64 0, .int .i64 0, .slice none 0 0, .int .i64 g, .int .i64 t, .int .i64 0, .int .i64 vv]) (by simp [results, Tryd.results38, go_sem, y0, y1, y2, y3, y4, y5, y6, y7, y8]) rfl ⟨_, rfl, ?_, B22.out⟩
  rw [HTT.out]
  exact rc_plain _ _ _ _ _ _ _
end Go.Proofs.YtabbpgnenmpacaaDoor.SP
/-
  Contracts of the program's functions of layer 8: read, of a head.
-/
set_option linter.unusedSimpArgs false
set_option linter.unusedVariables false
namespace Go.Proofs.YtabbpgnenmpacaaDoor.SP
open Go.RowKit
open CR (below_next own_ge u8_wrap)
set_option maxRecDepth 100000 in
set_option maxHeartbeats 1500000 in
theorem read_one (v : Value) (l : List Nat) (hb : Bytes l) (hl : l.length ≤ 9223372036854775807) (w : World) (ho : ByOut w v l) (hk : l.headD 0 = 1) :
    Calls Tryd.prog 38 #[v] w fun e w' => ∃ v', e = .returned v' ∧ RcNew w.heap.size w' v' (rRead l) ∧ Below w.heap.size w w' := by
  have WH := Lib.hid (fun (W : World) (q : List Nat) (k : Nat) (hk : k ≤ 8) (hq : Bytes q) (hql : q.length ≤ 9223372036854775807) (hr : RdSt W (w.heap.size + 1) q) => whole_c (w.heap.size + 1) q hq hql k hk W hr)
  have NB := Lib.hid (fun (W : World) (q : List Nat) (k : Nat) (hk : k ≤ 8) (hq : Bytes q) (hql : q.length ≤ 9223372036854775807) (hr : RdSt W (w.heap.size + 1) q) => number_c (w.heap.size + 1) q hq hql k hk W hr)
  have RHD := Lib.hid (fun (W : World) (q : List Nat) (hq : Bytes q) (hql : q.length ≤ 9223372036854775807) (hr : RdSt W (w.heap.size + 1) q) => readHead_c (w.heap.size + 1) q hq hql W hr)
  have hbd : ∀ k, Bytes (l.drop k) := fun k => hb.drops k
  have hld : ∀ k, (l.drop k).length ≤ 9223372036854775807 := fun k => by rw [List.length_drop]; omega
  obtain ⟨K, hK⟩ : ∃ K, l.headD 0 = K := ⟨_, rfl⟩
  rw [hK] at hk
  have K1 := Lib.hid hk
  have q1 : ((K : Int) == 1) = true := by rw [hk]; rfl
  have hK2 : K < 256 := by
    rw [← hK, ← nOf_one]
    exact Nat.lt_of_lt_of_le (nOf_lt 1 l hb) (by decide)
  have hk1 : i64 (nOf 1 l) = (K : Int) := by rw [nOf_one, hK]; exact i64_small (by omega)
  obtain ⟨T, hT⟩ : ∃ T, rRead l = T := ⟨_, rfl⟩
  rw [hT]
  obtain ⟨A, c, hv, _, _⟩ := id ho
  obtain ⟨n, hn⟩ : ∃ n, l.length = n := ⟨_, rfl⟩
  rw [hn] at hv
  subst hv
  have HL := Lib.hid hl; have HB := Lib.hid hb; have HBD := Lib.hid hbd; have HLD := Lib.hid hld; have HK1 := Lib.hid hk1; have HO := Lib.hid ho; have HT := Lib.hid hT; have HKK := Lib.hid hK
  have HHD := Lib.hid (show ∀ k, (l.drop k).headD 0 < 9223372036854775808 from fun k => by
    rw [← nOf_one]
    exact Nat.lt_of_lt_of_le (nOf_lt 1 _ (hbd k)) (by decide))
  have WR := Lib.hid (show ∀ q : List Nat, Bytes q → IntKind.i64.wrap ((nOf 8 q : Nat) : Int) = i64 (nOf 8 q) from fun q hq => by
    have hN : nOf 8 q < 18446744073709551616 := Nat.lt_of_lt_of_le (nOf_lt 8 q hq) (by decide)
    generalize nOf 8 q = N at *
    rw [IntKind.wrap_i64]
    unfold i64
    split <;> omega)
  have HV := Lib.hid (fun (W : World) => DVar.alloc (w := W) ([.int .i64 0, .string ByteArray.empty, .int .i64 0, .int .i64 0, .slice none 0 0, .int .i64 0, .int .i64 0, .int .i64 0, .int .i64 0] : List Value).toArray 24)
  clear hl hb hbd hld hk1 ho hT hn hK hk
  go_enter Tryd.func38, Tryd.ntmps38
  go_wp2_with fail
  have HR1 := RdSt.first (C0 := #[.int .i64 0, .string ByteArray.empty, .int .i64 0, .int .i64 0, .slice none 0 0, .int .i64 0, .int .i64 0, .int .i64 0, .int .i64 0]) (t := 24) (t2 := 64) HO.out
  refine (WH.out _ _ 1 (by decide) HB.out HL.out HR1).mono ?_; rintro _ w2 ⟨rfl, hr2, hg2⟩
  rw [HK1.out]
  have HR2 := Lib.hid hr2; have HG2 := Lib.hid hg2
  clear hr2 hg2 HR1
  have HS := Lib.hid (fun (w3 : World) (cs : List Value) (h2 : cs.length = 9) (hp : Put (w2.alloc (.cells ([.int .i64 0, .string ByteArray.empty, .int .i64 0, .int .i64 0, .slice none 0 0, .int .i64 0, .int .i64 0, .int .i64 0, .int .i64 0] : List Value).toArray 24)) w3 w2.heap.size cs) => rs_start (w := w) (C0 := [.int .i64 0, .string ByteArray.empty, .int .i64 0, .int .i64 0, .slice none 0 0, .int .i64 0, .int .i64 0, .int .i64 0, .int .i64 0]) (C2 := [.int .i64 0, .string ByteArray.empty, .int .i64 0, .int .i64 0, .slice none 0 0, .int .i64 0, .int .i64 0, .int .i64 0, .int .i64 0]) HR2.out HG2.out rfl h2 hp)
  clear HR2 HG2
  go_wp2_with (refine wpList_put rfl 24 _ _ rfl w2.heap.size [.int .i64 (K : Nat), .string ByteArray.empty, .int .i64 0, .int .i64 0, .slice none 0 0, .int .i64 0, .int .i64 0, .int .i64 0, .int .i64 0] rfl rfl (HV.out w2) (by kernel_rfl) (by simp [Value.oneCell']) ?_; intro w3 hp3; have h3 := HS.out _ _ rfl hp3; have p0 := h3.bx 0 _ rfl; have H3 := Lib.hid h3; clear h3 hp3)
  have hTT : hdRead (l.drop 1) = T := by
    rw [← HT.out, hdRead_guess (HKK.out.trans K1.out)]
    unfold rRead
    rw [if_pos (Or.inl (HKK.out.trans K1.out))]
  refine (RHD.out _ _ (HBD.out 1) (HLD.out 1) H3.out.rd).mono ?_; rintro _ w4 ⟨v4, rfl, ho4, hg4⟩
  rw [hTT] at ho4
  obtain ⟨u4, rfl, hro4⟩ := ho4
  have HD4 := Lib.hid (dvar_grown H3.out.d0 hg4 (by intro e; injection e; omega))
  have HB4 := Lib.hid (Below.grown H3.out.below hg4 H3.out.below.size (fun k e => by injection e; omega))
  have hro5 := hro4.mono (B := w.heap.size + 1) (by have := H3.out.dv.lt; have := H3.out.hR; omega)
  obtain ⟨kk, pp, mm, ff, ll, gg, tt, nn, vv, hTe⟩ : ∃ kk pp mm ff ll gg tt nn vv, T = ⟨kk, pp, mm, ff, ll, gg, tt, nn, vv⟩ := ⟨_, _, _, _, _, _, _, _, _, rfl⟩
  rw [hTe] at hro5 ⊢
  obtain ⟨A4, c4, rfl, hc4, hx4⟩ := RgNew.out hro5
  obtain ⟨ss, hss⟩ : ∃ s, strB pp = s := ⟨_, rfl⟩
  have HRO5 := Lib.hid hro5
  simp only [rcC, hss]
  obtain ⟨n4, hn4⟩ : ∃ n, ll.length = n := ⟨_, rfl⟩
  have hrc : ∀ w5 : World, RgNew (w.heap.size + 1) w5 (.slice A4 ll.length c4) ll → RcNew w.heap.size w5 (.agg #[.int .i64 kk, .string ss, .int .i64 mm, .int .i64 ff, .slice A4 n4 c4, .int .i64 gg, .int .i64 tt, .int .i64 nn, .int .i64 vv]) T := fun w5 h => by
    rw [hTe]
    exact ⟨.slice A4 ll.length c4, by unfold rcC; rw [hss, hn4], h.mono (by omega)⟩
  have HRC := Lib.hid hrc
  change Hid (RgNew (w.heap.size + 1) w4 (.slice A4 ll.length c4) ll) at HRO5
  rw [hn4] at HRO5 HRC ⊢
  clear hrc hro4 hro5 hc4 hx4 hss hn4 hg4 hTT hTe
  go_wp2_with (refine wpList_put rfl 24 _ _ rfl w.heap.size [.int .i64 kk, .string ss, .int .i64 mm, .int .i64 ff, .slice A4 n4 c4, .int .i64 gg, .int .i64 tt, .int .i64 nn, .int .i64 vv] rfl rfl HD4.out (by kernel_rfl) (by simp [Value.oneCell']) ?_; intro w22 hp22; obtain ⟨y0, y1, y2, y3, y4, y5, y6, y7, y8⟩ := Holds.nine hp22.at_; have B22 := Lib.hid (hp22.below (Nat.le_refl _) HB4.out); have RO := Lib.hid (HRO5.out.grown hp22.grown (fun g e => by injection e; omega)); clear hp22)
  exact bodyPost_ret (v := .agg #[.int .i64 kk, .string ss, .int .i64 mm, .int .i64 ff, .slice A4 n4 c4, .int .i64 gg, .int .i64 tt, .int .i64 nn, .int .i64 vv]) (by simp [results, Tryd.results38, go_sem, y0, y1, y2, y3, y4, y5, y6, y7, y8]) rfl ⟨_, rfl, HRC.out _ RO.out, B22.out⟩
end Go.Proofs.YtabbpgnenmpacaaDoor.SP
