/-
  Contracts of the document's own functions of layer 8 (isobarref08): Take, of other bytes.
-/
import Derived.Test.YtabbpgnenmpacaaDoorSegTkCM
set_option linter.unusedSimpArgs false
set_option linter.unusedVariables false
namespace Go.Proofs.YtabbpgnenmpacaaDoor.SR
open Go Go.RowKit
open CR (below_next own_ge u8_wrap)
open SP (rc_plain rgsOf_length rgsOf_snoc nOf_one i64_small rRead_ok rTake_read rRead)
set_option maxRecDepth 100000 in
set_option maxHeartbeats 2000000 in
theorem take_empty (v : Value) (l : List Nat) (hb : Bytes l) (hl : l.length ≤ 9223372036854775807) (w : World) (ho : ByOut w v l) (hk0 : l = []) :
    Calls Tryd.prog 36 #[v] w fun e w' => ∃ v', e = .returned (.tuple #[v', .int .i64 (rTake l).2]) ∧ RcNew w.heap.size w' v' (rTake l).1 ∧ Below w.heap.size w w' := by
  subst hk0
  obtain ⟨A, c, rfl, hc, hx⟩ := id ho
  rw [rTake_empty]
  clear hb hl ho hc hx
  go_enter Tryd.func36, Tryd.ntmps36
  go_wp2
  exact bodyPost_ret (v := .tuple #[.agg #[.int .i64 0, .string ByteArray.empty, .int .i64 0, .int .i64 0, .slice none 0 0, .int .i64 0, .int .i64 0, .int .i64 0, .int .i64 0], .int .i64 7]) (by simp [results, Tryd.results36, go_sem]; rfl) rfl ⟨_, rfl, rc_plain _ _ _ _ _ _ _, (alloc_below w _).trans ((alloc_below _ _).mono (by simp))⟩
set_option maxRecDepth 100000 in
set_option maxHeartbeats 2000000 in
theorem take_other (v : Value) (l : List Nat) (hb : Bytes l) (hl : l.length ≤ 9223372036854775807) (w : World) (ho : ByOut w v l) (hk0 : ¬ l = []) (hk : ¬ (l.headD 0 = 1 ∨ l.headD 0 = 2 ∨ l.headD 0 = 3)) :
    Calls Tryd.prog 36 #[v] w fun e w' => ∃ v', e = .returned (.tuple #[v', .int .i64 (rTake l).2]) ∧ RcNew w.heap.size w' v' (rTake l).1 ∧ Below w.heap.size w w' := by
  obtain ⟨A, c, rfl, hc, hx⟩ := id ho
  obtain ⟨n, hln⟩ : ∃ n, l.length = n := ⟨_, rfl⟩
  obtain ⟨TT, hTT⟩ : ∃ T, rTake l = T := ⟨_, rfl⟩
  rw [hTT, hln]
  rw [hln] at hc hl
  have hn0 : 0 < l.length := by
    cases l with
    | nil => simp at hk0
    | cons a l => simp
  obtain ⟨b, off, rfl, ha⟩ := hx (List.length_pos_iff.1 hn0)
  have hhd : l[0] = l.headD 0 := by
    cases l with
    | nil => simp at hn0
    | cons a l => rfl
  have hc0 := ha 0 _ (List.getElem?_eq_getElem hn0)
  rw [hhd, Nat.add_zero] at hc0
  obtain ⟨K, hK⟩ : ∃ K, l.headD 0 = K := ⟨_, rfl⟩
  rw [hK] at hc0 hk
  have hK256 : K < 256 := by
    rw [← hK, ← nOf_one]
    exact Nat.lt_of_lt_of_le (nOf_lt 1 _ hb) (by decide)
  have hb1 : Below w.heap.size w ((w.alloc (.cells ([.int .i64 0, .string ByteArray.empty, .int .i64 0, .int .i64 0, .slice none 0 0, .int .i64 0, .int .i64 0, .int .i64 0, .int .i64 0] : List Value).toArray 24)).alloc (.cells ([.int .i64 0, .string ByteArray.empty, .int .i64 0, .int .i64 0, .slice none 0 0, .int .i64 0, .int .i64 0, .int .i64 0, .int .i64 0] : List Value).toArray 24)) := (alloc_below w _).trans ((alloc_below _ _).mono (by simp))
  have c0 := hc0
  have hblt : b < w.heap.size := World.block_lt_of_cell? w _ hc0
  have hbne : ¬ b = w.heap.size := by omega
  have hbne2 : ¬ b = w.heap.size + 1 := by omega
  have hts := ts_start w [.int .i64 0, .string ByteArray.empty, .int .i64 0, .int .i64 0, .slice none 0 0, .int .i64 0, .int .i64 0, .int .i64 0, .int .i64 0] [.int .i64 0, .string ByteArray.empty, .int .i64 0, .int .i64 0, .slice none 0 0, .int .i64 0, .int .i64 0, .int .i64 0, .int .i64 0] 24 rfl rfl
  have p0 := hts.bx 0 _ rfl
  have q0 := hts.dv.f 0 (by decide)
  have HTS := Lib.hid (ts_start w [.int .i64 0, .string ⟨#[]⟩, .int .i64 0, .int .i64 0, .slice none 0 0, .int .i64 0, .int .i64 0, .int .i64 0, .int .i64 0] [.int .i64 (K : Nat), .string ⟨#[]⟩, .int .i64 0, .int .i64 0, .slice none 0 0, .int .i64 0, .int .i64 0, .int .i64 0, .int .i64 0] 24 rfl rfl)
  rw [hln] at hn0
  have hn1 : (0 : Int) < (n : Int) := by omega
  have hn2 : ¬ (n : Int) = 0 := by omega
  have hqn : ((n : Int) == 0) = false := beq_false_of_ne hn2
  have HL := Lib.hid hln; have HB := Lib.hid hb; have HO := Lib.hid ho; have HKK := Lib.hid hK; have HT := Lib.hid hTT; have HA := Lib.hid ha
  have WR := Lib.hid (show ∀ q : List Nat, Bytes q → IntKind.i64.wrap ((nOf 8 q : Nat) : Int) = i64 (nOf 8 q) from fun q hq => by
    have hN : nOf 8 q < 18446744073709551616 := Nat.lt_of_lt_of_le (nOf_lt 8 q hq) (by decide)
    generalize nOf 8 q = N at *
    rw [IntKind.wrap_i64]
    unfold i64
    split <;> omega)
  have RD := Lib.hid (fun (W : World) (hB : Below w.heap.size w W) (at' k : Nat) (hk : k ≤ 8) (h : at' + k ≤ n) => by
    have h2 := read_c (.slice (some ⟨b, off, none⟩) l.length c) l hb (by rw [hln]; exact hl) at' k hk (by rw [hln]; exact h) W (ho.below hB)
    rw [hln] at h2
    exact h2)
  have HN9 := Lib.hid (show (n : Int) ≤ 9223372036854775807 by omega)
  have q1 : ((K : Int) == 1) = false := beq_false_of_ne (by omega)
  have q2 : ((K : Int) == 2) = false := beq_false_of_ne (by omega)
  have q3 : ((K : Int) == 3) = false := beq_false_of_ne (by omega)
  have HK2 := Lib.hid hk
  have hro := rTake_other (l := l) (R := ⟨(K : Nat), [], 0, 0, [], 0, 0, 0, 0⟩) (by rw [hK]; exact hk) (by rw [hK])
  obtain ⟨RR, hRR⟩ : ∃ r : PR, (⟨(K : Nat), [], 0, 0, [], 0, 0, 0, 0⟩) = r := ⟨_, rfl⟩
  have hrk : Bytes RR.path ∧ RR.rungs.length ≤ 100000 := by rw [← hRR]; exact ⟨fun _ h => (by cases h), Nat.zero_le _⟩
  have hrcv : ∀ W, RgNew (w.heap.size + 2) W (.slice none 0 0) [] → RcNew w.heap.size W (.agg #[.int .i64 (K : Nat), .string ByteArray.empty, .int .i64 0, .int .i64 0, .slice none 0 0, .int .i64 0, .int .i64 0, .int .i64 0, .int .i64 0]) RR := fun W h => by rw [← hRR]; exact rc_plain _ _ _ _ _ _ _
  have hP : rPut RR = ([], 1) := by
    unfold rPut
    rw [← hRR, hro.2]
    rfl
  have PT := Lib.hid (fun (v : Value) (W : World) (h : RcOut W v RR) => put_c v RR hrk.1 hrk.2 W h)
  rw [hP] at PT
  have HRK := Lib.hid hrk; have RCV := Lib.hid hrcv
  have e : TT = (PR.zero, 7) := by rw [← hTT]; exact hro.1
  subst e
  clear hTT hln hb ho hK hk hx ha hc0 hhd hc hl hb1 hro hP hrk hrcv
  go_enter Tryd.func36, Tryd.ntmps36
  go_wp2_with fail
  refine gen_calls (F := fun W => TS w W [.int .i64 (K : Nat), .string ByteArray.empty, .int .i64 0, .int .i64 0, .slice none 0 0, .int .i64 0, .int .i64 0, .int .i64 0, .int .i64 0] (.slice none 0 0) []) HTS.out ?_
  intro w3 hts1
  have T3 := Lib.hid hts1
  clear hts1 hts p0 q0 c0 HTS
  refine (PT.out _ w3 (RCV.out _ T3.out.row).out).mono ?_; rintro _ w4 ⟨v4, rfl, hn4, hb4⟩
  have T4 := Lib.hid (T3.out.next hb4)
  have D4 := Lib.hid T4.out.d0; have B4 := Lib.hid T4.out.below
  clear hn4 hb4
  go_wp2_with (refine wpList_put rfl 24 _ _ rfl w.heap.size [.int .i64 0, .string ByteArray.empty, .int .i64 0, .int .i64 0, .slice none 0 0, .int .i64 0, .int .i64 0, .int .i64 0, .int .i64 0] rfl rfl D4.out (by kernel_rfl) (by simp [Value.oneCell']) ?_; intro w9 hp9; obtain ⟨x0, x1, x2, x3, x4, x5, x6, x7, x8⟩ := Holds.nine hp9.at_; have B9 := Lib.hid (hp9.below (Nat.le_refl _) B4.out); clear hp9)
  exact bodyPost_ret (v := .tuple #[.agg #[.int .i64 0, .string ByteArray.empty, .int .i64 0, .int .i64 0, .slice none 0 0, .int .i64 0, .int .i64 0, .int .i64 0, .int .i64 0], .int .i64 7]) (by simp [results, Tryd.results36, go_sem, x0, x1, x2, x3, x4, x5, x6, x7, x8]) rfl ⟨_, rfl, rc_plain _ _ _ _ _ _ _, B9.out⟩
end Go.Proofs.YtabbpgnenmpacaaDoor.SR
/-
  Contracts of the document's own functions of layer 8 (isobarref08): Take, of a short head.
-/
set_option linter.unusedSimpArgs false
set_option linter.unusedVariables false
namespace Go.Proofs.YtabbpgnenmpacaaDoor.SR
open Go Go.RowKit
open CR (below_next own_ge u8_wrap)
open SP (rc_plain rgsOf_length rgsOf_snoc nOf_one i64_small rRead_ok rTake_read rRead)
set_option maxRecDepth 100000 in
set_option maxHeartbeats 2000000 in
theorem take_short (v : Value) (l : List Nat) (hb : Bytes l) (hl : l.length ≤ 9223372036854775807) (w : World) (ho : ByOut w v l) (hk0 : ¬ l = []) (hk : l.headD 0 = 1) (hs : l.length < 9 + nOf 2 (l.drop 1)) :
    Calls Tryd.prog 36 #[v] w fun e w' => ∃ v', e = .returned (.tuple #[v', .int .i64 (rTake l).2]) ∧ RcNew w.heap.size w' v' (rTake l).1 ∧ Below w.heap.size w w' := by
  obtain ⟨A, c, rfl, hc, hx⟩ := id ho
  obtain ⟨n, hln⟩ : ∃ n, l.length = n := ⟨_, rfl⟩
  obtain ⟨TT, hTT⟩ : ∃ T, rTake l = T := ⟨_, rfl⟩
  rw [hTT, hln]
  rw [hln] at hc hl
  have hn0 : 0 < l.length := by
    cases l with
    | nil => simp at hk0
    | cons a l => simp
  obtain ⟨b, off, rfl, ha⟩ := hx (List.length_pos_iff.1 hn0)
  have hhd : l[0] = l.headD 0 := by
    cases l with
    | nil => simp at hn0
    | cons a l => rfl
  have hc0 := ha 0 _ (List.getElem?_eq_getElem hn0)
  rw [hhd, Nat.add_zero] at hc0
  obtain ⟨K, hK⟩ : ∃ K, l.headD 0 = K := ⟨_, rfl⟩
  rw [hK] at hc0 hk
  have hK256 : K < 256 := by
    rw [← hK, ← nOf_one]
    exact Nat.lt_of_lt_of_le (nOf_lt 1 _ hb) (by decide)
  have hb1 : Below w.heap.size w ((w.alloc (.cells ([.int .i64 0, .string ByteArray.empty, .int .i64 0, .int .i64 0, .slice none 0 0, .int .i64 0, .int .i64 0, .int .i64 0, .int .i64 0] : List Value).toArray 24)).alloc (.cells ([.int .i64 0, .string ByteArray.empty, .int .i64 0, .int .i64 0, .slice none 0 0, .int .i64 0, .int .i64 0, .int .i64 0, .int .i64 0] : List Value).toArray 24)) := (alloc_below w _).trans ((alloc_below _ _).mono (by simp))
  have c0 := hc0
  have hblt : b < w.heap.size := World.block_lt_of_cell? w _ hc0
  have hbne : ¬ b = w.heap.size := by omega
  have hbne2 : ¬ b = w.heap.size + 1 := by omega
  have hts := ts_start w [.int .i64 0, .string ByteArray.empty, .int .i64 0, .int .i64 0, .slice none 0 0, .int .i64 0, .int .i64 0, .int .i64 0, .int .i64 0] [.int .i64 0, .string ByteArray.empty, .int .i64 0, .int .i64 0, .slice none 0 0, .int .i64 0, .int .i64 0, .int .i64 0, .int .i64 0] 24 rfl rfl
  have p0 := hts.bx 0 _ rfl
  have q0 := hts.dv.f 0 (by decide)
  have HTS := Lib.hid (ts_start w [.int .i64 0, .string ⟨#[]⟩, .int .i64 0, .int .i64 0, .slice none 0 0, .int .i64 0, .int .i64 0, .int .i64 0, .int .i64 0] [.int .i64 (K : Nat), .string ⟨#[]⟩, .int .i64 0, .int .i64 0, .slice none 0 0, .int .i64 0, .int .i64 0, .int .i64 0, .int .i64 0] 24 rfl rfl)
  rw [hln] at hn0
  have hn1 : (0 : Int) < (n : Int) := by omega
  have hn2 : ¬ (n : Int) = 0 := by omega
  have hqn : ((n : Int) == 0) = false := beq_false_of_ne hn2
  have HL := Lib.hid hln; have HB := Lib.hid hb; have HO := Lib.hid ho; have HKK := Lib.hid hK; have HT := Lib.hid hTT; have HA := Lib.hid ha
  have WR := Lib.hid (show ∀ q : List Nat, Bytes q → IntKind.i64.wrap ((nOf 8 q : Nat) : Int) = i64 (nOf 8 q) from fun q hq => by
    have hN : nOf 8 q < 18446744073709551616 := Nat.lt_of_lt_of_le (nOf_lt 8 q hq) (by decide)
    generalize nOf 8 q = N at *
    rw [IntKind.wrap_i64]
    unfold i64
    split <;> omega)
  have RD := Lib.hid (fun (W : World) (hB : Below w.heap.size w W) (at' k : Nat) (hk : k ≤ 8) (h : at' + k ≤ n) => by
    have h2 := read_c (.slice (some ⟨b, off, none⟩) l.length c) l hb (by rw [hln]; exact hl) at' k hk (by rw [hln]; exact h) W (ho.below hB)
    rw [hln] at h2
    exact h2)
  have HN9 := Lib.hid (show (n : Int) ≤ 9223372036854775807 by omega)
  have q1 : ((K : Int) == 1) = true := by rw [hk]; rfl
  obtain ⟨N, hN⟩ : ∃ N, nOf 2 (l.drop 1) = N := ⟨_, rfl⟩
  have hN2 : N < 65536 := by rw [← hN]; exact Nat.lt_of_lt_of_le (nOf_lt 2 _ (hb.drops 1)) (by decide)
  have hwN : IntKind.i64.wrap (N : Int) = (N : Int) := by rw [IntKind.wrap_i64]; omega
  have e : TT = (PR.zero, 7) := by rw [← hTT]; exact rTake_short (hK.trans hk) (by omega)
  subst e
  rw [hN, hln] at hs
  by_cases h3 : n < 3
  · have RN := Lib.hid (fun (W : World) => read_no (some ⟨b, off, none⟩) n c 1 2 hl (by decide) (by decide) (by omega) W)
    clear hTT hln hb ho hK hk hx ha hc0 hhd hc hl hb1 hs h3 hN
    go_enter Tryd.func36, Tryd.ntmps36
    go_wp2_with fail
    refine (RN.out _).mono ?_; rintro _ w2 ⟨rfl, rfl⟩
    go_wp2
    exact bodyPost_ret (v := .tuple #[.agg #[.int .i64 0, .string ByteArray.empty, .int .i64 0, .int .i64 0, .slice none 0 0, .int .i64 0, .int .i64 0, .int .i64 0, .int .i64 0], .int .i64 7]) (by simp [results, Tryd.results36, go_sem]; rfl) rfl ⟨_, rfl, rc_plain _ _ _ _ _ _ _, (alloc_below w _).trans ((alloc_below _ _).mono (by simp))⟩
  · have RN := Lib.hid (fun (W : World) (hB : Below w.heap.size w W) => RD.out W hB 1 2 (by decide) (by omega))
    rw [hN] at RN
    have HB1 := Lib.hid (hb1.trans (Below.refl _ _))
    have hsi : (n : Int) < 3 + (N : Int) + 6 := by omega
    clear hTT hln hb ho hK hk hx ha hc0 hhd hc hl hb1 hs hN
    go_enter Tryd.func36, Tryd.ntmps36
    go_wp2_with fail
    refine (RN.out _ ((alloc_below w _).trans ((alloc_below _ _).mono (by simp)))).mono ?_; rintro _ w2 ⟨rfl, rfl⟩
    go_wp2
    exact bodyPost_ret (v := .tuple #[.agg #[.int .i64 0, .string ByteArray.empty, .int .i64 0, .int .i64 0, .slice none 0 0, .int .i64 0, .int .i64 0, .int .i64 0, .int .i64 0], .int .i64 7]) (by simp [results, Tryd.results36, go_sem]; rfl) rfl ⟨_, rfl, rc_plain _ _ _ _ _ _ _, (alloc_below w _).trans ((alloc_below _ _).mono (by simp))⟩
end Go.Proofs.YtabbpgnenmpacaaDoor.SR
/-
  Contracts of the document's own functions of layer 8 (isobarref08): Take, of a head.
-/
set_option linter.unusedSimpArgs false
set_option linter.unusedVariables false
namespace Go.Proofs.YtabbpgnenmpacaaDoor.SR
open Go Go.RowKit
open CR (below_next own_ge u8_wrap)
open SP (rc_plain rgsOf_length rgsOf_snoc nOf_one i64_small rRead_ok rTake_read rRead)
set_option maxRecDepth 100000 in
set_option maxHeartbeats 2000000 in
theorem take_main (v : Value) (l : List Nat) (hb : Bytes l) (hl : l.length ≤ 9223372036854775807) (w : World) (ho : ByOut w v l) (hk0 : ¬ l = []) (hk : l.headD 0 = 1) (hs : 9 + nOf 2 (l.drop 1) ≤ l.length) :
    Calls Tryd.prog 36 #[v] w fun e w' => ∃ v', e = .returned (.tuple #[v', .int .i64 (rTake l).2]) ∧ RcNew w.heap.size w' v' (rTake l).1 ∧ Below w.heap.size w w' := by
  obtain ⟨A, c, rfl, hc, hx⟩ := id ho
  obtain ⟨n, hln⟩ : ∃ n, l.length = n := ⟨_, rfl⟩
  obtain ⟨TT, hTT⟩ : ∃ T, rTake l = T := ⟨_, rfl⟩
  rw [hTT, hln]
  rw [hln] at hc hl
  have hn0 : 0 < l.length := by
    cases l with
    | nil => simp at hk0
    | cons a l => simp
  obtain ⟨b, off, rfl, ha⟩ := hx (List.length_pos_iff.1 hn0)
  have hhd : l[0] = l.headD 0 := by
    cases l with
    | nil => simp at hn0
    | cons a l => rfl
  have hc0 := ha 0 _ (List.getElem?_eq_getElem hn0)
  rw [hhd, Nat.add_zero] at hc0
  obtain ⟨K, hK⟩ : ∃ K, l.headD 0 = K := ⟨_, rfl⟩
  rw [hK] at hc0 hk
  have hK256 : K < 256 := by
    rw [← hK, ← nOf_one]
    exact Nat.lt_of_lt_of_le (nOf_lt 1 _ hb) (by decide)
  have hb1 : Below w.heap.size w ((w.alloc (.cells ([.int .i64 0, .string ByteArray.empty, .int .i64 0, .int .i64 0, .slice none 0 0, .int .i64 0, .int .i64 0, .int .i64 0, .int .i64 0] : List Value).toArray 24)).alloc (.cells ([.int .i64 0, .string ByteArray.empty, .int .i64 0, .int .i64 0, .slice none 0 0, .int .i64 0, .int .i64 0, .int .i64 0, .int .i64 0] : List Value).toArray 24)) := (alloc_below w _).trans ((alloc_below _ _).mono (by simp))
  have c0 := hc0
  have hblt : b < w.heap.size := World.block_lt_of_cell? w _ hc0
  have hbne : ¬ b = w.heap.size := by omega
  have hbne2 : ¬ b = w.heap.size + 1 := by omega
  have hts := ts_start w [.int .i64 0, .string ByteArray.empty, .int .i64 0, .int .i64 0, .slice none 0 0, .int .i64 0, .int .i64 0, .int .i64 0, .int .i64 0] [.int .i64 0, .string ByteArray.empty, .int .i64 0, .int .i64 0, .slice none 0 0, .int .i64 0, .int .i64 0, .int .i64 0, .int .i64 0] 24 rfl rfl
  have p0 := hts.bx 0 _ rfl
  have q0 := hts.dv.f 0 (by decide)
  have HTS := Lib.hid (ts_start w [.int .i64 0, .string ⟨#[]⟩, .int .i64 0, .int .i64 0, .slice none 0 0, .int .i64 0, .int .i64 0, .int .i64 0, .int .i64 0] [.int .i64 (K : Nat), .string ⟨#[]⟩, .int .i64 0, .int .i64 0, .slice none 0 0, .int .i64 0, .int .i64 0, .int .i64 0, .int .i64 0] 24 rfl rfl)
  rw [hln] at hn0
  have hn1 : (0 : Int) < (n : Int) := by omega
  have hn2 : ¬ (n : Int) = 0 := by omega
  have hqn : ((n : Int) == 0) = false := beq_false_of_ne hn2
  have HL := Lib.hid hln; have HB := Lib.hid hb; have HO := Lib.hid ho; have HKK := Lib.hid hK; have HT := Lib.hid hTT; have HA := Lib.hid ha
  have WR := Lib.hid (show ∀ q : List Nat, Bytes q → IntKind.i64.wrap ((nOf 8 q : Nat) : Int) = i64 (nOf 8 q) from fun q hq => by
    have hN : nOf 8 q < 18446744073709551616 := Nat.lt_of_lt_of_le (nOf_lt 8 q hq) (by decide)
    generalize nOf 8 q = N at *
    rw [IntKind.wrap_i64]
    unfold i64
    split <;> omega)
  have RD := Lib.hid (fun (W : World) (hB : Below w.heap.size w W) (at' k : Nat) (hk : k ≤ 8) (h : at' + k ≤ n) => by
    have h2 := read_c (.slice (some ⟨b, off, none⟩) l.length c) l hb (by rw [hln]; exact hl) at' k hk (by rw [hln]; exact h) W (ho.below hB)
    rw [hln] at h2
    exact h2)
  have HN9 := Lib.hid (show (n : Int) ≤ 9223372036854775807 by omega)
  have q1 : ((K : Int) == 1) = true := by rw [hk]; rfl
  obtain ⟨N, hN⟩ : ∃ N, nOf 2 (l.drop 1) = N := ⟨_, rfl⟩
  have hN2 : N < 65536 := by rw [← hN]; exact Nat.lt_of_lt_of_le (nOf_lt 2 _ (hb.drops 1)) (by decide)
  have hwN : IntKind.i64.wrap (N : Int) = (N : Int) := by rw [IntKind.wrap_i64]; omega
  rw [hN, hln] at hs
  obtain ⟨a, ha3⟩ : ∃ a, 3 + N = a := ⟨_, rfl⟩
  have hai : (3 : Int) + (N : Int) = (a : Int) := by omega
  have han : a + 6 ≤ n := by omega
  have ha9 : a ≤ 65538 := by omega
  have hd1 : ∀ i, i < n → (l.drop i).headD 0 < 256 := fun i _ => by rw [← nOf_one]; exact Nat.lt_of_lt_of_le (nOf_lt 1 _ (hb.drops i)) (by decide)
  have hcell : ∀ (W : World) (i : Nat), Below w.heap.size w W → i < n → W.cell? ⟨b, off + i, none⟩ = some (.int .u8 (((l.drop i).headD 0 : Nat) : Int)) := fun W i hB hi => by
    have hil : i < l.length := by rw [hln]; exact hi
    have e : (l.drop i).headD 0 = l[i] := by rw [List.drop_eq_getElem_cons hil]; rfl
    rw [e]
    exact cellb hB (ha i _ (List.getElem?_eq_getElem hil))
  obtain ⟨M, hM⟩ : ∃ M, (l.drop a).headD 0 = M := ⟨_, rfl⟩
  obtain ⟨Q, hQ⟩ : ∃ Q, (l.drop (a + 5)).headD 0 = Q := ⟨_, rfl⟩
  obtain ⟨Fv, hF⟩ : ∃ F, nOf 4 (l.drop (a + 1)) = F := ⟨_, rfl⟩
  have hM2 : M < 256 := by rw [← hM]; exact hd1 a (by omega)
  have hQ2 : Q < 256 := by rw [← hQ]; exact hd1 (a + 5) (by omega)
  have hF2 : (Fv : Int) < 4294967296 := by
    have : Fv < 4294967296 := by rw [← hF]; exact Nat.lt_of_lt_of_le (nOf_lt 4 _ (hb.drops _)) (by decide)
    omega
  have hwF : IntKind.i64.wrap (Fv : Int) = (Fv : Int) := by rw [IntKind.wrap_i64]; omega
  obtain ⟨P, hP⟩ : ∃ P, (l.drop 3).take N = P := ⟨_, rfl⟩
  have hguess : rGuess l = hdR P (M : Nat) (Fv : Nat) (rgsOf Q (l.drop (a + 6))) := by
    unfold rGuess
    rw [if_pos (hK.trans hk), hN, ha3, hP, hM, hF, hQ]
  have HG := Lib.hid hguess
  have CM := Lib.hid (fun (W : World) (hB : Below w.heap.size w W) => by
    have h := hcell W a hB (by omega)
    rw [hM] at h
    exact h)
  have CQ := Lib.hid (fun (W : World) (hB : Below w.heap.size w W) => by
    have h := hcell W (a + 5) hB (by omega)
    rw [hQ] at h
    exact h)
  have RN := Lib.hid (fun (W : World) (hB : Below w.heap.size w W) => RD.out W hB 1 2 (by decide) (by omega))
  rw [hN] at RN
  have RF := Lib.hid (fun (W : World) (hB : Below w.heap.size w W) => by
    have h := RD.out W hB (a + 1) 4 (by decide) (by omega)
    rw [hF, show ((a + 1 : Nat) : Int) = (a : Int) + 1 from by omega] at h
    exact h)
  have HP := Lib.hid hP
  have RX := Lib.hid (fun (W : World) (hB : Below w.heap.size w W) (q : Nat) (h : a + 6 + 6 * q + 4 ≤ n) => by
    have h := RD.out W hB (a + 6 + 6 * q) 4 (by decide) h
    rw [show ((a + 6 + 6 * q : Nat) : Int) = (a : Int) + 6 + 6 * (q : Int) from by omega] at h
    exact h)
  have RY := Lib.hid (fun (W : World) (hB : Below w.heap.size w W) (q : Nat) (h : a + 10 + 6 * q + 2 ≤ n) => by
    have h := RD.out W hB (a + 10 + 6 * q) 2 (by decide) h
    rw [show ((a + 10 + 6 * q : Nat) : Int) = (a : Int) + 10 + 6 * (q : Int) from by omega] at h
    exact h)
  have NX := Lib.hid (fun (W : World) (q : Nat) (hq : q ≤ 256) (h : n < a + 6 + 6 * q + 4) => by
    have h := read_no (some ⟨b, off, none⟩) n c (a + 6 + 6 * q) 4 hl (by decide) (by omega) h W
    rw [show ((a + 6 + 6 * q : Nat) : Int) = (a : Int) + 6 + 6 * (q : Int) from by omega] at h
    exact h)
  have NY := Lib.hid (fun (W : World) (q : Nat) (hq : q ≤ 256) (h : n < a + 10 + 6 * q + 2) => by
    have h := read_no (some ⟨b, off, none⟩) n c (a + 10 + 6 * q) 2 hl (by decide) (by omega) h W
    rw [show ((a + 10 + 6 * q : Nat) : Int) = (a : Int) + 10 + 6 * (q : Int) from by omega] at h
    exact h)
  have NO := Lib.hid (show ∀ q, q < Q → n < a + 6 + 6 * q + 6 → TT = (PR.zero, 7) from fun q h1 h2 => by
    rw [← hTT]
    exact rTake_short (hK.trans hk) (by rw [hN, show 3 + N + 5 = a + 5 from by omega, hQ, hln]; omega))
  have hT9 : TT = if rRight (rGuess l) = true ∧ rBytes (rGuess l) = l then (rGuess l, 0) else (PR.zero, 7) := by rw [← hTT]; rfl
  have HT9 := Lib.hid hT9
  have hPb : Bytes P := by rw [← hP]; exact (hb.drops 3).takes N
  have HPB := Lib.hid hPb
  have XB := Lib.hid (show ∀ q, nOf 4 (l.drop (a + 6 + 6 * q)) < 4294967296 from fun q => Nat.lt_of_lt_of_le (nOf_lt 4 _ (hb.drops _)) (by decide))
  have YB := Lib.hid (show ∀ q, nOf 2 (l.drop (a + 10 + 6 * q)) < 65536 from fun q => Nat.lt_of_lt_of_le (nOf_lt 2 _ (hb.drops _)) (by decide))
  have SN := Lib.hid (show ∀ q, rgsOf (q + 1) (l.drop (a + 6)) = rgsOf q (l.drop (a + 6)) ++ [(((nOf 4 (l.drop (a + 6 + 6 * q)) : Nat) : Int), ((nOf 2 (l.drop (a + 10 + 6 * q)) : Nat) : Int))] from fun q => by
    rw [rgsOf_snoc, List.drop_drop, List.drop_drop, show a + 6 + (6 * q + 4) = a + 10 + 6 * q from by omega])
  obtain ⟨i0, hi0, hz0, hz1, hz2⟩ := info_parts (P := Tryd.prog) (e := 49) (z := .agg #[.int .i64 0, .int .i64 0]) (size := 2) (bytes := 16) (by kernel_rfl)
  have hcvf : ∀ (W : World), Below w.heap.size w W → (convert 27 9 (.slice (some ⟨b, off + 3, none⟩) (a - 3) (c - 3))).run Tryd.prog W = .ok (.string (strB P)) W := fun W hB => by
    have h1 := ho.below hB
    rw [hln] at h1
    obtain ⟨b', off', he, h2⟩ := ByOut.drop h1 (show 3 < n by omega)
    injection he with he
    injection he with e1 e2
    subst e1 e2
    obtain ⟨A', c', hv, hc', hx'⟩ := h2
    injection hv with e1 e2 e3
    subst e1 e3
    have hPl : P.length = a - 3 := by rw [← hP, List.length_take, List.length_drop, hln]; omega
    have h4 : ByOut W (.slice (some ⟨b, off + 3, none⟩) (a - 3) (c - 3)) P := by
      refine ⟨some ⟨b, off + 3, none⟩, c - 3, by rw [hPl], by rw [hPl]; omega, fun hn => ?_⟩
      obtain ⟨b2, o2, hA2, hf2⟩ := hx' (fun e => hn (by rw [← hP, e]; exact List.take_nil))
      refine ⟨b2, o2, hA2, fun i x hi => hf2 i x ?_⟩
      rw [← hP, List.getElem?_take] at hi
      split at hi
      · exact hi
      · cases hi
    exact conv_by (by rw [← hP]; exact (hb.drops 3).takes N) h4
  obtain ⟨ss, hss⟩ : ∃ s, strB P = s := ⟨_, rfl⟩
  rw [hss] at hcvf
  have HCV := Lib.hid hcvf
  clear hcvf
  have HSS := Lib.hid hss
  clear hss
  have hsi : ¬ (n : Int) < 3 + (N : Int) + 6 := by omega
  have hac : a ≤ c := by omega
  have HK2 := Lib.hid hk; have HA3 := Lib.hid ha3; have HN0 := Lib.hid hN
  clear hTT hln hb ho hK hk hx ha hc0 hhd hl hb1 hs hN hM hQ hF hP hguess hcell hd1 hF2 ha3
  go_enter Tryd.func36, Tryd.ntmps36
  go_wp2_with fail
  refine gen_calls (F := fun W => TS w W [.int .i64 (K : Nat), .string ByteArray.empty, .int .i64 0, .int .i64 0, .slice none 0 0, .int .i64 0, .int .i64 0, .int .i64 0, .int .i64 0] (.slice none 0 0) []) HTS.out ?_
  intro w1 hts1
  have T1 := Lib.hid hts1
  clear hts1 hts p0 q0 c0 HTS
  refine (RN.out w1 T1.out.below).mono ?_; rintro _ w2 ⟨rfl, rfl⟩
  have hcv := HCV.out w1 T1.out.below
  have p1 := T1.out.bx 1 _ rfl
  have q1' := T1.out.dv.f 1 (by decide)
  go_wp2_with fail
  refine gen_calls (F := fun W => TS w W [.int .i64 (K : Nat), .string ss, .int .i64 0, .int .i64 0, .slice none 0 0, .int .i64 0, .int .i64 0, .int .i64 0, .int .i64 0] (.slice none 0 0) []) (T1.out.set 1 (by decide) (.string ss)) ?_
  intro w3 hts3
  have T3 := Lib.hid hts3
  clear hts3 p1 q1' hcv
  refine (RF.out w3 T3.out.below).mono ?_; rintro _ w4 ⟨rfl, rfl⟩
  have cm := CM.out w3 T3.out.below
  have p2 := T3.out.bx 2 _ rfl
  have p3 := T3.out.bx 3 _ rfl
  have z2 := T3.out.dv.f 2 (by decide)
  have z3 := T3.out.dv.f 3 (by decide)
  have hai2 : (a : Int) < (n : Int) := by omega
  have T5 := Lib.hid (show TS w ((w3.setCell ⟨w.heap.size + 1, 2, none⟩ (.int .i64 (M : Nat))).setCell ⟨w.heap.size + 1, 3, none⟩ (.int .i64 (Fv : Nat))) [.int .i64 (K : Nat), .string ss, .int .i64 (M : Nat), .int .i64 (Fv : Nat), .slice none 0 0, .int .i64 0, .int .i64 0, .int .i64 0, .int .i64 0] (.slice none 0 0) [] from (T3.out.set 2 (by decide) (.int .i64 (M : Nat))).set 3 (by decide) (.int .i64 (Fv : Nat)))
  go_wp2
  have ha5 : (a : Int) + 5 < (n : Int) := by omega
  clear cm p2 p3 z2 z3 hai2 T3 T1
  go_loopw [10, 11, 12, 13, 14] (fun k _ _ _ _ wr => ∃ (q : Nat) (u : Value), k = .int .i64 q ∧ q ≤ Q ∧ Hid (TS w wr [.int .i64 (K : Nat), .string ss, .int .i64 (M : Nat), .int .i64 (Fv : Nat), u, .int .i64 0, .int .i64 0, .int .i64 0, .int .i64 0] u (rgsOf q (l.drop (a + 6))))) (fun k _ _ _ _ _ => Q - (intOf k).toNat)
  case atStart => exact ⟨0, _, rfl, Nat.zero_le _, T5.out⟩
  case round =>
    obtain ⟨q, u, rfl, hq, HI⟩ := hrel
    have cq := CQ.out wr HI.out.below
    by_cases hlt : q < Q
    · by_cases h6 : a + 6 + 6 * q + 6 ≤ n
      · have hx1 := RX.out wr HI.out.below q (by omega)
        have hy1 := RY.out wr HI.out.below q (by omega)
        have hsn := SN.out q
        have hxb := XB.out q
        have hyb := YB.out q
        have hlen := rgsOf_length q (l.drop (a + 6))
        obtain ⟨x, hx⟩ : ∃ x, nOf 4 (l.drop (a + 6 + 6 * q)) = x := ⟨_, rfl⟩
        obtain ⟨y, hy⟩ : ∃ x, nOf 2 (l.drop (a + 10 + 6 * q)) = x := ⟨_, rfl⟩
        rw [hx] at hx1 hsn hxb
        rw [hy] at hy1 hsn hyb
        have hwx : IntKind.i64.wrap (x : Int) = (x : Int) := by rw [IntKind.wrap_i64]; omega
        have hwy : IntKind.i64.wrap (y : Int) = (y : Int) := by rw [IntKind.wrap_i64]; omega
        have p4 := HI.out.bx 4 _ rfl
        have HX1 := Lib.hid hx1; have HY1 := Lib.hid hy1
        have B63 := Lib.hid (show q + 1 ≤ maxLen by simp only [maxLen]; omega)
        have B48 := Lib.hid (show (q + 1) * 16 ≤ 140737488355328 by omega)
        have ROW := Lib.hid (show wr.ownsRow (w.heap.size + 2) 49 2 u q (rgC (rgsOf q (l.drop (a + 6)))) from by
          have h2 := HI.out.row
          unfold RgNew at h2
          rw [hlen] at h2
          exact h2)
        have FORM := Lib.hid (show ∀ (W' : World) (v' : Value), W'.ownsRow (w.heap.size + 2) 49 2 v' (q + 1) (rgC (rgsOf q (l.drop (a + 6))) ++ [.int .i64 x, .int .i64 y]) → ∃ A c, v' = .slice A (q + 1) c from fun W' v' h => by
          rcases h.2 with ⟨_, h0⟩ | ⟨g', cap, cur, rfl, _⟩
          · omega
          · exact ⟨_, _, rfl⟩)
        have APP := Lib.hid (show ∀ (W' : World) (v' : Value), W'.ownsRow (w.heap.size + 2) 49 2 v' (q + 1) (rgC (rgsOf q (l.drop (a + 6))) ++ [.int .i64 x, .int .i64 y]) → (wr.alloc (.cells #[.int .i64 x, .int .i64 y] 49)).grownBy W' u.ownBlock → TS w W' [.int .i64 (K : Nat), .string ss, .int .i64 (M : Nat), .int .i64 (Fv : Nat), u, .int .i64 0, .int .i64 0, .int .i64 0, .int .i64 0] v' (rgsOf (q + 1) (l.drop (a + 6))) from fun W' v' ho hg => by
          have hrow : RgNew (w.heap.size + 2) W' v' (rgsOf (q + 1) (l.drop (a + 6))) := by
            unfold RgNew
            rw [hsn, rgC_app, List.length_append, hlen]
            exact ho
          exact (HI.out.next (alloc_below wr _)).grown hg hrow)
        have SZ := Lib.hid HI.out.sz
        clear hx1 hy1 hsn hlen hx hy h6
        go_wp2_with fail
        refine (HX1.out).mono ?_; rintro _ w5 ⟨rfl, rfl⟩
        go_wp2_with fail
        refine (HY1.out).mono ?_; rintro _ w5 ⟨rfl, rfl⟩
        go_wp2_with (at_builtin; refine wpList_append_any _ rfl (.tmp 119) (.tmp 125) _ rfl (w.heap.size + 2) 49 i0 (.agg #[.int .i64 0, .int .i64 0]) 2 16 Tryd.underlying22 hi0 hz0 hz1 hz2 rfl (by decide) u q (rgC (rgsOf q (l.drop (a + 6)))) rfl (World.ownsRow.alloc ROW.out _) _ (some ⟨wr.heap.size, 0, none⟩) 1 1 [.int .i64 x, .int .i64 y] rfl (Reads.of_own (World.ownsRow_lit (base := 0) (e := 49) (size := 2) wr #[.int .i64 x, .int .i64 y] 1 (Nat.zero_le _) (by decide) rfl)) (by simp [Value.oneCell']) B63.out B48.out (by have := SZ.out; simp; omega) ?_; intro v13 w13 hown13 hg13 hat13; obtain ⟨A13, c13, hv13⟩ := FORM.out _ _ hown13; subst hv13; have hs13 := APP.out _ _ hown13 hg13; have p5 := hs13.bx 4 _ rfl; have q5 := hs13.dv.f 4 (by decide))
        have H14 := Lib.hid (show TS w (w13.setCell ⟨w.heap.size + 1, 4, none⟩ (.slice A13 (q + 1) c13)) [.int .i64 (K : Nat), .string ss, .int .i64 (M : Nat), .int .i64 (Fv : Nat), .slice A13 (q + 1) c13, .int .i64 0, .int .i64 0, .int .i64 0, .int .i64 0] (.slice A13 (q + 1) c13) (rgsOf (q + 1) (l.drop (a + 6))) from hs13.set 4 (by decide) (.slice A13 (q + 1) c13))
        clear hs13 p4 p5 q5 hown13 hg13 hat13 cq
        try go_wp2
        go_roundw
        case rel => exact ⟨q + 1, _, by go_num, by omega, H14.out⟩
        case measure => simp only [intOf]; omega
      · have e := NO.out q hlt (by omega)
        have D4 := Lib.hid HI.out.d0; have B4 := Lib.hid HI.out.below
        subst e
        have hny := Lib.hid (NY.out wr q (by omega) (by omega))
        by_cases h4 : a + 6 + 6 * q + 4 ≤ n
        · have hx1 := Lib.hid (RX.out wr HI.out.below q (by omega))
          clear h6 h4
          go_wp2_with fail
          refine (hx1.out).mono ?_; rintro _ w5 ⟨rfl, rfl⟩
          go_wp2_with fail
          refine (hny.out).mono ?_; rintro _ w5 ⟨rfl, rfl⟩
          go_wp2_with (refine wpList_put rfl 24 _ _ rfl w.heap.size [.int .i64 0, .string ByteArray.empty, .int .i64 0, .int .i64 0, .slice none 0 0, .int .i64 0, .int .i64 0, .int .i64 0, .int .i64 0] rfl rfl D4.out (by kernel_rfl) (by simp [Value.oneCell']) ?_; intro w9 hp9; obtain ⟨x0, x1, x2, x3, x4, x5, x6, x7, x8⟩ := Holds.nine hp9.at_; have B9 := Lib.hid (hp9.below (Nat.le_refl _) B4.out); clear hp9)
          exact bodyPost_ret (v := .tuple #[.agg #[.int .i64 0, .string ByteArray.empty, .int .i64 0, .int .i64 0, .slice none 0 0, .int .i64 0, .int .i64 0, .int .i64 0, .int .i64 0], .int .i64 7]) (by simp [results, Tryd.results36, go_sem, x0, x1, x2, x3, x4, x5, x6, x7, x8]) rfl ⟨_, rfl, rc_plain _ _ _ _ _ _ _, B9.out⟩
        · have hx1 := Lib.hid (NX.out wr q (by omega) (by omega))
          clear h6 h4
          go_wp2_with fail
          refine (hx1.out).mono ?_; rintro _ w5 ⟨rfl, rfl⟩
          go_wp2_with fail
          refine (hny.out).mono ?_; rintro _ w5 ⟨rfl, rfl⟩
          go_wp2_with (refine wpList_put rfl 24 _ _ rfl w.heap.size [.int .i64 0, .string ByteArray.empty, .int .i64 0, .int .i64 0, .slice none 0 0, .int .i64 0, .int .i64 0, .int .i64 0, .int .i64 0] rfl rfl D4.out (by kernel_rfl) (by simp [Value.oneCell']) ?_; intro w9 hp9; obtain ⟨x0, x1, x2, x3, x4, x5, x6, x7, x8⟩ := Holds.nine hp9.at_; have B9 := Lib.hid (hp9.below (Nat.le_refl _) B4.out); clear hp9)
          exact bodyPost_ret (v := .tuple #[.agg #[.int .i64 0, .string ByteArray.empty, .int .i64 0, .int .i64 0, .slice none 0 0, .int .i64 0, .int .i64 0, .int .i64 0, .int .i64 0], .int .i64 7]) (by simp [results, Tryd.results36, go_sem, x0, x1, x2, x3, x4, x5, x6, x7, x8]) rfl ⟨_, rfl, rc_plain _ _ _ _ _ _ _, B9.out⟩
    · obtain rfl : q = Q := by omega
      have hform : ∃ A c, u = .slice A q c ∧ TS w wr [.int .i64 (K : Nat), .string ss, .int .i64 (M : Nat), .int .i64 (Fv : Nat), u, .int .i64 0, .int .i64 0, .int .i64 0, .int .i64 0] u (rgsOf q (l.drop (a + 6))) := by
        obtain ⟨A, c, hv, h3⟩ := RgNew.out HI.out.row
        rw [rgsOf_length] at hv
        exact ⟨A, c, hv, HI.out⟩
      obtain ⟨Au, cu, rfl, ht3⟩ := hform
      have T3 := Lib.hid ht3
      have hK1 : ((K : Nat) : Int) = 1 := by rw [HK2.out]; rfl
      have hRT := HT9.out
      obtain ⟨RR, hRR⟩ : ∃ r : PR, (rGuess l) = r := ⟨_, rfl⟩
      have hrk : Bytes RR.path ∧ RR.rungs.length ≤ 100000 := by rw [← hRR, HG.out]; exact ⟨HPB.out, by show (rgsOf _ _).length ≤ 100000; rw [rgsOf_length]; omega⟩
      have hrcv : ∀ W, RgNew (w.heap.size + 2) W (.slice Au q cu) (rgsOf q (l.drop (a + 6))) → RcNew w.heap.size W (.agg #[.int .i64 (K : Nat), .string ss, .int .i64 (M : Nat), .int .i64 (Fv : Nat), .slice Au q cu, .int .i64 0, .int .i64 0, .int .i64 0, .int .i64 0]) RR := fun W h => by
        rw [← hRR, HG.out]
        exact ⟨.slice Au q cu, by rw [hK1, ← HSS.out]; rfl, h.mono (by omega)⟩
      rw [hRR] at hRT
      have hcs : (rRight RR = true ∧ rPut RR = (rBytes RR, 0) ∧ rBytes RR = l ∧ TT = (RR, 0)) ∨ (rRight RR = true ∧ rPut RR = (rBytes RR, 0) ∧ ¬ rBytes RR = l ∧ TT = (PR.zero, 7)) ∨ (rRight RR = false ∧ rPut RR = ([], 1) ∧ TT = (PR.zero, 7)) := by
        unfold rPut
        by_cases h1 : rRight RR = true
        · by_cases h2 : rBytes RR = l
          · exact Or.inl ⟨h1, if_pos h1, h2, by rw [hRT, if_pos ⟨h1, h2⟩]⟩
          · exact Or.inr (Or.inl ⟨h1, if_pos h1, h2, by rw [hRT, if_neg (fun g => h2 g.2)]⟩)
        · exact Or.inr (Or.inr ⟨by simpa using h1, if_neg h1, by rw [hRT, if_neg (fun g => h1 g.1)]⟩)
      have PT := Lib.hid (fun (v : Value) (W : World) (h : RcOut W v RR) => put_c v RR hrk.1 hrk.2 W h)
      have HRK := Lib.hid hrk; have RCV := Lib.hid hrcv; have CASE := Lib.hid hcs
      clear hRT hcs hrcv hrk hK1 HI ht3
      obtain ⟨r0, r1, r2, r3, r4, r5, r6, r7, r8⟩ := Holds.nine T3.out.bx
      go_wp2_with fail
      clear r0 r1 r2 r3 r4 r5 r6 r7 r8 cq
      rcases CASE.out with ⟨hr, hP, he, hq⟩ | ⟨hr, hP, he, hq⟩ | ⟨hr, hP, hq⟩
      · rw [hP] at PT
        subst hq
        refine (PT.out _ wr (RCV.out _ T3.out.row).out).mono ?_; rintro _ w4 ⟨v4, rfl, hn4, hb4⟩
        have T4 := Lib.hid (T3.out.next hb4)
        have D4 := Lib.hid T4.out.d0; have B4 := Lib.hid T4.out.below
        obtain ⟨A5, c5, hv5, _, _⟩ := hn4.form
        have hcb := conv_by (rBytes_bytes hr HRK.out.1) (show ByOut w4 (.slice A5 (rBytes RR).length c5) (rBytes RR) by rw [← hv5]; exact hn4.out)
        have hcp := conv_by HB.out (show ByOut w4 (.slice (some ⟨b, off, none⟩) n c) l by have := HO.out.below B4.out; rw [HL.out] at this; exact this)
        have hse := strB_eq (rBytes_bytes hr HRK.out.1) HB.out
        obtain ⟨n5, hn5⟩ : ∃ n, (rBytes RR).length = n := ⟨_, rfl⟩
        rw [hn5] at hv5 hcb
        subst hv5
        rw [decide_eq_true he] at hse
        obtain ⟨sb, hsb⟩ : ∃ s, strB (rBytes RR) = s := ⟨_, rfl⟩
        obtain ⟨sp, hsp⟩ : ∃ s, strB l = s := ⟨_, rfl⟩
        rw [hsb, hsp] at hse
        rw [hsb] at hcb
        rw [hsp] at hcp
        clear hn4 hb4 hsb hsp hn5
        clear hr hP he
        have hse2 : (sb.toList != sp.toList) = false := by simp only [bne, hse]; rfl
        obtain ⟨y0, y1, y2, y3, y4, y5, y6, y7, y8⟩ := Holds.nine T4.out.bx
        go_wp2_with (refine wpList_put rfl 24 _ _ rfl w.heap.size [.int .i64 (K : Nat), .string ss, .int .i64 (M : Nat), .int .i64 (Fv : Nat), .slice Au q cu, .int .i64 0, .int .i64 0, .int .i64 0, .int .i64 0] rfl rfl D4.out (by kernel_rfl) (by simp [Value.oneCell']) ?_; intro w9 hp9; obtain ⟨x0, x1, x2, x3, x4, x5, x6, x7, x8⟩ := Holds.nine hp9.at_; have B9 := Lib.hid (hp9.below (Nat.le_refl _) B4.out); have R9 := Lib.hid (RCV.out _ (T4.out.row.grown hp9.grown (fun g e => by injection e; omega))); clear hp9)
        exact bodyPost_ret (v := .tuple #[.agg #[.int .i64 (K : Nat), .string ss, .int .i64 (M : Nat), .int .i64 (Fv : Nat), .slice Au q cu, .int .i64 0, .int .i64 0, .int .i64 0, .int .i64 0], .int .i64 0]) (by simp [results, Tryd.results36, go_sem, x0, x1, x2, x3, x4, x5, x6, x7, x8]) rfl ⟨_, rfl, R9.out, B9.out⟩
      · rw [hP] at PT
        subst hq
        refine (PT.out _ wr (RCV.out _ T3.out.row).out).mono ?_; rintro _ w4 ⟨v4, rfl, hn4, hb4⟩
        have T4 := Lib.hid (T3.out.next hb4)
        have D4 := Lib.hid T4.out.d0; have B4 := Lib.hid T4.out.below
        obtain ⟨A5, c5, hv5, _, _⟩ := hn4.form
        have hcb := conv_by (rBytes_bytes hr HRK.out.1) (show ByOut w4 (.slice A5 (rBytes RR).length c5) (rBytes RR) by rw [← hv5]; exact hn4.out)
        have hcp := conv_by HB.out (show ByOut w4 (.slice (some ⟨b, off, none⟩) n c) l by have := HO.out.below B4.out; rw [HL.out] at this; exact this)
        have hse := strB_eq (rBytes_bytes hr HRK.out.1) HB.out
        obtain ⟨n5, hn5⟩ : ∃ n, (rBytes RR).length = n := ⟨_, rfl⟩
        rw [hn5] at hv5 hcb
        subst hv5
        rw [decide_eq_false he] at hse
        obtain ⟨sb, hsb⟩ : ∃ s, strB (rBytes RR) = s := ⟨_, rfl⟩
        obtain ⟨sp, hsp⟩ : ∃ s, strB l = s := ⟨_, rfl⟩
        rw [hsb, hsp] at hse
        rw [hsb] at hcb
        rw [hsp] at hcp
        clear hn4 hb4 hsb hsp hn5
        clear hr hP he
        have hse2 : (sb.toList != sp.toList) = true := by simp only [bne, hse]; rfl
        go_wp2_with (refine wpList_put rfl 24 _ _ rfl w.heap.size [.int .i64 0, .string ByteArray.empty, .int .i64 0, .int .i64 0, .slice none 0 0, .int .i64 0, .int .i64 0, .int .i64 0, .int .i64 0] rfl rfl D4.out (by kernel_rfl) (by simp [Value.oneCell']) ?_; intro w9 hp9; obtain ⟨x0, x1, x2, x3, x4, x5, x6, x7, x8⟩ := Holds.nine hp9.at_; have B9 := Lib.hid (hp9.below (Nat.le_refl _) B4.out); clear hp9)
        exact bodyPost_ret (v := .tuple #[.agg #[.int .i64 0, .string ByteArray.empty, .int .i64 0, .int .i64 0, .slice none 0 0, .int .i64 0, .int .i64 0, .int .i64 0, .int .i64 0], .int .i64 7]) (by simp [results, Tryd.results36, go_sem, x0, x1, x2, x3, x4, x5, x6, x7, x8]) rfl ⟨_, rfl, rc_plain _ _ _ _ _ _ _, B9.out⟩
      · rw [hP] at PT
        subst hq
        refine (PT.out _ wr (RCV.out _ T3.out.row).out).mono ?_; rintro _ w4 ⟨v4, rfl, hn4, hb4⟩
        have T4 := Lib.hid (T3.out.next hb4)
        have D4 := Lib.hid T4.out.d0; have B4 := Lib.hid T4.out.below
        clear hn4 hb4 hr hP
        go_wp2_with (refine wpList_put rfl 24 _ _ rfl w.heap.size [.int .i64 0, .string ByteArray.empty, .int .i64 0, .int .i64 0, .slice none 0 0, .int .i64 0, .int .i64 0, .int .i64 0, .int .i64 0] rfl rfl D4.out (by kernel_rfl) (by simp [Value.oneCell']) ?_; intro w9 hp9; obtain ⟨x0, x1, x2, x3, x4, x5, x6, x7, x8⟩ := Holds.nine hp9.at_; have B9 := Lib.hid (hp9.below (Nat.le_refl _) B4.out); clear hp9)
        exact bodyPost_ret (v := .tuple #[.agg #[.int .i64 0, .string ByteArray.empty, .int .i64 0, .int .i64 0, .slice none 0 0, .int .i64 0, .int .i64 0, .int .i64 0, .int .i64 0], .int .i64 7]) (by simp [results, Tryd.results36, go_sem, x0, x1, x2, x3, x4, x5, x6, x7, x8]) rfl ⟨_, rfl, rc_plain _ _ _ _ _ _ _, B9.out⟩
end Go.Proofs.YtabbpgnenmpacaaDoor.SR
/-
  Contracts of the document's own functions of layer 8 (isobarref08): Take, of any bytes.
-/
set_option linter.unusedSimpArgs false
set_option linter.unusedVariables false
namespace Go.Proofs.YtabbpgnenmpacaaDoor.SR
open Go Go.RowKit
open CR (below_next own_ge u8_wrap)
open SP (rc_plain rgsOf_length rgsOf_snoc nOf_one i64_small rRead_ok rTake_read rRead)
theorem take_c (v : Value) (l : List Nat) (hb : Bytes l) (hl : l.length ≤ 9223372036854775807) (w : World) (ho : ByOut w v l) :
    Calls Tryd.prog 36 #[v] w fun e w' => ∃ v', e = .returned (.tuple #[v', .int .i64 (rTake l).2]) ∧ RcNew w.heap.size w' v' (rTake l).1 ∧ Below w.heap.size w w' := by
  by_cases h0 : l = []
  · exact take_empty v l hb hl w ho h0
  · by_cases h1 : l.headD 0 = 1
    · by_cases hs : l.length < 9 + nOf 2 (l.drop 1)
      · exact take_short v l hb hl w ho h0 h1 hs
      · exact take_main v l hb hl w ho h0 h1 (by omega)
    · by_cases h2 : l.headD 0 = 2
      · exact take_two v l hb hl w ho h0 h2
      · by_cases h3 : l.headD 0 = 3
        · exact take_three v l hb hl w ho h0 h3
        · exact take_other v l hb hl w ho h0 (by omega)
end Go.Proofs.YtabbpgnenmpacaaDoor.SR
