/-
  Contracts of the document's own functions of layer 8 (isobarref08): Take, of other bytes.
-/
import Derived.Test.YtabbpgnenmpacaaSegTkA
set_option linter.unusedSimpArgs false
set_option linter.unusedVariables false
namespace Go.Proofs.Ytabbpgnenmpacaa.SR
open Go Go.RowKit
open CR (below_next own_ge u8_wrap)
open SP (rc_plain rgsOf_length rgsOf_snoc nOf_one i64_small rRead_ok rTake_read rRead)
set_option maxRecDepth 100000 in
set_option maxHeartbeats 2000000 in
theorem take_empty (v : Value) (l : List Nat) (hb : Bytes l) (hl : l.length ≤ 9223372036854775807) (w : World) (ho : ByOut w v l) (hk0 : l = []) :
    Calls Try.prog 8 #[v] w fun e w' => ∃ v', e = .returned (.tuple #[v', .int .i64 (rTake l).2]) ∧ RcNew w.heap.size w' v' (rTake l).1 ∧ Below w.heap.size w w' := by
  subst hk0
  obtain ⟨A, c, rfl, hc, hx⟩ := id ho
  rw [rTake_empty]
  clear hb hl ho hc hx
  go_enter Try.func8, Try.ntmps8
  go_wp2
  exact bodyPost_ret (v := .tuple #[.agg #[.int .i64 0, .string ByteArray.empty, .int .i64 0, .int .i64 0, .slice none 0 0, .int .i64 0, .int .i64 0, .int .i64 0, .int .i64 0], .int .i64 7]) (by simp [results, Try.results8, go_sem]; rfl) rfl ⟨_, rfl, rc_plain _ _ _ _ _ _ _, (alloc_below w _).trans ((alloc_below _ _).mono (by simp))⟩
set_option maxRecDepth 100000 in
set_option maxHeartbeats 2000000 in
theorem take_other (v : Value) (l : List Nat) (hb : Bytes l) (hl : l.length ≤ 9223372036854775807) (w : World) (ho : ByOut w v l) (hk0 : ¬ l = []) (hk : ¬ (l.headD 0 = 1 ∨ l.headD 0 = 2 ∨ l.headD 0 = 3)) :
    Calls Try.prog 8 #[v] w fun e w' => ∃ v', e = .returned (.tuple #[v', .int .i64 (rTake l).2]) ∧ RcNew w.heap.size w' v' (rTake l).1 ∧ Below w.heap.size w w' := by
  obtain ⟨A, c, rfl, hc, hx⟩ := id ho
  obtain ⟨n, hln⟩ : ∃ n, l.length = n := ⟨_, rfl⟩
  obtain ⟨TT, hTT⟩ : ∃ T, rTake l = T := ⟨_, rfl⟩
  rw [hTT, hln]
  rw [hln] at hc hl
  have hn0 : 0 < l.length := by
    cases l with
    | nil => simp at hk0
    | cons a l => simp
  obtain ⟨b, off, rfl, ha⟩ := hx (List.length_pos_iff.1 hn0)
  have hhd : l[0] = l.headD 0 := by
    cases l with
    | nil => simp at hn0
    | cons a l => rfl
  have hc0 := ha 0 _ (List.getElem?_eq_getElem hn0)
  rw [hhd, Nat.add_zero] at hc0
  obtain ⟨K, hK⟩ : ∃ K, l.headD 0 = K := ⟨_, rfl⟩
  rw [hK] at hc0 hk
  have hK256 : K < 256 := by
    rw [← hK, ← nOf_one]
    exact Nat.lt_of_lt_of_le (nOf_lt 1 _ hb) (by decide)
  have hb1 : Below w.heap.size w ((w.alloc (.cells ([.int .i64 0, .string ByteArray.empty, .int .i64 0, .int .i64 0, .slice none 0 0, .int .i64 0, .int .i64 0, .int .i64 0, .int .i64 0] : List Value).toArray 27)).alloc (.cells ([.int .i64 0, .string ByteArray.empty, .int .i64 0, .int .i64 0, .slice none 0 0, .int .i64 0, .int .i64 0, .int .i64 0, .int .i64 0] : List Value).toArray 27)) := (alloc_below w _).trans ((alloc_below _ _).mono (by simp))
  have c0 := hc0
  have hblt : b < w.heap.size := World.block_lt_of_cell? w _ hc0
  have hbne : ¬ b = w.heap.size := by omega
  have hbne2 : ¬ b = w.heap.size + 1 := by omega
  have hts := ts_start w [.int .i64 0, .string ByteArray.empty, .int .i64 0, .int .i64 0, .slice none 0 0, .int .i64 0, .int .i64 0, .int .i64 0, .int .i64 0] [.int .i64 0, .string ByteArray.empty, .int .i64 0, .int .i64 0, .slice none 0 0, .int .i64 0, .int .i64 0, .int .i64 0, .int .i64 0] 27 rfl rfl
  have p0 := hts.bx 0 _ rfl
  have q0 := hts.dv.f 0 (by decide)
  have HTS := Lib.hid (ts_start w [.int .i64 0, .string ⟨#[]⟩, .int .i64 0, .int .i64 0, .slice none 0 0, .int .i64 0, .int .i64 0, .int .i64 0, .int .i64 0] [.int .i64 (K : Nat), .string ⟨#[]⟩, .int .i64 0, .int .i64 0, .slice none 0 0, .int .i64 0, .int .i64 0, .int .i64 0, .int .i64 0] 27 rfl rfl)
  rw [hln] at hn0
  have hn1 : (0 : Int) < (n : Int) := by omega
  have hn2 : ¬ (n : Int) = 0 := by omega
  have hqn : ((n : Int) == 0) = false := beq_false_of_ne hn2
  have HL := Lib.hid hln; have HB := Lib.hid hb; have HO := Lib.hid ho; have HKK := Lib.hid hK; have HT := Lib.hid hTT; have HA := Lib.hid ha
  have WR := Lib.hid (show ∀ q : List Nat, Bytes q → IntKind.i64.wrap ((nOf 8 q : Nat) : Int) = i64 (nOf 8 q) from fun q hq => by
    have hN : nOf 8 q < 18446744073709551616 := Nat.lt_of_lt_of_le (nOf_lt 8 q hq) (by decide)
    generalize nOf 8 q = N at *
    rw [IntKind.wrap_i64]
    unfold i64
    split <;> omega)
  have RD := Lib.hid (fun (W : World) (hB : Below w.heap.size w W) (at' k : Nat) (hk : k ≤ 8) (h : at' + k ≤ n) => by
    have h2 := read_c (.slice (some ⟨b, off, none⟩) l.length c) l hb (by rw [hln]; exact hl) at' k hk (by rw [hln]; exact h) W (ho.below hB)
    rw [hln] at h2
    exact h2)
  have HN9 := Lib.hid (show (n : Int) ≤ 9223372036854775807 by omega)
  have q1 : ((K : Int) == 1) = false := beq_false_of_ne (by omega)
  have q2 : ((K : Int) == 2) = false := beq_false_of_ne (by omega)
  have q3 : ((K : Int) == 3) = false := beq_false_of_ne (by omega)
  have HK2 := Lib.hid hk
  have hro := rTake_other (l := l) (R := ⟨(K : Nat), [], 0, 0, [], 0, 0, 0, 0⟩) (by rw [hK]; exact hk) (by rw [hK])
  obtain ⟨RR, hRR⟩ : ∃ r : PR, (⟨(K : Nat), [], 0, 0, [], 0, 0, 0, 0⟩) = r := ⟨_, rfl⟩
  have hrk : Bytes RR.path ∧ RR.rungs.length ≤ 100000 := by rw [← hRR]; exact ⟨fun _ h => (by cases h), Nat.zero_le _⟩
  have hrcv : ∀ W, RgNew (w.heap.size + 2) W (.slice none 0 0) [] → RcNew w.heap.size W (.agg #[.int .i64 (K : Nat), .string ByteArray.empty, .int .i64 0, .int .i64 0, .slice none 0 0, .int .i64 0, .int .i64 0, .int .i64 0, .int .i64 0]) RR := fun W h => by rw [← hRR]; exact rc_plain _ _ _ _ _ _ _
  have hP : rPut RR = ([], 1) := by
    unfold rPut
    rw [← hRR, hro.2]
    rfl
  have PT := Lib.hid (fun (v : Value) (W : World) (h : RcOut W v RR) => put_c v RR hrk.1 hrk.2 W h)
  rw [hP] at PT
  have HRK := Lib.hid hrk; have RCV := Lib.hid hrcv
  have e : TT = (PR.zero, 7) := by rw [← hTT]; exact hro.1
  subst e
  clear hTT hln hb ho hK hk hx ha hc0 hhd hc hl hb1 hro hP hrk hrcv
  go_enter Try.func8, Try.ntmps8
  go_wp2_with fail
  refine gen_calls (F := fun W => TS w W [.int .i64 (K : Nat), .string ByteArray.empty, .int .i64 0, .int .i64 0, .slice none 0 0, .int .i64 0, .int .i64 0, .int .i64 0, .int .i64 0] (.slice none 0 0) []) HTS.out ?_
  intro w3 hts1
  have T3 := Lib.hid hts1
  clear hts1 hts p0 q0 c0 HTS
  refine (PT.out _ w3 (RCV.out _ T3.out.row).out).mono ?_; rintro _ w4 ⟨v4, rfl, hn4, hb4⟩
  have T4 := Lib.hid (T3.out.next hb4)
  have D4 := Lib.hid T4.out.d0; have B4 := Lib.hid T4.out.below
  clear hn4 hb4
  go_wp2_with (refine wpList_put rfl 27 _ _ rfl w.heap.size [.int .i64 0, .string ByteArray.empty, .int .i64 0, .int .i64 0, .slice none 0 0, .int .i64 0, .int .i64 0, .int .i64 0, .int .i64 0] rfl rfl D4.out (by kernel_rfl) (by simp [Value.oneCell']) ?_; intro w9 hp9; obtain ⟨x0, x1, x2, x3, x4, x5, x6, x7, x8⟩ := Holds.nine hp9.at_; have B9 := Lib.hid (hp9.below (Nat.le_refl _) B4.out); clear hp9)
  exact bodyPost_ret (v := .tuple #[.agg #[.int .i64 0, .string ByteArray.empty, .int .i64 0, .int .i64 0, .slice none 0 0, .int .i64 0, .int .i64 0, .int .i64 0, .int .i64 0], .int .i64 7]) (by simp [results, Try.results8, go_sem, x0, x1, x2, x3, x4, x5, x6, x7, x8]) rfl ⟨_, rfl, rc_plain _ _ _ _ _ _ _, B9.out⟩
end Go.Proofs.Ytabbpgnenmpacaa.SR
