/-
  Contracts of the document's own functions of layer 8 (isobarref08): Take, of a short head.
-/
import Derived.Test.YtabbpgnenmpacaaSegTkA
set_option linter.unusedSimpArgs false
set_option linter.unusedVariables false
namespace Go.Proofs.Ytabbpgnenmpacaa.SR
open Go Go.RowKit
open CR (below_next own_ge u8_wrap)
open SP (rc_plain rgsOf_length rgsOf_snoc nOf_one i64_small rRead_ok rTake_read rRead)
set_option maxRecDepth 100000 in
set_option maxHeartbeats 2000000 in
theorem take_short (v : Value) (l : List Nat) (hb : Bytes l) (hl : l.length ≤ 9223372036854775807) (w : World) (ho : ByOut w v l) (hk0 : ¬ l = []) (hk : l.headD 0 = 1) (hs : l.length < 9 + nOf 2 (l.drop 1)) :
    Calls Try.prog 8 #[v] w fun e w' => ∃ v', e = .returned (.tuple #[v', .int .i64 (rTake l).2]) ∧ RcNew w.heap.size w' v' (rTake l).1 ∧ Below w.heap.size w w' := by
  obtain ⟨A, c, rfl, hc, hx⟩ := id ho
  obtain ⟨n, hln⟩ : ∃ n, l.length = n := ⟨_, rfl⟩
  obtain ⟨TT, hTT⟩ : ∃ T, rTake l = T := ⟨_, rfl⟩
  rw [hTT, hln]
  rw [hln] at hc hl
  have hn0 : 0 < l.length := by
    cases l with
    | nil => simp at hk0
    | cons a l => simp
  obtain ⟨b, off, rfl, ha⟩ := hx (List.length_pos_iff.1 hn0)
  have hhd : l[0] = l.headD 0 := by
    cases l with
    | nil => simp at hn0
    | cons a l => rfl
  have hc0 := ha 0 _ (List.getElem?_eq_getElem hn0)
  rw [hhd, Nat.add_zero] at hc0
  obtain ⟨K, hK⟩ : ∃ K, l.headD 0 = K := ⟨_, rfl⟩
  rw [hK] at hc0 hk
  have hK256 : K < 256 := by
    rw [← hK, ← nOf_one]
    exact Nat.lt_of_lt_of_le (nOf_lt 1 _ hb) (by decide)
  have hb1 : Below w.heap.size w ((w.alloc (.cells ([.int .i64 0, .string ByteArray.empty, .int .i64 0, .int .i64 0, .slice none 0 0, .int .i64 0, .int .i64 0, .int .i64 0, .int .i64 0] : List Value).toArray 27)).alloc (.cells ([.int .i64 0, .string ByteArray.empty, .int .i64 0, .int .i64 0, .slice none 0 0, .int .i64 0, .int .i64 0, .int .i64 0, .int .i64 0] : List Value).toArray 27)) := (alloc_below w _).trans ((alloc_below _ _).mono (by simp))
  have c0 := hc0
  have hblt : b < w.heap.size := World.block_lt_of_cell? w _ hc0
  have hbne : ¬ b = w.heap.size := by omega
  have hbne2 : ¬ b = w.heap.size + 1 := by omega
  have hts := ts_start w [.int .i64 0, .string ByteArray.empty, .int .i64 0, .int .i64 0, .slice none 0 0, .int .i64 0, .int .i64 0, .int .i64 0, .int .i64 0] [.int .i64 0, .string ByteArray.empty, .int .i64 0, .int .i64 0, .slice none 0 0, .int .i64 0, .int .i64 0, .int .i64 0, .int .i64 0] 27 rfl rfl
  have p0 := hts.bx 0 _ rfl
  have q0 := hts.dv.f 0 (by decide)
  have HTS := Lib.hid (ts_start w [.int .i64 0, .string ⟨#[]⟩, .int .i64 0, .int .i64 0, .slice none 0 0, .int .i64 0, .int .i64 0, .int .i64 0, .int .i64 0] [.int .i64 (K : Nat), .string ⟨#[]⟩, .int .i64 0, .int .i64 0, .slice none 0 0, .int .i64 0, .int .i64 0, .int .i64 0, .int .i64 0] 27 rfl rfl)
  rw [hln] at hn0
  have hn1 : (0 : Int) < (n : Int) := by omega
  have hn2 : ¬ (n : Int) = 0 := by omega
  have hqn : ((n : Int) == 0) = false := beq_false_of_ne hn2
  have HL := Lib.hid hln; have HB := Lib.hid hb; have HO := Lib.hid ho; have HKK := Lib.hid hK; have HT := Lib.hid hTT; have HA := Lib.hid ha
  have WR := Lib.hid (show ∀ q : List Nat, Bytes q → IntKind.i64.wrap ((nOf 8 q : Nat) : Int) = i64 (nOf 8 q) from fun q hq => by
    have hN : nOf 8 q < 18446744073709551616 := Nat.lt_of_lt_of_le (nOf_lt 8 q hq) (by decide)
    generalize nOf 8 q = N at *
    rw [IntKind.wrap_i64]
    unfold i64
    split <;> omega)
  have RD := Lib.hid (fun (W : World) (hB : Below w.heap.size w W) (at' k : Nat) (hk : k ≤ 8) (h : at' + k ≤ n) => by
    have h2 := read_c (.slice (some ⟨b, off, none⟩) l.length c) l hb (by rw [hln]; exact hl) at' k hk (by rw [hln]; exact h) W (ho.below hB)
    rw [hln] at h2
    exact h2)
  have HN9 := Lib.hid (show (n : Int) ≤ 9223372036854775807 by omega)
  have q1 : ((K : Int) == 1) = true := by rw [hk]; rfl
  obtain ⟨N, hN⟩ : ∃ N, nOf 2 (l.drop 1) = N := ⟨_, rfl⟩
  have hN2 : N < 65536 := by rw [← hN]; exact Nat.lt_of_lt_of_le (nOf_lt 2 _ (hb.drops 1)) (by decide)
  have hwN : IntKind.i64.wrap (N : Int) = (N : Int) := by rw [IntKind.wrap_i64]; omega
  have e : TT = (PR.zero, 7) := by rw [← hTT]; exact rTake_short (hK.trans hk) (by omega)
  subst e
  rw [hN, hln] at hs
  by_cases h3 : n < 3
  · have RN := Lib.hid (fun (W : World) => read_no (some ⟨b, off, none⟩) n c 1 2 hl (by decide) (by decide) (by omega) W)
    clear hTT hln hb ho hK hk hx ha hc0 hhd hc hl hb1 hs h3 hN
    go_enter Try.func8, Try.ntmps8
    go_wp2_with fail
    refine (RN.out _).mono ?_; rintro _ w2 ⟨rfl, rfl⟩
    go_wp2
    exact bodyPost_ret (v := .tuple #[.agg #[.int .i64 0, .string ByteArray.empty, .int .i64 0, .int .i64 0, .slice none 0 0, .int .i64 0, .int .i64 0, .int .i64 0, .int .i64 0], .int .i64 7]) (by simp [results, Try.results8, go_sem]; rfl) rfl ⟨_, rfl, rc_plain _ _ _ _ _ _ _, (alloc_below w _).trans ((alloc_below _ _).mono (by simp))⟩
  · have RN := Lib.hid (fun (W : World) (hB : Below w.heap.size w W) => RD.out W hB 1 2 (by decide) (by omega))
    rw [hN] at RN
    have HB1 := Lib.hid (hb1.trans (Below.refl _ _))
    have hsi : (n : Int) < 3 + (N : Int) + 6 := by omega
    clear hTT hln hb ho hK hk hx ha hc0 hhd hc hl hb1 hs hN
    go_enter Try.func8, Try.ntmps8
    go_wp2_with fail
    refine (RN.out _ ((alloc_below w _).trans ((alloc_below _ _).mono (by simp)))).mono ?_; rintro _ w2 ⟨rfl, rfl⟩
    go_wp2
    exact bodyPost_ret (v := .tuple #[.agg #[.int .i64 0, .string ByteArray.empty, .int .i64 0, .int .i64 0, .slice none 0 0, .int .i64 0, .int .i64 0, .int .i64 0, .int .i64 0], .int .i64 7]) (by simp [results, Try.results8, go_sem]; rfl) rfl ⟨_, rfl, rc_plain _ _ _ _ _ _ _, (alloc_below w _).trans ((alloc_below _ _).mono (by simp))⟩
end Go.Proofs.Ytabbpgnenmpacaa.SR
