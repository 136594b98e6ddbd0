/-
  Contracts of the document's own functions of layer 3 (isobarref03), the fourth part: a number's text parsed.
-/
import Derived.Test.YtnnilllnkklecaaDoorDecRun
import Derived.Test.YtnnilllnkklecaaDoorDecRef
set_option linter.unusedSimpArgs false
set_option linter.unusedVariables false
namespace Go.Proofs.YtnnilllnkklecaaDoor.DR
open Go.RowKit

theorem fin_same (fr up neg : Bool) (n : Nat) (N : Int) (h : N = n) : (if fr = true ∨ 9223372036854775807 < (if up then n + 1 else n) then ((0 : Int), (3 : Int)) else (if neg then -((if up then n + 1 else n : Nat) : Int) else ((if up then n + 1 else n : Nat) : Int), 0)) =
    (if fr = true ∨ 9223372036854775807 < (if up then N + 1 else N) then (0, 3) else (if neg then -(if up then N + 1 else N) else (if up then N + 1 else N), 0)) := by
  subst h
  cases up
  · simp only [Bool.false_eq_true, if_false]
    by_cases hb : 9223372036854775807 < n
    · rw [if_pos (.inr hb), if_pos (.inr (by omega))]
    · have e : (fr = true ∨ 9223372036854775807 < n) ↔ (fr = true ∨ (9223372036854775807 : Int) < n) := by constructor <;> (rintro (h | h) <;> first | exact .inl h | exact .inr (by omega))
      simp only [e]
  · simp only [if_true]
    have e : (fr = true ∨ 9223372036854775807 < n + 1) ↔ (fr = true ∨ (9223372036854775807 : Int) < n + 1) := by constructor <;> (rintro (h | h) <;> first | exact .inl h | exact .inr (by omega))
    simp only [e, Int.natCast_add, Int.natCast_one]
theorem parse_long (s : ByteArray) (hs : s.size ≤ 9223372036854775807) (hl : 64 < s.size) (w : World) :
    Calls Tryd.prog 9 #[.string s] w fun e w' => e = .returned (.tuple #[.agg #[.bool false, .int .i64 (refP (bs s)).1], .int .i64 (refP (bs s)).2]) ∧ Below w.heap.size w w' := by
  have hfin : refP (bs s) = (0, 12) := if_pos (by rw [bs_length]; exact hl)
  have HF := Lib.hid hfin
  clear hfin
  go_enter Tryd.func9, Tryd.ntmps9
  go_wp2
  refine bodyPost_ret (v := .tuple #[.agg #[.bool false, .int .i64 0], .int .i64 12]) (by simp [results, Tryd.results9, go_sem]) rfl ⟨?_, (Below.refl _ _).alloc (Nat.le_refl _) _⟩
  rw [HF.out]
theorem bs_tail (s : ByteArray) (h : 0 < s.size) : bs (s.extract 1 s.size) = (bs s).drop 1 := by
  obtain ⟨⟨l⟩⟩ := s
  simp [bs, ByteArray.extract_mk]
  rw [List.take_of_length_le]
  simp [ByteArray.size]
theorem tail_size (s : ByteArray) (h : 0 < s.size) : (s.extract 1 s.size).size = s.size - 1 := by
  rw [← bs_length, bs_tail s h, List.length_drop, bs_length]
theorem bs_ne {s : ByteArray} (h : 0 < s.size) : bs s ≠ [] := by
  intro e
  have := bs_length s
  rw [e] at this
  simp at this
  omega
theorem ref_short {s : ByteArray} (hl : s.size ≤ 64) : refP (bs s) = PSt.all (cut1 (bs s)) (sgnB (bs s)) := if_neg (by rw [bs_length]; omega)
set_option maxRecDepth 100000 in
set_option maxHeartbeats 4000000 in
theorem parse_plain (s : ByteArray) (hl : s.size ≤ 64) (h0 : 0 < s.size) (c0 : Nat) (hc0 : (s[0]'h0).toNat = c0) (h45 : c0 ≠ 45) (h43 : c0 ≠ 43) (w : World) :
    Calls Tryd.prog 9 #[.string s] w fun e w' => e = .returned (.tuple #[.agg #[.bool false, .int .i64 (refP (bs s)).1], .int .i64 (refP (bs s)).2]) ∧ Below w.heap.size w w' := by
  have HS := Lib.hid (show refP (bs s) = PSt.all (bs s) false from by
    have e0 : byteAt (bs s) 0 = c0 := (at_byte h0).symm.trans hc0
    rw [ref_short hl, show cut1 (bs s) = bs s from if_neg (by rw [e0]; rintro ⟨-, h | h⟩ <;> contradiction), show sgnB (bs s) = false from by unfold sgnB; rw [e0, decide_eq_false_iff_not]; exact fun h => h45 h.1])
  have hl' : ¬ 64 < s.size := by omega
  have t45 : ((c0 : Int) == 45) = false := by rw [beq_eq_false_iff_ne]; omega
  have t43 : ((c0 : Int) == 43) = false := by rw [beq_eq_false_iff_ne]; omega
  go_enter Tryd.func9, Tryd.ntmps9
  go_wp2
  go_loop [5, 6, 7, 8, 9, 10, 11] (fun vd vp vb vn vf vu vi => ∃ (k d p b : Nat) (N : Int) (far up : Bool), k ≤ s.size ∧ vi = .int .i64 k ∧ vd = .int .i64 d ∧ vp = .int .i64 p ∧ vb = .int .i64 b ∧ vn = .int .u64 N ∧ vf = .bool far ∧ vu = .bool up ∧ d ≤ k ∧ p ≤ k ∧ b ≤ k ∧ 0 ≤ N ∧ N ≤ 11529215046068469769 ∧
      Hid (∃ n : Nat, N = n ∧ (p = 0 → b = 0) ∧ PSt.run ((bs s).drop k) ⟨d, p, b, n, far, up⟩ = PSt.run (bs s) PSt.zero)) (fun _ _ _ _ _ _ vi => s.size - (intOf vi).toNat)
  case atStart => exact ⟨0, 0, 0, 0, 0, false, false, Nat.zero_le _, rfl, rfl, rfl, rfl, rfl, rfl, rfl, Nat.le_refl _, Nat.le_refl _, Nat.le_refl _, by omega, by omega, 0, rfl, fun _ => rfl, rfl⟩
  case round =>
    obtain ⟨k, d, p, b, N, far, up, hk, rfl, rfl, rfl, rfl, rfl, rfl, rfl, hd, hp, hbk, hN0, hN1, HI⟩ := hrel
    by_cases hlt : k < s.size
    · obtain ⟨c, hc⟩ : ∃ c, byteAt (bs s) k = c := ⟨_, rfl⟩
      have hb : (s[k]'hlt).toNat = c := (at_byte hlt).trans hc
      have hc255 : c ≤ 255 := by rw [← hc]; exact byte_le s k
      have HRn := Lib.hid (show ∀ st, PSt.run ((bs s).drop k) st = (st.step c).bind (PSt.run ((bs s).drop (k + 1))) from fun st => by rw [run_drop (by rw [bs_length]; exact hlt), hc])
      clear hc
      by_cases c46 : c = 46
      · subst c46
        go_wp2
        refine ⟨⟨k + 1, d, p + 1, b, N, far, up, by omega, by go_num, by go_num, by go_num, by go_num, rfl, rfl, rfl, by omega, by omega, by omega, by omega, by omega, ?_⟩, by simp [intOf] <;> omega⟩
        obtain ⟨n, hn, hpb, hr⟩ := HI.out; exact ⟨n, hn, fun h => by omega, by rw [← hr, HRn.out, step_dot]; rfl⟩
      · have tc : ((c : Int) == 46) = false := by rw [beq_eq_false_iff_ne]; omega
        have HC := Lib.hid c46
        clear c46
        go_wp2_with fail
        refine (digit_c c _).mono ?_; rintro e w' ⟨rfl, rfl⟩
        cases hD : isD (c : Int)
        · go_wp2
          have hfin : refP (bs s) = (0, 2) := by obtain ⟨n, hn, hpb, hr⟩ := HI.out; rw [HS.out]; unfold PSt.all; rw [← hr, HRn.out, step_bad HC.out hD]; rfl
          refine bodyPost_ret (v := .tuple #[.agg #[.bool false, .int .i64 (0)], .int .i64 2]) (by simp [results, Tryd.results9, go_sem]) rfl ⟨?_, (Below.refl _ _).alloc (Nat.le_refl _) _⟩
          rw [hfin]
        · obtain ⟨c48, c57⟩ := isD_bounds hD
          have HD := Lib.hid hD
          clear hD
          by_cases hp0 : p = 0
          · subst hp0
            obtain rfl : b = 0 := by obtain ⟨n, hn, hpb, hr⟩ := HI.out; exact hpb rfl
            by_cases hf : 1152921504606846976 < N
            · go_wp2
              refine ⟨⟨k + 1, d + 1, 0, 0, N, true, up, by omega, by go_num, by go_num, by go_num, by go_num, rfl, rfl, rfl, by omega, by omega, by omega, by omega, by omega, ?_⟩, by simp [intOf] <;> omega⟩
              obtain ⟨n, hn, hpb, hr⟩ := HI.out; exact ⟨n, hn, fun _ => rfl, by rw [← hr, HRn.out, step_front HC.out HD.out rfl, put_far (show 1152921504606846976 < n from by omega)]; rfl⟩
            · go_wp2
              refine ⟨⟨k + 1, d + 1, 0, 0, N * 10 + ((c : Int) - 48), far, up, by omega, by go_num, by go_num, by go_num, by go_num, rfl, rfl, rfl, by omega, by omega, by omega, by omega, by omega, ?_⟩, by simp [intOf] <;> omega⟩
              obtain ⟨n, hn, hpb, hr⟩ := HI.out; exact ⟨n * 10 + (c - 48), by omega, fun _ => rfl, by rw [← hr, HRn.out, step_front HC.out HD.out rfl, put_on (show ¬ 1152921504606846976 < n from by omega)]; rfl⟩
          · have hp1 : (0 : Int) < p := by omega
            by_cases h7 : b = 6
            · subst h7
              go_wp2
              refine ⟨⟨k + 1, d + 1, p, 7, N, far, (decide (53 ≤ (c : Int))), by omega, by go_num, by go_num, by go_num, by go_num, rfl, rfl, rfl, by omega, by omega, by omega, by omega, by omega, ?_⟩, by simp [intOf] <;> omega⟩
              obtain ⟨n, hn, hpb, hr⟩ := HI.out; exact ⟨n, hn, fun h => absurd h hp0, by rw [← hr, HRn.out, step_seven HC.out HD.out hp0 rfl, show decide (53 ≤ c) = decide (53 ≤ (c : Int)) from by rw [decide_eq_decide]; omega]; rfl⟩
            · have h7' : ((b : Int) + 1 == 7) = false := by rw [beq_eq_false_iff_ne]; omega
              by_cases h6 : 6 < b
              · have h6' : (6 : Int) < (b : Int) + 1 := by omega
                go_wp2
                refine ⟨⟨k + 1, d + 1, p, b + 1, N, far, up, by omega, by go_num, by go_num, by go_num, by go_num, rfl, rfl, rfl, by omega, by omega, by omega, by omega, by omega, ?_⟩, by simp [intOf] <;> omega⟩
                obtain ⟨n, hn, hpb, hr⟩ := HI.out; exact ⟨n, hn, fun h => absurd h hp0, by rw [← hr, HRn.out, step_past HC.out HD.out hp0 (by show b + 1 ≠ 7; omega) (by show 6 < b + 1; omega)]; rfl⟩
              · have h6' : ¬ (6 : Int) < (b : Int) + 1 := by omega
                by_cases hf : 1152921504606846976 < N
                · go_wp2
                  refine ⟨⟨k + 1, d + 1, p, b + 1, N, true, up, by omega, by go_num, by go_num, by go_num, by go_num, rfl, rfl, rfl, by omega, by omega, by omega, by omega, by omega, ?_⟩, by simp [intOf] <;> omega⟩
                  obtain ⟨n, hn, hpb, hr⟩ := HI.out; exact ⟨n, hn, fun h => absurd h hp0, by rw [← hr, HRn.out, step_behind HC.out HD.out hp0 (by show ¬ 6 < b + 1; omega), put_far (show 1152921504606846976 < n from by omega)]; rfl⟩
                · go_wp2
                  refine ⟨⟨k + 1, d + 1, p, b + 1, N * 10 + ((c : Int) - 48), far, up, by omega, by go_num, by go_num, by go_num, by go_num, rfl, rfl, rfl, by omega, by omega, by omega, by omega, by omega, ?_⟩, by simp [intOf] <;> omega⟩
                  obtain ⟨n, hn, hpb, hr⟩ := HI.out; exact ⟨n * 10 + (c - 48), by omega, fun h => absurd h hp0, by rw [← hr, HRn.out, step_behind HC.out HD.out hp0 (by show ¬ 6 < b + 1; omega), put_on (show ¬ 1152921504606846976 < n from by omega)]; rfl⟩
    · obtain rfl : k = s.size := by omega
      clear hlt
      have HA := Lib.hid (show ∃ n : Nat, N = n ∧ refP (bs s) = PSt.fin ⟨d, p, b, n, far, up⟩ false from by
        obtain ⟨n, hn, hpb, hr⟩ := HI.out
        refine ⟨n, hn, ?_⟩
        rw [HS.out]
        unfold PSt.all
        rw [← hr, run_end (by rw [bs_length]; exact Nat.le_refl _)])
      clear HI HS
      by_cases hbad : d = 0 ∨ 1 < p
      · have HB := Lib.hid hbad
        have hz : ((d : Int) == 0) = true ∨ ((d : Int) == 0) = false ∧ (1 : Int) < p := by
          by_cases h : d = 0
          · left; rw [beq_iff_eq]; omega
          · right; exact ⟨by rw [beq_eq_false_iff_ne]; omega, by rcases hbad with h' | h' <;> omega⟩
        clear hbad
        rcases hz with hz | ⟨hz, hz2⟩
        all_goals
          go_wp2
          have hfin : refP (bs s) = (0, 2) := by obtain ⟨n, hn, hr⟩ := HA.out; rw [hr]; unfold PSt.fin; rw [if_pos HB.out]
          refine bodyPost_ret (v := .tuple #[.agg #[.bool false, .int .i64 (0)], .int .i64 2]) (by simp [results, Tryd.results9, go_sem]) rfl ⟨?_, (Below.refl _ _).alloc (Nat.le_refl _) _⟩
          rw [hfin]
      · have HG := Lib.hid (show ∃ n : Nat, N = n ∧ refP (bs s) = (if (PSt.pad (6 - b) ⟨d, p, b, n, far, up⟩).far = true ∨ 9223372036854775807 < (if (PSt.pad (6 - b) ⟨d, p, b, n, far, up⟩).up then (PSt.pad (6 - b) ⟨d, p, b, n, far, up⟩).n + 1 else (PSt.pad (6 - b) ⟨d, p, b, n, far, up⟩).n) then (0, 3) else (if false then -((if (PSt.pad (6 - b) ⟨d, p, b, n, far, up⟩).up then (PSt.pad (6 - b) ⟨d, p, b, n, far, up⟩).n + 1 else (PSt.pad (6 - b) ⟨d, p, b, n, far, up⟩).n : Nat) : Int) else ((if (PSt.pad (6 - b) ⟨d, p, b, n, far, up⟩).up then (PSt.pad (6 - b) ⟨d, p, b, n, far, up⟩).n + 1 else (PSt.pad (6 - b) ⟨d, p, b, n, far, up⟩).n : Nat) : Int), 0)) from by
          obtain ⟨n, hn, hr⟩ := HA.out
          refine ⟨n, hn, ?_⟩
          rw [hr]; unfold PSt.fin; rw [if_neg hbad])
        have hd0 : ((d : Int) == 0) = false := by rw [beq_eq_false_iff_ne]; omega
        have hp2 : ¬ (1 : Int) < p := by omega
        clear hbad HA
        go_wp2_with fail
        go_loop [8, 9, 12] (fun vn vf vi => ∃ (i : Nat) (N' : Int) (fr : Bool), vi = .int .i64 i ∧ vn = .int .u64 N' ∧ vf = .bool fr ∧ b ≤ i ∧ i ≤ 64 ∧ 0 ≤ N' ∧ N' ≤ 11529215046068469769 ∧ Hid (∃ n n' : Nat, N = n ∧ N' = n' ∧ PSt.pad (6 - i) ⟨d, p, b, n', fr, up⟩ = PSt.pad (6 - b) ⟨d, p, b, n, far, up⟩)) (fun _ _ vi => 64 - (intOf vi).toNat)
        case atStart => exact ⟨b, N, far, rfl, rfl, rfl, Nat.le_refl _, by omega, hN0, hN1, by obtain ⟨n, hn, -⟩ := HG.out; exact ⟨n, n, hn, hn, rfl⟩⟩
        case round =>
          obtain ⟨i, N', fr, rfl, rfl, rfl, hbi, hi64, hM0, hM1, HJ⟩ := hrel
          by_cases h6 : i < 6
          · have HP := Lib.hid (show ∀ st, PSt.pad (6 - i) st = PSt.pad (6 - (i + 1)) (st.put 48) from fun st => by rw [show 6 - i = 6 - (i + 1) + 1 from by omega]; rfl)
            by_cases hf : 1152921504606846976 < N'
            · go_wp2
              refine ⟨⟨i + 1, N', true, by go_num, rfl, rfl, by omega, by omega, hM0, hM1, ?_⟩, by simp [intOf] <;> omega⟩
              obtain ⟨n, n', hn, hn', hpd⟩ := HJ.out
              exact ⟨n, n', hn, hn', by rw [← hpd, HP.out, put_far (show 1152921504606846976 < n' from by omega)]⟩
            · go_wp2
              refine ⟨⟨i + 1, N' * 10, fr, by go_num, by go_num, rfl, by omega, by omega, by omega, by omega, ?_⟩, by simp [intOf] <;> omega⟩
              obtain ⟨n, n', hn, hn', hpd⟩ := HJ.out
              exact ⟨n, n' * 10, hn, by omega, by rw [← hpd, HP.out, put_on (show ¬ 1152921504606846976 < n' from by omega)]; rfl⟩
          · have HF := Lib.hid (show refP (bs s) = (if fr = true ∨ 9223372036854775807 < (if up then N' + 1 else N') then (0, 3) else (if false then -(if up then N' + 1 else N') else (if up then N' + 1 else N'), 0)) from by
              obtain ⟨n, hn, hg⟩ := HG.out
              obtain ⟨m, n', hm, hn', hpd⟩ := HJ.out
              obtain rfl : m = n := by omega
              rw [show 6 - i = 0 from by omega] at hpd
              have hpd' : PSt.pad (6 - b) ⟨d, p, b, m, far, up⟩ = ⟨d, p, b, n', fr, up⟩ := hpd.symm
              rw [hg, hpd']
              exact fin_same fr up false n' N' hn')
            have h6i : ¬ (i : Int) < 6 := by omega
            clear HG HJ h6
            cases fr
            · cases up
              · by_cases hm : 9223372036854775807 < N'
                · go_wp2
                  have hfin : refP (bs s) = (0, 3) := by rw [HF.out]; exact if_pos (.inr hm)
                  refine bodyPost_ret (v := .tuple #[.agg #[.bool false, .int .i64 (0)], .int .i64 3]) (by simp [results, Tryd.results9, go_sem]) rfl ⟨?_, (Below.refl _ _).alloc (Nat.le_refl _) _⟩
                  rw [hfin]
                · go_wp2
                  have hfin : refP (bs s) = (N', 0) := by rw [HF.out]; exact if_neg (by simp; omega)
                  refine bodyPost_ret (v := .tuple #[.agg #[.bool false, .int .i64 (N')], .int .i64 0]) (by simp [results, Tryd.results9, go_sem]) rfl ⟨?_, (Below.refl _ _).alloc (Nat.le_refl _) _⟩
                  rw [hfin]
              · by_cases hm : 9223372036854775807 < N' + 1
                · go_wp2
                  have hfin : refP (bs s) = (0, 3) := by rw [HF.out]; exact if_pos (.inr hm)
                  refine bodyPost_ret (v := .tuple #[.agg #[.bool false, .int .i64 (0)], .int .i64 3]) (by simp [results, Tryd.results9, go_sem]) rfl ⟨?_, (Below.refl _ _).alloc (Nat.le_refl _) _⟩
                  rw [hfin]
                · go_wp2
                  have hfin : refP (bs s) = (N' + 1, 0) := by rw [HF.out]; exact if_neg (by simp; omega)
                  refine bodyPost_ret (v := .tuple #[.agg #[.bool false, .int .i64 (N' + 1)], .int .i64 0]) (by simp [results, Tryd.results9, go_sem]) rfl ⟨?_, (Below.refl _ _).alloc (Nat.le_refl _) _⟩
                  rw [hfin]
            · cases up
              all_goals
                go_wp2
                have hfin : refP (bs s) = (0, 3) := by rw [HF.out]; exact if_pos (.inl (by trivial))
                refine bodyPost_ret (v := .tuple #[.agg #[.bool false, .int .i64 (0)], .int .i64 3]) (by simp [results, Tryd.results9, go_sem]) rfl ⟨?_, (Below.refl _ _).alloc (Nat.le_refl _) _⟩
                rw [hfin]
set_option maxRecDepth 100000 in
set_option maxHeartbeats 4000000 in
theorem parse_minus (s : ByteArray) (hl : s.size ≤ 64) (h0 : 0 < s.size) (hc0 : (s[0]'h0).toNat = 45) (w : World) :
    Calls Tryd.prog 9 #[.string s] w fun e w' => e = .returned (.tuple #[.agg #[.bool false, .int .i64 (refP (bs s)).1], .int .i64 (refP (bs s)).2]) ∧ Below w.heap.size w w' := by
  obtain ⟨T, hT⟩ : ∃ T, s.extract 1 s.size = T := ⟨_, rfl⟩
  have HS := Lib.hid (show refP (bs s) = PSt.all (bs T) true from by
    have e0 : byteAt (bs s) 0 = 45 := (at_byte h0).symm.trans hc0
    rw [ref_short hl, show cut1 (bs s) = bs T from by rw [← hT, bs_tail s h0]; exact if_pos ⟨bs_ne h0, .inl e0⟩, show sgnB (bs s) = true from by unfold sgnB; rw [e0, decide_eq_true_eq]; exact ⟨rfl, bs_ne h0⟩])
  have hTs : T.size ≤ 63 := by rw [← hT, tail_size s h0]; omega
  have hl' : ¬ 64 < s.size := by omega
  have h1 : (1 : Int) ≤ s.size := by omega
  go_enter Tryd.func9, Tryd.ntmps9
  go_wp2
  go_loop [5, 6, 7, 8, 9, 10, 11] (fun vd vp vb vn vf vu vi => ∃ (k d p b : Nat) (N : Int) (far up : Bool), k ≤ T.size ∧ vi = .int .i64 k ∧ vd = .int .i64 d ∧ vp = .int .i64 p ∧ vb = .int .i64 b ∧ vn = .int .u64 N ∧ vf = .bool far ∧ vu = .bool up ∧ d ≤ k ∧ p ≤ k ∧ b ≤ k ∧ 0 ≤ N ∧ N ≤ 11529215046068469769 ∧
      Hid (∃ n : Nat, N = n ∧ (p = 0 → b = 0) ∧ PSt.run ((bs T).drop k) ⟨d, p, b, n, far, up⟩ = PSt.run (bs T) PSt.zero)) (fun _ _ _ _ _ _ vi => T.size - (intOf vi).toNat)
  case atStart => exact ⟨0, 0, 0, 0, 0, false, false, Nat.zero_le _, rfl, rfl, rfl, rfl, rfl, rfl, rfl, Nat.le_refl _, Nat.le_refl _, Nat.le_refl _, by omega, by omega, 0, rfl, fun _ => rfl, rfl⟩
  case round =>
    obtain ⟨k, d, p, b, N, far, up, hk, rfl, rfl, rfl, rfl, rfl, rfl, rfl, hd, hp, hbk, hN0, hN1, HI⟩ := hrel
    by_cases hlt : k < T.size
    · obtain ⟨c, hc⟩ : ∃ c, byteAt (bs T) k = c := ⟨_, rfl⟩
      have hb : (T[k]'hlt).toNat = c := (at_byte hlt).trans hc
      have hc255 : c ≤ 255 := by rw [← hc]; exact byte_le T k
      have HRn := Lib.hid (show ∀ st, PSt.run ((bs T).drop k) st = (st.step c).bind (PSt.run ((bs T).drop (k + 1))) from fun st => by rw [run_drop (by rw [bs_length]; exact hlt), hc])
      clear hc
      by_cases c46 : c = 46
      · subst c46
        go_wp2
        refine ⟨⟨k + 1, d, p + 1, b, N, far, up, by omega, by go_num, by go_num, by go_num, by go_num, rfl, rfl, rfl, by omega, by omega, by omega, by omega, by omega, ?_⟩, by simp [intOf] <;> omega⟩
        obtain ⟨n, hn, hpb, hr⟩ := HI.out; exact ⟨n, hn, fun h => by omega, by rw [← hr, HRn.out, step_dot]; rfl⟩
      · have tc : ((c : Int) == 46) = false := by rw [beq_eq_false_iff_ne]; omega
        have HC := Lib.hid c46
        clear c46
        go_wp2_with fail
        refine (digit_c c _).mono ?_; rintro e w' ⟨rfl, rfl⟩
        cases hD : isD (c : Int)
        · go_wp2
          have hfin : refP (bs s) = (0, 2) := by obtain ⟨n, hn, hpb, hr⟩ := HI.out; rw [HS.out]; unfold PSt.all; rw [← hr, HRn.out, step_bad HC.out hD]; rfl
          refine bodyPost_ret (v := .tuple #[.agg #[.bool false, .int .i64 (0)], .int .i64 2]) (by simp [results, Tryd.results9, go_sem]) rfl ⟨?_, (Below.refl _ _).alloc (Nat.le_refl _) _⟩
          rw [hfin]
        · obtain ⟨c48, c57⟩ := isD_bounds hD
          have HD := Lib.hid hD
          clear hD
          by_cases hp0 : p = 0
          · subst hp0
            obtain rfl : b = 0 := by obtain ⟨n, hn, hpb, hr⟩ := HI.out; exact hpb rfl
            by_cases hf : 1152921504606846976 < N
            · go_wp2
              refine ⟨⟨k + 1, d + 1, 0, 0, N, true, up, by omega, by go_num, by go_num, by go_num, by go_num, rfl, rfl, rfl, by omega, by omega, by omega, by omega, by omega, ?_⟩, by simp [intOf] <;> omega⟩
              obtain ⟨n, hn, hpb, hr⟩ := HI.out; exact ⟨n, hn, fun _ => rfl, by rw [← hr, HRn.out, step_front HC.out HD.out rfl, put_far (show 1152921504606846976 < n from by omega)]; rfl⟩
            · go_wp2
              refine ⟨⟨k + 1, d + 1, 0, 0, N * 10 + ((c : Int) - 48), far, up, by omega, by go_num, by go_num, by go_num, by go_num, rfl, rfl, rfl, by omega, by omega, by omega, by omega, by omega, ?_⟩, by simp [intOf] <;> omega⟩
              obtain ⟨n, hn, hpb, hr⟩ := HI.out; exact ⟨n * 10 + (c - 48), by omega, fun _ => rfl, by rw [← hr, HRn.out, step_front HC.out HD.out rfl, put_on (show ¬ 1152921504606846976 < n from by omega)]; rfl⟩
          · have hp1 : (0 : Int) < p := by omega
            by_cases h7 : b = 6
            · subst h7
              go_wp2
              refine ⟨⟨k + 1, d + 1, p, 7, N, far, (decide (53 ≤ (c : Int))), by omega, by go_num, by go_num, by go_num, by go_num, rfl, rfl, rfl, by omega, by omega, by omega, by omega, by omega, ?_⟩, by simp [intOf] <;> omega⟩
              obtain ⟨n, hn, hpb, hr⟩ := HI.out; exact ⟨n, hn, fun h => absurd h hp0, by rw [← hr, HRn.out, step_seven HC.out HD.out hp0 rfl, show decide (53 ≤ c) = decide (53 ≤ (c : Int)) from by rw [decide_eq_decide]; omega]; rfl⟩
            · have h7' : ((b : Int) + 1 == 7) = false := by rw [beq_eq_false_iff_ne]; omega
              by_cases h6 : 6 < b
              · have h6' : (6 : Int) < (b : Int) + 1 := by omega
                go_wp2
                refine ⟨⟨k + 1, d + 1, p, b + 1, N, far, up, by omega, by go_num, by go_num, by go_num, by go_num, rfl, rfl, rfl, by omega, by omega, by omega, by omega, by omega, ?_⟩, by simp [intOf] <;> omega⟩
                obtain ⟨n, hn, hpb, hr⟩ := HI.out; exact ⟨n, hn, fun h => absurd h hp0, by rw [← hr, HRn.out, step_past HC.out HD.out hp0 (by show b + 1 ≠ 7; omega) (by show 6 < b + 1; omega)]; rfl⟩
              · have h6' : ¬ (6 : Int) < (b : Int) + 1 := by omega
                by_cases hf : 1152921504606846976 < N
                · go_wp2
                  refine ⟨⟨k + 1, d + 1, p, b + 1, N, true, up, by omega, by go_num, by go_num, by go_num, by go_num, rfl, rfl, rfl, by omega, by omega, by omega, by omega, by omega, ?_⟩, by simp [intOf] <;> omega⟩
                  obtain ⟨n, hn, hpb, hr⟩ := HI.out; exact ⟨n, hn, fun h => absurd h hp0, by rw [← hr, HRn.out, step_behind HC.out HD.out hp0 (by show ¬ 6 < b + 1; omega), put_far (show 1152921504606846976 < n from by omega)]; rfl⟩
                · go_wp2
                  refine ⟨⟨k + 1, d + 1, p, b + 1, N * 10 + ((c : Int) - 48), far, up, by omega, by go_num, by go_num, by go_num, by go_num, rfl, rfl, rfl, by omega, by omega, by omega, by omega, by omega, ?_⟩, by simp [intOf] <;> omega⟩
                  obtain ⟨n, hn, hpb, hr⟩ := HI.out; exact ⟨n * 10 + (c - 48), by omega, fun h => absurd h hp0, by rw [← hr, HRn.out, step_behind HC.out HD.out hp0 (by show ¬ 6 < b + 1; omega), put_on (show ¬ 1152921504606846976 < n from by omega)]; rfl⟩
    · obtain rfl : k = T.size := by omega
      clear hlt
      have HA := Lib.hid (show ∃ n : Nat, N = n ∧ refP (bs s) = PSt.fin ⟨d, p, b, n, far, up⟩ true from by
        obtain ⟨n, hn, hpb, hr⟩ := HI.out
        refine ⟨n, hn, ?_⟩
        rw [HS.out]
        unfold PSt.all
        rw [← hr, run_end (by rw [bs_length]; exact Nat.le_refl _)])
      clear HI HS
      by_cases hbad : d = 0 ∨ 1 < p
      · have HB := Lib.hid hbad
        have hz : ((d : Int) == 0) = true ∨ ((d : Int) == 0) = false ∧ (1 : Int) < p := by
          by_cases h : d = 0
          · left; rw [beq_iff_eq]; omega
          · right; exact ⟨by rw [beq_eq_false_iff_ne]; omega, by rcases hbad with h' | h' <;> omega⟩
        clear hbad
        rcases hz with hz | ⟨hz, hz2⟩
        all_goals
          go_wp2
          have hfin : refP (bs s) = (0, 2) := by obtain ⟨n, hn, hr⟩ := HA.out; rw [hr]; unfold PSt.fin; rw [if_pos HB.out]
          refine bodyPost_ret (v := .tuple #[.agg #[.bool false, .int .i64 (0)], .int .i64 2]) (by simp [results, Tryd.results9, go_sem]) rfl ⟨?_, (Below.refl _ _).alloc (Nat.le_refl _) _⟩
          rw [hfin]
      · have HG := Lib.hid (show ∃ n : Nat, N = n ∧ refP (bs s) = (if (PSt.pad (6 - b) ⟨d, p, b, n, far, up⟩).far = true ∨ 9223372036854775807 < (if (PSt.pad (6 - b) ⟨d, p, b, n, far, up⟩).up then (PSt.pad (6 - b) ⟨d, p, b, n, far, up⟩).n + 1 else (PSt.pad (6 - b) ⟨d, p, b, n, far, up⟩).n) then (0, 3) else (if true then -((if (PSt.pad (6 - b) ⟨d, p, b, n, far, up⟩).up then (PSt.pad (6 - b) ⟨d, p, b, n, far, up⟩).n + 1 else (PSt.pad (6 - b) ⟨d, p, b, n, far, up⟩).n : Nat) : Int) else ((if (PSt.pad (6 - b) ⟨d, p, b, n, far, up⟩).up then (PSt.pad (6 - b) ⟨d, p, b, n, far, up⟩).n + 1 else (PSt.pad (6 - b) ⟨d, p, b, n, far, up⟩).n : Nat) : Int), 0)) from by
          obtain ⟨n, hn, hr⟩ := HA.out
          refine ⟨n, hn, ?_⟩
          rw [hr]; unfold PSt.fin; rw [if_neg hbad])
        have hd0 : ((d : Int) == 0) = false := by rw [beq_eq_false_iff_ne]; omega
        have hp2 : ¬ (1 : Int) < p := by omega
        clear hbad HA
        go_wp2_with fail
        go_loop [8, 9, 12] (fun vn vf vi => ∃ (i : Nat) (N' : Int) (fr : Bool), vi = .int .i64 i ∧ vn = .int .u64 N' ∧ vf = .bool fr ∧ b ≤ i ∧ i ≤ 64 ∧ 0 ≤ N' ∧ N' ≤ 11529215046068469769 ∧ Hid (∃ n n' : Nat, N = n ∧ N' = n' ∧ PSt.pad (6 - i) ⟨d, p, b, n', fr, up⟩ = PSt.pad (6 - b) ⟨d, p, b, n, far, up⟩)) (fun _ _ vi => 64 - (intOf vi).toNat)
        case atStart => exact ⟨b, N, far, rfl, rfl, rfl, Nat.le_refl _, by omega, hN0, hN1, by obtain ⟨n, hn, -⟩ := HG.out; exact ⟨n, n, hn, hn, rfl⟩⟩
        case round =>
          obtain ⟨i, N', fr, rfl, rfl, rfl, hbi, hi64, hM0, hM1, HJ⟩ := hrel
          by_cases h6 : i < 6
          · have HP := Lib.hid (show ∀ st, PSt.pad (6 - i) st = PSt.pad (6 - (i + 1)) (st.put 48) from fun st => by rw [show 6 - i = 6 - (i + 1) + 1 from by omega]; rfl)
            by_cases hf : 1152921504606846976 < N'
            · go_wp2
              refine ⟨⟨i + 1, N', true, by go_num, rfl, rfl, by omega, by omega, hM0, hM1, ?_⟩, by simp [intOf] <;> omega⟩
              obtain ⟨n, n', hn, hn', hpd⟩ := HJ.out
              exact ⟨n, n', hn, hn', by rw [← hpd, HP.out, put_far (show 1152921504606846976 < n' from by omega)]⟩
            · go_wp2
              refine ⟨⟨i + 1, N' * 10, fr, by go_num, by go_num, rfl, by omega, by omega, by omega, by omega, ?_⟩, by simp [intOf] <;> omega⟩
              obtain ⟨n, n', hn, hn', hpd⟩ := HJ.out
              exact ⟨n, n' * 10, hn, by omega, by rw [← hpd, HP.out, put_on (show ¬ 1152921504606846976 < n' from by omega)]; rfl⟩
          · have HF := Lib.hid (show refP (bs s) = (if fr = true ∨ 9223372036854775807 < (if up then N' + 1 else N') then (0, 3) else (if true then -(if up then N' + 1 else N') else (if up then N' + 1 else N'), 0)) from by
              obtain ⟨n, hn, hg⟩ := HG.out
              obtain ⟨m, n', hm, hn', hpd⟩ := HJ.out
              obtain rfl : m = n := by omega
              rw [show 6 - i = 0 from by omega] at hpd
              have hpd' : PSt.pad (6 - b) ⟨d, p, b, m, far, up⟩ = ⟨d, p, b, n', fr, up⟩ := hpd.symm
              rw [hg, hpd']
              exact fin_same fr up true n' N' hn')
            have h6i : ¬ (i : Int) < 6 := by omega
            clear HG HJ h6
            cases fr
            · cases up
              · by_cases hm : 9223372036854775807 < N'
                · go_wp2
                  have hfin : refP (bs s) = (0, 3) := by rw [HF.out]; exact if_pos (.inr hm)
                  refine bodyPost_ret (v := .tuple #[.agg #[.bool false, .int .i64 (0)], .int .i64 3]) (by simp [results, Tryd.results9, go_sem]) rfl ⟨?_, (Below.refl _ _).alloc (Nat.le_refl _) _⟩
                  rw [hfin]
                · go_wp2
                  have hfin : refP (bs s) = (-N', 0) := by rw [HF.out]; exact if_neg (by simp; omega)
                  refine bodyPost_ret (v := .tuple #[.agg #[.bool false, .int .i64 (-N')], .int .i64 0]) (by simp [results, Tryd.results9, go_sem]) rfl ⟨?_, (Below.refl _ _).alloc (Nat.le_refl _) _⟩
                  rw [hfin]
              · by_cases hm : 9223372036854775807 < N' + 1
                · go_wp2
                  have hfin : refP (bs s) = (0, 3) := by rw [HF.out]; exact if_pos (.inr hm)
                  refine bodyPost_ret (v := .tuple #[.agg #[.bool false, .int .i64 (0)], .int .i64 3]) (by simp [results, Tryd.results9, go_sem]) rfl ⟨?_, (Below.refl _ _).alloc (Nat.le_refl _) _⟩
                  rw [hfin]
                · go_wp2
                  have hfin : refP (bs s) = (-(N' + 1), 0) := by rw [HF.out]; exact if_neg (by simp; omega)
                  refine bodyPost_ret (v := .tuple #[.agg #[.bool false, .int .i64 (-(N' + 1))], .int .i64 0]) (by simp [results, Tryd.results9, go_sem]) rfl ⟨?_, (Below.refl _ _).alloc (Nat.le_refl _) _⟩
                  rw [hfin]
            · cases up
              all_goals
                go_wp2
                have hfin : refP (bs s) = (0, 3) := by rw [HF.out]; exact if_pos (.inl (by trivial))
                refine bodyPost_ret (v := .tuple #[.agg #[.bool false, .int .i64 (0)], .int .i64 3]) (by simp [results, Tryd.results9, go_sem]) rfl ⟨?_, (Below.refl _ _).alloc (Nat.le_refl _) _⟩
                rw [hfin]
set_option maxRecDepth 100000 in
set_option maxHeartbeats 4000000 in
theorem parse_plus (s : ByteArray) (hl : s.size ≤ 64) (h0 : 0 < s.size) (hc0 : (s[0]'h0).toNat = 43) (w : World) :
    Calls Tryd.prog 9 #[.string s] w fun e w' => e = .returned (.tuple #[.agg #[.bool false, .int .i64 (refP (bs s)).1], .int .i64 (refP (bs s)).2]) ∧ Below w.heap.size w w' := by
  obtain ⟨T, hT⟩ : ∃ T, s.extract 1 s.size = T := ⟨_, rfl⟩
  have HS := Lib.hid (show refP (bs s) = PSt.all (bs T) false from by
    have e0 : byteAt (bs s) 0 = 43 := (at_byte h0).symm.trans hc0
    rw [ref_short hl, show cut1 (bs s) = bs T from by rw [← hT, bs_tail s h0]; exact if_pos ⟨bs_ne h0, .inr e0⟩, show sgnB (bs s) = false from by unfold sgnB; rw [e0, decide_eq_false_iff_not]; exact fun h => absurd h.1 (by decide)])
  have hTs : T.size ≤ 63 := by rw [← hT, tail_size s h0]; omega
  have hl' : ¬ 64 < s.size := by omega
  have h1 : (1 : Int) ≤ s.size := by omega
  go_enter Tryd.func9, Tryd.ntmps9
  go_wp2
  go_loop [5, 6, 7, 8, 9, 10, 11] (fun vd vp vb vn vf vu vi => ∃ (k d p b : Nat) (N : Int) (far up : Bool), k ≤ T.size ∧ vi = .int .i64 k ∧ vd = .int .i64 d ∧ vp = .int .i64 p ∧ vb = .int .i64 b ∧ vn = .int .u64 N ∧ vf = .bool far ∧ vu = .bool up ∧ d ≤ k ∧ p ≤ k ∧ b ≤ k ∧ 0 ≤ N ∧ N ≤ 11529215046068469769 ∧
      Hid (∃ n : Nat, N = n ∧ (p = 0 → b = 0) ∧ PSt.run ((bs T).drop k) ⟨d, p, b, n, far, up⟩ = PSt.run (bs T) PSt.zero)) (fun _ _ _ _ _ _ vi => T.size - (intOf vi).toNat)
  case atStart => exact ⟨0, 0, 0, 0, 0, false, false, Nat.zero_le _, rfl, rfl, rfl, rfl, rfl, rfl, rfl, Nat.le_refl _, Nat.le_refl _, Nat.le_refl _, by omega, by omega, 0, rfl, fun _ => rfl, rfl⟩
  case round =>
    obtain ⟨k, d, p, b, N, far, up, hk, rfl, rfl, rfl, rfl, rfl, rfl, rfl, hd, hp, hbk, hN0, hN1, HI⟩ := hrel
    by_cases hlt : k < T.size
    · obtain ⟨c, hc⟩ : ∃ c, byteAt (bs T) k = c := ⟨_, rfl⟩
      have hb : (T[k]'hlt).toNat = c := (at_byte hlt).trans hc
      have hc255 : c ≤ 255 := by rw [← hc]; exact byte_le T k
      have HRn := Lib.hid (show ∀ st, PSt.run ((bs T).drop k) st = (st.step c).bind (PSt.run ((bs T).drop (k + 1))) from fun st => by rw [run_drop (by rw [bs_length]; exact hlt), hc])
      clear hc
      by_cases c46 : c = 46
      · subst c46
        go_wp2
        refine ⟨⟨k + 1, d, p + 1, b, N, far, up, by omega, by go_num, by go_num, by go_num, by go_num, rfl, rfl, rfl, by omega, by omega, by omega, by omega, by omega, ?_⟩, by simp [intOf] <;> omega⟩
        obtain ⟨n, hn, hpb, hr⟩ := HI.out; exact ⟨n, hn, fun h => by omega, by rw [← hr, HRn.out, step_dot]; rfl⟩
      · have tc : ((c : Int) == 46) = false := by rw [beq_eq_false_iff_ne]; omega
        have HC := Lib.hid c46
        clear c46
        go_wp2_with fail
        refine (digit_c c _).mono ?_; rintro e w' ⟨rfl, rfl⟩
        cases hD : isD (c : Int)
        · go_wp2
          have hfin : refP (bs s) = (0, 2) := by obtain ⟨n, hn, hpb, hr⟩ := HI.out; rw [HS.out]; unfold PSt.all; rw [← hr, HRn.out, step_bad HC.out hD]; rfl
          refine bodyPost_ret (v := .tuple #[.agg #[.bool false, .int .i64 (0)], .int .i64 2]) (by simp [results, Tryd.results9, go_sem]) rfl ⟨?_, (Below.refl _ _).alloc (Nat.le_refl _) _⟩
          rw [hfin]
        · obtain ⟨c48, c57⟩ := isD_bounds hD
          have HD := Lib.hid hD
          clear hD
          by_cases hp0 : p = 0
          · subst hp0
            obtain rfl : b = 0 := by obtain ⟨n, hn, hpb, hr⟩ := HI.out; exact hpb rfl
            by_cases hf : 1152921504606846976 < N
            · go_wp2
              refine ⟨⟨k + 1, d + 1, 0, 0, N, true, up, by omega, by go_num, by go_num, by go_num, by go_num, rfl, rfl, rfl, by omega, by omega, by omega, by omega, by omega, ?_⟩, by simp [intOf] <;> omega⟩
              obtain ⟨n, hn, hpb, hr⟩ := HI.out; exact ⟨n, hn, fun _ => rfl, by rw [← hr, HRn.out, step_front HC.out HD.out rfl, put_far (show 1152921504606846976 < n from by omega)]; rfl⟩
            · go_wp2
              refine ⟨⟨k + 1, d + 1, 0, 0, N * 10 + ((c : Int) - 48), far, up, by omega, by go_num, by go_num, by go_num, by go_num, rfl, rfl, rfl, by omega, by omega, by omega, by omega, by omega, ?_⟩, by simp [intOf] <;> omega⟩
              obtain ⟨n, hn, hpb, hr⟩ := HI.out; exact ⟨n * 10 + (c - 48), by omega, fun _ => rfl, by rw [← hr, HRn.out, step_front HC.out HD.out rfl, put_on (show ¬ 1152921504606846976 < n from by omega)]; rfl⟩
          · have hp1 : (0 : Int) < p := by omega
            by_cases h7 : b = 6
            · subst h7
              go_wp2
              refine ⟨⟨k + 1, d + 1, p, 7, N, far, (decide (53 ≤ (c : Int))), by omega, by go_num, by go_num, by go_num, by go_num, rfl, rfl, rfl, by omega, by omega, by omega, by omega, by omega, ?_⟩, by simp [intOf] <;> omega⟩
              obtain ⟨n, hn, hpb, hr⟩ := HI.out; exact ⟨n, hn, fun h => absurd h hp0, by rw [← hr, HRn.out, step_seven HC.out HD.out hp0 rfl, show decide (53 ≤ c) = decide (53 ≤ (c : Int)) from by rw [decide_eq_decide]; omega]; rfl⟩
            · have h7' : ((b : Int) + 1 == 7) = false := by rw [beq_eq_false_iff_ne]; omega
              by_cases h6 : 6 < b
              · have h6' : (6 : Int) < (b : Int) + 1 := by omega
                go_wp2
                refine ⟨⟨k + 1, d + 1, p, b + 1, N, far, up, by omega, by go_num, by go_num, by go_num, by go_num, rfl, rfl, rfl, by omega, by omega, by omega, by omega, by omega, ?_⟩, by simp [intOf] <;> omega⟩
                obtain ⟨n, hn, hpb, hr⟩ := HI.out; exact ⟨n, hn, fun h => absurd h hp0, by rw [← hr, HRn.out, step_past HC.out HD.out hp0 (by show b + 1 ≠ 7; omega) (by show 6 < b + 1; omega)]; rfl⟩
              · have h6' : ¬ (6 : Int) < (b : Int) + 1 := by omega
                by_cases hf : 1152921504606846976 < N
                · go_wp2
                  refine ⟨⟨k + 1, d + 1, p, b + 1, N, true, up, by omega, by go_num, by go_num, by go_num, by go_num, rfl, rfl, rfl, by omega, by omega, by omega, by omega, by omega, ?_⟩, by simp [intOf] <;> omega⟩
                  obtain ⟨n, hn, hpb, hr⟩ := HI.out; exact ⟨n, hn, fun h => absurd h hp0, by rw [← hr, HRn.out, step_behind HC.out HD.out hp0 (by show ¬ 6 < b + 1; omega), put_far (show 1152921504606846976 < n from by omega)]; rfl⟩
                · go_wp2
                  refine ⟨⟨k + 1, d + 1, p, b + 1, N * 10 + ((c : Int) - 48), far, up, by omega, by go_num, by go_num, by go_num, by go_num, rfl, rfl, rfl, by omega, by omega, by omega, by omega, by omega, ?_⟩, by simp [intOf] <;> omega⟩
                  obtain ⟨n, hn, hpb, hr⟩ := HI.out; exact ⟨n * 10 + (c - 48), by omega, fun h => absurd h hp0, by rw [← hr, HRn.out, step_behind HC.out HD.out hp0 (by show ¬ 6 < b + 1; omega), put_on (show ¬ 1152921504606846976 < n from by omega)]; rfl⟩
    · obtain rfl : k = T.size := by omega
      clear hlt
      have HA := Lib.hid (show ∃ n : Nat, N = n ∧ refP (bs s) = PSt.fin ⟨d, p, b, n, far, up⟩ false from by
        obtain ⟨n, hn, hpb, hr⟩ := HI.out
        refine ⟨n, hn, ?_⟩
        rw [HS.out]
        unfold PSt.all
        rw [← hr, run_end (by rw [bs_length]; exact Nat.le_refl _)])
      clear HI HS
      by_cases hbad : d = 0 ∨ 1 < p
      · have HB := Lib.hid hbad
        have hz : ((d : Int) == 0) = true ∨ ((d : Int) == 0) = false ∧ (1 : Int) < p := by
          by_cases h : d = 0
          · left; rw [beq_iff_eq]; omega
          · right; exact ⟨by rw [beq_eq_false_iff_ne]; omega, by rcases hbad with h' | h' <;> omega⟩
        clear hbad
        rcases hz with hz | ⟨hz, hz2⟩
        all_goals
          go_wp2
          have hfin : refP (bs s) = (0, 2) := by obtain ⟨n, hn, hr⟩ := HA.out; rw [hr]; unfold PSt.fin; rw [if_pos HB.out]
          refine bodyPost_ret (v := .tuple #[.agg #[.bool false, .int .i64 (0)], .int .i64 2]) (by simp [results, Tryd.results9, go_sem]) rfl ⟨?_, (Below.refl _ _).alloc (Nat.le_refl _) _⟩
          rw [hfin]
      · have HG := Lib.hid (show ∃ n : Nat, N = n ∧ refP (bs s) = (if (PSt.pad (6 - b) ⟨d, p, b, n, far, up⟩).far = true ∨ 9223372036854775807 < (if (PSt.pad (6 - b) ⟨d, p, b, n, far, up⟩).up then (PSt.pad (6 - b) ⟨d, p, b, n, far, up⟩).n + 1 else (PSt.pad (6 - b) ⟨d, p, b, n, far, up⟩).n) then (0, 3) else (if false then -((if (PSt.pad (6 - b) ⟨d, p, b, n, far, up⟩).up then (PSt.pad (6 - b) ⟨d, p, b, n, far, up⟩).n + 1 else (PSt.pad (6 - b) ⟨d, p, b, n, far, up⟩).n : Nat) : Int) else ((if (PSt.pad (6 - b) ⟨d, p, b, n, far, up⟩).up then (PSt.pad (6 - b) ⟨d, p, b, n, far, up⟩).n + 1 else (PSt.pad (6 - b) ⟨d, p, b, n, far, up⟩).n : Nat) : Int), 0)) from by
          obtain ⟨n, hn, hr⟩ := HA.out
          refine ⟨n, hn, ?_⟩
          rw [hr]; unfold PSt.fin; rw [if_neg hbad])
        have hd0 : ((d : Int) == 0) = false := by rw [beq_eq_false_iff_ne]; omega
        have hp2 : ¬ (1 : Int) < p := by omega
        clear hbad HA
        go_wp2_with fail
        go_loop [8, 9, 12] (fun vn vf vi => ∃ (i : Nat) (N' : Int) (fr : Bool), vi = .int .i64 i ∧ vn = .int .u64 N' ∧ vf = .bool fr ∧ b ≤ i ∧ i ≤ 64 ∧ 0 ≤ N' ∧ N' ≤ 11529215046068469769 ∧ Hid (∃ n n' : Nat, N = n ∧ N' = n' ∧ PSt.pad (6 - i) ⟨d, p, b, n', fr, up⟩ = PSt.pad (6 - b) ⟨d, p, b, n, far, up⟩)) (fun _ _ vi => 64 - (intOf vi).toNat)
        case atStart => exact ⟨b, N, far, rfl, rfl, rfl, Nat.le_refl _, by omega, hN0, hN1, by obtain ⟨n, hn, -⟩ := HG.out; exact ⟨n, n, hn, hn, rfl⟩⟩
        case round =>
          obtain ⟨i, N', fr, rfl, rfl, rfl, hbi, hi64, hM0, hM1, HJ⟩ := hrel
          by_cases h6 : i < 6
          · have HP := Lib.hid (show ∀ st, PSt.pad (6 - i) st = PSt.pad (6 - (i + 1)) (st.put 48) from fun st => by rw [show 6 - i = 6 - (i + 1) + 1 from by omega]; rfl)
            by_cases hf : 1152921504606846976 < N'
            · go_wp2
              refine ⟨⟨i + 1, N', true, by go_num, rfl, rfl, by omega, by omega, hM0, hM1, ?_⟩, by simp [intOf] <;> omega⟩
              obtain ⟨n, n', hn, hn', hpd⟩ := HJ.out
              exact ⟨n, n', hn, hn', by rw [← hpd, HP.out, put_far (show 1152921504606846976 < n' from by omega)]⟩
            · go_wp2
              refine ⟨⟨i + 1, N' * 10, fr, by go_num, by go_num, rfl, by omega, by omega, by omega, by omega, ?_⟩, by simp [intOf] <;> omega⟩
              obtain ⟨n, n', hn, hn', hpd⟩ := HJ.out
              exact ⟨n, n' * 10, hn, by omega, by rw [← hpd, HP.out, put_on (show ¬ 1152921504606846976 < n' from by omega)]; rfl⟩
          · have HF := Lib.hid (show refP (bs s) = (if fr = true ∨ 9223372036854775807 < (if up then N' + 1 else N') then (0, 3) else (if false then -(if up then N' + 1 else N') else (if up then N' + 1 else N'), 0)) from by
              obtain ⟨n, hn, hg⟩ := HG.out
              obtain ⟨m, n', hm, hn', hpd⟩ := HJ.out
              obtain rfl : m = n := by omega
              rw [show 6 - i = 0 from by omega] at hpd
              have hpd' : PSt.pad (6 - b) ⟨d, p, b, m, far, up⟩ = ⟨d, p, b, n', fr, up⟩ := hpd.symm
              rw [hg, hpd']
              exact fin_same fr up false n' N' hn')
            have h6i : ¬ (i : Int) < 6 := by omega
            clear HG HJ h6
            cases fr
            · cases up
              · by_cases hm : 9223372036854775807 < N'
                · go_wp2
                  have hfin : refP (bs s) = (0, 3) := by rw [HF.out]; exact if_pos (.inr hm)
                  refine bodyPost_ret (v := .tuple #[.agg #[.bool false, .int .i64 (0)], .int .i64 3]) (by simp [results, Tryd.results9, go_sem]) rfl ⟨?_, (Below.refl _ _).alloc (Nat.le_refl _) _⟩
                  rw [hfin]
                · go_wp2
                  have hfin : refP (bs s) = (N', 0) := by rw [HF.out]; exact if_neg (by simp; omega)
                  refine bodyPost_ret (v := .tuple #[.agg #[.bool false, .int .i64 (N')], .int .i64 0]) (by simp [results, Tryd.results9, go_sem]) rfl ⟨?_, (Below.refl _ _).alloc (Nat.le_refl _) _⟩
                  rw [hfin]
              · by_cases hm : 9223372036854775807 < N' + 1
                · go_wp2
                  have hfin : refP (bs s) = (0, 3) := by rw [HF.out]; exact if_pos (.inr hm)
                  refine bodyPost_ret (v := .tuple #[.agg #[.bool false, .int .i64 (0)], .int .i64 3]) (by simp [results, Tryd.results9, go_sem]) rfl ⟨?_, (Below.refl _ _).alloc (Nat.le_refl _) _⟩
                  rw [hfin]
                · go_wp2
                  have hfin : refP (bs s) = (N' + 1, 0) := by rw [HF.out]; exact if_neg (by simp; omega)
                  refine bodyPost_ret (v := .tuple #[.agg #[.bool false, .int .i64 (N' + 1)], .int .i64 0]) (by simp [results, Tryd.results9, go_sem]) rfl ⟨?_, (Below.refl _ _).alloc (Nat.le_refl _) _⟩
                  rw [hfin]
            · cases up
              all_goals
                go_wp2
                have hfin : refP (bs s) = (0, 3) := by rw [HF.out]; exact if_pos (.inl (by trivial))
                refine bodyPost_ret (v := .tuple #[.agg #[.bool false, .int .i64 (0)], .int .i64 3]) (by simp [results, Tryd.results9, go_sem]) rfl ⟨?_, (Below.refl _ _).alloc (Nat.le_refl _) _⟩
                rw [hfin]
theorem parse_empty (w : World) :
    Calls Tryd.prog 9 #[.string ⟨#[]⟩] w fun e w' => e = .returned (.tuple #[.agg #[.bool false, .int .i64 (refP (bs ⟨#[]⟩)).1], .int .i64 (refP (bs ⟨#[]⟩)).2]) ∧ Below w.heap.size w w' := by
  rw [show refP (bs ⟨#[]⟩) = (0, 2) from by decide]
  go_enter Tryd.func9, Tryd.ntmps9
  go_wp2
  go_loop [5, 6, 11] (fun vd vp vi => vd = .int .i64 0 ∧ vp = .int .i64 0 ∧ vi = .int .i64 0) (fun _ _ _ => 0)
  case atStart => exact ⟨rfl, rfl, rfl⟩
  case round =>
    obtain ⟨rfl, rfl, rfl⟩ := hrel
    go_wp2
    exact bodyPost_ret (v := .tuple #[.agg #[.bool false, .int .i64 0], .int .i64 2]) (by simp [results, Tryd.results9, go_sem]) rfl ⟨rfl, (Below.refl _ _).alloc (Nat.le_refl _) _⟩
theorem parse_c (s : ByteArray) (hs : s.size ≤ 9223372036854775807) (w : World) :
    Calls Tryd.prog 9 #[.string s] w fun e w' => e = .returned (.tuple #[.agg #[.bool false, .int .i64 (refP (bs s)).1], .int .i64 (refP (bs s)).2]) ∧ Below w.heap.size w w' := by
  by_cases hl : s.size ≤ 64
  · by_cases h0 : 0 < s.size
    · by_cases h45 : (s[0]'h0).toNat = 45
      · exact parse_minus s hl h0 h45 w
      · by_cases h43 : (s[0]'h0).toNat = 43
        · exact parse_plus s hl h0 h43 w
        · exact parse_plain s hl h0 _ rfl h45 h43 w
    · obtain rfl : s = ⟨#[]⟩ := by
        obtain ⟨⟨l⟩⟩ := s
        have e : l.length = 0 := (show (ByteArray.mk ⟨l⟩).size = 0 from by omega)
        rw [List.eq_nil_of_length_eq_zero e]
      exact parse_empty w
  · exact parse_long s hs (by omega) w
end Go.Proofs.YtnnilllnkklecaaDoor.DR
