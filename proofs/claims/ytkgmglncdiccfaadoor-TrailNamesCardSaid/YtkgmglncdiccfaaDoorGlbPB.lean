/-
  Contracts of the program's functions of layer 15: member.
-/
import Derived.Test.YtkgmglncdiccfaaDoorGlbPA
set_option linter.unusedSimpArgs false
set_option linter.unusedVariables false
namespace Go.Proofs.YtkgmglncdiccfaaDoor.GP
open Go.RowKit
/-- What member answers. -/
def MbI (s : List Nat) (lo hi : Nat) (k : Nat) : Bool → Prop
  | true => gMem s = some ((lo, hi), k) ∧ lo < 256 ∧ hi < 256
  | false => gMem s = none
theorem getD_three {s : List Nat} (h : 3 ≤ s.length) : ∃ a b c r, s = a :: b :: c :: r := by
  match s, h with
  | a :: b :: c :: r, _ => exact ⟨a, b, c, r, rfl⟩
set_option maxRecDepth 100000 in
set_option maxHeartbeats 4000000 in
theorem member_no (S : ByteArray) (a : Nat) (h0 : 0 < S.size) (ha1 : (bs S).getD 0 0 = a) (ha2 : (S[0]'h0).toNat = a) (ha3 : a < 256) (hba : isB a = false) (w : World) :
    Calls Tryd.prog 65 #[.string S] w fun e w' => ∃ (lo hi k : Nat) (ok : Bool), e = .returned (.tuple #[.agg #[.int .u8 (lo : Nat), .int .u8 (hi : Nat)], .int .i64 (k : Nat), .bool ok]) ∧
      MbI (bs S) lo hi k ok ∧ Below w.heap.size w w' := by
  have hz0 : (0 : Int) < (S.size : Int) := by omega
  have HN := Lib.hid (show gMem (bs S) = none by unfold gMem; rw [ha1, hba]; rfl)
  have BA := Lib.hid (fun W => byte_c a ha3 W)
  rw [hba] at BA
  clear hba ha1
  go_enter Tryd.func65, Tryd.ntmps65
  go_wp2_with fail
  refine (BA.out _).mono ?_; rintro e w' ⟨rfl, rfl⟩
  go_wp2
  exact bodyPost_ret (v := .tuple #[.agg #[.int .u8 ((0 : Nat) : Int), .int .u8 ((0 : Nat) : Int)], .int .i64 ((0 : Nat) : Int), .bool false]) (by simp [results, Tryd.results65, go_sem]) rfl ⟨0, 0, 0, false, rfl, HN.out, alloc_below _ _⟩
set_option maxRecDepth 100000 in
set_option maxHeartbeats 4000000 in
theorem member_short (S : ByteArray) (a : Nat) (h0 : 0 < S.size) (ha1 : (bs S).getD 0 0 = a) (ha2 : (S[0]'h0).toNat = a) (ha3 : a < 256) (hba : isB a = true) (h3 : ¬ 3 ≤ S.size) (w : World) :
    Calls Tryd.prog 65 #[.string S] w fun e w' => ∃ (lo hi k : Nat) (ok : Bool), e = .returned (.tuple #[.agg #[.int .u8 (lo : Nat), .int .u8 (hi : Nat)], .int .i64 (k : Nat), .bool ok]) ∧
      MbI (bs S) lo hi k ok ∧ Below w.heap.size w w' := by
  have hz0 : (0 : Int) < (S.size : Int) := by omega
  have hz3 : ¬ (3 : Int) ≤ (S.size : Int) := by omega
  have HN := Lib.hid (show MbI (bs S) a a 1 true by
    refine ⟨?_, ha3, ha3⟩
    unfold gMem
    rw [ha1, hba, if_pos rfl, if_neg (by rw [bs_length]; omega)])
  have BA := Lib.hid (fun W => byte_c a ha3 W)
  rw [hba] at BA
  clear hba ha1
  go_enter Tryd.func65, Tryd.ntmps65
  go_wp2_with fail
  refine (BA.out _).mono ?_; rintro e w' ⟨rfl, rfl⟩
  go_wp2
  go_region
  go_wp2
  exact bodyPost_ret (v := .tuple #[.agg #[.int .u8 ((a : Nat) : Int), .int .u8 ((a : Nat) : Int)], .int .i64 ((1 : Nat) : Int), .bool true]) (by simp [results, Tryd.results65, go_sem]) rfl ⟨a, a, 1, true, rfl, HN.out, (alloc_below _ _).drew⟩
set_option maxRecDepth 100000 in
set_option maxHeartbeats 4000000 in
theorem member_dash (S : ByteArray) (a : Nat) (h0 : 0 < S.size) (ha1 : (bs S).getD 0 0 = a) (ha2 : (S[0]'h0).toNat = a) (ha3 : a < 256) (b c : Nat) (h1 : 1 < S.size) (h2 : 2 < S.size) (hb1 : (bs S).getD 1 0 = b) (hb2 : (S[1]'h1).toNat = b) (hc1 : (bs S).getD 2 0 = c) (hc2 : (S[2]'h2).toNat = c) (hc3 : c < 256) (hba : isB a = true) (hb : b ≠ 45) (w : World) :
    Calls Tryd.prog 65 #[.string S] w fun e w' => ∃ (lo hi k : Nat) (ok : Bool), e = .returned (.tuple #[.agg #[.int .u8 (lo : Nat), .int .u8 (hi : Nat)], .int .i64 (k : Nat), .bool ok]) ∧
      MbI (bs S) lo hi k ok ∧ Below w.heap.size w w' := by
  have hz0 : (0 : Int) < (S.size : Int) := by omega
  have hz1 : (1 : Int) < (S.size : Int) := by omega
  have hz2 : (2 : Int) < (S.size : Int) := by omega
  have hz3 : (3 : Int) ≤ (S.size : Int) := by omega
  have i45 : ¬ (b : Int) = 45 := by omega
  have HN := Lib.hid (show MbI (bs S) a a 1 true by
    refine ⟨?_, ha3, ha3⟩
    unfold gMem
    rw [ha1, hba, if_pos rfl, if_neg (by rw [hb1]; omega)])
  have BA := Lib.hid (fun W => byte_c a ha3 W)
  rw [hba] at BA
  clear hba ha1 hb1 hc1 hb
  go_enter Tryd.func65, Tryd.ntmps65
  go_wp2_with fail
  refine (BA.out _).mono ?_; rintro e w' ⟨rfl, rfl⟩
  go_wp2
  go_region
  go_wp2
  exact bodyPost_ret (v := .tuple #[.agg #[.int .u8 ((a : Nat) : Int), .int .u8 ((a : Nat) : Int)], .int .i64 ((1 : Nat) : Int), .bool true]) (by simp [results, Tryd.results65, go_sem]) rfl ⟨a, a, 1, true, rfl, HN.out, (alloc_below _ _).drew⟩
set_option maxRecDepth 100000 in
set_option maxHeartbeats 4000000 in
theorem member_alone (S : ByteArray) (a : Nat) (h0 : 0 < S.size) (ha1 : (bs S).getD 0 0 = a) (ha2 : (S[0]'h0).toNat = a) (ha3 : a < 256) (b c : Nat) (h1 : 1 < S.size) (h2 : 2 < S.size) (hb1 : (bs S).getD 1 0 = b) (hb2 : (S[1]'h1).toNat = b) (hc1 : (bs S).getD 2 0 = c) (hc2 : (S[2]'h2).toNat = c) (hc3 : c < 256) (hba : isB a = true) (hb : b = 45) (hbc : isB c = false) (w : World) :
    Calls Tryd.prog 65 #[.string S] w fun e w' => ∃ (lo hi k : Nat) (ok : Bool), e = .returned (.tuple #[.agg #[.int .u8 (lo : Nat), .int .u8 (hi : Nat)], .int .i64 (k : Nat), .bool ok]) ∧
      MbI (bs S) lo hi k ok ∧ Below w.heap.size w w' := by
  have hz0 : (0 : Int) < (S.size : Int) := by omega
  have hz1 : (1 : Int) < (S.size : Int) := by omega
  have hz2 : (2 : Int) < (S.size : Int) := by omega
  have hz3 : (3 : Int) ≤ (S.size : Int) := by omega
  have HN := Lib.hid (show MbI (bs S) a a 1 true by
    refine ⟨?_, ha3, ha3⟩
    unfold gMem
    rw [ha1, hba, if_pos rfl, if_neg (by rw [hc1, hbc]; simp)])
  have BA := Lib.hid (fun W => byte_c a ha3 W)
  rw [hba] at BA
  have BC := Lib.hid (fun W => byte_c c hc3 W)
  rw [hbc] at BC
  subst hb
  clear hba ha1 hb1 hc1 hbc
  go_enter Tryd.func65, Tryd.ntmps65
  go_wp2_with fail
  refine (BA.out _).mono ?_; rintro e w' ⟨rfl, rfl⟩
  go_wp2_with fail
  refine (BC.out _).mono ?_; rintro e w' ⟨rfl, rfl⟩
  go_wp2
  go_region
  go_wp2
  exact bodyPost_ret (v := .tuple #[.agg #[.int .u8 ((a : Nat) : Int), .int .u8 ((a : Nat) : Int)], .int .i64 ((1 : Nat) : Int), .bool true]) (by simp [results, Tryd.results65, go_sem]) rfl ⟨a, a, 1, true, rfl, HN.out, (alloc_below _ _).drew⟩
set_option maxRecDepth 100000 in
set_option maxHeartbeats 4000000 in
theorem member_range (S : ByteArray) (a : Nat) (h0 : 0 < S.size) (ha1 : (bs S).getD 0 0 = a) (ha2 : (S[0]'h0).toNat = a) (ha3 : a < 256) (b c : Nat) (h1 : 1 < S.size) (h2 : 2 < S.size) (hb1 : (bs S).getD 1 0 = b) (hb2 : (S[1]'h1).toNat = b) (hc1 : (bs S).getD 2 0 = c) (hc2 : (S[2]'h2).toNat = c) (hc3 : c < 256) (hba : isB a = true) (hb : b = 45) (hbc : isB c = true) (w : World) :
    Calls Tryd.prog 65 #[.string S] w fun e w' => ∃ (lo hi k : Nat) (ok : Bool), e = .returned (.tuple #[.agg #[.int .u8 (lo : Nat), .int .u8 (hi : Nat)], .int .i64 (k : Nat), .bool ok]) ∧
      MbI (bs S) lo hi k ok ∧ Below w.heap.size w w' := by
  have hz0 : (0 : Int) < (S.size : Int) := by omega
  have hz1 : (1 : Int) < (S.size : Int) := by omega
  have hz2 : (2 : Int) < (S.size : Int) := by omega
  have hz3 : (3 : Int) ≤ (S.size : Int) := by omega
  have HN := Lib.hid (show MbI (bs S) a c 3 (decide (a ≤ c)) by
    have hl := bs_length S
    by_cases h : a ≤ c
    · rw [decide_eq_true h]
      refine ⟨?_, ha3, hc3⟩
      unfold gMem
      rw [ha1, hba, if_pos rfl, if_pos (by rw [hb1, hc1, hbc]; exact ⟨by omega, hb, rfl⟩), hc1, if_pos h]
    · rw [decide_eq_false h]
      show gMem _ = none
      unfold gMem
      rw [ha1, hba, if_pos rfl, if_pos (by rw [hb1, hc1, hbc]; exact ⟨by omega, hb, rfl⟩), hc1, if_neg h])
  have hdd : decide ((a : Int) ≤ (c : Int)) = decide (a ≤ c) := by rw [decide_eq_decide]; omega
  have BA := Lib.hid (fun W => byte_c a ha3 W)
  rw [hba] at BA
  have BC := Lib.hid (fun W => byte_c c hc3 W)
  rw [hbc] at BC
  subst hb
  clear hba ha1 hb1 hc1 hbc
  go_enter Tryd.func65, Tryd.ntmps65
  go_wp2_with fail
  refine (BA.out _).mono ?_; rintro e w' ⟨rfl, rfl⟩
  go_wp2_with fail
  refine (BC.out _).mono ?_; rintro e w' ⟨rfl, rfl⟩
  go_wp2
  go_region
  go_wp2
  exact bodyPost_ret (v := .tuple #[.agg #[.int .u8 ((a : Nat) : Int), .int .u8 ((c : Nat) : Int)], .int .i64 ((3 : Nat) : Int), .bool (decide (a ≤ c))]) (by simp [results, Tryd.results65, go_sem]) rfl ⟨a, c, 3, (decide (a ≤ c)), rfl, HN.out, (alloc_below _ _).drew⟩
theorem member_c (S : ByteArray) (h0 : 0 < S.size) (w : World) :
    Calls Tryd.prog 65 #[.string S] w fun e w' => ∃ (lo hi k : Nat) (ok : Bool), e = .returned (.tuple #[.agg #[.int .u8 (lo : Nat), .int .u8 (hi : Nat)], .int .i64 (k : Nat), .bool ok]) ∧
      MbI (bs S) lo hi k ok ∧ Below w.heap.size w w' := by
  obtain ⟨a, ha1, ha2, ha3⟩ := bs_get h0
  cases hba : isB a with
  | false => exact member_no S a h0 ha1 ha2 ha3 hba w
  | true =>
    by_cases h3 : 3 ≤ S.size
    · obtain ⟨b, hb1, hb2, hb3⟩ := bs_get (show 1 < S.size by omega)
      obtain ⟨c, hc1, hc2, hc3⟩ := bs_get (show 2 < S.size by omega)
      by_cases hb : b = 45
      · cases hbc : isB c with
        | false => exact member_alone S a h0 ha1 ha2 ha3 b c (by omega) (by omega) hb1 hb2 hc1 hc2 hc3 hba hb hbc w
        | true => exact member_range S a h0 ha1 ha2 ha3 b c (by omega) (by omega) hb1 hb2 hc1 hc2 hc3 hba hb hbc w
      · exact member_dash S a h0 ha1 ha2 ha3 b c (by omega) (by omega) hb1 hb2 hc1 hc2 hc3 hba hb w
    · exact member_short S a h0 ha1 ha2 ha3 hba h3 w
end Go.Proofs.YtkgmglncdiccfaaDoor.GP
