/-
  Contracts of the program's own functions of layer 3 (decimal), second part: rounded.
-/
import Derived.Test.YtnnilllnkklecaaDoorDecP
import Derived.Test.YtnnilllnkklecaaDoorFixPB
set_option linter.unusedSimpArgs false
set_option linter.unusedVariables false
namespace Go.Proofs.YtnnilllnkklecaaDoor.DP
open Go.RowKit Go.Sort

/-- What the digits ahead of the point and behind it say, or nothing where that can't be told. -/
def rdM (i f : List Nat) : Option Int := if 9223372036854775807 < magn i f then none else some (magn i f : Nat)
set_option maxRecDepth 100000 in
set_option maxHeartbeats 2000000 in
theorem rounded_c (a b : ByteArray) (ha : a.size ≤ 64) (hb : b.size ≤ 64) (hA : allD (bs a) = true) (hB : allD (bs b) = true) (w : World) (hG : G w) :
    Calls Tryd.prog 20 #[.string a, .string b] w fun e w' => e = .returned (.agg #[.bool (nb (rdM (bs a) (bs b))), .int .i64 (nv (rdM (bs a) (bs b)))]) ∧ Below w.heap.size w w' := by
  obtain ⟨Z, hZ⟩ : ∃ Z, Z = (⟨#[48, 48, 48, 48, 48, 48]⟩ : ByteArray) := ⟨_, rfl⟩
  have hZb : bs Z = [48, 48, 48, 48, 48, 48] := by rw [hZ]; rfl
  have hZs : Z.size = 6 := by rw [hZ]; rfl
  obtain ⟨K, hK⟩ : ∃ K, (b ++ Z).extract 0 6 = K := ⟨_, rfl⟩
  have hKb : bs K = (bs b ++ [48, 48, 48, 48, 48, 48]).take 6 := by
    rw [← hK, ← hZb, ← bs_append, Lib.extract_upto, bs_mk]
    simp [nu, bs]
  have hKs : K.size = 6 := by rw [← bs_length, hKb, kept_length]
  obtain ⟨T, hT⟩ : ∃ T, a ++ K = T := ⟨_, rfl⟩
  have hTb : bs T = bs a ++ (bs b ++ [48, 48, 48, 48, 48, 48]).take 6 := by rw [← hT, bs_append, hKb]
  have hTs : T.size = a.size + 6 := by rw [← bs_length, hTb, List.length_append, bs_length, kept_length]
  have hTd : allD (bs T) = true := by rw [hTb, allD_append]; exact ⟨hA, allD_kept hB⟩
  have hTn : bs T ≠ [] := by
    intro h
    have := congrArg List.length h
    rw [bs_length, hTs] at this
    simp at this
  have hTv : val (bs T) = whole6 (bs a) (bs b) := by rw [hTb]; rfl
  have hmag := magn_whole6 (bs a) (bs b)
  have pR := repeat_c
  rw [← hZ] at pR
  have PR := Lib.hid pR
  have hbz : (6 : Int) ≤ (b ++ Z).size := by rw [ByteArray.size_append, hZs]; omega
  have HG := Lib.hid hG
  clear pR hZ hZb hKb hTb hG
  by_cases hv : val (bs T) ≤ 9223372036854775807
  · have pP := parseInt_ok T (by omega) hTd hTn hv
    have pO := FP.of_c (val (bs T) : Nat)
    have pO1 := FP.of_c 1
    have e1 : rd false (val (bs T) : Nat) = some ((val (bs T) : Nat) : Int) := rd_some rfl (by omega)
    rw [e1] at pO
    rw [rd_some rfl (by decide)] at pO1
    simp only [nb, nv, Option.isNone_some, Option.getD_some] at pO pO1
    have pA := FP.add_any false false (val (bs T) : Nat) 1 (by omega) (by omega)
    rw [e1, rd_some rfl (by decide)] at pA
    have hadd : addO (some ((val (bs T) : Nat) : Int)) (some 1) = if 9223372036854775807 < val (bs T) + 1 then none else some ((val (bs T) + 1 : Nat) : Int) := by
      show lim _ = _
      unfold lim
      by_cases h : 9223372036854775807 < val (bs T) + 1
      · rw [if_pos h, if_neg (by omega)]
      · rw [if_neg h, if_pos (by omega)]; congr 1
    rw [hadd] at pA
    have hone : 53 ≤ byteAt (bs b) 6 → rdM (bs a) (bs b) = if 9223372036854775807 < val (bs T) + 1 then none else some ((val (bs T) + 1 : Nat) : Int) := fun h => by
      unfold rdM
      rw [hmag, if_pos h, ← hTv]
    have hnone : ¬ 53 ≤ byteAt (bs b) 6 → rdM (bs a) (bs b) = some ((val (bs T) : Nat) : Int) := fun h => by
      unfold rdM
      rw [hmag, if_neg h, ← hTv, Nat.add_zero, if_neg (by omega)]
    generalize rdM (bs a) (bs b) = O at *
    by_cases h6 : 6 < b.size
    · obtain ⟨c, hc⟩ : ∃ c, byteAt (bs b) 6 = c := ⟨_, rfl⟩
      have hb6 : (b[6]'h6).toNat = c := (at_byte h6).trans hc
      rw [hc] at hone hnone
      have hc1 : c ≤ 255 := by rw [← hc]; exact byte_le b 6
      clear hc
      by_cases h53 : 53 ≤ c
      · have hO := hone h53
        rw [← hO] at pA
        generalize ((val (bs T) : Nat) : Int) = V at *
        have PP := Lib.hid pP; have PO := Lib.hid pO; have PO1 := Lib.hid pO1; have PA := Lib.hid pA
        clear pP pO pO1 pA hadd hone hnone hO e1 hmag hTv hTd hTn hA hB hv
        go_enter Tryd.func20, Tryd.ntmps20
        go_wp2_with fail
        refine (PR.out _).mono ?_; rintro e w1 ⟨rfl, hb1⟩; obtain ⟨hc1', hf1⟩ := bcell hb1
        have z1 : w.heap.size < w1.heap.size := (by have := hb1.size; simp at this; omega)
        go_wp2_with fail
        refine (PP.out _).mono ?_; rintro e w2 ⟨rfl, hb2⟩; obtain ⟨hc2, hf2⟩ := bcell hb2
        have z2 : w.heap.size < w2.heap.size := Nat.lt_of_lt_of_le z1 hb2.size
        have HX := Lib.hid (below_next (below_box hb1) hb2)
        go_wp2_with fail
        refine (PO.out _).mono ?_; rintro e w3 ⟨rfl, hb3⟩; obtain ⟨hc3, hf3⟩ := bcell hb3
        have z3 : w.heap.size < w3.heap.size := Nat.lt_of_lt_of_le z2 hb3.size
        have HY := Lib.hid (below_next HX.out hb3)
        have ne3 : w3.heap.size ≠ w.heap.size := by omega
        have ne4 : w.heap.size ≠ w3.heap.size := by omega
        go_wp2_with fail
        go_region_held3 (fun y => y.cell? ⟨w3.heap.size, 0, none⟩ = some (.bool false) ∧ y.cell? ⟨w3.heap.size, 1, none⟩ = some (.int .i64 V))
          (first | go_keep)
          (first
            | (go_at_call 35; refine (PO1.out _).mono ?_; rintro e w4 ⟨rfl, hb4⟩; obtain ⟨hc4, hf4⟩ := bcell hb4; have z4 : w3.heap.size < w4.heap.size := (by have := hb4.size; simp at this; omega); have y4 : w.heap.size < w4.heap.size := (by omega); have p0 : w4.cell? ⟨w.heap.size, 0, none⟩ = some (.bool false) := (by go_simp); have p1 : w4.cell? ⟨w.heap.size, 1, none⟩ = some (.int .i64 0) := (by go_simp); have p2 : w4.frozen? ⟨w.heap.size, 0, none⟩ = false := (by go_simp); have p3 : w4.frozen? ⟨w.heap.size, 1, none⟩ = false := (by go_simp))
            | (go_at_call 36; refine (PA.out _).mono ?_; rintro e w5 ⟨rfl, hb5⟩; obtain ⟨hc5, hf5⟩ := bcell hb5; have q0 : w5.cell? ⟨w.heap.size, 0, none⟩ = some (.bool false) := (by go_simp); have q1 : w5.cell? ⟨w.heap.size, 1, none⟩ = some (.int .i64 0) := (by go_simp); have q2 : w5.frozen? ⟨w.heap.size, 0, none⟩ = false := (by go_simp); have q3 : w5.frozen? ⟨w.heap.size, 1, none⟩ = false := (by go_simp)))
        go_wp2
        have HZ4 := below_next ((HY.out.alloc (by omega) _).drew) hb4
        exact bodyPost_ret (v := .agg #[.bool (nb O), .int .i64 (nv O)]) (by simp [results, Tryd.results20, go_sem, q0, q1, q2, q3]) rfl ⟨rfl, below_put (below_next HZ4 hb5) (by omega) _ _⟩
      · -- the first digit that is cut off is below 5
        have hO := hnone h53
        rw [hO]
        simp only [nb, nv, Option.isNone_some, Option.getD_some]
        generalize ((val (bs T) : Nat) : Int) = V at *
        have PP := Lib.hid pP; have PO := Lib.hid pO
        clear pP pO pO1 pA hadd hone hnone hO e1 hmag hTv hTd hTn hA hB hv
        go_enter Tryd.func20, Tryd.ntmps20
        go_wp2_with fail
        refine (PR.out _).mono ?_; rintro e w1 ⟨rfl, hb1⟩; obtain ⟨hc1', hf1⟩ := bcell hb1
        have z1 : w.heap.size < w1.heap.size := (by have := hb1.size; simp at this; omega)
        go_wp2_with fail
        refine (PP.out _).mono ?_; rintro e w2 ⟨rfl, hb2⟩; obtain ⟨hc2, hf2⟩ := bcell hb2
        have z2 : w.heap.size < w2.heap.size := Nat.lt_of_lt_of_le z1 hb2.size
        have HX := Lib.hid (below_next (below_box hb1) hb2)
        go_wp2_with fail
        refine (PO.out _).mono ?_; rintro e w3 ⟨rfl, hb3⟩; obtain ⟨hc3, hf3⟩ := bcell hb3
        have z3 : w.heap.size < w3.heap.size := Nat.lt_of_lt_of_le z2 hb3.size
        have HY := Lib.hid (below_next HX.out hb3)
        have ne3 : w3.heap.size ≠ w.heap.size := by omega
        have ne4 : w.heap.size ≠ w3.heap.size := by omega
        go_wp2
        exact bodyPost_ret (v := .agg #[.bool false, .int .i64 V]) (by simp [results, Tryd.results20, go_sem, hc1', hf1, hc2, hf2, hc3, hf3, z1, z2, z3]) rfl ⟨rfl, (below_put HY.out (Nat.le_refl _) _ _).alloc (by simp [World.setCell]; omega) _⟩
    · have hpast : ¬ 53 ≤ byteAt (bs b) 6 := by rw [byte_past (by rw [bs_length]; omega)]; omega
      have hO := hnone hpast
      rw [hO]
      simp only [nb, nv, Option.isNone_some, Option.getD_some]
      generalize ((val (bs T) : Nat) : Int) = V at *
      have PP := Lib.hid pP; have PO := Lib.hid pO
      clear pP pO pO1 pA hadd hone hnone hO e1 hmag hTv hTd hTn hA hB hv
      go_enter Tryd.func20, Tryd.ntmps20
      go_wp2_with fail
      refine (PR.out _).mono ?_; rintro e w1 ⟨rfl, hb1⟩; obtain ⟨hc1', hf1⟩ := bcell hb1
      have z1 : w.heap.size < w1.heap.size := (by have := hb1.size; simp at this; omega)
      go_wp2_with fail
      refine (PP.out _).mono ?_; rintro e w2 ⟨rfl, hb2⟩; obtain ⟨hc2, hf2⟩ := bcell hb2
      have z2 : w.heap.size < w2.heap.size := Nat.lt_of_lt_of_le z1 hb2.size
      have HX := Lib.hid (below_next (below_box hb1) hb2)
      go_wp2_with fail
      refine (PO.out _).mono ?_; rintro e w3 ⟨rfl, hb3⟩; obtain ⟨hc3, hf3⟩ := bcell hb3
      have z3 : w.heap.size < w3.heap.size := Nat.lt_of_lt_of_le z2 hb3.size
      have HY := Lib.hid (below_next HX.out hb3)
      have ne3 : w3.heap.size ≠ w.heap.size := by omega
      have ne4 : w.heap.size ≠ w3.heap.size := by omega
      go_wp2
      exact bodyPost_ret (v := .agg #[.bool false, .int .i64 V]) (by simp [results, Tryd.results20, go_sem, hc1', hf1, hc2, hf2, hc3, hf3, z1, z2, z3]) rfl ⟨rfl, (below_put HY.out (Nat.le_refl _) _ _).alloc (by simp [World.setCell]; omega) _⟩
  · have pP := parseInt_no T (by omega) hTd hTn hv
    have hO : rdM (bs a) (bs b) = none := by
      unfold rdM
      rw [hmag, ← hTv, if_pos (by omega)]
    rw [hO]
    simp only [nb, nv, Option.isNone_none, Option.getD_none]
    have PP := Lib.hid pP
    clear pP hO hmag hTv hTd hTn hA hB hv
    go_enter Tryd.func20, Tryd.ntmps20
    go_wp2_with fail
    refine (PR.out _).mono ?_; rintro e w1 ⟨rfl, hb1⟩; obtain ⟨hc1', hf1⟩ := bcell hb1
    have z1 : w.heap.size < w1.heap.size := (by have := hb1.size; simp at this; omega)
    have g1 := Lib.hid ((HG.out.alloc _).below hb1)
    go_wp2_with fail
    refine (PP.out _ g1.out).mono ?_; rintro e w2 ⟨x, t, p, rfl, hb2⟩; obtain ⟨hc2, hf2⟩ := bcell hb2
    have z2 : w.heap.size < w2.heap.size := Nat.lt_of_lt_of_le z1 hb2.size
    have HX := Lib.hid (below_next (below_box hb1) hb2)
    go_wp2
    exact bodyPost_ret (v := .agg #[.bool true, .int .i64 0]) (by simp [results, Tryd.results20, go_sem, hc1', hf1, hc2, hf2, z1, z2]) rfl ⟨rfl, below_put HX.out (by omega) _ _⟩
end Go.Proofs.YtnnilllnkklecaaDoor.DP
