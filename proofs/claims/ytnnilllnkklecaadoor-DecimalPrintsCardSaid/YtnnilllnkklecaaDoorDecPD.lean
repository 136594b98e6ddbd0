/-
  Contracts of the program's own functions of layer 3 (decimal), fourth part: Print, Whole.
-/
import Derived.Test.YtnnilllnkklecaaDoorDecPC
set_option linter.unusedSimpArgs false
set_option linter.unusedVariables false
namespace Go.Proofs.YtnnilllnkklecaaDoor.DP
open Go.RowKit Go.Sort

theorem ret_str {a b : ByteArray} (h : a = b) : Ending.returned (.string a) = .returned (.string b) := by rw [h]
set_option maxRecDepth 100000 in
set_option maxHeartbeats 2000000 in
theorem print_no (b : Bool) (v : Int) (g : ¬ (b = false ∧ v ≠ -9223372036854775808)) (w : World) :
    Calls Tryd.prog 12 #[.agg #[.bool b, .int .i64 v]] w fun e w' => e = .returned (.string ⟨#[78, 111, 110, 101]⟩) ∧ Below w.heap.size w w' := by
  cases b
  · have hv : (v != -9223372036854775808) = false := by rw [bne_eq_false_iff_eq]; exact Decidable.byContradiction fun h => g ⟨rfl, h⟩
    have p := FP.right_f v
    rw [hv] at p
    have P := Lib.hid p
    clear p hv g
    go_enter Tryd.func12, Tryd.ntmps12
    go_wp2_with fail
    refine (P.out _).mono ?_; rintro e w1 ⟨rfl, hb1⟩
    go_wp2
    go_ret
    exact ⟨rfl, below_box hb1⟩
  · clear g
    go_enter Tryd.func12, Tryd.ntmps12
    go_wp2
    go_ret
    exact ⟨rfl, (Below.refl _ _).alloc (Nat.le_refl _) _⟩
theorem fr_nil {p : Nat} : frF 6 p = [] ↔ p = 0 := by
  constructor
  · intro h
    by_cases h0 : p = 0
    · exact h0
    · rw [frF_step h0] at h; cases h
  · rintro rfl; exact frF_zero 6
theorem say_whole (v : Int) (hv : v < 0) {a q : Nat} {Q : ByteArray} (ha : v.natAbs = a) (hq : a / 1000000 = q) (hp : a % 1000000 = 0) (hQ : str (digs q) = Q) : str (printS (some v)) = ⟨#[45]⟩ ++ Q := by
  show str ((if v < 0 then [45] else []) ++ (digs (v.natAbs / 1000000) ++ (if v.natAbs % 1000000 = 0 then [] else _))) = _
  rw [if_pos hv, ha, hq, if_pos hp, ← hQ, show (⟨#[45]⟩ : ByteArray) = str [45] from rfl, str_append, List.append_nil]
theorem say_whole' (v : Int) (hv : ¬ v < 0) {a q : Nat} {Q : ByteArray} (ha : v.natAbs = a) (hq : a / 1000000 = q) (hp : a % 1000000 = 0) (hQ : str (digs q) = Q) : str (printS (some v)) = ⟨#[]⟩ ++ Q := by
  show str ((if v < 0 then [45] else []) ++ (digs (v.natAbs / 1000000) ++ (if v.natAbs % 1000000 = 0 then [] else _))) = _
  rw [if_neg hv, ha, hq, if_pos hp, ← hQ, show (⟨#[]⟩ : ByteArray) = str [] from rfl, str_append, List.append_nil]
theorem say_part (v : Int) (hv : v < 0) {a q p : Nat} {Q E : ByteArray} (ha : v.natAbs = a) (hq : a / 1000000 = q) (hp : a % 1000000 = p) (hz : ¬ p = 0) (hQ : str (digs q) = Q) (hE : str (frF 6 p) = E) :
    str (printS (some v)) = ⟨#[45]⟩ ++ Q ++ ⟨#[46]⟩ ++ E := by
  show str ((if v < 0 then [45] else []) ++ (digs (v.natAbs / 1000000) ++ (if v.natAbs % 1000000 = 0 then [] else 46 :: frF 6 (v.natAbs % 1000000)))) = _
  rw [if_pos hv, ha, hq, hp, if_neg hz, ← hQ, ← hE, show (⟨#[45]⟩ : ByteArray) = str [45] from rfl, show (⟨#[46]⟩ : ByteArray) = str [46] from rfl, str_append, str_append, str_append]
  simp
theorem say_part' (v : Int) (hv : ¬ v < 0) {a q p : Nat} {Q E : ByteArray} (ha : v.natAbs = a) (hq : a / 1000000 = q) (hp : a % 1000000 = p) (hz : ¬ p = 0) (hQ : str (digs q) = Q) (hE : str (frF 6 p) = E) :
    str (printS (some v)) = ⟨#[]⟩ ++ Q ++ ⟨#[46]⟩ ++ E := by
  show str ((if v < 0 then [45] else []) ++ (digs (v.natAbs / 1000000) ++ (if v.natAbs % 1000000 = 0 then [] else 46 :: frF 6 (v.natAbs % 1000000)))) = _
  rw [if_neg hv, ha, hq, hp, if_neg hz, ← hQ, ← hE, show (⟨#[]⟩ : ByteArray) = str [] from rfl, show (⟨#[46]⟩ : ByteArray) = str [46] from rfl, str_append, str_append, str_append]
  simp
theorem frF_byte (k p : Nat) (hp : p < 1000000) : ∀ c ∈ frF k p, 48 ≤ c ∧ c ≤ 57 := by
  intro c hc
  have h := allD_frF k p hp
  unfold allD at h
  rw [List.all_eq_true] at h
  have := isD_bounds (h c hc)
  omega
set_option maxRecDepth 100000 in
set_option maxHeartbeats 2000000 in
theorem print_yes (v : Int) (h0 : -9223372036854775807 ≤ v) (h1 : v ≤ 9223372036854775807) (w : World) (hG : G w) :
    Calls Tryd.prog 12 #[.agg #[.bool false, .int .i64 v]] w fun e w' => e = .returned (.string (str (printS (some v)))) ∧ Below w.heap.size w w' := by
  have p1 := FP.right_f v
  rw [show (v != -9223372036854775808) = true from by rw [bne_iff_ne]; omega] at p1
  have p2 := FP.abs_any false v (by omega)
  rw [rd_some rfl (by omega)] at p2
  obtain ⟨a, ha⟩ : ∃ a, v.natAbs = a := ⟨_, rfl⟩
  have habs : absO (some v) = some (a : Int) := by
    show some _ = _
    congr 1
    split <;> omega
  rw [habs] at p2
  simp only [nb, nv, Option.isNone_some, Option.getD_some] at p2
  have ha1 : a ≤ 9223372036854775807 := by omega
  obtain ⟨q, hq⟩ : ∃ q, a / 1000000 = q := ⟨_, rfl⟩
  obtain ⟨p, hp⟩ : ∃ p, a % 1000000 = p := ⟨_, rfl⟩
  have hp1 : p < 1000000 := by omega
  have p3 := format_c q (by omega)
  have p4 := format_c (1000000 + p) (by omega)
  obtain ⟨Q, hQ⟩ : ∃ Q, str (digs q) = Q := ⟨_, rfl⟩
  obtain ⟨D, hD⟩ : ∃ D, str (digs (1000000 + p)) = D := ⟨_, rfl⟩
  obtain ⟨C, hC⟩ : ∃ C, D.extract 1 D.size = C := ⟨_, rfl⟩
  rw [hQ] at p3
  rw [hD] at p4
  have hDb : bs D = digs (1000000 + p) := by rw [← hD]; exact bs_str fun c hc => by have := digs_byte _ c hc; omega
  have hDs : 1 ≤ D.size ∧ D.size ≤ 20 := by
    rw [← bs_length, hDb]
    exact ⟨List.length_pos_iff.2 (digs_ne _), digs_length64 (by omega)⟩
  have hCb : bs C = (digs (1000000 + p)).drop 1 := by
    rw [← hC, Lib.extract_from, bs_mk, ← hDb]
    simp [nu, bs]
  have hCs : C.size ≤ 20 := by rw [← bs_length, hCb, List.length_drop, ← hDb, bs_length]; omega
  have p5 := trim_c C (by omega)
  rw [hCb, decimals_of hp1] at p5
  obtain ⟨E, hE⟩ : ∃ E, str (frF 6 p) = E := ⟨_, rfl⟩
  rw [hE] at p5
  have hq1 : (a : Int) / 1000000 = (q : Int) := by omega
  have hp2 : (a : Int) % 1000000 = (p : Int) := by omega
  obtain ⟨N, hN⟩ : ∃ N, 1000000 + p = N := ⟨_, rfl⟩
  rw [hN] at p4
  have hp3 : (1000000 : Int) + (p : Int) = (N : Int) := by omega
  have hD1 : (1 : Int) ≤ D.size := by omega
  have hQs : Q.size ≤ 20 := by rw [← hQ, str_size]; exact digs_length64 (by omega)
  have hEs : E.size ≤ 6 := by rw [← hE, str_size]; exact frF_length 6 p
  have P1 := Lib.hid p1; have P2 := Lib.hid p2; have P3 := Lib.hid p3; have P4 := Lib.hid p4; have P5 := Lib.hid p5
  have HG := Lib.hid hG
  have HE := Lib.hid hE; have HQ := Lib.hid hQ; have HA := Lib.hid ha
  clear p1 p2 p3 p4 p5 habs hG hE hQ hD hDb hCb ha hN
  have hfd : ∀ w : World, (Instr.field 24 (.agg #[.bool false, .int .i64 (a : Int)]) 1).run Tryd.prog w = .ok (.int .i64 (a : Int)) w := fun _ => by kernel_rfl
  by_cases hv : v < 0
  · by_cases hz : p = 0
    · have e0 : E = ⟨#[]⟩ := by rw [← HE.out, hz, frF_zero]; rfl
      subst e0
      have HZP := Lib.hid hz
      clear hz
      go_enter Tryd.func12, Tryd.ntmps12
      go_wp2_with fail
      refine (P1.out _).mono ?_; rintro e w1 ⟨rfl, hb1⟩; obtain ⟨hc1, hf1⟩ := bcell hb1
      have z1 : w.heap.size < w1.heap.size := (by have := hb1.size; simp at this; omega)
      have HX := Lib.hid (below_box hb1)
      go_wp2_with fail
      refine (P2.out _).mono ?_; rintro e w2 ⟨rfl, hb2⟩; obtain ⟨hc2, hf2⟩ := bcell hb2
      have z2 : w.heap.size < w2.heap.size := Nat.lt_of_lt_of_le z1 hb2.size
      have HY := Lib.hid (below_next HX.out hb2)
      have g2 := Lib.hid (HG.out.below HY.out)
      go_wp2_with fail
      refine (P3.out _ g2.out).mono ?_; rintro e w3 ⟨rfl, hb3⟩
      have HZ := Lib.hid (below_next HY.out hb3)
      have g3 := Lib.hid (g2.out.below hb3)
      go_wp2_with fail
      refine (P4.out _ g3.out).mono ?_; rintro e w4 ⟨rfl, hb4⟩
      have HW := Lib.hid (below_next HZ.out hb4)
      go_wp2_with fail
      refine (P5.out _).mono ?_; rintro e w5 ⟨rfl, rfl⟩
      go_wp2
      go_ret
      exact ⟨ret_str (say_whole v hv HA.out hq (by rw [hp]; exact HZP.out) HQ.out).symm, HW.out⟩
    · have e0 : E.toList.isEmpty = false := by
        rw [ByteArray.toList_eq, Bool.eq_false_iff]
        intro h
        have h1 : bs E = [] := by simpa [bs] using h
        rw [← HE.out, bs_str (fun c hc => by have := frF_byte 6 p hp1 c hc; omega)] at h1
        exact hz (fr_nil.1 h1)
      have HZP := Lib.hid hz
      clear hz
      go_enter Tryd.func12, Tryd.ntmps12
      go_wp2_with fail
      refine (P1.out _).mono ?_; rintro e w1 ⟨rfl, hb1⟩; obtain ⟨hc1, hf1⟩ := bcell hb1
      have z1 : w.heap.size < w1.heap.size := (by have := hb1.size; simp at this; omega)
      have HX := Lib.hid (below_box hb1)
      go_wp2_with fail
      refine (P2.out _).mono ?_; rintro e w2 ⟨rfl, hb2⟩; obtain ⟨hc2, hf2⟩ := bcell hb2
      have z2 : w.heap.size < w2.heap.size := Nat.lt_of_lt_of_le z1 hb2.size
      have HY := Lib.hid (below_next HX.out hb2)
      have g2 := Lib.hid (HG.out.below HY.out)
      go_wp2_with fail
      refine (P3.out _ g2.out).mono ?_; rintro e w3 ⟨rfl, hb3⟩
      have HZ := Lib.hid (below_next HY.out hb3)
      have g3 := Lib.hid (g2.out.below hb3)
      go_wp2_with fail
      refine (P4.out _ g3.out).mono ?_; rintro e w4 ⟨rfl, hb4⟩
      have HW := Lib.hid (below_next HZ.out hb4)
      go_wp2_with fail
      refine (P5.out _).mono ?_; rintro e w5 ⟨rfl, rfl⟩
      go_wp2
      go_ret
      exact ⟨ret_str (say_part v hv HA.out hq hp HZP.out HQ.out HE.out).symm, HW.out⟩
  · by_cases hz : p = 0
    · have e0 : E = ⟨#[]⟩ := by rw [← HE.out, hz, frF_zero]; rfl
      subst e0
      have HZP := Lib.hid hz
      clear hz
      go_enter Tryd.func12, Tryd.ntmps12
      go_wp2_with fail
      refine (P1.out _).mono ?_; rintro e w1 ⟨rfl, hb1⟩; obtain ⟨hc1, hf1⟩ := bcell hb1
      have z1 : w.heap.size < w1.heap.size := (by have := hb1.size; simp at this; omega)
      have HX := Lib.hid (below_box hb1)
      go_wp2_with fail
      refine (P2.out _).mono ?_; rintro e w2 ⟨rfl, hb2⟩; obtain ⟨hc2, hf2⟩ := bcell hb2
      have z2 : w.heap.size < w2.heap.size := Nat.lt_of_lt_of_le z1 hb2.size
      have HY := Lib.hid (below_next HX.out hb2)
      have g2 := Lib.hid (HG.out.below HY.out)
      go_wp2_with fail
      refine (P3.out _ g2.out).mono ?_; rintro e w3 ⟨rfl, hb3⟩
      have HZ := Lib.hid (below_next HY.out hb3)
      have g3 := Lib.hid (g2.out.below hb3)
      go_wp2_with fail
      refine (P4.out _ g3.out).mono ?_; rintro e w4 ⟨rfl, hb4⟩
      have HW := Lib.hid (below_next HZ.out hb4)
      go_wp2_with fail
      refine (P5.out _).mono ?_; rintro e w5 ⟨rfl, rfl⟩
      go_wp2
      go_ret
      exact ⟨ret_str (say_whole' v (by omega) HA.out hq (by rw [hp]; exact HZP.out) HQ.out).symm, HW.out⟩
    · have e0 : E.toList.isEmpty = false := by
        rw [ByteArray.toList_eq, Bool.eq_false_iff]
        intro h
        have h1 : bs E = [] := by simpa [bs] using h
        rw [← HE.out, bs_str (fun c hc => by have := frF_byte 6 p hp1 c hc; omega)] at h1
        exact hz (fr_nil.1 h1)
      have HZP := Lib.hid hz
      clear hz
      go_enter Tryd.func12, Tryd.ntmps12
      go_wp2_with fail
      refine (P1.out _).mono ?_; rintro e w1 ⟨rfl, hb1⟩; obtain ⟨hc1, hf1⟩ := bcell hb1
      have z1 : w.heap.size < w1.heap.size := (by have := hb1.size; simp at this; omega)
      have HX := Lib.hid (below_box hb1)
      go_wp2_with fail
      refine (P2.out _).mono ?_; rintro e w2 ⟨rfl, hb2⟩; obtain ⟨hc2, hf2⟩ := bcell hb2
      have z2 : w.heap.size < w2.heap.size := Nat.lt_of_lt_of_le z1 hb2.size
      have HY := Lib.hid (below_next HX.out hb2)
      have g2 := Lib.hid (HG.out.below HY.out)
      go_wp2_with fail
      refine (P3.out _ g2.out).mono ?_; rintro e w3 ⟨rfl, hb3⟩
      have HZ := Lib.hid (below_next HY.out hb3)
      have g3 := Lib.hid (g2.out.below hb3)
      go_wp2_with fail
      refine (P4.out _ g3.out).mono ?_; rintro e w4 ⟨rfl, hb4⟩
      have HW := Lib.hid (below_next HZ.out hb4)
      go_wp2_with fail
      refine (P5.out _).mono ?_; rintro e w5 ⟨rfl, rfl⟩
      go_wp2
      go_ret
      exact ⟨ret_str (say_part' v (by omega) HA.out hq hp HZP.out HQ.out HE.out).symm, HW.out⟩
theorem print_c (b : Bool) (v : Int) (h1 : -9223372036854775808 ≤ v ∧ v ≤ 9223372036854775807) (w : World) (hG : G w) :
    Calls Tryd.prog 12 #[.agg #[.bool b, .int .i64 v]] w fun e w' => e = .returned (.string (str (printS (rd b v)))) ∧ Below w.heap.size w w' := by
  by_cases g : b = false ∧ v ≠ -9223372036854775808
  · obtain ⟨rfl, hv⟩ := g
    rw [rd_some rfl hv]
    exact print_yes v (by omega) h1.2 w hG
  · rw [rd_none g]
    exact print_no b v g w
set_option maxRecDepth 100000 in
set_option maxHeartbeats 2000000 in
theorem whole_c (s : ByteArray) (hs : s.size ≤ 9223372036854775807) (w : World) (hG : G w) :
    Calls Tryd.prog 10 #[.string s] w fun e w' => e = .returned (.tuple #[.int .i64 (wholeV (bs s) : Nat), .int .i64 (wholeE (bs s))]) ∧ Below w.heap.size w w' := by
  by_cases hl : 64 < s.size
  · have hL : 64 < (bs s).length := by rw [bs_length]; exact hl
    rw [show wholeV (bs s) = 0 from if_pos hL, show wholeE (bs s) = 12 from if_pos hL]
    go_enter Tryd.func10, Tryd.ntmps10
    go_wp2
    go_ret2
    exact ⟨rfl, Below.refl _ _⟩
  · have hL : ¬ 64 < (bs s).length := by rw [bs_length]; exact hl
    have p1 := digits_c s hs
    by_cases hok : allD (bs s) = true ∧ bs s ≠ []
    · rw [show okD (bs s) = true from (okD_iff _).2 hok] at p1
      have hno : ¬ (allD (bs s) = false ∨ bs s = []) := by
        rintro (h | h)
        · rw [hok.1] at h; cases h
        · exact hok.2 h
      by_cases hv : val (bs s) ≤ 9223372036854775807
      · have p2 := atoi_ok s (by omega) hok.1 hok.2 hv
        by_cases hm : 1099511627776 < val (bs s)
        · rw [show wholeV (bs s) = 0 from by unfold wholeV; rw [if_neg hL, if_neg hno, if_pos hm], show wholeE (bs s) = 3 from by unfold wholeE; rw [if_neg hL, if_neg hno, if_pos hm]]
          obtain ⟨V, hV⟩ : ∃ V, ((val (bs s) : Nat) : Int) = V := ⟨_, rfl⟩
          rw [hV] at p2
          have hm' : 1099511627776 < V := by omega
          have P1 := Lib.hid p1; have P2 := Lib.hid p2
          clear p1 p2 hok hno hV hm hv hL
          go_enter Tryd.func10, Tryd.ntmps10
          go_wp2_with fail
          refine (P1.out _).mono ?_; rintro e w1 ⟨rfl, rfl⟩
          go_wp2_with fail
          refine (P2.out _).mono ?_; rintro e w2 ⟨rfl, hb2⟩
          go_wp2
          go_ret2
          exact ⟨rfl, hb2⟩
        · rw [show wholeV (bs s) = val (bs s) from by unfold wholeV; rw [if_neg hL, if_neg hno, if_neg hm], show wholeE (bs s) = 0 from by unfold wholeE; rw [if_neg hL, if_neg hno, if_neg hm]]
          obtain ⟨V, hV⟩ : ∃ V, ((val (bs s) : Nat) : Int) = V := ⟨_, rfl⟩
          rw [hV] at p2 ⊢
          have hm' : ¬ 1099511627776 < V := by omega
          have P1 := Lib.hid p1; have P2 := Lib.hid p2
          clear p1 p2 hok hno hV hm hv hL
          go_enter Tryd.func10, Tryd.ntmps10
          go_wp2_with fail
          refine (P1.out _).mono ?_; rintro e w1 ⟨rfl, rfl⟩
          go_wp2_with fail
          refine (P2.out _).mono ?_; rintro e w2 ⟨rfl, hb2⟩
          go_wp2
          go_ret2
          exact ⟨rfl, hb2⟩
      · have p2 := atoi_no s (by omega) hok.1 hok.2 hv
        rw [show wholeV (bs s) = 0 from by unfold wholeV; rw [if_neg hL, if_neg hno, if_pos (by omega)], show wholeE (bs s) = 3 from by unfold wholeE; rw [if_neg hL, if_neg hno, if_pos (by omega)]]
        have P1 := Lib.hid p1; have P2 := Lib.hid p2
        have HG := Lib.hid hG
        clear p1 p2 hok hno hv hL hG
        go_enter Tryd.func10, Tryd.ntmps10
        go_wp2_with fail
        refine (P1.out _).mono ?_; rintro e w1 ⟨rfl, rfl⟩
        go_wp2_with fail
        refine (P2.out _ HG.out).mono ?_; rintro e w2 ⟨x, t, p, rfl, hb2⟩
        go_wp2
        go_ret2
        exact ⟨rfl, hb2⟩
    · have hno : allD (bs s) = false ∨ bs s = [] := by
        by_cases h : allD (bs s) = true
        · exact .inr (Decidable.byContradiction fun hn => hok ⟨h, hn⟩)
        · exact .inl (Bool.eq_false_iff.2 h)
      have e : okD (bs s) = false := by
        rw [Bool.eq_false_iff]
        intro h
        exact hok ((okD_iff _).1 h)
      rw [e] at p1
      rw [show wholeV (bs s) = 0 from by unfold wholeV; rw [if_neg hL, if_pos hno], show wholeE (bs s) = 2 from by unfold wholeE; rw [if_neg hL, if_pos hno]]
      have P1 := Lib.hid p1
      clear p1 hok hno e hL
      go_enter Tryd.func10, Tryd.ntmps10
      go_wp2_with fail
      refine (P1.out _).mono ?_; rintro e w1 ⟨rfl, rfl⟩
      go_wp2
      go_ret2
      exact ⟨rfl, Below.refl _ _⟩
end Go.Proofs.YtnnilllnkklecaaDoor.DP
