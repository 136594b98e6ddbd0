/-
  The statements of layer 4, walked, the second part: floats sorted.
-/
import Derived.Test.YtcppcfjejalggaaFloW
import Derived.Test.YtcppcfjejalggaaFloRefE
import Derived.Test.YtcppcfjejalggaaMemRow
set_option linter.unusedSimpArgs false
set_option linter.unusedVariables false
namespace Go.Proofs.Ytcppcfjejalggaa.LW
open Go.RowKit
def fls (l : List Nat) : List Value := l.map fun n => .float .f64 n
theorem fls_one (l : List Nat) : ∀ u ∈ fls l, u.oneCell' = true := by
  intro u hu
  obtain ⟨x, _, rfl⟩ := List.mem_map.1 hu
  rfl
theorem reads_fl {w : World} {A : Option Addr} {l : List Nat} (h : l ≠ [] → ∃ b off, A = some ⟨b, off, none⟩ ∧ FlAt w b off l) : Reads w w.heap.size 1 A l.length (fls l) := by
  refine ⟨by simp [fls], fun h0 => ?_⟩
  obtain ⟨b, off, rfl, hf⟩ := h (List.length_pos_iff.1 h0)
  have hl0 := List.getElem?_eq_getElem h0
  refine ⟨_, rfl, World.block_lt_of_cell? w _ (hf 0 _ hl0), fun j u hu => ?_⟩
  simp only [fls, List.getElem?_map, Option.map_eq_some_iff] at hu
  obtain ⟨n, hn, rfl⟩ := hu
  have e : (⟨b, off, none⟩ : Addr).add j = ⟨b, off + j, none⟩ := by unfold Addr.add; split <;> simp_all
  rw [e]
  exact hf j n hn
theorem fl_own {w : World} {base : Nat} {v : Value} {l : List Nat} (h : w.ownsRow base 22 1 v l.length (fls l)) : FlOut w v l := by
  rcases Nat.eq_zero_or_pos l.length with h0 | h0
  · rcases h.2 with ⟨rfl, _⟩ | ⟨g, cap, cur, rfl, _, _, hle, _⟩
    · exact ⟨none, 0, by rw [h0], by omega, fun hn => absurd (List.eq_nil_of_length_eq_zero h0) hn⟩
    · exact ⟨_, cap, rfl, hle, fun hn => absurd (List.eq_nil_of_length_eq_zero h0) hn⟩
  · obtain ⟨g, cap, rfl, hc, _⟩ := World.ownsRow.form h h0
    obtain ⟨_, h2⟩ := h
    rcases h2 with ⟨h2, _⟩ | ⟨g', cap', cur, h2, _, hh, hle, _, _, ht⟩
    · cases h2
    · injection h2 with h3 _ h4
      injection h3 with h3
      injection h3 with h3
      subst h3 h4
      refine ⟨_, cap, rfl, hle, fun _ => ⟨g, 0, rfl, fun i n hi => ?_⟩⟩
      rw [Nat.zero_add]
      have hlt : i < l.length := by
        rcases Nat.lt_or_ge i l.length with h | h
        · exact h
        · rw [List.getElem?_eq_none h] at hi; cases hi
      refine (cell_of_row w g i cur _ (0, 0) hh).trans ?_
      have h5 : (cur.toList.take (l.length * 1))[i]? = some (.float .f64 n) := by rw [ht]; simp [fls, hi]
      rw [List.getElem?_take, if_pos (by omega)] at h5
      simpa using h5
theorem held_four {w w' : World} {p1 p2 p3 p4 : Addr} {v1 v2 v3 v4 : Value} (h : w.cell? p1 = some v1 ∧ w.cell? p2 = some v2 ∧ w.cell? p3 = some v3 ∧ w.cell? p4 = some v4) (hb : Below w.heap.size w w') :
    w'.cell? p1 = some v1 ∧ w'.cell? p2 = some v2 ∧ w'.cell? p3 = some v3 ∧ w'.cell? p4 = some v4 :=
  ⟨(hb.cell (World.block_lt_of_cell? w _ h.1)).trans h.1, (hb.cell (World.block_lt_of_cell? w _ h.2.1)).trans h.2.1, (hb.cell (World.block_lt_of_cell? w _ h.2.2.1)).trans h.2.2.1, (hb.cell (World.block_lt_of_cell? w _ h.2.2.2)).trans h.2.2.2⟩
theorem great_c (A : Option Addr) (n c : Nat) (w : World) : Calls Try.prog 19 #[.slice A n c] w fun e w' => e = .returned (.bool (decide ((300 : Int) < (n : Int)))) ∧ w = w' := by
  go_enter Try.func19, Try.ntmps19
  go_wp2
  go_ret
  exact ⟨rfl, rfl⟩
set_option maxRecDepth 100000 in
set_option maxHeartbeats 2000000 in
theorem floatsSorts_c (v : Value) (l : List Nat) (hn : ∀ n ∈ l, n < 18446744073709551616) (w : World) (h : FlOut w v l)
    (SR : l.length ≤ 300 → ∀ w : World, FlOut w v l → Calls Try.prog 23 #[v] w fun e w' => ∃ v', e = .returned v' ∧ FlOut w' v' (sortF l) ∧ Below w.heap.size w w') :
    Calls Try.prog 6 #[v] w fun e w' => e = .returned (.bool true) ∧ Below w.heap.size w w' := by
  have hF := h
  obtain ⟨A, c, rfl, hc, hx⟩ := h
  obtain ⟨n, hln⟩ : ∃ n, l.length = n := ⟨_, rfl⟩
  rw [hln] at hc hF SR ⊢
  have HX := Lib.hid hx; have HN := Lib.hid hn; have HL := Lib.hid hln; have HF := Lib.hid hF; have HSR := Lib.hid SR
  clear hx hn hln hF SR
  by_cases hbig : 300 < n
  · go_enter Try.func6, Try.ntmps6
    go_wp2_with fail
    refine (alive_c _).mono ?_; rintro e w1 ⟨rfl, hb1⟩
    go_wp2_with fail
    refine (great_c _ _ _ _).mono ?_; rintro e w2 ⟨rfl, rfl⟩
    go_wp2
    go_ret
    exact ⟨rfl, hb1⟩
  · obtain ⟨i0, hi0, hz0, hz1, hz2⟩ := info_parts (P := Try.prog) (e := 22) (z := .float .f64 0) (size := 1) (bytes := 8) (by kernel_rfl)
    go_enter Try.func6, Try.ntmps6
    go_wp2_with fail
    refine (alive_c _).mono ?_; rintro e w1 ⟨rfl, hb1⟩
    have HB1 := Lib.hid hb1
    have HF1 := Lib.hid (HF.out.below hb1)
    have hR := reads_fl HX.out
    rw [HL.out] at hR
    have HR := Lib.hid hR
    clear hb1 hR
    go_wp2_with fail
    refine (great_c _ _ _ _).mono ?_; rintro e w2 ⟨rfl, rfl⟩
    go_wp2_with (at_builtin; refine wpList_append_any _ rfl (.tmp 11) (.tmp 12) _ rfl w1.heap.size 22 i0 (.float .f64 0) 1 8 Try.underlying37 hi0 hz0 hz1 hz2 rfl (by decide) (.slice (some ⟨w1.heap.size, 0, none⟩) 0 0) 0 [] rfl (World.ownsRow_made _ _ _ (Nat.le_refl _) (by decide) rfl) w.heap.size A n c (fls l) rfl ((HR.out.below HB1.out).alloc HB1.out.size _) (fls_one _) (by simp only [maxLen]; omega) (by omega) (by simp) ?_; intro v1 w3 hown1 hg1 hat1)
    have hb3 : Below w.heap.size w w3 := Below.grown (HB1.out.alloc HB1.out.size _) hg1 (by have := HB1.out.size; simp; omega) (by intro g hg; have := HB1.out.size; simp [Value.ownBlock] at hg; omega)
    have ho : FlOut w3 v1 l := by
      refine fl_own (base := w1.heap.size) ?_
      rw [HL.out]
      simpa using hown1
    have HB3 := Lib.hid hb3
    have HO3 := Lib.hid ho
    have HF3 := Lib.hid (HF.out.below hb3)
    have S := Lib.hid (LP.sorted_c v1 l (by rw [HL.out]; omega) HN.out)
    have BT := Lib.hid (LP.bits_c v1 l (by rw [HL.out]; omega) HN.out)
    obtain ⟨A1, c1, hv1, hc1, _⟩ := ho
    rw [HL.out] at hv1 hc1
    subst hv1
    clear hown1 hg1 hat1 hb3
    go_wp2_with fail
    refine (S.out _ HO3.out).mono ?_; rintro e w4 ⟨v2, rfl, hv2, hb4⟩
    have HB4 := Lib.hid (below_next HB3.out hb4)
    have HO4 := Lib.hid (HO3.out.below hb4)
    have HV4 := Lib.hid hv2
    clear hb4 hv2
    go_wp2_with fail
    refine (BT.out _ HO4.out).mono ?_; rintro e w5 ⟨v3, rfl, hv3, hb5⟩
    have HB5 := Lib.hid (below_next HB4.out hb5)
    have HO5 := Lib.hid (HO4.out.below hb5)
    have HV5 := Lib.hid (HV4.out.below hb5)
    have HT5 := Lib.hid hv3
    have HF5 := Lib.hid (HF.out.below HB5.out)
    clear hb5 hv3
    have e1 := fun w f1 f2 => LR.same_c (.slice A1 n c1) (.slice A n c) l l (by rw [HL.out]; omega) (by rw [HL.out]; omega) w f1 f2
    rw [decide_eq_true rfl] at e1
    have E1 := Lib.hid e1
    clear e1
    go_wp2_with fail
    refine (E1.out _ HO5.out HF5.out).mono ?_; rintro e w6 ⟨rfl, hb6⟩
    have HB6 := Lib.hid (below_next HB5.out hb6)
    have HV6 := Lib.hid (HV5.out.below hb6)
    have HT6 := Lib.hid (HT5.out.below hb6)
    have HF6 := Lib.hid (HF.out.below HB6.out)
    clear hb6
    go_wp2_with fail
    refine (HSR.out (by omega) _ HF6.out).mono ?_; rintro e w7 ⟨v4, rfl, hv4, hb7⟩
    have HB7 := Lib.hid (below_next HB6.out hb7)
    have HV7 := Lib.hid (HV6.out.below hb7)
    have HT7 := Lib.hid (HT6.out.below hb7)
    have HU7 := Lib.hid hv4
    clear hb7 hv4
    have e2 := fun w f1 f2 => LR.same_c v2 v4 (sortF l) (sortF l) (by rw [sortF_length, HL.out]; omega) (by rw [sortF_length, HL.out]; omega) w f1 f2
    rw [decide_eq_true rfl] at e2
    have E2 := Lib.hid e2
    clear e2
    go_wp2_with fail
    refine (E2.out _ HV7.out HU7.out).mono ?_; rintro e w8 ⟨rfl, hb8⟩
    have HB8 := Lib.hid (below_next HB7.out hb8)
    have HV8 := Lib.hid (HV7.out.below hb8)
    have HT8 := Lib.hid (HT7.out.below hb8)
    clear hb8
    obtain ⟨A3, c3, hv3, hc3, hx3⟩ := HT8.out
    obtain ⟨A2, c2, hv2, hc2, hx2⟩ := HV8.out
    rw [HL.out] at hv3 hc3
    rw [sortF_length, HL.out] at hv2 hc2
    subst hv2 hv3
    have HX3 := Lib.hid hx3; have HX2 := Lib.hid hx2
    clear hx2 hx3
    go_wp2
    go_loopw [6] (fun i wr => ∃ k : Nat, k ≤ n ∧ i = .int .i64 k ∧ Hid (Below w8.heap.size w8 wr)) (fun i _ => n - (intOf i).toNat)
    case atStart => exact ⟨0, Nat.zero_le _, rfl, Below.refl _ _⟩
    case round =>
      obtain ⟨k, hk, rfl, HI⟩ := hrel
      by_cases hlt : k < n
      · have hl1 : k < l.length := by rw [HL.out]; exact hlt
        have hl2 : k < (sortF l).length := by rw [sortF_length, HL.out]; exact hlt
        obtain ⟨b1, o1, rfl, a1⟩ := HX.out (by intro h; rw [h] at hl1; exact absurd hl1 (Nat.not_lt_zero _))
        obtain ⟨b2, o2, rfl, a2⟩ := HX2.out (by intro h; rw [h] at hl2; exact absurd hl2 (Nat.not_lt_zero _))
        obtain ⟨b3, o3, rfl, a3⟩ := HX3.out (by intro h; rw [h] at hl1; exact absurd hl1 (Nat.not_lt_zero _))
        have y1 := (a1.below (below_next HB8.out HI.out)) k _ (List.getElem?_eq_getElem hl1)
        have y2 := (a2.below HI.out) k _ (List.getElem?_eq_getElem hl2)
        have y3 := a3 k _ (List.getElem?_eq_getElem hl1)
        replace y3 := (HI.out.cell (World.block_lt_of_cell? w8 _ y3)).trans y3
        have BR := fun w => LR.bits_run (l[k]) w
        rcases k with _ | m
        · generalize l[0] = p at *
          generalize (sortF l)[0] = q at *
          clear a1 a2 a3
          simp only [Nat.add_zero] at y1 y2 y3
          go_wp2
          go_region
          go_wp2
          go_roundw
          case rel => exact ⟨1, by omega, by go_num, Below.drew HI.out⟩
          case measure => simp [intOf]; omega
        · have hl3 : m < (sortF l).length := by omega
          have y4 := (a2.below HI.out) m _ (List.getElem?_eq_getElem hl3)
          have C := Lib.hid (LP.cmp_c _ _ (HN.out _ (sortF_mem l (List.getElem_mem hl3))) (HN.out _ (sortF_mem l (List.getElem_mem hl2))))
          have hz : ¬ 0 < fCmp (sortF l)[m] (sortF l)[m + 1] := by
            rw [cmp_pos (HN.out _ (sortF_mem l (List.getElem_mem hl3))) (HN.out _ (sortF_mem l (List.getElem_mem hl2)))]
            have := List.pairwise_iff_getElem.1 (sortF_srt l HN.out) m (m + 1) hl3 hl2 (by omega)
            omega
          generalize fCmp (sortF l)[m] (sortF l)[m + 1] = z at *
          generalize l[m + 1] = p at *
          generalize (sortF l)[m + 1] = q at *
          generalize (sortF l)[m] = r at *
          clear a1 a2 a3
          have i1 : (0 : Int) ≤ ((m + 1 : Nat) : Int) := by omega
          have i2 : ((m + 1 : Nat) : Int) < (n : Int) := by omega
          have i3 : (0 : Int) ≤ (m : Int) := by omega
          have i4 : (m : Int) < (n : Int) := by omega
          have i5 : IntKind.i64.wrap (((m + 1 : Nat) : Int) - 1) = (m : Int) := by
            rw [show ((m + 1 : Nat) : Int) - 1 = (m : Int) by omega]
            simp [IntKind.wrap, IntKind.bits, IntKind.signed]
            omega
          have i6 : ((m + 1 : Nat) : Int).toNat = m + 1 := by omega
          have i7 : (m : Int).toNat = m := by omega
          have i8 : (0 : Int) < ((m + 1 : Nat) : Int) := by omega
          have i9 : 0 < m + 1 := by omega
          have i10 : (decide (((m + 1 : Nat) : Int) > 0)) = true := decide_eq_true i8
          generalize hkk : m + 1 = k at *
          go_wp2_with fail
          go_region_held3 (fun y => y.cell? ⟨b3, o3 + k, none⟩ = some (.int .u64 (p : Int)) ∧ y.cell? ⟨b1, o1 + k, none⟩ = some (.float .f64 p) ∧ y.cell? ⟨b2, o2 + m, none⟩ = some (.float .f64 r) ∧ y.cell? ⟨b2, o2 + k, none⟩ = some (.float .f64 q))
            (first | go_keep | (refine held_four ?_ (by assumption); assumption))
            (first
              | (go_at_call 17; with_reducible refine (C.out _).mono ?_; rintro e w9 ⟨rfl, hb9⟩))
          have i11 : decide (z > 0) = false := decide_eq_false (by omega)
          go_wp2
          go_roundw
          case rel => exact ⟨k + 1, by omega, by go_num, below_next (Below.drew HI.out) hb9⟩
          case measure => simp [intOf]; omega
      · obtain rfl : k = n := by omega
        go_wp2
        go_ret
        exact ⟨rfl, below_next HB8.out HI.out⟩
end Go.Proofs.Ytcppcfjejalggaa.LW
