/-
  Contracts of the program's functions of layer 7: Cut.
-/
import Derived.Test.YthkplnljfknphaaDoorFrmPA
set_option linter.unusedSimpArgs false
set_option linter.unusedVariables false
namespace Go.Proofs.YthkplnljfknphaaDoor.FP
open Go.RowKit
open CR (below_next own_ge u8_wrap)
theorem slices_info : (Tryd.prog.info? 22).map (fun i => (i.zero, i.size, i.bytes)) = some (some (.slice none 0 0), 1, 24) := by kernel_rfl
set_option maxRecDepth 100000 in
set_option maxHeartbeats 2000000 in
theorem cut_c (v : Value) (l : List Nat) (hl : l.length ≤ 100000) (hb : Bytes l) (w : World) (hG : G w) (h : ByOut w v l) :
    Calls Tryd.prog 16 #[v] w fun e w' => ∃ v', e = .returned (.tuple #[v', .int .i64 ((fCut l).2 : Nat)]) ∧ BsNew w.heap.size w' v' (fCut l).1 ∧ Below w.heap.size w w' := by
  have HG := Lib.hid hG
  clear hG
  have hF := h
  obtain ⟨A, c, rfl, hc, hx⟩ := h
  obtain ⟨n, hln⟩ : ∃ n, l.length = n := ⟨_, rfl⟩
  rw [hln] at hl hc hF ⊢
  obtain ⟨T, hTT⟩ : ∃ T, fCut l = T := ⟨_, rfl⟩
  rw [hTT]
  have HF := Lib.hid hF; have HB := Lib.hid hb; have HT := Lib.hid hTT; have HL := Lib.hid hln
  obtain ⟨i0, hi0, hz0, hzz1, hzz2⟩ := info_parts slices_info
  clear hF hb hTT hln hx
  go_enter Tryd.func16, Tryd.ntmps16
  go_wp2
  go_loopw [2, 3, 4, 5, 6] (fun lv at' p q e wr => ∃ (acc : List (List Nat)) (k : Nat) (vr : Value), lv = vr ∧ at' = .int .i64 k ∧ k ≤ n ∧ Hid (CutSt l acc k ∧ BsNew w.heap.size wr vr acc ∧ Below w.heap.size w wr)) (fun _ at' _ _ _ _ => n - (intOf at').toNat)
  case atStart => exact ⟨[], 0, _, rfl, rfl, Nat.zero_le _, CutSt.start _, BsNew.nil _ _, Below.refl _ _⟩
  case round =>
    obtain ⟨acc, k, vr, rfl, rfl, hk, HI⟩ := hrel
    have hki : (k : Int) ≤ (n : Int) := by omega
    have hkc : (k : Int) ≤ (c : Int) := by omega
    obtain ⟨⟨t, s, e⟩, hT2⟩ : ∃ x, fTake (l.drop k) = x := ⟨_, rfl⟩
    have TK := Lib.hid (show ∀ (v1 : Value) (w1 : World), G w1 → ByOut w1 v1 (l.drop k) → Calls Tryd.prog 13 #[v1] w1 fun e' w' => ∃ v', e' = .returned (.tuple #[v', .int .i64 (s : Nat), .int .i64 e]) ∧ ByFrom w1.heap.size w' v' t ∧ Below w1.heap.size w1 w' from fun v1 w1 g1 h1 => by
      have := take_c v1 (l.drop k) (HB.out.drops _) w1 g1 h1
      rw [hT2] at this
      exact this)
    by_cases hck : c = k
    · obtain rfl : k = c := hck.symm
      have DR := Lib.hid (ByOut.dropNil (A' := A) (c' := 0) HF.out (show n ≤ k by omega) wr)
      by_cases he : e = 0
      · subst he
        have hz := fTake_size (b := l.drop k) (by rw [hT2])
        rw [hT2] at hz
        have hz1 : 7 ≤ s := hz.1
        have hz2 : s ≤ (l.drop k).length := hz.2.1
        rw [List.length_drop, HL.out] at hz2
        exact absurd hz2 (by omega)
      · have st := CutSt.stop HI.out.1 (by rw [hT2]; exact he)
        rw [HT.out] at st
        have ST := Lib.hid st; have HT2 := Lib.hid hT2
        clear st hT2
        go_wp2_with fail
        refine (TK.out _ _ (HG.out.below HI.out.2.2) (DR.out)).mono ?_; rintro _ w2 ⟨v2, rfl, ho2, hb2⟩
        have hbw2 := below_next HI.out.2.2 hb2
        have NW := Lib.hid (HI.out.2.1.below hb2); have B2 := Lib.hid hbw2
        clear ho2 hbw2 hb2
        go_wp2
        rw [ST.out]
        exact bodyPost_ret (v := .tuple #[u2, .int .i64 (k : Nat)]) (by simp [results, Tryd.results16, go_sem]) rfl ⟨u2, rfl, NW.out, B2.out⟩
    · have hkc2 : ¬ c = k := hck
      have DR := Lib.hid (ByOut.dropAt (HF.out.below HI.out.2.2) hk hkc2)
      by_cases he : e = 0
      · subst he
        have hz := fTake_size (b := l.drop k) (by rw [hT2])
        rw [hT2] at hz
        have hz1 : 7 ≤ s := hz.1
        have nx := CutSt.next HI.out.1 (by rw [hT2])
        rw [hT2] at nx
        have nx1 : CutSt l (acc ++ [t]) (k + s) := nx
        have hks : k + s ≤ n := by have := nx1.1; rw [HL.out] at this; exact this
        have h7 : 7 * acc.length ≤ k := HI.out.1.2.1
        have hksi : (k : Int) + (s : Int) ≤ (n : Int) := by omega
        have NX := Lib.hid nx1; have HT2 := Lib.hid hT2; have HZ := Lib.hid hz1
        clear hz nx nx1 hT2 hz1
        go_wp2_with fail
        refine (TK.out _ _ (HG.out.below HI.out.2.2) (DR.out)).mono ?_; rintro _ w2 ⟨v2, rfl, ho2, hb2⟩
        obtain ⟨A2, c2, hv2, _, _⟩ := id ho2
        subst hv2
        obtain ⟨tn, htn⟩ : ∃ n, t.length = n := ⟨_, rfl⟩
        rw [htn] at ho2 ⊢
        clear htn
        have hbw2 := below_next HI.out.2.2 hb2
        obtain ⟨us, hu0, hu2, hu3⟩ := HI.out.2.1
        have hu1 := ownsRow_below hu0 hb2
        have hx2 := ByFrom.apart ho2 (fun g hg => ownsRow_lt hu0 hg)
        have hu4 := fun k u l h1 h2 => (hu3 k u l h1 h2).below hb2
        have OW := Lib.hid hu1; have O2 := Lib.hid hx2; have B2 := Lib.hid hbw2; have U2 := Lib.hid hu2; have U3 := Lib.hid hu4
        clear hu0 hu1 ho2 hx2 hbw2 hb2 hu2 hu3 hu4
        go_wp2_with ((at_builtin; refine wpList_append_any _ rfl (.tmp 19) (.tmp 21) _ rfl w.heap.size 22 i0 (.slice none 0 0) 1 24 Tryd.underlying32 hi0 hz0 hzz1 hzz2 rfl (by decide) u2 acc.length us rfl (World.ownsRow.alloc OW.out _) _ (some ⟨w2.heap.size, 0, none⟩) 1 1 [.slice A2 tn c2] rfl (Reads.of_own (World.ownsRow_lit (base := 0) (e := 22) (size := 1) w2 #[.slice A2 tn c2] 1 (Nat.zero_le _) (by decide) rfl)) (by intro u hu; rw [List.mem_singleton.1 hu]; exact by_one O2.out.out) (by simp only [maxLen]; omega) (by omega) (by have := B2.out.size; simp; omega) ?_; intro v3 w3 hown3 hg3 hat3))
        have hb3 : Below w.heap.size w w3 := Below.grown (B2.out.alloc B2.out.size _) hg3 (by have := B2.out.size; simp; omega) (own_ge OW.out)
        have hnew := BsNew.push U2.out U3.out O2.out hg3 hown3 hat3
        have NW := Lib.hid hnew; have B3 := Lib.hid hb3
        clear hown3 hg3 hat3 hb3 hnew
        go_wp2
        go_roundw
        case rel => exact ⟨acc ++ [t], k + s, _, rfl, by go_num, hks, NX.out, NW.out, B3.out⟩
        case measure => have := HZ.out; simp [intOf]; omega
      · have st := CutSt.stop HI.out.1 (by rw [hT2]; exact he)
        rw [HT.out] at st
        have ST := Lib.hid st; have HT2 := Lib.hid hT2
        clear st hT2
        go_wp2_with fail
        refine (TK.out _ _ (HG.out.below HI.out.2.2) (DR.out)).mono ?_; rintro _ w2 ⟨v2, rfl, ho2, hb2⟩
        have hbw2 := below_next HI.out.2.2 hb2
        have NW := Lib.hid (HI.out.2.1.below hb2); have B2 := Lib.hid hbw2
        clear ho2 hbw2 hb2
        go_wp2
        rw [ST.out]
        exact bodyPost_ret (v := .tuple #[u2, .int .i64 (k : Nat)]) (by simp [results, Tryd.results16, go_sem]) rfl ⟨u2, rfl, NW.out, B2.out⟩
end Go.Proofs.YthkplnljfknphaaDoor.FP
