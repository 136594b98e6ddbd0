/-
  Texts of the trie's proofs, merged: TrlRC, TriRA, TriRB.
-/
import Derived.Test.YtbfbjalnahngjaaGreatDoorTriQ13
import Derived.Test.YtbfbjalnahngjaaGreatDoorTriQ9
import Derived.Laws.DeepStrings4
set_option linter.unusedSimpArgs false
set_option linter.unusedVariables false
namespace Go.Proofs.YtbfbjalnahngjaaGreatDoor.GR
open Go.RowKit GP
theorem gErr_frm {s : List Nat} (h : s.length ≤ 128) : gErr s = if s = [] ∨ (frm s 0).1 ≠ (s.length : Int) then 10 else if 4 < (frm s 0).2.1 then 19 else if 64 < (frm s 0).2.2 then 11 else 0 := by
  unfold gErr frm
  rw [if_neg (by omega), List.drop_zero]
  cases hp : gPr false s with
  | none =>
    simp only
    exact (if_pos (.inr (by omega))).symm
  | some x =>
    obtain ⟨l, r⟩ := x
    obtain ⟨hg, hs, _⟩ := gPr_pf hp
    have hl := congrArg List.length hs
    rw [List.length_append] at hl
    simp only
    by_cases h1 : l.len = 0 ∨ r ≠ []
    · rw [if_pos h1, if_pos]
      by_cases hr : r = []
      · subst hr
        have h0 : l.len = 0 := h1.resolve_right (fun e => e rfl)
        left
        cases l with
        | nil => exact hs
        | atom a r => simp [Tr.len] at h0
        | br a r => simp [Tr.len] at h0
        | none => exact hg.elim
        | way a r => exact hg.elim
      · right
        have : r.length ≠ 0 := fun e => hr (List.eq_nil_of_length_eq_zero e)
        omega
    · have hr : r = [] := Decidable.byContradiction fun e => h1 (.inr e)
      subst hr
      have h0 : l.len ≠ 0 := fun e => h1 (.inl e)
      have hne : s ≠ [] := fun e => by
        subst e
        rw [gPr_nil] at hp
        exact h0 (by rw [← (Prod.mk.inj (Option.some.inj hp)).1]; rfl)
      have hc := (gCnt_num l).1 hg 1 (by omega)
      have hx : ((s.length - ([] : List Nat).length : Nat) : Int) = (s.length : Int) := by rw [List.length_nil, Nat.sub_zero]
      have hx2 : ¬ (s = [] ∨ (s.length : Int) ≠ (s.length : Int)) := by
        rintro (e | e)
        · exact hne e
        · exact e rfl
      rw [hx, if_neg hx2, if_neg h1]
      by_cases h4 : 4 < gDp l
      · rw [if_pos h4, if_pos (show (4 : Int) < ((gDp l : Nat) : Int) by omega)]
      · rw [if_neg h4, if_neg (show ¬ (4 : Int) < ((gDp l : Nat) : Int) by omega)]
        by_cases h6 : 64 < gCnt l 1
        · rw [if_pos h6, if_pos (show (64 : Int) < ((min 65 (gNm l) : Nat) : Int) by omega)]
        · rw [if_neg h6, if_neg (show ¬ (64 : Int) < ((min 65 (gNm l) : Nat) : Int) by omega)]
set_option maxRecDepth 100000 in
set_option maxHeartbeats 4000000 in
theorem check_c (p : ByteArray) (hp : p.size ≤ 9223372036854775807) (w : World) : Calls Tryz.prog 48 #[.string p] w fun e w' => e = .returned (.int .i64 (gErr (bs p))) ∧ Below w.heap.size w w' := by
  by_cases hl : 128 < p.size
  · have hi : (128 : Int) < (p.size : Int) := by omega
    have he : gErr (bs p) = 12 := if_pos (by rw [bs_length]; exact hl)
    rw [he]
    clear he
    go_enter Tryz.func48, Tryz.ntmps48
    go_wp2
    go_ret
    exact ⟨rfl, Below.refl _ _⟩
  · have hi : ¬ (128 : Int) < (p.size : Int) := by omega
    have FC := form_c p 0 (by omega) (Nat.zero_le _) w
    have hE := gErr_frm (s := bs p) (by rw [bs_length]; omega)
    rw [bs_length] at hE
    obtain ⟨E, hEE⟩ : ∃ E, gErr (bs p) = E := ⟨_, rfl⟩
    obtain ⟨F, hF⟩ : ∃ F, frm (bs p) 0 = F := ⟨_, rfl⟩
    obtain ⟨x, dp, mn⟩ := F
    rw [hF] at FC hE
    rw [hEE] at hE ⊢
    have HFC := Lib.hid FC
    simp only at hE
    clear FC hF hEE
    by_cases h0 : p.size = 0
    · obtain rfl := is_empty h0
      have HE := Lib.hid (show (10 : Int) = E by rw [hE, if_pos (.inl rfl)])
      clear hE
      as_aux_lemma =>
        go_enter Tryz.func48, Tryz.ntmps48
        go_wp2_with fail
        refine HFC.out.mono ?_; rintro _ w2 ⟨rfl, hb2⟩
        have HB := Lib.hid hb2
        clear hb2
        go_wp2
        go_ret
        exact ⟨congrArg (fun z => Ending.returned (.int .i64 z)) HE.out, HB.out⟩
    · have hne : bs p ≠ [] := fun e => h0 (by rw [← bs_length, e]; rfl)
      have hem : p.toList.isEmpty = false := by
        rw [ByteArray.toList_eq]
        obtain ⟨⟨l⟩⟩ := p
        have h2 : ¬ l.length = 0 := h0
        cases l with
        | nil => simp at h2
        | cons x l => rfl
      by_cases hx : x = (p.size : Int)
      · subst hx
        by_cases h4 : 4 < dp
        · have HE := Lib.hid (show (19 : Int) = E by rw [hE, if_neg (by rintro (e | e); exact hne e; exact e rfl), if_pos h4])
          clear hE hne
          as_aux_lemma =>
            go_enter Tryz.func48, Tryz.ntmps48
            go_wp2_with fail
            refine HFC.out.mono ?_; rintro _ w2 ⟨rfl, hb2⟩
            have HB := Lib.hid hb2
            clear hb2
            go_wp2
            go_ret
            exact ⟨congrArg (fun z => Ending.returned (.int .i64 z)) HE.out, HB.out⟩
        · by_cases h6 : 64 < mn
          · have HE := Lib.hid (show (11 : Int) = E by rw [hE, if_neg (by rintro (e | e); exact hne e; exact e rfl), if_neg h4, if_pos h6])
            clear hE hne
            as_aux_lemma =>
              go_enter Tryz.func48, Tryz.ntmps48
              go_wp2_with fail
              refine HFC.out.mono ?_; rintro _ w2 ⟨rfl, hb2⟩
              have HB := Lib.hid hb2
              clear hb2
              go_wp2
              go_ret
              exact ⟨congrArg (fun z => Ending.returned (.int .i64 z)) HE.out, HB.out⟩
          · have HE := Lib.hid (show (0 : Int) = E by rw [hE, if_neg (by rintro (e | e); exact hne e; exact e rfl), if_neg h4, if_neg h6])
            clear hE hne
            as_aux_lemma =>
              go_enter Tryz.func48, Tryz.ntmps48
              go_wp2_with fail
              refine HFC.out.mono ?_; rintro _ w2 ⟨rfl, hb2⟩
              have HB := Lib.hid hb2
              clear hb2
              go_wp2
              go_ret
              exact ⟨congrArg (fun z => Ending.returned (.int .i64 z)) HE.out, HB.out⟩
      · have HE := Lib.hid (show (10 : Int) = E by rw [hE, if_pos (.inr hx)])
        have hxb : (x != (p.size : Int)) = true := bne_iff_ne.2 hx
        clear hE hne
        as_aux_lemma =>
          go_enter Tryz.func48, Tryz.ntmps48
          go_wp2_with fail
          refine HFC.out.mono ?_; rintro _ w2 ⟨rfl, hb2⟩
          have HB := Lib.hid hb2
          clear hb2
          go_wp2
          go_ret
          exact ⟨congrArg (fun z => Ending.returned (.int .i64 z)) HE.out, HB.out⟩
/-- Does a range have a byte? -/
def inRg (c : Nat) (r : Nat × Nat) : Bool := decide (r.1 ≤ c) && decide (c ≤ r.2)
/-- What is left of a class. -/
structure HsI (s : List Nat) (k c : Nat) (rs : List (Nat × Nat)) (d : Bool) : Prop where
  rd : ∃ rs' n', gCls (s.drop k) = some (rs', n') ∧ rs'.any (inRg c) = d
theorem cls_lt {s : List Nat} {k : Nat} {rs : List (Nat × Nat)} {n : Nat} (h : gCls (s.drop k) = some (rs, n)) : k < s.length := by
  have := gCls_size _ _ (Nat.le_refl _) h
  rw [List.length_drop] at this
  omega
theorem cls_more {s : List Nat} {k j : Nat} {m : Nat × Nat} {rs : List (Nat × Nat)} {n : Nat} (h : gCls (s.drop k) = some (rs, n)) (h93 : s.getD k 0 ≠ 93) (hm : gMem (s.drop k) = some (m, j)) : ∃ rs' n', gCls (s.drop (k + j)) = some (rs', n') ∧ rs = m :: rs' := by
  rw [cls_step (cls_lt h) h93 hm] at h
  cases hg : gCls (s.drop (k + j)) with
  | none => rw [hg] at h; cases h
  | some x =>
    rw [hg] at h
    injection h with h
    injection h with h1 h2
    exact ⟨x.1, x.2, rfl, h1.symm⟩
theorem cls_mem {s : List Nat} {k : Nat} {rs : List (Nat × Nat)} {n : Nat} (h : gCls (s.drop k) = some (rs, n)) (h93 : s.getD k 0 ≠ 93) : ∃ m j, gMem (s.drop k) = some (m, j) := by
  cases hm : gMem (s.drop k) with
  | none => rw [cls_no (cls_lt h) h93 hm] at h; cases h
  | some x => exact ⟨x.1, x.2, rfl⟩
set_option maxRecDepth 100000 in
set_option maxHeartbeats 4000000 in
theorem has_c (p : ByteArray) (a c : Nat) (hp : p.size ≤ 128) (hc : c < 256) (rs : List (Nat × Nat)) (n : Nat) (hg : gCls ((bs p).drop a) = some (rs, n)) (w : World) : Calls Tryz.prog 81 #[.string p, .int .i64 (a : Nat), .int .u8 (c : Nat)] w fun e w' => e = .returned (.bool (rs.any (inRg c))) ∧ Below w.heap.size w w' := by
  obtain ⟨d, hd⟩ : ∃ d, rs.any (inRg c) = d := ⟨_, rfl⟩
  rw [hd]
  have HI0 := Lib.hid (show ∃ rs' n', gCls ((bs p).drop a) = some (rs', n') ∧ rs'.any (inRg c) = d from ⟨rs, n, hg, hd⟩)
  have BY := Lib.hid (fun (c : Nat) (hc : c < 256) (W : World) => byte_c c hc W)
  have hl := bs_length p
  have HL := Lib.hid hl
  have hw2 : IntKind.i64.wrap ((p.size : Int) - 2) = (p.size : Int) - 2 := by rw [IntKind.wrap_i64]; omega
  have ha : a < p.size := by rw [← hl]; exact cls_lt hg
  clear hd hl hg
  go_enter Tryz.func81, Tryz.ntmps81
  go_wp2
  go_loopw [1, 7, 8] (fun v1 _ _ wr => ∃ k : Nat, v1 = .int .i64 (k : Nat) ∧ k < p.size ∧ Hid (∃ rs' n', gCls ((bs p).drop k) = some (rs', n') ∧ rs'.any (inRg c) = d) ∧ Hid (Below w.heap.size w wr)) (fun v1 _ _ _ => p.size - (intOf v1).toNat)
  case atStart => exact ⟨a, rfl, ha, HI0.out, Below.refl _ _⟩
  case round =>
    obtain ⟨k, rfl, hk, HI, HB⟩ := hrel
    obtain ⟨b, hcb, x0, hb⟩ := bs_get hk
    have hki : (k : Int) < (p.size : Int) := by omega
    by_cases h93 : b = 93
    · subst h93
      as_aux_lemma =>
        have HE := Lib.hid (show false = d by
          obtain ⟨rs', n', hg, hd⟩ := HI.out
          rw [cls_end (by rw [HL.out]; exact hk) hcb] at hg
          injection hg with hg
          injection hg with hg _
          rw [← hd, ← hg]
          rfl)
        clear hcb
        go_wp2
        go_ret
        exact ⟨congrArg (fun z => Ending.returned (.bool z)) HE.out, HB.out⟩
    · have i93 : ¬ (b : Int) = 93 := by omega
      have b93 : ((b : Int) != 93) = true := bne_iff_ne.2 i93
      have hw1 : IntKind.i64.wrap ((k : Int) + 1) = ((k + 1 : Nat) : Int) := by rw [IntKind.wrap_i64]; omega
      have hwp2 : IntKind.i64.wrap ((k : Int) + 2) = ((k + 2 : Nat) : Int) := by rw [IntKind.wrap_i64]; omega
      have HM := mem_at (bs p) k (by rw [HL.out]; exact hk)
      rw [hcb] at HM
      have hB : isB b = true := by
        obtain ⟨rs', n', hg, hd⟩ := HI.out
        obtain ⟨m, j, hm⟩ := cls_mem hg (by rw [hcb]; exact h93)
        rw [HM] at hm
        split at hm
        · assumption
        · cases hm
      rw [if_pos hB] at HM
      have HMM := Lib.hid HM
      -- what one member more says
      have STEP := Lib.hid (fun (m : Nat × Nat) (j : Nat) (hm : gMem ((bs p).drop k) = some (m, j)) => show ∃ rs' n', gCls ((bs p).drop (k + j)) = some (rs', n') ∧ (inRg c m || rs'.any (inRg c)) = d by
        obtain ⟨rs', n', hg, hd⟩ := HI.out
        obtain ⟨rs2, n2, hg2, e⟩ := cls_more hg (by rw [hcb]; exact h93) hm
        exact ⟨rs2, n2, hg2, by rw [← hd, e]; rfl⟩)
      have HONE := Lib.hid (fun (hx : ¬ (k + 3 ≤ (bs p).length ∧ (bs p).getD (k + 1) 0 = 45 ∧ isB ((bs p).getD (k + 2) 0) = true)) => STEP.out (b, b) 1 (by rw [HMM.out, if_neg hx]))
      have HNE := Lib.hid (show (bs p).getD k 0 ≠ 93 by rw [hcb]; exact h93)
      clear HM hcb hB
      by_cases h3 : k + 3 ≤ p.size
      · have h3i : (k : Int) < (p.size : Int) - 2 := by omega
        obtain ⟨c1, hcb1, x1, hc1⟩ := bs_get (show k + 1 < p.size by omega)
        have HC1 := Lib.hid hcb1
        have hk1 : ((k + 1 : Nat) : Int) < (p.size : Int) := by omega
        clear hcb1
        by_cases h45 : c1 = 45
        · subst h45
          obtain ⟨c2, hcb2, x2, hc2⟩ := bs_get (show k + 2 < p.size by omega)
          have HC2 := Lib.hid hcb2
          have hk2 : ((k + 2 : Nat) : Int) < (p.size : Int) := by omega
          have BC2 := Lib.hid (fun W => BY.out c2 hc2 W)
          clear hcb2
          cases hB2 : isB c2 with
          | false =>
            rw [hB2] at BC2
            have HX := HONE.out (fun hx => by rw [HC2.out, hB2] at hx; exact absurd hx.2.2 (by decide))
            clear hB2
            obtain ⟨rs', n', hg', hd'⟩ := HX
            have hnx : k + 1 < p.size := by rw [← HL.out]; exact cls_lt hg'
            by_cases hlo : b ≤ c
            · by_cases hhi : c ≤ b
              · as_aux_lemma =>
                  have HE := Lib.hid (show true = d by
                    rw [← hd']
                    unfold inRg
                    rw [decide_eq_true (show (b, b).1 ≤ c from hlo), decide_eq_true (show c ≤ (b, b).2 from hhi)]
                    rfl)
                  have hloi : (b : Int) ≤ (c : Int) := by omega
                  have hhii : (c : Int) ≤ (b : Int) := by omega
                  clear hg' hd'
                  go_wp2
                  go_region
                  go_wp2_with fail
                  refine (BC2.out _).mono ?_; rintro _ w2 ⟨rfl, hw2⟩; obtain rfl := hw2.symm
                  go_wp2
                  go_ret
                  exact ⟨congrArg (fun z => Ending.returned (.bool z)) HE.out, HB.out.drew⟩
              · as_aux_lemma =>
                  have HN := Lib.hid (show ∃ rs' n', gCls ((bs p).drop (k + 1)) = some (rs', n') ∧ rs'.any (inRg c) = d from ⟨rs', n', hg', by
                    rw [← hd']
                    unfold inRg
                    rw [decide_eq_false (show ¬ c ≤ (b, b).2 from hhi), Bool.and_false, Bool.false_or]⟩)
                  have hloi : (b : Int) ≤ (c : Int) := by omega
                  have hhii : ¬ (c : Int) ≤ (b : Int) := by omega
                  clear hg' hd'
                  go_wp2
                  go_region
                  go_wp2_with fail
                  refine (BC2.out _).mono ?_; rintro _ w2 ⟨rfl, hw2⟩; obtain rfl := hw2.symm
                  go_wp2
                  go_roundw
                  case rel => exact ⟨k + 1, by go_num, hnx, HN.out, HB.out.drew⟩
                  case measure => first | (simp [intOf]; done) | (simp [intOf]; omega)
            · as_aux_lemma =>
                have HN := Lib.hid (show ∃ rs' n', gCls ((bs p).drop (k + 1)) = some (rs', n') ∧ rs'.any (inRg c) = d from ⟨rs', n', hg', by
                  rw [← hd']
                  unfold inRg
                  rw [decide_eq_false (show ¬ (b, b).1 ≤ c from hlo), Bool.false_and, Bool.false_or]⟩)
                have hloi : ¬ (b : Int) ≤ (c : Int) := by omega
                clear hg' hd'
                go_wp2
                go_region
                go_wp2_with fail
                refine (BC2.out _).mono ?_; rintro _ w2 ⟨rfl, hw2⟩; obtain rfl := hw2.symm
                go_wp2
                go_roundw
                case rel => exact ⟨k + 1, by go_num, hnx, HN.out, HB.out.drew⟩
                case measure => first | (simp [intOf]; done) | (simp [intOf]; omega)
          | true =>
            rw [hB2] at BC2
            have hm3 : (k + 3 ≤ (bs p).length ∧ (bs p).getD (k + 1) 0 = 45 ∧ isB ((bs p).getD (k + 2) 0) = true) := ⟨by rw [HL.out]; exact h3, HC1.out, by rw [HC2.out]; exact hB2⟩
            have hrise : b ≤ c2 := by
              obtain ⟨rs', n', hg, hd⟩ := HI.out
              obtain ⟨m, j, hm⟩ := cls_mem hg HNE.out
              rw [HMM.out, if_pos hm3, HC2.out] at hm
              split at hm
              · assumption
              · cases hm
            have HX := STEP.out (b, c2) 3 (by rw [HMM.out, if_pos hm3, HC2.out, if_pos hrise])
            have hwp3 : IntKind.i64.wrap (((k + 2 : Nat) : Int) + 1) = ((k + 3 : Nat) : Int) := by rw [IntKind.wrap_i64]; omega
            clear hB2 hm3
            obtain ⟨rs', n', hg', hd'⟩ := HX
            have hnx : k + 3 < p.size := by rw [← HL.out]; exact cls_lt hg'
            by_cases hlo : b ≤ c
            · by_cases hhi : c ≤ c2
              · as_aux_lemma =>
                  have HE := Lib.hid (show true = d by
                    rw [← hd']
                    unfold inRg
                    rw [decide_eq_true (show (b, c2).1 ≤ c from hlo), decide_eq_true (show c ≤ (b, c2).2 from hhi)]
                    rfl)
                  have hloi : (b : Int) ≤ (c : Int) := by omega
                  have hhii : (c : Int) ≤ (c2 : Int) := by omega
                  clear hg' hd'
                  go_wp2
                  go_region
                  go_wp2_with fail
                  refine (BC2.out _).mono ?_; rintro _ w2 ⟨rfl, hw2⟩; obtain rfl := hw2.symm
                  go_wp2
                  go_ret
                  exact ⟨congrArg (fun z => Ending.returned (.bool z)) HE.out, HB.out.drew⟩
              · as_aux_lemma =>
                  have HN := Lib.hid (show ∃ rs' n', gCls ((bs p).drop (k + 3)) = some (rs', n') ∧ rs'.any (inRg c) = d from ⟨rs', n', hg', by
                    rw [← hd']
                    unfold inRg
                    rw [decide_eq_false (show ¬ c ≤ (b, c2).2 from hhi), Bool.and_false, Bool.false_or]⟩)
                  have hloi : (b : Int) ≤ (c : Int) := by omega
                  have hhii : ¬ (c : Int) ≤ (c2 : Int) := by omega
                  clear hg' hd'
                  go_wp2
                  go_region
                  go_wp2_with fail
                  refine (BC2.out _).mono ?_; rintro _ w2 ⟨rfl, hw2⟩; obtain rfl := hw2.symm
                  go_wp2
                  go_roundw
                  case rel => exact ⟨k + 3, by go_num, hnx, HN.out, HB.out.drew⟩
                  case measure => first | (simp [intOf]; done) | (simp [intOf]; omega)
            · as_aux_lemma =>
                have HN := Lib.hid (show ∃ rs' n', gCls ((bs p).drop (k + 3)) = some (rs', n') ∧ rs'.any (inRg c) = d from ⟨rs', n', hg', by
                  rw [← hd']
                  unfold inRg
                  rw [decide_eq_false (show ¬ (b, c2).1 ≤ c from hlo), Bool.false_and, Bool.false_or]⟩)
                have hloi : ¬ (b : Int) ≤ (c : Int) := by omega
                clear hg' hd'
                go_wp2
                go_region
                go_wp2_with fail
                refine (BC2.out _).mono ?_; rintro _ w2 ⟨rfl, hw2⟩; obtain rfl := hw2.symm
                go_wp2
                go_roundw
                case rel => exact ⟨k + 3, by go_num, hnx, HN.out, HB.out.drew⟩
                case measure => first | (simp [intOf]; done) | (simp [intOf]; omega)
        · have i45 : ¬ (c1 : Int) = 45 := by omega
          have b45 : ((c1 : Int) == 45) = false := beq_false_of_ne i45
          have HX := HONE.out (fun hx => by rw [HC1.out] at hx; exact h45 hx.2.1)
          obtain ⟨rs', n', hg', hd'⟩ := HX
          have hnx : k + 1 < p.size := by rw [← HL.out]; exact cls_lt hg'
          by_cases hlo : b ≤ c
          · by_cases hhi : c ≤ b
            · as_aux_lemma =>
                have HE := Lib.hid (show true = d by
                  rw [← hd']
                  unfold inRg
                  rw [decide_eq_true (show (b, b).1 ≤ c from hlo), decide_eq_true (show c ≤ (b, b).2 from hhi)]
                  rfl)
                have hloi : (b : Int) ≤ (c : Int) := by omega
                have hhii : (c : Int) ≤ (b : Int) := by omega
                clear hg' hd'
                go_wp2
                go_region
                go_wp2
                go_ret
                exact ⟨congrArg (fun z => Ending.returned (.bool z)) HE.out, HB.out.drew⟩
            · as_aux_lemma =>
                have HN := Lib.hid (show ∃ rs' n', gCls ((bs p).drop (k + 1)) = some (rs', n') ∧ rs'.any (inRg c) = d from ⟨rs', n', hg', by
                  rw [← hd']
                  unfold inRg
                  rw [decide_eq_false (show ¬ c ≤ (b, b).2 from hhi), Bool.and_false, Bool.false_or]⟩)
                have hloi : (b : Int) ≤ (c : Int) := by omega
                have hhii : ¬ (c : Int) ≤ (b : Int) := by omega
                clear hg' hd'
                go_wp2
                go_region
                go_wp2
                go_roundw
                case rel => exact ⟨k + 1, by go_num, hnx, HN.out, HB.out.drew⟩
                case measure => first | (simp [intOf]; done) | (simp [intOf]; omega)
          · as_aux_lemma =>
              have HN := Lib.hid (show ∃ rs' n', gCls ((bs p).drop (k + 1)) = some (rs', n') ∧ rs'.any (inRg c) = d from ⟨rs', n', hg', by
                rw [← hd']
                unfold inRg
                rw [decide_eq_false (show ¬ (b, b).1 ≤ c from hlo), Bool.false_and, Bool.false_or]⟩)
              have hloi : ¬ (b : Int) ≤ (c : Int) := by omega
              clear hg' hd'
              go_wp2
              go_region
              go_wp2
              go_roundw
              case rel => exact ⟨k + 1, by go_num, hnx, HN.out, HB.out.drew⟩
              case measure => first | (simp [intOf]; done) | (simp [intOf]; omega)
      · have h3i : ¬ (k : Int) < (p.size : Int) - 2 := by omega
        have HX := HONE.out (fun hx => by rw [HL.out] at hx; exact h3 hx.1)
        obtain ⟨rs', n', hg', hd'⟩ := HX
        have hnx : k + 1 < p.size := by rw [← HL.out]; exact cls_lt hg'
        by_cases hlo : b ≤ c
        · by_cases hhi : c ≤ b
          · as_aux_lemma =>
              have HE := Lib.hid (show true = d by
                rw [← hd']
                unfold inRg
                rw [decide_eq_true (show (b, b).1 ≤ c from hlo), decide_eq_true (show c ≤ (b, b).2 from hhi)]
                rfl)
              have hloi : (b : Int) ≤ (c : Int) := by omega
              have hhii : (c : Int) ≤ (b : Int) := by omega
              clear hg' hd'
              go_wp2
              go_region
              go_wp2
              go_ret
              exact ⟨congrArg (fun z => Ending.returned (.bool z)) HE.out, HB.out.drew⟩
          · as_aux_lemma =>
              have HN := Lib.hid (show ∃ rs' n', gCls ((bs p).drop (k + 1)) = some (rs', n') ∧ rs'.any (inRg c) = d from ⟨rs', n', hg', by
                rw [← hd']
                unfold inRg
                rw [decide_eq_false (show ¬ c ≤ (b, b).2 from hhi), Bool.and_false, Bool.false_or]⟩)
              have hloi : (b : Int) ≤ (c : Int) := by omega
              have hhii : ¬ (c : Int) ≤ (b : Int) := by omega
              clear hg' hd'
              go_wp2
              go_region
              go_wp2
              go_roundw
              case rel => exact ⟨k + 1, by go_num, hnx, HN.out, HB.out.drew⟩
              case measure => first | (simp [intOf]; done) | (simp [intOf]; omega)
        · as_aux_lemma =>
            have HN := Lib.hid (show ∃ rs' n', gCls ((bs p).drop (k + 1)) = some (rs', n') ∧ rs'.any (inRg c) = d from ⟨rs', n', hg', by
              rw [← hd']
              unfold inRg
              rw [decide_eq_false (show ¬ (b, b).1 ≤ c from hlo), Bool.false_and, Bool.false_or]⟩)
            have hloi : ¬ (b : Int) ≤ (c : Int) := by omega
            clear hg' hd'
            go_wp2
            go_region
            go_wp2
            go_roundw
            case rel => exact ⟨k + 1, by go_num, hnx, HN.out, HB.out.drew⟩
            case measure => first | (simp [intOf]; done) | (simp [intOf]; omega)
end Go.Proofs.YtbfbjalnahngjaaGreatDoor.GR
namespace Go.Proofs.YtbfbjalnahngjaaGreatDoor
open Go.RowKit GR
theorem bs_mid (s : ByteArray) (a b : Nat) : bs (s.extract a b) = ((bs s).drop a).take (b - a) := by
  obtain ⟨⟨l⟩⟩ := s
  simp [bs, ByteArray.extract_mk, List.map_take, List.map_drop]
  try rw [List.drop_take]
/-- Where a cut stands. -/
def CutR (s : List Nat) (fr i : Nat) (out : List (List Nat)) : Prop := CutI s fr i out ∨ (i = s.length + 1 ∧ tFull s = out)
theorem CutR.done {s : List Nat} {fr i : Nat} {out : List (List Nat)} (h : CutR s fr i out) (h10 : out.length ≤ 10) (he : s.length < i ∨ 10 ≤ out.length) : (tFull s).take 10 = out := by
  rcases h with h | ⟨_, h⟩
  · have hi := h.hi
    have e : out.length = 10 := by omega
    rw [h.rd, ← e, List.take_left]
  · rw [h, List.take_of_length_le h10]
namespace TR
set_option maxRecDepth 100000 in
set_option maxHeartbeats 4000000 in
theorem cut_c (s : ByteArray) (hs : s.size ≤ 100000) (w : World) : Calls Tryz.prog 47 #[.string s] w fun e w' => ∃ v, e = .returned v ∧ TxNew w.heap.size w' v ((tFull (bs s)).take 10) ∧ Below w.heap.size w w' := by
  obtain ⟨i0, hi0, hz0, hzz1, hzz2⟩ := info_parts tx_info
  obtain ⟨n, hn⟩ : ∃ n, s.size = n := ⟨_, rfl⟩
  have HN := Lib.hid hn
  have HL := Lib.hid (show (bs s).length = n by rw [bs_length, hn])
  have hnn : n ≤ 100000 := by omega
  have HS0 := Lib.hid (Nat.le_refl w.heap.size)
  clear hs
  go_enter Tryz.func47, Tryz.ntmps47
  go_wp2_with fail
  go_loopw [3, 4, 5] (fun v3 v4 v5 wr => ∃ (fr i q : Nat) (A : Option Addr) (c : Nat) (out : List (List Nat)), v4 = .int .i64 (fr : Nat) ∧ v5 = .int .i64 (i : Nat) ∧ v3 = .slice A q c ∧ i ≤ n + 1 ∧ q ≤ 10 ∧ Hid (out.length = q) ∧ Hid (TxNew w.heap.size wr (.slice A q c) out) ∧ Hid (Below w.heap.size w wr) ∧ Hid (CutR (bs s) fr i out)) (fun _ _ v5 _ => n + 1 - (intOf v5).toNat)
  case atStart => exact ⟨0, 0, 0, none, 0, [], rfl, rfl, rfl, Nat.zero_le _, Nat.zero_le _, rfl, TxNew.nil _ _, Below.refl _ _, .inl (CutI.start _)⟩
  case round =>
    obtain ⟨fr, i, q, A, c, out, rfl, rfl, rfl, hi, hq, HQ, HT, HB, HC⟩ := hrel
    have HOWR := Lib.hid (show wr.ownsRow w.heap.size 9 1 (.slice A q c) q (txC out) by have h3 := HT.out; unfold TxNew at h3; rw [HQ.out] at h3; exact h3)
    have HSZ := Lib.hid (show w.heap.size ≤ wr.heap.size from HB.out.size)
    have NEW := Lib.hid (fun (w3 : World) (A3 : Option Addr) (c3 : Nat) (Y : ByteArray) (hY : Y = Y) (h : w3.ownsRow w.heap.size 9 1 (.slice A3 (q + 1) c3) (q + 1) (txC out ++ [.string Y])) => show TxNew w.heap.size w3 (.slice A3 (q + 1) c3) (out ++ [bs Y]) from by
      refine TxNew.push ?_
      rw [HQ.out]
      have e8 : txC [bs Y] = [.string Y] := by unfold txC; rw [List.map_cons, List.map_nil, str_bs]
      rw [e8]
      exact h)
    by_cases hc : i ≤ n ∧ q < 10
    · obtain ⟨hin, hq10⟩ := hc
      have hii : (i : Int) ≤ (n : Int) := by omega
      have hqi : (q : Int) < 10 := by omega
      have hci : CutI (bs s) fr i out := by
        rcases HC.out with h | ⟨h, _⟩
        · exact h
        · have := HL.out; omega
      have hfi := hci.le
      by_cases hie : i = n
      · subst hie
        have NC := Lib.hid (show CutR (bs s) (i + 1) (i + 1) (out ++ [bs (s.extract fr i)]) from .inr ⟨by rw [HL.out], by rw [bs_mid, ← HL.out]; have h := hci; rw [← HL.out] at h; exact h.ends⟩)
        have HCI := Lib.hid hci
        clear hci hn
        as_aux_lemma =>
          have hfi2 : (fr : Int) ≤ (i : Int) := by omega
          have hnn2 : s.size = i := HN.out
          go_wp2_with (at_builtin; refine wpList_append_any _ rfl (.tmp 27) (.tmp 32) _ rfl w.heap.size 9 i0 (.string ⟨#[]⟩) 1 16 Tryz.underlying27 hi0 hz0 hzz1 hzz2 rfl (by decide) (.slice A q c) q (txC out) rfl (World.ownsRow.alloc HOWR.out _) _ (some ⟨wr.heap.size, 0, none⟩) 1 1 [.string (s.extract fr i)] rfl (Reads.of_own (World.ownsRow_lit (base := 0) (e := 9) (size := 1) wr #[.string (s.extract fr i)] 1 (Nat.zero_le _) (by decide) rfl)) (by simp [Value.oneCell']) (by simp only [maxLen]; omega) (by omega) (by have := HSZ.out; simp; omega) ?_; intro v3 w3 hown3 hg3 hat3; obtain ⟨A3, c3, hv3, -, -⟩ := own_form hown3; subst hv3; have HT3 := Lib.hid (NEW.out w3 A3 c3 (s.extract fr i) rfl hown3); have HB3 := Lib.hid (show Below w.heap.size w w3 from (HB.out.alloc HSZ.out _).grown hg3 (by have h4 := HSZ.out; simp; omega) (fun j hj => (HOWR.out.lt j hj).1)); clear hown3 hg3 hat3)
          go_roundw
          case rel => exact ⟨i + 1, i + 1, q + 1, A3, c3, _, by go_num, by go_num, rfl, by omega, by omega, by rw [List.length_append, HQ.out]; rfl, HT3.out, HB3.out, NC.out⟩
          case measure => (simp [intOf]) <;> omega
      · have hlt : i < n := by omega
        have hlt2 : i < s.size := by omega
        have hni : ¬ (i : Int) = (n : Int) := by omega
        have hb := at_byte hlt2
        by_cases h46 : (bs s).getD i 0 = 46
        · rw [h46] at hb
          have NC := Lib.hid (show CutR (bs s) (i + 1) (i + 1) (out ++ [bs (s.extract fr i)]) from .inl (by rw [bs_mid]; exact hci.point (by rw [HL.out]; exact hlt) h46))
          have HCI := Lib.hid hci
          clear hci
          as_aux_lemma =>
            have hfi2 : (fr : Int) ≤ (i : Int) := by omega
            go_wp2_with (at_builtin; refine wpList_append_any _ rfl (.tmp 27) (.tmp 32) _ rfl w.heap.size 9 i0 (.string ⟨#[]⟩) 1 16 Tryz.underlying27 hi0 hz0 hzz1 hzz2 rfl (by decide) (.slice A q c) q (txC out) rfl (World.ownsRow.alloc HOWR.out _) _ (some ⟨wr.heap.size, 0, none⟩) 1 1 [.string (s.extract fr i)] rfl (Reads.of_own (World.ownsRow_lit (base := 0) (e := 9) (size := 1) wr #[.string (s.extract fr i)] 1 (Nat.zero_le _) (by decide) rfl)) (by simp [Value.oneCell']) (by simp only [maxLen]; omega) (by omega) (by have := HSZ.out; simp; omega) ?_; intro v3 w3 hown3 hg3 hat3; obtain ⟨A3, c3, hv3, -, -⟩ := own_form hown3; subst hv3; have HT3 := Lib.hid (NEW.out w3 A3 c3 (s.extract fr i) rfl hown3); have HB3 := Lib.hid (show Below w.heap.size w w3 from (HB.out.alloc HSZ.out _).grown hg3 (by have h4 := HSZ.out; simp; omega) (fun j hj => (HOWR.out.lt j hj).1)); clear hown3 hg3 hat3)
            go_roundw
            case rel => exact ⟨i + 1, i + 1, q + 1, A3, c3, _, by go_num, by go_num, rfl, by omega, by omega, by rw [List.length_append, HQ.out]; rfl, HT3.out, HB3.out, NC.out⟩
            case measure => (simp [intOf]) <;> omega
        · obtain ⟨bt, hbt⟩ : ∃ bt, (bs s).getD i 0 = bt := ⟨_, rfl⟩
          have NC := Lib.hid (show CutR (bs s) fr (i + 1) out from .inl (hci.go (by rw [HL.out]; exact hlt) h46))
          have HCI := Lib.hid hci
          rw [hbt] at hb h46
          have hb46 : ¬ (bt : Int) = 46 := by omega
          have hbb : ((bt : Int) == 46) = false := by simpa using hb46
          clear hci hbt
          as_aux_lemma =>
            go_wp2
            go_roundw
            case rel => exact ⟨fr, i + 1, q, A, c, out, rfl, by go_num, rfl, by omega, hq, HQ.out, HT.out, HB.out, NC.out⟩
            case measure => simp [intOf]; omega
    · have HD := Lib.hid (HC.out.done (by rw [HQ.out]; exact hq) (by rw [HQ.out, HL.out]; omega))
      rcases Classical.em (i ≤ n) with h1 | h1
      · have h2 : ¬ q < 10 := fun h => hc ⟨h1, h⟩
        have h1i : (i : Int) ≤ (n : Int) := by omega
        have h2i : ¬ (q : Int) < 10 := by omega
        clear hc
        as_aux_lemma =>
          go_wp2
          go_ret
          exact ⟨_, rfl, by rw [HD.out]; exact HT.out, HB.out⟩
      · have h1i : ¬ (i : Int) ≤ (n : Int) := by omega
        clear hc
        as_aux_lemma =>
          go_wp2
          go_ret
          exact ⟨_, rfl, by rw [HD.out]; exact HT.out, HB.out⟩
end TR
end Go.Proofs.YtbfbjalnahngjaaGreatDoor
namespace Go.Proofs.YtbfbjalnahngjaaGreatDoor
open Go.RowKit GR
theorem ten_len (s : List Nat) : ((tFull s).take 10).length ≤ 10 := by rw [List.length_take]; omega
theorem ten_right {s : List Nat} (h : tRight s = true) : (tFull s).take 10 = tCut s 8 := by
  have h1 := (tRight_names h).1
  have h2 := tCut_few.1 h1
  rw [List.take_of_length_le (by omega), tCut_full s 8 (by omega)]
theorem ten_err {s : List Nat} (h : tErr s = 0) : (tFull s).take 10 = tCut s 8 := by
  have h1 := (tErr_zero h).1
  have h2 := tCut_few.1 h1
  rw [List.take_of_length_le (by omega), tCut_full s 8 (by omega)]
theorem full_bytes (s : ByteArray) : ∀ q ∈ (tFull (bs s)).take 10, (∀ c ∈ q, c < 256) ∧ q.length ≤ s.size := fun q hq => by
  have h : ∀ (t : List Nat), ∀ q ∈ tFull t, (∀ c ∈ q, c ∈ t) ∧ q.length ≤ t.length := by
    intro t
    induction t with
    | nil => intro q hq; simp [tFull] at hq; subst hq; exact ⟨fun _ h => h, Nat.le_refl _⟩
    | cons c t ih =>
      intro q hq
      unfold tFull at hq
      split at hq
      · rcases List.mem_cons.1 hq with rfl | hq
        · exact ⟨fun _ h => absurd h (by simp), by simp⟩
        · obtain ⟨a, b⟩ := ih q hq
          exact ⟨fun c hc => List.mem_cons_of_mem _ (a c hc), by rw [List.length_cons]; omega⟩
      · cases hf : tFull t with
        | nil => exact absurd hf (tFull_ne t)
        | cons p ps =>
          rw [hf] at hq ih
          rcases List.mem_cons.1 hq with rfl | hq
          · obtain ⟨a, b⟩ := ih p List.mem_cons_self
            refine ⟨fun x hx => ?_, by rw [List.length_cons, List.length_cons]; omega⟩
            rcases List.mem_cons.1 hx with rfl | hx
            · exact List.mem_cons_self
            · exact List.mem_cons_of_mem _ (a x hx)
          · obtain ⟨a, b⟩ := ih q (List.mem_cons_of_mem _ hq)
            exact ⟨fun c hc => List.mem_cons_of_mem _ (a c hc), by rw [List.length_cons]; omega⟩
  obtain ⟨a, b⟩ := h _ q (List.mem_of_mem_take hq)
  rw [bs_length] at b
  exact ⟨fun c hc => bs_mem s c (a c hc), b⟩
theorem first_step {L : List (List Nat)} {k : Nat} {q : List Nat} (h : L[k]? = some q) : tFirst (L.drop k) = if gErr q = 0 then tFirst (L.drop (k + 1)) else gErr q := by
  have hlt := (List.getElem?_eq_some_iff.1 h).1
  rw [List.drop_eq_getElem_cons hlt, (List.getElem?_eq_some_iff.1 h).2]
  rfl
theorem all_step {L : List (List Nat)} {k : Nat} {q : List Nat} (h : L[k]? = some q) : (L.take (k + 1)).all tName = ((L.take k).all tName && tName q) := by
  rw [take_snoc' h, List.all_append]
  simp
theorem all_no {L : List (List Nat)} {k : Nat} {q : List Nat} (h : L[k]? = some q) (hq : tName q = false) : L.all tName = false := by
  rw [Bool.eq_false_iff]
  intro e
  rw [List.all_eq_true] at e
  have := e q (List.mem_of_getElem? h)
  rw [hq] at this
  cases this
theorem tPErr_r {s : List Nat} (h : tRight s = true) : tPErr s = 0 := if_pos h
theorem tPErr_w {s : List Nat} (h : ¬ tRight s = true) : tPErr s = 13 := if_neg h
namespace TR
set_option maxRecDepth 100000 in
theorem rname_c (s : ByteArray) (hs : s.size ≤ 9223372036854775807) (w : World) : Calls Tryz.prog 56 #[.string s] w fun e w' => e = .returned (.bool (tName (bs s))) ∧ w' = w := by
  have PC := Lib.hid (GR.plain_c s hs w)
  have e : tName (bs s) = (gPlain (bs s) && decide (s.size ≤ 32)) := by unfold tName; rw [bs_length]
  rw [e]
  cases hd : gPlain (bs s) with
  | true =>
    rw [hd] at PC
    clear e hd
    go_enter Tryz.func56, Tryz.ntmps56
    go_wp2_with fail
    refine PC.out.mono ?_; rintro _ w1 ⟨rfl, rfl⟩
    go_wp2
    go_ret
    exact ⟨by simp; omega, rfl⟩
  | false =>
    rw [hd] at PC
    clear e hd
    go_enter Tryz.func56, Tryz.ntmps56
    go_wp2_with fail
    refine PC.out.mono ?_; rintro _ w1 ⟨rfl, rfl⟩
    go_wp2
    go_ret
    exact ⟨by simp, rfl⟩
set_option maxRecDepth 100000 in
set_option maxHeartbeats 2000000 in
theorem rsplit_c (s : ByteArray) (hs : s.size ≤ 100000) (w : World) : Calls Tryz.prog 38 #[.string s] w fun e w' =>
    ∃ v, e = .returned (.tuple #[v, .int .i64 (tPErr (bs s))]) ∧ (tPErr (bs s) = 0 → TxNew w.heap.size w' v (tCut (bs s) 8)) ∧ (tPErr (bs s) ≠ 0 → v = .slice none 0 0) ∧ Below w.heap.size w w' := by
  have CC := Lib.hid (cut_c s hs w)
  have HBY := Lib.hid (full_bytes s)
  have NM := Lib.hid (fun (X : ByteArray) (hX : X.size ≤ 100000) (W : World) => rname_c X (by omega) W)
  have h10 := ten_len (bs s)
  have HTN := Lib.hid (tRight_ten (bs s))
  have HTR := Lib.hid (fun (h : tRight (bs s) = true) => ten_right h)
  obtain ⟨L, hL⟩ : ∃ L, (tFull (bs s)).take 10 = L := ⟨_, rfl⟩
  rw [hL] at CC HBY h10 HTN HTR
  obtain ⟨C, hC⟩ : ∃ C, tCut (bs s) 8 = C := ⟨_, rfl⟩
  obtain ⟨R, hR⟩ : ∃ R, tRight (bs s) = R := ⟨_, rfl⟩
  have hP1 : R = true → tPErr (bs s) = 0 := fun h => tPErr_r (hR.trans h)
  have hP0 : R = false → tPErr (bs s) = 13 := fun h => tPErr_w (by rw [hR, h]; decide)
  obtain ⟨E, hE⟩ : ∃ E, tPErr (bs s) = E := ⟨_, rfl⟩
  rw [hE] at hP1 hP0
  rw [hE, hC]
  have P1 := Lib.hid hP1; have P0 := Lib.hid hP0
  rw [hC, hR] at HTR
  rw [hR] at HTN
  clear hL hC hR hE hP1 hP0
  go_enter Tryz.func38, Tryz.ntmps38
  go_wp2_with fail
  refine CC.out.mono ?_; rintro _ w1 ⟨v, rfl, ht, hb1⟩
  have HB1 := Lib.hid hb1; have HT := Lib.hid ht
  obtain ⟨A, c, rfl, hc, hx⟩ := ht.form
  have HX := Lib.hid hx
  obtain ⟨n, hn⟩ : ∃ n, L.length = n := ⟨_, rfl⟩
  have HN := Lib.hid hn
  rw [hn] at hc h10 HT ⊢
  clear hb1 ht hx hn CC
  go_wp2_with fail
  go_loopw [5] (fun v5 wr => ∃ k : Nat, v5 = .int .i64 (k : Nat) ∧ k ≤ n ∧ wr = w1 ∧ Hid ((L.take k).all tName = true)) (fun v5 _ => n - (intOf v5).toNat)
  case atStart => exact ⟨0, rfl, Nat.zero_le _, rfl, rfl⟩
  case round =>
    obtain ⟨k, rfl, hk, rfl, HA⟩ := hrel
    by_cases hlt : k < n
    · have hki : (k : Int) < (n : Int) := by omega
      have hkl : k < L.length := by rw [HN.out]; exact hlt
      obtain ⟨g, rfl, _, _, ha⟩ := HX.out (by omega)
      have hp := List.getElem?_eq_getElem hkl
      obtain ⟨q, hq⟩ : ∃ q, L[k] = q := ⟨_, rfl⟩
      rw [hq] at hp
      obtain ⟨hb1, hb2⟩ := HBY.out q (List.mem_of_getElem? hp)
      have z1 := ha k q hp
      obtain ⟨X, hX⟩ : ∃ X, str q = X := ⟨_, rfl⟩
      have hbX : bs X = q := by rw [← hX, bs_str hb1]
      rw [hX] at z1
      have N1 := NM.out X (by rw [← hX, str_size]; omega) wr
      rw [hbX] at N1
      have HAS := Lib.hid (all_step hp)
      have HNO := Lib.hid (fun h => all_no hp h)
      obtain ⟨d, hd⟩ : ∃ d, tName q = d := ⟨_, rfl⟩
      rw [hd] at N1 HAS
      have HD := Lib.hid hd
      have HN1 := Lib.hid N1
      clear N1 hd hbX hX hb1 hb2 hp hq ha
      cases d with
      | true =>
        have HA2 := Lib.hid (show (L.take (k + 1)).all tName = true by rw [HAS.out, HA.out]; rfl)
        as_aux_lemma =>
          go_wp2_with fail
          refine HN1.out.mono ?_; rintro _ w2 ⟨rfl, rfl⟩
          go_wp2
          go_roundw
          case rel => exact ⟨k + 1, by go_num, by omega, by trivial, HA2.out⟩
          case measure => simp [intOf]; omega
      | false =>
        have HE := Lib.hid (P0.out <| show R = false by rw [HTN.out, HNO.out HD.out]; rfl)
        as_aux_lemma =>
          go_wp2_with fail
          refine HN1.out.mono ?_; rintro _ w2 ⟨rfl, rfl⟩
          go_wp2
          go_ret2
          refine ⟨_, by rw [HE.out]; rfl, fun h => ?_, fun _ => rfl, HB1.out⟩
          rw [HE.out] at h
          cases h
    · obtain rfl : k = n := by omega
      have HAL := Lib.hid (show L.all tName = true by have := HA.out; rw [← HN.out, List.take_length] at this; exact this)
      by_cases h8 : 8 < k
      · have h8i : (8 : Int) < (k : Int) := by omega
        have HE := Lib.hid (P0.out <| show R = false by rw [HTN.out, HAL.out, HN.out, decide_eq_false (by omega)]; rfl)
        as_aux_lemma =>
          go_wp2
          go_ret2
          refine ⟨_, by rw [HE.out]; rfl, fun h => ?_, fun _ => rfl, HB1.out⟩
          rw [HE.out] at h
          cases h
      · have h8i : ¬ (8 : Int) < (k : Int) := by omega
        have HR := Lib.hid (show R = true by rw [HTN.out, HAL.out, HN.out, decide_eq_true (by omega)]; rfl)
        have HE := Lib.hid (P1.out HR.out)
        as_aux_lemma =>
          go_wp2
          go_ret2
          refine ⟨_, by rw [HE.out]; rfl, fun _ => ?_, fun h => ?_, HB1.out⟩
          · rw [← HTR.out HR.out]
            exact HT.out
          · rw [HE.out] at h
            exact absurd rfl h
set_option maxRecDepth 100000 in
theorem rright_c (s : ByteArray) (hs : s.size ≤ 100000) (w : World) : Calls Tryz.prog 30 #[.string s] w fun e w' => e = .returned (.bool (tRight (bs s))) ∧ Below w.heap.size w w' := by
  have SC := rsplit_c s hs w
  obtain ⟨R, hR⟩ : ∃ R, tRight (bs s) = R := ⟨_, rfl⟩
  rw [hR]
  cases R with
  | true =>
    rw [tPErr_r hR] at SC
    have HSC := Lib.hid SC
    clear SC hR
    go_enter Tryz.func30, Tryz.ntmps30
    go_wp2_with fail
    refine HSC.out.mono ?_; rintro _ w1 ⟨v, rfl, _, _, hb⟩
    have HB := Lib.hid hb
    clear hb
    go_wp2
    go_ret
    exact ⟨rfl, HB.out⟩
  | false =>
    rw [tPErr_w (by rw [hR]; decide)] at SC
    have HSC := Lib.hid SC
    clear SC hR
    go_enter Tryz.func30, Tryz.ntmps30
    go_wp2_with fail
    refine HSC.out.mono ?_; rintro _ w1 ⟨v, rfl, _, _, hb⟩
    have HB := Lib.hid hb
    clear hb
    go_wp2
    go_ret
    exact ⟨rfl, HB.out⟩
set_option maxRecDepth 100000 in
set_option maxHeartbeats 2000000 in
theorem rnodes_c (s : ByteArray) (hs : s.size ≤ 100000) (w : World) : Calls Tryz.prog 23 #[.string s] w fun e w' =>
    ∃ v, e = .returned (.tuple #[v, .int .i64 (tErr (bs s))]) ∧ (tErr (bs s) = 0 → TxNew w.heap.size w' v (tCut (bs s) 8)) ∧ (tErr (bs s) ≠ 0 → v = .slice none 0 0) ∧ Below w.heap.size w w' := by
  have CC := Lib.hid (cut_c s hs w)
  have HBY := Lib.hid (full_bytes s)
  have CK := Lib.hid (fun (X : ByteArray) (hX : X.size ≤ 100000) (W : World) => GR.check_c X (by omega) W)
  have h10 := ten_len (bs s)
  have HTN := Lib.hid (tErr_ten (bs s))
  have HTR := Lib.hid (fun (h : tErr (bs s) = 0) => ten_err h)
  obtain ⟨L, hL⟩ : ∃ L, (tFull (bs s)).take 10 = L := ⟨_, rfl⟩
  rw [hL] at CC HBY h10 HTN HTR
  obtain ⟨C, hC⟩ : ∃ C, tCut (bs s) 8 = C := ⟨_, rfl⟩
  obtain ⟨E, hE⟩ : ∃ E, tErr (bs s) = E := ⟨_, rfl⟩
  rw [hE, hC]
  rw [hC, hE] at HTR
  rw [hE] at HTN
  clear hL hC hE
  go_enter Tryz.func23, Tryz.ntmps23
  go_wp2_with fail
  refine CC.out.mono ?_; rintro _ w1 ⟨v, rfl, ht, hb1⟩
  have HB1 := Lib.hid hb1; have HT := Lib.hid ht
  obtain ⟨A, c, rfl, hc, hx⟩ := ht.form
  have HX := Lib.hid hx
  obtain ⟨n, hn⟩ : ∃ n, L.length = n := ⟨_, rfl⟩
  have HN := Lib.hid hn
  rw [hn] at hc h10 HT ⊢
  clear hb1 ht hx hn CC
  by_cases h8 : 8 < n
  · have h8i : (8 : Int) < (n : Int) := by omega
    have HE := Lib.hid (show E = 11 by rw [HTN.out, HN.out, if_pos h8])
    as_aux_lemma =>
      go_wp2
      go_ret2
      refine ⟨_, by rw [HE.out]; rfl, fun h => ?_, fun _ => rfl, HB1.out⟩
      rw [HE.out] at h
      cases h
  · have h8i : ¬ (8 : Int) < (n : Int) := by omega
    have HE := Lib.hid (show E = tFirst L by rw [HTN.out, HN.out, if_neg h8])
    go_wp2_with fail
    go_loopw [5, 6] (fun v5 _ wr => ∃ k : Nat, v5 = .int .i64 (k : Nat) ∧ k ≤ n ∧ Hid (Below w1.heap.size w1 wr) ∧ Hid (tFirst (L.drop k) = E)) (fun v5 _ _ => n - (intOf v5).toNat)
    case atStart => exact ⟨0, rfl, Nat.zero_le _, Below.refl _ _, HE.out.symm⟩
    case round =>
      obtain ⟨k, rfl, hk, HB, HF⟩ := hrel
      by_cases hlt : k < n
      · have hki : (k : Int) < (n : Int) := by omega
        have hkl : k < L.length := by rw [HN.out]; exact hlt
        obtain ⟨g, rfl, _, _, ha⟩ := HX.out (by omega)
        have hp := List.getElem?_eq_getElem hkl
        obtain ⟨q, hq⟩ : ∃ q, L[k] = q := ⟨_, rfl⟩
        rw [hq] at hp
        obtain ⟨hb1, hb2⟩ := HBY.out q (List.mem_of_getElem? hp)
        have z1 := cellb HB.out (ha k q hp)
        obtain ⟨X, hX⟩ : ∃ X, str q = X := ⟨_, rfl⟩
        have hbX : bs X = q := by rw [← hX, bs_str hb1]
        rw [hX] at z1
        have N1 := CK.out X (by rw [← hX, str_size]; omega) wr
        rw [hbX] at N1
        have HFS := Lib.hid (first_step hp)
        obtain ⟨d, hd⟩ : ∃ d, gErr q = d := ⟨_, rfl⟩
        rw [hd] at N1 HFS
        have HN1 := Lib.hid N1
        clear N1 hd hbX hX hb1 hb2 hp hq ha
        by_cases h0 : d = 0
        · subst h0
          have HF2 := Lib.hid (show tFirst (L.drop (k + 1)) = E by rw [← HF.out, HFS.out]; rfl)
          as_aux_lemma =>
            go_wp2_with fail
            refine HN1.out.mono ?_; rintro _ w2 ⟨rfl, hb2⟩
            have HB2 := Lib.hid (bnext HB.out hb2)
            clear hb2
            go_wp2
            go_roundw
            case rel => exact ⟨k + 1, by go_num, by omega, HB2.out, HF2.out⟩
            case measure => simp [intOf]; omega
        · have hb0 : (d != 0) = true := bne_iff_ne.2 h0
          have HF2 := Lib.hid (show E = d by rw [← HF.out, HFS.out, if_neg h0])
          have H0 := Lib.hid h0
          as_aux_lemma =>
            go_wp2_with fail
            refine HN1.out.mono ?_; rintro _ w2 ⟨rfl, hb2⟩
            have HB2 := Lib.hid (bnext HB.out hb2)
            clear hb2
            go_wp2
            go_ret2
            refine ⟨_, by rw [HF2.out]; rfl, fun h => ?_, fun _ => rfl, bnext HB1.out HB2.out⟩
            rw [HF2.out] at h
            exact absurd h H0.out
      · obtain rfl : k = n := by omega
        have HE0 := Lib.hid (show E = 0 by rw [← HF.out, ← HN.out, List.drop_length]; rfl)
        as_aux_lemma =>
          go_wp2
          go_ret2
          refine ⟨_, by rw [HE0.out]; rfl, fun _ => ?_, fun h => absurd HE0.out h, bnext HB1.out HB.out⟩
          rw [← HTR.out HE0.out]
          exact HT.out.below HB.out
end TR
end Go.Proofs.YtbfbjalnahngjaaGreatDoor
