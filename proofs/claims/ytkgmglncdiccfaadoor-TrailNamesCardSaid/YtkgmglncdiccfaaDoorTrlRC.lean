/-
  Contracts of the document's own functions of layer 15: Check, has.
-/
import Derived.Test.YtkgmglncdiccfaaDoorTrlRB
set_option linter.unusedSimpArgs false
set_option linter.unusedVariables false
namespace Go.Proofs.YtkgmglncdiccfaaDoor.GR
open Go.RowKit GP
theorem gErr_frm {s : List Nat} (h : s.length ≤ 128) : gErr s = if s = [] ∨ (frm s 0).1 ≠ (s.length : Int) then 10 else if 4 < (frm s 0).2.1 then 19 else if 64 < (frm s 0).2.2 then 11 else 0 := by
  unfold gErr frm
  rw [if_neg (by omega), List.drop_zero]
  cases hp : gPr false s with
  | none =>
    simp only
    exact (if_pos (.inr (by omega))).symm
  | some x =>
    obtain ⟨l, r⟩ := x
    obtain ⟨hg, hs, _⟩ := gPr_pf hp
    have hl := congrArg List.length hs
    rw [List.length_append] at hl
    simp only
    by_cases h1 : l.len = 0 ∨ r ≠ []
    · rw [if_pos h1, if_pos]
      by_cases hr : r = []
      · subst hr
        have h0 : l.len = 0 := h1.resolve_right (fun e => e rfl)
        left
        cases l with
        | nil => exact hs
        | atom a r => simp [Tr.len] at h0
        | br a r => simp [Tr.len] at h0
        | none => exact hg.elim
        | way a r => exact hg.elim
      · right
        have : r.length ≠ 0 := fun e => hr (List.eq_nil_of_length_eq_zero e)
        omega
    · have hr : r = [] := Decidable.byContradiction fun e => h1 (.inr e)
      subst hr
      have h0 : l.len ≠ 0 := fun e => h1 (.inl e)
      have hne : s ≠ [] := fun e => by
        subst e
        rw [gPr_nil] at hp
        exact h0 (by rw [← (Prod.mk.inj (Option.some.inj hp)).1]; rfl)
      have hc := (gCnt_num l).1 hg 1 (by omega)
      have hx : ((s.length - ([] : List Nat).length : Nat) : Int) = (s.length : Int) := by rw [List.length_nil, Nat.sub_zero]
      have hx2 : ¬ (s = [] ∨ (s.length : Int) ≠ (s.length : Int)) := by
        rintro (e | e)
        · exact hne e
        · exact e rfl
      rw [hx, if_neg hx2, if_neg h1]
      by_cases h4 : 4 < gDp l
      · rw [if_pos h4, if_pos (show (4 : Int) < ((gDp l : Nat) : Int) by omega)]
      · rw [if_neg h4, if_neg (show ¬ (4 : Int) < ((gDp l : Nat) : Int) by omega)]
        by_cases h6 : 64 < gCnt l 1
        · rw [if_pos h6, if_pos (show (64 : Int) < ((min 65 (gNm l) : Nat) : Int) by omega)]
        · rw [if_neg h6, if_neg (show ¬ (64 : Int) < ((min 65 (gNm l) : Nat) : Int) by omega)]
set_option maxRecDepth 100000 in
set_option maxHeartbeats 4000000 in
theorem check_c (p : ByteArray) (hp : p.size ≤ 9223372036854775807) (w : World) : Calls Tryd.prog 25 #[.string p] w fun e w' => e = .returned (.int .i64 (gErr (bs p))) ∧ Below w.heap.size w w' := by
  by_cases hl : 128 < p.size
  · have hi : (128 : Int) < (p.size : Int) := by omega
    have he : gErr (bs p) = 12 := if_pos (by rw [bs_length]; exact hl)
    rw [he]
    clear he
    go_enter Tryd.func25, Tryd.ntmps25
    go_wp2
    go_ret
    exact ⟨rfl, Below.refl _ _⟩
  · have hi : ¬ (128 : Int) < (p.size : Int) := by omega
    have FC := form_c p 0 (by omega) (Nat.zero_le _) w
    have hE := gErr_frm (s := bs p) (by rw [bs_length]; omega)
    rw [bs_length] at hE
    obtain ⟨E, hEE⟩ : ∃ E, gErr (bs p) = E := ⟨_, rfl⟩
    obtain ⟨F, hF⟩ : ∃ F, frm (bs p) 0 = F := ⟨_, rfl⟩
    obtain ⟨x, dp, mn⟩ := F
    rw [hF] at FC hE
    rw [hEE] at hE ⊢
    have HFC := Lib.hid FC
    simp only at hE
    clear FC hF hEE
    by_cases h0 : p.size = 0
    · obtain rfl := is_empty h0
      have HE := Lib.hid (show (10 : Int) = E by rw [hE, if_pos (.inl rfl)])
      clear hE
      as_aux_lemma =>
        go_enter Tryd.func25, Tryd.ntmps25
        go_wp2_with fail
        refine HFC.out.mono ?_; rintro _ w2 ⟨rfl, hb2⟩
        have HB := Lib.hid hb2
        clear hb2
        go_wp2
        go_ret
        exact ⟨congrArg (fun z => Ending.returned (.int .i64 z)) HE.out, HB.out⟩
    · have hne : bs p ≠ [] := fun e => h0 (by rw [← bs_length, e]; rfl)
      have hem : p.toList.isEmpty = false := by
        rw [ByteArray.toList_eq]
        obtain ⟨⟨l⟩⟩ := p
        have h2 : ¬ l.length = 0 := h0
        cases l with
        | nil => simp at h2
        | cons x l => rfl
      by_cases hx : x = (p.size : Int)
      · subst hx
        by_cases h4 : 4 < dp
        · have HE := Lib.hid (show (19 : Int) = E by rw [hE, if_neg (by rintro (e | e); exact hne e; exact e rfl), if_pos h4])
          clear hE hne
          as_aux_lemma =>
            go_enter Tryd.func25, Tryd.ntmps25
            go_wp2_with fail
            refine HFC.out.mono ?_; rintro _ w2 ⟨rfl, hb2⟩
            have HB := Lib.hid hb2
            clear hb2
            go_wp2
            go_ret
            exact ⟨congrArg (fun z => Ending.returned (.int .i64 z)) HE.out, HB.out⟩
        · by_cases h6 : 64 < mn
          · have HE := Lib.hid (show (11 : Int) = E by rw [hE, if_neg (by rintro (e | e); exact hne e; exact e rfl), if_neg h4, if_pos h6])
            clear hE hne
            as_aux_lemma =>
              go_enter Tryd.func25, Tryd.ntmps25
              go_wp2_with fail
              refine HFC.out.mono ?_; rintro _ w2 ⟨rfl, hb2⟩
              have HB := Lib.hid hb2
              clear hb2
              go_wp2
              go_ret
              exact ⟨congrArg (fun z => Ending.returned (.int .i64 z)) HE.out, HB.out⟩
          · have HE := Lib.hid (show (0 : Int) = E by rw [hE, if_neg (by rintro (e | e); exact hne e; exact e rfl), if_neg h4, if_neg h6])
            clear hE hne
            as_aux_lemma =>
              go_enter Tryd.func25, Tryd.ntmps25
              go_wp2_with fail
              refine HFC.out.mono ?_; rintro _ w2 ⟨rfl, hb2⟩
              have HB := Lib.hid hb2
              clear hb2
              go_wp2
              go_ret
              exact ⟨congrArg (fun z => Ending.returned (.int .i64 z)) HE.out, HB.out⟩
      · have HE := Lib.hid (show (10 : Int) = E by rw [hE, if_pos (.inr hx)])
        have hxb : (x != (p.size : Int)) = true := bne_iff_ne.2 hx
        clear hE hne
        as_aux_lemma =>
          go_enter Tryd.func25, Tryd.ntmps25
          go_wp2_with fail
          refine HFC.out.mono ?_; rintro _ w2 ⟨rfl, hb2⟩
          have HB := Lib.hid hb2
          clear hb2
          go_wp2
          go_ret
          exact ⟨congrArg (fun z => Ending.returned (.int .i64 z)) HE.out, HB.out⟩
/-- Does a range have a byte? -/
def inRg (c : Nat) (r : Nat × Nat) : Bool := decide (r.1 ≤ c) && decide (c ≤ r.2)
/-- What is left of a class. -/
structure HsI (s : List Nat) (k c : Nat) (rs : List (Nat × Nat)) (d : Bool) : Prop where
  rd : ∃ rs' n', gCls (s.drop k) = some (rs', n') ∧ rs'.any (inRg c) = d
theorem cls_lt {s : List Nat} {k : Nat} {rs : List (Nat × Nat)} {n : Nat} (h : gCls (s.drop k) = some (rs, n)) : k < s.length := by
  have := gCls_size _ _ (Nat.le_refl _) h
  rw [List.length_drop] at this
  omega
theorem cls_more {s : List Nat} {k j : Nat} {m : Nat × Nat} {rs : List (Nat × Nat)} {n : Nat} (h : gCls (s.drop k) = some (rs, n)) (h93 : s.getD k 0 ≠ 93) (hm : gMem (s.drop k) = some (m, j)) : ∃ rs' n', gCls (s.drop (k + j)) = some (rs', n') ∧ rs = m :: rs' := by
  rw [cls_step (cls_lt h) h93 hm] at h
  cases hg : gCls (s.drop (k + j)) with
  | none => rw [hg] at h; cases h
  | some x =>
    rw [hg] at h
    injection h with h
    injection h with h1 h2
    exact ⟨x.1, x.2, rfl, h1.symm⟩
theorem cls_mem {s : List Nat} {k : Nat} {rs : List (Nat × Nat)} {n : Nat} (h : gCls (s.drop k) = some (rs, n)) (h93 : s.getD k 0 ≠ 93) : ∃ m j, gMem (s.drop k) = some (m, j) := by
  cases hm : gMem (s.drop k) with
  | none => rw [cls_no (cls_lt h) h93 hm] at h; cases h
  | some x => exact ⟨x.1, x.2, rfl⟩
set_option maxRecDepth 100000 in
set_option maxHeartbeats 4000000 in
theorem has_c (p : ByteArray) (a c : Nat) (hp : p.size ≤ 128) (hc : c < 256) (rs : List (Nat × Nat)) (n : Nat) (hg : gCls ((bs p).drop a) = some (rs, n)) (w : World) : Calls Tryd.prog 27 #[.string p, .int .i64 (a : Nat), .int .u8 (c : Nat)] w fun e w' => e = .returned (.bool (rs.any (inRg c))) ∧ Below w.heap.size w w' := by
  obtain ⟨d, hd⟩ : ∃ d, rs.any (inRg c) = d := ⟨_, rfl⟩
  rw [hd]
  have HI0 := Lib.hid (show ∃ rs' n', gCls ((bs p).drop a) = some (rs', n') ∧ rs'.any (inRg c) = d from ⟨rs, n, hg, hd⟩)
  have BY := Lib.hid (fun (c : Nat) (hc : c < 256) (W : World) => byte_c c hc W)
  have hl := bs_length p
  have HL := Lib.hid hl
  have hw2 : IntKind.i64.wrap ((p.size : Int) - 2) = (p.size : Int) - 2 := by rw [IntKind.wrap_i64]; omega
  have ha : a < p.size := by rw [← hl]; exact cls_lt hg
  clear hd hl hg
  go_enter Tryd.func27, Tryd.ntmps27
  go_wp2
  go_loopw [1, 7, 8] (fun v1 _ _ wr => ∃ k : Nat, v1 = .int .i64 (k : Nat) ∧ k < p.size ∧ Hid (∃ rs' n', gCls ((bs p).drop k) = some (rs', n') ∧ rs'.any (inRg c) = d) ∧ Hid (Below w.heap.size w wr)) (fun v1 _ _ _ => p.size - (intOf v1).toNat)
  case atStart => exact ⟨a, rfl, ha, HI0.out, Below.refl _ _⟩
  case round =>
    obtain ⟨k, rfl, hk, HI, HB⟩ := hrel
    obtain ⟨b, hcb, x0, hb⟩ := bs_get hk
    have hki : (k : Int) < (p.size : Int) := by omega
    by_cases h93 : b = 93
    · subst h93
      as_aux_lemma =>
        have HE := Lib.hid (show false = d by
          obtain ⟨rs', n', hg, hd⟩ := HI.out
          rw [cls_end (by rw [HL.out]; exact hk) hcb] at hg
          injection hg with hg
          injection hg with hg _
          rw [← hd, ← hg]
          rfl)
        clear hcb
        go_wp2
        go_ret
        exact ⟨congrArg (fun z => Ending.returned (.bool z)) HE.out, HB.out⟩
    · have i93 : ¬ (b : Int) = 93 := by omega
      have b93 : ((b : Int) != 93) = true := bne_iff_ne.2 i93
      have hw1 : IntKind.i64.wrap ((k : Int) + 1) = ((k + 1 : Nat) : Int) := by rw [IntKind.wrap_i64]; omega
      have hwp2 : IntKind.i64.wrap ((k : Int) + 2) = ((k + 2 : Nat) : Int) := by rw [IntKind.wrap_i64]; omega
      have HM := mem_at (bs p) k (by rw [HL.out]; exact hk)
      rw [hcb] at HM
      have hB : isB b = true := by
        obtain ⟨rs', n', hg, hd⟩ := HI.out
        obtain ⟨m, j, hm⟩ := cls_mem hg (by rw [hcb]; exact h93)
        rw [HM] at hm
        split at hm
        · assumption
        · cases hm
      rw [if_pos hB] at HM
      have HMM := Lib.hid HM
      -- what one member more says
      have STEP := Lib.hid (fun (m : Nat × Nat) (j : Nat) (hm : gMem ((bs p).drop k) = some (m, j)) => show ∃ rs' n', gCls ((bs p).drop (k + j)) = some (rs', n') ∧ (inRg c m || rs'.any (inRg c)) = d by
        obtain ⟨rs', n', hg, hd⟩ := HI.out
        obtain ⟨rs2, n2, hg2, e⟩ := cls_more hg (by rw [hcb]; exact h93) hm
        exact ⟨rs2, n2, hg2, by rw [← hd, e]; rfl⟩)
      have HONE := Lib.hid (fun (hx : ¬ (k + 3 ≤ (bs p).length ∧ (bs p).getD (k + 1) 0 = 45 ∧ isB ((bs p).getD (k + 2) 0) = true)) => STEP.out (b, b) 1 (by rw [HMM.out, if_neg hx]))
      have HNE := Lib.hid (show (bs p).getD k 0 ≠ 93 by rw [hcb]; exact h93)
      clear HM hcb hB
      by_cases h3 : k + 3 ≤ p.size
      · have h3i : (k : Int) < (p.size : Int) - 2 := by omega
        obtain ⟨c1, hcb1, x1, hc1⟩ := bs_get (show k + 1 < p.size by omega)
        have HC1 := Lib.hid hcb1
        have hk1 : ((k + 1 : Nat) : Int) < (p.size : Int) := by omega
        clear hcb1
        by_cases h45 : c1 = 45
        · subst h45
          obtain ⟨c2, hcb2, x2, hc2⟩ := bs_get (show k + 2 < p.size by omega)
          have HC2 := Lib.hid hcb2
          have hk2 : ((k + 2 : Nat) : Int) < (p.size : Int) := by omega
          have BC2 := Lib.hid (fun W => BY.out c2 hc2 W)
          clear hcb2
          cases hB2 : isB c2 with
          | false =>
            rw [hB2] at BC2
            have HX := HONE.out (fun hx => by rw [HC2.out, hB2] at hx; exact absurd hx.2.2 (by decide))
            clear hB2
            obtain ⟨rs', n', hg', hd'⟩ := HX
            have hnx : k + 1 < p.size := by rw [← HL.out]; exact cls_lt hg'
            by_cases hlo : b ≤ c
            · by_cases hhi : c ≤ b
              · as_aux_lemma =>
                  have HE := Lib.hid (show true = d by
                    rw [← hd']
                    unfold inRg
                    rw [decide_eq_true (show (b, b).1 ≤ c from hlo), decide_eq_true (show c ≤ (b, b).2 from hhi)]
                    rfl)
                  have hloi : (b : Int) ≤ (c : Int) := by omega
                  have hhii : (c : Int) ≤ (b : Int) := by omega
                  clear hg' hd'
                  go_wp2
                  go_region
                  go_wp2_with fail
                  refine (BC2.out _).mono ?_; rintro _ w2 ⟨rfl, hw2⟩; obtain rfl := hw2.symm
                  go_wp2
                  go_ret
                  exact ⟨congrArg (fun z => Ending.returned (.bool z)) HE.out, HB.out.drew⟩
              · as_aux_lemma =>
                  have HN := Lib.hid (show ∃ rs' n', gCls ((bs p).drop (k + 1)) = some (rs', n') ∧ rs'.any (inRg c) = d from ⟨rs', n', hg', by
                    rw [← hd']
                    unfold inRg
                    rw [decide_eq_false (show ¬ c ≤ (b, b).2 from hhi), Bool.and_false, Bool.false_or]⟩)
                  have hloi : (b : Int) ≤ (c : Int) := by omega
                  have hhii : ¬ (c : Int) ≤ (b : Int) := by omega
                  clear hg' hd'
                  go_wp2
                  go_region
                  go_wp2_with fail
                  refine (BC2.out _).mono ?_; rintro _ w2 ⟨rfl, hw2⟩; obtain rfl := hw2.symm
                  go_wp2
                  go_roundw
                  case rel => exact ⟨k + 1, by go_num, hnx, HN.out, HB.out.drew⟩
                  case measure => first | (simp [intOf]; done) | (simp [intOf]; omega)
            · as_aux_lemma =>
                have HN := Lib.hid (show ∃ rs' n', gCls ((bs p).drop (k + 1)) = some (rs', n') ∧ rs'.any (inRg c) = d from ⟨rs', n', hg', by
                  rw [← hd']
                  unfold inRg
                  rw [decide_eq_false (show ¬ (b, b).1 ≤ c from hlo), Bool.false_and, Bool.false_or]⟩)
                have hloi : ¬ (b : Int) ≤ (c : Int) := by omega
                clear hg' hd'
                go_wp2
                go_region
                go_wp2_with fail
                refine (BC2.out _).mono ?_; rintro _ w2 ⟨rfl, hw2⟩; obtain rfl := hw2.symm
                go_wp2
                go_roundw
                case rel => exact ⟨k + 1, by go_num, hnx, HN.out, HB.out.drew⟩
                case measure => first | (simp [intOf]; done) | (simp [intOf]; omega)
          | true =>
            rw [hB2] at BC2
            have hm3 : (k + 3 ≤ (bs p).length ∧ (bs p).getD (k + 1) 0 = 45 ∧ isB ((bs p).getD (k + 2) 0) = true) := ⟨by rw [HL.out]; exact h3, HC1.out, by rw [HC2.out]; exact hB2⟩
            have hrise : b ≤ c2 := by
              obtain ⟨rs', n', hg, hd⟩ := HI.out
              obtain ⟨m, j, hm⟩ := cls_mem hg HNE.out
              rw [HMM.out, if_pos hm3, HC2.out] at hm
              split at hm
              · assumption
              · cases hm
            have HX := STEP.out (b, c2) 3 (by rw [HMM.out, if_pos hm3, HC2.out, if_pos hrise])
            have hwp3 : IntKind.i64.wrap (((k + 2 : Nat) : Int) + 1) = ((k + 3 : Nat) : Int) := by rw [IntKind.wrap_i64]; omega
            clear hB2 hm3
            obtain ⟨rs', n', hg', hd'⟩ := HX
            have hnx : k + 3 < p.size := by rw [← HL.out]; exact cls_lt hg'
            by_cases hlo : b ≤ c
            · by_cases hhi : c ≤ c2
              · as_aux_lemma =>
                  have HE := Lib.hid (show true = d by
                    rw [← hd']
                    unfold inRg
                    rw [decide_eq_true (show (b, c2).1 ≤ c from hlo), decide_eq_true (show c ≤ (b, c2).2 from hhi)]
                    rfl)
                  have hloi : (b : Int) ≤ (c : Int) := by omega
                  have hhii : (c : Int) ≤ (c2 : Int) := by omega
                  clear hg' hd'
                  go_wp2
                  go_region
                  go_wp2_with fail
                  refine (BC2.out _).mono ?_; rintro _ w2 ⟨rfl, hw2⟩; obtain rfl := hw2.symm
                  go_wp2
                  go_ret
                  exact ⟨congrArg (fun z => Ending.returned (.bool z)) HE.out, HB.out.drew⟩
              · as_aux_lemma =>
                  have HN := Lib.hid (show ∃ rs' n', gCls ((bs p).drop (k + 3)) = some (rs', n') ∧ rs'.any (inRg c) = d from ⟨rs', n', hg', by
                    rw [← hd']
                    unfold inRg
                    rw [decide_eq_false (show ¬ c ≤ (b, c2).2 from hhi), Bool.and_false, Bool.false_or]⟩)
                  have hloi : (b : Int) ≤ (c : Int) := by omega
                  have hhii : ¬ (c : Int) ≤ (c2 : Int) := by omega
                  clear hg' hd'
                  go_wp2
                  go_region
                  go_wp2_with fail
                  refine (BC2.out _).mono ?_; rintro _ w2 ⟨rfl, hw2⟩; obtain rfl := hw2.symm
                  go_wp2
                  go_roundw
                  case rel => exact ⟨k + 3, by go_num, hnx, HN.out, HB.out.drew⟩
                  case measure => first | (simp [intOf]; done) | (simp [intOf]; omega)
            · as_aux_lemma =>
                have HN := Lib.hid (show ∃ rs' n', gCls ((bs p).drop (k + 3)) = some (rs', n') ∧ rs'.any (inRg c) = d from ⟨rs', n', hg', by
                  rw [← hd']
                  unfold inRg
                  rw [decide_eq_false (show ¬ (b, c2).1 ≤ c from hlo), Bool.false_and, Bool.false_or]⟩)
                have hloi : ¬ (b : Int) ≤ (c : Int) := by omega
                clear hg' hd'
                go_wp2
                go_region
                go_wp2_with fail
                refine (BC2.out _).mono ?_; rintro _ w2 ⟨rfl, hw2⟩; obtain rfl := hw2.symm
                go_wp2
                go_roundw
                case rel => exact ⟨k + 3, by go_num, hnx, HN.out, HB.out.drew⟩
                case measure => first | (simp [intOf]; done) | (simp [intOf]; omega)
        · have i45 : ¬ (c1 : Int) = 45 := by omega
          have b45 : ((c1 : Int) == 45) = false := beq_false_of_ne i45
          have HX := HONE.out (fun hx => by rw [HC1.out] at hx; exact h45 hx.2.1)
          obtain ⟨rs', n', hg', hd'⟩ := HX
          have hnx : k + 1 < p.size := by rw [← HL.out]; exact cls_lt hg'
          by_cases hlo : b ≤ c
          · by_cases hhi : c ≤ b
            · as_aux_lemma =>
                have HE := Lib.hid (show true = d by
                  rw [← hd']
                  unfold inRg
                  rw [decide_eq_true (show (b, b).1 ≤ c from hlo), decide_eq_true (show c ≤ (b, b).2 from hhi)]
                  rfl)
                have hloi : (b : Int) ≤ (c : Int) := by omega
                have hhii : (c : Int) ≤ (b : Int) := by omega
                clear hg' hd'
                go_wp2
                go_region
                go_wp2
                go_ret
                exact ⟨congrArg (fun z => Ending.returned (.bool z)) HE.out, HB.out.drew⟩
            · as_aux_lemma =>
                have HN := Lib.hid (show ∃ rs' n', gCls ((bs p).drop (k + 1)) = some (rs', n') ∧ rs'.any (inRg c) = d from ⟨rs', n', hg', by
                  rw [← hd']
                  unfold inRg
                  rw [decide_eq_false (show ¬ c ≤ (b, b).2 from hhi), Bool.and_false, Bool.false_or]⟩)
                have hloi : (b : Int) ≤ (c : Int) := by omega
                have hhii : ¬ (c : Int) ≤ (b : Int) := by omega
                clear hg' hd'
                go_wp2
                go_region
                go_wp2
                go_roundw
                case rel => exact ⟨k + 1, by go_num, hnx, HN.out, HB.out.drew⟩
                case measure => first | (simp [intOf]; done) | (simp [intOf]; omega)
          · as_aux_lemma =>
              have HN := Lib.hid (show ∃ rs' n', gCls ((bs p).drop (k + 1)) = some (rs', n') ∧ rs'.any (inRg c) = d from ⟨rs', n', hg', by
                rw [← hd']
                unfold inRg
                rw [decide_eq_false (show ¬ (b, b).1 ≤ c from hlo), Bool.false_and, Bool.false_or]⟩)
              have hloi : ¬ (b : Int) ≤ (c : Int) := by omega
              clear hg' hd'
              go_wp2
              go_region
              go_wp2
              go_roundw
              case rel => exact ⟨k + 1, by go_num, hnx, HN.out, HB.out.drew⟩
              case measure => first | (simp [intOf]; done) | (simp [intOf]; omega)
      · have h3i : ¬ (k : Int) < (p.size : Int) - 2 := by omega
        have HX := HONE.out (fun hx => by rw [HL.out] at hx; exact h3 hx.1)
        obtain ⟨rs', n', hg', hd'⟩ := HX
        have hnx : k + 1 < p.size := by rw [← HL.out]; exact cls_lt hg'
        by_cases hlo : b ≤ c
        · by_cases hhi : c ≤ b
          · as_aux_lemma =>
              have HE := Lib.hid (show true = d by
                rw [← hd']
                unfold inRg
                rw [decide_eq_true (show (b, b).1 ≤ c from hlo), decide_eq_true (show c ≤ (b, b).2 from hhi)]
                rfl)
              have hloi : (b : Int) ≤ (c : Int) := by omega
              have hhii : (c : Int) ≤ (b : Int) := by omega
              clear hg' hd'
              go_wp2
              go_region
              go_wp2
              go_ret
              exact ⟨congrArg (fun z => Ending.returned (.bool z)) HE.out, HB.out.drew⟩
          · as_aux_lemma =>
              have HN := Lib.hid (show ∃ rs' n', gCls ((bs p).drop (k + 1)) = some (rs', n') ∧ rs'.any (inRg c) = d from ⟨rs', n', hg', by
                rw [← hd']
                unfold inRg
                rw [decide_eq_false (show ¬ c ≤ (b, b).2 from hhi), Bool.and_false, Bool.false_or]⟩)
              have hloi : (b : Int) ≤ (c : Int) := by omega
              have hhii : ¬ (c : Int) ≤ (b : Int) := by omega
              clear hg' hd'
              go_wp2
              go_region
              go_wp2
              go_roundw
              case rel => exact ⟨k + 1, by go_num, hnx, HN.out, HB.out.drew⟩
              case measure => first | (simp [intOf]; done) | (simp [intOf]; omega)
        · as_aux_lemma =>
            have HN := Lib.hid (show ∃ rs' n', gCls ((bs p).drop (k + 1)) = some (rs', n') ∧ rs'.any (inRg c) = d from ⟨rs', n', hg', by
              rw [← hd']
              unfold inRg
              rw [decide_eq_false (show ¬ (b, b).1 ≤ c from hlo), Bool.false_and, Bool.false_or]⟩)
            have hloi : ¬ (b : Int) ≤ (c : Int) := by omega
            clear hg' hd'
            go_wp2
            go_region
            go_wp2
            go_roundw
            case rel => exact ⟨k + 1, by go_num, hnx, HN.out, HB.out.drew⟩
            case measure => first | (simp [intOf]; done) | (simp [intOf]; omega)
end Go.Proofs.YtkgmglncdiccfaaDoor.GR
