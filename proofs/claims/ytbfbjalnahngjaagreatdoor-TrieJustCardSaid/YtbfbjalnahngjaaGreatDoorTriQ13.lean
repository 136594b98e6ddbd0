/-
  Texts of the trie's proofs, merged: TrlFr, TrlRB.
-/
import Derived.Test.YtbfbjalnahngjaaGreatDoorTriQ12
import Derived.Test.YtbfbjalnahngjaaGreatDoorTriQ4
set_option linter.unusedSimpArgs false
set_option linter.unusedVariables false
namespace Go.Proofs.YtbfbjalnahngjaaGreatDoor
theorem gNm_app : ∀ (a b : Tr), GP.PL a → gNm (a.app b) = gNm a * gNm b
  | .nil, b, _ => (Nat.one_mul _).symm
  | .atom x r, b, h => gNm_app r b h
  | .br ws r, b, h => by
    show gNm ws * gNm (r.app b) = gNm ws * gNm r * gNm b
    rw [gNm_app r b h, Nat.mul_assoc]
  | .none, b, h => h.elim
  | .way _ _, b, h => h.elim
/-- Alternatives alone. -/
def WL : Tr → Prop
  | .none => True
  | .way _ ws => WL ws
  | .nil => False
  | .atom _ _ => False
  | .br _ _ => False
theorem gNm_wapp : ∀ (a b : Tr), WL a → gNm (a.app b) = gNm a + gNm b
  | .none, b, _ => (Nat.zero_add _).symm
  | .way p ws, b, h => by
    show gNm p + gNm (ws.app b) = gNm p + gNm ws + gNm b
    rw [gNm_wapp ws b h, Nat.add_assoc]
  | .nil, b, h => h.elim
  | .atom _ _, b, h => h.elim
  | .br _ _, b, h => h.elim
theorem wapp_none : ∀ (a : Tr), WL a → a.app .none = a
  | .none, _ => rfl
  | .way p ws, h => congrArg (Tr.way p) (wapp_none ws h)
  | .nil, h => h.elim
  | .atom _ _, h => h.elim
  | .br _ _, h => h.elim
theorem WL.app : ∀ {a : Tr}, WL a → ∀ {b : Tr}, WL b → WL (a.app b)
  | .none, _, _, h => h
  | .way p ws, h, _, hb => WL.app (a := ws) h hb
  | .nil, h, _, _ => h.elim
  | .atom _ _, h, _, _ => h.elim
  | .br _ _, h, _, _ => h.elim
theorem wapp_ne (a : Tr) (t : Tr) : WL a → a.app (.way t .none) ≠ .none := fun h e => by
  cases a with
  | none => cases e
  | way p ws => cases e
  | nil => exact h
  | atom x r => exact h
  | br x r => exact h
/-- The pieces that were read. -/
structure FrI (s : List Nat) (a k : Nat) (pre : Tr) : Prop where
  rd : gPr false (s.drop a) = (gPr false (s.drop k)).map fun x => (pre.app x.1, x.2)
  pl : GP.PL pre
  le : a ≤ k
theorem FrI.start (s : List Nat) (a : Nat) : FrI s a a .nil := ⟨by cases gPr false (s.drop a) <;> rfl, trivial, Nat.le_refl _⟩
theorem FrI.none {s : List Nat} {a k : Nat} {pre : Tr} (h : FrI s a k pre) (hn : gPr false (s.drop k) = none) : gPr false (s.drop a) = none := by rw [h.rd, hn]; rfl
theorem FrI.stop {s : List Nat} {a k : Nat} {pre : Tr} (h : FrI s a k pre) (hs : Stop (s.drop k)) : gPr false (s.drop a) = some (pre, s.drop k) := by
  have e : gPr false (s.drop k) = some (.nil, s.drop k) := by
    rcases hs with e | ⟨c, t, e, hc⟩
    · rw [e]; exact gPr_nil
    · rw [e]; exact gPr_stop t hc
  rw [h.rd, e]
  show some (pre.app .nil, _) = _
  rw [GP.app_nil pre h.pl]
theorem FrI.atom {s : List Nat} {a k j : Nat} {pre : Tr} {x : GA} {c : Nat} (h : FrI s a k pre) (hk : k < s.length) (hc : s.getD k 0 = c) (h1 : ¬ (c = 44 ∨ c = 125)) (h2 : c ≠ 123) (hg : gAt (s.drop k) = some (x, j)) : FrI s a (k + j) (pre.app (.atom x .nil)) := by
  have e := drop_cons hk
  rw [hc] at e
  have hg2 := hg
  rw [e] at hg2
  refine ⟨?_, GP.PL.app h.pl trivial, by have := h.le; omega⟩
  have hp := gPr_atom h1 h2 hg2
  rw [← e, List.drop_drop] at hp
  rw [h.rd, hp]
  cases gPr false (s.drop (k + j)) with
  | none => rfl
  | some y => exact congrArg (fun z => some (z, y.2)) (Tr.app_assoc pre (.atom x .nil) y.1).symm
theorem FrI.atomNo {s : List Nat} {a k : Nat} {pre : Tr} {c : Nat} (h : FrI s a k pre) (hk : k < s.length) (hc : s.getD k 0 = c) (h1 : ¬ (c = 44 ∨ c = 125)) (h2 : c ≠ 123) (hg : gAt (s.drop k) = Option.none) : gPr false (s.drop a) = Option.none := by
  have e := drop_cons hk
  rw [hc] at e
  refine h.none ?_
  rw [e] at hg ⊢
  exact gPr_atomNo h1 h2 hg
theorem FrI.br {s : List Nat} {a k j : Nat} {pre ws : Tr} (h : FrI s a k pre) (hk : k < s.length) (hc : s.getD k 0 = 123) (hw : gPr true (s.drop (k + 1)) = some (ws, s.drop j)) (hj : k ≤ j) : FrI s a j (pre.app (.br ws .nil)) := by
  have e := drop_cons hk
  rw [hc] at e
  refine ⟨?_, GP.PL.app h.pl trivial, by have := h.le; omega⟩
  rw [h.rd, e, gPr_br hw]
  cases gPr false (s.drop j) with
  | none => rfl
  | some y => exact congrArg (fun z => some (z, y.2)) (Tr.app_assoc pre (.br ws .nil) y.1).symm
theorem FrI.brNo {s : List Nat} {a k : Nat} {pre : Tr} (h : FrI s a k pre) (hk : k < s.length) (hc : s.getD k 0 = 123) (hw : gPr true (s.drop (k + 1)) = Option.none) : gPr false (s.drop a) = Option.none := by
  have e := drop_cons hk
  rw [hc] at e
  refine h.none ?_
  rw [e]
  exact gPr_brNo hw
/-- The alternatives that were read. -/
structure FwI (s : List Nat) (q j : Nat) (pw : Tr) : Prop where
  rd : gPr true (s.drop q) = (gPr true (s.drop j)).map fun x => (pw.app x.1, x.2)
  wl : WL pw
  le : q ≤ j
theorem FwI.start (s : List Nat) (q : Nat) : FwI s q q .none := ⟨by cases gPr true (s.drop q) <;> rfl, trivial, Nat.le_refl _⟩
theorem FwI.none {s : List Nat} {q j : Nat} {pw : Tr} (h : FwI s q j pw) (hn : gPr false (s.drop j) = Option.none) : gPr true (s.drop q) = Option.none := by rw [h.rd, gPr_wayNo hn]; rfl
theorem FwI.opens {s : List Nat} {q j : Nat} {pw t : Tr} (h : FwI s q j pw) (hn : gPr false (s.drop j) = some (t, [])) : gPr true (s.drop q) = Option.none := by rw [h.rd, gPr_wayOpen hn]; rfl
theorem FwI.ends {s : List Nat} {q j m : Nat} {pw t : Tr} (h : FwI s q j pw) (hn : gPr false (s.drop j) = some (t, s.drop m)) (hm : m < s.length) (hc : s.getD m 0 = 125) : gPr true (s.drop q) = some (pw.app (.way t .none), s.drop (m + 1)) := by
  have e := drop_cons hm
  rw [hc] at e
  rw [e] at hn
  rw [h.rd, gPr_wayEnd hn]
  rfl
theorem FwI.more {s : List Nat} {q j m : Nat} {pw t : Tr} (h : FwI s q j pw) (hn : gPr false (s.drop j) = some (t, s.drop m)) (hm : m < s.length) (hc : s.getD m 0 = 44) (hj : j ≤ m) : FwI s q (m + 1) (pw.app (.way t .none)) := by
  have e := drop_cons hm
  rw [hc] at e
  rw [e] at hn
  refine ⟨?_, WL.app h.wl trivial, by have := h.le; omega⟩
  rw [h.rd, gPr_wayMore' hn (by decide) (by rw [List.length_drop, List.length_drop]; omega)]
  cases gPr true (s.drop (m + 1)) with
  | none => rfl
  | some y => exact congrArg (fun z => some (z, y.2)) (Tr.app_assoc pw (.way t .none) y.1).symm
/-- Where pieces end, how deep braces stand there, how many patterns they come to. -/
def frm (s : List Nat) (a : Nat) : Int × Int × Int := match gPr false (s.drop a) with | none => (-1, 0, 0) | some (t, r) => (((s.length - r.length : Nat) : Int), ((gDp t : Nat) : Int), ((min 65 (gNm t) : Nat) : Int))
theorem frm_none {s : List Nat} {a : Nat} (h : gPr false (s.drop a) = none) : frm s a = (-1, 0, 0) := by unfold frm; rw [h]
theorem frm_some {s : List Nat} {a k : Nat} {t : Tr} (h : gPr false (s.drop a) = some (t, s.drop k)) (hk : k ≤ s.length) : frm s a = ((k : Int), ((gDp t : Nat) : Int), ((min 65 (gNm t) : Nat) : Int)) := by
  unfold frm
  rw [h]
  simp only
  rw [List.length_drop, show s.length - (s.length - k) = k by omega]
/-- What stands behind pieces is what stands from a place on. -/
theorem rest_is {s r : List Nat} {a : Nat} {t : Tr} (h : gPr false (s.drop a) = some (t, r)) (ha : a ≤ s.length) : ∃ m, r = s.drop m ∧ a ≤ m ∧ m ≤ s.length ∧ Stop (s.drop m) ∧ Good false t ∧ gDp t ≤ s.length := by
  obtain ⟨h1, h2, h3⟩ := gPr_pf h
  have hl := congrArg List.length h2
  rw [List.length_drop, List.length_append] at hl
  have e : r = s.drop (a + (gStr t).length) := by
    rw [← List.drop_drop, h2, List.drop_left']
    rfl
  exact ⟨_, e, by omega, by omega, by rw [← e]; exact h3, h1, by have := ((gStr_len t).1 h1).1; omega⟩
theorem gAt_one {s : List Nat} {k c : Nat} (hk : k < s.length) (hc : s.getD k 0 = c) (hb : isB c = true) : gAt (s.drop k) = some (.one c, 1) := by
  rw [drop_cons hk, hc]
  exact gAt_txt (a := .one c) hb _
theorem gAt_each {s : List Nat} {k : Nat} (hk : k < s.length) (hc : s.getD k 0 = 63) : gAt (s.drop k) = some (.each, 1) := by
  rw [drop_cons hk, hc]
  rfl
theorem gAt_star {s : List Nat} {k : Nat} (hk : k < s.length) (hc : s.getD k 0 = 42) : gAt (s.drop k) = some (.star, 1) := by
  rw [drop_cons hk, hc]
  rfl
theorem gAt_no {s : List Nat} {k c : Nat} (hk : k < s.length) (hc : s.getD k 0 = c) (hb : isB c = false) (h1 : c ≠ 63) (h2 : c ≠ 42) (h3 : c ≠ 91) : gAt (s.drop k) = none := by
  rw [drop_cons hk, hc]
  unfold gAt
  simp only
  rw [if_neg h3, if_neg h1, if_neg h2, if_neg (by rw [hb]; decide)]
theorem gAt_cls {s : List Nat} {k : Nat} (hk : k < s.length) (hc : s.getD k 0 = 91) : (clsV s (k + 1) = -1 ∧ gAt (s.drop k) = none) ∨ ∃ x j, clsV s (k + 1) = ((k + j : Nat) : Int) ∧ 2 ≤ j ∧ k + j ≤ s.length ∧ gAt (s.drop k) = some (x, j) := by
  rw [drop_cons hk, hc]
  unfold clsV gAt
  simp only
  rw [if_pos trivial]
  cases hg : gCls (s.drop (k + 1)) with
  | none => exact .inl ⟨rfl, rfl⟩
  | some y =>
    obtain ⟨rs, n⟩ := y
    have hsz := gCls_size _ _ (Nat.le_refl _) hg
    rw [List.length_drop] at hsz
    simp only
    by_cases he : rs.isEmpty = true
    · exact .inl ⟨if_pos he, if_pos he⟩
    · refine .inr ⟨_, n + 2, ?_, by omega, by omega, if_neg he⟩
      rw [if_neg he, show k + 1 + n + 1 = k + (n + 2) by omega]
end Go.Proofs.YtbfbjalnahngjaaGreatDoor
namespace Go.Proofs.YtbfbjalnahngjaaGreatDoor.GR
open Go.RowKit GP
/-- form keeps its word where at most n bytes are left. -/
def FormC (n : Nat) : Prop := ∀ (p : ByteArray) (a : Nat), p.size ≤ 128 → a ≤ p.size → p.size - a ≤ n → ∀ w : World,
  Calls Tryz.prog 63 #[.string p, .int .i64 (a : Nat)] w fun e w' => e = .returned (.tuple #[.int .i64 (frm (bs p) a).1, .int .i64 (frm (bs p) a).2.1, .int .i64 (frm (bs p) a).2.2]) ∧ Below w.heap.size w w'
theorem min_mul (A B : Nat) : min 65 (min 65 A * min 65 B) = min 65 (A * B) := by
  by_cases hA : A ≤ 65
  · by_cases hB : B ≤ 65
    · rw [Nat.min_eq_right hA, Nat.min_eq_right hB]
    · rw [Nat.min_eq_right hA, Nat.min_eq_left (by omega : 65 ≤ B)]
      cases A with
      | zero => simp
      | succ A =>
        have h1 : 1 * 65 ≤ (A + 1) * 65 := Nat.mul_le_mul (by omega) (Nat.le_refl _)
        have h2 : 1 * 65 ≤ (A + 1) * B := Nat.mul_le_mul (by omega) (by omega)
        omega
  · rw [Nat.min_eq_left (by omega : 65 ≤ A)]
    cases B with
    | zero => simp
    | succ B =>
      have h1 : 65 * 1 ≤ 65 * min 65 (B + 1) := Nat.mul_le_mul (Nat.le_refl _) (by omega)
      have h2 : 65 * 1 ≤ A * (B + 1) := Nat.mul_le_mul (by omega) (by omega)
      omega
set_option maxRecDepth 100000 in
set_option maxHeartbeats 8000000 in
theorem form_step (n : Nat) (IH : ∀ m, m < n → FormC m) : FormC n := by
  intro p a hp ha hpn w
  obtain ⟨D, hD⟩ : ∃ D, frm (bs p) a = D := ⟨_, rfl⟩
  obtain ⟨d1, d2, d3⟩ := D
  rw [hD]
  have HD := Lib.hid hD
  have BY := Lib.hid (fun (c : Nat) (hc : c < 256) (W : World) => byte_c c hc W)
  have CL := Lib.hid (fun (k : Nat) (hk : k ≤ p.size) (W : World) => class_c p k hp hk W)
  have FO := Lib.hid (fun (k : Nat) (hk : k ≤ p.size) (h : p.size - k < n) (W : World) => IH _ h p k hp hk (Nat.le_refl _) W)
  have hl := bs_length p
  have HL := Lib.hid hl
  clear hD hl IH
  go_enter Tryz.func63, Tryz.ntmps63
  go_wp2
  go_loopw [1, 7, 8, 9, 10, 11, 12] (fun v1 v7 v8 _ _ _ _ wr => ∃ k dp mn : Nat, v1 = .int .i64 (k : Nat) ∧ v7 = .int .i64 (dp : Nat) ∧ v8 = .int .i64 (mn : Nat) ∧ k ≤ p.size ∧ dp ≤ 200 ∧ mn ≤ 65 ∧ Hid (∃ pre, FrI (bs p) a k pre ∧ gDp pre = dp ∧ min 65 (gNm pre) = mn) ∧ Hid (Below w.heap.size w wr)) (fun v1 _ _ _ _ _ _ _ => p.size - (intOf v1).toNat)
  case atStart => exact ⟨a, 0, 1, rfl, rfl, rfl, ha, by omega, by omega, ⟨.nil, FrI.start _ _, rfl, rfl⟩, Below.refl _ _⟩
  case round =>
    obtain ⟨k, dp, mn, rfl, rfl, rfl, hk, hdp, hmn, HI, HB⟩ := hrel
    have hka : a ≤ k := by obtain ⟨pre, hi, _, _⟩ := HI.out; exact hi.le
    have STOP := Lib.hid (fun (hst : Stop ((bs p).drop k)) => show ((k : Int), (dp : Int), (mn : Int)) = (d1, d2, d3) by
      obtain ⟨pre, hi, hd1, hn1⟩ := HI.out
      rw [← HD.out, frm_some (hi.stop hst) (by rw [HL.out]; exact hk), hd1, hn1])
    have NONE := Lib.hid (fun (hno : gPr false ((bs p).drop a) = none) => show ((-1 : Int), (0 : Int), (0 : Int)) = (d1, d2, d3) by
      rw [← HD.out, frm_none hno])
    by_cases hlt : k < p.size
    · obtain ⟨c, hcb, x0, hc⟩ := bs_get hlt
      have hki : (k : Int) < (p.size : Int) := by omega
      have hkn : ¬ (p.size : Int) ≤ (k : Int) := by omega
      have hwk : IntKind.i64.wrap ((k : Int) + 1) = ((k + 1 : Nat) : Int) := by rw [IntKind.wrap_i64]; omega
      have HC := Lib.hid hcb
      clear hcb
      have HDR := Lib.hid (drop_cons (s := bs p) (by rw [HL.out]; exact hlt))
      by_cases h44 : c = 44
      · subst h44
        as_aux_lemma =>
          have HE := Lib.hid (STOP.out (.inr ⟨_, _, by rw [HDR.out, HC.out], .inl rfl⟩))
          clear STOP NONE
          go_wp2
          go_ret3
          have he := HE.out
          injection he with e1 e2
          injection e2 with e2 e3
          subst e1 e2 e3
          exact ⟨rfl, HB.out⟩
      · have i44 : ¬ (c : Int) = 44 := by omega
        have b44 : ((c : Int) != 44) = true := bne_iff_ne.2 i44
        by_cases h125 : c = 125
        · subst h125
          as_aux_lemma =>
            have HE := Lib.hid (STOP.out (.inr ⟨_, _, by rw [HDR.out, HC.out], .inr rfl⟩))
            clear STOP NONE
            go_wp2
            go_ret3
            have he := HE.out
            injection he with e1 e2
            injection e2 with e2 e3
            subst e1 e2 e3
            exact ⟨rfl, HB.out⟩
        · have i125 : ¬ (c : Int) = 125 := by omega
          have b125 : ((c : Int) != 125) = true := bne_iff_ne.2 i125
          have BC := Lib.hid (BY.out c hc wr)
          clear STOP
          cases hB : isB c with
          | true =>
            rw [hB] at BC
            have h123 : c ≠ 123 := isB_ne hB (by decide)
            as_aux_lemma =>
              have HN := Lib.hid (show ∃ pre, FrI (bs p) a (k + 1) pre ∧ gDp pre = dp ∧ min 65 (gNm pre) = mn by
                obtain ⟨pre, hi, hd1, hn1⟩ := HI.out
                have hst := hi.atom (by rw [HL.out]; exact hlt) HC.out (by omega) (by omega) (gAt_one (by rw [HL.out]; exact hlt) HC.out hB)
                refine ⟨_, hst, ?_, ?_⟩
                · rw [gDp_app]; show max (gDp pre) 0 = dp; omega
                · rw [gNm_app _ _ hi.pl]; show min 65 (gNm pre * 1) = mn; rw [Nat.mul_one]; exact hn1)
              clear hB
              go_wp2_with fail
              refine BC.out.mono ?_; rintro _ w2 ⟨rfl, hw2⟩; obtain rfl := hw2.symm
              go_wp2
              go_roundw
              case rel => exact ⟨k + 1, dp, mn, rfl, rfl, rfl, by omega, hdp, hmn, HN.out, HB.out⟩
              case measure => first | (simp [intOf]; done) | (simp [intOf]; omega)
          | false =>
            rw [hB] at BC
            by_cases h63 : c = 63
            · subst h63
              as_aux_lemma =>
                have HN := Lib.hid (show ∃ pre, FrI (bs p) a (k + 1) pre ∧ gDp pre = dp ∧ min 65 (gNm pre) = mn by
                  obtain ⟨pre, hi, hd1, hn1⟩ := HI.out
                  have hst := hi.atom (by rw [HL.out]; exact hlt) HC.out (by omega) (by omega) (gAt_each (by rw [HL.out]; exact hlt) HC.out)
                  refine ⟨_, hst, ?_, ?_⟩
                  · rw [gDp_app]; show max (gDp pre) 0 = dp; omega
                  · rw [gNm_app _ _ hi.pl]; show min 65 (gNm pre * 1) = mn; rw [Nat.mul_one]; exact hn1)
                clear hB
                go_wp2_with fail
                refine BC.out.mono ?_; rintro _ w2 ⟨rfl, hw2⟩; obtain rfl := hw2.symm
                go_wp2
                go_roundw
                case rel => exact ⟨k + 1, dp, mn, rfl, rfl, rfl, by omega, hdp, hmn, HN.out, HB.out⟩
                case measure => first | (simp [intOf]; done) | (simp [intOf]; omega)
            · have i63 : ¬ (c : Int) = 63 := by omega
              have b63 : ((c : Int) == 63) = false := beq_false_of_ne i63
              by_cases h42 : c = 42
              · subst h42
                as_aux_lemma =>
                  have HN := Lib.hid (show ∃ pre, FrI (bs p) a (k + 1) pre ∧ gDp pre = dp ∧ min 65 (gNm pre) = mn by
                    obtain ⟨pre, hi, hd1, hn1⟩ := HI.out
                    have hst := hi.atom (by rw [HL.out]; exact hlt) HC.out (by omega) (by omega) (gAt_star (by rw [HL.out]; exact hlt) HC.out)
                    refine ⟨_, hst, ?_, ?_⟩
                    · rw [gDp_app]; show max (gDp pre) 0 = dp; omega
                    · rw [gNm_app _ _ hi.pl]; show min 65 (gNm pre * 1) = mn; rw [Nat.mul_one]; exact hn1)
                  clear hB
                  go_wp2_with fail
                  refine BC.out.mono ?_; rintro _ w2 ⟨rfl, hw2⟩; obtain rfl := hw2.symm
                  go_wp2
                  go_roundw
                  case rel => exact ⟨k + 1, dp, mn, rfl, rfl, rfl, by omega, hdp, hmn, HN.out, HB.out⟩
                  case measure => first | (simp [intOf]; done) | (simp [intOf]; omega)
              · have i42 : ¬ (c : Int) = 42 := by omega
                have b42 : ((c : Int) == 42) = false := beq_false_of_ne i42
                by_cases h91 : c = 91
                · subst h91
                  have CC := CL.out (k + 1) (by omega) wr
                  rcases gAt_cls (s := bs p) (k := k) (by rw [HL.out]; exact hlt) HC.out with ⟨hcv, hg⟩ | ⟨x, j, hcv, hj2, hjl, hg⟩
                  · as_aux_lemma =>
                      rw [hcv] at CC
                      have HCC := Lib.hid CC
                      have HE := Lib.hid (NONE.out (by
                        obtain ⟨pre, hi, _, _⟩ := HI.out
                        exact hi.atomNo (by rw [HL.out]; exact hlt) HC.out (by omega) (by omega) hg))
                      clear hB hcv hg CC NONE
                      go_wp2_with fail
                      refine BC.out.mono ?_; rintro _ w2 ⟨rfl, hw2⟩; obtain rfl := hw2.symm
                      go_wp2_with fail
                      refine HCC.out.mono ?_; rintro _ w3 ⟨rfl, hb3⟩
                      have HB3 := Lib.hid (bnext HB.out hb3)
                      clear hb3
                      go_wp2
                      go_ret3
                      have he := HE.out
                      injection he with e1 e2
                      injection e2 with e2 e3
                      subst e1 e2 e3
                      exact ⟨rfl, HB3.out⟩
                  · as_aux_lemma =>
                      rw [hcv] at CC
                      have HCC := Lib.hid CC
                      rw [HL.out] at hjl
                      have hn0 : ¬ ((k + j : Nat) : Int) < 0 := by omega
                      have HN := Lib.hid (show ∃ pre, FrI (bs p) a (k + j) pre ∧ gDp pre = dp ∧ min 65 (gNm pre) = mn by
                        obtain ⟨pre, hi, hd1, hn1⟩ := HI.out
                        have hst := hi.atom (by rw [HL.out]; exact hlt) HC.out (by omega) (by omega) hg
                        refine ⟨_, hst, ?_, ?_⟩
                        · rw [gDp_app]; show max (gDp pre) 0 = dp; omega
                        · rw [gNm_app _ _ hi.pl]; show min 65 (gNm pre * 1) = mn; rw [Nat.mul_one]; exact hn1)
                      clear hB hcv hg CC NONE
                      go_wp2_with fail
                      refine BC.out.mono ?_; rintro _ w2 ⟨rfl, hw2⟩; obtain rfl := hw2.symm
                      go_wp2_with fail
                      refine HCC.out.mono ?_; rintro _ w3 ⟨rfl, hb3⟩
                      have HB3 := Lib.hid (bnext HB.out hb3)
                      clear hb3
                      go_wp2
                      go_roundw
                      case rel => exact ⟨k + j, dp, mn, rfl, rfl, rfl, by omega, hdp, hmn, HN.out, HB3.out⟩
                      case measure => first | (simp [intOf]; done) | (simp [intOf]; omega)
                · have i91 : ¬ (c : Int) = 91 := by omega
                  have b91 : ((c : Int) == 91) = false := beq_false_of_ne i91
                  by_cases h123 : c = 123
                  · subst h123
                    as_aux_lemma =>
                      clear hB
                      go_wp2_with fail
                      refine BC.out.mono ?_; rintro _ w2 ⟨rfl, hw2⟩; obtain rfl := hw2.symm
                      go_wp2_with fail
                      go_loopw [1, 7, 9, 10, 11, 12] (fun v1 v7 v9 _ _ _ wq => ∃ j dq sm : Nat, v1 = .int .i64 (j : Nat) ∧ v7 = .int .i64 (dq : Nat) ∧ v9 = .int .i64 (sm : Nat) ∧ k ≤ j ∧ j < p.size ∧ dq ≤ 200 ∧ sm ≤ 65 ∧ Hid (∃ pw, FwI (bs p) (k + 1) (j + 1) pw ∧ ((pw = .none ∧ dq = dp) ∨ (pw ≠ .none ∧ dq = max dp (gDp pw + 1))) ∧ min 65 (gNm pw) = sm) ∧ Hid (Below w.heap.size w wq)) (fun v1 _ _ _ _ _ _ => p.size - (intOf v1).toNat)
                      case atStart => exact ⟨k, dp, 0, rfl, rfl, rfl, Nat.le_refl _, hlt, hdp, by omega, ⟨.none, FwI.start _ _, .inl ⟨rfl, rfl⟩, rfl⟩, HB.out⟩
                      case round =>
                        obtain ⟨j, dq, sm, rfl, rfl, rfl, hkj, hjl, hdq, hsm, HW, HB2⟩ := hrel
                        have hwj : IntKind.i64.wrap ((j : Int) + 1) = ((j + 1 : Nat) : Int) := by rw [IntKind.wrap_i64]; omega
                        have FC := FO.out (j + 1) (by omega) (by omega) wr
                        cases hg : gPr false ((bs p).drop (j + 1)) with
                        | none =>
                          as_aux_lemma =>
                            rw [frm_none hg] at FC
                            have HFC := Lib.hid FC
                            have HE := Lib.hid (NONE.out (by
                              obtain ⟨pre, hi, _, _⟩ := HI.out
                              obtain ⟨pw, hw, _, _⟩ := HW.out
                              exact hi.brNo (by rw [HL.out]; exact hlt) HC.out (hw.none hg)))
                            clear hg FC NONE
                            go_wp2_with fail
                            refine HFC.out.mono ?_; rintro _ w3 ⟨rfl, hb3⟩
                            have HB3 := Lib.hid (bnext HB2.out hb3)
                            clear hb3
                            go_wp2
                            go_ret3
                            have he := HE.out
                            injection he with e1 e2
                            injection e2 with e2 e3
                            subst e1 e2 e3
                            exact ⟨rfl, HB3.out⟩
                        | some tr =>
                          obtain ⟨t, r⟩ := tr
                          obtain ⟨m, hr, ham, hml, hst, hgood, hgd⟩ := rest_is hg (by rw [HL.out]; omega)
                          subst hr
                          rw [HL.out] at hml hgd
                          rw [frm_some hg (by rw [HL.out]; exact hml)] at FC
                          obtain ⟨dt, hdt⟩ : ∃ dt, gDp t = dt := ⟨_, rfl⟩
                          obtain ⟨nt, hnt⟩ : ∃ nt, min 65 (gNm t) = nt := ⟨_, rfl⟩
                          rw [hdt, hnt] at FC
                          rw [hdt] at hgd
                          have hnt65 : nt ≤ 65 := by omega
                          have HFC := Lib.hid FC; have HG := Lib.hid hg; have HDT := Lib.hid hdt; have HNT := Lib.hid hnt; have HST := Lib.hid hst
                          have hm0 : ¬ (m : Int) < 0 := by omega
                          have hwd : IntKind.i64.wrap ((dt : Int) + 1) = ((dt + 1 : Nat) : Int) := by rw [IntKind.wrap_i64]; omega
                          have hws : IntKind.i64.wrap ((sm : Int) + (nt : Int)) = ((sm + nt : Nat) : Int) := by rw [IntKind.wrap_i64]; omega
                          clear hg FC hdt hnt hst hgood
                          by_cases hme : m < p.size
                          · obtain ⟨e, hee, y0, hec⟩ := bs_get hme
                            have hmi : ¬ (p.size : Int) ≤ (m : Int) := by omega
                            have hmi2 : (m : Int) < (p.size : Int) := by omega
                            have HEE := Lib.hid hee
                            have hwm : IntKind.i64.wrap ((m : Int) + 1) = ((m + 1 : Nat) : Int) := by rw [IntKind.wrap_i64]; omega
                            have hcase : e = 44 ∨ e = 125 := by
                              rcases HST.out with hs | ⟨c', t', hs, hc'⟩
                              · have := congrArg List.length hs
                                rw [List.length_drop, HL.out] at this
                                simp only [List.length_nil] at this
                                omega
                              · rw [drop_cons (by rw [HL.out]; exact hme), HEE.out] at hs
                                injection hs with e1 _
                                omega
                            have HDN := Lib.hid (show ∀ pw, ((pw = Tr.none ∧ dq = dp) ∨ (pw ≠ Tr.none ∧ dq = max dp (gDp pw + 1))) → max dp (gDp (pw.app (.way t .none)) + 1) = max dq (dt + 1) from fun pw h => by
                              rw [gDp_app]
                              show max dp (max (gDp pw) (max (gDp t) 0) + 1) = _
                              rw [HDT.out]
                              rcases h with ⟨rfl, rfl⟩ | ⟨_, rfl⟩
                              · show max dq (max 0 (max dt 0) + 1) = _; omega
                              · omega)
                            have HNN := Lib.hid (show ∀ pw, WL pw → min 65 (gNm pw) = sm → min 65 (gNm (pw.app (.way t .none))) = min 65 (sm + nt) from fun pw h1 h2 => by
                              rw [gNm_wapp _ _ h1]
                              show min 65 (gNm pw + (gNm t + 0)) = _
                              have := HNT.out
                              omega)
                            clear hee
                            rcases hcase with rfl | rfl
                            · as_aux_lemma =>
                                have HWN := Lib.hid (show ∃ pw, FwI (bs p) (k + 1) (m + 1) pw ∧ ((pw = .none ∧ max dq (dt + 1) = dp) ∨ (pw ≠ .none ∧ max dq (dt + 1) = max dp (gDp pw + 1))) ∧ min 65 (gNm pw) = min 65 (sm + nt) by
                                  obtain ⟨pw, hw, hd, hs⟩ := HW.out
                                  exact ⟨_, hw.more HG.out (by rw [HL.out]; exact hme) HEE.out ham, .inr ⟨wapp_ne _ _ hw.wl, (HDN.out pw hd).symm⟩, HNN.out pw hw.wl hs⟩)
                                clear HDN HNN
                                go_wp2_with fail
                                refine HFC.out.mono ?_; rintro _ w3 ⟨rfl, hb3⟩
                                have HB3 := Lib.hid (bnext HB2.out hb3)
                                clear hb3
                                go_wp2
                                go_roundw
                                case rel => exact ⟨m, max dq (dt + 1), min 65 (sm + nt), rfl, by first | rfl | (simp; done) | (simp; omega) | (simp; split <;> omega), by first | rfl | (simp; done) | (simp; omega) | (simp; split <;> omega), by omega, hme, by omega, by omega, HWN.out, HB3.out⟩
                                case measure => first | (simp [intOf]; done) | (simp [intOf]; omega)
                            · as_aux_lemma =>
                                obtain ⟨s2, hs2⟩ : ∃ s2, min 65 (sm + nt) = s2 := ⟨_, rfl⟩
                                have hs65 : s2 ≤ 65 := by omega
                                have hmul : mn * s2 ≤ 65 * 65 := Nat.mul_le_mul hmn hs65
                                have hwmul : IntKind.i64.wrap ((mn : Int) * (s2 : Int)) = ((mn * s2 : Nat) : Int) := by
                                  have e : (mn : Int) * (s2 : Int) = ((mn * s2 : Nat) : Int) := by push_cast; rfl
                                  rw [e, IntKind.wrap_i64]; omega
                                have hwmul2 : IntKind.i64.wrap ((mn : Int) * (min 65 ((sm : Int) + (nt : Int)))) = ((mn * s2 : Nat) : Int) := by
                                  rw [← hwmul, ← hs2]
                                  congr 2
                                  omega
                                have HPN := Lib.hid (show ∃ pre, FrI (bs p) a (m + 1) pre ∧ gDp pre = max dq (dt + 1) ∧ min 65 (gNm pre) = min 65 (mn * s2) by
                                  obtain ⟨pre, hi, hd1, hn1⟩ := HI.out
                                  obtain ⟨pw, hw, hd, hs⟩ := HW.out
                                  have hst := hi.br (by rw [HL.out]; exact hlt) HC.out (hw.ends HG.out (by rw [HL.out]; exact hme) HEE.out) (by omega)
                                  refine ⟨_, hst, ?_, ?_⟩
                                  · rw [gDp_app, ← HDN.out pw hd, hd1]
                                    show max dp (max (gDp (pw.app (.way t .none)) + 1) 0) = _
                                    omega
                                  · rw [gNm_app _ _ hi.pl, ← hs2, ← HNN.out pw hw.wl hs, ← hn1, min_mul]
                                    show min 65 (gNm pre * (gNm (pw.app (.way t .none)) * 1)) = _
                                    rw [Nat.mul_one])
                                clear HDN HNN
                                obtain ⟨ms, hms⟩ : ∃ ms, mn * s2 = ms := ⟨_, rfl⟩
                                rw [hms] at hwmul hwmul2 hmul HPN
                                clear hms
                                go_wp2_with fail
                                refine HFC.out.mono ?_; rintro _ w3 ⟨rfl, hb3⟩
                                have HB3 := Lib.hid (bnext HB2.out hb3)
                                clear hb3
                                go_wp2
                                go_roundw
                                case rel => exact ⟨m + 1, max dq (dt + 1), min 65 ms, rfl, by first | rfl | (simp; done) | (simp; omega) | (simp; split <;> omega), by first | rfl | (simp; done) | (simp; omega) | (simp at hwmul2 ⊢; rw [hwmul2]; omega), by omega, by omega, by omega, HPN.out, HB3.out⟩
                                case measure => first | (simp [intOf]; done) | (simp [intOf]; omega)
                          · as_aux_lemma =>
                              obtain rfl : m = p.size := by omega
                              have HE := Lib.hid (NONE.out (by
                                obtain ⟨pre, hi, _, _⟩ := HI.out
                                obtain ⟨pw, hw, _, _⟩ := HW.out
                                have hg2 : gPr false ((bs p).drop (j + 1)) = some (t, []) := by rw [HG.out, List.drop_eq_nil_of_le (by rw [HL.out]; exact Nat.le_refl _)]
                                exact hi.brNo (by rw [HL.out]; exact hlt) HC.out (hw.opens hg2)))
                              clear NONE
                              go_wp2_with fail
                              refine HFC.out.mono ?_; rintro _ w3 ⟨rfl, hb3⟩
                              have HB3 := Lib.hid (bnext HB2.out hb3)
                              clear hb3
                              go_wp2
                              go_ret3
                              have he := HE.out
                              injection he with e1 e2
                              injection e2 with e2 e3
                              subst e1 e2 e3
                              exact ⟨rfl, HB3.out⟩
                  · as_aux_lemma =>
                      have i123 : ¬ (c : Int) = 123 := by omega
                      have b123 : ((c : Int) == 123) = false := beq_false_of_ne i123
                      have HE := Lib.hid (NONE.out (by
                        obtain ⟨pre, hi, _, _⟩ := HI.out
                        exact hi.atomNo (by rw [HL.out]; exact hlt) HC.out (by omega) (by omega) (gAt_no (by rw [HL.out]; exact hlt) HC.out hB h63 h42 h91)))
                      clear hB NONE
                      go_wp2_with fail
                      refine BC.out.mono ?_; rintro _ w2 ⟨rfl, hw2⟩; obtain rfl := hw2.symm
                      go_wp2
                      go_ret3
                      have he := HE.out
                      injection he with e1 e2
                      injection e2 with e2 e3
                      subst e1 e2 e3
                      exact ⟨rfl, HB.out⟩
    · as_aux_lemma =>
        obtain rfl : k = p.size := by omega
        have HE := Lib.hid (STOP.out (.inl (List.drop_eq_nil_of_le (by rw [HL.out]; exact Nat.le_refl _))))
        clear STOP NONE
        go_wp2
        go_ret3
        have he := HE.out
        injection he with e1 e2
        injection e2 with e2 e3
        subst e1 e2 e3
        exact ⟨rfl, HB.out⟩
theorem form_all (n : Nat) : FormC n := Nat.strongRecOn n form_step
theorem form_c (p : ByteArray) (a : Nat) (hp : p.size ≤ 128) (ha : a ≤ p.size) (w : World) : Calls Tryz.prog 63 #[.string p, .int .i64 (a : Nat)] w fun e w' => e = .returned (.tuple #[.int .i64 (frm (bs p) a).1, .int .i64 (frm (bs p) a).2.1, .int .i64 (frm (bs p) a).2.2]) ∧ Below w.heap.size w w' :=
  form_all _ p a hp ha (Nat.le_refl _) w
end Go.Proofs.YtbfbjalnahngjaaGreatDoor.GR
