/-
  Plain facts on how the document's own form and expand read a pattern (layer 15): what was read so far.
-/
import Derived.Test.YtkgmglncdiccfaaDoorTrlRA
import Derived.Test.YtkgmglncdiccfaaDoorGlbPF
set_option linter.unusedSimpArgs false
set_option linter.unusedVariables false
namespace Go.Proofs.YtkgmglncdiccfaaDoor
theorem gNm_app : ∀ (a b : Tr), GP.PL a → gNm (a.app b) = gNm a * gNm b
  | .nil, b, _ => (Nat.one_mul _).symm
  | .atom x r, b, h => gNm_app r b h
  | .br ws r, b, h => by
    show gNm ws * gNm (r.app b) = gNm ws * gNm r * gNm b
    rw [gNm_app r b h, Nat.mul_assoc]
  | .none, b, h => h.elim
  | .way _ _, b, h => h.elim
/-- Alternatives alone. -/
def WL : Tr → Prop
  | .none => True
  | .way _ ws => WL ws
  | .nil => False
  | .atom _ _ => False
  | .br _ _ => False
theorem gNm_wapp : ∀ (a b : Tr), WL a → gNm (a.app b) = gNm a + gNm b
  | .none, b, _ => (Nat.zero_add _).symm
  | .way p ws, b, h => by
    show gNm p + gNm (ws.app b) = gNm p + gNm ws + gNm b
    rw [gNm_wapp ws b h, Nat.add_assoc]
  | .nil, b, h => h.elim
  | .atom _ _, b, h => h.elim
  | .br _ _, b, h => h.elim
theorem wapp_none : ∀ (a : Tr), WL a → a.app .none = a
  | .none, _ => rfl
  | .way p ws, h => congrArg (Tr.way p) (wapp_none ws h)
  | .nil, h => h.elim
  | .atom _ _, h => h.elim
  | .br _ _, h => h.elim
theorem WL.app : ∀ {a : Tr}, WL a → ∀ {b : Tr}, WL b → WL (a.app b)
  | .none, _, _, h => h
  | .way p ws, h, _, hb => WL.app (a := ws) h hb
  | .nil, h, _, _ => h.elim
  | .atom _ _, h, _, _ => h.elim
  | .br _ _, h, _, _ => h.elim
theorem wapp_ne (a : Tr) (t : Tr) : WL a → a.app (.way t .none) ≠ .none := fun h e => by
  cases a with
  | none => cases e
  | way p ws => cases e
  | nil => exact h
  | atom x r => exact h
  | br x r => exact h
/-- The pieces that were read. -/
structure FrI (s : List Nat) (a k : Nat) (pre : Tr) : Prop where
  rd : gPr false (s.drop a) = (gPr false (s.drop k)).map fun x => (pre.app x.1, x.2)
  pl : GP.PL pre
  le : a ≤ k
theorem FrI.start (s : List Nat) (a : Nat) : FrI s a a .nil := ⟨by cases gPr false (s.drop a) <;> rfl, trivial, Nat.le_refl _⟩
theorem FrI.none {s : List Nat} {a k : Nat} {pre : Tr} (h : FrI s a k pre) (hn : gPr false (s.drop k) = none) : gPr false (s.drop a) = none := by rw [h.rd, hn]; rfl
theorem FrI.stop {s : List Nat} {a k : Nat} {pre : Tr} (h : FrI s a k pre) (hs : Stop (s.drop k)) : gPr false (s.drop a) = some (pre, s.drop k) := by
  have e : gPr false (s.drop k) = some (.nil, s.drop k) := by
    rcases hs with e | ⟨c, t, e, hc⟩
    · rw [e]; exact gPr_nil
    · rw [e]; exact gPr_stop t hc
  rw [h.rd, e]
  show some (pre.app .nil, _) = _
  rw [GP.app_nil pre h.pl]
theorem FrI.atom {s : List Nat} {a k j : Nat} {pre : Tr} {x : GA} {c : Nat} (h : FrI s a k pre) (hk : k < s.length) (hc : s.getD k 0 = c) (h1 : ¬ (c = 44 ∨ c = 125)) (h2 : c ≠ 123) (hg : gAt (s.drop k) = some (x, j)) : FrI s a (k + j) (pre.app (.atom x .nil)) := by
  have e := drop_cons hk
  rw [hc] at e
  have hg2 := hg
  rw [e] at hg2
  refine ⟨?_, GP.PL.app h.pl trivial, by have := h.le; omega⟩
  have hp := gPr_atom h1 h2 hg2
  rw [← e, List.drop_drop] at hp
  rw [h.rd, hp]
  cases gPr false (s.drop (k + j)) with
  | none => rfl
  | some y => exact congrArg (fun z => some (z, y.2)) (Tr.app_assoc pre (.atom x .nil) y.1).symm
theorem FrI.atomNo {s : List Nat} {a k : Nat} {pre : Tr} {c : Nat} (h : FrI s a k pre) (hk : k < s.length) (hc : s.getD k 0 = c) (h1 : ¬ (c = 44 ∨ c = 125)) (h2 : c ≠ 123) (hg : gAt (s.drop k) = Option.none) : gPr false (s.drop a) = Option.none := by
  have e := drop_cons hk
  rw [hc] at e
  refine h.none ?_
  rw [e] at hg ⊢
  exact gPr_atomNo h1 h2 hg
theorem FrI.br {s : List Nat} {a k j : Nat} {pre ws : Tr} (h : FrI s a k pre) (hk : k < s.length) (hc : s.getD k 0 = 123) (hw : gPr true (s.drop (k + 1)) = some (ws, s.drop j)) (hj : k ≤ j) : FrI s a j (pre.app (.br ws .nil)) := by
  have e := drop_cons hk
  rw [hc] at e
  refine ⟨?_, GP.PL.app h.pl trivial, by have := h.le; omega⟩
  rw [h.rd, e, gPr_br hw]
  cases gPr false (s.drop j) with
  | none => rfl
  | some y => exact congrArg (fun z => some (z, y.2)) (Tr.app_assoc pre (.br ws .nil) y.1).symm
theorem FrI.brNo {s : List Nat} {a k : Nat} {pre : Tr} (h : FrI s a k pre) (hk : k < s.length) (hc : s.getD k 0 = 123) (hw : gPr true (s.drop (k + 1)) = Option.none) : gPr false (s.drop a) = Option.none := by
  have e := drop_cons hk
  rw [hc] at e
  refine h.none ?_
  rw [e]
  exact gPr_brNo hw
/-- The alternatives that were read. -/
structure FwI (s : List Nat) (q j : Nat) (pw : Tr) : Prop where
  rd : gPr true (s.drop q) = (gPr true (s.drop j)).map fun x => (pw.app x.1, x.2)
  wl : WL pw
  le : q ≤ j
theorem FwI.start (s : List Nat) (q : Nat) : FwI s q q .none := ⟨by cases gPr true (s.drop q) <;> rfl, trivial, Nat.le_refl _⟩
theorem FwI.none {s : List Nat} {q j : Nat} {pw : Tr} (h : FwI s q j pw) (hn : gPr false (s.drop j) = Option.none) : gPr true (s.drop q) = Option.none := by rw [h.rd, gPr_wayNo hn]; rfl
theorem FwI.opens {s : List Nat} {q j : Nat} {pw t : Tr} (h : FwI s q j pw) (hn : gPr false (s.drop j) = some (t, [])) : gPr true (s.drop q) = Option.none := by rw [h.rd, gPr_wayOpen hn]; rfl
theorem FwI.ends {s : List Nat} {q j m : Nat} {pw t : Tr} (h : FwI s q j pw) (hn : gPr false (s.drop j) = some (t, s.drop m)) (hm : m < s.length) (hc : s.getD m 0 = 125) : gPr true (s.drop q) = some (pw.app (.way t .none), s.drop (m + 1)) := by
  have e := drop_cons hm
  rw [hc] at e
  rw [e] at hn
  rw [h.rd, gPr_wayEnd hn]
  rfl
theorem FwI.more {s : List Nat} {q j m : Nat} {pw t : Tr} (h : FwI s q j pw) (hn : gPr false (s.drop j) = some (t, s.drop m)) (hm : m < s.length) (hc : s.getD m 0 = 44) (hj : j ≤ m) : FwI s q (m + 1) (pw.app (.way t .none)) := by
  have e := drop_cons hm
  rw [hc] at e
  rw [e] at hn
  refine ⟨?_, WL.app h.wl trivial, by have := h.le; omega⟩
  rw [h.rd, gPr_wayMore' hn (by decide) (by rw [List.length_drop, List.length_drop]; omega)]
  cases gPr true (s.drop (m + 1)) with
  | none => rfl
  | some y => exact congrArg (fun z => some (z, y.2)) (Tr.app_assoc pw (.way t .none) y.1).symm
/-- Where pieces end, how deep braces stand there, how many patterns they come to. -/
def frm (s : List Nat) (a : Nat) : Int × Int × Int := match gPr false (s.drop a) with | none => (-1, 0, 0) | some (t, r) => (((s.length - r.length : Nat) : Int), ((gDp t : Nat) : Int), ((min 65 (gNm t) : Nat) : Int))
theorem frm_none {s : List Nat} {a : Nat} (h : gPr false (s.drop a) = none) : frm s a = (-1, 0, 0) := by unfold frm; rw [h]
theorem frm_some {s : List Nat} {a k : Nat} {t : Tr} (h : gPr false (s.drop a) = some (t, s.drop k)) (hk : k ≤ s.length) : frm s a = ((k : Int), ((gDp t : Nat) : Int), ((min 65 (gNm t) : Nat) : Int)) := by
  unfold frm
  rw [h]
  simp only
  rw [List.length_drop, show s.length - (s.length - k) = k by omega]
/-- What stands behind pieces is what stands from a place on. -/
theorem rest_is {s r : List Nat} {a : Nat} {t : Tr} (h : gPr false (s.drop a) = some (t, r)) (ha : a ≤ s.length) : ∃ m, r = s.drop m ∧ a ≤ m ∧ m ≤ s.length ∧ Stop (s.drop m) ∧ Good false t ∧ gDp t ≤ s.length := by
  obtain ⟨h1, h2, h3⟩ := gPr_pf h
  have hl := congrArg List.length h2
  rw [List.length_drop, List.length_append] at hl
  have e : r = s.drop (a + (gStr t).length) := by
    rw [← List.drop_drop, h2, List.drop_left']
    rfl
  exact ⟨_, e, by omega, by omega, by rw [← e]; exact h3, h1, by have := ((gStr_len t).1 h1).1; omega⟩
theorem gAt_one {s : List Nat} {k c : Nat} (hk : k < s.length) (hc : s.getD k 0 = c) (hb : isB c = true) : gAt (s.drop k) = some (.one c, 1) := by
  rw [drop_cons hk, hc]
  exact gAt_txt (a := .one c) hb _
theorem gAt_each {s : List Nat} {k : Nat} (hk : k < s.length) (hc : s.getD k 0 = 63) : gAt (s.drop k) = some (.each, 1) := by
  rw [drop_cons hk, hc]
  rfl
theorem gAt_star {s : List Nat} {k : Nat} (hk : k < s.length) (hc : s.getD k 0 = 42) : gAt (s.drop k) = some (.star, 1) := by
  rw [drop_cons hk, hc]
  rfl
theorem gAt_no {s : List Nat} {k c : Nat} (hk : k < s.length) (hc : s.getD k 0 = c) (hb : isB c = false) (h1 : c ≠ 63) (h2 : c ≠ 42) (h3 : c ≠ 91) : gAt (s.drop k) = none := by
  rw [drop_cons hk, hc]
  unfold gAt
  simp only
  rw [if_neg h3, if_neg h1, if_neg h2, if_neg (by rw [hb]; decide)]
theorem gAt_cls {s : List Nat} {k : Nat} (hk : k < s.length) (hc : s.getD k 0 = 91) : (clsV s (k + 1) = -1 ∧ gAt (s.drop k) = none) ∨ ∃ x j, clsV s (k + 1) = ((k + j : Nat) : Int) ∧ 2 ≤ j ∧ k + j ≤ s.length ∧ gAt (s.drop k) = some (x, j) := by
  rw [drop_cons hk, hc]
  unfold clsV gAt
  simp only
  rw [if_pos trivial]
  cases hg : gCls (s.drop (k + 1)) with
  | none => exact .inl ⟨rfl, rfl⟩
  | some y =>
    obtain ⟨rs, n⟩ := y
    have hsz := gCls_size _ _ (Nat.le_refl _) hg
    rw [List.length_drop] at hsz
    simp only
    by_cases he : rs.isEmpty = true
    · exact .inl ⟨if_pos he, if_pos he⟩
    · refine .inr ⟨_, n + 2, ?_, by omega, by omega, if_neg he⟩
      rw [if_neg he, show k + 1 + n + 1 = k + (n + 2) by omega]
end Go.Proofs.YtkgmglncdiccfaaDoor
