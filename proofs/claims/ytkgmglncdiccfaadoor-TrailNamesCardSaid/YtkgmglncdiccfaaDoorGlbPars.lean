/-
  Plain facts on patterns of one name (layer 15): what is read is what is written.
-/
import Derived.Test.YtkgmglncdiccfaaDoorGlbMath
set_option linter.unusedSimpArgs false
set_option linter.unusedVariables false
namespace Go.Proofs.YtkgmglncdiccfaaDoor
/-- Pieces, alternatives as text. -/
def gStr : Tr → List Nat
  | .nil => []
  | .atom a r => a.txt ++ gStr r
  | .br ws r => 123 :: (gStr ws ++ gStr r)
  | .none => []
  | .way p .none => gStr p ++ [125]
  | .way p (.way q ws) => gStr p ++ 44 :: gStr (.way q ws)
  | .way p .nil => gStr p ++ [125]
  | .way p (.atom _ _) => gStr p ++ [125]
  | .way p (.br _ _) => gStr p ++ [125]
def GA.Good : GA → Prop
  | .one c => isB c = true
  | .each => True
  | .star => True
  | .cls t rs => ∃ u, t = 91 :: u ∧ (∀ r, gCls (u ++ r) = some (rs, u.length - 1)) ∧ rs ≠ [] ∧ u ≠ []
def Good : Bool → Tr → Prop
  | false, .nil => True
  | false, .atom a r => a.Good ∧ Good false r
  | false, .br ws r => Good true ws ∧ ws ≠ .none ∧ Good false r
  | true, .none => True
  | true, .way p ws => Good false p ∧ Good true ws
  | _, _ => False
/-- Where pieces end. -/
def Stop (r : List Nat) : Prop := r = [] ∨ ∃ c t, r = c :: t ∧ (c = 44 ∨ c = 125)
theorem gAt_good {s : List Nat} {a : GA} {k : Nat} (h : gAt s = some (a, k)) : a.Good ∧ a.txt = s.take k ∧ 1 ≤ k ∧ k ≤ s.length := by
  unfold gAt at h
  split at h
  · cases h
  · rename_i c t
    split at h
    · rename_i hc
      subst hc
      split at h
      · cases h
      · rename_i rs n hcl
        split at h
        · cases h
        · rename_i he
          simp only [Option.some.injEq, Prod.mk.injEq] at h
          obtain ⟨rfl, rfl⟩ := h
          have hsz := gCls_size _ _ (Nat.le_refl _) hcl
          refine ⟨⟨t.take (n + 1), rfl, fun r => ?_, fun e => he (by rw [e]; rfl), fun e => ?_⟩, rfl, by omega, by simp only [List.length_cons]; omega⟩
          · rw [gCls_app _ _ (Nat.le_refl _) r hcl, List.length_take, show min (n + 1) t.length - 1 = n by omega]
          · have := congrArg List.length e
            rw [List.length_take] at this
            simp only [List.length_nil] at this
            omega
    · split at h
      · rename_i hc
        simp only [Option.some.injEq, Prod.mk.injEq] at h
        obtain ⟨rfl, rfl⟩ := h
        subst hc
        exact ⟨trivial, rfl, Nat.le_refl _, by simp⟩
      · split at h
        · rename_i hc
          simp only [Option.some.injEq, Prod.mk.injEq] at h
          obtain ⟨rfl, rfl⟩ := h
          subst hc
          exact ⟨trivial, rfl, Nat.le_refl _, by simp⟩
        · split at h
          · rename_i hc
            simp only [Option.some.injEq, Prod.mk.injEq] at h
            obtain ⟨rfl, rfl⟩ := h
            exact ⟨hc, rfl, Nat.le_refl _, by simp⟩
          · cases h
theorem good_txt {a : GA} (h : a.Good) : ∃ c u, a.txt = c :: u ∧ c ≠ 44 ∧ c ≠ 125 ∧ c ≠ 123 := by
  cases a with
  | one c => exact ⟨c, [], rfl, isB_ne h (by decide), isB_ne h (by decide), isB_ne h (by decide)⟩
  | each => exact ⟨63, [], rfl, by decide, by decide, by decide⟩
  | star => exact ⟨42, [], rfl, by decide, by decide, by decide⟩
  | cls t rs =>
    obtain ⟨u, rfl, _, _, _⟩ := h
    exact ⟨91, u, rfl, by decide, by decide, by decide⟩
theorem gAt_txt {a : GA} (h : a.Good) (r : List Nat) : gAt (a.txt ++ r) = some (a, a.txt.length) := by
  cases a with
  | one c =>
    show gAt (c :: r) = _
    have h' : isB c = true := h
    unfold gAt
    simp only
    rw [if_neg (isB_ne h' (by decide)), if_neg (isB_ne h' (by decide)), if_neg (isB_ne h' (by decide)), if_pos h']
    rfl
  | each => rfl
  | star => rfl
  | cls t rs =>
    obtain ⟨u, rfl, hu, hrs, hun⟩ := h
    show gAt (91 :: (u ++ r)) = _
    unfold gAt
    simp only
    rw [if_pos trivial, hu r]
    have hul : u.length ≠ 0 := fun e => hun (List.eq_nil_of_length_eq_zero e)
    have e2 : u.length - 1 + 2 = (91 :: u).length := by simp only [List.length_cons]; omega
    show (if rs.isEmpty = true then none else some (GA.cls ((91 :: (u ++ r)).take (u.length - 1 + 2)) rs, u.length - 1 + 2)) = _
    rw [if_neg (by cases rs with | nil => exact absurd rfl hrs | cons => exact fun h => by cases h), e2, show 91 :: (u ++ r) = (91 :: u) ++ r from rfl, List.take_left']
    rfl
    rfl
theorem gPr_nil : gPr false [] = some (.nil, []) := by rw [gPr]
theorem gPr_stop {c : Nat} (t : List Nat) (h : c = 44 ∨ c = 125) : gPr false (c :: t) = some (.nil, c :: t) := by rw [gPr, if_pos h]
theorem gPr_atom {c : Nat} {t : List Nat} {a : GA} {k : Nat} (h1 : ¬ (c = 44 ∨ c = 125)) (h2 : c ≠ 123) (h : gAt (c :: t) = some (a, k)) :
    gPr false (c :: t) = (gPr false ((c :: t).drop k)).map fun x => (.atom a x.1, x.2) := by
  have hk := (gAt_good h).2.2.1
  have e : (c :: t).drop k = t.drop (k - 1) := by
    obtain ⟨j, rfl⟩ : ∃ j, k = j + 1 := ⟨k - 1, by omega⟩
    rfl
  rw [gPr, if_neg h1, if_neg h2, h, e]
  show (match gPr false (t.drop (k - 1)) with
    | none => none
    | some (l, r') => some (Tr.atom a l, r')) = _
  cases gPr false (t.drop (k - 1)) with
  | none => rfl
  | some x => rfl
theorem gPr_atomNo {c : Nat} {t : List Nat} (h1 : ¬ (c = 44 ∨ c = 125)) (h2 : c ≠ 123) (h : gAt (c :: t) = none) : gPr false (c :: t) = none := by
  rw [gPr, if_neg h1, if_neg h2, h]
theorem gPr_brNo {t : List Nat} (h : gPr true t = none) : gPr false (123 :: t) = none := by
  rw [gPr, if_neg (by decide), if_pos rfl, h]
theorem gPr_br' {t r : List Nat} {ws : Tr} (h : gPr true t = some (ws, r)) (hr : r.length ≤ t.length) : gPr false (123 :: t) = (gPr false r).map fun x => (.br ws x.1, x.2) := by
  rw [gPr, if_neg (by decide), if_pos rfl, h]
  show (if h : r.length ≤ t.length then
            match gPr false r with
            | none => none
            | some (l, r') => some (Tr.br ws l, r')
          else none) = _
  rw [dif_pos hr]
  cases gPr false r with
  | none => rfl
  | some x => rfl
theorem gPr_brLong {t r : List Nat} {ws : Tr} (h : gPr true t = some (ws, r)) (hr : ¬ r.length ≤ t.length) : gPr false (123 :: t) = none := by
  rw [gPr, if_neg (by decide), if_pos rfl, h]
  exact dif_neg hr
theorem gPr_wayNo {s : List Nat} (h : gPr false s = none) : gPr true s = none := by rw [gPr, h]
theorem gPr_wayOpen {s : List Nat} {p : Tr} (h : gPr false s = some (p, [])) : gPr true s = none := by rw [gPr, h]
theorem gPr_wayEnd {s t : List Nat} {p : Tr} (h : gPr false s = some (p, 125 :: t)) : gPr true s = some (.way p .none, t) := by
  rw [gPr, h]
  rfl
theorem gPr_wayMore' {s t : List Nat} {p : Tr} {c : Nat} (h : gPr false s = some (p, c :: t)) (hc : c ≠ 125) (hl : t.length < s.length) : gPr true s = (gPr true t).map fun x => (.way p x.1, x.2) := by
  rw [gPr, h]
  show (if c = 125 then some (Tr.way p .none, t) else
        if h : t.length < s.length then
          match gPr true t with
          | none => none
          | some (ws, r') => some (Tr.way p ws, r')
        else none) = _
  rw [if_neg hc, dif_pos hl]
  cases gPr true t with
  | none => rfl
  | some x => rfl
theorem gPr_wayLong {s t : List Nat} {p : Tr} {c : Nat} (h : gPr false s = some (p, c :: t)) (hc : c ≠ 125) (hl : ¬ t.length < s.length) : gPr true s = none := by
  rw [gPr, h]
  show (if c = 125 then some (Tr.way p .none, t) else
        if h : t.length < s.length then
          match gPr true t with
          | none => none
          | some (ws, r') => some (Tr.way p ws, r')
        else none) = _
  rw [if_neg hc, dif_neg hl]
theorem gStr_more {p ws : Tr} (hw : ws ≠ .none) (hg : Good true ws) : gStr (.way p ws) = gStr p ++ 44 :: gStr ws := by
  cases ws with
  | none => exact absurd rfl hw
  | way q ws => rw [gStr]
  | nil => exact hg.elim
  | atom => exact hg.elim
  | br => exact hg.elim
/-- What is read: it is right, and stood there. -/
def PF (s : List Nat) : Prop := ∀ (l : Tr) (r : List Nat), gPr false s = some (l, r) → Good false l ∧ s = gStr l ++ r ∧ Stop r
def PT (s : List Nat) : Prop := ∀ (l : Tr) (r : List Nat), gPr true s = some (l, r) → Good true l ∧ l ≠ .none ∧ s = gStr l ++ r ∧ r.length < s.length
theorem sound_f : ∀ (s : List Nat), (∀ s', s'.length < s.length → PF s' ∧ PT s') → PF s
  | [], _, l, r, h => by
    rw [gPr_nil] at h
    simp only [Option.some.injEq, Prod.mk.injEq] at h
    obtain ⟨rfl, rfl⟩ := h
    exact ⟨trivial, rfl, .inl rfl⟩
  | c :: t, H, l, r, h => by
    by_cases h1 : c = 44 ∨ c = 125
    · rw [gPr_stop t h1] at h
      simp only [Option.some.injEq, Prod.mk.injEq] at h
      obtain ⟨rfl, rfl⟩ := h
      exact ⟨trivial, rfl, .inr ⟨c, t, rfl, h1⟩⟩
    · by_cases h2 : c = 123
      · subst h2
        cases hw : gPr true t with
        | none => rw [gPr_brNo hw] at h; cases h
        | some x =>
          obtain ⟨ws, r1⟩ := x
          by_cases hr : r1.length ≤ t.length
          · rw [gPr_br' hw hr] at h
            cases hp : gPr false r1 with
            | none => rw [hp] at h; cases h
            | some y =>
              rw [hp] at h
              simp only [Option.map_some, Option.some.injEq, Prod.mk.injEq] at h
              obtain ⟨rfl, rfl⟩ := h
              have hs := (H t (by simp)).2 _ _ hw
              have hl := (H r1 (by simp; omega)).1 _ _ hp
              refine ⟨⟨hs.1, hs.2.1, hl.1⟩, ?_, hl.2.2⟩
              show 123 :: t = (123 :: (gStr ws ++ gStr y.1)) ++ y.2
              rw [hs.2.2.1]
              conv => lhs; rw [hl.2.1]
              simp
          · rw [gPr_brLong hw hr] at h; cases h
      · cases ha : gAt (c :: t) with
        | none => rw [gPr_atomNo h1 h2 ha] at h; cases h
        | some x =>
          obtain ⟨a, k⟩ := x
          rw [gPr_atom h1 h2 ha] at h
          have hg := gAt_good ha
          cases hp : gPr false ((c :: t).drop k) with
          | none => rw [hp] at h; cases h
          | some y =>
            rw [hp] at h
            simp only [Option.map_some, Option.some.injEq, Prod.mk.injEq] at h
            obtain ⟨rfl, rfl⟩ := h
            have hl := (H ((c :: t).drop k) (by rw [List.length_drop]; have := hg.2.2; simp only [List.length_cons] at this ⊢; omega)).1 _ _ hp
            refine ⟨⟨hg.1, hl.1⟩, ?_, hl.2.2⟩
            show c :: t = (a.txt ++ gStr y.1) ++ y.2
            rw [List.append_assoc, ← hl.2.1, hg.2.1, List.take_append_drop]
theorem sound_t (s : List Nat) (hF : PF s) (H : ∀ s', s'.length < s.length → PF s' ∧ PT s') : PT s := fun l r h => by
  cases hp : gPr false s with
  | none => rw [gPr_wayNo hp] at h; cases h
  | some x =>
    obtain ⟨p, r1⟩ := x
    have hs := hF _ _ hp
    cases r1 with
    | nil => rw [gPr_wayOpen hp] at h; cases h
    | cons c t =>
      have hst : c = 44 ∨ c = 125 := by
        rcases hs.2.2 with e | ⟨c', t', e, hc⟩
        · cases e
        · injection e with e1 e2
          subst e1
          exact hc
      by_cases hc : c = 125
      · subst hc
        rw [gPr_wayEnd hp] at h
        simp only [Option.some.injEq, Prod.mk.injEq] at h
        obtain ⟨rfl, rfl⟩ := h
        refine ⟨⟨hs.1, trivial⟩, (fun e => by cases e), ?_, ?_⟩
        · show s = (gStr p ++ [125]) ++ t
          conv => lhs; rw [hs.2.1]
          simp
        · rw [hs.2.1]
          simp
          omega
      · by_cases hl : t.length < s.length
        · rw [gPr_wayMore' hp hc hl] at h
          cases hw : gPr true t with
          | none => rw [hw] at h; cases h
          | some y =>
            rw [hw] at h
            simp only [Option.map_some, Option.some.injEq, Prod.mk.injEq] at h
            obtain ⟨rfl, rfl⟩ := h
            have ht := (H t hl).2 _ _ hw
            refine ⟨⟨hs.1, ht.1⟩, (fun e => by cases e), ?_, Nat.lt_trans ht.2.2.2 hl⟩
            rw [gStr_more ht.2.1 ht.1]
            obtain rfl : c = 44 := by omega
            conv => lhs; rw [hs.2.1, ht.2.2.1]
            simp
        · rw [gPr_wayLong hp hc hl] at h; cases h
theorem sound_all : ∀ (N : Nat) (s : List Nat), s.length ≤ N → PF s ∧ PT s
  | 0, s, hs => by
    have hF := sound_f s (fun s' h => by omega)
    exact ⟨hF, sound_t s hF (fun s' h => by omega)⟩
  | N + 1, s, hs => by
    have H : ∀ s', s'.length < s.length → PF s' ∧ PT s' := fun s' h => sound_all N s' (by omega)
    have hF := sound_f s H
    exact ⟨hF, sound_t s hF H⟩
theorem gPr_pf {s : List Nat} {l : Tr} {r : List Nat} (h : gPr false s = some (l, r)) : Good false l ∧ s = gStr l ++ r ∧ Stop r := (sound_all _ s (Nat.le_refl _)).1 l r h
theorem gPr_pt {s : List Nat} {l : Tr} {r : List Nat} (h : gPr true s = some (l, r)) : Good true l ∧ l ≠ .none ∧ s = gStr l ++ r ∧ r.length < s.length := (sound_all _ s (Nat.le_refl _)).2 l r h
theorem gPr_le {s : List Nat} {l : Tr} {r : List Nat} (h : gPr false s = some (l, r)) : r.length ≤ s.length := by
  have := congrArg List.length (gPr_pf h).2.1
  rw [List.length_append] at this
  omega
theorem gPr_br {t r : List Nat} {ws : Tr} (h : gPr true t = some (ws, r)) : gPr false (123 :: t) = (gPr false r).map fun x => (.br ws x.1, x.2) := gPr_br' h (Nat.le_of_lt (gPr_pt h).2.2.2)
theorem gPr_wayMore {s t : List Nat} {p : Tr} (h : gPr false s = some (p, 44 :: t)) : gPr true s = (gPr true t).map fun x => (.way p x.1, x.2) :=
  gPr_wayMore' h (by decide) (by have := gPr_le h; simp only [List.length_cons] at this; omega)
theorem gPr_stopAt {s r : List Nat} {p : Tr} {c : Nat} {t : List Nat} (h : gPr false s = some (p, c :: t)) : c = 44 ∨ c = 125 := by
  rcases (gPr_pf h).2.2 with e | ⟨c', t', e, hc⟩
  · cases e
  · injection e with e1 e2
    subst e1
    exact hc
/-- What is written is read. -/
theorem gPr_str : ∀ (l : Tr), (Good false l → ∀ r, Stop r → gPr false (gStr l ++ r) = some (l, r)) ∧ (Good true l → l ≠ .none → ∀ r, gPr true (gStr l ++ r) = some (l, r))
  | .nil => ⟨fun _ r hr => by
      rcases hr with rfl | ⟨c, t, rfl, hc⟩
      · exact gPr_nil
      · exact gPr_stop t hc, fun h => h.elim⟩
  | .none => ⟨fun h => h.elim, fun _ h => absurd rfl h⟩
  | .atom a l => ⟨fun h r hr => by
      obtain ⟨ha, hl⟩ := h
      obtain ⟨c, u, he, h1, h2, h3⟩ := good_txt ha
      have hA := gAt_txt ha (gStr l ++ r)
      show gPr false ((a.txt ++ gStr l) ++ r) = _
      rw [List.append_assoc]
      have hd : (a.txt ++ (gStr l ++ r)).drop a.txt.length = gStr l ++ r := by rw [List.drop_append_of_le_length (Nat.le_refl _), List.drop_length, List.nil_append]
      rw [he] at hA hd ⊢
      rw [show (c :: u) ++ (gStr l ++ r) = c :: (u ++ (gStr l ++ r)) from rfl] at hA hd ⊢
      rw [gPr_atom (by omega) h3 hA, hd, (gPr_str l).1 hl r hr]
      rfl, fun h => h.elim⟩
  | .br ws l => ⟨fun h r hr => by
      obtain ⟨hw, hn, hl⟩ := h
      show gPr false (123 :: (gStr ws ++ gStr l) ++ r) = _
      rw [show 123 :: (gStr ws ++ gStr l) ++ r = 123 :: (gStr ws ++ (gStr l ++ r)) by simp, gPr_br ((gPr_str ws).2 hw hn (gStr l ++ r)), (gPr_str l).1 hl r hr]
      rfl, fun h => h.elim⟩
  | .way p ws => ⟨fun h => h.elim, fun h _ r => by
      obtain ⟨hp, hw⟩ := h
      by_cases hn : ws = .none
      · subst hn
        show gPr true (gStr p ++ [125] ++ r) = _
        rw [List.append_assoc]
        exact gPr_wayEnd ((gPr_str p).1 hp (125 :: r) (.inr ⟨125, r, rfl, .inr rfl⟩))
      · rw [gStr_more hn hw, show gStr p ++ 44 :: gStr ws ++ r = gStr p ++ 44 :: (gStr ws ++ r) by simp]
        rw [gPr_wayMore ((gPr_str p).1 hp (44 :: (gStr ws ++ r)) (.inr ⟨44, _, rfl, .inl rfl⟩)), (gPr_str ws).2 hw hn r]
        rfl⟩
end Go.Proofs.YtkgmglncdiccfaaDoor
