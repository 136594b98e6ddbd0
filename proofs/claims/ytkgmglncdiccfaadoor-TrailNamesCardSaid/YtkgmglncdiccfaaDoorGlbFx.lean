/-
  Plain facts for the statements of layer 15: the fixed patterns; question marks; plain ones; a set.
-/
import Derived.Test.YtkgmglncdiccfaaDoorGlbPP
import Derived.Test.YtkgmglncdiccfaaDoorGlbRA
set_option linter.unusedSimpArgs false
set_option linter.unusedVariables false
namespace Go.Proofs.YtkgmglncdiccfaaDoor
open GR
theorem gErr_of {l : Tr} (hg : Good false l) (hl : (gStr l).length ≤ 128) (h0 : l.len ≠ 0) (hd : gDp l ≤ 4) (hc : gCnt l 1 ≤ 64) : gErr (gStr l) = 0 ∧ gTree (gStr l) = l := by
  have hp := (gPr_str l).1 hg [] (.inl rfl)
  rw [List.append_nil] at hp
  exact GP.gErr_ok (by omega) hp h0 (by omega) (by omega)
theorem gMatch_of {l : Tr} (hg : Good false l) (hl : (gStr l).length ≤ 128) (h0 : l.len ≠ 0) (hd : gDp l ≤ 4) (hc : gCnt l 1 ≤ 64) (n : List Nat) : gMatch (gStr l) n = gLd n l gE0 n.length := by
  obtain ⟨h1, h2⟩ := gErr_of hg hl h0 hd hc
  unfold gMatch
  rw [if_pos h1, h2]
/-! ### The fixed patterns -/
def tree1 : Tr := .atom (.one 97) (.br (.way (.atom (.one 98) .nil) (.way (.atom (.one 99) (.br (.way (.atom (.one 100) .nil) (.way (.atom (.one 101) .nil) .none)) .nil)) .none)) (.atom (.one 102) .nil))
theorem one_good {c : Nat} (h : isB c = true) : GA.Good (.one c) := h
theorem tree1_good : Good false tree1 := by
  refine ⟨one_good (by decide), ⟨⟨one_good (by decide), trivial⟩, ⟨one_good (by decide), ⟨⟨one_good (by decide), trivial⟩, ⟨one_good (by decide), trivial⟩, trivial⟩, (fun h => by cases h), trivial⟩, trivial⟩, (fun h => by cases h), one_good (by decide), trivial⟩
theorem tree1_str : gStr tree1 = [97, 123, 98, 44, 99, 123, 100, 44, 101, 125, 125, 102] := by
  simp [tree1, gStr, GA.txt]
theorem fixed1 : gErr [97, 123, 98, 44, 99, 123, 100, 44, 101, 125, 125, 102] = 0 ∧ gTree [97, 123, 98, 44, 99, 123, 100, 44, 101, 125, 125, 102] = tree1 := by
  rw [← tree1_str]
  exact gErr_of tree1_good (by rw [tree1_str]; decide) (by decide) (by decide) (by decide)
theorem fixed1_tx : gTx tree1 [[]] = [[97, 98, 102], [97, 99, 100, 102], [97, 99, 101, 102]] := by decide
def tree2 : Tr := .atom (.cls [91, 97, 45, 99, 93] [(97, 99)]) (.atom .each (.atom .star .nil))
theorem cls_good : GA.Good (.cls [91, 97, 45, 99, 93] [(97, 99)]) := by
  refine ⟨[97, 45, 99, 93], rfl, fun r => ?_, by decide, by decide⟩
  show gCls (97 :: 45 :: 99 :: 93 :: r) = some ([(97, 99)], 3)
  have hm : gMem (97 :: 45 :: 99 :: 93 :: r) = some ((97, 99), 3) := by
    unfold gMem
    simp [isB]
  rw [gCls_yes (by decide) hm]
  show (gCls (93 :: r)).map _ = _
  rw [gCls_end]
  rfl
theorem tree2_good : Good false tree2 := ⟨cls_good, trivial, trivial, trivial⟩
theorem tree2_str : gStr tree2 = [91, 97, 45, 99, 93, 63, 42] := rfl
theorem fixed2 : gErr [91, 97, 45, 99, 93, 63, 42] = 0 ∧ gMatch [91, 97, 45, 99, 93, 63, 42] [98, 49] = true ∧ gMatch [91, 97, 45, 99, 93, 63, 42] [98] = false := by
  rw [← tree2_str]
  have hl : (gStr tree2).length ≤ 128 := by rw [tree2_str]; decide
  refine ⟨(gErr_of tree2_good hl (by decide) (by decide) (by decide)).1, ?_, ?_⟩
  · rw [gMatch_of tree2_good hl (by decide) (by decide) (by decide)]; decide
  · rw [gMatch_of tree2_good hl (by decide) (by decide) (by decide)]; decide
/-! ### Pieces without braces -/
theorem ofA_match {e : List GA} (h : ∀ a ∈ e, a.Good) (he : e ≠ []) (hl : (gTxt e).length ≤ 128) (n : List Nat) : gErr (gTxt e) = 0 ∧ gMatch (gTxt e) n = gLd n (ofA e) gE0 n.length := by
  obtain ⟨h1, h2⟩ := gErr_ofA h he hl
  refine ⟨h1, ?_⟩
  unfold gMatch
  rw [if_pos h1, h2]
/-! ### Question marks -/
theorem marks_txt (k : Nat) : gTxt (List.replicate k GA.each) = List.replicate k 63 := by
  induction k with
  | zero => rfl
  | succ k ih =>
    show [63] ++ gTxt (List.replicate k GA.each) = 63 :: List.replicate k 63
    rw [ih]
    rfl
theorem marks_ld (n : List Nat) : ∀ (k : Nat) (f : Nat → Bool) (j : Nat), gLd n (ofA (List.replicate k GA.each)) f j = (decide (k ≤ j) && f (j - k))
  | 0, f, j => by
    show f j = (decide (0 ≤ j) && f (j - 0))
    simp
  | k + 1, f, j => by
    show gLd n (ofA (List.replicate k GA.each)) (gAd n .each f) j = _
    rw [marks_ld n k]
    by_cases h : k ≤ j
    · rw [decide_eq_true h, Bool.true_and]
      cases hm : j - k with
      | zero =>
        show false = _
        rw [decide_eq_false (by omega), Bool.false_and]
      | succ m =>
        show (f m && true) = _
        rw [decide_eq_true (by omega), Bool.and_true, Bool.true_and, show j - (k + 1) = m by omega]
    · rw [decide_eq_false h, decide_eq_false (by omega), Bool.false_and, Bool.false_and]
theorem marks_fit {k : Nat} (hk : 1 ≤ k) (hl : k ≤ 128) (n : List Nat) : gErr (List.replicate k 63) = 0 ∧ gMatch (List.replicate k 63) n = decide (n.length = k) := by
  have h := ofA_match (e := List.replicate k GA.each) (fun a ha => by rw [List.eq_of_mem_replicate ha]; trivial) (by intro e; have := congrArg List.length e; simp at this; omega) (by rw [marks_txt, List.length_replicate]; exact hl) n
  rw [marks_txt] at h
  refine ⟨h.1, ?_⟩
  rw [h.2, marks_ld]
  unfold gE0
  rw [← Bool.decide_and, decide_eq_decide]
  omega
/-! ### A star -/
theorem star_fit (n : List Nat) : gErr [42] = 0 ∧ gMatch [42] n = true := by
  have h := ofA_match (e := [GA.star]) (fun a ha => by rw [List.mem_singleton.1 ha]; trivial) (by decide) (by decide) n
  refine ⟨h.1, ?_⟩
  show gMatch (gTxt [GA.star]) n = true
  rw [h.2]
  show gAd n .star gE0 n.length = true
  have e : ∀ k, gAd n .star gE0 k = true := fun k => by
    have : gAd n .star gE0 k = (List.range (k + 1)).any gE0 := by cases k <;> rfl
    rw [this, List.any_eq_true]
    exact ⟨0, List.mem_range.2 (by omega), rfl⟩
  exact e _
/-! ### Plain ones -/
theorem ones_txt (p : List Nat) : gTxt (p.map GA.one) = p := by
  induction p with
  | nil => rfl
  | cons c p ih =>
    show [c] ++ gTxt (p.map GA.one) = c :: p
    rw [ih]
    rfl
theorem ones_ld : ∀ (p n : List Nat) (f : Nat → Bool) (j : Nat), j ≤ n.length → (gLd n (ofA (p.map GA.one)) f j = true ↔ p.length ≤ j ∧ f (j - p.length) = true ∧ (n.take j).drop (j - p.length) = p)
  | [], n, f, j, hj => by
    show f j = true ↔ 0 ≤ j ∧ f (j - 0) = true ∧ (n.take j).drop (j - 0) = []
    rw [Nat.sub_zero]
    exact ⟨fun h => ⟨Nat.zero_le _, h, List.drop_eq_nil_of_le (by rw [List.length_take]; omega)⟩, fun h => h.2.1⟩
  | c :: p, n, f, j, hj => by
    show gLd n (ofA (p.map GA.one)) (gAd n (.one c) f) j = true ↔ _
    rw [ones_ld p n _ j hj]
    simp only [List.length_cons]
    by_cases h : p.length < j
    · obtain ⟨m, h1, h2⟩ : ∃ m, j - p.length = m + 1 ∧ j - (p.length + 1) = m := ⟨j - (p.length + 1), by omega, rfl⟩
      rw [h1, h2]
      have hmj : m < (n.take j).length := by rw [List.length_take]; omega
      have hd : (n.take j).drop m = n.getD m 0 :: (n.take j).drop (m + 1) := by
        rw [List.drop_eq_getElem_cons hmj, List.getElem_take, List.getD_eq_getElem?_getD, List.getElem?_eq_getElem (by omega)]
        rfl
      rw [hd]
      show _ ∧ (f m && decide (c = n.getD m 0)) = true ∧ _ ↔ _
      rw [Bool.and_eq_true, decide_eq_true_eq, List.cons.injEq]
      constructor
      · rintro ⟨_, ⟨h3, h4⟩, h5⟩; exact ⟨by omega, h3, h4.symm, h5⟩
      · rintro ⟨_, h3, h4, h5⟩; exact ⟨by omega, ⟨h3, h4.symm⟩, h5⟩
    · constructor
      · rintro ⟨h3, h4, _⟩
        rw [show j - p.length = 0 by omega] at h4
        cases h4
      · rintro ⟨h3, _⟩
        omega
theorem plain_fit {p : List Nat} (hp : gPlain p = true) (hl : p.length ≤ 128) (n : List Nat) : gErr p = 0 ∧ gMatch p n = decide (p = n) := by
  unfold gPlain at hp
  rw [Bool.and_eq_true, decide_eq_true_eq, List.all_eq_true] at hp
  have h := ofA_match (e := p.map GA.one) (fun a ha => by
    obtain ⟨c, hc, rfl⟩ := List.mem_map.1 ha
    exact hp.2 c hc) (by intro e; exact hp.1 (List.map_eq_nil_iff.1 e)) (by rw [ones_txt]; exact hl) n
  rw [ones_txt] at h
  refine ⟨h.1, ?_⟩
  rw [h.2, Bool.eq_iff_iff, ones_ld p n gE0 n.length (Nat.le_refl _), List.take_length, decide_eq_true_eq]
  unfold gE0
  rw [decide_eq_true_eq]
  constructor
  · rintro ⟨h1, h2, h3⟩
    rw [h2, List.drop_zero] at h3
    exact h3.symm
  · rintro rfl
    exact ⟨Nat.le_refl _, Nat.sub_self _, by rw [Nat.sub_self, List.drop_zero]⟩
/-! ### A set -/
theorem match_ex {s : List Nat} (h : gErr s = 0) (n : List Nat) : gMatch s n = (gEx (gTree s)).any fun e => gLd n (ofA e) gE0 n.length := by
  unfold gMatch
  rw [if_pos h, gLd_ex n (gTree s) (.inl (gErr_good h).1)]
/-- What one of the expanded ones fits; the empty one: the empty name alone. -/
def fitOne (n x : List Nat) : Bool := if x = [] then decide (n = []) else gMatch x n
theorem fit_one {s x : List Nat} (h : gErr s = 0) {e : List GA} (he : e ∈ gEx (gTree s)) (hx : x = gTxt e) (n : List Nat) : (x ≠ [] → gErr x = 0) ∧ fitOne n x = gLd n (ofA e) gE0 n.length := by
  obtain ⟨hg, hl, _, _⟩ := gErr_good h
  have hgd := gEx_good (gTree s) (.inl hg) e he
  have hle := gEx_len (gTree s) (.inl hg) e he
  subst hx
  by_cases h0 : e = []
  · subst h0
    refine ⟨fun h => absurd rfl h, ?_⟩
    show (if ([] : List Nat) = [] then decide (n = []) else _) = gE0 n.length
    rw [if_pos rfl]
    unfold gE0
    rw [decide_eq_decide]
    exact ⟨fun e => by rw [e]; rfl, fun e => List.eq_nil_of_length_eq_zero e⟩
  · have hm := ofA_match hgd h0 (by omega) n
    have hne : gTxt e ≠ [] := by
      cases e with
      | nil => exact absurd rfl h0
      | cons a e =>
        obtain ⟨c, u, hc, _⟩ := good_txt (hgd a (by simp))
        intro e'
        have : a.txt ++ gTxt e = [] := e'
        rw [hc] at this
        cases this
    refine ⟨fun _ => hm.1, ?_⟩
    unfold fitOne
    rw [if_neg hne, hm.2]
theorem set_any {s : List Nat} (h : gErr s = 0) (n : List Nat) : ((gTx (gTree s) [[]]).any (fitOne n)) = gMatch s n := by
  obtain ⟨hg, _, _, _⟩ := gErr_good h
  rw [match_ex h, Bool.eq_iff_iff]
  simp only [List.any_eq_true]
  constructor
  · rintro ⟨x, hx, hf⟩
    obtain ⟨a, ha, e, he, hxe⟩ := ((gTx_mem (gTree s)).1 hg [[]] x).1 hx
    obtain rfl := List.mem_singleton.1 ha
    exact ⟨e, he, by rw [← (fit_one h he hxe n).2]; exact hf⟩
  · rintro ⟨e, he, hf⟩
    refine ⟨gTxt e, ((gTx_mem (gTree s)).1 hg [[]] _).2 ⟨[], by simp, e, he, rfl⟩, ?_⟩
    rw [(fit_one h he rfl n).2]
    exact hf
theorem set_ok {s : List Nat} (h : gErr s = 0) {x : List Nat} (hx : x ∈ gTx (gTree s) [[]]) : (x ≠ [] → gErr x = 0) ∧ x.length ≤ 128 := by
  obtain ⟨hg, hl, _, _⟩ := gErr_good h
  obtain ⟨a, ha, e, he, hxe⟩ := ((gTx_mem (gTree s)).1 hg [[]] x).1 hx
  obtain rfl := List.mem_singleton.1 ha
  refine ⟨(fit_one h he hxe []).1, ?_⟩
  have := gEx_len (gTree s) (.inl hg) e he
  rw [hxe]
  show (gTxt e).length ≤ 128
  omega
def two (p q : List Nat) : List Nat := [123] ++ p ++ [44] ++ q ++ [125]
theorem two_is {p q : List Nat} (hp : gErr p = 0) (hq : gErr q = 0) : two p q = gStr (.br (.way (gTree p) (.way (gTree q) .none)) .nil) ∧ Good false (.br (.way (gTree p) (.way (gTree q) .none)) .nil) := by
  obtain ⟨g1, _, _, e1⟩ := gErr_good hp
  obtain ⟨g2, _, _, e2⟩ := gErr_good hq
  refine ⟨?_, ⟨g1, g2, trivial⟩, (fun h => by cases h), trivial⟩
  show _ = 123 :: ((gStr (gTree p) ++ 44 :: (gStr (gTree q) ++ [125])) ++ [])
  rw [← e1, ← e2]
  unfold two
  simp
theorem two_err {p q : List Nat} (hp : gErr p = 0) (hq : gErr q = 0) (h1 : p.length ≤ 60) (h2 : q.length ≤ 60) : gErr (two p q) = 0 ∨ gErr (two p q) = 19 ∨ gErr (two p q) = 11 := by
  obtain ⟨he, hg⟩ := two_is hp hq
  have hlen : (two p q).length ≤ 128 := by unfold two; simp; omega
  have hpr := (gPr_str (.br (.way (gTree p) (.way (gTree q) .none)) .nil)).1 hg [] (.inl rfl)
  rw [List.append_nil, ← he] at hpr
  by_cases hd : 4 < gDp (.br (.way (gTree p) (.way (gTree q) .none)) .nil)
  · exact .inr (.inl (GP.gErr_deep (by omega) hpr (fun h => absurd h (Nat.succ_ne_zero _)) hd))
  · by_cases hc : 64 < gCnt (.br (.way (gTree p) (.way (gTree q) .none)) .nil) 1
    · exact .inr (.inr (GP.gErr_many (by omega) hpr (fun h => absurd h (Nat.succ_ne_zero _)) hd hc))
    · exact .inl (GP.gErr_ok (by omega) hpr (fun h => absurd h (Nat.succ_ne_zero _)) hd hc).1
theorem two_fit {p q : List Nat} (hp : gErr p = 0) (hq : gErr q = 0) (h : gErr (two p q) = 0) (n : List Nat) : gMatch (two p q) n = (gMatch p n || gMatch q n) := by
  obtain ⟨he, hg⟩ := two_is hp hq
  have hpr := (gPr_str (.br (.way (gTree p) (.way (gTree q) .none)) .nil)).1 hg [] (.inl rfl)
  rw [List.append_nil, ← he] at hpr
  have ht : gTree (two p q) = .br (.way (gTree p) (.way (gTree q) .none)) .nil := by
    rw [show gTree (two p q) = (match gPr false (two p q) with | none => Tr.nil | some (l, _) => l) from rfl, hpr]
  unfold gMatch
  rw [if_pos h, if_pos hp, if_pos hq, ht]
  show (gLd n (gTree p) gE0 n.length || (gLd n (gTree q) gE0 n.length || false)) = _
  rw [Bool.or_false]
end Go.Proofs.YtkgmglncdiccfaaDoor
