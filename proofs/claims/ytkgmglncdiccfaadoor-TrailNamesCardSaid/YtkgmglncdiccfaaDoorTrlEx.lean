/-
  Plain facts on how the document's own expand goes through a pattern (layer 15): what is left; rows of texts that are changed in place.
-/
import Derived.Test.YtkgmglncdiccfaaDoorTrlFr
import Derived.Test.YtkgmglncdiccfaaDoorGlbTx
import Derived.Laws.OwnMore
set_option linter.unusedSimpArgs false
set_option linter.unusedVariables false
namespace Go.Proofs.YtkgmglncdiccfaaDoor
open Go.RowKit
theorem TxNew.set {B : Nat} {w : World} {g c k n : Nat} {ls : List (List Nat)} (h : TxNew B w (.slice (some ⟨g, 0, none⟩) n c) ls) (hn : ls.length = n) (t : List Nat) :
    TxNew B (w.setCell ⟨g, k, none⟩ (.string (str t))) (.slice (some ⟨g, 0, none⟩) n c) (ls.set k t) := by
  unfold TxNew at h ⊢
  subst hn
  have h2 := (World.ownsRow.stored h k (.string (str t))).1
  rw [List.length_set]
  have e : txC (ls.set k t) = (txC ls).set k (.string (str t)) := by unfold txC; rw [List.map_set]
  rw [e]
  exact h2
/-- The first i are changed. -/
def mapTo {α : Type} (F : α → α) (l : List α) (i : Nat) : List α := (l.take i).map F ++ l.drop i
theorem mapTo_zero {α : Type} (F : α → α) (l : List α) : mapTo F l 0 = l := rfl
theorem mapTo_all {α : Type} (F : α → α) (l : List α) : mapTo F l l.length = l.map F := by unfold mapTo; rw [List.take_length, List.drop_length, List.append_nil]
theorem mapTo_length {α : Type} (F : α → α) (l : List α) (i : Nat) : (mapTo F l i).length = l.length := by
  unfold mapTo
  rw [List.length_append, List.length_map, List.length_take, List.length_drop]
  omega
theorem mapTo_get {α : Type} (F : α → α) (l : List α) (i : Nat) (h : i < l.length) : (mapTo F l i)[i]? = l[i]? := by
  unfold mapTo
  rw [List.getElem?_append_right (by rw [List.length_map, List.length_take]; omega), List.length_map, List.length_take, Nat.min_eq_left (by omega), Nat.sub_self, List.getElem?_drop, Nat.add_zero]
theorem mapTo_set {α : Type} (F : α → α) (l : List α) (i : Nat) (x : α) (h : l[i]? = some x) : (mapTo F l i).set i (F x) = mapTo F l (i + 1) := by
  obtain ⟨hl, hx⟩ := List.getElem?_eq_some_iff.1 h
  unfold mapTo
  rw [List.set_append_right _ _ (by rw [List.length_map, List.length_take]; omega), List.length_map, List.length_take, Nat.min_eq_left (by omega), Nat.sub_self, List.drop_eq_getElem_cons hl, take_snoc' h, List.map_append, List.append_assoc]
  rfl
theorem drop_same {s : List Nat} {a b : Nat} (h : s.drop a = s.drop b) (ha : a ≤ s.length) (hb : b ≤ s.length) : a = b := by
  have := congrArg List.length h
  rw [List.length_drop, List.length_drop] at this
  omega
/-- What expand still has to read, up to a place, and to come to. -/
structure ExI (s : List Nat) (m k : Nat) (G OUT : List (List Nat)) : Prop where
  rd : ∃ tr, gPr false (s.drop k) = some (tr, s.drop m) ∧ Good false tr ∧ gTx tr OUT = G ∧ OUT.length * gNm tr ≤ 64
  le : k ≤ m
  pos : 1 ≤ OUT.length
  len : ∀ x ∈ OUT, x.length ≤ k
theorem ExI.few {s : List Nat} {m k : Nat} {G OUT : List (List Nat)} (h : ExI s m k G OUT) : OUT.length ≤ 64 := by
  obtain ⟨tr, _, hg, _, hn⟩ := h.rd
  have := (gNm_pos tr).1 hg
  have h2 := Nat.mul_le_mul (Nat.le_refl OUT.length) this
  omega
theorem ExI.stop {s : List Nat} {m k : Nat} {G OUT : List (List Nat)} (h : ExI s m k G OUT) (hm : m ≤ s.length) (hs : Stop (s.drop k)) : k = m ∧ OUT = G := by
  obtain ⟨tr, h1, _, h2, _⟩ := h.rd
  have e : gPr false (s.drop k) = some (.nil, s.drop k) := by
    rcases hs with e | ⟨c, t, e, hc⟩
    · rw [e]; exact gPr_nil
    · rw [e]; exact gPr_stop t hc
  rw [e] at h1
  injection h1 with h1
  injection h1 with h3 h4
  subst h3
  have := h.le
  exact ⟨drop_same h4 (by omega) hm, h2⟩
theorem ExI.atom {s : List Nat} {m k c : Nat} {G OUT : List (List Nat)} (h : ExI s m k G OUT) (hm : m ≤ s.length) (hk : k < s.length) (hc : s.getD k 0 = c) (h1 : ¬ (c = 44 ∨ c = 125)) (h2 : c ≠ 123) :
    ∃ x j, gAt (s.drop k) = some (x, j) ∧ x.txt = (s.drop k).take j ∧ 1 ≤ j ∧ k + j ≤ s.length ∧ ExI s m (k + j) G (OUT.map (· ++ x.txt)) := by
  obtain ⟨tr, ht, hgd, hG, hn⟩ := h.rd
  have e := drop_cons hk
  rw [hc] at e
  cases hg : gAt (s.drop k) with
  | none =>
    rw [e] at hg ht
    rw [gPr_atomNo h1 h2 hg] at ht
    cases ht
  | some xj =>
    obtain ⟨x, j⟩ := xj
    obtain ⟨hx1, hx2, hx3, hx4⟩ := gAt_good hg
    rw [List.length_drop] at hx4
    have hg2 := hg
    rw [e] at hg2
    have hp := gPr_atom h1 h2 hg2
    rw [← e, List.drop_drop, ht] at hp
    cases hr : gPr false (s.drop (k + j)) with
    | none => rw [hr] at hp; cases hp
    | some y =>
      obtain ⟨tr', r⟩ := y
      rw [hr] at hp
      injection hp with hp
      injection hp with hp1 hp2
      subst hp1 hp2
      obtain ⟨m', hm1, hm2, hm3, _, hgd', _⟩ := rest_is hr (by omega)
      have := drop_same hm1 hm hm3
      subst this
      have hjl : x.txt.length = j := by rw [hx2, List.length_take, List.length_drop]; omega
      refine ⟨x, j, rfl, hx2, hx3, by omega, ⟨tr', hr, hgd', hG, ?_⟩, hm2, by rw [List.length_map]; exact h.pos, fun y hy => ?_⟩
      · rw [List.length_map]; exact hn
      · obtain ⟨z, hz, rfl⟩ := List.mem_map.1 hy
        have := h.len z hz
        rw [List.length_append, hjl]
        omega
/-- What is left of alternatives. -/
structure ExW (s : List Nat) (q j : Nat) (A ALL : List (List Nat)) : Prop where
  rd : ∃ ws, gPr true (s.drop (j + 1)) = some (ws, s.drop q) ∧ Good true ws ∧ ALL ++ gTx ws [] = A ∧ ALL.length + gNm ws ≤ 64
theorem ExI.br {s : List Nat} {m k : Nat} {G OUT : List (List Nat)} (h : ExI s m k G OUT) (hm : m ≤ s.length) (hk : k < s.length) (hc : s.getD k 0 = 123) :
    ∃ q A, k + 1 ≤ q ∧ q ≤ s.length ∧ ExW s q k A [] ∧ OUT.length * A.length ≤ 64 ∧ A.length ≤ 64 ∧ 1 ≤ A.length ∧ (∀ x ∈ OUT, ∀ y ∈ A, x.length + y.length ≤ s.length) ∧ ExI s m q G (longer OUT A) := by
  obtain ⟨tr, ht, hgd, hG, hn⟩ := h.rd
  have e := drop_cons hk
  rw [hc] at e
  cases hw : gPr true (s.drop (k + 1)) with
  | none =>
    rw [e, gPr_brNo hw] at ht
    cases ht
  | some y =>
    obtain ⟨ws, r⟩ := y
    obtain ⟨hgw, hne, hstr, hlt⟩ := gPr_pt hw
    have hp := gPr_br hw
    rw [← e, ht] at hp
    cases hr : gPr false r with
    | none => rw [hr] at hp; cases hp
    | some z =>
      obtain ⟨tr', r'⟩ := z
      rw [hr] at hp
      injection hp with hp
      injection hp with hp1 hp2
      subst hp1 hp2
      have hl := congrArg List.length hstr
      rw [List.length_drop, List.length_append] at hl
      have hrq : r = s.drop (k + 1 + (gStr ws).length) := by
        rw [← List.drop_drop, hstr, List.drop_left']
        rfl
      obtain ⟨q, hq⟩ : ∃ q, k + 1 + (gStr ws).length = q := ⟨_, rfl⟩
      rw [hq] at hrq
      subst hrq
      obtain ⟨m', hm1, hm2, hm3, _, hgd', _⟩ := rest_is hr (by omega)
      have := drop_same hm1 hm hm3
      subst this
      have hnm : OUT.length * (gNm ws * gNm tr') ≤ 64 := hn
      have hp1 := (gNm_pos tr').1 hgd'
      have hp2 := (gNm_pos ws).2 hgw hne
      have hal : (gTx ws []).length = gNm ws := (gTx_length ws).2 hgw
      have h3 : OUT.length * gNm ws ≤ 64 := by
        rw [← Nat.mul_assoc] at hnm
        have := Nat.mul_le_mul (Nat.le_refl (OUT.length * gNm ws)) hp1
        omega
      have h4 : gNm ws ≤ 64 := by
        have := Nat.mul_le_mul h.pos (Nat.le_refl (gNm ws))
        omega
      have hylen : ∀ y ∈ gTx ws [], y.length ≤ (gStr ws).length := fun y hy => by
        obtain ⟨e', he', rfl⟩ := ((gTx_mem ws).2 hgw y).1 hy
        exact gEx_len ws (.inr hgw) e' he'
      refine ⟨q, gTx ws [], by omega, by omega, ⟨ws, hw, hgw, rfl, by simpa using h4⟩, by rw [hal]; exact h3, by rw [hal]; exact h4, by rw [hal]; exact hp2, fun x hx y hy => ?_, ⟨tr', hr, hgd', hG, ?_⟩, hm2, ?_, fun y hy => ?_⟩
      · have h5 := h.len x hx
        have h6 := hylen y hy
        omega
      · rw [longer_length, hal, Nat.mul_assoc]; exact hnm
      · rw [longer_length, hal]
        have := Nat.mul_le_mul h.pos hp2
        omega
      · obtain ⟨a, ha, hy2⟩ := List.mem_flatMap.1 hy
        obtain ⟨b, hb, rfl⟩ := List.mem_map.1 hy2
        have h5 := h.len a ha
        have h6 := hylen b hb
        rw [List.length_append]
        omega
theorem ExW.step {s : List Nat} {q j : Nat} {A ALL : List (List Nat)} (h : ExW s q j A ALL) (hq : q ≤ s.length) (hj : j + 1 ≤ s.length) :
    ∃ t m, gPr false (s.drop (j + 1)) = some (t, s.drop m) ∧ j + 1 ≤ m ∧ m < s.length ∧ gNm t ≤ 64 ∧ (gTx t [[]]).length = gNm t ∧ ALL.length + gNm t ≤ 64 ∧
      ((s.getD m 0 = 125 ∧ m + 1 = q ∧ ALL ++ gTx t [[]] = A) ∨ (s.getD m 0 = 44 ∧ ExW s q m A (ALL ++ gTx t [[]]))) := by
  obtain ⟨ws, hw, hgw, hA, hn⟩ := h.rd
  cases hp : gPr false (s.drop (j + 1)) with
  | none => rw [gPr_wayNo hp] at hw; cases hw
  | some y =>
    obtain ⟨t, r⟩ := y
    obtain ⟨m, hr, hm1, hm2, hst, hgt, _⟩ := rest_is hp hj
    subst hr
    have htl : (gTx t [[]]).length = gNm t := by rw [(gTx_length t).1 hgt]; exact Nat.one_mul _
    have hml : m < s.length := by
      rcases Nat.lt_or_ge m s.length with h | h
      · exact h
      · rw [List.drop_eq_nil_of_le h] at hp
        rw [gPr_wayOpen hp] at hw
        cases hw
    have e := drop_cons hml
    obtain ⟨c, hc⟩ : ∃ c, s.getD m 0 = c := ⟨_, rfl⟩
    rw [hc] at e
    have hc2 : c = 44 ∨ c = 125 := by
      rcases hst with h | ⟨c', t', h, hc'⟩
      · rw [e] at h; cases h
      · rw [e] at h
        injection h with h _
        omega
    by_cases h125 : c = 125
    · subst h125
      have hp2 := hp
      rw [e] at hp2
      rw [gPr_wayEnd hp2] at hw
      injection hw with hw
      injection hw with hw1 hw2
      subst hw1
      have hA2 : ALL ++ (gTx t [[]] ++ []) = A := hA
      rw [List.append_nil] at hA2
      have hn2 : ALL.length + (gNm t + 0) ≤ 64 := hn
      exact ⟨t, m, rfl, hm1, hml, by omega, htl, by omega, .inl ⟨hc, drop_same hw2 (by omega) hq, hA2⟩⟩
    · obtain rfl : c = 44 := by omega
      have hp2 := hp
      rw [e] at hp2
      rw [gPr_wayMore' hp2 (by decide) (by rw [List.length_drop, List.length_drop]; omega)] at hw
      cases hr : gPr true (s.drop (m + 1)) with
      | none => rw [hr] at hw; cases hw
      | some z =>
        obtain ⟨ws', r⟩ := z
        rw [hr] at hw
        injection hw with hw
        injection hw with hw1 hw2
        subst hw1 hw2
        have hA2 : ALL ++ (gTx t [[]] ++ gTx ws' []) = A := hA
        have hn2 : ALL.length + (gNm t + gNm ws') ≤ 64 := hn
        exact ⟨t, m, rfl, hm1, hml, by omega, htl, by omega, .inr ⟨hc, ws', hr, hgw.2, by rw [List.append_assoc]; exact hA2, by rw [List.length_append, htl]; omega⟩⟩
theorem ExI.start {s : List Nat} {a m : Nat} {t : Tr} (h : gPr false (s.drop a) = some (t, s.drop m)) (ha : a ≤ s.length) (hm : m ≤ s.length) (hn : gNm t ≤ 64) : ExI s m a (gTx t [[]]) [[]] := by
  obtain ⟨m', h1, h2, h3, _, hg, _⟩ := rest_is h ha
  have := drop_same h1 hm h3
  subst this
  exact ⟨⟨t, h, hg, rfl, by simpa using hn⟩, h2, Nat.le_refl _, fun x hx => by obtain rfl := List.mem_singleton.1 hx; exact Nat.zero_le _⟩
end Go.Proofs.YtkgmglncdiccfaaDoor
