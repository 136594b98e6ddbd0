/-
  Plain facts on the lines of a configuration: what one line more does; bytes; what a line that begins a section says.
-/
import Derived.Test.YtodlgbihdehmbaaGreatDoorCfgRCP
set_option linter.unusedSimpArgs false
set_option linter.unusedVariables false
namespace Go.Proofs.YtodlgbihdehmbaaGreatDoor.Cf
theorem runV_app : ∀ (L M : List (List Nat)) (out : List Sec), runV out (L ++ M) = if (runV out L).2 = 0 then runV (runV out L).1 M else runV out L
  | [], M, out => rfl
  | s :: L, M, out => by
    have ih := runV_app L M
    rw [List.cons_append, runV_cons, runV_cons]
    by_cases h : (stepV out s).2 = 0
    · rw [if_pos h, if_pos h, ih]
    · rw [if_neg h, if_neg h, if_neg h]
theorem run_next {L : List (List Nat)} {k : Nat} {t : List Nat} (hk : L[k]? = some t) (h0 : (runV [] (L.take k)).2 = 0) (hs : (stepV (runV [] (L.take k)).1 t).2 = 0) :
    (runV [] (L.take (k + 1))).1 = (stepV (runV [] (L.take k)).1 t).1 ∧ (runV [] (L.take (k + 1))).2 = 0 := by
  rw [List.take_add_one, hk]
  show (runV [] (L.take k ++ [t])).1 = _ ∧ (runV [] (L.take k ++ [t])).2 = 0
  rw [runV_snoc]
  unfold nextV
  rw [if_pos h0, if_pos hs]
  exact ⟨rfl, rfl⟩
theorem run_stop {L : List (List Nat)} {k : Nat} {t : List Nat} {e : Int} (hk : L[k]? = some t) (h0 : (runV [] (L.take k)).2 = 0) (hs : (stepV (runV [] (L.take k)).1 t).2 = e) (he : e ≠ 0) : runV [] L = ([], e) := by
  have hkl := (List.getElem?_eq_some_iff.1 hk).1
  have e1 : L = L.take (k + 1) ++ L.drop (k + 1) := (List.take_append_drop _ _).symm
  have e2 : runV [] (L.take (k + 1)) = ([], e) := by
    rw [List.take_add_one, hk]
    show runV [] (L.take k ++ [t]) = _
    rw [runV_snoc]
    unfold nextV
    rw [if_pos h0, hs, if_neg he]
  rw [e1, runV_app, e2, if_neg he]
theorem step_head {out : List Sec} {t n : List Nat} (h : headV t = some n) : stepV out t = if hasV out n = true then ([], 5) else if out.length = 16 then ([], 11) else (out ++ [(n, [])], 0) := by
  unfold stepV; rw [h]
theorem step_none {t : List Nat} (h : headV t = none) : stepV [] t = ([], 7) := by unfold stepV; rw [h]; rfl
theorem step_key {out : List Sec} {x : Sec} {t : List Nat} (h : headV t = none) : stepV (out ++ [x]) t =
    if (cutC t).2 = false then ([], 7) else if (getV x.2 (cutC t).1.1).isSome then ([], 5) else if x.2.length = 16 then ([], 11) else (out ++ [(x.1, x.2 ++ [(cutC t).1])], 0) := by
  unfold stepV
  rw [h]
  simp only [List.getLast?_append, List.getLast?_singleton, Option.or_some, List.dropLast_concat, Option.some_or]
theorem step_wrong {out : List Sec} {t : List Nat} (h : headV t = none) (hc : (cutC t).2 = false) : stepV out t = ([], 7) := by
  rcases List.eq_nil_or_concat out with rfl | ⟨m, x, rfl⟩
  · exact step_none h
  · rw [List.concat_eq_append, step_key h, if_pos hc]
def SecB (L : List Sec) : Prop := ∀ x ∈ L, Byt x.1 ∧ ∀ p ∈ x.2, Byt p.1 ∧ Byt p.2
theorem head_mem {t n : List Nat} (h : headV t = some n) {c : Nat} (hc : c ∈ n) : c ∈ t := by
  unfold headV at h
  split at h
  · obtain rfl := Option.some.inj h
    exact List.mem_of_mem_drop (List.dropLast_subset _ hc)
  · cases h
theorem cutC_byt {t : List Nat} (h : Byt t) : Byt (cutC t).1.1 ∧ Byt (cutC t).1.2 := by
  unfold cutC
  have h0 : Byt [] := fun c hc => nomatch hc
  split
  · exact ⟨h0, h0⟩
  · exact ⟨h0, h0⟩
  · rename_i k _ _ hs
    refine ⟨fun c hc => h c ?_, fun c hc => h c (List.mem_of_mem_drop (blB_mem hc))⟩
    exact spl_mem 61 t k (by rw [hs]; exact List.mem_cons_self) c (blB_mem hc)
theorem step_byt {out : List Sec} {t : List Nat} (ho : SecB out) (ht : Byt t) : SecB (stepV out t).1 := by
  have h0 : SecB [] := fun x hx => nomatch hx
  cases hh : headV t with
  | some n =>
    rw [step_head hh]
    split
    · exact h0
    · split
      · exact h0
      · intro x hx
        rcases List.mem_append.1 hx with hx | hx
        · exact ho x hx
        · obtain rfl := List.mem_singleton.1 hx
          exact ⟨fun c hc => ht c (head_mem hh hc), fun p hp => nomatch hp⟩
  | none =>
    rcases List.eq_nil_or_concat out with rfl | ⟨m, x, rfl⟩
    · rw [step_none hh]; exact h0
    · rw [List.concat_eq_append] at ho ⊢
      rw [step_key hh]
      split
      · exact h0
      · split
        · exact h0
        · split
          · exact h0
          · intro y hy
            rcases List.mem_append.1 hy with hy | hy
            · exact ho y (List.mem_append_left _ hy)
            · obtain rfl := List.mem_singleton.1 hy
              have hx := ho x (List.mem_append_right _ (List.mem_singleton.2 rfl))
              refine ⟨hx.1, fun p hp => ?_⟩
              rcases List.mem_append.1 hp with hp | hp
              · exact hx.2 p hp
              · obtain rfl := List.mem_singleton.1 hp
                exact cutC_byt ht
theorem run_byt : ∀ (L : List (List Nat)) {out : List Sec}, SecB out → (∀ t ∈ L, Byt t) → SecB (runV out L).1
  | [], out, h, _ => h
  | s :: L, out, h, hL => by
    unfold runV
    split
    · exact run_byt L (step_byt h (hL s List.mem_cons_self)) fun t ht => hL t (List.mem_cons_of_mem _ ht)
    · exact fun x hx => nomatch hx
theorem lines_byt {l : List Nat} (h : Byt l) : ∀ t ∈ linesV l, Byt t := fun t ht c hc => by
  unfold linesV keepV at ht
  obtain ⟨h1, _⟩ := List.mem_filter.1 ht
  obtain ⟨p, hp, rfl⟩ := List.mem_map.1 h1
  exact h c (spl_mem 10 l p hp c (lnV_mem hc))
theorem run_ok {l : List Nat} (h : Byt l) (k : Nat) : Few (runV [] ((linesV l).take k)).1 ∧ SecB (runV [] ((linesV l).take k)).1 :=
  ⟨run_few _ ⟨Nat.zero_le _, fun x hx => nomatch hx⟩, run_byt _ (fun x hx => nomatch hx) fun t ht => lines_byt h t (List.mem_of_mem_take ht)⟩
/-- What a line that begins a section says. -/
theorem head_yes {t : List Nat} (h1 : 2 ≤ t.length) (h2 : byteAt t 0 = 91) (h3 : lastB t = 93) (h4 : namedV ((t.drop 1).dropLast) = true) : headV t = some ((t.drop 1).dropLast) := if_pos ⟨h1, h2, h3, h4⟩
theorem head_no {t : List Nat} (h : ¬ (2 ≤ t.length ∧ byteAt t 0 = 91 ∧ lastB t = 93 ∧ namedV ((t.drop 1).dropLast) = true)) : headV t = none := if_neg h
end Go.Proofs.YtodlgbihdehmbaaGreatDoor.Cf
