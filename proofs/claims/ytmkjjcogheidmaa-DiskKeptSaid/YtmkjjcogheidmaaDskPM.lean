/-
  Plain facts on what a move makes of a list of names, by places; own rows of names through steps.
-/
import Derived.Test.YtmkjjcogheidmaaDskPI
set_option linter.unusedSimpArgs false
set_option linter.unusedVariables false
namespace Go.Proofs.Ytmkjjcogheidmaa
open Go.RowKit
theorem nIns_at {n : PN} : ∀ {l : List PN}, NS l → ¬ nHas n.name l → nIns n l = l.take (nAt n.name l) ++ n :: l.drop (nAt n.name l)
  | [], _, _ => by simp [nIns, nAt]
  | y :: r, hs, hn => by
    have h2 := List.pairwise_cons.1 hs
    have hyn : y.name ≠ n.name := fun e => hn ⟨y, List.mem_cons_self, e⟩
    unfold nIns
    by_cases h : slt n.name y.name
    · have e : nAt n.name (y :: r) = 0 := by
        unfold nAt
        rw [List.countP_eq_zero]
        intro z hz hc
        have hc := of_decide_eq_true hc
        rcases List.mem_cons.1 hz with rfl | hz
        · exact slt_asymm h hc
        · exact slt_asymm (slt_trans h (h2.1 z hz)) hc
      rw [if_pos h, e]
      rfl
    · have hy : slt y.name n.name := slt_total h (fun e => hyn e.symm)
      have e : nAt n.name (y :: r) = nAt n.name r + 1 := by unfold nAt; rw [List.countP_cons_of_pos (by simpa using hy)]
      rw [if_neg h, e, nIns_at h2.2 (fun ⟨x, hx, e⟩ => hn ⟨x, List.mem_cons_of_mem _ hx, e⟩)]
      rfl
theorem nDel_none {s : ByteArray} {l : List PN} (h : ¬ nHas s l) : nDel s l = l := by
  unfold nDel
  rw [List.filter_eq_self]
  intro x hx
  simpa using fun e => h ⟨x, hx, e⟩
theorem nDel_at {s : ByteArray} : ∀ {l : List PN}, NS l → nHas s l → nDel s l = l.take (nAt s l) ++ l.drop (nAt s l + 1)
  | [], _, h => by obtain ⟨x, hx, _⟩ := h; simp at hx
  | y :: r, hs, hn => by
    have h2 := List.pairwise_cons.1 hs
    by_cases h : y.name = s
    · have e : nAt s (y :: r) = 0 := by
        unfold nAt
        rw [List.countP_eq_zero]
        intro z hz hc
        have hc := of_decide_eq_true hc
        rcases List.mem_cons.1 hz with rfl | hz
        · rw [h] at hc; exact slt_irrefl _ hc
        · have := h2.1 z hz; rw [h] at this; exact slt_asymm this hc
      have hr : ¬ nHas s r := fun ⟨x, hx, ex⟩ => by have := h2.1 x hx; rw [h, ex] at this; exact slt_irrefl _ this
      rw [e]
      show nDel s (y :: r) = r
      unfold nDel
      rw [List.filter_cons_of_neg (by simpa using h)]
      exact nDel_none hr
    · obtain ⟨x, hx, ex⟩ := hn
      have hxr : x ∈ r := (List.mem_cons.1 hx).resolve_left fun e => h (by rw [← e]; exact ex)
      have hy : slt y.name s := by have := h2.1 x hxr; rwa [ex] at this
      have e : nAt s (y :: r) = nAt s r + 1 := by unfold nAt; rw [List.countP_cons_of_pos (by simpa using hy)]
      rw [e]
      unfold nDel
      rw [List.filter_cons_of_pos (by simpa using h)]
      have := nDel_at h2.2 ⟨x, hxr, ex⟩
      unfold nDel at this
      rw [this]
      rfl
theorem nId_at {s : ByteArray} {l : List PN} (h : NS l) {x : PN} (hx : l[nAt s l]? = some x) (e : x.name = s) : nId s l = x.id := by
  obtain ⟨y, hy, ey, hi⟩ := nId_of (⟨x, List.mem_of_getElem? hx, e⟩ : nHas s l)
  rw [hi]
  have h1 : x = y := by
    obtain ⟨k, hk⟩ := List.getElem?_of_mem hy
    obtain ⟨z, hz, ez⟩ := (nHas_iff h).1 ⟨y, hy, ey⟩
    have h2 : ¬ k < nAt s l := fun hc => by have := (nAt_iff h hk).2 hc; rw [ey] at this; exact slt_irrefl _ this
    rcases Nat.lt_or_ge (nAt s l) k with h3 | h3
    · have := (List.pairwise_iff_getElem.1 h) _ _ (Nat.lt_trans h3 (List.getElem?_eq_some_iff.1 hk).1) (List.getElem?_eq_some_iff.1 hk).1 h3
      rw [(List.getElem?_eq_some_iff.1 hk).2, (List.getElem?_eq_some_iff.1 hx).2, e, ey] at this
      exact absurd this (slt_irrefl _)
    · have : k = nAt s l := by omega
      rw [this, hx] at hk
      exact Option.some.inj hk
  rw [h1]
/-- The name stands: another number in its stead. -/
theorem put_at {t : ByteArray} {i : Nat} {l : List PN} (h : NS l) (ht : nHas t l) : nIns ⟨t, i⟩ (nDel t l) = l.take (nAt t l) ++ ⟨t, i⟩ :: l.drop (nAt t l + 1) := by
  have hd := nDel_at h ht
  have e : nAt t (nDel t l) = nAt t l := by
    unfold nAt nDel
    rw [List.countP_filter]
    apply List.countP_congr
    intro x hx
    simp
    intro hc e
    rw [e] at hc
    exact slt_irrefl _ hc
  rw [nIns_at (h.nDel t) (not_has_del t l)]
  show (nDel t l).take (nAt t (nDel t l)) ++ _ :: (nDel t l).drop (nAt t (nDel t l)) = _
  rw [e, hd]
  obtain ⟨x, hx, _⟩ := (nHas_iff h).1 ht
  have hlt := (List.getElem?_eq_some_iff.1 hx).1
  have hl : (l.take (nAt t l)).length = nAt t l := by rw [List.length_take]; omega
  rw [List.take_append_of_le_length (by omega), List.take_of_length_le (by omega), List.drop_append_of_le_length (by omega), List.drop_of_length_le (by omega)]
  rfl
/-! ### Cells of names -/
theorem cN_take (l : List PN) (k : Nat) : (l.flatMap cN).take (k * 2) = (l.take k).flatMap cN := by
  induction l generalizing k with
  | nil => simp
  | cons x r ih =>
    cases k with
    | zero => simp
    | succ k => rw [List.take_succ_cons, List.flatMap_cons, List.flatMap_cons, ← ih k, Nat.succ_mul]; rfl
theorem cN_drop (l : List PN) (k : Nat) : (l.flatMap cN).drop (k * 2) = (l.drop k).flatMap cN := by
  induction l generalizing k with
  | nil => simp
  | cons x r ih =>
    cases k with
    | zero => simp
    | succ k => rw [List.drop_succ_cons, List.flatMap_cons, ← ih k, Nat.succ_mul]; rfl
theorem cN_one (l : List PN) : ∀ u ∈ l.flatMap cN, u.oneCell' = true := by
  intro u hu
  obtain ⟨x, _, hx⟩ := List.mem_flatMap.1 hu
  simp [cN] at hx
  rcases hx with rfl | rfl <;> rfl
theorem grown_of_below {w w' : World} (hb : Below w.heap.size w w') (row : Option Nat) : w.grownBy w' row := ⟨hb.os, hb.tape, hb.output, hb.size, fun k hk _ => hb.block k hk⟩
theorem own_below {w w' : World} {base : Nat} {e : TypeId} {k n : Nat} {v : Value} {xs : List Value} (h : w.ownsRow base e k v n xs) (hb : Below w.heap.size w w') : w'.ownsRow base e k v n xs := h.kept (grown_of_below hb none) (by cases v.ownBlock <;> simp)
theorem Lies.trans {a b : World} {v v1 v2 : Value} (h : Lies a v v1) (k : Lies b v1 v2) (hs : a.heap.size ≤ b.heap.size) : Lies a v v2 := by
  rcases k with k | ⟨g, k, hg⟩
  · rcases h with h | ⟨g, h, hg⟩
    · exact .inl (k.trans h)
    · exact .inr ⟨g, k.trans h, hg⟩
  · exact .inr ⟨g, k, Nat.le_trans hs hg⟩
theorem Lies.refl (a : World) (v : Value) : Lies a v v := .inl rfl
theorem Lies.of {a b : World} {v v' : Value} (h : Lies b v v') (hs : a.heap.size ≤ b.heap.size) : Lies a v v' := (Lies.refl a v).trans h hs
/-- Two steps on a row that moves. -/
theorem grown_two {a b c : World} {v v1 : Value} (h : a.grownBy b v.ownBlock) (hl : Lies a v v1) (k : b.grownBy c v1.ownBlock) : a.grownBy c v.ownBlock := by
  refine ⟨k.os.trans h.os, k.tape.trans h.tape, k.output.trans h.output, Nat.le_trans h.size k.size, fun i hi hne => ?_⟩
  refine (k.block i (Nat.lt_of_lt_of_le hi h.size) fun e => ?_).trans (h.block i hi hne)
  rcases hl with hl | ⟨g, hl, hg⟩
  · exact hne (e.trans hl)
  · rw [hl] at e
    injection e with e
    omega
theorem grown_cells {w w' : World} {row : Option Nat} (hg : w.grownBy w' row) {b : Nat} (hb : b < w.heap.size) (hr : some b ≠ row) : (∀ o, w'.cell? ⟨b, o, none⟩ = w.cell? ⟨b, o, none⟩) ∧ (∀ o, w'.frozen? ⟨b, o, none⟩ = w.frozen? ⟨b, o, none⟩) :=
  ⟨fun o => World.cell?_of_block (hg.block b hb hr), fun o => World.frozen?_of_block (hg.block b hb hr)⟩
theorem own_lt {w : World} {base : Nat} {e : TypeId} {k n : Nat} {v : Value} {xs : List Value} (h : w.ownsRow base e k v n xs) {b : Nat} (hb : w.heap.size ≤ b) : v.ownBlock ≠ some b := fun e1 => by have := (h.lt b e1).2; omega
theorem own_form {w : World} {base : Nat} {e : TypeId} {k n : Nat} {v : Value} {xs : List Value} (h : w.ownsRow base e k v n xs) : ∃ A c, v = .slice A n c ∧ n ≤ c ∧ c ≤ maxLen := by
  rcases h.2 with ⟨rfl, h0⟩ | ⟨g, cap, cur, rfl, _, _, hnc, hcm, _⟩
  · exact ⟨none, 0, by rw [h0], by omega, by unfold maxLen; omega⟩
  · exact ⟨_, cap, rfl, hnc, hcm⟩
end Go.Proofs.Ytmkjjcogheidmaa
