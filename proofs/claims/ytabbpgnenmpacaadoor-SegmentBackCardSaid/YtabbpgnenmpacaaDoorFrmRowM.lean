/-
  Plain facts on frames, for the statements of layer 7: bytes are numbers below 256 in a list. Nothing of the program is imported.
-/
import Derived.Test.YtabbpgnenmpacaaDoorCrcGM
import Derived.Test.YtabbpgnenmpacaaDoorCrcRefM
set_option linter.unusedSimpArgs false
set_option linter.unusedVariables false
namespace Go.Proofs.YtabbpgnenmpacaaDoor
/-- What a frame's sum is of. -/
def fBody (p : List Nat) : List Nat := (p.length % 256) :: (p.length / 256 % 256) :: p
def fFrm (p : List Nat) : List Nat := cPut (fBody p)
def fOk (p : List Nat) : Prop := 1 ≤ p.length ∧ p.length ≤ 512
/-- A payload's frame, and the refusal. -/
def fPut (p : List Nat) : List Nat × Int := if p.length = 0 then ([], 1) else if 512 < p.length then ([], 12) else (fFrm p, 0)
/-- How many bytes a frame says that its payload has. -/
def fLen (b : List Nat) : Nat := b.getD 0 0 + 256 * b.getD 1 0
/-- The payload, how many bytes the frame has, and the refusal. -/
def fTake (b : List Nat) : List Nat × Nat × Int :=
  if b.length < 2 then ([], 0, 9) else if fLen b < 1 ∨ 512 < fLen b then ([], 0, 7) else if b.length < fLen b + 6 then ([], 0, 9) else
  if (cChk (b.take (fLen b + 6))).2 = 0 then ((cChk (b.take (fLen b + 6))).1.drop 2, fLen b + 6, 0) else ([], 0, 8)
def fCutK : Nat → List Nat → List (List Nat) × Nat
  | 0, _ => ([], 0)
  | k + 1, b => if (fTake b).2.2 = 0 then ((fTake b).1 :: (fCutK k (b.drop (fTake b).2.1)).1, (fTake b).2.1 + (fCutK k (b.drop (fTake b).2.1)).2) else ([], 0)
/-- The payloads that bytes begin with, and how many bytes their frames have. -/
def fCut (b : List Nat) : List (List Nat) × Nat := fCutK b.length b
def fJoin : List (List Nat) → List Nat × Int
  | [] => ([], 0)
  | p :: l => if (fPut p).2 = 0 then (if (fJoin l).2 = 0 then ((fPut p).1 ++ (fJoin l).1, 0) else ([], (fJoin l).2)) else ([], (fPut p).2)
/-- How many bytes the frames have. -/
def fSz : List (List Nat) → Nat
  | [] => 0
  | p :: l => (p.length + 6) + fSz l
theorem cPut_length (l : List Nat) : (cPut l).length = l.length + 4 := by unfold cPut; rw [List.length_append, le4_length]
theorem fFrm_length (p : List Nat) : (fFrm p).length = p.length + 6 := by unfold fFrm fBody; rw [cPut_length]; simp
theorem Bytes.cons {a : Nat} {l : List Nat} (ha : a < 256) (hl : Bytes l) : Bytes (a :: l) := fun x hx => by
  rcases List.mem_cons.1 hx with rfl | h
  · exact ha
  · exact hl x h
theorem Bytes.append {a b : List Nat} (ha : Bytes a) (hb : Bytes b) : Bytes (a ++ b) := fun x hx => (List.mem_append.1 hx).elim (ha x) (hb x)
theorem Bytes.takes {a : List Nat} (ha : Bytes a) (k : Nat) : Bytes (a.take k) := fun x hx => ha x (List.mem_of_mem_take hx)
theorem Bytes.drops {a : List Nat} (ha : Bytes a) (k : Nat) : Bytes (a.drop k) := fun x hx => ha x (List.mem_of_mem_drop hx)
theorem fBody_bytes {p : List Nat} (h : Bytes p) : Bytes (fBody p) := Bytes.cons (Nat.mod_lt _ (by decide)) (Bytes.cons (Nat.mod_lt _ (by decide)) h)
theorem cPut_byte {l : List Nat} (h : Bytes l) : Bytes (cPut l) := by unfold cPut; exact h.append (le4_bytes _)
theorem fFrm_bytes {p : List Nat} (h : Bytes p) : Bytes (fFrm p) := cPut_byte (fBody_bytes h)
theorem cChk_two (l : List Nat) (h : 4 ≤ l.length) : ((cChk l).2 = 0 ∧ cPut (l.take (l.length - 4)) = l ∧ (cChk l).1 = l.take (l.length - 4)) ∨ ((cChk l).2 = 8 ∧ cPut (l.take (l.length - 4)) ≠ l ∧ (cChk l).1 = []) := by
  unfold cChk
  rw [if_neg (by omega)]
  by_cases h1 : cPut (l.take (l.length - 4)) = l
  · rw [if_pos h1]; exact Or.inl ⟨rfl, h1, rfl⟩
  · rw [if_neg h1]; exact Or.inr ⟨rfl, h1, rfl⟩
theorem fLen_lt {b : List Nat} (h : Bytes b) : fLen b < 65536 := by
  have g : ∀ i, b.getD i 0 < 256 := fun i => by
    rw [List.getD_eq_getElem?_getD]
    cases hi : b[i]? with
    | none => decide
    | some x => exact h x (List.mem_of_getElem? hi)
  have g0 := g 0
  have g1 := g 1
  unfold fLen
  omega
theorem fLen_head {p R : List Nat} (hp : p.length ≤ 512) : fLen (p.length % 256 :: p.length / 256 % 256 :: R) = p.length := by
  unfold fLen
  simp only [List.getD_cons_zero, List.getD_cons_succ]
  omega
theorem fFrm_form (p : List Nat) : ∃ t, fFrm p = p.length % 256 :: p.length / 256 % 256 :: t ∧ t.length = p.length + 4 := by
  refine ⟨p ++ le4 (cSum (fBody p)), rfl, ?_⟩
  rw [List.length_append, le4_length]
/-- A frame with whatever behind it. -/
theorem fTake_frm {p R : List Nat} (hp : fOk p) : fTake (fFrm p ++ R) = (p, p.length + 6, 0) := by
  obtain ⟨h1, h2⟩ := hp
  have hl := fFrm_length p
  have hL : fLen (fFrm p ++ R) = p.length := by
    obtain ⟨t, ht, _⟩ := fFrm_form p
    rw [ht]
    exact fLen_head h2
  have ht : (fFrm p ++ R).take (p.length + 6) = fFrm p := by rw [← hl]; exact List.take_left
  have hc : cChk (fFrm p) = (fBody p, 0) := cChk_put
  unfold fTake
  rw [hL, ht, hc, if_neg (by rw [List.length_append]; omega), if_neg (by omega), if_neg (by rw [List.length_append]; omega), if_pos rfl]
  rfl
/-- Of what begins a frame, and isn't whole, nothing is taken. -/
theorem fTake_part {p R : List Nat} (hp : fOk p) {e : Nat} (he : e < p.length + 6) : fTake ((fFrm p ++ R).take e) = ([], 0, 9) := by
  obtain ⟨h1, h2⟩ := hp
  have hl := fFrm_length p
  have hle : ((fFrm p ++ R).take e).length = e := by rw [List.length_take, List.length_append]; omega
  unfold fTake
  rw [hle]
  by_cases h : e < 2
  · rw [if_pos h]
  · obtain ⟨e', rfl⟩ : ∃ e', e = e' + 2 := ⟨e - 2, by omega⟩
    have hL : fLen ((fFrm p ++ R).take (e' + 2)) = p.length := by
      obtain ⟨t, ht, _⟩ := fFrm_form p
      rw [ht]
      simp only [List.cons_append, List.take_succ_cons]
      exact fLen_head h2
    rw [hL, if_neg h, if_neg (by omega), if_pos (by omega)]
theorem fTake_size {b : List Nat} (h : (fTake b).2.2 = 0) : 7 ≤ (fTake b).2.1 ∧ (fTake b).2.1 ≤ b.length ∧ (fTake b).2.1 ≤ 518 := by
  revert h
  unfold fTake
  split
  · intro h; cases h
  · split
    · intro h; cases h
    · split
      · intro h; cases h
      · split
        · intro _
          show 7 ≤ fLen b + 6 ∧ fLen b + 6 ≤ b.length ∧ fLen b + 6 ≤ 518
          omega
        · intro h; cases h
theorem fTake_zero {b : List Nat} (h : (fTake b).2.2 ≠ 0) : (fTake b).1 = [] ∧ (fTake b).2.1 = 0 := by
  revert h
  unfold fTake
  split
  · intro _; exact ⟨rfl, rfl⟩
  · split
    · intro _; exact ⟨rfl, rfl⟩
    · split
      · intro _; exact ⟨rfl, rfl⟩
      · split
        · intro h; exact absurd rfl h
        · intro _; exact ⟨rfl, rfl⟩
theorem fTake_len (b : List Nat) : (fTake b).1.length ≤ 512 := by
  unfold fTake
  split
  · simp
  · split
    · simp
    · split
      · simp
      · split
        · rename_i h1 h2 h3 h4
          have h5 := cChk_two (b.take (fLen b + 6)) (by rw [List.length_take]; omega)
          have h6 : (b.take (fLen b + 6)).length = fLen b + 6 := by rw [List.length_take]; omega
          rcases h5 with ⟨_, _, h5⟩ | ⟨h5, _⟩
          · show ((cChk (b.take (fLen b + 6))).1.drop 2).length ≤ 512
            rw [h5, List.length_drop, List.length_take, h6]
            omega
          · rw [h5] at h4; cases h4
        · simp
theorem fCutK_fuel : ∀ (k : Nat) (b : List Nat), b.length ≤ k → fCutK k b = fCut b := by
  intro k
  induction k using Nat.strongRecOn with
  | ind k ih =>
    intro b hb
    rcases Nat.lt_or_ge b.length k with hlt | hge
    · have h0 : fCutK k b = fCutK b.length b := by
        cases k with
        | zero => omega
        | succ k =>
          cases hm : b.length with
          | zero =>
            have hb0 : b = [] := List.eq_nil_of_length_eq_zero hm
            subst hb0
            rfl
          | succ m =>
            show (if (fTake b).2.2 = 0 then _ else _) = (if (fTake b).2.2 = 0 then _ else _)
            by_cases h : (fTake b).2.2 = 0
            · rw [if_pos h, if_pos h]
              have hz := fTake_size h
              have e1 : (b.drop (fTake b).2.1).length ≤ m := by rw [List.length_drop]; omega
              have g1 := ih k (by omega) (b.drop (fTake b).2.1) (by omega)
              have g2 := ih m (by omega) (b.drop (fTake b).2.1) e1
              rw [g1, g2]
            · rw [if_neg h, if_neg h]
      exact h0
    · obtain rfl : k = b.length := by omega
      rfl
theorem fCut_yes {b : List Nat} (h : (fTake b).2.2 = 0) : fCut b = ((fTake b).1 :: (fCut (b.drop (fTake b).2.1)).1, (fTake b).2.1 + (fCut (b.drop (fTake b).2.1)).2) := by
  have hz := fTake_size h
  obtain ⟨m, hm⟩ : ∃ m, b.length = m + 1 := ⟨b.length - 1, by omega⟩
  have e1 : (b.drop (fTake b).2.1).length ≤ m := by rw [List.length_drop]; omega
  rw [← fCutK_fuel m _ e1]
  show fCutK b.length b = _
  rw [hm]
  show (if (fTake b).2.2 = 0 then _ else _) = _
  rw [if_pos h]
theorem fCut_no {b : List Nat} (h : (fTake b).2.2 ≠ 0) : fCut b = ([], 0) := by
  unfold fCut
  cases b.length with
  | zero => rfl
  | succ m =>
    show (if (fTake b).2.2 = 0 then _ else _) = _
    rw [if_neg h]
theorem fCut_le : ∀ (k : Nat) (b : List Nat), b.length ≤ k → (fCut b).2 ≤ b.length ∧ 7 * (fCut b).1.length ≤ (fCut b).2 := by
  intro k
  induction k with
  | zero =>
    intro b hb
    have hb0 : b = [] := List.eq_nil_of_length_eq_zero (by omega)
    subst hb0
    exact ⟨Nat.le_refl _, Nat.le_refl _⟩
  | succ k ih =>
    intro b hb
    by_cases h : (fTake b).2.2 = 0
    · have hz := fTake_size h
      rw [fCut_yes h]
      have g := ih (b.drop (fTake b).2.1) (by rw [List.length_drop]; omega)
      rw [List.length_drop] at g
      simp only [List.length_cons]
      omega
    · rw [fCut_no h]; exact ⟨Nat.zero_le _, Nat.le_refl _⟩
/-- What has been cut so far, and what is left: the state of the loop. -/
def CutSt (b : List Nat) (acc : List (List Nat)) (at' : Nat) : Prop := at' ≤ b.length ∧ 7 * acc.length ≤ at' ∧ fCut b = (acc ++ (fCut (b.drop at')).1, at' + (fCut (b.drop at')).2)
theorem CutSt.start (b : List Nat) : CutSt b [] 0 := ⟨Nat.zero_le _, Nat.le_refl _, by rw [List.drop_zero, Nat.zero_add]; rfl⟩
theorem CutSt.next {b : List Nat} {acc : List (List Nat)} {at' : Nat} (h : CutSt b acc at') (h0 : (fTake (b.drop at')).2.2 = 0) : CutSt b (acc ++ [(fTake (b.drop at')).1]) (at' + (fTake (b.drop at')).2.1) := by
  obtain ⟨h1, h2, h3⟩ := h
  have hz := fTake_size h0
  rw [List.length_drop] at hz
  refine ⟨by omega, by rw [List.length_append, List.length_singleton]; omega, ?_⟩
  rw [h3, fCut_yes h0, List.drop_drop, List.append_assoc, List.singleton_append, Nat.add_assoc]
theorem CutSt.stop {b : List Nat} {acc : List (List Nat)} {at' : Nat} (h : CutSt b acc at') (h0 : (fTake (b.drop at')).2.2 ≠ 0) : fCut b = (acc, at') := by
  obtain ⟨_, _, h3⟩ := h
  rw [h3, fCut_no h0, List.append_nil]
  rfl
/-! ### Joined -/
theorem fPut_two (p : List Nat) : (fOk p ∧ fPut p = (fFrm p, 0)) ∨ (¬ fOk p ∧ (fPut p).2 ≠ 0 ∧ (fPut p).1 = []) := by
  unfold fOk fPut
  by_cases h0 : p.length = 0
  · rw [if_pos h0]; exact Or.inr ⟨by omega, (by decide), rfl⟩
  · rw [if_neg h0]
    by_cases h1 : 512 < p.length
    · rw [if_pos h1]; exact Or.inr ⟨by omega, (by decide), rfl⟩
    · rw [if_neg h1]; exact Or.inl ⟨by omega, rfl⟩
def fFlat (ls : List (List Nat)) : List Nat := ls.flatMap fFrm
theorem fFlat_cons (p : List Nat) (l : List (List Nat)) : fFlat (p :: l) = fFrm p ++ fFlat l := by unfold fFlat; rw [List.flatMap_cons]
theorem fFlat_app (a b : List (List Nat)) : fFlat (a ++ b) = fFlat a ++ fFlat b := by unfold fFlat; rw [List.flatMap_append]
theorem fFlat_length : ∀ ls, (fFlat ls).length = fSz ls
  | [] => rfl
  | p :: l => by rw [fFlat_cons, List.length_append, fFrm_length, fFlat_length l]; rfl
theorem fSz_app : ∀ (a b : List (List Nat)), fSz (a ++ b) = fSz a + fSz b
  | [], b => by show fSz b = 0 + fSz b; omega
  | p :: a, b => by show (p.length + 6) + fSz (a ++ b) = (p.length + 6 + fSz a) + fSz b; rw [fSz_app a b]; omega
theorem fSz_length : ∀ ls : List (List Nat), 6 * ls.length ≤ fSz ls
  | [] => Nat.le_refl _
  | p :: l => by have := fSz_length l; show 6 * (l.length + 1) ≤ (p.length + 6) + fSz l; omega
theorem fSz_take (ls : List (List Nat)) (k : Nat) : fSz (ls.take k) ≤ fSz ls := by
  have h := fSz_app (ls.take k) (ls.drop k)
  rw [List.take_append_drop] at h
  omega
theorem fJoin_ok : ∀ {ls : List (List Nat)}, (∀ p ∈ ls, fOk p) → fJoin ls = (fFlat ls, 0)
  | [], _ => rfl
  | p :: l, h => by
    have hp : fPut p = (fFrm p, 0) := by
      rcases fPut_two p with ⟨_, g⟩ | ⟨g, _⟩
      · exact g
      · exact absurd (h p List.mem_cons_self) g
    have hl := fJoin_ok (ls := l) (fun x hx => h x (List.mem_cons_of_mem _ hx))
    show (if (fPut p).2 = 0 then _ else _) = _
    rw [hp, if_pos rfl, hl, if_pos rfl, fFlat_cons]
theorem fJoin_err : ∀ (k : Nat) {ls : List (List Nat)} {p : List Nat}, ls[k]? = some p → (∀ i q, i < k → ls[i]? = some q → fOk q) → ¬ fOk p → fJoin ls = ([], (fPut p).2)
  | 0, a :: l, p, hk, _, hp => by
    obtain rfl : a = p := by simpa using hk
    rcases fPut_two a with ⟨g, _⟩ | ⟨_, g, _⟩
    · exact absurd g hp
    · show (if (fPut a).2 = 0 then _ else _) = _
      rw [if_neg g]
  | k + 1, a :: l, p, hk, hi, hp => by
    have ha : fPut a = (fFrm a, 0) := by
      rcases fPut_two a with ⟨_, g⟩ | ⟨g, _⟩
      · exact g
      · exact absurd (hi 0 a (by omega) rfl) g
    have hl := fJoin_err k (ls := l) (p := p) (by simpa using hk) (fun i q h1 h2 => hi (i + 1) q (by omega) (by simpa using h2)) hp
    have g : (fPut p).2 ≠ 0 := by
      rcases fPut_two p with ⟨g, _⟩ | ⟨_, g, _⟩
      · exact absurd g hp
      · exact g
    show (if (fPut a).2 = 0 then _ else _) = _
    rw [ha, if_pos rfl, hl, if_neg g]
  | 0, [], p, hk, _, _ => by cases hk
  | k + 1, [], p, hk, _, _ => by cases hk
theorem fJoin_zero {ls : List (List Nat)} (h : (fJoin ls).2 ≠ 0) : (fJoin ls).1 = [] := by
  cases ls with
  | nil => rfl
  | cons p l =>
    revert h
    show (if (fPut p).2 = 0 then (if (fJoin l).2 = 0 then ((fPut p).1 ++ (fJoin l).1, (0 : Int)) else ([], (fJoin l).2)) else ([], (fPut p).2)).2 ≠ 0 → (if (fPut p).2 = 0 then (if (fJoin l).2 = 0 then ((fPut p).1 ++ (fJoin l).1, (0 : Int)) else ([], (fJoin l).2)) else ([], (fPut p).2)).1 = []
    split
    · split
      · intro h; exact absurd rfl h
      · intro _; rfl
    · intro _; rfl
theorem fJoin_all {ls : List (List Nat)} (h : (fJoin ls).2 = 0) : ∀ p ∈ ls, fOk p := by
  induction ls with
  | nil => intro p hp; cases hp
  | cons a l ih =>
    revert h
    show (if (fPut a).2 = 0 then (if (fJoin l).2 = 0 then ((fPut a).1 ++ (fJoin l).1, (0 : Int)) else ([], (fJoin l).2)) else ([], (fPut a).2)).2 = 0 → _
    split
    · rename_i ha
      split
      · rename_i hl
        intro _ p hp
        rcases List.mem_cons.1 hp with rfl | hp
        · rcases fPut_two p with ⟨g, _⟩ | ⟨_, g, _⟩
          · exact g
          · exact absurd ha g
        · exact ih hl p hp
      · rename_i hl
        intro h; exact absurd h hl
    · rename_i ha
      intro h; exact absurd h ha
/-- Of a beginning of joined frames just the whole ones are cut. -/
theorem fCut_part : ∀ (i : Nat) {ls : List (List Nat)} {e : Nat}, (∀ p ∈ ls, fOk p) → i ≤ ls.length → fSz (ls.take i) ≤ e → (i < ls.length → e < fSz (ls.take (i + 1))) → fCut ((fFlat ls).take e) = (ls.take i, fSz (ls.take i))
  | 0, [], e, _, _, _, _ => by
    show fCut (([] : List Nat).take e) = ([], 0)
    rw [List.take_nil]; rfl
  | 0, p :: l, e, hok, _, _, hlt => by
    have h1 : e < (p.length + 6) + 0 := hlt (by simp)
    rw [fFlat_cons]
    show _ = ([], 0)
    refine fCut_no ?_
    rw [fTake_part (hok p List.mem_cons_self) (by omega)]
    decide
  | i + 1, [], e, _, hi, _, _ => by simp at hi
  | i + 1, p :: l, e, hok, hi, hs, hlt => by
    have hs' : (p.length + 6) + fSz (l.take i) ≤ e := hs
    have hp := hok p List.mem_cons_self
    obtain ⟨e', rfl⟩ : ∃ e', e = (p.length + 6) + e' := ⟨e - (p.length + 6), by omega⟩
    have ht : (fFlat (p :: l)).take (p.length + 6 + e') = fFrm p ++ (fFlat l).take e' := by
      rw [fFlat_cons, List.take_append, fFrm_length, List.take_of_length_le (by rw [fFrm_length]; omega), Nat.add_sub_cancel_left]
    have hf := fTake_frm (p := p) (R := (fFlat l).take e') hp
    have ih := fCut_part i (ls := l) (e := e') (fun x hx => hok x (List.mem_cons_of_mem _ hx)) (by simpa using hi) (by omega) (fun h => by
      have h2 : (p.length + 6) + e' < (p.length + 6) + fSz (l.take (i + 1)) := hlt (by simpa using h)
      omega)
    rw [ht, fCut_yes (by rw [hf]), hf]
    have hd : (fFrm p ++ (fFlat l).take e').drop (p.length + 6) = (fFlat l).take e' := by rw [← fFrm_length p]; exact List.drop_left
    simp only [hd, ih]
    rfl
theorem fCut_flat {ls : List (List Nat)} (hok : ∀ p ∈ ls, fOk p) : fCut (fFlat ls) = (ls, fSz ls) := by
  have h := fCut_part ls.length (ls := ls) (e := (fFlat ls).length) hok (Nat.le_refl _) (by rw [List.take_length, fFlat_length]; exact Nat.le_refl _) (fun h => absurd h (Nat.lt_irrefl _))
  rw [List.take_length, List.take_length] at h
  exact h
/-! ### Torn -/
theorem fTake_torn {p : List Nat} (hp : fOk p) (hb : Bytes p) {k by' : Nat} (hk : k < p.length + 4) (hby : by' < 256) (h0 : by' ≠ 0) :
    fTake ((fFrm p).set (2 + k) ((fFrm p).getD (2 + k) 0 ^^^ by')) = ([], 0, 8) := by
  obtain ⟨h1, h2⟩ := hp
  have hl := fFrm_length p
  have hfb := fFrm_bytes hb
  have hx : (fFrm p).getD (2 + k) 0 < 256 := by
    rw [List.getD_eq_getElem?_getD]
    cases hi : (fFrm p)[2 + k]? with
    | none => decide
    | some x => exact hfb x (List.mem_of_getElem? hi)
  have hsplit : fFrm p = (fFrm p).take (2 + k) ++ ([(fFrm p).getD (2 + k) 0] ++ (fFrm p).drop (2 + k + 1)) := by
    have hlt : 2 + k < (fFrm p).length := by omega
    rw [List.getD_eq_getElem?_getD, List.getElem?_eq_getElem hlt, Option.getD_some, List.singleton_append, ← List.drop_eq_getElem_cons hlt, List.take_append_drop]
  have hset : (fFrm p).set (2 + k) ((fFrm p).getD (2 + k) 0 ^^^ by') = (fFrm p).take (2 + k) ++ (List.zipWith (· ^^^ ·) [(fFrm p).getD (2 + k) 0] [by'] ++ (fFrm p).drop (2 + k + 1)) := by
    have hlt : 2 + k < (fFrm p).length := by omega
    rw [List.set_eq_take_append_cons_drop, if_pos hlt]
    rfl
  have htold := fun a (ha : Bytes a) => told (A := (fFrm p).take (2 + k)) (F := [(fFrm p).getD (2 + k) 0]) (Z := (fFrm p).drop (2 + k + 1)) (E := [by']) (a := a)
    (hfb.takes _) (fun x hx' => by rw [List.mem_singleton.1 hx']; exact hx) (hfb.drops _) (fun x hx' => by rw [List.mem_singleton.1 hx']; exact hby) rfl (by simp) ⟨by', by simp, h0⟩ ⟨fBody p, fBody_bytes hb, hsplit.symm⟩ ha
  generalize hs : (fFrm p).set (2 + k) ((fFrm p).getD (2 + k) 0 ^^^ by') = b at *
  rw [← hset] at htold
  have hbl : b.length = p.length + 6 := by rw [← hs, List.length_set, hl]
  have hbb : Bytes b := by
    rw [← hs]
    intro x hx'
    rcases List.mem_or_eq_of_mem_set hx' with h | rfl
    · exact hfb x h
    · exact Nat.xor_lt_two_pow (n := 8) hx hby
  have hL : fLen b = p.length := by
    rw [← hs]
    obtain ⟨t, ht, _⟩ := fFrm_form p
    rw [ht, Nat.add_comm 2 k]
    simp only [List.set_cons_succ]
    exact fLen_head h2
  have htk : b.take (p.length + 6) = b := List.take_of_length_le (by omega)
  unfold fTake
  rw [hL, htk, if_neg (by omega), if_neg (by omega), if_neg (by omega)]
  rcases cChk_two b (by omega) with ⟨_, g, _⟩ | ⟨g, _⟩
  · exact absurd g (htold _ (hbb.takes _))
  · rw [g, if_neg (by decide)]
end Go.Proofs.YtabbpgnenmpacaaDoor
/-
  Rows of rows of bytes in memory, and rows of one's own, for the contracts of layer 7.
-/
set_option linter.unusedSimpArgs false
set_option linter.unusedVariables false
namespace Go.Proofs.YtabbpgnenmpacaaDoor
open Go.RowKit
theorem ByNew.mono {B B' : Nat} {w : World} {v : Value} {l : List Nat} (h : ByNew B' w v l) (hB : B ≤ B') : ByNew B w v l := by
  refine ⟨h.1, ?_⟩
  rcases h.2 with ⟨rfl, h0⟩ | ⟨g, cap, cur, rfl, hb, hr⟩
  · exact Or.inl ⟨rfl, h0⟩
  · exact Or.inr ⟨g, cap, cur, rfl, Nat.le_trans hB hb, hr⟩
theorem ByNew.none (B : Nat) (w : World) : ByNew B w (.slice none 0 0) [] := ⟨rfl, .inl ⟨rfl, rfl⟩⟩
theorem ByOut.none (w : World) : ByOut w (.slice none 0 0) [] := ⟨.none, 0, rfl, Nat.le_refl _, fun h => absurd rfl h⟩
theorem ByOut.drop {w : World} {A : Option Addr} {n c m : Nat} {l : List Nat} (h : ByOut w (.slice A n c) l) (hm : m < n) : ∃ b off, A = some ⟨b, off, .none⟩ ∧ ByOut w (.slice (some ⟨b, off + m, .none⟩) (n - m) (c - m)) (l.drop m) := by
  obtain ⟨A', c', hv, hc, hx⟩ := h
  injection hv with h1 h2 h3
  subst h1 h2 h3
  obtain ⟨b, off, hA, hf⟩ := hx (by intro e; rw [e] at hm; exact absurd hm (Nat.not_lt_zero _))
  refine ⟨b, off, hA, _, c - m, by rw [List.length_drop], by rw [List.length_drop]; omega, fun _ => ⟨b, off + m, rfl, fun i x hi => ?_⟩⟩
  rw [List.getElem?_drop] at hi
  have := hf _ _ hi
  rwa [← Nat.add_assoc] at this
theorem ByOut.dropNil {w : World} {A A' : Option Addr} {n c c' m : Nat} {l : List Nat} (h : ByOut w (.slice A n c) l) (hm : n ≤ m) (w' : World) : ByOut w' (.slice A' 0 c') (l.drop m) := by
  obtain ⟨A0, c0, hv, _, _⟩ := h
  injection hv with h1 h2 h3
  have hd : l.drop m = [] := List.drop_eq_nil_of_le (by omega)
  rw [hd]
  exact ⟨A', c', rfl, Nat.zero_le _, fun h => absurd rfl h⟩
theorem ByOut.dropAt {w : World} {A : Option Addr} {n c m : Nat} {l : List Nat} (h : ByOut w (.slice A n c) l) (hm : m ≤ n) (hc : ¬ c = m) : ByOut w (.slice (Option.map (fun x => x.add m) A) (n - m) (c - m)) (l.drop m) := by
  obtain ⟨A0, c0, hv, hc0, hx⟩ := h
  injection hv with h1 h2 h3
  subst h1 h2 h3
  refine ⟨_, c - m, by rw [List.length_drop], by rw [List.length_drop]; omega, fun hn => ?_⟩
  obtain ⟨b, off, hA, hf⟩ := hx (fun e => hn (by rw [e]; exact List.drop_nil))
  subst hA
  have e : (⟨b, off, .none⟩ : Addr).add m = ⟨b, off + m, .none⟩ := by unfold Addr.add; split <;> simp_all
  refine ⟨b, off + m, by rw [← e]; rfl, fun i x hi => ?_⟩
  rw [List.getElem?_drop] at hi
  have := hf _ _ hi
  rwa [← Nat.add_assoc] at this
/-- A row of rows of bytes. -/
def BsAt (w : World) (b off : Nat) (ls : List (List Nat)) : Prop := ∀ (k : Nat) (l : List Nat), ls[k]? = some l → ∃ u, w.cell? ⟨b, off + k, .none⟩ = some u ∧ ByOut w u l
def BsOut (w : World) (v : Value) (ls : List (List Nat)) : Prop := ∃ A cap, v = .slice A ls.length cap ∧ ls.length ≤ cap ∧ (ls ≠ [] → ∃ b off, A = some ⟨b, off, .none⟩ ∧ BsAt w b off ls)
theorem BsAt.below {w w' : World} {b off : Nat} {ls : List (List Nat)} (h : BsAt w b off ls) (hb : Below w.heap.size w w') : BsAt w' b off ls := fun k l hk => by
  obtain ⟨u, hu, ho⟩ := h k l hk
  exact ⟨u, (hb.cell (World.block_lt_of_cell? w _ hu)).trans hu, ho.below hb⟩
theorem BsOut.below {w w' : World} {v : Value} {ls : List (List Nat)} (h : BsOut w v ls) (hb : Below w.heap.size w w') : BsOut w' v ls := by
  obtain ⟨A, cap, hv, hc, hx⟩ := h
  refine ⟨A, cap, hv, hc, fun hn => ?_⟩
  obtain ⟨b, off, hA, hf⟩ := hx hn
  exact ⟨b, off, hA, hf.below hb⟩
theorem BsOut.nil (w : World) : BsOut w (.slice .none 0 0) [] := ⟨.none, 0, rfl, Nat.le_refl _, fun h => absurd rfl h⟩
theorem BsOut.take {w : World} {A : Option Addr} {n c m : Nat} {ls : List (List Nat)} (h : BsOut w (.slice A n c) ls) (hm : m ≤ n) : BsOut w (.slice A m c) (ls.take m) := by
  obtain ⟨A', c', hv, hc, hx⟩ := h
  injection hv with h1 h2 h3
  subst h1 h2 h3
  have hl : (ls.take m).length = m := by rw [List.length_take]; omega
  refine ⟨A, c, by rw [hl], by omega, fun hn => ?_⟩
  obtain ⟨b, off, hA, hf⟩ := hx (fun e => hn (by rw [e]; simp))
  refine ⟨b, off, hA, fun k l hk => hf k l ?_⟩
  rw [List.getElem?_take] at hk
  split at hk
  · exact hk
  · cases hk
/-- A row of bytes in a block that is not older than B. -/
def ByFrom (B : Nat) (w : World) (v : Value) (l : List Nat) : Prop := ∃ A cap, v = .slice A l.length cap ∧ l.length ≤ cap ∧ (l ≠ [] → ∃ b off, A = some ⟨b, off, .none⟩ ∧ B ≤ b ∧ ByAt w b off l)
theorem ByFrom.out {B : Nat} {w : World} {v : Value} {l : List Nat} (h : ByFrom B w v l) : ByOut w v l := by
  obtain ⟨A, cap, hv, hc, hx⟩ := h
  refine ⟨A, cap, hv, hc, fun hn => ?_⟩
  obtain ⟨b, off, hA, _, hf⟩ := hx hn
  exact ⟨b, off, hA, hf⟩
theorem ByFrom.of {B : Nat} {w : World} {v : Value} {l : List Nat} (h : ByNew B w v l) : ByFrom B w v l := by
  obtain ⟨A, cap, hv, hc, hx⟩ := h.form
  refine ⟨A, cap, hv, hc, fun hn => ?_⟩
  obtain ⟨g, hA, hB, _, hf, _⟩ := hx hn
  exact ⟨g, 0, hA, hB, hf⟩
theorem ByFrom.none (B : Nat) (w : World) : ByFrom B w (.slice .none 0 0) [] := ⟨.none, 0, rfl, Nat.le_refl _, fun h => absurd rfl h⟩
theorem ByFrom.mono {B B' : Nat} {w : World} {v : Value} {l : List Nat} (h : ByFrom B' w v l) (hB : B ≤ B') : ByFrom B w v l := by
  obtain ⟨A, cap, hv, hc, hx⟩ := h
  refine ⟨A, cap, hv, hc, fun hn => ?_⟩
  obtain ⟨b, off, hA, hb, hf⟩ := hx hn
  exact ⟨b, off, hA, Nat.le_trans hB hb, hf⟩
theorem ByFrom.below {B : Nat} {w w' : World} {v : Value} {l : List Nat} (h : ByFrom B w v l) (hb : Below w.heap.size w w') : ByFrom B w' v l := by
  obtain ⟨A, cap, hv, hc, hx⟩ := h
  refine ⟨A, cap, hv, hc, fun hn => ?_⟩
  obtain ⟨b, off, hA, hB, hf⟩ := hx hn
  exact ⟨b, off, hA, hB, hf.below hb⟩
theorem ByFrom.take {B : Nat} {w : World} {A : Option Addr} {n c m c' : Nat} {l : List Nat} (h : ByFrom B w (.slice A n c) l) (hm : m ≤ n) (hc' : m ≤ c') : ByFrom B w (.slice A m c') (l.take m) := by
  obtain ⟨A', c1, hv, hc, hx⟩ := h
  injection hv with h1 h2 h3
  subst h1 h2 h3
  have hl : (l.take m).length = m := by rw [List.length_take]; omega
  refine ⟨A, c', by rw [hl], by omega, fun hn => ?_⟩
  obtain ⟨b, off, hA, hB, hf⟩ := hx (fun e => hn (by rw [e]; simp))
  refine ⟨b, off, hA, hB, fun k x hk => hf k x ?_⟩
  rw [List.getElem?_take] at hk
  split at hk
  · exact hk
  · cases hk
theorem ByFrom.drop {B : Nat} {w : World} {A : Option Addr} {n c m : Nat} {l : List Nat} (h : ByFrom B w (.slice A n c) l) (hm : m < n) : ∃ b off, A = some ⟨b, off, .none⟩ ∧ ByFrom B w (.slice (some ⟨b, off + m, .none⟩) (n - m) (c - m)) (l.drop m) := by
  obtain ⟨A', c', hv, hc, hx⟩ := h
  injection hv with h1 h2 h3
  subst h1 h2 h3
  obtain ⟨b, off, hA, hB, hf⟩ := hx (by intro e; rw [e] at hm; exact absurd hm (Nat.not_lt_zero _))
  refine ⟨b, off, hA, _, c - m, by rw [List.length_drop], by rw [List.length_drop]; omega, fun _ => ⟨b, off + m, rfl, hB, fun i x hi => ?_⟩⟩
  rw [List.getElem?_drop] at hi
  have := hf _ _ hi
  rwa [← Nat.add_assoc] at this
/-- A row of bytes that lies in another block than one. -/
def ByApart (row : Option Nat) (w : World) (v : Value) (l : List Nat) : Prop := ∃ A cap, v = .slice A l.length cap ∧ l.length ≤ cap ∧ (l ≠ [] → ∃ b off, A = some ⟨b, off, .none⟩ ∧ some b ≠ row ∧ ByAt w b off l)
theorem ByApart.out {row : Option Nat} {w : World} {v : Value} {l : List Nat} (h : ByApart row w v l) : ByOut w v l := by
  obtain ⟨A, cap, hv, hc, hx⟩ := h
  refine ⟨A, cap, hv, hc, fun hn => ?_⟩
  obtain ⟨b, off, hA, _, hf⟩ := hx hn
  exact ⟨b, off, hA, hf⟩
theorem ByApart.below {row : Option Nat} {w w' : World} {v : Value} {l : List Nat} (h : ByApart row w v l) (hb : Below w.heap.size w w') : ByApart row w' v l := by
  obtain ⟨A, cap, hv, hc, hx⟩ := h
  refine ⟨A, cap, hv, hc, fun hn => ?_⟩
  obtain ⟨b, off, hA, hB, hf⟩ := hx hn
  exact ⟨b, off, hA, hB, hf.below hb⟩
/-- Behind a growth of that one block, or of a new one. -/
theorem ByApart.grown {row row' : Option Nat} {w w' : World} {v : Value} {l : List Nat} {o : Obj} (h : ByApart row w v l) (hg : (w.alloc o).grownBy w' row) (hat : row' = row ∨ row' = some (w.alloc o).heap.size) : ByApart row' w' v l := by
  obtain ⟨A, cap, hv, hc, hx⟩ := h
  refine ⟨A, cap, hv, hc, fun hn => ?_⟩
  obtain ⟨b, off, hA, hB, hf⟩ := hx hn
  have h0 := List.getElem?_eq_getElem (List.length_pos_iff.2 hn)
  have hlt : b < w.heap.size := World.block_lt_of_cell? w _ (hf 0 _ h0)
  have hs : (w.alloc o).heap.size = w.heap.size + 1 := by simp
  have hk : ∀ off, w'.cell? ⟨b, off, .none⟩ = w.cell? ⟨b, off, .none⟩ := fun off => World.cell?_of_block ((hg.block b (by omega) hB).trans (Below.heap_alloc w o b hlt))
  refine ⟨b, off, hA, ?_, fun i n hi => (hk _).trans (hf i n hi)⟩
  rcases hat with e | e
  · rw [e]; exact hB
  · rw [e]; intro e2; injection e2 with e2; omega
/-- A row of rows of the call's own: the row lies in a block of its own from B on; its rows, in others. -/
def BsNew (B : Nat) (w : World) (v : Value) (ls : List (List Nat)) : Prop := ∃ us : List Value, w.ownsRow B 27 1 v ls.length us ∧ us.length = ls.length ∧ ∀ (k : Nat) (u : Value) (l : List Nat), us[k]? = some u → ls[k]? = some l → ByApart v.ownBlock w u l
theorem BsNew.nil (B : Nat) (w : World) : BsNew B w (.slice .none 0 0) [] := ⟨[], ⟨rfl, .inl ⟨rfl, rfl⟩⟩, rfl, fun k u l h _ => by cases h⟩
theorem ownsRow_lt {B : Nat} {w : World} {e : TypeId} {sz n : Nat} {v : Value} {us : List Value} (h : w.ownsRow B e sz v n us) {g : Nat} (hg : v.ownBlock = some g) : g < w.heap.size := by
  rcases h.2 with ⟨rfl, h0⟩ | ⟨g', cap, cur, rfl, _, hh, _⟩
  · cases hg
  · have : g' = g := by simpa [Value.ownBlock] using hg
    subst this
    rcases Nat.lt_or_ge g' w.heap.size with h | h
    · exact h
    · rw [Array.getElem?_eq_none h] at hh; cases hh
theorem ownsRow_below {B : Nat} {w w' : World} {e : TypeId} {sz n : Nat} {v : Value} {us : List Value} (h : w.ownsRow B e sz v n us) (hb : Below w.heap.size w w') : w'.ownsRow B e sz v n us := by
  refine ⟨h.1, ?_⟩
  rcases h.2 with ⟨rfl, h0⟩ | ⟨g, cap, cur, rfl, hg, hh, hr⟩
  · exact Or.inl ⟨rfl, h0⟩
  · refine Or.inr ⟨g, cap, cur, rfl, hg, ?_, hr⟩
    have hlt : g < w.heap.size := by
      rcases Nat.lt_or_ge g w.heap.size with h | h
      · exact h
      · rw [Array.getElem?_eq_none h] at hh; cases hh
    rw [hb.block g hlt]
    exact hh
theorem BsNew.below {B : Nat} {w w' : World} {v : Value} {ls : List (List Nat)} (h : BsNew B w v ls) (hb : Below w.heap.size w w') : BsNew B w' v ls := by
  obtain ⟨us, h1, h2, h3⟩ := h
  exact ⟨us, ownsRow_below h1 hb, h2, fun k u l hu hl => (h3 k u l hu hl).below hb⟩
theorem ByNew.below {B : Nat} {w w' : World} {v : Value} {l : List Nat} (h : ByNew B w v l) (hb : Below w.heap.size w w') : ByNew B w' v l := ownsRow_below h hb
theorem BsNew.out {B : Nat} {w : World} {v : Value} {ls : List (List Nat)} (h : BsNew B w v ls) : BsOut w v ls := by
  obtain ⟨us, ho, hl, hr⟩ := h
  rcases ho.2 with ⟨rfl, h0⟩ | ⟨g, cap, cur, rfl, hb, hh, hle, _, _, ht⟩
  · exact ⟨.none, 0, by rw [h0], by omega, fun hn => absurd (List.eq_nil_of_length_eq_zero h0) hn⟩
  · refine ⟨_, cap, rfl, hle, fun _ => ⟨g, 0, rfl, fun k l hk => ?_⟩⟩
    have hlt : k < ls.length := (List.getElem?_eq_some_iff.1 hk).1
    have hu : us[k]? = some (us[k]'(by omega)) := List.getElem?_eq_getElem (by omega)
    refine ⟨_, ?_, (hr k _ l hu hk).out⟩
    rw [Nat.zero_add]
    refine (cell_of_row w g k cur _ (0, 0) hh).trans ?_
    have h5 : (cur.toList.take (ls.length * 1))[k]? = some (us[k]'(by omega)) := by rw [ht]; exact hu
    rw [List.getElem?_take, if_pos (by omega)] at h5
    simpa using h5
theorem by_one {w : World} {v : Value} {l : List Nat} (h : ByOut w v l) : v.oneCell' = true := by
  obtain ⟨A, cap, rfl, _⟩ := h
  rfl
theorem ByFrom.apart {N : Nat} {row : Option Nat} {w : World} {v : Value} {l : List Nat} (h : ByFrom N w v l) (hr : ∀ g, row = some g → g < N) : ByApart row w v l := by
  obtain ⟨A, cap, hv, hc, hx⟩ := h
  refine ⟨A, cap, hv, hc, fun hn => ?_⟩
  obtain ⟨b, off, hA, hB, hf⟩ := hx hn
  exact ⟨b, off, hA, fun e => by have := hr b e.symm; omega, hf⟩
theorem BsNew.push {B : Nat} {w w' : World} {v v' x : Value} {us : List Value} {ls : List (List Nat)} {t : List Nat} {o : Obj} (hl : us.length = ls.length)
    (hr : ∀ (k : Nat) (u : Value) (l : List Nat), us[k]? = some u → ls[k]? = some l → ByApart v.ownBlock w u l) (hx : ByApart v.ownBlock w x t) (hg : (w.alloc o).grownBy w' v.ownBlock) (hn : w'.ownsRow B 27 1 v' (ls.length + 1) (us ++ [x]))
    (hat : v'.ownBlock = v.ownBlock ∨ v'.ownBlock = some (w.alloc o).heap.size) : BsNew B w' v' (ls ++ [t]) := by
  refine ⟨us ++ [x], by rw [List.length_append, List.length_singleton]; exact hn, by rw [List.length_append, List.length_append, hl]; rfl, fun k u l hu hk => ?_⟩
  rw [List.getElem?_append] at hu hk
  rcases Nat.lt_or_ge k us.length with h | h
  · rw [if_pos h] at hu
    rw [if_pos (by omega)] at hk
    exact (hr k u l hu hk).grown hg hat
  · rw [if_neg (by omega)] at hu
    rw [if_neg (by omega)] at hk
    have hu2 : x = u := by
      cases hkk : k - us.length with
      | zero => rw [hkk] at hu; simpa using hu
      | succ j => rw [hkk] at hu; simp at hu
    have hl2 : t = l := by
      cases hkk : k - ls.length with
      | zero => rw [hkk] at hk; simpa using hk
      | succ j => rw [hkk] at hk; simp at hk
    subst hu2 hl2
    exact hx.grown hg hat
end Go.Proofs.YtabbpgnenmpacaaDoor
