/-
  Plain facts on segments: records in frames, written and scanned, for the statements of layer 8. Nothing of the program is imported.
-/
import Derived.Test.YtabbpgnenmpacaaDoorSegMath
set_option linter.unusedSimpArgs false
set_option linter.unusedVariables false
namespace Go.Proofs.YtabbpgnenmpacaaDoor
/-- A right record's frame. -/
def rFrm (r : PR) : List Nat := fFrm (rBytes r)
/-- A record's frame, and the refusal. -/
def rFrame (r : PR) : List Nat × Int := if rRight r = true then (rFrm r, 0) else ([], 1)
/-- A record that may stand behind a head. -/
def rIn (r : PR) : Bool := rRight r && decide (r.kind ≠ 1)
def rHead (r : PR) : Bool := rRight r && decide (r.kind = 1)
def sFlat (l : List PR) : List Nat := l.flatMap rFrm
def sWrite (h : PR) (l : List PR) : List Nat × Int := if rHead h = true ∧ l.all rIn = true then (rFrm h ++ sFlat l, 0) else ([], 1)
/-- The record of the frame that bytes begin with, how many bytes that has, and whether there is one. -/
def sOne (b : List Nat) : PR × Nat × Bool := if (fTake b).2.2 = 0 ∧ (rTake (fTake b).1).2 = 0 then ((rTake (fTake b).1).1, (fTake b).2.1, true) else (PR.zero, 0, false)
def sCutK : Nat → List Nat → List PR × Nat
  | 0, _ => ([], 0)
  | k + 1, b => if (sOne b).2.2 = true ∧ (sOne b).1.kind ≠ 1 then ((sOne b).1 :: (sCutK k (b.drop (sOne b).2.1)).1, (sOne b).2.1 + (sCutK k (b.drop (sOne b).2.1)).2) else ([], 0)
/-- The records that bytes begin with, frame by frame. -/
def sCut (b : List Nat) : List PR × Nat := sCutK b.length b
/-- The head, what stands behind it, how many bytes, and the refusal. -/
def sScan (b : List Nat) : PR × List PR × Nat × Int :=
  if (sOne b).2.2 = true ∧ (sOne b).1.kind = 1 then ((sOne b).1, (sCut (b.drop (sOne b).2.1)).1, (sOne b).2.1 + (sCut (b.drop (sOne b).2.1)).2, 0) else (PR.zero, [], 0, 7)
theorem sOne_size {b : List Nat} (h : (sOne b).2.2 = true) : 7 ≤ (sOne b).2.1 ∧ (sOne b).2.1 ≤ b.length ∧ (sOne b).2.1 ≤ 518 := by
  by_cases hc : (fTake b).2.2 = 0 ∧ (rTake (fTake b).1).2 = 0
  · have e : sOne b = ((rTake (fTake b).1).1, (fTake b).2.1, true) := if_pos hc
    rw [e]
    exact fTake_size hc.1
  · have e : sOne b = (PR.zero, 0, false) := if_neg hc
    rw [e] at h
    cases h
theorem sCutK_fuel : ∀ (k : Nat) (b : List Nat), b.length ≤ k → sCutK k b = sCut b := by
  intro k
  induction k using Nat.strongRecOn with
  | ind k ih =>
    intro b hb
    rcases Nat.lt_or_ge b.length k with hlt | hge
    · have h0 : sCutK k b = sCutK b.length b := by
        cases k with
        | zero => omega
        | succ k =>
          cases hm : b.length with
          | zero =>
            have hb0 : b = [] := List.eq_nil_of_length_eq_zero hm
            subst hb0
            rfl
          | succ m =>
            show (if (sOne b).2.2 = true ∧ (sOne b).1.kind ≠ 1 then _ else _) = (if (sOne b).2.2 = true ∧ (sOne b).1.kind ≠ 1 then _ else _)
            by_cases h : (sOne b).2.2 = true ∧ (sOne b).1.kind ≠ 1
            · rw [if_pos h, if_pos h]
              have hz := sOne_size h.1
              have e1 : (b.drop (sOne b).2.1).length ≤ m := by rw [List.length_drop]; omega
              have g1 := ih k (by omega) (b.drop (sOne b).2.1) (by omega)
              have g2 := ih m (by omega) (b.drop (sOne b).2.1) e1
              rw [g1, g2]
            · rw [if_neg h, if_neg h]
      exact h0
    · obtain rfl : k = b.length := by omega
      rfl
theorem sCut_yes {b : List Nat} (h : (sOne b).2.2 = true ∧ (sOne b).1.kind ≠ 1) : sCut b = ((sOne b).1 :: (sCut (b.drop (sOne b).2.1)).1, (sOne b).2.1 + (sCut (b.drop (sOne b).2.1)).2) := by
  have hz := sOne_size h.1
  obtain ⟨m, hm⟩ : ∃ m, b.length = m + 1 := ⟨b.length - 1, by omega⟩
  have e1 : (b.drop (sOne b).2.1).length ≤ m := by rw [List.length_drop]; omega
  rw [← sCutK_fuel m _ e1]
  show sCutK b.length b = _
  rw [hm]
  show (if (sOne b).2.2 = true ∧ (sOne b).1.kind ≠ 1 then _ else _) = _
  rw [if_pos h]
theorem sCut_no {b : List Nat} (h : ¬ ((sOne b).2.2 = true ∧ (sOne b).1.kind ≠ 1)) : sCut b = ([], 0) := by
  unfold sCut
  cases b.length with
  | zero => rfl
  | succ m =>
    show (if (sOne b).2.2 = true ∧ (sOne b).1.kind ≠ 1 then _ else _) = _
    rw [if_neg h]
/-- What has been scanned so far, and what is left: the state of the loop. -/
def ScanSt (b : List Nat) (a0 : Nat) (acc : List PR) (at' : Nat) : Prop := a0 ≤ at' ∧ at' ≤ b.length ∧ 7 * acc.length ≤ at' ∧ (sCut (b.drop a0)).1 = acc ++ (sCut (b.drop at')).1 ∧ a0 + (sCut (b.drop a0)).2 = at' + (sCut (b.drop at')).2
theorem ScanSt.start {b : List Nat} {a0 : Nat} (h : a0 ≤ b.length) : ScanSt b a0 [] a0 := ⟨Nat.le_refl _, h, Nat.zero_le _, rfl, rfl⟩
theorem ScanSt.next {b : List Nat} {a0 : Nat} {acc : List PR} {at' : Nat} (h : ScanSt b a0 acc at') (h0 : (sOne (b.drop at')).2.2 = true ∧ (sOne (b.drop at')).1.kind ≠ 1) : ScanSt b a0 (acc ++ [(sOne (b.drop at')).1]) (at' + (sOne (b.drop at')).2.1) := by
  obtain ⟨h1, h2, h3, h4, h5⟩ := h
  have hz := sOne_size h0.1
  rw [List.length_drop] at hz
  have hy := sCut_yes h0
  rw [List.drop_drop] at hy
  refine ⟨by omega, by omega, by rw [List.length_append, List.length_singleton]; omega, ?_, ?_⟩
  · rw [h4, hy, List.append_assoc, List.singleton_append]
  · rw [h5, hy, Nat.add_assoc]
theorem ScanSt.stop {b : List Nat} {a0 : Nat} {acc : List PR} {at' : Nat} (h : ScanSt b a0 acc at') (h0 : ¬ ((sOne (b.drop at')).2.2 = true ∧ (sOne (b.drop at')).1.kind ≠ 1)) : (sCut (b.drop a0)).1 = acc ∧ a0 + (sCut (b.drop a0)).2 = at' := by
  obtain ⟨_, _, _, h4, h5⟩ := h
  rw [sCut_no h0] at h4 h5
  exact ⟨by rw [h4, List.append_nil], h5⟩
/-! ### There and back, torn -/
theorem rFrm_ok {r : PR} (h : rRight r = true) : fOk (rBytes r) := by
  have := rBytes_len h
  exact ⟨by omega, by omega⟩
theorem rFrm_length {r : PR} : (rFrm r).length = (rBytes r).length + 6 := fFrm_length _
theorem sOne_frm {r : PR} {R : List Nat} (h : rRight r = true) (hv : vOk r) : sOne (rFrm r ++ R) = (r, (rFrm r).length, true) := by
  have h1 := fTake_frm (p := rBytes r) (R := R) (rFrm_ok h)
  unfold sOne rFrm
  rw [h1]
  show (if (0 : Int) = 0 ∧ (rTake (rBytes r)).2 = 0 then ((rTake (rBytes r)).1, (rBytes r).length + 6, true) else _) = _
  rw [rTake_put h hv, if_pos ⟨rfl, rfl⟩, fFrm_length]
theorem sOne_part {r : PR} {R : List Nat} (h : rRight r = true) {e : Nat} (he : e < (rFrm r).length) : (sOne ((rFrm r ++ R).take e)).2.2 = false := by
  rw [rFrm_length] at he
  have h1 := fTake_part (p := rBytes r) (R := R) (rFrm_ok h) he
  unfold sOne
  have e1 : (fTake ((rFrm r ++ R).take e)) = ([], 0, 9) := h1
  rw [e1, if_neg (fun h => absurd h.1 (by decide))]
theorem rIn_iff {r : PR} : rIn r = true ↔ rRight r = true ∧ r.kind ≠ 1 := by unfold rIn; rw [Bool.and_eq_true, decide_eq_true_eq]
theorem rHead_iff {r : PR} : rHead r = true ↔ rRight r = true ∧ r.kind = 1 := by unfold rHead; rw [Bool.and_eq_true, decide_eq_true_eq]
def sSz (l : List PR) : Nat := (sFlat l).length
theorem sFlat_cons (r : PR) (l : List PR) : sFlat (r :: l) = rFrm r ++ sFlat l := by unfold sFlat; rw [List.flatMap_cons]
theorem sSz_cons (r : PR) (l : List PR) : sSz (r :: l) = (rFrm r).length + sSz l := by unfold sSz; rw [sFlat_cons, List.length_append]
theorem sSz_app (a b : List PR) : sSz (a ++ b) = sSz a + sSz b := by unfold sSz sFlat; rw [List.flatMap_append, List.length_append]
theorem sSz_take (l : List PR) (k : Nat) : sSz (l.take k) ≤ sSz l := by
  have h := sSz_app (l.take k) (l.drop k)
  rw [List.take_append_drop] at h
  omega
theorem sCut_part : ∀ (i : Nat) {l : List PR} {e : Nat}, (∀ r ∈ l, rIn r = true ∧ vOk r) → i ≤ l.length → sSz (l.take i) ≤ e → (i < l.length → e < sSz (l.take (i + 1))) → sCut ((sFlat l).take e) = (l.take i, sSz (l.take i))
  | 0, [], e, _, _, _, _ => by
    show sCut (([] : List Nat).take e) = ([], 0)
    rw [List.take_nil]; rfl
  | 0, r :: l, e, hok, _, _, hlt => by
    have h1 : e < sSz [r] := hlt (by simp)
    rw [sSz_cons] at h1
    have h0 : sSz ([] : List PR) = 0 := rfl
    rw [sFlat_cons]
    show _ = ([], 0)
    refine sCut_no (fun h => ?_)
    rw [sOne_part (rIn_iff.1 (hok r List.mem_cons_self).1).1 (by omega)] at h
    cases h.1
  | i + 1, [], e, _, hi, _, _ => by simp at hi
  | i + 1, r :: l, e, hok, hi, hs, hlt => by
    have hs' : sSz (r :: l.take i) ≤ e := hs
    rw [sSz_cons] at hs'
    have hr := hok r List.mem_cons_self
    have hr1 := rIn_iff.1 hr.1
    obtain ⟨e', rfl⟩ : ∃ e', e = (rFrm r).length + e' := ⟨e - (rFrm r).length, by omega⟩
    have ht : (sFlat (r :: l)).take ((rFrm r).length + e') = rFrm r ++ (sFlat l).take e' := by
      rw [sFlat_cons, List.take_append, List.take_of_length_le (by omega), Nat.add_sub_cancel_left]
    have ho := sOne_frm (R := (sFlat l).take e') hr1.1 hr.2
    have ih := sCut_part i (l := l) (e := e') (fun x hx => hok x (List.mem_cons_of_mem _ hx)) (by simpa using hi) (by omega) (fun h => by
      have h2 : (rFrm r).length + e' < sSz (r :: l.take (i + 1)) := hlt (by simpa using h)
      rw [sSz_cons] at h2
      omega)
    have hd : (rFrm r ++ (sFlat l).take e').drop (rFrm r).length = (sFlat l).take e' := List.drop_left
    rw [ht, sCut_yes (by rw [ho]; exact ⟨rfl, hr1.2⟩), ho]
    simp only [hd, ih]
    show (r :: l.take i, (rFrm r).length + sSz (l.take i)) = (r :: l.take i, sSz (r :: l.take i))
    rw [sSz_cons]
/-- Of a beginning of a segment that has its head just the whole records are scanned. -/
theorem sScan_part {h : PR} {l : List PR} (hh : rHead h = true) (hv : vOk h) (hok : ∀ r ∈ l, rIn r = true ∧ vOk r) (i e : Nat) (hi : i ≤ l.length) (hs : (rFrm h).length + sSz (l.take i) ≤ e) (hlt : i < l.length → e < (rFrm h).length + sSz (l.take (i + 1))) :
    sScan ((rFrm h ++ sFlat l).take e) = (h, l.take i, (rFrm h).length + sSz (l.take i), 0) := by
  have h1 := rHead_iff.1 hh
  obtain ⟨e', rfl⟩ : ∃ e', e = (rFrm h).length + e' := ⟨e - (rFrm h).length, by omega⟩
  have ht : (rFrm h ++ sFlat l).take ((rFrm h).length + e') = rFrm h ++ (sFlat l).take e' := by
    rw [List.take_append, List.take_of_length_le (by omega), Nat.add_sub_cancel_left]
  have ho := sOne_frm (R := (sFlat l).take e') h1.1 hv
  have hd : (rFrm h ++ (sFlat l).take e').drop (rFrm h).length = (sFlat l).take e' := List.drop_left
  have hc := sCut_part i (l := l) (e := e') hok hi (by omega) (fun g => by have := hlt g; omega)
  unfold sScan
  rw [ht, ho, if_pos ⟨rfl, h1.2⟩]
  simp only [hd, hc]
/-- Of a beginning that hasn't its head nothing is. -/
theorem sScan_none {h : PR} {R : List Nat} (hh : rHead h = true) {e : Nat} (he : e < (rFrm h).length) : sScan ((rFrm h ++ R).take e) = (PR.zero, [], 0, 7) := by
  unfold sScan
  rw [sOne_part (rHead_iff.1 hh).1 he, if_neg (fun h => absurd h.1 (by decide))]
theorem sScan_all {h : PR} {l : List PR} (hh : rHead h = true) (hv : vOk h) (hok : ∀ r ∈ l, rIn r = true ∧ vOk r) : sScan (rFrm h ++ sFlat l) = (h, l, (rFrm h ++ sFlat l).length, 0) := by
  have g := sScan_part hh hv hok l.length (rFrm h ++ sFlat l).length (Nat.le_refl _) (by rw [List.take_length, List.length_append]; exact Nat.le_refl _) (fun g => absurd g (Nat.lt_irrefl _))
  rw [List.take_length, List.take_length] at g
  rw [g, List.length_append]
  rfl
end Go.Proofs.YtabbpgnenmpacaaDoor
