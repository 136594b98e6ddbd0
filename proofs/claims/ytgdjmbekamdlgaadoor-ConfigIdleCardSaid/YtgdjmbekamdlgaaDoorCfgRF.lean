/-
  Contracts of the document's own functions of layer 11: lists of texts, and of sections, that are the same.
-/
import Derived.Test.YtgdjmbekamdlgaaDoorCfgRC
set_option linter.unusedSimpArgs false
set_option linter.unusedVariables false
namespace Go.Proofs.YtgdjmbekamdlgaaDoor
open Go.RowKit
/-- A row of texts, as it is read. -/
def TxAt (w : World) (b : Nat) (l : List (List Nat)) : Prop := ∀ (k : Nat) (t : List Nat), l[k]? = some t → w.cell? ⟨b, k, none⟩ = some (.string (str t))
def TxOut (w : World) (v : Value) (l : List (List Nat)) : Prop := ∃ A cap, v = .slice A l.length cap ∧ l.length ≤ cap ∧ (l ≠ [] → ∃ b, A = some ⟨b, 0, none⟩ ∧ TxAt w b l)
theorem TxAt.below {w w' : World} {b : Nat} {l : List (List Nat)} (h : TxAt w b l) (hb : Below w.heap.size w w') : TxAt w' b l := fun k t hk => cellb hb (h k t hk)
theorem TxOut.below {w w' : World} {v : Value} {l : List (List Nat)} (h : TxOut w v l) (hb : Below w.heap.size w w') : TxOut w' v l := by
  obtain ⟨A, cap, hv, hc, hx⟩ := h
  refine ⟨A, cap, hv, hc, fun hn => ?_⟩
  obtain ⟨b, hA, hf⟩ := hx hn
  exact ⟨b, hA, hf.below hb⟩
theorem TxNew.out {B : Nat} {w : World} {v : Value} {l : List (List Nat)} (h : TxNew B w v l) : TxOut w v l := by
  obtain ⟨A, c, rfl, hc, hx⟩ := own_form h
  refine ⟨A, c, rfl, hc, fun hn => ?_⟩
  obtain ⟨g, rfl, _, _⟩ := hx (List.length_pos_iff.2 hn)
  exact ⟨g, rfl, fun k t hk => (TxNew.cellAt h hk).1⟩
namespace KR
set_option maxRecDepth 100000 in
set_option maxHeartbeats 1000000 in
theorem texts_c {v1 v2 : Value} {l : List (List Nat)} (hl : l.length ≤ 100000) {w : World} (f1 : TxOut w v1 l) (f2 : TxOut w v2 l) :
    Calls Tryd.prog 9 #[v1, v2] w fun e w' => e = .returned (.bool true) ∧ Below w.heap.size w w' := by
  obtain ⟨A1, c1, rfl, hc1, _⟩ := id f1
  obtain ⟨A2, c2, rfl, hc2, _⟩ := id f2
  have F1 := Lib.hid f1; have F2 := Lib.hid f2
  clear f1 f2
  obtain ⟨n, hn⟩ : ∃ n, l.length = n := ⟨_, rfl⟩
  have HN := Lib.hid hn
  rw [hn] at hl hc1 hc2 F1 F2 ⊢
  clear hn
  go_enter Tryd.func9, Tryd.ntmps9
  go_wp2
  go_loopw [5] (fun i wr => ∃ k : Nat, k ≤ n ∧ i = .int .i64 k ∧ Hid (Below w.heap.size w wr)) (fun i _ => n - (intOf i).toNat)
  case atStart => exact ⟨0, Nat.zero_le _, rfl, Below.refl _ _⟩
  case round =>
    obtain ⟨k, hk, rfl, HI⟩ := hrel
    by_cases hlt : k < n
    · have hkl : k < l.length := by rw [HN.out]; exact hlt
      have hne : l ≠ [] := by intro e; rw [e] at hkl; exact absurd hkl (Nat.not_lt_zero _)
      obtain ⟨A, c, hv, _, hx⟩ := F1.out.below HI.out
      obtain ⟨A', c', hv', _, hx'⟩ := F2.out.below HI.out
      injection hv with e1 _ _; subst e1
      injection hv' with e1 _ _; subst e1
      obtain ⟨b1, rfl, a1⟩ := hx hne
      obtain ⟨b2, rfl, a2⟩ := hx' hne
      have hp := List.getElem?_eq_getElem hkl
      have y1 := a1 k _ hp
      have y2 := a2 k _ hp
      generalize l[k] = t at *
      generalize str t = T at *
      clear hp a1 a2 hx hx' hkl hne
      go_wp2
      go_region
      go_wp2
      go_roundw
      case rel => exact ⟨k + 1, by omega, by go_num, Below.drew HI.out⟩
      case measure => simp [intOf]; omega
    · obtain rfl : k = n := by omega
      go_wp2
      go_ret
      exact ⟨rfl, HI.out⟩
set_option maxRecDepth 100000 in
set_option maxHeartbeats 1000000 in
theorem same_c {v1 v2 : Value} {L : List Sec} (hl : L.length ≤ 100000) (hk : ∀ x ∈ L, x.2.length ≤ 100000) {w : World} (f1 : SecOut w v1 L) (f2 : SecOut w v2 L) :
    Calls Tryd.prog 8 #[v1, v2] w fun e w' => e = .returned (.bool true) ∧ Below w.heap.size w w' := by
  obtain ⟨A1, c1, rfl, hc1, _⟩ := id f1
  obtain ⟨A2, c2, rfl, hc2, _⟩ := id f2
  have F1 := Lib.hid f1; have F2 := Lib.hid f2; have HK := Lib.hid hk
  clear f1 f2 hk
  obtain ⟨n, hn⟩ : ∃ n, L.length = n := ⟨_, rfl⟩
  have HN := Lib.hid hn
  rw [hn] at hl hc1 hc2 F1 F2 ⊢
  clear hn
  go_enter Tryd.func8, Tryd.ntmps8
  go_wp2
  go_loopw [5] (fun i wr => ∃ k : Nat, k ≤ n ∧ i = .int .i64 k ∧ Hid (Below w.heap.size w wr)) (fun i _ => n - (intOf i).toNat)
  case atStart => exact ⟨0, Nat.zero_le _, rfl, Below.refl _ _⟩
  case round =>
    obtain ⟨k, hk, rfl, HI⟩ := hrel
    by_cases hlt : k < n
    · have hkl : k < L.length := by rw [HN.out]; exact hlt
      have hne : L ≠ [] := by intro e; rw [e] at hkl; exact absurd hkl (Nat.not_lt_zero _)
      obtain ⟨A, c, hv, _, hx⟩ := F1.out.below HI.out
      obtain ⟨A', c', hv', _, hx'⟩ := F2.out.below HI.out
      injection hv with e1 _ _; subst e1
      injection hv' with e1 _ _; subst e1
      obtain ⟨b1, rfl, a1⟩ := hx hne
      obtain ⟨b2, rfl, a2⟩ := hx' hne
      have hp := List.getElem?_eq_getElem hkl
      obtain ⟨u1, n1, y1, z1⟩ := a1 k _ hp
      obtain ⟨u2, n2, y2, z2⟩ := a2 k _ hp
      have hm := HK.out _ (List.getElem_mem hkl)
      generalize L[k] = x at *
      obtain ⟨nm, l⟩ := x
      simp only at n1 n2 z1 z2 hm
      generalize str nm = T at *
      obtain ⟨B1, d1, rfl, hd1, _⟩ := id z1
      obtain ⟨B2, d2, rfl, hd2, _⟩ := id z2
      obtain ⟨m, hmm⟩ : ∃ m, l.length = m := ⟨_, rfl⟩
      have HM := Lib.hid hmm
      rw [hmm] at hm hd1 hd2 z1 z2 y1 y2
      have Z1 := Lib.hid z1; have Z2 := Lib.hid z2
      have hbb : (T.toList != T.toList) = false := by simp
      have hmb : ((m : Int) != (m : Int)) = false := by simp
      have Y1 := Lib.hid y1; have Y2 := Lib.hid y2
      clear hp a1 a2 hx hx' hkl hne z1 z2 hmm
      go_wp2_with fail
      go_quiet (fail)
      go_wp2
      have X1 := Lib.hid HI.out
      go_loopw [6] (fun j wq => ∃ q : Nat, q ≤ m ∧ j = .int .i64 q ∧ Hid (Below wr.heap.size wr wq)) (fun j _ => m - (intOf j).toNat)
      case atStart => exact ⟨0, Nat.zero_le _, rfl, below_drewN (Below.refl _ _) _⟩
      case round =>
        obtain ⟨q, hq, rfl, HQ⟩ := hrel
        have y1' := cellb HQ.out Y1.out
        have y2' := cellb HQ.out Y2.out
        clear y1 y2 n1 n2
        by_cases hqt : q < m
        · have hql : q < l.length := by rw [HM.out]; exact hqt
          have hle : l ≠ [] := by intro e; rw [e] at hql; exact absurd hql (Nat.not_lt_zero _)
          obtain ⟨D1, _, ev1, _, ex1⟩ := Z1.out.below HQ.out
          obtain ⟨D2, _, ev2, _, ex2⟩ := Z2.out.below HQ.out
          injection ev1 with e1 _ _; subst e1
          injection ev2 with e1 _ _; subst e1
          obtain ⟨g1, rfl, q1⟩ := ex1 hle
          obtain ⟨g2, rfl, q2⟩ := ex2 hle
          have hp := List.getElem?_eq_getElem hql
          obtain ⟨s1, t1⟩ := q1 q _ hp
          obtain ⟨s2, t2⟩ := q2 q _ hp
          generalize l[q] = p at *
          generalize str p.1 = K at *
          generalize str p.2 = V at *
          clear hp q1 q2 ex1 ex2 hql hle
          go_wp2_with fail
          go_quiet (fail)
          go_wp2
          go_roundw
          case rel => exact ⟨q + 1, by omega, by go_num, below_drewN HQ.out _⟩
          case measure => simp [intOf]; omega
        · obtain rfl : q = m := by omega
          go_wp2
          go_roundw
          case rel => exact ⟨k + 1, by omega, by go_num, bnext HI.out HQ.out⟩
          case measure => simp [intOf]; omega
    · obtain rfl : k = n := by omega
      go_wp2
      go_ret
      exact ⟨rfl, HI.out⟩
end KR
end Go.Proofs.YtgdjmbekamdlgaaDoor
