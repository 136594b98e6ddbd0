/-
  The library's SplitN at a point, and its Join by points, in plain words (layer 16).
-/
import Derived.Test.YtkgmglncdiccfaaDoorShelf
import Derived.Test.YtkgmglncdiccfaaDoorTrlMath
import Derived.Lib.Join
set_option linter.unusedSimpArgs false
set_option linter.unusedVariables false
namespace Go.Proofs.YtkgmglncdiccfaaDoor
open Go.RowKit
/-- A variable of the library's holds a number. -/
def Ml (w : World) : Prop := ∃ m, w.cell? ⟨0, 0, none⟩ = some (.int .i64 m)
theorem Ml.below {w w' : World} (h : Ml w) (hb : Below w.heap.size w w') : Ml w' := by
  obtain ⟨m, hm⟩ := h
  exact ⟨m, cellb hb hm⟩
theorem index_dot (c : UInt8) (l : List UInt8) : Lib.index (c :: l) [46] = if c = 46 then 0 else if Lib.index l [46] == -1 then -1 else Lib.index l [46] + 1 := by
  rw [Lib.index]
  by_cases h : c = 46
  · subst h
    rw [if_pos (by simp [List.isPrefixOf]), if_pos rfl]
  · rw [if_neg h, if_neg (by
      show ¬ (List.isPrefixOf [46] (c :: l)) = true
      simp [List.isPrefixOf]
      exact fun e => h e.symm)]
theorem toNat_dot {c : UInt8} : c.toNat = 46 ↔ c = 46 := by
  constructor
  · intro h
    exact UInt8.toNat.inj h
  · rintro rfl; rfl
theorem splitK_cut : ∀ (l : List UInt8) (k : Nat), (Lib.splitK [46] 0 k l).map (·.map UInt8.toNat) = tCut (l.map UInt8.toNat) k
  | [], 0 => rfl
  | [], k + 1 => rfl
  | c :: l, 0 => rfl
  | c :: l, k + 1 => by
    show (if Lib.index (c :: l) [46] == -1 then [c :: l] else (c :: l).take ((Lib.index (c :: l) [46]).toNat + 0) :: Lib.splitK [46] 0 k ((c :: l).drop ((Lib.index (c :: l) [46]).toNat + 1))).map (·.map UInt8.toNat) = tCut (c.toNat :: l.map UInt8.toNat) (k + 1)
    rw [index_dot]
    unfold tCut
    by_cases h : c = 46
    · rw [if_pos h, if_pos (toNat_dot.2 h), if_neg (by decide)]
      show ([] : List Nat) :: (Lib.splitK [46] 0 k l).map (·.map UInt8.toNat) = _
      rw [splitK_cut l k]
    · rw [if_neg h, if_neg (fun e => h (toNat_dot.1 e))]
      have ih := splitK_cut l (k + 1)
      have ih2 : (if Lib.index l [46] == -1 then [l] else l.take ((Lib.index l [46]).toNat + 0) :: Lib.splitK [46] 0 k (l.drop ((Lib.index l [46]).toNat + 1))).map (·.map UInt8.toNat) = tCut (l.map UInt8.toNat) (k + 1) := ih
      rw [← ih2]
      by_cases h1 : Lib.index l [46] = -1
      · rw [h1]
        rfl
      · have hge := Lib.index_ge l [46]
        have hb : (Lib.index l [46] == -1) = false := beq_false_of_ne h1
        have hb2 : (Lib.index l [46] + 1 == -1) = false := beq_false_of_ne (by omega)
        rw [hb]
        simp only [Bool.false_eq_true, if_false]
        rw [hb2]
        simp only [Bool.false_eq_true, if_false]
        rw [show (Lib.index l [46] + 1).toNat = (Lib.index l [46]).toNat + 1 by omega]
        rfl
theorem tCut_more : ∀ (s : List Nat) (k : Nat), s.length ≤ k → ∀ j, k ≤ j → tCut s j = tCut s k
  | [], _, _, _, _ => by simp [tCut]
  | c :: s, 0, h, _, _ => by simp at h
  | c :: s, k + 1, h, 0, hj => by omega
  | c :: s, k + 1, h, j + 1, hj => by
    simp only [List.length_cons] at h
    unfold tCut
    rw [tCut_more s k (by omega) j (by omega), tCut_more s (k + 1) (by omega) (j + 1) hj]
theorem split_cut (s : ByteArray) (k : Nat) : (Lib.splitB ⟨#[46]⟩ 0 k s).map bs = tCut (bs s) k := by
  have h := Lib.splitB_data ⟨#[46]⟩ 0 k s
  unfold bs
  rw [← splitK_cut, ← show (⟨#[46]⟩ : ByteArray).data.toList = [46] from rfl, ← h, List.map_map]
  rfl
theorem tCut_mem : ∀ (s : List Nat) (k : Nat), ∀ p ∈ tCut s k, p.length ≤ s.length ∧ ∀ c ∈ p, c ∈ s
  | [], k, p, hp => by
    have : p = [] := by simpa [tCut] using hp
    subst this
    simp
  | c :: s, 0, p, hp => by
    have : p = c :: s := by simpa [tCut] using hp
    subst this
    simp
  | c :: s, k + 1, p, hp => by
    unfold tCut at hp
    split at hp
    · rcases List.mem_cons.1 hp with rfl | hp
      · simp
      · obtain ⟨a, b⟩ := tCut_mem s k p hp
        exact ⟨by rw [List.length_cons]; omega, fun x hx => List.mem_cons_of_mem _ (b x hx)⟩
    · cases ht : tCut s (k + 1) with
      | nil => exact absurd ht (tCut_ne _ _)
      | cons q qs =>
        rw [ht] at hp
        have hm := tCut_mem s (k + 1)
        rw [ht] at hm
        rcases List.mem_cons.1 hp with rfl | hp
        · obtain ⟨a, b⟩ := hm q (by simp)
          refine ⟨by rw [List.length_cons, List.length_cons]; omega, fun x hx => ?_⟩
          rcases List.mem_cons.1 hx with rfl | hx
          · simp
          · exact List.mem_cons_of_mem _ (b x hx)
        · obtain ⟨a, b⟩ := hm p (by simp [hp])
          exact ⟨by rw [List.length_cons]; omega, fun x hx => List.mem_cons_of_mem _ (b x hx)⟩
theorem tx_strs (L : List ByteArray) : L.map Value.string = txC (L.map bs) := by
  unfold txC
  rw [List.map_map]
  apply List.map_congr_left
  intro x _
  show Value.string x = Value.string (str (bs x))
  rw [str_bs]
theorem splitN_c (s : ByteArray) (hs : s.size ≤ 100000) (w : World) (hm : Ml w) :
    Calls Tryd.prog 22 #[.string s, .string ⟨#[46]⟩, .int .i64 9] w fun e w' => ∃ v, e = .returned v ∧ TxNew w.heap.size w' v (tCut (bs s) 8) ∧ Below w.heap.size w w' := by
  obtain ⟨m, hm⟩ := hm
  have H := Tryd.strings_SplitN s ⟨#[46]⟩ 9 m w (by omega) hm (by decide) (by decide) (by decide)
  refine H.mono fun e w' ⟨he, hw⟩ => ?_
  have hk : (Lib.splitB ⟨#[46]⟩ 0 (min 9 (s.size + 1) - 1) s).map bs = tCut (bs s) 8 := by
    rw [split_cut]
    have hl := bs_length s
    by_cases h : 8 ≤ s.size
    · rw [show min 9 (s.size + 1) - 1 = 8 by omega]
    · rw [show min 9 (s.size + 1) - 1 = s.size by omega]
      exact (tCut_more (bs s) s.size (by omega) 8 (by omega)).symm
  have hle := Lib.splitB_length_le ⟨#[46]⟩ 0 (min 9 (s.size + 1) - 1) s
  obtain ⟨L, hL⟩ : ∃ L, Lib.splitB ⟨#[46]⟩ 0 (min 9 (s.size + 1) - 1) s = L := ⟨_, rfl⟩
  rw [hL] at hk hle he hw
  have hlen : (tCut (bs s) 8).length = L.length := by rw [← hk, List.length_map]
  refine ⟨_, he, ?_, by rw [hw]; exact (Below.refl _ _).alloc (Nat.le_refl _) _⟩
  rw [hw]
  refine ⟨by rw [txC_length, Nat.mul_one], Or.inr ⟨w.heap.size, _, Lib.cellsOf L (min 9 (s.size + 1)), by rw [hlen], Nat.le_refl _, ?_, by rw [hlen]; omega, by unfold maxLen; omega, by rw [Nat.mul_one]; exact Lib.cellsOf_size (by omega), ?_⟩⟩
  · show (w.heap.push _)[w.heap.size]? = _
    exact Array.getElem?_push_size
  · rw [hlen, Nat.mul_one, ← hk, ← tx_strs]
    unfold Lib.cellsOf
    show List.take L.length (L.map Value.string ++ _) = _
    rw [List.take_left' (by simp)]
theorem join_dots : ∀ (l : List (List Nat)), Lib.join (l.map (·.map UInt8.ofNat)) [46] = (tJoin l).map UInt8.ofNat
  | [] => rfl
  | [p] => by
    show Lib.join [p.map UInt8.ofNat] [46] = _
    rw [Lib.join_one]
    rfl
  | p :: q :: r => by
    have ih := join_dots (q :: r)
    rw [List.map_cons, Lib.join_cons]
    rw [List.map_cons, Lib.join_cons] at ih
    show p.map UInt8.ofNat ++ (([46] ++ q.map UInt8.ofNat) ++ Lib.joinTail [46] (r.map (·.map UInt8.ofNat))) = (p ++ 46 :: tJoin (q :: r)).map UInt8.ofNat
    rw [List.append_assoc, ih, List.map_append, List.map_cons]
    rfl
theorem join_c (g c : Nat) (l : List (List Nat)) (hl : l.length ≤ 100000) (hc : l.length ≤ c) (hj : (tJoin l).length ≤ 100000) (w : World) (hg : g < w.heap.size) (ht : TxAt w g l) :
    Calls Tryd.prog 20 #[.slice (some ⟨g, 0, none⟩) l.length c, .string ⟨#[46]⟩] w fun e w' => e = .returned (.string (str (tJoin l))) ∧ Below w.heap.size w w' := by
  have hd : (l.map str).map (·.data.toList) = l.map (·.map UInt8.ofNat) := by
    rw [List.map_map]
    apply List.map_congr_left
    intro x _
    rfl
  have H := Tryd.strings_Join g 0 c (l.map str) ⟨#[46]⟩ w (fun j x hx => by
    rw [List.getElem?_map] at hx
    cases hj : l[j]? with
    | none => rw [hj] at hx; cases hx
    | some t =>
      rw [hj] at hx
      obtain rfl := Option.some.inj hx
      rw [Nat.zero_add]
      exact ht j t hj) hg (by rw [List.length_map]; omega) (by rw [List.length_map]; exact hc)
    (by rw [hd]; show (Lib.join _ [46]).length ≤ _; rw [join_dots, List.length_map]; omega)
  rw [List.length_map, hd] at H
  refine H.mono fun e w' ⟨he, hb⟩ => ⟨?_, hb⟩
  rw [he]
  show Ending.returned (.string ⟨(Lib.join _ [46]).toArray⟩) = _
  rw [join_dots]
  rfl
end Go.Proofs.YtkgmglncdiccfaaDoor
