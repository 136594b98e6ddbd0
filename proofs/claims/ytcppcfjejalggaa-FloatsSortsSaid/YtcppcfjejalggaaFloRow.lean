/-
  Floats in a row: put in order one by one, as the document says; and rows of floats in memory.
-/
import Derived.Test.YtcppcfjejalggaaFloMath4
import Derived.Laws.OwnMore
set_option linter.unusedSimpArgs false
set_option linter.unusedVariables false
namespace Go.Proofs.Ytcppcfjejalggaa
open Go.RowKit
/-- Where a float is put in: behind the last one that isn't above it. -/
def kF (s : List Nat) (x : Nat) : Nat → Nat
  | 0 => 0
  | k + 1 => if 0 < fCmp (s.getD k 0) x then kF s x k else k + 1
def insF (s : List Nat) (x : Nat) : List Nat := s.take (kF s x s.length) ++ x :: s.drop (kF s x s.length)
def sortF (l : List Nat) : List Nat := l.foldl insF []
theorem kF_le (s : List Nat) (x : Nat) : ∀ k, kF s x k ≤ k
  | 0 => Nat.le_refl _
  | k + 1 => by
    unfold kF
    split
    · exact Nat.le_succ_of_le (kF_le s x k)
    · exact Nat.le_refl _
theorem kF_above (s : List Nat) (x : Nat) : ∀ k j, kF s x k ≤ j → j < k → 0 < fCmp (s.getD j 0) x
  | 0, j, _, h => absurd h (Nat.not_lt_zero j)
  | k + 1, j, h1, h2 => by
    unfold kF at h1
    by_cases h : 0 < fCmp (s.getD k 0) x
    · rw [if_pos h] at h1
      rcases Nat.lt_or_ge j k with hl | hl
      · exact kF_above s x k j h1 hl
      · have : j = k := by omega
        rw [this]; exact h
    · rw [if_neg h] at h1; omega
theorem kF_below (s : List Nat) (x : Nat) : ∀ k, 0 < kF s x k → ¬ 0 < fCmp (s.getD (kF s x k - 1) 0) x
  | 0, h => absurd h (Nat.lt_irrefl 0)
  | k + 1, h => by
    unfold kF at h ⊢
    by_cases hc : 0 < fCmp (s.getD k 0) x
    · rw [if_pos hc] at h ⊢
      exact kF_below s x k h
    · rw [if_neg hc]
      simpa using hc
theorem insF_length (s : List Nat) (x : Nat) : (insF s x).length = s.length + 1 := by
  unfold insF
  have := kF_le s x s.length
  simp [List.length_take, List.length_drop]; omega
theorem insF_mem {s : List Nat} {x y : Nat} (h : y ∈ insF s x) : y = x ∨ y ∈ s := by
  unfold insF at h
  rcases List.mem_append.1 h with h | h
  · exact .inr (List.mem_of_mem_take h)
  · rcases List.mem_cons.1 h with h | h
    · exact .inl h
    · exact .inr (List.mem_of_mem_drop h)
theorem sortF_snoc (l : List Nat) (x : Nat) : sortF (l ++ [x]) = insF (sortF l) x := by unfold sortF; rw [List.foldl_append]; rfl
theorem fold_length : ∀ (l s : List Nat), (l.foldl insF s).length = s.length + l.length
  | [], s => rfl
  | x :: l, s => by rw [List.foldl_cons, fold_length l, insF_length, List.length_cons]; omega
theorem sortF_length (l : List Nat) : (sortF l).length = l.length := by unfold sortF; rw [fold_length]; simp
theorem fold_mem : ∀ (l s : List Nat) {y : Nat}, y ∈ l.foldl insF s → y ∈ s ∨ y ∈ l
  | [], s, y, h => .inl h
  | x :: l, s, y, h => by
    rcases fold_mem l _ h with h | h
    · rcases insF_mem h with h | h
      · exact .inr (by rw [h]; exact List.mem_cons_self)
      · exact .inl h
    · exact .inr (List.mem_cons_of_mem _ h)
theorem sortF_mem (l : List Nat) {y : Nat} (h : y ∈ sortF l) : y ∈ l := (fold_mem l [] h).elim (fun h => by cases h) id
/-- In order. -/
def Srt (s : List Nat) : Prop := s.Pairwise fun a b => fRank a ≤ fRank b
theorem cmp_pos {a b : Nat} (ha : a < 18446744073709551616) (hb : b < 18446744073709551616) : 0 < fCmp a b ↔ fRank b < fRank a := by
  rw [fCmp_rank ha hb]
  by_cases h : fRank a < fRank b
  · rw [if_pos h]; omega
  · rw [if_neg h]
    by_cases h' : fRank b < fRank a
    · rw [if_pos h']; omega
    · rw [if_neg h']; omega
theorem insF_srt {s : List Nat} {x : Nat} (h : Srt s) (hs : ∀ n ∈ s, n < 18446744073709551616) (hx : x < 18446744073709551616) : Srt (insF s x) := by
  have hk := kF_le s x s.length
  have hab := kF_above s x s.length
  have hbe := kF_below s x s.length
  unfold insF
  generalize kF s x s.length = k at *
  have e : s.take k ++ s.drop k = s := List.take_append_drop k s
  have h' : Srt (s.take k ++ s.drop k) := by rw [e]; exact h
  unfold Srt at h' h ⊢
  rw [List.pairwise_append] at h'
  rw [List.pairwise_append, List.pairwise_cons]
  have hget : ∀ j, j < s.length → s.getD j 0 ∈ s := fun j hj => by rw [List.getD_eq_getElem?_getD, List.getElem?_eq_getElem hj]; exact List.getElem_mem hj
  have hdrop : ∀ y ∈ s.drop k, fRank x ≤ fRank y := by
    intro y hy
    obtain ⟨j, hj, rfl⟩ := List.getElem_of_mem hy
    rw [List.length_drop] at hj
    have h1 := hab (k + j) (by omega) (by omega)
    rw [List.getD_eq_getElem?_getD, List.getElem?_eq_getElem (by omega)] at h1
    have h2 := (cmp_pos (hs _ (List.getElem_mem (show k + j < s.length by omega))) hx).1 h1
    rw [List.getElem_drop]
    omega
  have htake : ∀ y ∈ s.take k, fRank y ≤ fRank x := by
    intro y hy
    by_cases hk0 : 0 < k
    · have h1 := hbe hk0
      have hlast : fRank (s.getD (k - 1) 0) ≤ fRank x := by
        rcases Int.lt_or_le (fRank x) (fRank (s.getD (k - 1) 0)) with hh | hh
        · exact absurd ((cmp_pos (hs _ (hget (k - 1) (by omega))) hx).2 hh) h1
        · exact hh
      obtain ⟨j, hj, rfl⟩ := List.getElem_of_mem hy
      rw [List.length_take] at hj
      rw [List.getElem_take]
      rcases Nat.lt_or_ge j (k - 1) with hl | hl
      · have h3 := List.pairwise_iff_getElem.1 h j (k - 1) (by omega) (by omega) hl
        rw [List.getD_eq_getElem?_getD, List.getElem?_eq_getElem (by omega)] at hlast
        exact Int.le_trans h3 hlast
      · have : j = k - 1 := by omega
        subst this
        rw [List.getD_eq_getElem?_getD, List.getElem?_eq_getElem (by omega)] at hlast
        exact hlast
    · have : k = 0 := by omega
      subst this
      cases hy
  refine ⟨h'.1, ⟨hdrop, h'.2.1⟩, fun a ha b hb => ?_⟩
  rcases List.mem_cons.1 hb with rfl | hb
  · exact htake a ha
  · exact h'.2.2 a ha b hb
theorem fold_srt : ∀ (l s : List Nat), Srt s → (∀ n ∈ s, n < 18446744073709551616) → (∀ n ∈ l, n < 18446744073709551616) → Srt (l.foldl insF s)
  | [], s, h, _, _ => h
  | x :: l, s, h, hs, hl => fold_srt l _ (insF_srt h hs (hl x List.mem_cons_self))
      (fun n hn => (insF_mem hn).elim (fun e => by rw [e]; exact hl x List.mem_cons_self) (hs n)) (fun n hn => hl n (List.mem_cons_of_mem _ hn))
theorem sortF_srt (l : List Nat) (h : ∀ n ∈ l, n < 18446744073709551616) : Srt (sortF l) := fold_srt l [] List.Pairwise.nil (fun n hn => by cases hn) h
/-- A row of floats in memory. -/
def FlAt (w : World) (b off : Nat) (l : List Nat) : Prop := ∀ i n, l[i]? = some n → w.cell? ⟨b, off + i, none⟩ = some (.float .f64 n)
theorem FlAt.below {w w' : World} {b off : Nat} {l : List Nat} (h : FlAt w b off l) (hb : Below w.heap.size w w') : FlAt w' b off l := fun i n hi => (hb.cell (World.block_lt_of_cell? w _ (h i n hi))).trans (h i n hi)
/-- A slice value that is such a row. -/
def FlOut (w : World) (v : Value) (l : List Nat) : Prop := ∃ A cap, v = .slice A l.length cap ∧ l.length ≤ cap ∧ (l ≠ [] → ∃ b off, A = some ⟨b, off, none⟩ ∧ FlAt w b off l)
theorem FlOut.below {w w' : World} {v : Value} {l : List Nat} (h : FlOut w v l) (hb : Below w.heap.size w w') : FlOut w' v l := by
  obtain ⟨A, cap, hv, hc, hx⟩ := h
  refine ⟨A, cap, hv, hc, fun hn => ?_⟩
  obtain ⟨b, off, hA, hf⟩ := hx hn
  exact ⟨b, off, hA, hf.below hb⟩
/-- A slice value that is the row of their bits. -/
def BtOut (w : World) (v : Value) (l : List Nat) : Prop := ∃ A cap, v = .slice A l.length cap ∧ l.length ≤ cap ∧ (l ≠ [] → ∃ b off, A = some ⟨b, off, none⟩ ∧ ∀ (i n : Nat), l[i]? = some n → w.cell? ⟨b, off + i, none⟩ = some (.int .u64 (n : Int)))
theorem BtOut.below {w w' : World} {v : Value} {l : List Nat} (h : BtOut w v l) (hb : Below w.heap.size w w') : BtOut w' v l := by
  obtain ⟨A, cap, hv, hc, hx⟩ := h
  refine ⟨A, cap, hv, hc, fun hn => ?_⟩
  obtain ⟨b, off, hA, hf⟩ := hx hn
  exact ⟨b, off, hA, fun i n hi => (hb.cell (World.block_lt_of_cell? w _ (hf i n hi))).trans (hf i n hi)⟩
end Go.Proofs.Ytcppcfjejalggaa
