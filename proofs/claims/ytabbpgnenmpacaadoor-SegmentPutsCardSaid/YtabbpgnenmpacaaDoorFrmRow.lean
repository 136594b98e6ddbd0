/-
  Rows of rows of bytes in memory, and rows of one's own, for the contracts of layer 7.
-/
import Derived.Test.YtabbpgnenmpacaaDoorFrmMath
import Derived.Test.YtabbpgnenmpacaaDoorCrcRef
set_option linter.unusedSimpArgs false
set_option linter.unusedVariables false
namespace Go.Proofs.YtabbpgnenmpacaaDoor
open Go.RowKit
theorem ByNew.mono {B B' : Nat} {w : World} {v : Value} {l : List Nat} (h : ByNew B' w v l) (hB : B ≤ B') : ByNew B w v l := by
  refine ⟨h.1, ?_⟩
  rcases h.2 with ⟨rfl, h0⟩ | ⟨g, cap, cur, rfl, hb, hr⟩
  · exact Or.inl ⟨rfl, h0⟩
  · exact Or.inr ⟨g, cap, cur, rfl, Nat.le_trans hB hb, hr⟩
theorem ByNew.none (B : Nat) (w : World) : ByNew B w (.slice none 0 0) [] := ⟨rfl, .inl ⟨rfl, rfl⟩⟩
theorem ByOut.none (w : World) : ByOut w (.slice none 0 0) [] := ⟨.none, 0, rfl, Nat.le_refl _, fun h => absurd rfl h⟩
theorem ByOut.drop {w : World} {A : Option Addr} {n c m : Nat} {l : List Nat} (h : ByOut w (.slice A n c) l) (hm : m < n) : ∃ b off, A = some ⟨b, off, .none⟩ ∧ ByOut w (.slice (some ⟨b, off + m, .none⟩) (n - m) (c - m)) (l.drop m) := by
  obtain ⟨A', c', hv, hc, hx⟩ := h
  injection hv with h1 h2 h3
  subst h1 h2 h3
  obtain ⟨b, off, hA, hf⟩ := hx (by intro e; rw [e] at hm; exact absurd hm (Nat.not_lt_zero _))
  refine ⟨b, off, hA, _, c - m, by rw [List.length_drop], by rw [List.length_drop]; omega, fun _ => ⟨b, off + m, rfl, fun i x hi => ?_⟩⟩
  rw [List.getElem?_drop] at hi
  have := hf _ _ hi
  rwa [← Nat.add_assoc] at this
theorem ByOut.dropNil {w : World} {A A' : Option Addr} {n c c' m : Nat} {l : List Nat} (h : ByOut w (.slice A n c) l) (hm : n ≤ m) (w' : World) : ByOut w' (.slice A' 0 c') (l.drop m) := by
  obtain ⟨A0, c0, hv, _, _⟩ := h
  injection hv with h1 h2 h3
  have hd : l.drop m = [] := List.drop_eq_nil_of_le (by omega)
  rw [hd]
  exact ⟨A', c', rfl, Nat.zero_le _, fun h => absurd rfl h⟩
theorem ByOut.dropAt {w : World} {A : Option Addr} {n c m : Nat} {l : List Nat} (h : ByOut w (.slice A n c) l) (hm : m ≤ n) (hc : ¬ c = m) : ByOut w (.slice (Option.map (fun x => x.add m) A) (n - m) (c - m)) (l.drop m) := by
  obtain ⟨A0, c0, hv, hc0, hx⟩ := h
  injection hv with h1 h2 h3
  subst h1 h2 h3
  refine ⟨_, c - m, by rw [List.length_drop], by rw [List.length_drop]; omega, fun hn => ?_⟩
  obtain ⟨b, off, hA, hf⟩ := hx (fun e => hn (by rw [e]; exact List.drop_nil))
  subst hA
  have e : (⟨b, off, .none⟩ : Addr).add m = ⟨b, off + m, .none⟩ := by unfold Addr.add; split <;> simp_all
  refine ⟨b, off + m, by rw [← e]; rfl, fun i x hi => ?_⟩
  rw [List.getElem?_drop] at hi
  have := hf _ _ hi
  rwa [← Nat.add_assoc] at this
/-- A row of rows of bytes. -/
def BsAt (w : World) (b off : Nat) (ls : List (List Nat)) : Prop := ∀ (k : Nat) (l : List Nat), ls[k]? = some l → ∃ u, w.cell? ⟨b, off + k, .none⟩ = some u ∧ ByOut w u l
def BsOut (w : World) (v : Value) (ls : List (List Nat)) : Prop := ∃ A cap, v = .slice A ls.length cap ∧ ls.length ≤ cap ∧ (ls ≠ [] → ∃ b off, A = some ⟨b, off, .none⟩ ∧ BsAt w b off ls)
theorem BsAt.below {w w' : World} {b off : Nat} {ls : List (List Nat)} (h : BsAt w b off ls) (hb : Below w.heap.size w w') : BsAt w' b off ls := fun k l hk => by
  obtain ⟨u, hu, ho⟩ := h k l hk
  exact ⟨u, (hb.cell (World.block_lt_of_cell? w _ hu)).trans hu, ho.below hb⟩
theorem BsOut.below {w w' : World} {v : Value} {ls : List (List Nat)} (h : BsOut w v ls) (hb : Below w.heap.size w w') : BsOut w' v ls := by
  obtain ⟨A, cap, hv, hc, hx⟩ := h
  refine ⟨A, cap, hv, hc, fun hn => ?_⟩
  obtain ⟨b, off, hA, hf⟩ := hx hn
  exact ⟨b, off, hA, hf.below hb⟩
theorem BsOut.nil (w : World) : BsOut w (.slice .none 0 0) [] := ⟨.none, 0, rfl, Nat.le_refl _, fun h => absurd rfl h⟩
theorem BsOut.take {w : World} {A : Option Addr} {n c m : Nat} {ls : List (List Nat)} (h : BsOut w (.slice A n c) ls) (hm : m ≤ n) : BsOut w (.slice A m c) (ls.take m) := by
  obtain ⟨A', c', hv, hc, hx⟩ := h
  injection hv with h1 h2 h3
  subst h1 h2 h3
  have hl : (ls.take m).length = m := by rw [List.length_take]; omega
  refine ⟨A, c, by rw [hl], by omega, fun hn => ?_⟩
  obtain ⟨b, off, hA, hf⟩ := hx (fun e => hn (by rw [e]; simp))
  refine ⟨b, off, hA, fun k l hk => hf k l ?_⟩
  rw [List.getElem?_take] at hk
  split at hk
  · exact hk
  · cases hk
/-- A row of bytes in a block that is not older than B. -/
def ByFrom (B : Nat) (w : World) (v : Value) (l : List Nat) : Prop := ∃ A cap, v = .slice A l.length cap ∧ l.length ≤ cap ∧ (l ≠ [] → ∃ b off, A = some ⟨b, off, .none⟩ ∧ B ≤ b ∧ ByAt w b off l)
theorem ByFrom.out {B : Nat} {w : World} {v : Value} {l : List Nat} (h : ByFrom B w v l) : ByOut w v l := by
  obtain ⟨A, cap, hv, hc, hx⟩ := h
  refine ⟨A, cap, hv, hc, fun hn => ?_⟩
  obtain ⟨b, off, hA, _, hf⟩ := hx hn
  exact ⟨b, off, hA, hf⟩
theorem ByFrom.of {B : Nat} {w : World} {v : Value} {l : List Nat} (h : ByNew B w v l) : ByFrom B w v l := by
  obtain ⟨A, cap, hv, hc, hx⟩ := h.form
  refine ⟨A, cap, hv, hc, fun hn => ?_⟩
  obtain ⟨g, hA, hB, _, hf, _⟩ := hx hn
  exact ⟨g, 0, hA, hB, hf⟩
theorem ByFrom.none (B : Nat) (w : World) : ByFrom B w (.slice .none 0 0) [] := ⟨.none, 0, rfl, Nat.le_refl _, fun h => absurd rfl h⟩
theorem ByFrom.mono {B B' : Nat} {w : World} {v : Value} {l : List Nat} (h : ByFrom B' w v l) (hB : B ≤ B') : ByFrom B w v l := by
  obtain ⟨A, cap, hv, hc, hx⟩ := h
  refine ⟨A, cap, hv, hc, fun hn => ?_⟩
  obtain ⟨b, off, hA, hb, hf⟩ := hx hn
  exact ⟨b, off, hA, Nat.le_trans hB hb, hf⟩
theorem ByFrom.below {B : Nat} {w w' : World} {v : Value} {l : List Nat} (h : ByFrom B w v l) (hb : Below w.heap.size w w') : ByFrom B w' v l := by
  obtain ⟨A, cap, hv, hc, hx⟩ := h
  refine ⟨A, cap, hv, hc, fun hn => ?_⟩
  obtain ⟨b, off, hA, hB, hf⟩ := hx hn
  exact ⟨b, off, hA, hB, hf.below hb⟩
theorem ByFrom.take {B : Nat} {w : World} {A : Option Addr} {n c m c' : Nat} {l : List Nat} (h : ByFrom B w (.slice A n c) l) (hm : m ≤ n) (hc' : m ≤ c') : ByFrom B w (.slice A m c') (l.take m) := by
  obtain ⟨A', c1, hv, hc, hx⟩ := h
  injection hv with h1 h2 h3
  subst h1 h2 h3
  have hl : (l.take m).length = m := by rw [List.length_take]; omega
  refine ⟨A, c', by rw [hl], by omega, fun hn => ?_⟩
  obtain ⟨b, off, hA, hB, hf⟩ := hx (fun e => hn (by rw [e]; simp))
  refine ⟨b, off, hA, hB, fun k x hk => hf k x ?_⟩
  rw [List.getElem?_take] at hk
  split at hk
  · exact hk
  · cases hk
theorem ByFrom.drop {B : Nat} {w : World} {A : Option Addr} {n c m : Nat} {l : List Nat} (h : ByFrom B w (.slice A n c) l) (hm : m < n) : ∃ b off, A = some ⟨b, off, .none⟩ ∧ ByFrom B w (.slice (some ⟨b, off + m, .none⟩) (n - m) (c - m)) (l.drop m) := by
  obtain ⟨A', c', hv, hc, hx⟩ := h
  injection hv with h1 h2 h3
  subst h1 h2 h3
  obtain ⟨b, off, hA, hB, hf⟩ := hx (by intro e; rw [e] at hm; exact absurd hm (Nat.not_lt_zero _))
  refine ⟨b, off, hA, _, c - m, by rw [List.length_drop], by rw [List.length_drop]; omega, fun _ => ⟨b, off + m, rfl, hB, fun i x hi => ?_⟩⟩
  rw [List.getElem?_drop] at hi
  have := hf _ _ hi
  rwa [← Nat.add_assoc] at this
/-- A row of bytes that lies in another block than one. -/
def ByApart (row : Option Nat) (w : World) (v : Value) (l : List Nat) : Prop := ∃ A cap, v = .slice A l.length cap ∧ l.length ≤ cap ∧ (l ≠ [] → ∃ b off, A = some ⟨b, off, .none⟩ ∧ some b ≠ row ∧ ByAt w b off l)
theorem ByApart.out {row : Option Nat} {w : World} {v : Value} {l : List Nat} (h : ByApart row w v l) : ByOut w v l := by
  obtain ⟨A, cap, hv, hc, hx⟩ := h
  refine ⟨A, cap, hv, hc, fun hn => ?_⟩
  obtain ⟨b, off, hA, _, hf⟩ := hx hn
  exact ⟨b, off, hA, hf⟩
theorem ByApart.below {row : Option Nat} {w w' : World} {v : Value} {l : List Nat} (h : ByApart row w v l) (hb : Below w.heap.size w w') : ByApart row w' v l := by
  obtain ⟨A, cap, hv, hc, hx⟩ := h
  refine ⟨A, cap, hv, hc, fun hn => ?_⟩
  obtain ⟨b, off, hA, hB, hf⟩ := hx hn
  exact ⟨b, off, hA, hB, hf.below hb⟩
/-- Behind a growth of that one block, or of a new one. -/
theorem ByApart.grown {row row' : Option Nat} {w w' : World} {v : Value} {l : List Nat} {o : Obj} (h : ByApart row w v l) (hg : (w.alloc o).grownBy w' row) (hat : row' = row ∨ row' = some (w.alloc o).heap.size) : ByApart row' w' v l := by
  obtain ⟨A, cap, hv, hc, hx⟩ := h
  refine ⟨A, cap, hv, hc, fun hn => ?_⟩
  obtain ⟨b, off, hA, hB, hf⟩ := hx hn
  have h0 := List.getElem?_eq_getElem (List.length_pos_iff.2 hn)
  have hlt : b < w.heap.size := World.block_lt_of_cell? w _ (hf 0 _ h0)
  have hs : (w.alloc o).heap.size = w.heap.size + 1 := by simp
  have hk : ∀ off, w'.cell? ⟨b, off, .none⟩ = w.cell? ⟨b, off, .none⟩ := fun off => World.cell?_of_block ((hg.block b (by omega) hB).trans (Below.heap_alloc w o b hlt))
  refine ⟨b, off, hA, ?_, fun i n hi => (hk _).trans (hf i n hi)⟩
  rcases hat with e | e
  · rw [e]; exact hB
  · rw [e]; intro e2; injection e2 with e2; omega
/-- A row of rows of the call's own: the row lies in a block of its own from B on; its rows, in others. -/
def BsNew (B : Nat) (w : World) (v : Value) (ls : List (List Nat)) : Prop := ∃ us : List Value, w.ownsRow B 27 1 v ls.length us ∧ us.length = ls.length ∧ ∀ (k : Nat) (u : Value) (l : List Nat), us[k]? = some u → ls[k]? = some l → ByApart v.ownBlock w u l
theorem BsNew.nil (B : Nat) (w : World) : BsNew B w (.slice .none 0 0) [] := ⟨[], ⟨rfl, .inl ⟨rfl, rfl⟩⟩, rfl, fun k u l h _ => by cases h⟩
theorem ownsRow_lt {B : Nat} {w : World} {e : TypeId} {sz n : Nat} {v : Value} {us : List Value} (h : w.ownsRow B e sz v n us) {g : Nat} (hg : v.ownBlock = some g) : g < w.heap.size := by
  rcases h.2 with ⟨rfl, h0⟩ | ⟨g', cap, cur, rfl, _, hh, _⟩
  · cases hg
  · have : g' = g := by simpa [Value.ownBlock] using hg
    subst this
    rcases Nat.lt_or_ge g' w.heap.size with h | h
    · exact h
    · rw [Array.getElem?_eq_none h] at hh; cases hh
theorem ownsRow_below {B : Nat} {w w' : World} {e : TypeId} {sz n : Nat} {v : Value} {us : List Value} (h : w.ownsRow B e sz v n us) (hb : Below w.heap.size w w') : w'.ownsRow B e sz v n us := by
  refine ⟨h.1, ?_⟩
  rcases h.2 with ⟨rfl, h0⟩ | ⟨g, cap, cur, rfl, hg, hh, hr⟩
  · exact Or.inl ⟨rfl, h0⟩
  · refine Or.inr ⟨g, cap, cur, rfl, hg, ?_, hr⟩
    have hlt : g < w.heap.size := by
      rcases Nat.lt_or_ge g w.heap.size with h | h
      · exact h
      · rw [Array.getElem?_eq_none h] at hh; cases hh
    rw [hb.block g hlt]
    exact hh
theorem BsNew.below {B : Nat} {w w' : World} {v : Value} {ls : List (List Nat)} (h : BsNew B w v ls) (hb : Below w.heap.size w w') : BsNew B w' v ls := by
  obtain ⟨us, h1, h2, h3⟩ := h
  exact ⟨us, ownsRow_below h1 hb, h2, fun k u l hu hl => (h3 k u l hu hl).below hb⟩
theorem ByNew.below {B : Nat} {w w' : World} {v : Value} {l : List Nat} (h : ByNew B w v l) (hb : Below w.heap.size w w') : ByNew B w' v l := ownsRow_below h hb
theorem BsNew.out {B : Nat} {w : World} {v : Value} {ls : List (List Nat)} (h : BsNew B w v ls) : BsOut w v ls := by
  obtain ⟨us, ho, hl, hr⟩ := h
  rcases ho.2 with ⟨rfl, h0⟩ | ⟨g, cap, cur, rfl, hb, hh, hle, _, _, ht⟩
  · exact ⟨.none, 0, by rw [h0], by omega, fun hn => absurd (List.eq_nil_of_length_eq_zero h0) hn⟩
  · refine ⟨_, cap, rfl, hle, fun _ => ⟨g, 0, rfl, fun k l hk => ?_⟩⟩
    have hlt : k < ls.length := (List.getElem?_eq_some_iff.1 hk).1
    have hu : us[k]? = some (us[k]'(by omega)) := List.getElem?_eq_getElem (by omega)
    refine ⟨_, ?_, (hr k _ l hu hk).out⟩
    rw [Nat.zero_add]
    refine (cell_of_row w g k cur _ (0, 0) hh).trans ?_
    have h5 : (cur.toList.take (ls.length * 1))[k]? = some (us[k]'(by omega)) := by rw [ht]; exact hu
    rw [List.getElem?_take, if_pos (by omega)] at h5
    simpa using h5
theorem by_one {w : World} {v : Value} {l : List Nat} (h : ByOut w v l) : v.oneCell' = true := by
  obtain ⟨A, cap, rfl, _⟩ := h
  rfl
theorem ByFrom.apart {N : Nat} {row : Option Nat} {w : World} {v : Value} {l : List Nat} (h : ByFrom N w v l) (hr : ∀ g, row = some g → g < N) : ByApart row w v l := by
  obtain ⟨A, cap, hv, hc, hx⟩ := h
  refine ⟨A, cap, hv, hc, fun hn => ?_⟩
  obtain ⟨b, off, hA, hB, hf⟩ := hx hn
  exact ⟨b, off, hA, fun e => by have := hr b e.symm; omega, hf⟩
theorem BsNew.push {B : Nat} {w w' : World} {v v' x : Value} {us : List Value} {ls : List (List Nat)} {t : List Nat} {o : Obj} (hl : us.length = ls.length)
    (hr : ∀ (k : Nat) (u : Value) (l : List Nat), us[k]? = some u → ls[k]? = some l → ByApart v.ownBlock w u l) (hx : ByApart v.ownBlock w x t) (hg : (w.alloc o).grownBy w' v.ownBlock) (hn : w'.ownsRow B 27 1 v' (ls.length + 1) (us ++ [x]))
    (hat : v'.ownBlock = v.ownBlock ∨ v'.ownBlock = some (w.alloc o).heap.size) : BsNew B w' v' (ls ++ [t]) := by
  refine ⟨us ++ [x], by rw [List.length_append, List.length_singleton]; exact hn, by rw [List.length_append, List.length_append, hl]; rfl, fun k u l hu hk => ?_⟩
  rw [List.getElem?_append] at hu hk
  rcases Nat.lt_or_ge k us.length with h | h
  · rw [if_pos h] at hu
    rw [if_pos (by omega)] at hk
    exact (hr k u l hu hk).grown hg hat
  · rw [if_neg (by omega)] at hu
    rw [if_neg (by omega)] at hk
    have hu2 : x = u := by
      cases hkk : k - us.length with
      | zero => rw [hkk] at hu; simpa using hu
      | succ j => rw [hkk] at hu; simp at hu
    have hl2 : t = l := by
      cases hkk : k - ls.length with
      | zero => rw [hkk] at hk; simpa using hk
      | succ j => rw [hkk] at hk; simp at hk
    subst hu2 hl2
    exact hx.grown hg hat
end Go.Proofs.YtabbpgnenmpacaaDoor
