/-
  Rows of records of a call's own: the row lies in a block of its own, its records' archives in others.
-/
import Derived.Test.YtabbpgnenmpacaaDoorSegPFM
import Derived.Test.YtabbpgnenmpacaaDoorBoxKitM
set_option linter.unusedSimpArgs false
set_option linter.unusedVariables false
namespace Go.Proofs.YtabbpgnenmpacaaDoor
open Go.RowKit
/-- A row of archives that lies in another block than one, from N on. -/
def RgApart (N : Nat) (row : Option Nat) (w : World) (v : Value) (l : List (Int × Int)) : Prop := ∃ A cap, v = .slice A l.length cap ∧ l.length ≤ cap ∧ (l ≠ [] → ∃ b off, A = some ⟨b, off, none⟩ ∧ (some b ≠ row ∧ N ≤ b) ∧ RgAt w b off l)
theorem RgApart.out {N : Nat} {row : Option Nat} {w : World} {v : Value} {l : List (Int × Int)} (h : RgApart N row w v l) : RgOut w v l := by
  obtain ⟨A, cap, hv, hc, hx⟩ := h
  refine ⟨A, cap, hv, hc, fun hn => ?_⟩
  obtain ⟨b, off, hA, _, hf⟩ := hx hn
  exact ⟨b, off, hA, hf⟩
theorem RgApart.below {N : Nat} {row : Option Nat} {w w' : World} {v : Value} {l : List (Int × Int)} (h : RgApart N row w v l) (hb : Below w.heap.size w w') : RgApart N row w' v l := by
  obtain ⟨A, cap, hv, hc, hx⟩ := h
  refine ⟨A, cap, hv, hc, fun hn => ?_⟩
  obtain ⟨b, off, hA, hB, hf⟩ := hx hn
  exact ⟨b, off, hA, hB, hf.below hb⟩
theorem RgApart.grown {N : Nat} {row row' : Option Nat} {w w' : World} {v : Value} {l : List (Int × Int)} {o : Obj} (h : RgApart N row w v l) (hg : (w.alloc o).grownBy w' row) (hat : row' = row ∨ row' = some (w.alloc o).heap.size) : RgApart N row' w' v l := by
  obtain ⟨A, cap, hv, hc, hx⟩ := h
  refine ⟨A, cap, hv, hc, fun hn => ?_⟩
  obtain ⟨b, off, hA, hB, hf⟩ := hx hn
  have h0 := List.getElem?_eq_getElem (List.length_pos_iff.2 hn)
  have hlt : b < w.heap.size := World.block_lt_of_cell? w _ (hf 0 _ h0).1
  have hs : (w.alloc o).heap.size = w.heap.size + 1 := by simp
  have hk : ∀ off, w'.cell? ⟨b, off, none⟩ = w.cell? ⟨b, off, none⟩ := fun off => World.cell?_of_block ((hg.block b (by omega) hB.1).trans (Below.heap_alloc w o b hlt))
  refine ⟨b, off, hA, ⟨?_, hB.2⟩, fun i n hi => ⟨(hk _).trans (hf i n hi).1, (hk _).trans (hf i n hi).2⟩⟩
  rcases hat with e | e
  · rw [e]; exact hB.1
  · rw [e]; intro e2; injection e2 with e2; omega
theorem RgNew.apart {N M : Nat} {row : Option Nat} {w : World} {v : Value} {l : List (Int × Int)} (h : RgNew N w v l) (hM : M ≤ N) (hr : ∀ g, row = some g → g < N) : RgApart M row w v l := by
  have h2 := h.out
  obtain ⟨A, cap, hv, hc, hx⟩ := id h2
  refine ⟨A, cap, hv, hc, fun hn => ?_⟩
  obtain ⟨b, off, hA, hf⟩ := hx hn
  have h3 := CR.own_ge h b (by rw [hv, hA]; rfl)
  refine ⟨b, off, hA, ⟨fun e => ?_, Nat.le_trans hM h3⟩, hf⟩
  have := hr b e.symm
  omega
/-- Behind a store into an older block. -/
theorem RgApart.kept {N g0 : Nat} {row : Option Nat} {w w' : World} {v : Value} {l : List (Int × Int)} (h : RgApart N row w v l) (hg : w.grownBy w' (some g0)) (h0 : g0 < N) : RgApart N row w' v l := by
  obtain ⟨A, cap, hv, hc, hx⟩ := h
  refine ⟨A, cap, hv, hc, fun hn => ?_⟩
  obtain ⟨b, off, hA, hB, hf⟩ := hx hn
  have h1 := List.getElem?_eq_getElem (List.length_pos_iff.2 hn)
  have hlt : b < w.heap.size := World.block_lt_of_cell? w _ (hf 0 _ h1).1
  have hk : ∀ off, w'.cell? ⟨b, off, none⟩ = w.cell? ⟨b, off, none⟩ := fun off => World.cell?_of_block (hg.block b hlt (fun e => by injection e with e; omega))
  exact ⟨b, off, hA, hB, fun i n hi => ⟨(hk _).trans (hf i n hi).1, (hk _).trans (hf i n hi).2⟩⟩
theorem flat_at {α : Type} (f : α → List Value) (hf : ∀ x, (f x).length = 9) : ∀ (l : List α) (k : Nat) (x : α) (j : Nat) (u : Value), l[k]? = some x → (f x)[j]? = some u → (l.flatMap f)[k * 9 + j]? = some u
  | [], k, x, j, u, h, _ => by simp at h
  | y :: l, 0, x, j, u, h, hj => by
    obtain rfl : y = x := by simpa using h
    rw [List.flatMap_cons, Nat.zero_mul, Nat.zero_add, List.getElem?_append_left (List.getElem?_eq_some_iff.1 hj).1]
    exact hj
  | y :: l, k + 1, x, j, u, h, hj => by
    have ih := flat_at f hf l k x j u (by simpa using h) hj
    rw [List.flatMap_cons, List.getElem?_append_right (by rw [hf]; omega), hf, show (k + 1) * 9 + j - 9 = k * 9 + j from by omega]
    exact ih
def rsC (us : List (Value × PR)) : List Value := us.flatMap fun x => rcC x.1 x.2
/-- A row of records of the call's own. -/
def RsNew (B : Nat) (w : World) (v : Value) (ls : List PR) : Prop := ∃ us : List (Value × PR), us.map Prod.snd = ls ∧ w.ownsRow B 24 9 v ls.length (rsC us) ∧ ∀ x ∈ us, RgApart B v.ownBlock w x.1 x.2.rungs
theorem RsNew.nil (B : Nat) (w : World) : RsNew B w (.slice none 0 0) [] := ⟨[], rfl, ⟨rfl, .inl ⟨rfl, rfl⟩⟩, fun x h => by cases h⟩
theorem RsNew.below {B : Nat} {w w' : World} {v : Value} {ls : List PR} (h : RsNew B w v ls) (hb : Below w.heap.size w w') : RsNew B w' v ls := by
  obtain ⟨us, h1, h2, h3⟩ := h
  exact ⟨us, h1, ownsRow_below h2 hb, fun x hx => (h3 x hx).below hb⟩
theorem RsNew.out {B : Nat} {w : World} {v : Value} {ls : List PR} (h : RsNew B w v ls) : RsOut w v ls := by
  obtain ⟨us, hm, ho, hr⟩ := h
  rcases ho.2 with ⟨rfl, h0⟩ | ⟨g, cap, cur, rfl, hb, hh, hle, _, _, ht⟩
  · exact ⟨none, 0, by rw [h0], by omega, fun hn => absurd (List.eq_nil_of_length_eq_zero h0) hn⟩
  · refine ⟨_, cap, rfl, hle, fun _ => ⟨g, 0, rfl, fun k r hk => ?_⟩⟩
    have hlt : k < ls.length := (List.getElem?_eq_some_iff.1 hk).1
    rw [← hm, List.getElem?_map] at hk
    obtain ⟨x, hx, rfl⟩ := Option.map_eq_some_iff.1 hk
    refine ⟨x.1, (hr x (List.mem_of_getElem? hx)).out, fun j u hj => ?_⟩
    have hj9 : j < 9 := (List.getElem?_eq_some_iff.1 hj).1
    have e1 : (rsC us)[k * 9 + j]? = some u := flat_at (fun x : Value × PR => rcC x.1 x.2) (fun _ => rfl) us k x j u hx hj
    rw [Nat.zero_add]
    refine (cell_of_row w g (k * 9 + j) cur _ (0, 0) hh).trans ?_
    have h5 : (cur.toList.take (ls.length * 9))[k * 9 + j]? = some u := by rw [ht]; exact e1
    rw [List.getElem?_take, if_pos (by omega)] at h5
    simpa using h5
theorem RsNew.push {B : Nat} {w w' : World} {v v' u : Value} {us : List (Value × PR)} {ls : List PR} {r : PR} {o : Obj} (hm : us.map Prod.snd = ls) (hr : ∀ x ∈ us, RgApart B v.ownBlock w x.1 x.2.rungs) (hx : RgApart B v.ownBlock w u r.rungs)
    (hg : (w.alloc o).grownBy w' v.ownBlock) (hn : w'.ownsRow B 24 9 v' (ls.length + 1) (rsC us ++ rcC u r)) (hat : v'.ownBlock = v.ownBlock ∨ v'.ownBlock = some (w.alloc o).heap.size) : RsNew B w' v' (ls ++ [r]) := by
  refine ⟨us ++ [(u, r)], by rw [List.map_append, hm]; rfl, ?_, fun x hx2 => ?_⟩
  · have e : rsC (us ++ [(u, r)]) = rsC us ++ rcC u r := by
      unfold rsC
      rw [List.flatMap_append, List.flatMap_cons, List.flatMap_nil, List.append_nil]
    rw [e, List.length_append, List.length_singleton]
    exact hn
  · rcases List.mem_append.1 hx2 with h | h
    · exact (hr x h).grown hg hat
    · obtain rfl : x = (u, r) := by simpa using h
      exact hx.grown hg hat
theorem RsNew.kept {B g0 : Nat} {w w' : World} {v : Value} {ls : List PR} (h : RsNew B w v ls) (hg : w.grownBy w' (some g0)) (h0 : g0 < B) : RsNew B w' v ls := by
  obtain ⟨us, hm, ho, hr⟩ := h
  refine ⟨us, hm, ⟨ho.1, ?_⟩, fun x hx => (hr x hx).kept hg h0⟩
  rcases ho.2 with ⟨rfl, h0⟩ | ⟨g', cap, cur, rfl, hg', hh, hr'⟩
  · exact Or.inl ⟨rfl, h0⟩
  · have hlt' : g' < w.heap.size := ownsRow_lt ho rfl
    exact Or.inr ⟨g', cap, cur, rfl, hg', (hg.block g' hlt' (fun e => by injection e; omega)).trans hh, hr'⟩
theorem RsNew.form {B : Nat} {w : World} {v : Value} {ls : List PR} (h : RsNew B w v ls) : ∃ A c, v = .slice A ls.length c := by
  obtain ⟨A, c, hv, _⟩ := h.out
  exact ⟨A, c, hv⟩
end Go.Proofs.YtabbpgnenmpacaaDoor
/-
  While a segment is scanned: the head's variable, that of what is answered, the row of records so far.
-/
set_option linter.unusedSimpArgs false
set_option linter.unusedVariables false
namespace Go.Proofs.YtabbpgnenmpacaaDoor
open Go.RowKit
structure ScI (l : List Nat) (a0 : Nat) (hd : PR) (w : World) (Bd hb : Nat) (uh : Value) (wr : World) (lv : Value) (acc : List PR) (at' : Nat) : Prop where
  st : ScanSt l a0 acc at'
  row : RsNew Bd wr lv acc
  bx : Holds wr hb (rcC uh hd)
  d0 : DVar wr w.heap.size 9
  ap : RgApart (w.heap.size + 1) lv.ownBlock wr uh hd.rungs
  below : Below w.heap.size w wr
  h1 : w.heap.size < Bd
  h2 : hb < Bd
  h3 : Bd ≤ wr.heap.size
theorem ScI.next {l : List Nat} {a0 : Nat} {hd : PR} {w : World} {Bd hb : Nat} {uh : Value} {wr w2 : World} {lv : Value} {acc : List PR} {at' : Nat} (h : ScI l a0 hd w Bd hb uh wr lv acc at') (b : Below wr.heap.size wr w2) : ScI l a0 hd w Bd hb uh w2 lv acc at' :=
  ⟨h.st, h.row.below b, h.bx.below b, h.d0.below b, h.ap.below b, CR.below_next h.below b, h.h1, h.h2, Nat.le_trans h.h3 b.size⟩
theorem ScI.push {l : List Nat} {a0 : Nat} {hd : PR} {w : World} {Bd hb : Nat} {uh : Value} {wr w2 : World} {lv v2 u : Value} {acc : List PR} {at' at2 : Nat} {us : List (Value × PR)} {r : PR} {o : Obj} (h : ScI l a0 hd w Bd hb uh wr lv acc at')
    (hm : us.map Prod.snd = acc) (hr : ∀ x ∈ us, RgApart Bd lv.ownBlock wr x.1 x.2.rungs) (ho : wr.ownsRow Bd 24 9 lv acc.length (rsC us)) (hx : RgApart Bd lv.ownBlock wr u r.rungs)
    (hg : (wr.alloc o).grownBy w2 lv.ownBlock) (hn : w2.ownsRow Bd 24 9 v2 (acc.length + 1) (rsC us ++ rcC u r)) (hat : v2.ownBlock = lv.ownBlock ∨ v2.ownBlock = some (wr.alloc o).heap.size) (hs : ScanSt l a0 (acc ++ [r]) at2) :
    ScI l a0 hd w Bd hb uh w2 v2 (acc ++ [r]) at2 := by
  have hge := CR.own_ge ho
  have e1 : (wr.alloc o).heap.size = wr.heap.size + 1 := by simp
  have h3 := h.h3
  have k : ∀ i, i < Bd → w2.heap[i]? = wr.heap[i]? := fun i hi => (hg.block i (by omega) (fun e => by have := hge i e.symm; omega)).trans (Below.heap_alloc wr o i (by omega))
  have d := h.d0
  have h1 := h.h1
  have h2 := h.h2
  exact ⟨hs, RsNew.push hm hr hx hg hn hat, fun j x hj => (World.cell?_of_block (k hb h2)).trans (h.bx j x hj),
    ⟨by have := hg.size; have := d.lt; omega, fun i hi => by obtain ⟨q, hq⟩ := d.c i hi; exact ⟨q, (World.cell?_of_block (k _ h1)).trans hq⟩, fun i hi => (World.frozen?_of_block (a := ⟨w.heap.size, i, none⟩) (k _ h1)).trans (d.f i hi)⟩,
    h.ap.grown hg hat, Below.grown (h.below.alloc (by omega) o) hg (by omega) (fun i e => by have := hge i e; omega), h1, h2, by have := hg.size; omega⟩
end Go.Proofs.YtabbpgnenmpacaaDoor
