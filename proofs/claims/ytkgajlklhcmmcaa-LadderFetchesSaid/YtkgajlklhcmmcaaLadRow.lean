/-
  Rings in memory, rows of them, for the contracts of layer 14.
-/
import Derived.Test.YtkgajlklhcmmcaaLadMath
import Derived.Test.YtkgajlklhcmmcaaRinRow
set_option linter.unusedSimpArgs false
set_option linter.unusedVariables false
namespace Go.Proofs.Ytkgajlklhcmmcaa
open Go.RowKit
/-- A row of rings. -/
def RiAt (w : World) (b off : Nat) (L : List Rg) : Prop := ∀ (k : Nat) (r : Rg), L[k]? = some r → ∃ A c, w.cell? ⟨b, off + k * 2, none⟩ = some (.int .i64 r.1) ∧ w.cell? ⟨b, off + k * 2 + 1, none⟩ = some (.slice A r.2.length c) ∧ RgOut w (.slice A r.2.length c) r.2
def RiOut (w : World) (v : Value) (L : List Rg) : Prop := ∃ A cap, v = .slice A L.length cap ∧ L.length ≤ cap ∧ (L ≠ [] → ∃ b off, A = some ⟨b, off, none⟩ ∧ RiAt w b off L)
theorem RiAt.below {w w' : World} {b off : Nat} {L : List Rg} (h : RiAt w b off L) (hb : Below w.heap.size w w') : RiAt w' b off L := fun k r hk => by
  obtain ⟨A, c, h1, h2, h3⟩ := h k r hk
  exact ⟨A, c, cellb hb h1, cellb hb h2, h3.below hb⟩
theorem RiOut.below {w w' : World} {v : Value} {L : List Rg} (h : RiOut w v L) (hb : Below w.heap.size w w') : RiOut w' v L := by
  obtain ⟨A, cap, hv, hc, hx⟩ := h
  refine ⟨A, cap, hv, hc, fun hn => ?_⟩
  obtain ⟨b, off, hA, hf⟩ := hx hn
  exact ⟨b, off, hA, hf.below hb⟩
theorem RiOut.nil (w : World) : RiOut w (.slice none 0 0) [] := ⟨none, 0, rfl, Nat.le_refl _, fun h => absurd rfl h⟩
theorem RiOut.form {w : World} {v : Value} {L : List Rg} (h : RiOut w v L) : ∃ A c, v = .slice A L.length c ∧ L.length ≤ c := by
  obtain ⟨A, c, hv, hc, _⟩ := h
  exact ⟨A, c, hv, hc⟩
theorem RgOut.form {w : World} {v : Value} {l : List (Int × Int)} (h : RgOut w v l) : ∃ A c, v = .slice A l.length c ∧ l.length ≤ c := by
  obtain ⟨A, c, hv, hc, _⟩ := h
  exact ⟨A, c, hv, hc⟩
/-- A row of slots that lies in none of some blocks. -/
def RgFar (S : List Nat) (w : World) (v : Value) (l : List (Int × Int)) : Prop := ∃ A cap, v = .slice A l.length cap ∧ l.length ≤ cap ∧ (l ≠ [] → ∃ b off, A = some ⟨b, off, none⟩ ∧ b ∉ S ∧ RgAt w b off l)
theorem RgFar.out {S : List Nat} {w : World} {v : Value} {l : List (Int × Int)} (h : RgFar S w v l) : RgOut w v l := by
  obtain ⟨A, cap, hv, hc, hx⟩ := h
  refine ⟨A, cap, hv, hc, fun hn => ?_⟩
  obtain ⟨b, off, hA, _, hf⟩ := hx hn
  exact ⟨b, off, hA, hf⟩
/-- Behind a turn of those blocks alone; new ones may come to them. -/
theorem RgFar.step {S S' : List Nat} {w w' : World} {v : Value} {l : List (Int × Int)} (h : RgFar S w v l) (hk : ∀ b, b < w.heap.size → b ∉ S → w'.heap[b]? = w.heap[b]?) (hat : ∀ z ∈ S', z ∈ S ∨ w.heap.size ≤ z) : RgFar S' w' v l := by
  obtain ⟨A, cap, hv, hc, hx⟩ := h
  refine ⟨A, cap, hv, hc, fun hn => ?_⟩
  obtain ⟨b, off, hA, hB, hf⟩ := hx hn
  have h0 := List.getElem?_eq_getElem (List.length_pos_iff.2 hn)
  have hlt : b < w.heap.size := World.block_lt_of_cell? w _ (hf 0 _ h0).1
  have hk : ∀ off, w'.cell? ⟨b, off, none⟩ = w.cell? ⟨b, off, none⟩ := fun off => World.cell?_of_block (hk b hlt hB)
  refine ⟨b, off, hA, fun e => ?_, fun i n hi => ⟨(hk _).trans (hf i n hi).1, (hk _).trans (hf i n hi).2⟩⟩
  rcases hat b e with e | e
  · exact hB e
  · omega
theorem RgFar.below {S : List Nat} {w w' : World} {v : Value} {l : List (Int × Int)} (h : RgFar S w v l) (hb : Below w.heap.size w w') : RgFar S w' v l := h.step (fun b hlt _ => hb.block b hlt) (fun z hz => .inl hz)
theorem RgFar.less {S S' : List Nat} {w : World} {v : Value} {l : List (Int × Int)} (h : RgFar S w v l) (hs : ∀ z ∈ S', z ∈ S ∨ w.heap.size ≤ z) : RgFar S' w v l := h.step (fun _ _ _ => rfl) hs
theorem RgOut.far {S : List Nat} {w : World} {v : Value} {l : List (Int × Int)} (h : RgOut w v l) (hr : ∀ z ∈ S, w.heap.size ≤ z) : RgFar S w v l := by
  obtain ⟨A, cap, hv, hc, hx⟩ := h
  refine ⟨A, cap, hv, hc, fun hn => ?_⟩
  obtain ⟨b, off, hA, hf⟩ := hx hn
  have h0 := List.getElem?_eq_getElem (List.length_pos_iff.2 hn)
  have hlt : b < w.heap.size := World.block_lt_of_cell? w _ (hf 0 _ h0).1
  exact ⟨b, off, hA, fun e => by have := hr b e; omega, hf⟩
theorem RgNew.far {N : Nat} {S : List Nat} {w : World} {v : Value} {l : List (Int × Int)} (h : RgNew N w v l) (hr : ∀ z ∈ S, z < N ∨ w.heap.size ≤ z) : RgFar S w v l := by
  obtain ⟨A, c, hv, hc, hp⟩ := own_form h
  obtain ⟨A', c', hv', hc', hx⟩ := h.out
  rw [hv] at hv'
  injection hv' with e1 e2 e3
  subst e1
  subst e3
  refine ⟨A, c, hv, hc', fun hn => ?_⟩
  obtain ⟨b, off, hA, hf⟩ := hx hn
  obtain ⟨g, hg, hB, hl⟩ := hp (List.length_pos_iff.2 hn)
  rw [hA] at hg
  injection hg with hg
  injection hg with hg _ _
  subst hg
  exact ⟨b, off, hA, fun e => by have := hr b e; omega, hf⟩
/-- The cells of a row of rings. -/
def riC (P : List (Value × Rg)) : List Value := P.flatMap fun x => [.int .i64 x.2.1, x.1]
theorem riC_app (a b : List (Value × Rg)) : riC (a ++ b) = riC a ++ riC b := by unfold riC; rw [List.flatMap_append]
theorem riC_length (P : List (Value × Rg)) : (riC P).length = P.length * 2 := by
  induction P with
  | nil => rfl
  | cons g l ih => show ([_, _] ++ riC l).length = _; rw [List.length_append, ih, List.length_cons]; simp; omega
theorem riC_at : ∀ (P : List (Value × Rg)) (k : Nat) (x : Value × Rg), P[k]? = some x → (riC P)[k * 2]? = some (.int .i64 x.2.1) ∧ (riC P)[k * 2 + 1]? = some x.1
  | [], k, x, h => by simp at h
  | y :: P, 0, x, h => by
    obtain rfl : y = x := by simpa using h
    exact ⟨rfl, rfl⟩
  | y :: P, k + 1, x, h => by
    have ih := riC_at P k x (by simpa using h)
    have e : riC (y :: P) = .int .i64 y.2.1 :: y.1 :: riC P := rfl
    rw [e, show (k + 1) * 2 = k * 2 + 1 + 1 from by omega, List.getElem?_cons_succ, List.getElem?_cons_succ, show k * 2 + 1 + 1 + 1 = k * 2 + 1 + 1 + 1 from rfl, List.getElem?_cons_succ, List.getElem?_cons_succ]
    exact ih
theorem riC_set : ∀ (P : List (Value × Rg)) (k : Nat) (u : Value) (r : Rg), riC (P.set k (u, r)) = ((riC P).set (k * 2) (.int .i64 r.1)).set (k * 2 + 1) u
  | [], k, u, r => rfl
  | g :: P, 0, u, r => rfl
  | g :: P, k + 1, u, r => by
    have ih := riC_set P k u r
    have e : ∀ (p : Value × Rg) (m : List (Value × Rg)), riC (p :: m) = .int .i64 p.2.1 :: p.1 :: riC m := fun _ _ => rfl
    rw [List.set_cons_succ, e, e, ih, show (k + 1) * 2 = k * 2 + 1 + 1 from by omega, List.set_cons_succ, List.set_cons_succ, List.set_cons_succ, List.set_cons_succ]
/-- A row of rings of a call's own, in none of some blocks; their slots lie elsewhere, and in none of these, too. -/
def RiNew (B : Nat) (S : List Nat) (w : World) (v : Value) (L : List Rg) : Prop := ∃ P : List (Value × Rg), P.map Prod.snd = L ∧ w.ownsRow B 53 2 v L.length (riC P) ∧ (∀ g, v.ownBlock = some g → g ∉ S) ∧ ∀ x ∈ P, RgFar (v.ownBlock.toList ++ S) w x.1 x.2.2
theorem RiNew.nil (B : Nat) (S : List Nat) (w : World) : RiNew B S w (.slice none 0 0) [] := ⟨[], rfl, ⟨rfl, .inl ⟨rfl, rfl⟩⟩, fun g h => by simp [Value.ownBlock] at h, fun x h => by cases h⟩
/-- Behind a turn of these blocks alone. -/
theorem RiNew.kept {B : Nat} {S : List Nat} {w w' : World} {v : Value} {L : List Rg} (h : RiNew B S w v L) (hk : ∀ b, b < w.heap.size → b ∉ S → w'.heap[b]? = w.heap[b]?) : RiNew B S w' v L := by
  obtain ⟨P, h1, h2, h3, h4⟩ := h
  exact ⟨P, h1, own_keep h2 (fun g _ hl e => hk g hl (h3 g e)), h3, fun x hx => (h4 x hx).step (fun b hlt hb => hk b hlt (fun e => hb (List.mem_append_right _ e))) (fun z hz => .inl hz)⟩
theorem RiNew.below {B : Nat} {S : List Nat} {w w' : World} {v : Value} {L : List Rg} (h : RiNew B S w v L) (hb : Below w.heap.size w w') : RiNew B S w' v L := h.kept (fun b hlt _ => hb.block b hlt)
theorem RiNew.mono {B B' : Nat} {S : List Nat} {w : World} {v : Value} {L : List Rg} (h : RiNew B' S w v L) (hB : B ≤ B') : RiNew B S w v L := by
  obtain ⟨P, h1, h2, h3⟩ := h
  refine ⟨P, h1, ⟨h2.1, ?_⟩, h3⟩
  rcases h2.2 with h0 | ⟨g, cap, cur, hv, hg, hr⟩
  · exact Or.inl h0
  · exact Or.inr ⟨g, cap, cur, hv, Nat.le_trans hB hg, hr⟩
theorem RiNew.less {B : Nat} {S S' : List Nat} {w : World} {v : Value} {L : List Rg} (h : RiNew B S w v L) (hs : ∀ z ∈ S', z ∈ S ∨ w.heap.size ≤ z) : RiNew B S' w v L := by
  obtain ⟨P, h1, h2, h3, h4⟩ := h
  refine ⟨P, h1, h2, fun g e hg => ?_, fun x hx => (h4 x hx).less fun z hz => ?_⟩
  · rcases hs g hg with h | h
    · exact h3 g e h
    · have := (own_lt h2 e).2; omega
  · rcases List.mem_append.1 hz with h | h
    · exact .inl (List.mem_append_left _ h)
    · rcases hs z h with h | h
      · exact .inl (List.mem_append_right _ h)
      · exact .inr h
theorem RiNew.at {B g c k : Nat} {S : List Nat} {w : World} {n : Nat} {L : List Rg} {r : Rg} (h : RiNew B S w (.slice (some ⟨g, 0, none⟩) n c) L) (hn : L.length = n) (hk : L[k]? = some r) :
    ∃ A d, w.cell? ⟨g, k * 2, none⟩ = some (.int .i64 r.1) ∧ w.cell? ⟨g, k * 2 + 1, none⟩ = some (.slice A r.2.length d) ∧ RgFar (g :: S) w (.slice A r.2.length d) r.2 ∧ w.frozen? ⟨g, k * 2, none⟩ = false ∧ w.frozen? ⟨g, k * 2 + 1, none⟩ = false := by
  obtain ⟨P, hm, ho, -, hr⟩ := h
  rw [hn] at ho
  rw [← hm, List.getElem?_map] at hk
  obtain ⟨x, hx, rfl⟩ := Option.map_eq_some_iff.1 hk
  obtain ⟨e1, e2⟩ := riC_at P k x hx
  obtain ⟨c1, f1⟩ := own_cell ho e1
  obtain ⟨c2, f2⟩ := own_cell ho e2
  have hf : RgFar (g :: S) w x.1 x.2.2 := hr x (List.mem_of_getElem? hx)
  obtain ⟨A, d, hv, _, _⟩ := id hf
  rw [hv] at hf c2
  exact ⟨A, d, c1, c2, hf, f1, f2⟩
theorem RiNew.out {B : Nat} {S : List Nat} {w : World} {v : Value} {L : List Rg} (h : RiNew B S w v L) : RiOut w v L := by
  obtain ⟨P, hm, ho, hr⟩ := id h
  obtain ⟨A, c, hv, hc, hp⟩ := own_form ho
  refine ⟨A, c, hv, hc, fun hn => ?_⟩
  obtain ⟨g, rfl, _, _⟩ := hp (List.length_pos_iff.2 hn)
  subst hv
  refine ⟨g, 0, rfl, fun k r hk => ?_⟩
  obtain ⟨A, d, h1, h2, h3, _⟩ := h.at rfl hk
  exact ⟨A, d, by rw [Nat.zero_add]; exact h1, by rw [Nat.zero_add]; exact h2, h3.out⟩
theorem RiNew.form {B : Nat} {S : List Nat} {w : World} {v : Value} {L : List Rg} (h : RiNew B S w v L) : ∃ A c, v = .slice A L.length c ∧ L.length ≤ c ∧ (0 < L.length → ∃ g, A = some ⟨g, 0, none⟩ ∧ B ≤ g ∧ g < w.heap.size ∧ g ∉ S) := by
  obtain ⟨P, hm, ho, hr, _⟩ := h
  obtain ⟨A, c, hv, hc, hx⟩ := own_form ho
  refine ⟨A, c, hv, hc, fun h0 => ?_⟩
  obtain ⟨g, hA, h1, h2⟩ := hx h0
  exact ⟨g, hA, h1, h2, hr g (by rw [hv, hA]; rfl)⟩
/-- A ring is appended. -/
theorem RiNew.push {B n : Nat} {S : List Nat} {w w' : World} {v v' u : Value} {P : List (Value × Rg)} {L : List Rg} {r : Rg} {o : Obj} (hm : P.map Prod.snd = L) (hs : ∀ g, v.ownBlock = some g → g ∉ S) (hr : ∀ x ∈ P, RgFar (v.ownBlock.toList ++ S) w x.1 x.2.2) (hx : RgFar (v.ownBlock.toList ++ S) w u r.2)
    (hg : (w.alloc o).grownBy w' v.ownBlock) (hn : w'.ownsRow B 53 2 v' (n + 1) (riC P ++ [.int .i64 r.1, u])) (hat : v'.ownBlock = v.ownBlock ∨ v'.ownBlock = some (w.alloc o).heap.size) (hS : ∀ z ∈ S, z < w.heap.size) (hl : L.length = n) : RiNew B S w' v' (L ++ [r]) := by
  have hsz : (w.alloc o).heap.size = w.heap.size + 1 := by simp
  have key : ∀ (u : Value) (l : List (Int × Int)), RgFar (v.ownBlock.toList ++ S) w u l → RgFar (v'.ownBlock.toList ++ S) w' u l := fun u l h => h.step (fun b hlt hne => (hg.block b (by omega) (fun e => hne (List.mem_append_left _ (by rw [← e]; simp)))).trans (Below.heap_alloc w o b hlt)) (fun z hz => by
    rcases List.mem_append.1 hz with hz | hz
    · rcases hat with e | e
      · rw [e] at hz; exact .inl (List.mem_append_left _ hz)
      · rw [e] at hz; simp at hz; exact .inr (by omega)
    · exact .inl (List.mem_append_right _ hz))
  refine ⟨P ++ [(u, r)], by rw [List.map_append, hm]; rfl, ?_, fun g e hgS => ?_, fun x hx2 => ?_⟩
  · rw [riC_app, List.length_append, List.length_singleton, hl]
    exact hn
  · rcases hat with h | h
    · exact hs g (by rw [← h, e]) hgS
    · rw [h] at e
      injection e with e
      have := hS g hgS
      omega
  · rcases List.mem_append.1 hx2 with h | h
    · exact key _ _ (hr x h)
    · obtain rfl : x = (u, r) := by simpa using h
      exact key _ _ hx
/-- A ring of a row of one's own is stored anew. -/
theorem RiNew.put {B g c k n : Nat} {S : List Nat} {w : World} {L : List Rg} (h : RiNew B S w (.slice (some ⟨g, 0, none⟩) n c) L) (hn : L.length = n) (hk : k < n) {u : Value} {r : Rg} (hu : RgFar (g :: S) w u r.2) :
    RiNew B S ((w.setCell ⟨g, k * 2, none⟩ (.int .i64 r.1)).setCell ⟨g, k * 2 + 1, none⟩ u) (.slice (some ⟨g, 0, none⟩) n c) (L.set k r) := by
  obtain ⟨P, hm, ho, hs, hr⟩ := h
  have key : ∀ (u' : Value) (l : List (Int × Int)), RgFar (g :: S) w u' l → RgFar (g :: S) ((w.setCell ⟨g, k * 2, none⟩ (.int .i64 r.1)).setCell ⟨g, k * 2 + 1, none⟩ u) u' l := fun u' l h => h.step (fun b hlt hne => by
    have hne2 : g ≠ b := fun e => hne (by rw [e]; simp)
    simp [World.setCell, Array.getElem?_modify, hne2]) (fun z hz => .inl hz)
  refine ⟨P.set k (u, r), by rw [List.map_set, hm], ?_, hs, fun x hx => ?_⟩
  · rw [List.length_set, hn]
    rw [hn] at ho
    obtain ⟨h0, h1⟩ := ho
    refine ⟨by rw [riC_length, List.length_set, ← hn, ← hm, List.length_map], ?_⟩
    rcases h1 with ⟨hv, _⟩ | ⟨g', cap, cur, hv, hb, hh, hle, h4, h5, ht⟩
    · cases hv
    · injection hv with e1 e2 e3
      injection e1 with e1
      injection e1 with e1 _ _
      subst e1
      subst e3
      refine Or.inr ⟨g, c, (cur.setIfInBounds (k * 2) (.int .i64 r.1)).setIfInBounds (k * 2 + 1) u, rfl, hb, ?_, hle, by simpa using h4, by simpa using h5, ?_⟩
      · simp [World.setCell, Array.getElem?_modify, hh]
      · rw [riC_set, ← ht]
        simp only [Array.toList_setIfInBounds]
        rw [List.take_set, List.take_set]
  · rcases List.mem_or_eq_of_mem_set hx with h | h
    · exact key _ _ (hr x h)
    · subst h
      exact key _ _ hu
theorem ring_info : (Try.prog.info? 53).map (fun i => (i.zero, i.size, i.bytes)) = some (some (.agg #[.int .i64 0, .slice none 0 0]), 2, 32) := by kernel_rfl
end Go.Proofs.Ytkgajlklhcmmcaa
