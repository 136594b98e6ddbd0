/-
  Memory for the contracts of layer 11: texts, rows of texts, of pairs, of sections.
-/
import Derived.Test.YtodlgbihdehmbaaGreatDoorCfgMathP
import Derived.Test.YtodlgbihdehmbaaGreatDoorMemRowP
import Derived.Test.YtodlgbihdehmbaaGreatDoorProg
import Derived.WalkKit
import Derived.WalkSmall
import Derived.Lib.Hide
import Derived.Deep.MidRow
import Derived.Deep.DeepCutAuto
import Derived.Deep.QuietTactic
import Derived.Deep.AppendLies
import Derived.Maps.AppendAt
import Derived.Laws.OwnMore
import Derived.Laws.Strings2
import Derived.Laws.DeepStrings4
import Derived.Laws.Cover1
import Derived.BigQuiet
import Derived.BigRegion
set_option linter.unusedSimpArgs false
set_option linter.unusedVariables false
namespace Go.Proofs.YtodlgbihdehmbaaGreatDoor.Cf
open Go.RowKit
theorem heap_alloc_new (w : World) (o : Obj) : (w.alloc o).heap[w.heap.size]? = some o := by
  show (w.heap.push o)[w.heap.size]? = some o
  exact Array.getElem?_push_size
theorem bnext {a b c : World} (h : Below a.heap.size a b) (k : Below b.heap.size b c) : Below a.heap.size a c := h.trans (k.mono h.size)
theorem alloc_below (w : World) (o : Obj) : Below w.heap.size w (w.alloc o) := (Below.refl _ _).alloc (Nat.le_refl _) o
theorem cellb {w w' : World} (hb : Below w.heap.size w w') {b o : Nat} {u : Value} (h : w.cell? ⟨b, o, none⟩ = some u) : w'.cell? ⟨b, o, none⟩ = some u := (hb.cell (World.block_lt_of_cell? w _ h)).trans h
theorem ret_str {a b : ByteArray} (h : a = b) : Ending.returned (.string a) = .returned (.string b) := by rw [h]
theorem bs_small (s : ByteArray) : ∀ c ∈ bs s, c < 256 := fun c hc => by
  unfold bs at hc
  rw [List.mem_map] at hc
  obtain ⟨b, _, rfl⟩ := hc
  exact UInt8.toNat_lt b
theorem bs_nil_iff (s : ByteArray) : s.toList.isEmpty = true ↔ bs s = [] := by
  rw [List.isEmpty_iff, ByteArray.toList_eq]; simp [bs]
theorem str_extract {l : List Nat} (i j : Nat) : (str l).extract i j = str ((l.drop i).take (j - i)) := by
  unfold str
  rw [ByteArray.extract_mk, List.map_take, List.map_drop]
theorem text_info : (Tryz.prog.info? 9).map (fun i => (i.zero, i.size, i.bytes)) = some (some (.string ⟨#[]⟩), 1, 16) := by kernel_rfl
def txC (ls : List (List Nat)) : List Value := ls.map fun t => .string (str t)
def TxNew (B : Nat) (w : World) (v : Value) (ls : List (List Nat)) : Prop := w.ownsRow B 9 1 v ls.length (txC ls)
theorem TxNew.cellAt {B : Nat} {w : World} {g n c : Nat} {ls : List (List Nat)} (h : TxNew B w (.slice (some ⟨g, 0, none⟩) n c) ls) {k : Nat} {t : List Nat} (hk : ls[k]? = some t) : w.cell? ⟨g, k, none⟩ = some (.string (str t)) ∧ w.frozen? ⟨g, k, none⟩ = false := by
  have hlt : k < ls.length := (List.getElem?_eq_some_iff.1 hk).1
  rcases h.2 with ⟨h, _⟩ | ⟨g', cap, cur, hv, hg, hh, hc, _, _, ht⟩
  · cases h
  · injection hv with e1 e2 e3
    injection e1 with e1
    injection e1 with e1 _ _
    subst e1
    refine ⟨(cell_of_row w g k cur _ (0, 0) hh).trans ?_, frozen_of_row w g k cur _ hh⟩
    have h5 : (cur.toList.take (ls.length * 1))[k]? = some (.string (str t)) := by rw [ht]; unfold txC; rw [List.getElem?_map, hk]; rfl
    rw [List.getElem?_take, if_pos (by omega)] at h5
    simpa using h5
theorem TxNew.push {B : Nat} {w : World} {v : Value} {ls : List (List Nat)} {t : List Nat} (h : w.ownsRow B 9 1 v (ls.length + 1) (txC ls ++ [.string (str t)])) : TxNew B w v (ls ++ [t]) := by
  unfold TxNew txC
  rw [List.length_append, List.length_singleton, List.map_append]
  exact h
theorem pair_info : (Tryz.prog.info? 97).map (fun i => (i.zero, i.size, i.bytes)) = some (some (.agg #[.string ⟨#[]⟩, .string ⟨#[]⟩]), 2, 32) := by kernel_rfl
theorem sec_info : (Tryz.prog.info? 63).map (fun i => (i.zero, i.size, i.bytes)) = some (some (.agg #[.string ⟨#[]⟩, .slice none 0 0]), 2, 40) := by kernel_rfl
def kvC1 (p : KV) : List Value := [.string (str p.1), .string (str p.2)]
def kvC (l : List KV) : List Value := l.flatMap kvC1
theorem kvC_app (a b : List KV) : kvC (a ++ b) = kvC a ++ kvC b := by unfold kvC; rw [List.flatMap_append]
theorem flat2_at {α : Type} (f : α → List Value) (hf : ∀ x, (f x).length = 2) : ∀ (l : List α) (k : Nat) (x : α) (j : Nat) (u : Value), l[k]? = some x → (f x)[j]? = some u → (l.flatMap f)[k * 2 + j]? = some u
  | [], k, x, j, u, h, _ => by simp at h
  | y :: l, 0, x, j, u, h, hj => by
    obtain rfl : y = x := by simpa using h
    rw [List.flatMap_cons, Nat.zero_mul, Nat.zero_add, List.getElem?_append_left (List.getElem?_eq_some_iff.1 hj).1]
    exact hj
  | y :: l, k + 1, x, j, u, h, hj => by
    have ih := flat2_at f hf l k x j u (by simpa using h) hj
    rw [List.flatMap_cons, List.getElem?_append_right (by rw [hf]; omega), hf, show (k + 1) * 2 + j - 2 = k * 2 + j from by omega]
    exact ih
theorem flat2_length {α : Type} (f : α → List Value) (hf : ∀ x, (f x).length = 2) : ∀ (l : List α), (l.flatMap f).length = l.length * 2
  | [] => rfl
  | x :: l => by rw [List.flatMap_cons, List.length_append, hf, flat2_length f hf l, List.length_cons]; omega
def KvAt (w : World) (b : Nat) (l : List KV) : Prop := ∀ (k : Nat) (p : KV), l[k]? = some p → w.cell? ⟨b, k * 2, none⟩ = some (.string (str p.1)) ∧ w.cell? ⟨b, k * 2 + 1, none⟩ = some (.string (str p.2))
def KvOut (w : World) (v : Value) (l : List KV) : Prop := ∃ A cap, v = .slice A l.length cap ∧ l.length ≤ cap ∧ (l ≠ [] → ∃ b, A = some ⟨b, 0, none⟩ ∧ KvAt w b l)
theorem KvAt.below {w w' : World} {b : Nat} {l : List KV} (h : KvAt w b l) (hb : Below w.heap.size w w') : KvAt w' b l := fun k p hk => ⟨cellb hb (h k p hk).1, cellb hb (h k p hk).2⟩
theorem KvOut.below {w w' : World} {v : Value} {l : List KV} (h : KvOut w v l) (hb : Below w.heap.size w w') : KvOut w' v l := by
  obtain ⟨A, cap, hv, hc, hx⟩ := h
  refine ⟨A, cap, hv, hc, fun hn => ?_⟩
  obtain ⟨b, hA, hf⟩ := hx hn
  exact ⟨b, hA, hf.below hb⟩
def KvNew (B : Nat) (w : World) (v : Value) (l : List KV) : Prop := w.ownsRow B 97 2 v l.length (kvC l)
theorem KvNew.nil (B : Nat) (w : World) : KvNew B w (.slice none 0 0) [] := ⟨rfl, .inl ⟨rfl, rfl⟩⟩
/-- An owned row behind a turn of other blocks. -/
theorem own_keep {B n : Nat} {e : TypeId} {size : Nat} {w w' : World} {v : Value} {xs : List Value} (h : w.ownsRow B e size v n xs) (hk : ∀ g, B ≤ g → g < w.heap.size → v.ownBlock = some g → w'.heap[g]? = w.heap[g]?) : w'.ownsRow B e size v n xs := by
  refine ⟨h.1, ?_⟩
  rcases h.2 with ⟨rfl, h0⟩ | ⟨g, cap, cur, rfl, hg, hh, hr⟩
  · exact Or.inl ⟨rfl, h0⟩
  · exact Or.inr ⟨g, cap, cur, rfl, hg, (hk g hg (Array.getElem?_eq_some_iff.1 hh).1 rfl).trans hh, hr⟩
theorem own_lt {B n : Nat} {e : TypeId} {size : Nat} {w : World} {v : Value} {xs : List Value} (h : w.ownsRow B e size v n xs) {g : Nat} (hg : v.ownBlock = some g) : B ≤ g ∧ g < w.heap.size := by
  rcases h.2 with ⟨rfl, _⟩ | ⟨g', cap, cur, rfl, hb, hh, _⟩
  · cases hg
  · obtain rfl : g' = g := by simpa [Value.ownBlock] using hg
    exact ⟨hb, (Array.getElem?_eq_some_iff.1 hh).1⟩
theorem own_cell {B n : Nat} {e : TypeId} {size g c : Nat} {w : World} {xs : List Value} (h : w.ownsRow B e size (.slice (some ⟨g, 0, none⟩) n c) n xs) {j : Nat} {u : Value} (hj : xs[j]? = some u) : w.cell? ⟨g, j, none⟩ = some u ∧ w.frozen? ⟨g, j, none⟩ = false := by
  rcases h.2 with ⟨hv, _⟩ | ⟨g', cap, cur, hv, hb, hh, hle, _, _, ht⟩
  · cases hv
  · injection hv with e1 e2 e3
    injection e1 with e1
    injection e1 with e1 _ _
    subst e1
    refine ⟨(cell_of_row w g j cur _ (0, 0) hh).trans ?_, frozen_of_row w g j cur _ hh⟩
    have hlt := (List.getElem?_eq_some_iff.1 hj).1
    have h5 : (cur.toList.take (n * size))[j]? = some u := by rw [ht]; exact hj
    have hl := h.1
    rw [List.getElem?_take, if_pos (by omega)] at h5
    simpa using h5
theorem own_form {B n : Nat} {e : TypeId} {size : Nat} {w : World} {v : Value} {xs : List Value} (h : w.ownsRow B e size v n xs) : ∃ A c, v = .slice A n c ∧ n ≤ c ∧ (0 < n → ∃ g, A = some ⟨g, 0, none⟩ ∧ B ≤ g ∧ g < w.heap.size) := by
  rcases h.2 with ⟨rfl, h0⟩ | ⟨g, cap, cur, rfl, hb, hh, hle, _⟩
  · exact ⟨none, 0, by rw [h0], by omega, fun h => by omega⟩
  · exact ⟨_, cap, rfl, hle, fun _ => ⟨g, rfl, hb, (Array.getElem?_eq_some_iff.1 hh).1⟩⟩
/-- A store into an owned row. -/
theorem own_put {B n : Nat} {e : TypeId} {size g c : Nat} {w : World} {xs : List Value} (h : w.ownsRow B e size (.slice (some ⟨g, 0, none⟩) n c) n xs) {j : Nat} (hj : j < n * size) (u : Value) : (w.setCell ⟨g, j, none⟩ u).ownsRow B e size (.slice (some ⟨g, 0, none⟩) n c) n (xs.set j u) := by
  refine ⟨by rw [List.length_set]; exact h.1, ?_⟩
  rcases h.2 with ⟨h, _⟩ | ⟨g', cap, cur, hv, hg, hh, hc, hm, hs, ht⟩
  · cases h
  · injection hv with e1 e2 e3
    injection e1 with e1
    injection e1 with e1 _ _
    subst e1 e3
    refine Or.inr ⟨g, c, cur.setIfInBounds j u, rfl, hg, ?_, hc, hm, by rw [Array.size_setIfInBounds]; exact hs, ?_⟩
    · simp [World.setCell, Array.getElem?_modify, hh]
    · rw [Array.toList_setIfInBounds, List.take_set, ht]
theorem KvNew.out {B : Nat} {w : World} {v : Value} {l : List KV} (h : KvNew B w v l) : KvOut w v l := by
  obtain ⟨A, c, rfl, hc, hx⟩ := own_form h
  refine ⟨A, c, rfl, hc, fun hn => ?_⟩
  obtain ⟨g, rfl, _, _⟩ := hx (List.length_pos_iff.2 hn)
  refine ⟨g, rfl, fun k p hk => ⟨?_, ?_⟩⟩
  · exact (own_cell h (flat2_at kvC1 (fun _ => rfl) l k p 0 _ hk rfl)).1
  · exact (own_cell h (flat2_at kvC1 (fun _ => rfl) l k p 1 _ hk rfl)).1
def scC1 (x : Value × Sec) : List Value := [.string (str x.2.1), x.1]
def scC (us : List (Value × Sec)) : List Value := us.flatMap scC1
theorem scC_app (a b : List (Value × Sec)) : scC (a ++ b) = scC a ++ scC b := by unfold scC; rw [List.flatMap_append]
theorem scC_length (us : List (Value × Sec)) : (scC us).length = us.length * 2 := flat2_length scC1 (fun _ => rfl) us
def SecAt (w : World) (b : Nat) (L : List Sec) : Prop := ∀ (k : Nat) (x : Sec), L[k]? = some x → ∃ u, w.cell? ⟨b, k * 2, none⟩ = some (.string (str x.1)) ∧ w.cell? ⟨b, k * 2 + 1, none⟩ = some u ∧ KvOut w u x.2
def SecOut (w : World) (v : Value) (L : List Sec) : Prop := ∃ A cap, v = .slice A L.length cap ∧ L.length ≤ cap ∧ (L ≠ [] → ∃ b, A = some ⟨b, 0, none⟩ ∧ SecAt w b L)
theorem SecAt.below {w w' : World} {b : Nat} {L : List Sec} (h : SecAt w b L) (hb : Below w.heap.size w w') : SecAt w' b L := fun k x hk => by
  obtain ⟨u, h1, h2, h3⟩ := h k x hk
  exact ⟨u, cellb hb h1, cellb hb h2, h3.below hb⟩
theorem SecOut.below {w w' : World} {v : Value} {L : List Sec} (h : SecOut w v L) (hb : Below w.heap.size w w') : SecOut w' v L := by
  obtain ⟨A, cap, hv, hc, hx⟩ := h
  refine ⟨A, cap, hv, hc, fun hn => ?_⟩
  obtain ⟨b, hA, hf⟩ := hx hn
  exact ⟨b, hA, hf.below hb⟩
theorem SecOut.nil (w : World) : SecOut w (.slice none 0 0) [] := ⟨none, 0, rfl, Nat.le_refl _, fun h => absurd rfl h⟩
/-- The sections of a call's own, with what is said of their values: none lies in another's block. -/
structure ScUs (B : Nat) (w : World) (v : Value) (us : List (Value × Sec)) : Prop where
  row : w.ownsRow B 63 2 v us.length (scC us)
  kv : ∀ x ∈ us, KvNew B w x.1 x.2.2
  far : ∀ x ∈ us, ∀ g, v.ownBlock = some g → x.1.ownBlock ≠ some g
  last : ∀ a z, us = a ++ [z] → ∀ x ∈ a, ∀ g, z.1.ownBlock = some g → x.1.ownBlock ≠ some g
theorem ScUs.nil (B : Nat) (w : World) : ScUs B w (.slice none 0 0) [] := ⟨⟨rfl, .inl ⟨rfl, rfl⟩⟩, (fun x h => (by cases h)), (fun x h => (by cases h)), (fun a z h => (by simp at h))⟩
theorem ScUs.keep {B : Nat} {w w' : World} {v : Value} {us : List (Value × Sec)} (h : ScUs B w v us) (hk : ∀ g, B ≤ g → g < w.heap.size → w'.heap[g]? = w.heap[g]?) : ScUs B w' v us :=
  ⟨own_keep h.row (fun g h1 h2 _ => hk g h1 h2), fun x hx => own_keep (h.kv x hx) (fun g h1 h2 _ => hk g h1 h2), h.far, h.last⟩
theorem ScUs.below {B : Nat} {w w' : World} {v : Value} {us : List (Value × Sec)} (h : ScUs B w v us) (hb : Below w.heap.size w w') : ScUs B w' v us := h.keep fun g _ hl => hb.block g hl
theorem ScUs.cells {B : Nat} {w : World} {g n c : Nat} {us : List (Value × Sec)} (h : ScUs B w (.slice (some ⟨g, 0, none⟩) n c) us) {k : Nat} {x : Value × Sec} (hk : us[k]? = some x) :
    w.cell? ⟨g, k * 2, none⟩ = some (.string (str x.2.1)) ∧ w.cell? ⟨g, k * 2 + 1, none⟩ = some x.1 ∧ w.frozen? ⟨g, k * 2 + 1, none⟩ = false := by
  obtain ⟨A, c', hv, _⟩ := own_form h.row
  have hn : n = us.length := by injection hv
  subst hn
  have h1 := own_cell h.row (flat2_at scC1 (fun _ => rfl) us k x 0 _ hk rfl)
  have h2 := own_cell h.row (flat2_at scC1 (fun _ => rfl) us k x 1 _ hk rfl)
  exact ⟨h1.1, h2.1, h2.2⟩
theorem ScUs.form {B : Nat} {w : World} {v : Value} {us : List (Value × Sec)} (h : ScUs B w v us) : ∃ A c, v = .slice A us.length c ∧ us.length ≤ c ∧ (0 < us.length → ∃ g, A = some ⟨g, 0, none⟩ ∧ B ≤ g ∧ g < w.heap.size) := own_form h.row
theorem ScUs.out {B : Nat} {w : World} {v : Value} {us : List (Value × Sec)} (h : ScUs B w v us) : SecOut w v (us.map Prod.snd) := by
  obtain ⟨A, c, rfl, hc, hx⟩ := h.form
  refine ⟨A, c, by rw [List.length_map], by rw [List.length_map]; exact hc, fun hn => ?_⟩
  have hp : 0 < us.length := by
    have := List.length_pos_iff.2 hn
    rwa [List.length_map] at this
  obtain ⟨g, rfl, _, _⟩ := hx hp
  refine ⟨g, rfl, fun k x hk => ?_⟩
  rw [List.getElem?_map] at hk
  obtain ⟨y, hy, rfl⟩ := Option.map_eq_some_iff.1 hk
  obtain ⟨c1, c2, _⟩ := h.cells hy
  exact ⟨y.1, c1, c2, (h.kv y (List.mem_of_getElem? hy)).out⟩
/-- One section more, without a key. -/
theorem ScUs.push {B : Nat} {w w' : World} {v : Value} {us : List (Value × Sec)} {n : List Nat} {g cap : Nat} (h : ScUs B w v us)
    (hn : w'.ownsRow B 63 2 (.slice (some ⟨g, 0, none⟩) (us.length + 1) cap) (us.length + 1) (scC us ++ [.string (str n), .slice none 0 0])) (hg : w.grownBy w' v.ownBlock) (hat : v.ownBlock = some g ∨ w.heap.size ≤ g) :
    ScUs B w' (.slice (some ⟨g, 0, none⟩) (us.length + 1) cap) (us ++ [(.slice none 0 0, (n, []))]) := by
  have hkv : ∀ x ∈ us, KvNew B w' x.1 x.2.2 := fun x hx => own_keep (h.kv x hx) fun k h1 h2 h3 => hg.block k h2 (fun e => h.far x hx k e.symm h3)
  refine ⟨?_, fun x hx => ?_, fun x hx k hk => ?_, fun a z e x hx k hk => ?_⟩
  · have e : scC (us ++ [(.slice none 0 0, (n, []))]) = scC us ++ [.string (str n), .slice none 0 0] := scC_app _ _
    rw [e, List.length_append, List.length_singleton]
    exact hn
  · rcases List.mem_append.1 hx with hx | hx
    · exact hkv x hx
    · obtain rfl := List.mem_singleton.1 hx
      exact KvNew.nil _ _
  · obtain rfl : g = k := by simpa [Value.ownBlock] using hk
    rcases List.mem_append.1 hx with hx | hx
    · rcases hat with e | e
      · exact h.far x hx g e
      · intro e2
        have := (own_lt (h.kv x hx) e2).2
        omega
    · obtain rfl := List.mem_singleton.1 hx
      exact fun e => by cases e
  · have e2 := congrArg List.getLast? e
    rw [List.getLast?_append, List.getLast?_append] at e2
    simp at e2
    subst e2
    cases hk
/-- One pair more in the last section: first the pairs' own row, then the section's cell. -/
theorem ScUs.more {B : Nat} {w w1 : World} {gs n c : Nat} {us : List (Value × Sec)} {u : Value} {x : Sec} {p : KV} {g cap : Nat} (h : ScUs B w (.slice (some ⟨gs, 0, none⟩) n c) (us ++ [(u, x)]))
    (hn : w1.ownsRow B 97 2 (.slice (some ⟨g, 0, none⟩) (x.2.length + 1) cap) (x.2.length + 1) (kvC x.2 ++ kvC1 p)) (hg : w.grownBy w1 u.ownBlock) (hat : u.ownBlock = some g ∨ w.heap.size ≤ g) :
    w1.cell? ⟨gs, us.length * 2 + 1, none⟩ = some u ∧ w1.frozen? ⟨gs, us.length * 2 + 1, none⟩ = false ∧
    ScUs B (w1.setCell ⟨gs, us.length * 2 + 1, none⟩ (.slice (some ⟨g, 0, none⟩) (x.2.length + 1) cap)) (.slice (some ⟨gs, 0, none⟩) n c) (us ++ [(.slice (some ⟨g, 0, none⟩) (x.2.length + 1) cap, (x.1, x.2 ++ [p]))]) := by
  have hlast : (us ++ [(u, x)])[us.length]? = some (u, x) := by simp
  obtain ⟨c1, c2, c3⟩ := h.cells hlast
  have hm : (u, x) ∈ us ++ [(u, x)] := List.mem_append_right _ (List.mem_singleton.2 rfl)
  have hgs := own_lt h.row (g := gs) rfl
  have hne : u.ownBlock ≠ some gs := h.far (u, x) hm gs rfl
  have hk : w1.heap[gs]? = w.heap[gs]? := hg.block gs hgs.2 (fun e => hne e.symm)
  have hgg : g ≠ gs := by
    rcases hat with e | e
    · intro e2; subst e2; exact hne e
    · omega
  obtain ⟨nn, hnn⟩ : ∃ nn, (us ++ [(u, x)]).length = nn := ⟨_, rfl⟩
  have hrow := h.row
  have hform := own_form hrow
  have hn2 : n = us.length + 1 := by
    obtain ⟨A, c', hv, _⟩ := hform
    injection hv with _ e _
    rw [e, List.length_append, List.length_singleton]
  subst hn2
  refine ⟨(World.cell?_of_block hk).trans c2, (World.frozen?_of_block hk).trans c3, ?_, ?_, ?_, ?_⟩
  · have h1 : w1.ownsRow B 63 2 (.slice (some ⟨gs, 0, none⟩) (us.length + 1) c) (us.length + 1) (scC us ++ scC1 (u, x)) := by
      have h0 := own_keep (w' := w1) hrow fun k h1 h2 h3 => by
        obtain rfl : gs = k := by simpa [Value.ownBlock] using h3
        exact hk
      rw [scC_app, List.length_append, List.length_singleton] at h0
      exact h0
    have h2 := own_put h1 (j := us.length * 2 + 1) (by omega) (.slice (some ⟨g, 0, none⟩) (x.2.length + 1) cap)
    rw [scC_app, List.length_append, List.length_singleton]
    have e : (scC us ++ scC1 (u, x)).set (us.length * 2 + 1) (.slice (some ⟨g, 0, none⟩) (x.2.length + 1) cap) = scC us ++ scC [((.slice (some ⟨g, 0, none⟩) (x.2.length + 1) cap : Value), ((x.1, x.2 ++ [p]) : Sec))] := by
      rw [List.set_append_right _ _ (by rw [scC_length]; omega), scC_length, show us.length * 2 + 1 - us.length * 2 = 1 from by omega]
      rfl
    rw [e] at h2
    exact h2
  · intro y hy
    rcases List.mem_append.1 hy with hy | hy
    · have hym : y ∈ us ++ [(u, x)] := List.mem_append_left _ hy
      refine own_keep (h.kv y hym) fun k h1 h2 h3 => ?_
      have h4 : k ≠ gs := fun e => h.far y hym gs rfl (by rw [h3, e])
      refine (Below.heap_setCell _ _ _ k h4).trans (hg.block k h2 (fun e => ?_))
      exact h.last us (u, x) rfl y hy k e.symm h3
    · obtain rfl := List.mem_singleton.1 hy
      show World.ownsRow _ B _ 2 _ _ _
      have h5 : w1.ownsRow B 97 2 (.slice (some ⟨g, 0, none⟩) (x.2.length + 1) cap) (x.2 ++ [p]).length (kvC (x.2 ++ [p])) := by
        rw [kvC_app, List.length_append, List.length_singleton]
        have : kvC [p] = kvC1 p := by unfold kvC; simp
        rw [this]; exact hn
      refine own_keep h5 fun k h1 h2 h3 => ?_
      obtain rfl : g = k := by simpa [Value.ownBlock] using h3
      exact Below.heap_setCell _ _ _ g hgg
  · intro y hy k hk2
    obtain rfl : gs = k := by simpa [Value.ownBlock] using hk2
    rcases List.mem_append.1 hy with hy | hy
    · exact h.far y (List.mem_append_left _ hy) gs rfl
    · obtain rfl := List.mem_singleton.1 hy
      intro e
      exact hgg (by simpa [Value.ownBlock] using e)
  · intro a z e y hy k hk2
    have e2 := List.append_inj' e rfl
    obtain ⟨rfl, e3⟩ := e2
    obtain rfl := List.cons.inj e3 |>.1
    obtain rfl : g = k := by simpa [Value.ownBlock] using hk2
    intro e4
    rcases hat with e5 | e5
    · exact h.last us (u, x) rfl y hy g e5 e4
    · have := (own_lt (h.kv y (List.mem_append_left _ hy)) e4).2
      omega
/-- A world that has grown out of another. -/
structure Laid (w : World) where
  W : World
  h : Below w.heap.size w W
instance (w : World) : Inhabited (Laid w) := ⟨⟨w, Below.refl _ _⟩⟩
theorem wp_region_laid {P : Program} {id : Nat} {Q : Exit → Act → World → Prop} {a : Act} {w : World} {l : List Oper} (hm : P.follows .mixedOrders = true) (hB : Region.lexB .any l.toArray = true)
    (h : wpQuiet P l.toArray (fun w' => ∃ p : Laid w, w' = p.W) (fun a' => ∀ w', (∃ p : Laid w, w' = p.W) → Q .normal a' w') l a) : (Code.region id l.toArray true).wp P Q a w :=
  wp_region_quiet (C := fun w' => ∃ p : Laid w, w' = p.W) hm hB ⟨⟨w.drew, (Below.refl _ _).drew⟩, rfl⟩ (by simpa using h)
theorem Calls.laid {P : Program} {f : FuncId} {args : Array Value} {w : World} {p : Laid w} {v : Value} (h : Calls P f args p.W fun e w' => e = .returned v ∧ Below p.W.heap.size p.W w') : Calls P f args p.W fun e w'' => e = .returned v ∧ ∃ p : Laid w, w'' = p.W :=
  h.mono fun _ _ ⟨he, hb⟩ => ⟨he, ⟨_, bnext p.h hb⟩, rfl⟩
end Go.Proofs.YtodlgbihdehmbaaGreatDoor.Cf
