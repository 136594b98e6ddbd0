/-
  Pieces in memory (layer 15): rows of a call's own.
-/
import Derived.Test.YtkgmglncdiccfaaDoorGlbPars
import Derived.Test.YtkgmglncdiccfaaDoorGlbBs
import Derived.Test.YtkgmglncdiccfaaDoorProg
import Derived.Test.YtkgmglncdiccfaaDoorMemRow
import Derived.Below
import Derived.OwnWalk
import Derived.WalkKit
import Derived.WalkSmall
import Derived.Lib.Hide
import Derived.Deep.MidRow
import Derived.Maps.AppendAt
set_option linter.unusedSimpArgs false
set_option linter.unusedVariables false
namespace Go.Proofs.YtkgmglncdiccfaaDoor
open Go.RowKit
theorem cellb {w w' : World} (hb : Below w.heap.size w w') {b o : Nat} {u : Value} (h : w.cell? ⟨b, o, none⟩ = some u) : w'.cell? ⟨b, o, none⟩ = some u := (hb.cell (World.block_lt_of_cell? w _ h)).trans h
theorem bnext {a b c : World} (h : Below a.heap.size a b) (k : Below b.heap.size b c) : Below a.heap.size a c := h.trans (k.mono h.size)
theorem alloc_below (w : World) (o : Obj) : Below w.heap.size w (w.alloc o) := (Below.refl _ _).alloc (Nat.le_refl _) o
theorem own_form {B n : Nat} {e : TypeId} {size : Nat} {w : World} {v : Value} {xs : List Value} (h : w.ownsRow B e size v n xs) : ∃ A c, v = .slice A n c ∧ n ≤ c ∧ (0 < n → ∃ g, A = some ⟨g, 0, none⟩ ∧ B ≤ g ∧ g < w.heap.size) := by
  rcases h.2 with ⟨rfl, h0⟩ | ⟨g, cap, cur, rfl, hg, hh, hc, _⟩
  · exact ⟨none, 0, by rw [h0], by omega, fun h => by omega⟩
  · exact ⟨_, cap, rfl, hc, fun _ => ⟨g, rfl, hg, (Array.getElem?_eq_some_iff.1 hh).1⟩⟩
theorem own_keep {B n : Nat} {e : TypeId} {size : Nat} {w w' : World} {v : Value} {xs : List Value} (h : w.ownsRow B e size v n xs) (hk : ∀ g, B ≤ g → g < w.heap.size → w'.heap[g]? = w.heap[g]?) : w'.ownsRow B e size v n xs := by
  refine ⟨h.1, ?_⟩
  rcases h.2 with ⟨rfl, h0⟩ | ⟨g, cap, cur, rfl, hg, hh, hr⟩
  · exact Or.inl ⟨rfl, h0⟩
  · exact Or.inr ⟨g, cap, cur, rfl, hg, (hk g hg (Array.getElem?_eq_some_iff.1 hh).1).trans hh, hr⟩
theorem own_mono {B B' n : Nat} {e : TypeId} {size : Nat} {w : World} {v : Value} {xs : List Value} (h : w.ownsRow B' e size v n xs) (hB : B ≤ B') : w.ownsRow B e size v n xs := by
  refine ⟨h.1, ?_⟩
  rcases h.2 with ⟨rfl, h0⟩ | ⟨g, cap, cur, rfl, hg, hr⟩
  · exact Or.inl ⟨rfl, h0⟩
  · exact Or.inr ⟨g, cap, cur, rfl, Nat.le_trans hB hg, hr⟩
/-- A row's cells. -/
theorem own_at {B n : Nat} {e : TypeId} {size : Nat} {w : World} {v : Value} {xs : List Value} (h : w.ownsRow B e size v n xs) (hn : 0 < n) : ∃ g c, v = .slice (some ⟨g, 0, none⟩) n c ∧ n ≤ c ∧ B ≤ g ∧ g < w.heap.size ∧ (∀ j u, xs[j]? = some u → w.cell? ⟨g, j, none⟩ = some u) ∧ ∀ j, w.frozen? ⟨g, j, none⟩ = false := by
  rcases h.2 with ⟨rfl, h0⟩ | ⟨g, cap, cur, rfl, hg, hh, hc, hm, hs, ht⟩
  · omega
  · refine ⟨g, cap, rfl, hc, hg, (Array.getElem?_eq_some_iff.1 hh).1, fun j u hj => ?_, fun j => frozen_of_row w g j cur _ hh⟩
    have hlt := (List.getElem?_eq_some_iff.1 hj).1
    refine (cell_of_row w g j cur _ (0, 0) hh).trans ?_
    rw [← ht, List.getElem?_take] at hj
    split at hj
    · simpa using hj
    · cases hj
/-! ### Ranges -/
theorem rng_info : (Tryd.prog.info? 86).map (fun i => (i.zero, i.size, i.bytes)) = some (some (.agg #[.int .u8 0, .int .u8 0]), 2, 2) := by kernel_rfl
theorem pc_info : (Tryd.prog.info? 70).map (fun i => (i.zero, i.size, i.bytes)) = some (some (.agg #[.int .i64 0, .string ⟨#[]⟩, .slice none 0 0, .slice none 0 0]), 4, 72) := by kernel_rfl
theorem ps_info : (Tryd.prog.info? 38).map (fun i => (i.zero, i.size, i.bytes)) = some (some (.slice none 0 0), 1, 24) := by kernel_rfl
theorem tx_info : (Tryd.prog.info? 9).map (fun i => (i.zero, i.size, i.bytes)) = some (some (.string ⟨#[]⟩), 1, 16) := by kernel_rfl
def rnC (rs : List (Nat × Nat)) : List Value := rs.flatMap fun r => [.int .u8 (r.1 : Nat), .int .u8 (r.2 : Nat)]
theorem rnC_len (rs : List (Nat × Nat)) : (rnC rs).length = rs.length * 2 := by
  induction rs with
  | nil => rfl
  | cons r rs ih =>
    unfold rnC at ih ⊢
    rw [List.flatMap_cons, List.length_append, ih]
    simp
    omega
theorem rnC_at : ∀ (rs : List (Nat × Nat)) (k : Nat) (r : Nat × Nat), rs[k]? = some r → (rnC rs)[k * 2]? = some (.int .u8 (r.1 : Nat)) ∧ (rnC rs)[k * 2 + 1]? = some (.int .u8 (r.2 : Nat))
  | [], k, r, h => by simp at h
  | a :: rs, 0, r, h => by
    obtain rfl : a = r := by simpa using h
    exact ⟨rfl, rfl⟩
  | a :: rs, k + 1, r, h => by
    have ih := rnC_at rs k r (by simpa using h)
    unfold rnC at ih ⊢
    rw [List.flatMap_cons, List.getElem?_append_right (by simp; omega), List.getElem?_append_right (by simp; omega)]
    rw [show (k + 1) * 2 - [Value.int .u8 (a.1 : Nat), Value.int .u8 (a.2 : Nat)].length = k * 2 by simp; omega, show (k + 1) * 2 + 1 - [Value.int .u8 (a.1 : Nat), Value.int .u8 (a.2 : Nat)].length = k * 2 + 1 by simp; omega]
    exact ih
def RnNew (B : Nat) (w : World) (v : Value) (rs : List (Nat × Nat)) : Prop := w.ownsRow B 86 2 v rs.length (rnC rs)
theorem RnNew.nil (B : Nat) (w : World) : RnNew B w (.slice none 0 0) [] := ⟨rfl, .inl ⟨rfl, rfl⟩⟩
theorem RnNew.push {B : Nat} {w : World} {v : Value} {rs : List (Nat × Nat)} {r : Nat × Nat} (h : w.ownsRow B 86 2 v (rs.length + 1) (rnC rs ++ [.int .u8 (r.1 : Nat), .int .u8 (r.2 : Nat)])) : RnNew B w v (rs ++ [r]) := by
  unfold RnNew rnC
  rw [List.length_append, List.length_singleton, List.flatMap_append, List.flatMap_cons, List.flatMap_nil, List.append_nil]
  exact h
/-! ### Pieces -/
def GA.kind : GA → Nat
  | .one _ => 0
  | .each => 1
  | .star => 2
  | .cls _ _ => 3
def GA.rows : GA → List (Nat × Nat)
  | .cls _ rs => rs
  | _ => []
def pcC (k : Nat) (t : ByteArray) (rv wv : Value) : List Value := [.int .i64 (k : Nat), .string t, rv, wv]
/-- A row in a block of which P holds. -/
def OwnP (P : Nat → Prop) (w : World) (e : TypeId) (size : Nat) (v : Value) (n : Nat) (xs : List Value) : Prop := w.ownsRow 0 e size v n xs ∧ ∀ g, v.ownBlock = some g → P g
theorem own_lt {B n : Nat} {e : TypeId} {size : Nat} {w : World} {v : Value} {xs : List Value} (h : w.ownsRow B e size v n xs) {g : Nat} (hg : v.ownBlock = some g) : B ≤ g ∧ g < w.heap.size := by
  rcases h.2 with ⟨rfl, h0⟩ | ⟨g', cap, cur, rfl, hB, hh, hr⟩
  · cases hg
  · have e : g' = g := by simpa [Value.ownBlock] using hg
    subst e
    exact ⟨hB, (Array.getElem?_eq_some_iff.1 hh).1⟩
theorem OwnP.of {B n : Nat} {e : TypeId} {size : Nat} {w : World} {v : Value} {xs : List Value} (h : w.ownsRow B e size v n xs) : OwnP (fun x => B ≤ x) w e size v n xs := ⟨own_mono h (Nat.zero_le _), fun g hg => (own_lt h hg).1⟩
theorem OwnP.move {P P' : Nat → Prop} {n : Nat} {e : TypeId} {size : Nat} {w w' : World} {v : Value} {xs : List Value} (h : OwnP P w e size v n xs) (hk : ∀ g, P g → g < w.heap.size → w'.heap[g]? = w.heap[g]? ∧ P' g) : OwnP P' w' e size v n xs := by
  obtain ⟨h1, h2⟩ := h
  refine ⟨⟨h1.1, ?_⟩, fun g hg => (hk g (h2 g hg) (own_lt h1 hg).2).2⟩
  rcases h1.2 with ⟨rfl, h0⟩ | ⟨g, cap, cur, rfl, hg, hh, hr⟩
  · exact Or.inl ⟨rfl, h0⟩
  · exact Or.inr ⟨g, cap, cur, rfl, hg, ((hk g (h2 g rfl) (Array.getElem?_eq_some_iff.1 hh).1).1).trans hh, hr⟩
/-- What lies in a row of pieces, or of alternatives. -/
def TrAt (P : Nat → Prop) (w : World) : Tr → List Value → Prop
  | .nil, cs => cs = []
  | .atom a r, cs => ∃ rv cs', OwnP P w 86 2 rv a.rows.length (rnC a.rows) ∧ cs = pcC a.kind (str a.txt) rv (.slice none 0 0) ++ cs' ∧ TrAt P w r cs'
  | .br ws r, cs => ∃ wv wcs cs', OwnP P w 38 1 wv ws.len wcs ∧ TrAt P w ws wcs ∧ cs = pcC 4 ⟨#[]⟩ (.slice none 0 0) wv ++ cs' ∧ TrAt P w r cs'
  | .none, cs => cs = []
  | .way p ws, cs => ∃ v pcs cs', OwnP P w 70 4 v p.len pcs ∧ TrAt P w p pcs ∧ cs = v :: cs' ∧ TrAt P w ws cs'
theorem TrAt.move {P P' : Nat → Prop} {w w' : World} (hk : ∀ g, P g → g < w.heap.size → w'.heap[g]? = w.heap[g]? ∧ P' g) : ∀ (t : Tr) (cs : List Value), TrAt P w t cs → TrAt P' w' t cs
  | .nil, _, h => h
  | .none, _, h => h
  | .atom a r, cs, h => by
    obtain ⟨rv, cs', h1, h2, h3⟩ := h
    exact ⟨rv, cs', h1.move hk, h2, TrAt.move hk r cs' h3⟩
  | .br ws r, cs, h => by
    obtain ⟨wv, wcs, cs', h1, h2, h3, h4⟩ := h
    exact ⟨wv, wcs, cs', h1.move hk, TrAt.move hk ws wcs h2, h3, TrAt.move hk r cs' h4⟩
  | .way p ws, cs, h => by
    obtain ⟨v, pcs, cs', h1, h2, h3, h4⟩ := h
    exact ⟨v, pcs, cs', h1.move hk, TrAt.move hk p pcs h2, h3, TrAt.move hk ws cs' h4⟩
theorem TrAt.app {P : Nat → Prop} {w : World} {b : Tr} {cb : List Value} (hb : TrAt P w b cb) : ∀ (t : Tr) (cs : List Value), TrAt P w t cs → TrAt P w (t.app b) (cs ++ cb)
  | .nil, cs, h => by
    obtain rfl : cs = [] := h
    exact hb
  | .none, cs, h => by
    obtain rfl : cs = [] := h
    exact hb
  | .atom a r, cs, h => by
    obtain ⟨rv, cs', h1, rfl, h3⟩ := h
    exact ⟨rv, cs' ++ cb, h1, by rw [List.append_assoc], TrAt.app hb r cs' h3⟩
  | .br ws r, cs, h => by
    obtain ⟨wv, wcs, cs', h1, h2, rfl, h4⟩ := h
    exact ⟨wv, wcs, cs' ++ cb, h1, h2, by rw [List.append_assoc], TrAt.app hb r cs' h4⟩
  | .way p ws, cs, h => by
    obtain ⟨v, pcs, cs', h1, h2, rfl, h4⟩ := h
    exact ⟨v, pcs, cs' ++ cb, h1, h2, rfl, TrAt.app hb ws cs' h4⟩
/-- Pieces of a call's own: what they hold lies in other blocks. -/
def TrNew (B : Nat) (w : World) (v : Value) (t : Tr) : Prop := ∃ cs, w.ownsRow B 70 4 v t.len cs ∧ TrAt (fun x => B ≤ x ∧ v.ownBlock ≠ some x) w t cs
/-- Alternatives of a call's own. -/
def WsNew (B : Nat) (w : World) (v : Value) (t : Tr) : Prop := ∃ cs, w.ownsRow B 38 1 v t.len cs ∧ TrAt (fun x => B ≤ x ∧ v.ownBlock ≠ some x) w t cs
theorem TrNew.nil (B : Nat) (w : World) : TrNew B w (.slice none 0 0) .nil := ⟨[], ⟨rfl, .inl ⟨rfl, rfl⟩⟩, rfl⟩
theorem WsNew.none (B : Nat) (w : World) : WsNew B w (.slice none 0 0) .none := ⟨[], ⟨rfl, .inl ⟨rfl, rfl⟩⟩, rfl⟩
theorem TrNew.keep {B : Nat} {w w' : World} {v : Value} {t : Tr} (h : TrNew B w v t) (hk : ∀ g, B ≤ g → g < w.heap.size → w'.heap[g]? = w.heap[g]?) : TrNew B w' v t := by
  obtain ⟨cs, h1, h2⟩ := h
  exact ⟨cs, own_keep h1 hk, TrAt.move (fun g h1 h2 => ⟨hk g h1.1 h2, h1⟩) t cs h2⟩
theorem WsNew.keep {B : Nat} {w w' : World} {v : Value} {t : Tr} (h : WsNew B w v t) (hk : ∀ g, B ≤ g → g < w.heap.size → w'.heap[g]? = w.heap[g]?) : WsNew B w' v t := by
  obtain ⟨cs, h1, h2⟩ := h
  exact ⟨cs, own_keep h1 hk, TrAt.move (fun g h1 h2 => ⟨hk g h1.1 h2, h1⟩) t cs h2⟩
theorem keepB {B : Nat} {w w' : World} (hb : Below w.heap.size w w') : ∀ g, B ≤ g → g < w.heap.size → w'.heap[g]? = w.heap[g]? := fun g _ h => hb.block g h
theorem keepG {B b : Nat} {w w' : World} (hg : w.grownBy w' (some b)) (hb : b < B) : ∀ g, B ≤ g → g < w.heap.size → w'.heap[g]? = w.heap[g]? := fun g h1 h2 => hg.block g h2 (fun e => by injection e with e; omega)
theorem TrNew.below {B : Nat} {w w' : World} {v : Value} {t : Tr} (h : TrNew B w v t) (hb : Below w.heap.size w w') : TrNew B w' v t := h.keep (keepB hb)
theorem TrNew.mono {B B' : Nat} {w : World} {v : Value} {t : Tr} (h : TrNew B' w v t) (hB : B ≤ B') : TrNew B w v t := by
  obtain ⟨cs, h1, h2⟩ := h
  exact ⟨cs, own_mono h1 hB, TrAt.move (fun g h1 _ => ⟨rfl, Nat.le_trans hB h1.1, h1.2⟩) t cs h2⟩
theorem WsNew.mono {B B' : Nat} {w : World} {v : Value} {t : Tr} (h : WsNew B' w v t) (hB : B ≤ B') : WsNew B w v t := by
  obtain ⟨cs, h1, h2⟩ := h
  exact ⟨cs, own_mono h1 hB, TrAt.move (fun g h1 _ => ⟨rfl, Nat.le_trans hB h1.1, h1.2⟩) t cs h2⟩
/-- One piece as a value: what it is. -/
inductive Un (B : Nat) (w : World) : Value → Tr → Prop where
  | atom (a : GA) (rv : Value) (h : RnNew B w rv a.rows) : Un B w (.agg (pcC a.kind (str a.txt) rv (.slice none 0 0)).toArray) (.atom a .nil)
  | br (ws : Tr) (wv : Value) (h : WsNew B w wv ws) : Un B w (.agg (pcC 4 ⟨#[]⟩ (.slice none 0 0) wv).toArray) (.br ws .nil)
theorem Un.keep {B : Nat} {w w' : World} {v : Value} {t : Tr} (h : Un B w v t) (hk : ∀ g, B ≤ g → g < w.heap.size → w'.heap[g]? = w.heap[g]?) : Un B w' v t := by
  cases h with
  | atom a rv h => exact .atom a rv (own_keep h hk)
  | br ws wv h => exact .br ws wv (h.keep hk)
theorem Un.cells {B : Nat} {w : World} {v : Value} {t : Tr} (h : Un B w v t) : ∃ (k : Nat) (s : ByteArray) (A1 A2 : Option Addr) (n1 c1 n2 c2 : Nat), v = .agg (pcC k s (.slice A1 n1 c1) (.slice A2 n2 c2)).toArray ∧ TrAt (fun x => B ≤ x) w t (pcC k s (.slice A1 n1 c1) (.slice A2 n2 c2)) ∧ t.len = 1 ∧ k ≤ 4 := by
  cases h with
  | atom a rv h =>
    obtain ⟨A, c, rfl, _⟩ := own_form h
    exact ⟨_, _, _, _, _, _, _, _, rfl, ⟨_, [], OwnP.of h, by simp, rfl⟩, rfl, by cases a <;> simp [GA.kind]⟩
  | br ws wv h =>
    obtain ⟨cs, h1, h2⟩ := h
    obtain ⟨A, c, rfl, _⟩ := own_form h1
    exact ⟨_, _, _, _, _, _, _, _, rfl, ⟨_, cs, [], OwnP.of h1, TrAt.move (fun g h _ => ⟨rfl, h.1⟩) ws cs h2, by simp, rfl⟩, rfl, Nat.le_refl _⟩
/-- Behind an append onto a row: what its elements hold. -/
theorem TrAt.step {B : Nat} {w w' : World} {v v' : Value} {t : Tr} {cs : List Value} (h : TrAt (fun x => B ≤ x ∧ v.ownBlock ≠ some x) w t cs) (hg : w.grownBy w' v.ownBlock) (hat : v'.ownBlock = v.ownBlock ∨ v'.ownBlock = some w.heap.size) :
    TrAt (fun x => B ≤ x ∧ v'.ownBlock ≠ some x) w' t cs :=
  TrAt.move (fun g h1 h2 => ⟨hg.block g h2 (fun e => h1.2 e.symm), h1.1, fun e => by
    rcases hat with h | h
    · exact h1.2 (h.symm.trans e)
    · rw [h] at e
      injection e with e
      omega⟩) t cs h
/-- The same of the new element, that lies in blocks from M on. -/
theorem TrAt.fresh {B M : Nat} {w0 w w' : World} {v v' : Value} {t : Tr} {cs : List Value} (h : TrAt (fun x => M ≤ x) w0 t cs) (hB : B ≤ M) (hv : ∀ g, v.ownBlock = some g → g < M) (hw : ∀ g, M ≤ g → g < w0.heap.size → w.heap[g]? = w0.heap[g]?) (hs : w0.heap.size ≤ w.heap.size) (hg : w.grownBy w' v.ownBlock) (hat : v'.ownBlock = v.ownBlock ∨ v'.ownBlock = some w.heap.size) :
    TrAt (fun x => B ≤ x ∧ v'.ownBlock ≠ some x) w' t cs :=
  TrAt.move (fun g h1 h2 => ⟨(hg.block g (by omega) (fun e => by have := hv g e.symm; omega)).trans (hw g h1 h2), by omega, fun e => by
    rcases hat with h | h
    · have := hv g (h.symm.trans e); omega
    · rw [h] at e
      injection e with e
      omega⟩) t cs h
end Go.Proofs.YtkgmglncdiccfaaDoor
