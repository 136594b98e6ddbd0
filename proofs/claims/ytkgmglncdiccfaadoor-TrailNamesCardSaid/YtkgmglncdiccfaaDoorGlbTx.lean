/-
  Rows of texts of a call's own (layer 15).
-/
import Derived.Test.YtkgmglncdiccfaaDoorGlbRd
import Derived.Test.YtkgmglncdiccfaaDoorGlbBox
set_option linter.unusedSimpArgs false
set_option linter.unusedVariables false
namespace Go.Proofs.YtkgmglncdiccfaaDoor
open Go.RowKit
def txC (ls : List (List Nat)) : List Value := ls.map fun t => .string (str t)
theorem txC_length (ls : List (List Nat)) : (txC ls).length = ls.length := by simp [txC]
theorem txC_app (a b : List (List Nat)) : txC (a ++ b) = txC a ++ txC b := by simp [txC]
theorem txC_one (ls : List (List Nat)) : ∀ u ∈ txC ls, u.oneCell' = true := by
  intro u hu
  obtain ⟨t, _, rfl⟩ := List.mem_map.1 hu
  rfl
def TxNew (B : Nat) (w : World) (v : Value) (ls : List (List Nat)) : Prop := w.ownsRow B 9 1 v ls.length (txC ls)
theorem TxNew.nil (B : Nat) (w : World) : TxNew B w (.slice none 0 0) [] := ⟨rfl, .inl ⟨rfl, rfl⟩⟩
theorem TxNew.below {B : Nat} {w w' : World} {v : Value} {ls : List (List Nat)} (h : TxNew B w v ls) (hb : Below w.heap.size w w') : TxNew B w' v ls := own_keep h (fun g _ hg => hb.block g hg)
theorem TxNew.mono {B B' : Nat} {w : World} {v : Value} {ls : List (List Nat)} (h : TxNew B' w v ls) (hB : B ≤ B') : TxNew B w v ls := own_mono h hB
theorem TxNew.push {B : Nat} {w : World} {v : Value} {ls ms : List (List Nat)} (h : w.ownsRow B 9 1 v (ls.length + ms.length) (txC ls ++ txC ms)) : TxNew B w v (ls ++ ms) := by
  unfold TxNew
  rw [List.length_append, txC_app]
  exact h
theorem TxNew.lit {w : World} {B : Nat} (hB : B ≤ w.heap.size) (t : List Nat) : TxNew B (w.alloc (.cells #[.string (str t)] 9)) (.slice (some ⟨w.heap.size, 0, none⟩) 1 1) [t] := by
  refine ⟨by unfold txC; simp, Or.inr ⟨w.heap.size, 1, #[.string (str t)], rfl, hB, ?_, Nat.le_refl _, by decide, rfl, rfl⟩⟩
  show (w.heap.push _)[w.heap.size]? = _
  exact Array.getElem?_push_size
/-- A row of texts, as it is read. -/
def TxAt (w : World) (g : Nat) (ls : List (List Nat)) : Prop := ∀ (k : Nat) (t : List Nat), ls[k]? = some t → w.cell? ⟨g, k, none⟩ = some (.string (str t))
theorem TxAt.below {w w' : World} {g : Nat} {ls : List (List Nat)} (h : TxAt w g ls) (hb : Below w.heap.size w w') : TxAt w' g ls := fun k t hk => cellb hb (h k t hk)
theorem TxNew.form {B : Nat} {w : World} {v : Value} {ls : List (List Nat)} (h : TxNew B w v ls) : ∃ A c, v = .slice A ls.length c ∧ ls.length ≤ c ∧ (0 < ls.length → ∃ g, A = some ⟨g, 0, none⟩ ∧ B ≤ g ∧ g < w.heap.size ∧ TxAt w g ls) := by
  obtain ⟨A, c, rfl, hc, _⟩ := own_form h
  refine ⟨A, c, rfl, hc, fun hn => ?_⟩
  obtain ⟨g, c', hv, _, hB, hlt, hcs, _⟩ := own_at h hn
  injection hv with e1 _ _
  exact ⟨g, e1, hB, hlt, fun k t hk => hcs k _ (by unfold txC; rw [List.getElem?_map, hk]; rfl)⟩
theorem TxNew.reads {B : Nat} {w : World} {A : Option Addr} {n c : Nat} {ls : List (List Nat)} (h : TxNew B w (.slice A n c) ls) : Reads w w.heap.size 1 A ls.length (txC ls) := by
  obtain ⟨A', c', hv, _⟩ := own_form h
  injection hv with e1 e2 e3
  subst e1 e2
  exact Reads.of_own h
/-- What comes of one piece. -/
def pcTx : GA ⊕ Tr → List (List Nat)
  | .inl a => [a.txt]
  | .inr ws => gTx ws []
def longer (acc behind : List (List Nat)) : List (List Nat) := acc.flatMap fun y => behind.map (y ++ ·)
theorem gTx_cons (x : GA ⊕ Tr) (r : Tr) (acc : List (List Nat)) : gTx (consT x r) acc = gTx r (longer acc (pcTx x)) := by
  cases x with
  | inl a =>
    show gTx r (acc.map (· ++ a.txt)) = gTx r (acc.flatMap fun y => [a.txt].map (y ++ ·))
    congr 1
    induction acc with
    | nil => rfl
    | cons y acc ih => rw [List.map_cons, List.flatMap_cons, ih]; rfl
  | inr ws => rfl
theorem longer_length (acc behind : List (List Nat)) : (longer acc behind).length = acc.length * behind.length := by
  unfold longer
  induction acc with
  | nil => simp
  | cons y acc ih => rw [List.flatMap_cons, List.length_append, ih, List.length_map, List.length_cons, Nat.add_mul]; omega
theorem longer_snoc (acc behind : List (List Nat)) (y : List Nat) : longer (acc ++ [y]) behind = longer acc behind ++ behind.map (y ++ ·) := by
  unfold longer
  rw [List.flatMap_append, List.flatMap_cons, List.flatMap_nil, List.append_nil]
def pcNm : GA ⊕ Tr → Nat
  | .inl _ => 1
  | .inr ws => gNm ws
theorem gNm_cons (x : GA ⊕ Tr) (r : Tr) : gNm (consT x r) = pcNm x * gNm r := by
  cases x with
  | inl a => show gNm r = 1 * gNm r; omega
  | inr ws => rfl
theorem pcTx_length {x : GA ⊕ Tr} {r : Tr} (h : Good false (consT x r)) : (pcTx x).length = pcNm x := by
  cases x with
  | inl a => rfl
  | inr ws => exact (gTx_length ws).2 h.1
theorem take_snoc' {α : Type} {l : List α} {k : Nat} {x : α} (h : l[k]? = some x) : l.take (k + 1) = l.take k ++ [x] := by
  rw [List.take_add_one, h]
  rfl
end Go.Proofs.YtkgmglncdiccfaaDoor
