/-
  namesRight at a disk that is right, first part: facts on what is met.
-/
import Derived.Test.YtmkjjcogheidmaaDskPH
import Derived.Sort.Walk0
set_option linter.unusedSimpArgs false
set_option linter.unusedVariables false
namespace Go.Proofs.Ytmkjjcogheidmaa
open Go.RowKit
theorem nd_le : ∀ {a b : List Nat}, a.Nodup → (∀ x ∈ a, x ∈ b) → a.length ≤ b.length
  | [], b, _, _ => Nat.zero_le _
  | x :: r, b, h, hs => by
    have h2 := List.nodup_cons.1 h
    have hx := hs x List.mem_cons_self
    have := nd_le (a := r) (b := b.erase x) h2.2 fun y hy => (List.mem_erase_of_ne (show y ≠ x from fun e => h2.1 (by rw [← e]; exact hy))).2 (hs y (List.mem_cons_of_mem _ hy))
    rw [List.length_erase_of_mem hx] at this
    have h3 := List.length_pos_of_mem hx
    rw [List.length_cons]
    omega
theorem Dir.few {l : List PN} {ids : List Nat} (h : Dir l ids) : l.length ≤ ids.length := by
  have := nd_le h.nd (b := ids) fun x hx => by
    obtain ⟨n, hn, e⟩ := List.mem_map.1 hx
    rw [← e]
    exact h.sub n hn
  rwa [List.length_map] at this
theorem Doable.nth {l : List PN} {ids : List Nat} : ∀ {ms : List PM} {k : Nat} {m : PM}, Doable l ids ms → ms[k]? = some m → mOk (mRun l (ms.take k)) (mRunIds ids (ms.take k)) m := by
  intro ms
  induction ms generalizing l ids with
  | nil => intro k m _ h; simp at h
  | cons x r ih =>
    intro k m hd h
    cases k with
    | zero =>
      have : x = m := by simpa using h
      exact this ▸ hd.1
    | succ k => exact ih hd.2 (by simpa using h)
theorem run_next {l : List PN} {ms : List PM} {k : Nat} {m : PM} (h : ms[k]? = some m) : mRun l (ms.take (k + 1)) = mv (mRun l (ms.take k)) m := by
  rw [List.take_add_one, h, mRun_app]
  rfl
theorem ids_next {l : List Nat} {ms : List PM} {k : Nat} {m : PM} (h : ms[k]? = some m) : mRunIds l (ms.take (k + 1)) = mIds (mRunIds l (ms.take k)) m := by
  rw [List.take_add_one, h, mRunIds_app]
  rfl
theorem PInv.runDir {D : PD} (h : PInv D) (k : Nat) : Dir (mRun D.kept (D.moves.take k)) (mRunIds (D.kept.map PN.id) (D.moves.take k)) := h.kept.run (h.doable.take k)
theorem PInv.few {D : PD} (h : PInv D) (k : Nat) : (mRun D.kept (D.moves.take k)).length ≤ 256 := by
  have := (h.crashDir k).few
  rw [List.length_map] at this
  have := h.f256
  omega
theorem PInv.fewIds {D : PD} (h : PInv D) (k : Nat) : (mRunIds (D.kept.map PN.id) (D.moves.take k)).length ≤ 256 := by
  have := nd_le (nd_mRunIds (h.doable.take k) h.kept.nd) (b := D.files.map PF.id) fun i hi => (h.ids i).1 (mRunIds_take k hi)
  rw [List.length_map] at this
  have := h.f256
  omega
theorem PInv.keptFew {D : PD} (h : PInv D) : D.kept.length ≤ 256 := by
  have := h.few 0
  rwa [List.take_zero] at this
theorem PInv.namesFew {D : PD} (h : PInv D) : D.names.length ≤ 256 := by
  have := h.few D.moves.length
  rwa [List.take_length, ← h.names] at this
theorem PInv.idLe {D : PD} (h : PInv D) {f : PF} (hf : f ∈ D.files) : f.id ≤ 1099511627776 := by
  have := h.fok f hf
  have := h.next2
  omega
/-- A row far from what is looked at. -/
theorem grown_far {W a b : World} {mb : Nat} {row : Option Nat} (h : W.grownBy a (some mb)) (k : a.grownBy b row) (hr : ∀ g, row = some g → W.heap.size ≤ g) : W.grownBy b (some mb) :=
  ⟨k.os.trans h.os, k.tape.trans h.tape, k.output.trans h.output, Nat.le_trans h.size k.size, fun i hi hne => (k.block i (Nat.lt_of_lt_of_le hi h.size) (fun e => by have := hr i e.symm; omega)).trans (h.block i hi hne)⟩
theorem own_base {w : World} {base base' : Nat} {e : TypeId} {k n : Nat} {v : Value} {xs : List Value} (h : w.ownsRow base e k v n xs) (hb : base' ≤ base) : w.ownsRow base' e k v n xs := by
  refine ⟨h.1, h.2.imp (fun h => h) ?_⟩
  rintro ⟨g, cap, cur, hv, hbg, r⟩
  exact ⟨g, cap, cur, hv, Nat.le_trans hb hbg, r⟩
theorem Holds.grown {w w' : World} {row : Option Nat} {b : Nat} {cs : List Value} (h : Holds w b cs) (hg : w.grownBy w' row) (hb : some b ≠ row) (hn : cs ≠ []) : Holds w' b cs := fun j v hj => by
  have h0 : ∃ v0, cs[0]? = some v0 := by cases cs with
    | nil => exact absurd rfl hn
    | cons x r => exact ⟨x, rfl⟩
  obtain ⟨v0, h0⟩ := h0
  exact ((grown_cells hg (World.block_lt_of_cell? w _ (h 0 v0 h0)) hb).1 j).trans (h j v hj)
theorem keep_grown {w w' : World} {mb : Nat} (hg : w.grownBy w' (some mb)) : KeepS (fun g => g ≠ mb ∧ g < w.heap.size) w w' := fun g o hs => (grown_cells hg hs.2 (fun e => hs.1 (Option.some.inj e))).1 o
theorem less_no {a b : ByteArray} (h : slt b a) : Op.bytesLess a.toList b.toList = false ∧ (a.toList == b.toList) = false := by
  constructor
  · rw [bytesLess_eq, ByteArray.toList_eq, ByteArray.toList_eq]
    exact decide_eq_false (slt_asymm h)
  · rw [beq_eq_false_iff_ne, ByteArray.toList_eq, ByteArray.toList_eq]
    intro e
    have : a = b := sl_inj e
    rw [this] at h
    exact slt_irrefl _ h
end Go.Proofs.Ytmkjjcogheidmaa
