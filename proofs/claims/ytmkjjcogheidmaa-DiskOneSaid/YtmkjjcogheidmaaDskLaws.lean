/-
  The statements of layer 6, plain: what a rename, a synced file and a kept directory come to behind a crash.
-/
import Derived.Test.YtmkjjcogheidmaaDskOps
set_option linter.unusedSimpArgs false
set_option linter.unusedVariables false
namespace Go.Proofs.Ytmkjjcogheidmaa
def dA : ByteArray := ⟨#[97]⟩
def dB : ByteArray := ⟨#[98]⟩
def dE : ByteArray := ⟨#[101]⟩
/-! ### One or the other -/
def oD1 : PD := ⟨1000, [⟨1, [], 0⟩], [⟨dA, 1⟩], [], [⟨1, dA, noN, 1⟩], 2⟩
def oD2 (a : List Nat) : PD := ⟨1000, [⟨1, a, 0⟩], [⟨dA, 1⟩], [], [⟨1, dA, noN, 1⟩], 2⟩
def oD3 (a : List Nat) : PD := ⟨1000, [⟨1, a, a.length⟩], [⟨dA, 1⟩], [], [⟨1, dA, noN, 1⟩], 2⟩
def oD4 (a : List Nat) : PD := ⟨1000, [⟨1, a, a.length⟩], [⟨dA, 1⟩], [⟨dA, 1⟩], [], 2⟩
def oD5 (a : List Nat) : PD := ⟨1000, [⟨1, a, a.length⟩, ⟨2, [], 0⟩], [⟨dA, 1⟩, ⟨dB, 2⟩], [⟨dA, 1⟩], [⟨1, dB, noN, 2⟩], 3⟩
def oD6 (a b : List Nat) : PD := ⟨1000, [⟨1, a, a.length⟩, ⟨2, b, 0⟩], [⟨dA, 1⟩, ⟨dB, 2⟩], [⟨dA, 1⟩], [⟨1, dB, noN, 2⟩], 3⟩
def oD7 (a b : List Nat) : PD := ⟨1000, [⟨1, a, a.length⟩, ⟨2, b, b.length⟩], [⟨dA, 1⟩, ⟨dB, 2⟩], [⟨dA, 1⟩], [⟨1, dB, noN, 2⟩], 3⟩
def oD8 (a b : List Nat) : PD := ⟨1000, [⟨1, a, a.length⟩, ⟨2, b, b.length⟩], [⟨dA, 2⟩], [⟨dA, 1⟩], [⟨1, dB, noN, 2⟩, ⟨3, dB, dA, 0⟩], 3⟩
def oD9 (b : List Nat) : PD := ⟨1000, [⟨2, b, b.length⟩], [⟨dA, 2⟩], [⟨dA, 2⟩], [], 3⟩
theorem oE1 : pCreate (pNew 1000) dA = (oD1, 0) := by rfl
theorem oE2 {a : List Nat} (h : a.length ≤ 400) : pAppend oD1 dA a = (oD2 a, 0) := by
  unfold pAppend
  rw [if_neg (by decide), if_neg (by show ¬ 1000 < 0 + a.length; omega)]
  rfl
theorem oE3 (a : List Nat) : pSync (oD2 a) dA = (oD3 a, 0) := by
  unfold pSync
  rw [if_neg (by show ¬ ¬ nHas dA [⟨dA, 1⟩]; decide)]
  rfl
theorem oE4 (a : List Nat) : pSyncDir (oD3 a) = oD4 a := by rfl
theorem oE5 (a : List Nat) : pCreate (oD4 a) dB = (oD5 a, 0) := by
  unfold pCreate
  rw [if_neg (by show ¬ nHas dB [⟨dA, 1⟩]; decide), if_neg (by show ¬ (1 = 256 ∨ 2 = 1099511627776); decide)]
  rfl
theorem oE6 {a b : List Nat} (ha : a.length ≤ 400) (hb : b.length ≤ 400) : pAppend (oD5 a) dB b = (oD6 a b, 0) := by
  unfold pAppend
  rw [if_neg (by show ¬ ¬ nHas dB [⟨dA, 1⟩, ⟨dB, 2⟩]; decide), if_neg (by show ¬ 1000 < a.length + (0 + 0) + b.length; omega)]
  rfl
theorem oE7 (a b : List Nat) : pSync (oD6 a b) dB = (oD7 a b, 0) := by
  unfold pSync
  rw [if_neg (by show ¬ ¬ nHas dB [⟨dA, 1⟩, ⟨dB, 2⟩]; decide)]
  rfl
theorem oE8 (a b : List Nat) : pRename (oD7 a b) dB dA = (oD8 a b, 0) := by
  unfold pRename
  rw [if_neg (by show ¬ ¬ nHas dB [⟨dA, 1⟩, ⟨dB, 2⟩]; decide), if_neg (by decide)]
  rfl
theorem oE9 (a b : List Nat) : pSyncDir (oD8 a b) = oD9 b := by rfl
theorem take_own (a : List Nat) (n : Nat) : a.take (a.length + n) = a := List.take_of_length_le (Nat.le_add_right _ _)
theorem oR9 (b : List Nat) (m : Int) : pRead (pCrash (oD9 b) m []) dA = (b, 0) := by
  have e : mRun (oD9 b).kept ((oD9 b).moves.take m.toNat) = [⟨dA, 2⟩] := by
    show mRun [⟨dA, 2⟩] (List.take m.toNat []) = _
    rw [List.take_nil]
    rfl
  unfold pRead pCrash
  rw [e, if_neg (show ¬ ¬ nHas dA [⟨dA, 2⟩] by decide)]
  show (b.take (b.length + _), (0 : Int)) = _
  rw [take_own]
theorem oR8 (a b : List Nat) (m : Int) : pRead (pCrash (oD8 a b) m []) dA = (if 2 ≤ m then b else a, 0) := by
  have hm : m.toNat = 0 ∨ m.toNat = 1 ∨ 2 ≤ m.toNat := by omega
  rcases hm with h | h | h
  · rw [if_neg (by omega)]
    have e : mRun (oD8 a b).kept ((oD8 a b).moves.take m.toNat) = [⟨dA, 1⟩] := by rw [h]; rfl
    unfold pRead pCrash
    rw [e, if_neg (show ¬ ¬ nHas dA [⟨dA, 1⟩] by decide)]
    show (a.take (a.length + _), (0 : Int)) = _
    rw [take_own]
  · rw [if_neg (by omega)]
    have e : mRun (oD8 a b).kept ((oD8 a b).moves.take m.toNat) = [⟨dA, 1⟩, ⟨dB, 2⟩] := by rw [h]; rfl
    unfold pRead pCrash
    rw [e, if_neg (show ¬ ¬ nHas dA [⟨dA, 1⟩, ⟨dB, 2⟩] by decide)]
    show (a.take (a.length + _), (0 : Int)) = _
    rw [take_own]
  · rw [if_pos (by omega)]
    have e : mRun (oD8 a b).kept ((oD8 a b).moves.take m.toNat) = [⟨dA, 2⟩] := by
      rw [List.take_of_length_le (show (oD8 a b).moves.length ≤ m.toNat from h)]
      rfl
    unfold pRead pCrash
    rw [e, if_neg (show ¬ ¬ nHas dA [⟨dA, 2⟩] by decide)]
    show (b.take (b.length + _), (0 : Int)) = _
    rw [take_own]
/-! ### Kept -/
theorem keepOf_nil (i : Nat) : keepOf [] i = 0 := rfl
theorem kept_names (D : PD) (m : Int) : (pCrash (pSyncDir D) m []).names = (pSyncDir D).names := by
  show mRun D.names (List.take m.toNat []) = D.names
  rw [List.take_nil]
  rfl
theorem kept_files (D : PD) (m : Int) : (pCrash (pSyncDir D) m []).files = (pSyncDir D).files.map (fCut []) := by
  have e : mRun (pSyncDir D).kept ((pSyncDir D).moves.take m.toNat) = D.names := by
    show mRun D.names (List.take m.toNat []) = D.names
    rw [List.take_nil]
    rfl
  show ((pSettle (pSyncDir D) (mRun (pSyncDir D).kept ((pSyncDir D).moves.take m.toNat))).files.map (fCut [])) = _
  rw [e]
  congr 1
  show (D.files.filter _).filter _ = D.files.filter _
  rw [List.filter_filter]
  congr 1
  funext f
  simp
theorem fCut_nil (f : PF) : (fCut [] f).bytes = f.bytes.take f.sure := by
  unfold fCut
  rw [keepOf_nil, Nat.zero_min, Nat.add_zero]
end Go.Proofs.Ytmkjjcogheidmaa
