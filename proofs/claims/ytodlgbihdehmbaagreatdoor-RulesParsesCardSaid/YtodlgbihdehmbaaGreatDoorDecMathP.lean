/-
  Plain facts on numbers as text, for the statements of layer 3: a text is a list of bytes as natural numbers. Nothing of the program is imported.
-/
import Derived.Test.YtodlgbihdehmbaaGreatDoorMath2P
import Derived.Laws.Concat
set_option linter.unusedSimpArgs false
set_option linter.unusedVariables false
namespace Go.Proofs.YtodlgbihdehmbaaGreatDoor
/-- The bytes of a string. -/
def bs (s : ByteArray) : List Nat := s.data.toList.map (·.toNat)
/-- Is a byte a digit? -/
def isD (c : Int) : Bool := decide (48 ≤ c) && decide (c ≤ 57)
/-- What digits say. -/
def val (l : List Nat) : Nat := l.foldl (fun n c => n * 10 + (c - 48)) 0
def allD (l : List Nat) : Bool := l.all fun c => isD c
/-- The byte number k, or 0. -/
def byteAt (l : List Nat) (k : Nat) : Nat := l.getD k 0

theorem bs_length (s : ByteArray) : (bs s).length = s.size := by simp [bs]
theorem at_byte {s : ByteArray} {k : Nat} (h : k < s.size) : (s[k]'h).toNat = byteAt (bs s) k := by
  obtain ⟨⟨l⟩⟩ := s
  have hl : k < l.length := h
  show (l[k]'hl).toNat = _
  unfold byteAt bs
  rw [List.getD_eq_getElem?_getD]
  simp [hl]
theorem byte_le (s : ByteArray) (k : Nat) : byteAt (bs s) k ≤ 255 := by
  by_cases h : k < s.size
  · rw [← at_byte h]
    have := UInt8.toNat_lt (s[k]'h)
    omega
  · unfold byteAt
    rw [List.getD_eq_getElem?_getD, List.getElem?_eq_none (by rw [bs_length]; omega)]
    exact Nat.zero_le _
theorem isD_bounds {c : Int} (h : isD c = true) : 48 ≤ c ∧ c ≤ 57 := by simpa [isD] using h
theorem val_snoc (l : List Nat) (c : Nat) : val (l ++ [c]) = val l * 10 + (c - 48) := by simp [val, List.foldl_append]
theorem take_snoc {l : List Nat} {k : Nat} (h : k < l.length) : l.take (k + 1) = l.take k ++ [byteAt l k] := by
  rw [List.take_add_one]
  unfold byteAt
  rw [List.getElem?_eq_getElem h, List.getD_eq_getElem?_getD, List.getElem?_eq_getElem h]
  rfl

theorem foldl_le (l : List Nat) : ∀ n : Nat, n ≤ l.foldl (fun n c => n * 10 + (c - 48)) n := by
  induction l with
  | nil => intro n; exact Nat.le_refl _
  | cons c l ih => intro n; exact Nat.le_trans (by omega) (ih (n * 10 + (c - 48)))
theorem allD_no {l : List Nat} {k : Nat} (h : k < l.length) (hd : isD (byteAt l k) = false) : allD l = false := by
  unfold allD
  rw [List.all_eq_false]
  refine ⟨l[k], List.getElem_mem h, ?_⟩
  unfold byteAt at hd
  rw [List.getD_eq_getElem?_getD, List.getElem?_eq_getElem h] at hd
  simpa using hd
theorem allD_at {l : List Nat} {k : Nat} (h : allD l = true) (hk : k < l.length) : isD (byteAt l k) = true := by
  unfold allD at h
  rw [List.all_eq_true] at h
  have := h l[k] (List.getElem_mem hk)
  unfold byteAt
  rw [List.getD_eq_getElem?_getD, List.getElem?_eq_getElem hk]
  exact this
theorem allD_yes {l : List Nat} (h : ∀ k, k < l.length → isD (byteAt l k) = true) : allD l = true := by
  unfold allD
  rw [List.all_eq_true]
  intro c hc
  obtain ⟨k, hk, rfl⟩ := List.getElem_of_mem hc
  have := h k hk
  unfold byteAt at this
  rw [List.getD_eq_getElem?_getD, List.getElem?_eq_getElem hk] at this
  exact this
/-- A string of bytes. -/
def str (l : List Nat) : ByteArray := ⟨(l.map UInt8.ofNat).toArray⟩
theorem str_size (l : List Nat) : (str l).size = l.length := by simp [str, ByteArray.size]
theorem str_bs (s : ByteArray) : str (bs s) = s := by
  obtain ⟨⟨l⟩⟩ := s
  simp [str, bs, Function.comp_def]
theorem bs_str {l : List Nat} (h : ∀ c ∈ l, c < 256) : bs (str l) = l := by
  unfold bs str
  simp only [List.map_map]
  conv => rhs; rw [← List.map_id l]
  apply List.map_congr_left
  intro c hc
  have := h c hc
  simp [Nat.mod_eq_of_lt this]
theorem str_append (l m : List Nat) : str l ++ str m = str (l ++ m) := by
  unfold str
  rw [ByteArray.mk_append_mk]
  simp
/-- The digits of a number, the greatest first. -/
def digs (n : Nat) : List Nat := if h : n < 10 then [48 + n] else digs (n / 10) ++ [48 + n % 10]
termination_by n
decreasing_by omega
/-- The digits ahead of those that are written already: of 0 none. -/
def pre (n : Nat) : List Nat := if n = 0 then [] else digs n
end Go.Proofs.YtodlgbihdehmbaaGreatDoor
