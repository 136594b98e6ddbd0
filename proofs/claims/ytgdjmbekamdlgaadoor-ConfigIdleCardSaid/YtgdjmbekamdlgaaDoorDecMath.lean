/-
  Plain facts on numbers as text, for the statements of layer 3: a text is a list of bytes as natural numbers. Nothing of the program is imported.
-/
import Derived.Test.YtgdjmbekamdlgaaDoorMath2
import Derived.Laws.Concat
set_option linter.unusedSimpArgs false
set_option linter.unusedVariables false
namespace Go.Proofs.YtgdjmbekamdlgaaDoor
/-- The bytes of a string. -/
def bs (s : ByteArray) : List Nat := s.data.toList.map (·.toNat)
/-- Is a byte a digit? -/
def isD (c : Int) : Bool := decide (48 ≤ c) && decide (c ≤ 57)
/-- What digits say. -/
def val (l : List Nat) : Nat := l.foldl (fun n c => n * 10 + (c - 48)) 0
def allD (l : List Nat) : Bool := l.all fun c => isD c
/-- The byte number k, or 0. -/
def byteAt (l : List Nat) (k : Nat) : Nat := l.getD k 0

theorem bs_length (s : ByteArray) : (bs s).length = s.size := by simp [bs]
theorem at_byte {s : ByteArray} {k : Nat} (h : k < s.size) : (s[k]'h).toNat = byteAt (bs s) k := by
  obtain ⟨⟨l⟩⟩ := s
  have hl : k < l.length := h
  show (l[k]'hl).toNat = _
  unfold byteAt bs
  rw [List.getD_eq_getElem?_getD]
  simp [hl]
theorem byte_le (s : ByteArray) (k : Nat) : byteAt (bs s) k ≤ 255 := by
  by_cases h : k < s.size
  · rw [← at_byte h]
    have := UInt8.toNat_lt (s[k]'h)
    omega
  · unfold byteAt
    rw [List.getD_eq_getElem?_getD, List.getElem?_eq_none (by rw [bs_length]; omega)]
    exact Nat.zero_le _
theorem isD_bounds {c : Int} (h : isD c = true) : 48 ≤ c ∧ c ≤ 57 := by simpa [isD] using h
theorem val_snoc (l : List Nat) (c : Nat) : val (l ++ [c]) = val l * 10 + (c - 48) := by simp [val, List.foldl_append]
theorem val_nil : val [] = 0 := rfl
theorem take_snoc {l : List Nat} {k : Nat} (h : k < l.length) : l.take (k + 1) = l.take k ++ [byteAt l k] := by
  rw [List.take_add_one]
  unfold byteAt
  rw [List.getElem?_eq_getElem h, List.getD_eq_getElem?_getD, List.getElem?_eq_getElem h]
  rfl

theorem foldl_le (l : List Nat) : ∀ n : Nat, n ≤ l.foldl (fun n c => n * 10 + (c - 48)) n := by
  induction l with
  | nil => intro n; exact Nat.le_refl _
  | cons c l ih => intro n; exact Nat.le_trans (by omega) (ih (n * 10 + (c - 48)))
theorem val_take_le (l : List Nat) (k : Nat) : val (l.take k) ≤ val l := by
  have h : val l = val (l.take k ++ l.drop k) := by rw [List.take_append_drop]
  rw [h]
  unfold val
  rw [List.foldl_append]
  exact foldl_le _ _

/-! ### A whole text -/
def wholeV (l : List Nat) : Nat := if 64 < l.length then 0 else if allD l = false ∨ l = [] then 0 else if 1099511627776 < val l then 0 else val l
def wholeE (l : List Nat) : Int := if 64 < l.length then 12 else if allD l = false ∨ l = [] then 2 else if 1099511627776 < val l then 3 else 0
theorem allD_no {l : List Nat} {k : Nat} (h : k < l.length) (hd : isD (byteAt l k) = false) : allD l = false := by
  unfold allD
  rw [List.all_eq_false]
  refine ⟨l[k], List.getElem_mem h, ?_⟩
  unfold byteAt at hd
  rw [List.getD_eq_getElem?_getD, List.getElem?_eq_getElem h] at hd
  simpa using hd
theorem allD_at {l : List Nat} {k : Nat} (h : allD l = true) (hk : k < l.length) : isD (byteAt l k) = true := by
  unfold allD at h
  rw [List.all_eq_true] at h
  have := h l[k] (List.getElem_mem hk)
  unfold byteAt
  rw [List.getD_eq_getElem?_getD, List.getElem?_eq_getElem hk]
  exact this
theorem allD_yes {l : List Nat} (h : ∀ k, k < l.length → isD (byteAt l k) = true) : allD l = true := by
  unfold allD
  rw [List.all_eq_true]
  intro c hc
  obtain ⟨k, hk, rfl⟩ := List.getElem_of_mem hc
  have := h k hk
  unfold byteAt at this
  rw [List.getD_eq_getElem?_getD, List.getElem?_eq_getElem hk] at this
  exact this
/-! ### Texts of numbers -/
/-- A string of bytes. -/
def str (l : List Nat) : ByteArray := ⟨(l.map UInt8.ofNat).toArray⟩
theorem str_size (l : List Nat) : (str l).size = l.length := by simp [str, ByteArray.size]
theorem str_bs (s : ByteArray) : str (bs s) = s := by
  obtain ⟨⟨l⟩⟩ := s
  simp [str, bs, Function.comp_def]
theorem bs_str {l : List Nat} (h : ∀ c ∈ l, c < 256) : bs (str l) = l := by
  unfold bs str
  simp only [List.map_map]
  conv => rhs; rw [← List.map_id l]
  apply List.map_congr_left
  intro c hc
  have := h c hc
  simp [Nat.mod_eq_of_lt this]
theorem str_append (l m : List Nat) : str l ++ str m = str (l ++ m) := by
  unfold str
  rw [ByteArray.mk_append_mk]
  simp
/-- The digits of a number, the greatest first. -/
def digs (n : Nat) : List Nat := if h : n < 10 then [48 + n] else digs (n / 10) ++ [48 + n % 10]
termination_by n
decreasing_by omega
theorem digs_small {n : Nat} (h : n < 10) : digs n = [48 + n] := by unfold digs; rw [dif_pos h]
theorem digs_big {n : Nat} (h : ¬ n < 10) : digs n = digs (n / 10) ++ [48 + n % 10] := by rw [digs, dif_neg h]
/-- The digits ahead of those that are written already: of 0 none. -/
def pre (n : Nat) : List Nat := if n = 0 then [] else digs n
theorem digs_pre (n : Nat) : digs n = pre (n / 10) ++ [48 + n % 10] := by
  by_cases h : n < 10
  · rw [digs_small h]; unfold pre; rw [if_pos (by omega), Nat.mod_eq_of_lt h]; rfl
  · rw [digs_big h]; unfold pre; rw [if_neg (by omega)]
theorem pre_step {n : Nat} (h : n ≠ 0) (S : List Nat) : pre n ++ S = pre (n / 10) ++ ((48 + n % 10) :: S) := by
  have e : pre n = digs n := if_neg h
  rw [e, digs_pre, List.append_assoc]; rfl
theorem digs_length : ∀ (k n : Nat), n < 10 ^ (k + 1) → (digs n).length ≤ k + 1 := by
  intro k
  induction k with
  | zero => intro n h; rw [digs_small (by simpa using h)]; simp
  | succ k ih =>
    intro n h
    by_cases hn : n < 10
    · rw [digs_small hn]; simp
    · rw [digs_big hn, List.length_append]
      have := ih (n / 10) (by rw [Nat.pow_succ] at h; omega)
      simp; omega
theorem digs_length64 {n : Nat} (h : n < 18446744073709551616) : (digs n).length ≤ 20 := digs_length 19 n (Nat.lt_trans h (by decide))
theorem dig_ext {r : Nat} (h : r < 10) : (ByteArray.mk #[48, 49, 50, 51, 52, 53, 54, 55, 56, 57]).extract r (r + 1) = str [48 + r] := by
  have : ∀ q : Fin 10, (ByteArray.mk #[48, 49, 50, 51, 52, 53, 54, 55, 56, 57]).extract q.1 (q.1 + 1) = str [48 + q.1] := by decide +kernel
  exact this ⟨r, h⟩
theorem digs_byte : ∀ (n : Nat), ∀ c ∈ digs n, 48 ≤ c ∧ c ≤ 57 := by
  intro n
  induction n using Nat.strongRecOn with
  | _ n ih =>
    intro c hc
    by_cases h : n < 10
    · rw [digs_small h] at hc
      simp at hc; omega
    · rw [digs_big h, List.mem_append] at hc
      rcases hc with hc | hc
      · exact ih (n / 10) (by omega) c hc
      · simp at hc; omega
theorem digs_ne (n : Nat) : digs n ≠ [] := by rw [digs_pre]; simp
/-- The decimals of a part below 1000000, without noughts at the end. -/
def frF : Nat → Nat → List Nat
  | 0, _ => []
  | k + 1, p => if p = 0 then [] else (48 + p / 100000) :: frF k (p % 100000 * 10)
theorem frF_zero (k : Nat) : frF k 0 = [] := by cases k <;> simp [frF]
theorem frF_step {k p : Nat} (h : p ≠ 0) : frF (k + 1) p = (48 + p / 100000) :: frF k (p % 100000 * 10) := by simp [frF, h]
/-- A number as text: its sign, its whole part, its decimals. -/
def sizeS (a : Nat) : List Nat := digs (a / 1000000) ++ (if a % 1000000 = 0 then [] else 46 :: frF 6 (a % 1000000))
def printS (o : Option Int) : List Nat := match o with
  | some v => (if v < 0 then [45] else []) ++ sizeS v.natAbs
  | none => [78, 111, 110, 101]
theorem fr_div {x j : Nat} (h : x % 10 ^ j = 0) (hj : j ≤ 5) : x % 100000 * 10 % 10 ^ (j + 1) = 0 := by
  have hd : (10 ^ j) ∣ 100000 := (Nat.pow_dvd_pow_iff_le_right (by decide)).2 hj
  have h1 : x % 100000 % 10 ^ j = 0 := by rw [Nat.mod_mod_of_dvd _ hd]; exact h
  rw [Nat.pow_succ, Nat.mul_mod_mul_right, h1]
theorem fr_end {x : Nat} (h : x % 10 ^ 6 = 0) (hx : x < 1000000) : x = 0 := by
  have : x % 1000000 = 0 := h
  omega
end Go.Proofs.YtgdjmbekamdlgaaDoor
