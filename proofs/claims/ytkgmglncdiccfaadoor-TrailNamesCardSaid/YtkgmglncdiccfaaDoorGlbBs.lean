/-
  Strings as lists of bytes (layer 15).
-/
import Derived.Laws.Concat
import Derived.Laws.Strings2
set_option linter.unusedSimpArgs false
set_option linter.unusedVariables false
namespace Go.Proofs.YtkgmglncdiccfaaDoor
/-- The bytes of a string. -/
def bs (s : ByteArray) : List Nat := s.data.toList.map (·.toNat)
/-- A string of bytes. -/
def str (l : List Nat) : ByteArray := ⟨(l.map UInt8.ofNat).toArray⟩
theorem bs_length (s : ByteArray) : (bs s).length = s.size := by simp [bs]
theorem str_size (l : List Nat) : (str l).size = l.length := by simp [str, ByteArray.size]
theorem str_bs (s : ByteArray) : str (bs s) = s := by
  obtain ⟨⟨l⟩⟩ := s
  simp [str, bs, Function.comp_def]
theorem bs_str {l : List Nat} (h : ∀ c ∈ l, c < 256) : bs (str l) = l := by
  unfold bs str
  simp only [List.map_map]
  conv => rhs; rw [← List.map_id l]
  apply List.map_congr_left
  intro c hc
  have := h c hc
  simp [Nat.mod_eq_of_lt this]
theorem str_append (l m : List Nat) : str l ++ str m = str (l ++ m) := by
  unfold str
  rw [ByteArray.mk_append_mk]
  simp
theorem bs_append (s t : ByteArray) : bs (s ++ t) = bs s ++ bs t := by simp [bs]
theorem bs_mem (s : ByteArray) : ∀ c ∈ bs s, c < 256 := by
  intro c hc
  simp only [bs, List.mem_map] at hc
  obtain ⟨x, _, rfl⟩ := hc
  exact x.toNat_lt
theorem at_byte {s : ByteArray} {k : Nat} (h : k < s.size) : (s[k]'h).toNat = (bs s).getD k 0 := by
  obtain ⟨⟨l⟩⟩ := s
  have hl : k < l.length := h
  show (l[k]'hl).toNat = _
  unfold bs
  rw [List.getD_eq_getElem?_getD]
  simp [hl]
theorem bs_get {s : ByteArray} {k : Nat} (h : k < s.size) : ∃ c, (bs s).getD k 0 = c ∧ (s[k]'h).toNat = c ∧ c < 256 := by
  refine ⟨_, rfl, at_byte h, ?_⟩
  rw [← at_byte h]
  exact UInt8.toNat_lt _
theorem bs_from (s : ByteArray) (k : Nat) : bs (s.extract k s.size) = (bs s).drop k := by
  obtain ⟨⟨l⟩⟩ := s
  simp [bs, ByteArray.extract_mk]
  exact List.take_of_length_le (by rw [List.length_drop, List.length_map]; exact Nat.le_refl _)
theorem bs_upto (s : ByteArray) (k : Nat) : bs (s.extract 0 k) = (bs s).take k := by
  obtain ⟨⟨l⟩⟩ := s
  simp [bs, ByteArray.extract_mk]
theorem bs_cons {s : ByteArray} (h : 0 < s.size) : ∃ a m, bs s = a :: m ∧ (s[0]'h).toNat = a ∧ m.length + 1 = s.size ∧ a < 256 := by
  have hl := bs_length s
  have h0 := at_byte h
  obtain ⟨c, h1, h2, h3⟩ := bs_get h
  cases hb : bs s with
  | nil => rw [hb] at hl; simp at hl; omega
  | cons a m =>
    rw [hb] at hl h0 h1
    exact ⟨a, m, rfl, h0, hl, by simp at h1; omega⟩
theorem is_empty {R : ByteArray} (h : R.size = 0) : R = ⟨#[]⟩ := by
  obtain ⟨⟨l⟩⟩ := R
  have : l.length = 0 := h
  rw [List.eq_nil_of_length_eq_zero this]
theorem ne_empty {R : ByteArray} (h : 0 < R.size) : R ≠ ⟨#[]⟩ := fun e => by
  rw [e] at h
  exact absurd h (by decide)
theorem bs_nil {s : ByteArray} : bs s = [] ↔ s = ⟨#[]⟩ := by
  constructor
  · intro h
    have := str_bs s
    rw [h] at this
    exact this.symm
  · rintro rfl; rfl
end Go.Proofs.YtkgmglncdiccfaaDoor
