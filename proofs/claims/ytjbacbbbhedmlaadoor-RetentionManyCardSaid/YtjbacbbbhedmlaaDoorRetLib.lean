/-
  What the library's own words say of texts in the plain words of layer 10: a place of a byte, a cut, blanks.
-/
import Derived.Test.YtjbacbbbhedmlaaDoorRetRow
import Derived.Lib.IndexBytes
import Derived.Lib.IndexLaws
import Derived.Lib.IndexMore
import Derived.Lib.TrimByte
set_option linter.unusedSimpArgs false
set_option linter.unusedVariables false
namespace Go.Proofs.YtjbacbbbhedmlaaDoor
theorem bs_at (s : ByteArray) (k : Nat) : (bs s)[k]? = (s.data.toList[k]?).map (·.toNat) := by unfold bs; rw [List.getElem?_map]
theorem index_part (s : ByteArray) (c : UInt8) : (Lib.indexByte s.data.toList c = -1 ∧ c.toNat ∉ bs s) ∨
    (∃ o : Nat, Lib.indexByte s.data.toList c = (o : Int) ∧ o < s.size ∧ bs s = (bs s).take o ++ c.toNat :: (bs s).drop (o + 1) ∧ c.toNat ∉ (bs s).take o) := by
  have hge := Lib.indexByte_ge s.data.toList c
  by_cases h : Lib.indexByte s.data.toList c = -1
  · refine .inl ⟨h, fun hm => ?_⟩
    obtain ⟨k, hk⟩ := List.getElem?_of_mem hm
    rw [bs_at] at hk
    obtain ⟨b, hb, he⟩ := Option.map_eq_some_iff.1 hk
    exact Lib.indexByte_none h k (by rw [hb]; exact congrArg some (UInt8.toNat_inj.1 he))
  · right
    obtain ⟨o, ho⟩ : ∃ o : Nat, Lib.indexByte s.data.toList c = (o : Int) := ⟨(Lib.indexByte s.data.toList c).toNat, by omega⟩
    obtain ⟨h1, h2⟩ := Lib.indexByte_some ho
    have hlt : o < s.data.toList.length := (List.getElem?_eq_some_iff.1 h1).1
    have hlt2 : o < (bs s).length := by unfold bs; rw [List.length_map]; exact hlt
    have ha : (bs s)[o]? = some c.toNat := by rw [bs_at, h1]; rfl
    refine ⟨o, ho, by rw [← bs_length]; exact hlt2, ?_, fun hm => ?_⟩
    · have e := List.getElem?_eq_getElem hlt2
      rw [ha] at e
      conv => lhs; rw [← List.take_append_drop o (bs s), List.drop_eq_getElem_cons hlt2, ← Option.some.inj e]
    · obtain ⟨k, hk⟩ := List.getElem?_of_mem hm
      rw [List.getElem?_take] at hk
      split at hk
      · rename_i hko
        rw [bs_at] at hk
        obtain ⟨b, hb, he⟩ := Option.map_eq_some_iff.1 hk
        exact h2 k hko (by rw [hb]; exact congrArg some (UInt8.toNat_inj.1 he))
      · cases hk
theorem mk_strU (l : List UInt8) : (⟨l.toArray⟩ : ByteArray) = str (l.map (·.toNat)) := by
  have h := str_bs (⟨l.toArray⟩ : ByteArray)
  have e : bs (⟨l.toArray⟩ : ByteArray) = l.map (·.toNat) := by simp [bs]
  rw [e] at h; exact h.symm
/-- What stands ahead of a byte, and behind it. -/
def cutL (c : Nat) (l : List Nat) : List Nat × List Nat := match spl c l with
  | [] => ([], [])
  | a :: _ => if c ∈ l then (a, l.drop (a.length + 1)) else (a, [])
theorem cut_part (s : ByteArray) (c : UInt8) : (c.toNat ∉ bs s ∧ (⟨(Lib.cut s.data.toList [c]).1.toArray⟩ : ByteArray) = str (bs s) ∧ (⟨(Lib.cut s.data.toList [c]).2.1.toArray⟩ : ByteArray) = str []) ∨
    (∃ a b, bs s = a ++ c.toNat :: b ∧ c.toNat ∉ a ∧ (⟨(Lib.cut s.data.toList [c]).1.toArray⟩ : ByteArray) = str a ∧ (⟨(Lib.cut s.data.toList [c]).2.1.toArray⟩ : ByteArray) = str b) := by
  rw [mk_strU, mk_strU]
  unfold Lib.cut
  rw [Lib.index_one]
  rcases index_part s c with ⟨h1, h2⟩ | ⟨o, h1, h2, h3, h4⟩
  · left
    rw [h1, if_neg (by omega)]
    exact ⟨h2, rfl, rfl⟩
  · right
    rw [h1, if_pos (by omega)]
    refine ⟨(bs s).take o, (bs s).drop (o + 1), h3, h4, ?_, ?_⟩
    · congr 1
      show List.map _ (List.take (o : Int).toNat _) = _
      rw [List.map_take]; rfl
    · congr 1
      show List.map _ (List.drop ((o : Int).toNat + [c].length) _) = _
      rw [List.map_drop]; rfl
theorem trimR_cons (c : Nat) (l : List Nat) : trimR (c :: l) = if trimR l = [] then (if c = 32 then [] else [c]) else c :: trimR l := by
  unfold trimR
  rw [List.reverse_cons, List.dropWhile_append]
  by_cases h : (l.reverse.dropWhile (· == 32)) = []
  · have hi : (List.dropWhile (· == 32) l.reverse).isEmpty = true := by rw [h]; rfl
    rw [if_pos hi, if_pos (by rw [h]; rfl)]
    by_cases hc : c = 32
    · subst hc; rfl
    · rw [if_neg hc, List.dropWhile_cons_of_neg (by simpa using hc)]; rfl
  · have hi : ¬ (List.dropWhile (· == 32) l.reverse).isEmpty = true := by rw [List.isEmpty_iff]; exact h
    rw [if_neg hi, if_neg (by rw [List.reverse_eq_nil_iff]; exact h)]
    simp
theorem trim_swap : ∀ l : List Nat, trimL (trimR l) = trimR (trimL l)
  | [] => rfl
  | c :: l => by
    have ih := trim_swap l
    by_cases hc : c = 32
    · have e : trimL (c :: l) = trimL l := List.dropWhile_cons_of_pos (by simpa using hc)
      rw [e, trimR_cons]
      by_cases h : trimR l = []
      · rw [if_pos h, if_pos hc, ← ih, h]
      · rw [if_neg h, ← ih]
        exact List.dropWhile_cons_of_pos (by simpa using hc)
    · have e : trimL (c :: l) = c :: l := List.dropWhile_cons_of_neg (by simpa using hc)
      rw [e, trimR_cons]
      by_cases h : trimR l = []
      · rw [if_pos h, if_neg hc]
        exact List.dropWhile_cons_of_neg (by simpa using hc)
      · rw [if_neg h]
        exact List.dropWhile_cons_of_neg (by simpa using hc)
theorem drop32 : ∀ m : List UInt8, (m.dropWhile (· == 32)).map (·.toNat) = (m.map (·.toNat)).dropWhile (· == 32)
  | [] => rfl
  | d :: m => by
    by_cases h : d = 32
    · subst h
      rw [List.dropWhile_cons_of_pos (by simp), List.map_cons, List.dropWhile_cons_of_pos (by simp), drop32 m]
    · have : ¬ d.toNat = 32 := fun e => h (UInt8.toNat_inj.1 (by rw [e]; rfl))
      rw [List.dropWhile_cons_of_neg (by simpa using h), List.map_cons, List.dropWhile_cons_of_neg (by simpa using this)]
theorem trim_text (s : ByteArray) : (⟨(Lib.trimB s.data.toList 32).toArray⟩ : ByteArray) = str (trimB (bs s)) := by
  rw [mk_strU]
  congr 1
  unfold Lib.trimB Lib.trimLeftB Lib.trimRightB trimB
  rw [drop32, ← trim_swap]
  unfold trimL trimR
  rw [List.map_reverse, drop32, List.map_reverse]; rfl
end Go.Proofs.YtjbacbbbhedmlaaDoor
