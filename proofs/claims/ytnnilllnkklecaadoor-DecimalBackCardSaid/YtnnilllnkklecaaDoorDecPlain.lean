/-
  What the library's own words say of texts of numbers, in this project's plain words: prefixes, cuts, numerals read and written. Nothing of the program is imported.
-/
import Derived.Test.YtnnilllnkklecaaDoorDecBack
import Derived.Lib.Strings
import Derived.Lib.IndexMore
import Derived.Lib.ParseIntB
import Derived.Lib.AtoiAll
import Derived.Lib.ItoaMem
import Derived.Lib.TrimByte
import Derived.Lib.Repeat
import Derived.Lib.Join
set_option linter.unusedSimpArgs false
set_option linter.unusedVariables false
namespace Go.Proofs.YtnnilllnkklecaaDoor
/-- Bytes as natural numbers. -/
def nu (l : List UInt8) : List Nat := l.map (·.toNat)
theorem bs_nu (s : ByteArray) : bs s = nu s.data.toList := rfl
theorem bs_mk (l : List UInt8) : bs ⟨l.toArray⟩ = nu l := by simp [bs, nu]
theorem mk_str (l : List UInt8) : (⟨l.toArray⟩ : ByteArray) = str (nu l) := by
  have h := str_bs (⟨l.toArray⟩ : ByteArray)
  rw [bs_mk] at h; exact h.symm
theorem nu_length (l : List UInt8) : (nu l).length = l.length := by simp [nu]
theorem nu_append (l m : List UInt8) : nu (l ++ m) = nu l ++ nu m := by simp [nu]
theorem nu_nil {l : List UInt8} : nu l = [] ↔ l = [] := by simp [nu]
theorem bs_append (s t : ByteArray) : bs (s ++ t) = bs s ++ bs t := by simp [bs]
theorem bs_nil {s : ByteArray} : bs s = [] ↔ s = ⟨#[]⟩ := by
  constructor
  · intro h
    have := str_bs s
    rw [h] at this
    exact this.symm
  · rintro rfl; rfl
theorem byteAt_cons (c : Nat) (l : List Nat) : byteAt (c :: l) 0 = c := rfl

/-! ### Prefixes of one byte -/
theorem pre_one (l : List UInt8) (c : UInt8) : Lib.hasPrefix l [c] = decide (byteAt (nu l) 0 = c.toNat ∧ nu l ≠ []) := by
  cases l with
  | nil => simp [Lib.hasPrefix, nu]
  | cons d l =>
    simp only [Lib.hasPrefix, List.isPrefixOf, Bool.and_true, nu, List.map_cons, byteAt_cons, ne_eq, reduceCtorEq, not_false_eq_true, and_true]
    by_cases h : d = c
    · subst h; simp
    · have : ¬ d.toNat = c.toNat := fun e => h (UInt8.toNat_inj.1 e)
      rw [decide_eq_false this]
      simpa [beq_eq_false_iff_ne] using (Ne.symm h)
theorem trimPre_one (l : List UInt8) (c : UInt8) : nu (Lib.trimPrefix l [c]) = if byteAt (nu l) 0 = c.toNat ∧ nu l ≠ [] then (nu l).drop 1 else nu l := by
  unfold Lib.trimPrefix
  rw [pre_one]
  by_cases h : byteAt (nu l) 0 = c.toNat ∧ nu l ≠ []
  · rw [if_pos h, if_pos (by simpa using h)]; simp [nu]
  · rw [if_neg h, if_neg (by simpa using h)]
theorem sign_minus (l : List UInt8) (h : Lib.hasPrefix l [45] = true) : nu (Lib.trimPrefix l [45]) = cut1 (nu l) ∧ sgnB (nu l) = true := by
  rw [pre_one] at h
  have h' := of_decide_eq_true h
  rw [trimPre_one, if_pos h']
  exact ⟨by unfold cut1; rw [if_pos ⟨h'.2, .inl h'.1⟩], by unfold sgnB; exact decide_eq_true h'⟩
theorem sign_plus (l : List UInt8) (h : Lib.hasPrefix l [45] = false) : nu (Lib.trimPrefix l [43]) = cut1 (nu l) ∧ sgnB (nu l) = false := by
  rw [pre_one] at h
  have h' : ¬ (byteAt (nu l) 0 = 45 ∧ nu l ≠ []) := of_decide_eq_false h
  rw [trimPre_one, show UInt8.toNat 43 = 43 from rfl]
  refine ⟨?_, by unfold sgnB; exact decide_eq_false h'⟩
  unfold cut1
  by_cases hp : byteAt (nu l) 0 = 43 ∧ nu l ≠ []
  · rw [if_pos hp, if_pos ⟨hp.2, .inr hp.1⟩]
  · rw [if_neg hp, if_neg]
    rintro ⟨h1, h2 | h2⟩
    · exact h' ⟨h2, h1⟩
    · exact hp ⟨h2, h1⟩
/-! ### A cut at the first point -/
theorem index_dot : ∀ l : List UInt8, (46 ∉ nu l → Lib.index l [46] = -1) ∧ (46 ∈ nu l → Lib.index l [46] = ((ipart (nu l)).length : Int))
  | [] => ⟨fun _ => rfl, fun h => by simp [nu] at h⟩
  | d :: l => by
    obtain ⟨h1, h2⟩ := index_dot l
    have hn : nu (d :: l) = d.toNat :: nu l := rfl
    by_cases hd : d = 46
    · subst hd
      refine ⟨fun h => absurd (by rw [hn]; exact List.mem_cons_self) h, fun _ => ?_⟩
      rw [hn]
      simp [Lib.index, ipart]
    · have hd' : d.toNat ≠ 46 := fun e => hd (UInt8.toNat_inj.1 (by rw [e]; rfl))
      have hpre : ([46] : List UInt8).isPrefixOf (d :: l) = false := by
        simp [List.isPrefixOf, beq_eq_false_iff_ne]; exact fun e => hd e.symm
      rw [hn]
      unfold Lib.index ipart
      rw [hpre, if_neg hd']
      constructor
      · intro h
        have : 46 ∉ nu l := fun e => h (List.mem_cons_of_mem _ e)
        rw [h1 this]; rfl
      · intro h
        have hm : 46 ∈ nu l := by
          rcases List.mem_cons.1 h with e | e
          · exact absurd e.symm hd'
          · exact e
        rw [h2 hm]
        have : ((((ipart (nu l)).length : Int) == -1) = true) = False := by simp
        simp only [this, Bool.false_eq_true, if_false, List.length_cons]
        omega
theorem cut_dot (l : List UInt8) : nu (Lib.cut l [46]).1 = ipart (nu l) ∧ nu (Lib.cut l [46]).2.1 = fpart (nu l) := by
  obtain ⟨hno, hyes, hnd⟩ := part_dot (nu l)
  obtain ⟨h1, h2⟩ := index_dot l
  have take_nu : ∀ n, nu (l.take n) = (nu l).take n := fun n => by simp [nu]
  have drop_nu : ∀ n, nu (l.drop n) = (nu l).drop n := fun n => by simp [nu]
  unfold Lib.cut
  by_cases h : 46 ∈ nu l
  · rw [h2 h, if_pos (by omega)]
    have e := hyes h
    have hi : (((ipart (nu l)).length : Int)).toNat = (ipart (nu l)).length := by omega
    rw [hi]
    generalize ipart (nu l) = i at *
    generalize fpart (nu l) = f at *
    constructor
    · show nu (l.take _) = _
      rw [take_nu, e]; simp
    · show nu (l.drop _) = _
      rw [drop_nu, e, show ([46] : List UInt8).length = 1 from rfl, List.drop_append, List.drop_eq_nil_of_le (by omega)]
      simp
  · rw [h1 h, if_neg (by omega)]
    obtain ⟨a, b⟩ := hno h
    exact ⟨a.symm, b.symm⟩
/-! ### Numerals that are read -/
theorem parseM_digits : ∀ (l : List UInt8) (acc : Nat), allD (nu l) = true → acc ≤ 18446744073709551615 →
    Lib.parseUintM (2 ^ 64 - 1) acc l = if (nu l).foldl (fun n c => n * 10 + (c - 48)) acc ≤ 18446744073709551615 then .ok ((nu l).foldl (fun n c => n * 10 + (c - 48)) acc) else .range
  | [], acc, _, ha => by
    show Lib.NumEnd.ok acc = _
    have : (nu ([] : List UInt8)).foldl (fun n c => n * 10 + (c - 48)) acc = acc := rfl
    rw [this, if_pos ha]
  | c :: r, acc, h, ha => by
    have hn : nu (c :: r) = c.toNat :: nu r := rfl
    rw [hn] at h ⊢
    obtain ⟨hc, hr⟩ := allD_cons.1 h
    have hb := isD_bounds hc
    have hle := foldl_le (nu r) (acc * 10 + (c.toNat - 48))
    unfold Lib.parseUintM
    rw [if_pos ⟨by omega, by omega⟩, List.foldl_cons]
    by_cases h1 : 1844674407370955162 ≤ acc
    · rw [if_pos h1, if_neg (by omega)]
    · rw [if_neg h1]
      have e64 : (2 : Nat) ^ 64 - 1 = 18446744073709551615 := by decide
      by_cases h2 : 18446744073709551615 < acc * 10 + (c.toNat - 48)
      · rw [if_pos (by rw [e64]; exact h2), if_neg (by omega)]
      · rw [if_neg (by rw [e64]; exact h2)]
        exact parseM_digits r _ hr (by omega)
theorem first_digit {l : List UInt8} (h : allD (nu l) = true) (hne : l ≠ []) : ∃ c r, l = c :: r ∧ ¬ (c.toNat = 43 ∨ c.toNat = 45) ∧ ¬ c.toNat = 45 := by
  cases l with
  | nil => exact absurd rfl hne
  | cons c r =>
    have hn : nu (c :: r) = c.toNat :: nu r := rfl
    rw [hn] at h
    have hb := isD_bounds (allD_cons.1 h).1
    exact ⟨c, r, rfl, by omega, by omega⟩
theorem parseInt_digits {l : List UInt8} (h : allD (nu l) = true) (hne : l ≠ []) : Lib.parseIntB 64 l = if val (nu l) ≤ 9223372036854775807 then .ok (val (nu l) : Int) else .range := by
  obtain ⟨c, r, rfl, h1, h2⟩ := first_digit h hne
  unfold Lib.parseIntB
  simp only [if_neg h1, Lib.parseUintB, if_neg hne]
  rw [parseM_digits _ 0 h (by omega)]
  have ev : (nu (c :: r)).foldl (fun n c => n * 10 + (c - 48)) 0 = val (nu (c :: r)) := rfl
  rw [ev]
  have e63 : (2 : Nat) ^ (64 - 1) = 9223372036854775808 := by decide
  generalize val (nu (c :: r)) = V
  by_cases hb : V ≤ 18446744073709551615
  · rw [if_pos hb]
    show (if ¬ c.toNat = 45 ∧ (2 : Nat) ^ (64 - 1) ≤ V then Lib.NumEnd.range else if c.toNat = 45 ∧ (2 : Nat) ^ (64 - 1) < V then Lib.NumEnd.range else Lib.NumEnd.ok (if c.toNat = 45 then -(V : Int) else (V : Int))) = _
    by_cases hm : V ≤ 9223372036854775807
    · rw [if_pos hm, if_neg (fun e => by have := e.2; omega), if_neg (fun e => h2 e.1), if_neg h2]
    · rw [if_neg hm, if_pos ⟨h2, by omega⟩]
  · rw [if_neg hb, if_neg (by omega)]
theorem parse10_digits : ∀ (l : List UInt8) (acc : Nat), allD (nu l) = true → acc ≤ 18446744073709551615 →
    Lib.parseUint10 acc l = if (nu l).foldl (fun n c => n * 10 + (c - 48)) acc ≤ 18446744073709551615 then .ok ((nu l).foldl (fun n c => n * 10 + (c - 48)) acc) else .range
  | [], acc, _, ha => by
    show Lib.NumEnd.ok acc = _
    have : (nu ([] : List UInt8)).foldl (fun n c => n * 10 + (c - 48)) acc = acc := rfl
    rw [this, if_pos ha]
  | c :: r, acc, h, ha => by
    have hn : nu (c :: r) = c.toNat :: nu r := rfl
    rw [hn] at h ⊢
    obtain ⟨hc, hr⟩ := allD_cons.1 h
    have hb := isD_bounds hc
    have hle := foldl_le (nu r) (acc * 10 + (c.toNat - 48))
    unfold Lib.parseUint10
    rw [if_pos ⟨by omega, by omega⟩, List.foldl_cons]
    by_cases h1 : 1844674407370955162 ≤ acc
    · rw [if_pos h1, if_neg (by omega)]
    · rw [if_neg h1]
      by_cases h2 : 18446744073709551616 ≤ acc * 10 + (c.toNat - 48)
      · rw [if_pos h2, if_neg (by omega)]
      · rw [if_neg h2]
        exact parse10_digits r _ hr (by omega)
theorem atoi_digits {l : List UInt8} (h : allD (nu l) = true) (hne : l ≠ []) : Lib.atoiAll l = if val (nu l) ≤ 9223372036854775807 then .ok (val (nu l) : Int) else .range := by
  obtain ⟨c, r, rfl, h1, h2⟩ := first_digit h hne
  unfold Lib.atoiAll
  simp only [if_neg h1, Lib.parseMag, if_neg hne]
  rw [parse10_digits _ 0 h (by omega)]
  have ev : (nu (c :: r)).foldl (fun n c => n * 10 + (c - 48)) 0 = val (nu (c :: r)) := rfl
  rw [ev]
  have e63 : (2 : Nat) ^ (64 - 1) = 9223372036854775808 := by decide
  generalize val (nu (c :: r)) = V
  by_cases hb : V ≤ 18446744073709551615
  · rw [if_pos hb]
    show (if ¬ c.toNat = 45 ∧ 9223372036854775808 ≤ V then Lib.NumEnd.range else if c.toNat = 45 ∧ 9223372036854775808 < V then Lib.NumEnd.range else Lib.NumEnd.ok (if c.toNat = 45 then -(V : Int) else (V : Int))) = _
    by_cases hm : V ≤ 9223372036854775807
    · rw [if_pos hm, if_neg (fun e => by have := e.2; omega), if_neg (fun e => h2 e.1), if_neg h2]
    · rw [if_neg hm, if_pos ⟨h2, by omega⟩]
  · rw [if_neg hb, if_neg (by omega)]
/-! ### Noughts behind decimals -/
theorem val_zeros (l : List Nat) (k : Nat) : val (l ++ List.replicate k 48) = val l * 10 ^ k := by
  induction k with
  | zero => simp
  | succ k ih =>
    rw [List.replicate_succ', ← List.append_assoc, val_snoc, ih, Nat.pow_succ, Nat.mul_assoc]
    rfl
theorem kept_eq (f : List Nat) : (f ++ [48, 48, 48, 48, 48, 48]).take 6 = f.take 6 ++ List.replicate (6 - f.length) 48 := by
  rw [List.take_append]
  congr 1
  have : ([48, 48, 48, 48, 48, 48] : List Nat) = List.replicate 6 48 := rfl
  rw [this, List.take_replicate]
  congr 1
  omega
/-- So many millionths, not rounded yet. -/
def whole6 (i f : List Nat) : Nat := val (i ++ (f ++ [48, 48, 48, 48, 48, 48]).take 6)
theorem magn_whole6 (i f : List Nat) : magn i f = whole6 i f + (if 53 ≤ byteAt f 6 then 1 else 0) := by
  unfold magn whole6
  rw [kept_eq, ← List.append_assoc, val_zeros]
theorem allD_kept {f : List Nat} (h : allD f = true) : allD ((f ++ [48, 48, 48, 48, 48, 48]).take 6) = true := by
  unfold allD at *
  rw [List.all_eq_true] at *
  intro c hc
  have hc := List.mem_of_mem_take hc
  rcases List.mem_append.1 hc with hc | hc
  · exact h c hc
  · have : c = 48 := by simpa using hc
    subst this; rfl
theorem kept_length (f : List Nat) : ((f ++ [48, 48, 48, 48, 48, 48]).take 6).length = 6 := by simp
/-! ### Numerals that are written -/
theorem nu_dec (n : Nat) : nu (Lib.decDigits n) = digs n := by
  induction n using Nat.strongRecOn with
  | _ n ih =>
    by_cases h : n < 10
    · rw [Lib.decDigits, dif_pos h, digs_small h]
      simp [nu]; omega
    · rw [Lib.decDigits, dif_neg h, digs_big h, nu_append, ih _ (by omega)]
      simp [nu]; omega
theorem nu_itoa (n : Nat) : nu (Lib.itoa (n : Int)) = digs n := by rw [Lib.itoa_nonneg, nu_dec]
/-- All the decimals of a part. -/
def padF : Nat → Nat → List Nat
  | 0, _ => []
  | k + 1, p => (48 + p / 100000) :: padF k (p % 100000 * 10)
theorem digs_one {p : Nat} (h : p < 1000000) : digs (1000000 + p) = 49 :: padF 6 p := by
  have e : ∀ n, ¬ n < 10 → digs n = digs (n / 10) ++ [48 + n % 10] := fun n => digs_big
  rw [e _ (by omega), e _ (by omega), e _ (by omega), e _ (by omega), e _ (by omega), e _ (by omega), digs_small (by omega)]
  simp only [padF, List.cons_append, List.nil_append, List.cons.injEq, and_true]
  refine ⟨by omega, by omega, by omega, by omega, by omega, by omega, by omega⟩
/-- A text without the noughts at its end. -/
def trimN (l : List Nat) : List Nat := (l.reverse.dropWhile (· == 48)).reverse
theorem trimN_cons (c : Nat) (l : List Nat) : trimN (c :: l) = if trimN l = [] then (if c = 48 then [] else [c]) else c :: trimN l := by
  unfold trimN
  rw [List.reverse_cons, List.dropWhile_append]
  by_cases h : (l.reverse.dropWhile (· == 48)) = []
  · have hi : (List.dropWhile (· == 48) l.reverse).isEmpty = true := by rw [h]; rfl
    rw [if_pos hi, if_pos (by rw [h]; rfl)]
    by_cases hc : c = 48
    · subst hc; rfl
    · rw [if_neg hc, List.dropWhile_cons_of_neg (by simpa using hc)]; rfl
  · have hi : ¬ (List.dropWhile (· == 48) l.reverse).isEmpty = true := by rw [List.isEmpty_iff]; exact h
    rw [if_neg hi, if_neg (by rw [List.reverse_eq_nil_iff]; exact h)]
    simp
theorem trimN_pad : ∀ (k p : Nat), p < 1000000 → p % 10 ^ (6 - k) = 0 → k ≤ 6 → trimN (padF k p) = frF k p
  | 0, p, _, _, _ => rfl
  | k + 1, p, hp, hd, hk => by
    have hd' : p % 100000 * 10 % 10 ^ (6 - k) = 0 := by
      have := fr_div (x := p) (j := 6 - (k + 1)) hd (by omega)
      rw [show 6 - (k + 1) + 1 = 6 - k from by omega] at this
      exact this
    have ih := trimN_pad k (p % 100000 * 10) (by omega) hd' (by omega)
    show trimN ((48 + p / 100000) :: padF k (p % 100000 * 10)) = _
    rw [trimN_cons, ih]
    by_cases h0 : p = 0
    · subst h0
      have e : frF k (0 % 100000 * 10) = [] := frF_zero k
      rw [e, if_pos rfl, if_pos rfl]; exact (frF_zero _).symm
    · rw [frF_step h0]
      by_cases h1 : frF k (p % 100000 * 10) = []
      · rw [if_pos h1, h1]
        have hz : p % 100000 * 10 = 0 := by
          cases k with
          | zero =>
            have h6 : p % 100000 = 0 := by
              have : p % 10 ^ 5 = 0 := hd
              simpa using this
            omega
          | succ k =>
            by_cases hz : p % 100000 * 10 = 0
            · exact hz
            · rw [frF_step hz] at h1; cases h1
        rw [if_neg (by omega)]
      · rw [if_neg h1]
theorem drop_nu48 : ∀ m : List UInt8, (m.dropWhile (· == 48)).map (·.toNat) = (m.map (·.toNat)).dropWhile (· == 48)
  | [] => rfl
  | d :: m => by
    by_cases h : d = 48
    · subst h
      rw [List.dropWhile_cons_of_pos (by simp), List.map_cons, List.dropWhile_cons_of_pos (by simp), drop_nu48 m]
    · have : ¬ d.toNat = 48 := fun e => h (UInt8.toNat_inj.1 (by rw [e]; rfl))
      rw [List.dropWhile_cons_of_neg (by simpa using h), List.map_cons, List.dropWhile_cons_of_neg (by simpa using this)]
theorem nu_trim (l : List UInt8) : nu (Lib.trimRightB l 48) = trimN (nu l) := by
  unfold Lib.trimRightB trimN nu
  rw [List.map_reverse, drop_nu48, List.map_reverse]
/-- The decimals that are printed. -/
theorem decimals_of {p : Nat} (h : p < 1000000) : trimN ((digs (1000000 + p)).drop 1) = frF 6 p := by
  rw [digs_one h]
  show trimN (padF 6 p) = _
  exact trimN_pad 6 p h (by rw [show 6 - 6 = 0 from rfl, Nat.pow_zero, Nat.mod_one]) (by omega)
theorem nu_repeat : nu (Lib.repeatL [48] 6) = [48, 48, 48, 48, 48, 48] := by decide
end Go.Proofs.YtnnilllnkklecaaDoor
