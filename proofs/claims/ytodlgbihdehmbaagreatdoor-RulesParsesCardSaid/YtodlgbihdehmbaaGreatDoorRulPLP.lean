/-
  What the library's own words say of texts of numbers, in this project's plain words: prefixes, cuts, numerals read and written. Nothing of the program is imported.
-/
import Derived.Test.YtodlgbihdehmbaaGreatDoorDecCanBP
import Derived.Lib.Strings
import Derived.Lib.IndexMore
import Derived.Lib.ParseIntB
import Derived.Lib.AtoiAll
import Derived.Lib.ItoaMem
import Derived.Lib.TrimByte
import Derived.Lib.Repeat
import Derived.Lib.Join
import Derived.Test.YtodlgbihdehmbaaGreatDoorDecGP
import Derived.Test.YtodlgbihdehmbaaGreatDoorShelfP
import Derived.Test.YtodlgbihdehmbaaGreatDoorMath2P
import Derived.Test.YtodlgbihdehmbaaGreatDoorWideKitP
import Derived.Deep.RegionHeld3
import Derived.Test.YtodlgbihdehmbaaGreatDoorRulPDP
import Derived.Test.YtodlgbihdehmbaaGreatDoorRulPJP
import Derived.Test.YtodlgbihdehmbaaGreatDoorRulPEP
import Derived.Test.YtodlgbihdehmbaaGreatDoorRulPFP
set_option linter.unusedSimpArgs false
set_option linter.unusedVariables false
namespace Go.Proofs.YtodlgbihdehmbaaGreatDoor
/-- Bytes as natural numbers. -/
def nu (l : List UInt8) : List Nat := l.map (·.toNat)
theorem bs_nu (s : ByteArray) : bs s = nu s.data.toList := rfl
theorem bs_mk (l : List UInt8) : bs ⟨l.toArray⟩ = nu l := by simp [bs, nu]
theorem mk_str (l : List UInt8) : (⟨l.toArray⟩ : ByteArray) = str (nu l) := by
  have h := str_bs (⟨l.toArray⟩ : ByteArray)
  rw [bs_mk] at h; exact h.symm
theorem nu_nil {l : List UInt8} : nu l = [] ↔ l = [] := by simp [nu]
theorem bs_append (s t : ByteArray) : bs (s ++ t) = bs s ++ bs t := by simp [bs]
theorem byteAt_cons (c : Nat) (l : List Nat) : byteAt (c :: l) 0 = c := rfl

theorem pre_one (l : List UInt8) (c : UInt8) : Lib.hasPrefix l [c] = decide (byteAt (nu l) 0 = c.toNat ∧ nu l ≠ []) := by
  cases l with
  | nil => simp [Lib.hasPrefix, nu]
  | cons d l =>
    simp only [Lib.hasPrefix, List.isPrefixOf, Bool.and_true, nu, List.map_cons, byteAt_cons, ne_eq, reduceCtorEq, not_false_eq_true, and_true]
    by_cases h : d = c
    · subst h; simp
    · have : ¬ d.toNat = c.toNat := fun e => h (UInt8.toNat_inj.1 e)
      rw [decide_eq_false this]
      simpa [beq_eq_false_iff_ne] using (Ne.symm h)
theorem trimPre_one (l : List UInt8) (c : UInt8) : nu (Lib.trimPrefix l [c]) = if byteAt (nu l) 0 = c.toNat ∧ nu l ≠ [] then (nu l).drop 1 else nu l := by
  unfold Lib.trimPrefix
  rw [pre_one]
  by_cases h : byteAt (nu l) 0 = c.toNat ∧ nu l ≠ []
  · rw [if_pos h, if_pos (by simpa using h)]; simp [nu]
  · rw [if_neg h, if_neg (by simpa using h)]
theorem sign_minus (l : List UInt8) (h : Lib.hasPrefix l [45] = true) : nu (Lib.trimPrefix l [45]) = cut1 (nu l) ∧ sgnB (nu l) = true := by
  rw [pre_one] at h
  have h' := of_decide_eq_true h
  rw [trimPre_one, if_pos h']
  exact ⟨by unfold cut1; rw [if_pos ⟨h'.2, .inl h'.1⟩], by unfold sgnB; exact decide_eq_true h'⟩
theorem sign_plus (l : List UInt8) (h : Lib.hasPrefix l [45] = false) : nu (Lib.trimPrefix l [43]) = cut1 (nu l) ∧ sgnB (nu l) = false := by
  rw [pre_one] at h
  have h' : ¬ (byteAt (nu l) 0 = 45 ∧ nu l ≠ []) := of_decide_eq_false h
  rw [trimPre_one, show UInt8.toNat 43 = 43 from rfl]
  refine ⟨?_, by unfold sgnB; exact decide_eq_false h'⟩
  unfold cut1
  by_cases hp : byteAt (nu l) 0 = 43 ∧ nu l ≠ []
  · rw [if_pos hp, if_pos ⟨hp.2, .inr hp.1⟩]
  · rw [if_neg hp, if_neg]
    rintro ⟨h1, h2 | h2⟩
    · exact h' ⟨h2, h1⟩
    · exact hp ⟨h2, h1⟩
theorem index_dot : ∀ l : List UInt8, (46 ∉ nu l → Lib.index l [46] = -1) ∧ (46 ∈ nu l → Lib.index l [46] = ((ipart (nu l)).length : Int))
  | [] => ⟨fun _ => rfl, fun h => by simp [nu] at h⟩
  | d :: l => by
    obtain ⟨h1, h2⟩ := index_dot l
    have hn : nu (d :: l) = d.toNat :: nu l := rfl
    by_cases hd : d = 46
    · subst hd
      refine ⟨fun h => absurd (by rw [hn]; exact List.mem_cons_self) h, fun _ => ?_⟩
      rw [hn]
      simp [Lib.index, ipart]
    · have hd' : d.toNat ≠ 46 := fun e => hd (UInt8.toNat_inj.1 (by rw [e]; rfl))
      have hpre : ([46] : List UInt8).isPrefixOf (d :: l) = false := by
        simp [List.isPrefixOf, beq_eq_false_iff_ne]; exact fun e => hd e.symm
      rw [hn]
      unfold Lib.index ipart
      rw [hpre, if_neg hd']
      constructor
      · intro h
        have : 46 ∉ nu l := fun e => h (List.mem_cons_of_mem _ e)
        rw [h1 this]; rfl
      · intro h
        have hm : 46 ∈ nu l := by
          rcases List.mem_cons.1 h with e | e
          · exact absurd e.symm hd'
          · exact e
        rw [h2 hm]
        have : ((((ipart (nu l)).length : Int) == -1) = true) = False := by simp
        simp only [this, Bool.false_eq_true, if_false, List.length_cons]
        omega
theorem cut_dot (l : List UInt8) : nu (Lib.cut l [46]).1 = ipart (nu l) ∧ nu (Lib.cut l [46]).2.1 = fpart (nu l) := by
  obtain ⟨hno, hyes, hnd⟩ := part_dot (nu l)
  obtain ⟨h1, h2⟩ := index_dot l
  have take_nu : ∀ n, nu (l.take n) = (nu l).take n := fun n => by simp [nu]
  have drop_nu : ∀ n, nu (l.drop n) = (nu l).drop n := fun n => by simp [nu]
  unfold Lib.cut
  by_cases h : 46 ∈ nu l
  · rw [h2 h, if_pos (by omega)]
    have e := hyes h
    have hi : (((ipart (nu l)).length : Int)).toNat = (ipart (nu l)).length := by omega
    rw [hi]
    generalize ipart (nu l) = i at *
    generalize fpart (nu l) = f at *
    constructor
    · show nu (l.take _) = _
      rw [take_nu, e]; simp
    · show nu (l.drop _) = _
      rw [drop_nu, e, show ([46] : List UInt8).length = 1 from rfl, List.drop_append, List.drop_eq_nil_of_le (by omega)]
      simp
  · rw [h1 h, if_neg (by omega)]
    obtain ⟨a, b⟩ := hno h
    exact ⟨a.symm, b.symm⟩
theorem parseM_digits : ∀ (l : List UInt8) (acc : Nat), allD (nu l) = true → acc ≤ 18446744073709551615 →
    Lib.parseUintM (2 ^ 64 - 1) acc l = if (nu l).foldl (fun n c => n * 10 + (c - 48)) acc ≤ 18446744073709551615 then .ok ((nu l).foldl (fun n c => n * 10 + (c - 48)) acc) else .range
  | [], acc, _, ha => by
    show Lib.NumEnd.ok acc = _
    have : (nu ([] : List UInt8)).foldl (fun n c => n * 10 + (c - 48)) acc = acc := rfl
    rw [this, if_pos ha]
  | c :: r, acc, h, ha => by
    have hn : nu (c :: r) = c.toNat :: nu r := rfl
    rw [hn] at h ⊢
    obtain ⟨hc, hr⟩ := allD_cons.1 h
    have hb := isD_bounds hc
    have hle := foldl_le (nu r) (acc * 10 + (c.toNat - 48))
    unfold Lib.parseUintM
    rw [if_pos ⟨by omega, by omega⟩, List.foldl_cons]
    by_cases h1 : 1844674407370955162 ≤ acc
    · rw [if_pos h1, if_neg (by omega)]
    · rw [if_neg h1]
      have e64 : (2 : Nat) ^ 64 - 1 = 18446744073709551615 := by decide
      by_cases h2 : 18446744073709551615 < acc * 10 + (c.toNat - 48)
      · rw [if_pos (by rw [e64]; exact h2), if_neg (by omega)]
      · rw [if_neg (by rw [e64]; exact h2)]
        exact parseM_digits r _ hr (by omega)
theorem first_digit {l : List UInt8} (h : allD (nu l) = true) (hne : l ≠ []) : ∃ c r, l = c :: r ∧ ¬ (c.toNat = 43 ∨ c.toNat = 45) ∧ ¬ c.toNat = 45 := by
  cases l with
  | nil => exact absurd rfl hne
  | cons c r =>
    have hn : nu (c :: r) = c.toNat :: nu r := rfl
    rw [hn] at h
    have hb := isD_bounds (allD_cons.1 h).1
    exact ⟨c, r, rfl, by omega, by omega⟩
theorem parseInt_digits {l : List UInt8} (h : allD (nu l) = true) (hne : l ≠ []) : Lib.parseIntB 64 l = if val (nu l) ≤ 9223372036854775807 then .ok (val (nu l) : Int) else .range := by
  obtain ⟨c, r, rfl, h1, h2⟩ := first_digit h hne
  unfold Lib.parseIntB
  simp only [if_neg h1, Lib.parseUintB, if_neg hne]
  rw [parseM_digits _ 0 h (by omega)]
  have ev : (nu (c :: r)).foldl (fun n c => n * 10 + (c - 48)) 0 = val (nu (c :: r)) := rfl
  rw [ev]
  have e63 : (2 : Nat) ^ (64 - 1) = 9223372036854775808 := by decide
  generalize val (nu (c :: r)) = V
  by_cases hb : V ≤ 18446744073709551615
  · rw [if_pos hb]
    show (if ¬ c.toNat = 45 ∧ (2 : Nat) ^ (64 - 1) ≤ V then Lib.NumEnd.range else if c.toNat = 45 ∧ (2 : Nat) ^ (64 - 1) < V then Lib.NumEnd.range else Lib.NumEnd.ok (if c.toNat = 45 then -(V : Int) else (V : Int))) = _
    by_cases hm : V ≤ 9223372036854775807
    · rw [if_pos hm, if_neg (fun e => by have := e.2; omega), if_neg (fun e => h2 e.1), if_neg h2]
    · rw [if_neg hm, if_pos ⟨h2, by omega⟩]
  · rw [if_neg hb, if_neg (by omega)]
theorem val_zeros (l : List Nat) (k : Nat) : val (l ++ List.replicate k 48) = val l * 10 ^ k := by
  induction k with
  | zero => simp
  | succ k ih =>
    rw [List.replicate_succ', ← List.append_assoc, val_snoc, ih, Nat.pow_succ, Nat.mul_assoc]
    rfl
theorem kept_eq (f : List Nat) : (f ++ [48, 48, 48, 48, 48, 48]).take 6 = f.take 6 ++ List.replicate (6 - f.length) 48 := by
  rw [List.take_append]
  congr 1
  have : ([48, 48, 48, 48, 48, 48] : List Nat) = List.replicate 6 48 := rfl
  rw [this, List.take_replicate]
  congr 1
  omega
/-- So many millionths, not rounded yet. -/
def whole6 (i f : List Nat) : Nat := val (i ++ (f ++ [48, 48, 48, 48, 48, 48]).take 6)
theorem magn_whole6 (i f : List Nat) : magn i f = whole6 i f + (if 53 ≤ byteAt f 6 then 1 else 0) := by
  unfold magn whole6
  rw [kept_eq, ← List.append_assoc, val_zeros]
theorem allD_kept {f : List Nat} (h : allD f = true) : allD ((f ++ [48, 48, 48, 48, 48, 48]).take 6) = true := by
  unfold allD at *
  rw [List.all_eq_true] at *
  intro c hc
  have hc := List.mem_of_mem_take hc
  rcases List.mem_append.1 hc with hc | hc
  · exact h c hc
  · have : c = 48 := by simpa using hc
    subst this; rfl
theorem kept_length (f : List Nat) : ((f ++ [48, 48, 48, 48, 48, 48]).take 6).length = 6 := by simp
end Go.Proofs.YtodlgbihdehmbaaGreatDoor
/-
  Contracts of the program's own functions of layer 3 (decimal), first part: the library's functions in plain words; signs, cuts, digits.
-/
set_option linter.unusedSimpArgs false
set_option linter.unusedVariables false
namespace Go.Proofs.YtodlgbihdehmbaaGreatDoor.De.DP
open Go.RowKit Go.Sort

theorem below_drewN (w : World) (k : Nat) : Below w.heap.size w (w.drewN k) := ⟨rfl, rfl, rfl, Nat.le_refl _, fun _ _ => rfl⟩
theorem below_bytes {w w' : World} {t : TypeId} (h : w' = w ∨ ∃ x, w' = Lib.bytesWorld w t x) : Below w.heap.size w w' := by
  rcases h with rfl | ⟨x, rfl⟩
  · exact Below.refl _ _
  · exact Lib.bytesWorld_below _ _ _

theorem cut_c (s : ByteArray) (hs : s.size ≤ 64) (w : World) (hg : G w) :
    Calls Tryz.prog 86 #[.string s, .string ⟨#[46]⟩] w fun e w' => ∃ b, e = .returned (.tuple #[.string (str (ipart (bs s))), .string (str (fpart (bs s))), .bool b]) ∧ Below w.heap.size w w' := by
  obtain ⟨m, hm⟩ := hg.len
  refine (Tryz.strings_Cut s ⟨#[46]⟩ m w (by omega) hm).mono ?_
  rintro e w' ⟨rfl, n, rfl⟩
  obtain ⟨h1, h2⟩ := cut_dot s.data.toList
  refine ⟨(Lib.cut s.data.toList [46]).2.2, ?_, below_drewN _ _⟩
  rw [bs_nu, ← h1, ← h2, ← mk_str, ← mk_str]
theorem repeat_c (w : World) : Calls Tryz.prog 119 #[.string ⟨#[48]⟩, .int .i64 6] w fun e w' => e = .returned (.string ⟨#[48, 48, 48, 48, 48, 48]⟩) ∧ Below w.heap.size w w' := by
  refine (Tryz.strings_Repeat ⟨#[48]⟩ 6 w (by decide) (by decide)).mono ?_
  rintro e w' ⟨rfl, hb⟩
  exact ⟨rfl, hb⟩
theorem parseInt_ok (s : ByteArray) (hs : s.size ≤ 1000) (hd : allD (bs s) = true) (hne : bs s ≠ []) (hv : val (bs s) ≤ 9223372036854775807) (w : World) :
    Calls Tryz.prog 120 #[.string s, .int .i64 10, .int .i64 64] w fun e w' => e = .returned (.tuple #[.int .i64 (val (bs s) : Nat), .nilIface]) ∧ Below w.heap.size w w' := by
  have h := parseInt_digits (l := s.data.toList) hd (fun h => hne (nu_nil.2 h))
  rw [← bs_nu, if_pos hv] at h
  refine (Tryz.strconv_ParseInt_10_at64_ok s (by omega) _ h w).mono ?_
  rintro e w' ⟨rfl, hb⟩
  exact ⟨rfl, below_bytes hb⟩
theorem parseInt_no (s : ByteArray) (hs : s.size ≤ 1000) (hd : allD (bs s) = true) (hne : bs s ≠ []) (hv : ¬ val (bs s) ≤ 9223372036854775807) (w : World) (hg : G w) :
    Calls Tryz.prog 120 #[.string s, .int .i64 10, .int .i64 64] w fun e w' => ∃ x t p, e = .returned (.tuple #[.int .i64 x, .iface t p]) ∧ Below w.heap.size w w' := by
  have h := parseInt_digits (l := s.data.toList) hd (fun h => hne (nu_nil.2 h))
  rw [← bs_nu, if_neg hv] at h
  obtain ⟨te, pe, he⟩ := hg.err
  refine (Tryz.strconv_ParseInt_10_at64_range s (by omega) h _ w he (.inr ⟨te, pe, rfl⟩)).mono ?_
  rintro e w' ⟨N, rfl, _, _, hb⟩
  exact ⟨_, _, _, rfl, hb⟩
theorem cutSign_c (s : ByteArray) (w : World) :
    Calls Tryz.prog 85 #[.string s] w fun e w' => e = .returned (.tuple #[.string (str (cut1 (bs s))), .bool (sgnB (bs s))]) ∧ w = w' := by
  have hm := sign_minus s.data.toList
  have hp := sign_plus s.data.toList
  have p1 := Tryz.strings_CutPrefix s ⟨#[45]⟩
  have p2 := Tryz.strings_TrimPrefix s ⟨#[43]⟩
  rw [show (⟨#[45]⟩ : ByteArray).data.toList = [45] from rfl, mk_str (Lib.trimPrefix s.data.toList [45])] at p1
  rw [show (⟨#[43]⟩ : ByteArray).data.toList = [43] from rfl, mk_str (Lib.trimPrefix s.data.toList [43])] at p2
  have P1 := Lib.hid p1; have P2 := Lib.hid p2
  clear p1 p2
  cases hh : Lib.hasPrefix s.data.toList [45]
  · obtain ⟨e1, e2⟩ := hp hh
    rw [hh] at P1
    rw [e1] at P2
    rw [bs_nu, e2]
    generalize str (cut1 (nu s.data.toList)) = X at *
    generalize str (nu (Lib.trimPrefix s.data.toList [45])) = Y at *
    clear hm hp hh e1 e2
    go_enter Tryz.func85, Tryz.ntmps85
    go_wp2_with fail
    refine (P1.out _).mono ?_; rintro e w1 ⟨rfl, rfl⟩
    go_wp2_with fail
    refine (P2.out _).mono ?_; rintro e w2 ⟨rfl, rfl⟩
    go_wp2
    go_ret2
    exact ⟨rfl, rfl⟩
  · obtain ⟨e1, e2⟩ := hm hh
    rw [hh, e1] at P1
    rw [bs_nu, e2]
    generalize str (cut1 (nu s.data.toList)) = X at *
    clear hm hp hh e1 e2 P2
    go_enter Tryz.func85, Tryz.ntmps85
    go_wp2_with fail
    refine (P1.out _).mono ?_; rintro e w1 ⟨rfl, rfl⟩
    go_wp2
    go_ret2
    exact ⟨rfl, rfl⟩
/-- One digit or more, and nothing else. -/
def okD (l : List Nat) : Bool := allD l && !l.isEmpty
theorem okD_iff (l : List Nat) : okD l = true ↔ allD l = true ∧ l ≠ [] := by simp [okD]
set_option maxRecDepth 100000 in
set_option maxHeartbeats 1000000 in
theorem digits_c (s : ByteArray) (hs : s.size ≤ 9223372036854775807) (w : World) :
    Calls Tryz.prog 87 #[.string s] w fun e w' => e = .returned (.bool (okD (bs s))) ∧ w = w' := by
  go_enter Tryz.func87, Tryz.ntmps87
  go_wp2
  go_loop [6] (fun i => ∃ k : Nat, k ≤ s.size ∧ i = .int .i64 k ∧ Hid (∀ j, j < k → isD (byteAt (bs s) j) = true)) (fun i => s.size - (intOf i).toNat)
  case atStart => exact ⟨0, Nat.zero_le _, rfl, fun j h => absurd h (Nat.not_lt_zero j)⟩
  case round =>
    obtain ⟨k, hk, rfl, HD⟩ := hrel
    by_cases hlt : k < s.size
    · obtain ⟨c, hc⟩ : ∃ c, byteAt (bs s) k = c := ⟨_, rfl⟩
      have hb : (s[k]'hlt).toNat = c := (at_byte hlt).trans hc
      have hc1 : c ≤ 255 := by rw [← hc]; exact byte_le s k
      have HC := Lib.hid hc
      clear hc
      have no : isD c = false → okD (bs s) = false := fun hd => by
        have := allD_no (l := bs s) (k := k) (by rw [bs_length]; exact hlt) (by rw [HC.out]; exact hd)
        unfold okD; rw [this]; rfl
      have NO := Lib.hid no
      clear no
      by_cases h1 : c < 48
      · have := NO.out (by simp [isD]; omega)
        go_wp2
        go_ret
        exact ⟨rfl, rfl⟩
      · by_cases h2 : 57 < c
        · have := NO.out (by simp [isD]; omega)
          go_wp2
          go_ret
          exact ⟨rfl, rfl⟩
        · have hd : isD c = true := by simp [isD]; omega
          have HDC := Lib.hid hd
          clear hd
          go_wp2
          refine ⟨⟨k + 1, by omega, by go_num, fun j hj => ?_⟩, by simp [intOf]; omega⟩
          by_cases he : j = k
          · rw [he, HC.out]; exact HDC.out
          · exact HD.out j (by omega)
    · obtain rfl : k = s.size := by omega
      have hA := Lib.hid (allD_yes (l := bs s) (fun j hj => HD.out j (by rw [bs_length] at hj; exact hj)))
      go_wp2
      go_ret
      refine ⟨congrArg (fun b => Ending.returned (.bool b)) (?_ : (!s.toList.isEmpty) = okD (bs s)), rfl⟩
      unfold okD
      rw [hA.out, ByteArray.toList_eq]
      simp [bs]
end Go.Proofs.YtodlgbihdehmbaaGreatDoor.De.DP
/-
  Contracts of the program's own functions of layer 2 (fixed) over this seat's translation: what each returns, and that nothing that was there has turned. The first part: what counts, signs, sizes, sums.
-/
set_option linter.unusedSimpArgs false
set_option linter.unusedVariables false
namespace Go.Proofs.YtodlgbihdehmbaaGreatDoor.De.FP
open Go.RowKit

theorem below_two {w w1 : World} {o1 o2 : Obj} (hb : Below ((w.alloc o1).alloc o2).heap.size ((w.alloc o1).alloc o2) w1) : Below w.heap.size w w1 := (((Below.refl _ _).alloc (Nat.le_refl _) _).alloc (by simp) _).trans (hb.mono (by simp; omega))
theorem below_three {w w1 : World} {o1 o2 o3 : Obj} (hb : Below (((w.alloc o1).alloc o2).alloc o3).heap.size (((w.alloc o1).alloc o2).alloc o3) w1) : Below w.heap.size w w1 :=
  ((((Below.refl _ _).alloc (Nat.le_refl _) _).alloc (by simp) _).alloc (by simp; omega) _).trans (hb.mono (by simp; omega))
theorem nothing_c (w : World) : Calls Tryz.prog 124 #[] w fun e w' => e = .returned (.agg #[.bool true, .int .i64 0]) ∧ Below w.heap.size w w' := by
  go_enter Tryz.func124, Tryz.ntmps124
  go_wp2
  exact bodyPost_ret (v := .agg #[.bool true, .int .i64 0]) (by simp [results, Tryz.results124, go_sem]) rfl ⟨rfl, (Below.refl _ _).alloc (Nat.le_refl _) _⟩

theorem right_f (v : Int) (w : World) : Calls Tryz.prog 156 #[.agg #[.bool false, .int .i64 v]] w fun e w' => e = .returned (.bool (v != -9223372036854775808)) ∧ Below w.heap.size w w' := by
  go_enter Tryz.func156, Tryz.ntmps156
  go_wp2
  go_ret
  exact ⟨rfl, (Below.refl _ _).alloc (Nat.le_refl _) _⟩
/-- What 'missing' answers of a number. -/
def Mis (b : Bool) (v : Int) (p : Bool) : Prop := ∀ w : World, Calls Tryz.prog 123 #[.agg #[.bool b, .int .i64 v]] w fun e w' => e = .returned (.bool p) ∧ Below w.heap.size w w'
theorem missing_f (v : Int) (t : Bool) (ht : (v != -9223372036854775808) = t) : Mis false v (!t) := by
  intro w
  have hr := right_f v
  rw [ht] at hr
  have HR := Lib.hid hr
  clear hr ht
  cases t
  all_goals
    go_enter Tryz.func123, Tryz.ntmps123
    go_wp2_with fail
    refine (HR.out _).mono ?_; rintro e w1 ⟨rfl, hb1⟩; obtain ⟨hc1, hf1⟩ := bcell hb1
    go_wp2
    go_ret
    exact ⟨rfl, below_box hb1⟩
theorem missing_t (v : Int) : Mis true v true := by
  intro w
  go_enter Tryz.func123, Tryz.ntmps123
  go_wp2
  go_ret
  exact ⟨rfl, (Below.refl _ _).alloc (Nat.le_refl _) _⟩
theorem missing_c (b : Bool) (v : Int) : Mis b v (rd b v).isNone := by
  cases b
  · by_cases h : v = -9223372036854775808
    · rw [rd_none (fun hh => hh.2 h)]
      exact missing_f v false (by rw [bne_eq_false_iff_eq]; exact h)
    · rw [rd_some rfl h]
      exact missing_f v true (by rw [bne_iff_ne]; exact h)
  · rw [rd_none (by simp)]
    exact missing_t v
theorem missing_yes (v : Int) (h : v ≠ -9223372036854775808) : Mis false v false := missing_f v true (by rw [bne_iff_ne]; exact h)
theorem missing_no (b : Bool) (v : Int) (h : ¬ (b = false ∧ v ≠ -9223372036854775808)) : Mis b v true := by
  have := missing_c b v
  rw [rd_none h] at this
  exact this

theorem counted_c (b : Bool) (v : Int) (w : World) : Calls Tryz.prog 155 #[.agg #[.bool b, .int .i64 v]] w fun e w' => e = .returned (.agg #[.bool (nb (rd b v)), .int .i64 (nv (rd b v))]) ∧ Below w.heap.size w w' := by
  by_cases g : b = false ∧ v ≠ -9223372036854775808
  · obtain ⟨rfl, hv⟩ := g
    rw [rd_some rfl hv]
    have HM := Lib.hid (missing_yes v hv)
    clear hv
    go_enter Tryz.func155, Tryz.ntmps155
    go_wp2_with fail
    refine (HM.out _).mono ?_; rintro e w1 ⟨rfl, hb1⟩; obtain ⟨hc1, hf1⟩ := bcell hb1
    have z1 : w.heap.size + 1 < w1.heap.size := (by have := hb1.size; simp at this; omega)
    have x1 : w.heap.size < w1.heap.size := by omega
    go_wp2
    exact bodyPost_ret (v := .agg #[.bool false, .int .i64 v]) (by simp [results, Tryz.results155, go_sem, hc1, hf1, z1, x1]) rfl ⟨rfl, below_put (below_two hb1) (by omega) _ _⟩
  · have HM := Lib.hid (missing_no b v g)
    rw [rd_none g]
    clear g
    go_enter Tryz.func155, Tryz.ntmps155
    go_wp2_with fail
    refine (HM.out _).mono ?_; rintro e w1 ⟨rfl, hb1⟩; obtain ⟨hc1, hf1⟩ := bcell hb1
    have z1 : w.heap.size + 1 < w1.heap.size := (by have := hb1.size; simp at this; omega)
    have x1 : w.heap.size < w1.heap.size := by omega
    go_wp2_with fail
    refine (nothing_c _).mono ?_; rintro e w2 ⟨rfl, hb2⟩; obtain ⟨hc2, hf2⟩ := bcell hb2
    go_wp2
    exact bodyPost_ret (v := .agg #[.bool true, .int .i64 0]) (by simp [results, Tryz.results155, go_sem, hc1, hf1, hc2, hf2, z1, x1]) rfl ⟨rfl, below_put (below_next (below_two hb1) hb2) (by omega) _ _⟩

theorem of_c (v : Int) (w : World) : Calls Tryz.prog 121 #[.int .i64 v] w fun e w' => e = .returned (.agg #[.bool (nb (rd false v)), .int .i64 (nv (rd false v))]) ∧ Below w.heap.size w w' := by
  have HC := Lib.hid (counted_c false v)
  go_enter Tryz.func121, Tryz.ntmps121
  go_wp2_with fail
  refine (HC.out _).mono ?_; rintro e w1 ⟨rfl, hb1⟩; obtain ⟨hc1, hf1⟩ := bcell hb1
  go_wp2
  exact bodyPost_ret (v := .agg #[.bool (nb (rd false v)), .int .i64 (nv (rd false v))]) (by simp [results, Tryz.results121, go_sem, hc1, hf1]) rfl ⟨rfl, below_put (below_box hb1) (by omega) _ _⟩

theorem neg_any (b : Bool) (v : Int) (h1 : -9223372036854775808 ≤ v ∧ v ≤ 9223372036854775807) (w : World) : Calls Tryz.prog 89 #[.agg #[.bool b, .int .i64 v]] w fun e w' => e = .returned (.agg #[.bool (nb (negO (rd b v))), .int .i64 (nv (negO (rd b v)))]) ∧ Below w.heap.size w w' := by
  by_cases g : b = false ∧ v ≠ -9223372036854775808
  · obtain ⟨rfl, hv⟩ := g
    rw [rd_some rfl hv]
    have HM := Lib.hid (missing_yes v hv)
    have ho := of_c (-v)
    rw [rd_some rfl (show -v ≠ -9223372036854775808 from by omega)] at ho
    have HO := Lib.hid ho
    have l0 : -9223372036854775807 ≤ v := by omega
    have l1 := h1.2
    clear hv ho h1
    go_enter Tryz.func89, Tryz.ntmps89
    go_wp2_with fail
    refine (HM.out _).mono ?_; rintro e w1 ⟨rfl, hb1⟩; obtain ⟨hc1, hf1⟩ := bcell hb1
    have z1 : w.heap.size + 1 < w1.heap.size := (by have := hb1.size; simp at this; omega)
    have x1 : w.heap.size < w1.heap.size := by omega
    go_wp2_with fail
    refine (HO.out _).mono ?_; rintro e w2 ⟨rfl, hb2⟩; obtain ⟨hc2, hf2⟩ := bcell hb2
    go_wp2
    exact bodyPost_ret (v := .agg #[.bool (nb (some (-v))), .int .i64 (nv (some (-v)))]) (by simp [results, Tryz.results89, go_sem, hc1, hf1, hc2, hf2, z1, x1]) rfl ⟨rfl, below_put (below_next (below_two hb1) hb2) (by omega) _ _⟩
  · have HM := Lib.hid (missing_no b v g)
    rw [rd_none g]
    clear g h1
    go_enter Tryz.func89, Tryz.ntmps89
    go_wp2_with fail
    refine (HM.out _).mono ?_; rintro e w1 ⟨rfl, hb1⟩; obtain ⟨hc1, hf1⟩ := bcell hb1
    have z1 : w.heap.size + 1 < w1.heap.size := (by have := hb1.size; simp at this; omega)
    have x1 : w.heap.size < w1.heap.size := by omega
    go_wp2_with fail
    refine (nothing_c _).mono ?_; rintro e w2 ⟨rfl, hb2⟩; obtain ⟨hc2, hf2⟩ := bcell hb2
    go_wp2
    exact bodyPost_ret (v := .agg #[.bool true, .int .i64 0]) (by simp [results, Tryz.results89, go_sem, hc1, hf1, hc2, hf2, z1, x1]) rfl ⟨rfl, below_put (below_next (below_two hb1) hb2) (by omega) _ _⟩

end Go.Proofs.YtodlgbihdehmbaaGreatDoor.De.FP
/-
  Contracts of the program's own functions of layer 2 (fixed), the second part: sums, differences, which is greater.
-/
set_option linter.unusedSimpArgs false
set_option linter.unusedVariables false
namespace Go.Proofs.YtodlgbihdehmbaaGreatDoor.De.FP
open Go.RowKit

theorem i64_wrap (n : Int) : IntKind.i64.wrap n = (n + 9223372036854775808) % 18446744073709551616 - 9223372036854775808 := by
  simp [IntKind.wrap, IntKind.bits, IntKind.signed]
  split <;> omega
theorem i64_in {n : Int} (h0 : -9223372036854775808 ≤ n) (h1 : n ≤ 9223372036854775807) : IntKind.i64.wrap n = n := by rw [i64_wrap]; omega
theorem i64_up {n : Int} (h0 : 9223372036854775807 < n) (h1 : n ≤ 27670116110564327423) : IntKind.i64.wrap n = n - 18446744073709551616 := by rw [i64_wrap]; omega
theorem i64_down {n : Int} (h0 : n < -9223372036854775808) (h1 : -27670116110564327424 ≤ n) : IntKind.i64.wrap n = n + 18446744073709551616 := by rw [i64_wrap]; omega
/-- A sum: where one of the two is nothing, so is the answer. -/
theorem add_no (b1 b2 : Bool) (v1 v2 : Int) (p q : Bool) (hp : Mis b1 v1 p) (hq : Mis b2 v2 q) (h : (p || q) = true) (w : World) :
    Calls Tryz.prog 122 #[.agg #[.bool b1, .int .i64 v1], .agg #[.bool b2, .int .i64 v2]] w fun e w' => e = .returned (.agg #[.bool true, .int .i64 0]) ∧ Below w.heap.size w w' := by
  have HP := Lib.hid hp; have HQ := Lib.hid hq
  clear hp hq
  cases p
  · obtain rfl : q = true := by simpa using h
    clear h
    go_enter Tryz.func122, Tryz.ntmps122
    go_wp2_with fail
    refine (HP.out _).mono ?_; rintro e w1 ⟨rfl, hb1⟩; obtain ⟨hc1, hf1⟩ := bcell hb1
    have z1 : w.heap.size + 1 + 1 < w1.heap.size := (by have := hb1.size; simp at this; omega)
    have y1 : w.heap.size + 1 < w1.heap.size := by omega
    have x1 : w.heap.size < w1.heap.size := by omega
    go_wp2_with fail
    refine (HQ.out _).mono ?_; rintro e w2 ⟨rfl, hb2⟩; obtain ⟨hc2, hf2⟩ := bcell hb2
    have z2 : w.heap.size + 1 + 1 < w2.heap.size := Nat.lt_of_lt_of_le z1 hb2.size
    go_wp2_with fail
    refine (nothing_c _).mono ?_; rintro e w3 ⟨rfl, hb3⟩; obtain ⟨hc3, hf3⟩ := bcell hb3
    go_wp2
    exact bodyPost_ret (v := .agg #[.bool true, .int .i64 0]) (by simp [results, Tryz.results122, go_sem, hc1, hf1, hc2, hf2, hc3, hf3, z1, z2]) rfl ⟨rfl, below_put (below_next (below_next (below_three hb1) hb2) hb3) (by omega) _ _⟩
  · clear h
    go_enter Tryz.func122, Tryz.ntmps122
    go_wp2_with fail
    refine (HP.out _).mono ?_; rintro e w1 ⟨rfl, hb1⟩; obtain ⟨hc1, hf1⟩ := bcell hb1
    have z1 : w.heap.size + 1 + 1 < w1.heap.size := (by have := hb1.size; simp at this; omega)
    go_wp2_with fail
    refine (nothing_c _).mono ?_; rintro e w2 ⟨rfl, hb2⟩; obtain ⟨hc2, hf2⟩ := bcell hb2
    go_wp2
    exact bodyPost_ret (v := .agg #[.bool true, .int .i64 0]) (by simp [results, Tryz.results122, go_sem, hc1, hf1, hc2, hf2, z1]) rfl ⟨rfl, below_put (below_next (below_three hb1) hb2) (by omega) _ _⟩

theorem lim_rd {t : Int} (h : -9223372036854775808 ≤ t ∧ t ≤ 9223372036854775807) : rd false t = lim t := by
  by_cases g : t = -9223372036854775808
  · rw [rd_none (fun hh => hh.2 g), lim_out (by omega)]
  · rw [rd_some rfl g, lim_in (by omega)]
set_option maxHeartbeats 1000000 in
/-- Sums, where both count. -/
theorem add_yes (a b : Int) (ha0 : -9223372036854775807 ≤ a) (ha1 : a ≤ 9223372036854775807) (hb0 : -9223372036854775807 ≤ b) (hb1 : b ≤ 9223372036854775807) (w : World) :
    Calls Tryz.prog 122 #[.agg #[.bool false, .int .i64 a], .agg #[.bool false, .int .i64 b]] w fun e w' => e = .returned (.agg #[.bool (nb (addO (some a) (some b))), .int .i64 (nv (addO (some a) (some b)))]) ∧ Below w.heap.size w w' := by
  have hi := Lib.hid (missing_yes a (by omega))
  have hj := Lib.hid (missing_yes b (by omega))
  have hO : addO (some a) (some b) = lim (a + b) := rfl
  rw [hO]
  clear hO
  by_cases hr : -9223372036854775808 ≤ a + b ∧ a + b ≤ 9223372036854775807
  · obtain ⟨S, hS⟩ : ∃ S, S = a + b := ⟨_, rfl⟩
    have HL := Lib.hid (lim_rd hr)
    have R : IntKind.i64.wrap (a + b) = S := by rw [hS]; exact i64_in hr.1 hr.2
    have t : (decide (a < S) == decide (0 < b)) = true := by
      rw [beq_iff_eq, decide_eq_decide]; omega
    have HO := Lib.hid (of_c (a + b))
    rw [← hS] at HO HL ⊢
    clear hS ha0 ha1 hb0 hb1
    clear hr
    go_enter Tryz.func122, Tryz.ntmps122
    go_wp2_with fail
    refine (hi.out _).mono ?_; rintro e w1 ⟨rfl, hb1⟩; obtain ⟨hc1, hf1⟩ := bcell hb1
    have z1 : w.heap.size + 1 + 1 < w1.heap.size := (by have := hb1.size; simp at this; omega)
    have z1' : w.heap.size + 1 < w1.heap.size := by omega
    have z1'' : w.heap.size < w1.heap.size := by omega
    go_wp2_with fail
    refine (hj.out _).mono ?_; rintro e w2 ⟨rfl, hb2⟩; obtain ⟨hc2, hf2⟩ := bcell hb2
    have z2 : w.heap.size + 1 + 1 < w2.heap.size := Nat.lt_of_lt_of_le z1 hb2.size
    have z2' : w.heap.size + 1 < w2.heap.size := by omega
    have z2'' : w.heap.size < w2.heap.size := by omega
    have HX : Below w.heap.size w w2 := below_next (below_three hb1) hb2
    go_wp2_with fail
    refine (HO.out _).mono ?_; rintro e w3 ⟨rfl, hb3⟩; obtain ⟨hc3, hf3⟩ := bcell hb3
    go_wp2
    refine bodyPost_ret (v := .agg #[.bool (nb (rd false S)), .int .i64 (nv (rd false S))]) (by simp [results, Tryz.results122, go_sem, hc1, hf1, hc2, hf2, hc3, hf3, z1, z2]) rfl ⟨?_, below_put (below_next HX hb3) (by omega) _ _⟩
    rw [HL.out]
  · by_cases hu : 9223372036854775807 < a + b
    · obtain ⟨S, hS⟩ : ∃ S, S = a + b - 18446744073709551616 := ⟨_, rfl⟩
      have HL := Lib.hid (lim_out (t := a + b) (by omega))
      have R : IntKind.i64.wrap (a + b) = S := by rw [hS]; exact i64_up (by omega) (by omega)
      have t : (decide (a < S) == decide (0 < b)) = false := by
        have e1 : decide (a < S) = false := by rw [decide_eq_false_iff_not]; omega
        have e2 : decide (0 < b) = true := by rw [decide_eq_true_eq]; omega
        rw [e1, e2]; rfl
      generalize lim (a + b) = O at HL ⊢
      clear hS ha0 ha1 hb0 hb1 hu
      clear hr
      go_enter Tryz.func122, Tryz.ntmps122
      go_wp2_with fail
      refine (hi.out _).mono ?_; rintro e w1 ⟨rfl, hb1⟩; obtain ⟨hc1, hf1⟩ := bcell hb1
      have z1 : w.heap.size + 1 + 1 < w1.heap.size := (by have := hb1.size; simp at this; omega)
      have z1' : w.heap.size + 1 < w1.heap.size := by omega
      have z1'' : w.heap.size < w1.heap.size := by omega
      go_wp2_with fail
      refine (hj.out _).mono ?_; rintro e w2 ⟨rfl, hb2⟩; obtain ⟨hc2, hf2⟩ := bcell hb2
      have z2 : w.heap.size + 1 + 1 < w2.heap.size := Nat.lt_of_lt_of_le z1 hb2.size
      have z2' : w.heap.size + 1 < w2.heap.size := by omega
      have z2'' : w.heap.size < w2.heap.size := by omega
      have HX : Below w.heap.size w w2 := below_next (below_three hb1) hb2
      go_wp2_with fail
      refine (nothing_c _).mono ?_; rintro e w3 ⟨rfl, hb3⟩; obtain ⟨hc3, hf3⟩ := bcell hb3
      go_wp2
      refine bodyPost_ret (v := .agg #[.bool true, .int .i64 0]) (by simp [results, Tryz.results122, go_sem, hc1, hf1, hc2, hf2, hc3, hf3, z1, z2]) rfl ⟨?_, below_put (below_next HX hb3) (by omega) _ _⟩
      rw [HL.out]; rfl
    · obtain ⟨S, hS⟩ : ∃ S, S = a + b + 18446744073709551616 := ⟨_, rfl⟩
      have HL := Lib.hid (lim_out (t := a + b) (by omega))
      have R : IntKind.i64.wrap (a + b) = S := by rw [hS]; exact i64_down (by omega) (by omega)
      have t : (decide (a < S) == decide (0 < b)) = false := by
        have e1 : decide (a < S) = true := by rw [decide_eq_true_eq]; omega
        have e2 : decide (0 < b) = false := by rw [decide_eq_false_iff_not]; omega
        rw [e1, e2]; rfl
      generalize lim (a + b) = O at HL ⊢
      clear hS ha0 ha1 hb0 hb1 hu
      clear hr
      go_enter Tryz.func122, Tryz.ntmps122
      go_wp2_with fail
      refine (hi.out _).mono ?_; rintro e w1 ⟨rfl, hb1⟩; obtain ⟨hc1, hf1⟩ := bcell hb1
      have z1 : w.heap.size + 1 + 1 < w1.heap.size := (by have := hb1.size; simp at this; omega)
      have z1' : w.heap.size + 1 < w1.heap.size := by omega
      have z1'' : w.heap.size < w1.heap.size := by omega
      go_wp2_with fail
      refine (hj.out _).mono ?_; rintro e w2 ⟨rfl, hb2⟩; obtain ⟨hc2, hf2⟩ := bcell hb2
      have z2 : w.heap.size + 1 + 1 < w2.heap.size := Nat.lt_of_lt_of_le z1 hb2.size
      have z2' : w.heap.size + 1 < w2.heap.size := by omega
      have z2'' : w.heap.size < w2.heap.size := by omega
      have HX : Below w.heap.size w w2 := below_next (below_three hb1) hb2
      go_wp2_with fail
      refine (nothing_c _).mono ?_; rintro e w3 ⟨rfl, hb3⟩; obtain ⟨hc3, hf3⟩ := bcell hb3
      go_wp2
      refine bodyPost_ret (v := .agg #[.bool true, .int .i64 0]) (by simp [results, Tryz.results122, go_sem, hc1, hf1, hc2, hf2, hc3, hf3, z1, z2]) rfl ⟨?_, below_put (below_next HX hb3) (by omega) _ _⟩
      rw [HL.out]; rfl
theorem add_any (b1 b2 : Bool) (v1 v2 : Int) (h1 : -9223372036854775808 ≤ v1 ∧ v1 ≤ 9223372036854775807) (h2 : -9223372036854775808 ≤ v2 ∧ v2 ≤ 9223372036854775807) (w : World) :
    Calls Tryz.prog 122 #[.agg #[.bool b1, .int .i64 v1], .agg #[.bool b2, .int .i64 v2]] w fun e w' => e = .returned (.agg #[.bool (nb (addO (rd b1 v1) (rd b2 v2))), .int .i64 (nv (addO (rd b1 v1) (rd b2 v2)))]) ∧ Below w.heap.size w w' := by
  by_cases g1 : b1 = false ∧ v1 ≠ -9223372036854775808
  · by_cases g2 : b2 = false ∧ v2 ≠ -9223372036854775808
    · obtain ⟨rfl, k1⟩ := g1
      obtain ⟨rfl, k2⟩ := g2
      rw [rd_some rfl k1, rd_some rfl k2]
      exact add_yes v1 v2 (by omega) (by omega) (by omega) (by omega) w
    · have h := add_no b1 b2 v1 v2 _ _ (missing_c b1 v1) (missing_c b2 v2) (by rw [rd_none g2]; simp) w
      rw [rd_none g2]
      cases rd b1 v1 <;> exact h
  · have h := add_no b1 b2 v1 v2 _ _ (missing_c b1 v1) (missing_c b2 v2) (by rw [rd_none g1]; simp) w
    rw [rd_none g1]
    exact h

end Go.Proofs.YtodlgbihdehmbaaGreatDoor.De.FP
/-
  Contracts of the program's own functions of layer 3 (decimal), second part: rounded.
-/
set_option linter.unusedSimpArgs false
set_option linter.unusedVariables false
namespace Go.Proofs.YtodlgbihdehmbaaGreatDoor.De.DP
open Go.RowKit Go.Sort

/-- What the digits ahead of the point and behind it say, or nothing where that can't be told. -/
def rdM (i f : List Nat) : Option Int := if 9223372036854775807 < magn i f then none else some (magn i f : Nat)
set_option maxRecDepth 100000 in
set_option maxHeartbeats 2000000 in
theorem rounded_c (a b : ByteArray) (ha : a.size ≤ 64) (hb : b.size ≤ 64) (hA : allD (bs a) = true) (hB : allD (bs b) = true) (w : World) (hG : G w) :
    Calls Tryz.prog 88 #[.string a, .string b] w fun e w' => e = .returned (.agg #[.bool (nb (rdM (bs a) (bs b))), .int .i64 (nv (rdM (bs a) (bs b)))]) ∧ Below w.heap.size w w' := by
  obtain ⟨Z, hZ⟩ : ∃ Z, Z = (⟨#[48, 48, 48, 48, 48, 48]⟩ : ByteArray) := ⟨_, rfl⟩
  have hZb : bs Z = [48, 48, 48, 48, 48, 48] := by rw [hZ]; rfl
  have hZs : Z.size = 6 := by rw [hZ]; rfl
  obtain ⟨K, hK⟩ : ∃ K, (b ++ Z).extract 0 6 = K := ⟨_, rfl⟩
  have hKb : bs K = (bs b ++ [48, 48, 48, 48, 48, 48]).take 6 := by
    rw [← hK, ← hZb, ← bs_append, Lib.extract_upto, bs_mk]
    simp [nu, bs]
  have hKs : K.size = 6 := by rw [← bs_length, hKb, kept_length]
  obtain ⟨T, hT⟩ : ∃ T, a ++ K = T := ⟨_, rfl⟩
  have hTb : bs T = bs a ++ (bs b ++ [48, 48, 48, 48, 48, 48]).take 6 := by rw [← hT, bs_append, hKb]
  have hTs : T.size = a.size + 6 := by rw [← bs_length, hTb, List.length_append, bs_length, kept_length]
  have hTd : allD (bs T) = true := by rw [hTb, allD_append]; exact ⟨hA, allD_kept hB⟩
  have hTn : bs T ≠ [] := by
    intro h
    have := congrArg List.length h
    rw [bs_length, hTs] at this
    simp at this
  have hTv : val (bs T) = whole6 (bs a) (bs b) := by rw [hTb]; rfl
  have hmag := magn_whole6 (bs a) (bs b)
  have pR := repeat_c
  rw [← hZ] at pR
  have PR := Lib.hid pR
  have hbz : (6 : Int) ≤ (b ++ Z).size := by rw [ByteArray.size_append, hZs]; omega
  have HG := Lib.hid hG
  clear pR hZ hZb hKb hTb hG
  by_cases hv : val (bs T) ≤ 9223372036854775807
  · have pP := parseInt_ok T (by omega) hTd hTn hv
    have pO := FP.of_c (val (bs T) : Nat)
    have pO1 := FP.of_c 1
    have e1 : rd false (val (bs T) : Nat) = some ((val (bs T) : Nat) : Int) := rd_some rfl (by omega)
    rw [e1] at pO
    rw [rd_some rfl (by decide)] at pO1
    simp only [nb, nv, Option.isNone_some, Option.getD_some] at pO pO1
    have pA := FP.add_any false false (val (bs T) : Nat) 1 (by omega) (by omega)
    rw [e1, rd_some rfl (by decide)] at pA
    have hadd : addO (some ((val (bs T) : Nat) : Int)) (some 1) = if 9223372036854775807 < val (bs T) + 1 then none else some ((val (bs T) + 1 : Nat) : Int) := by
      show lim _ = _
      unfold lim
      by_cases h : 9223372036854775807 < val (bs T) + 1
      · rw [if_pos h, if_neg (by omega)]
      · rw [if_neg h, if_pos (by omega)]; congr 1
    rw [hadd] at pA
    have hone : 53 ≤ byteAt (bs b) 6 → rdM (bs a) (bs b) = if 9223372036854775807 < val (bs T) + 1 then none else some ((val (bs T) + 1 : Nat) : Int) := fun h => by
      unfold rdM
      rw [hmag, if_pos h, ← hTv]
    have hnone : ¬ 53 ≤ byteAt (bs b) 6 → rdM (bs a) (bs b) = some ((val (bs T) : Nat) : Int) := fun h => by
      unfold rdM
      rw [hmag, if_neg h, ← hTv, Nat.add_zero, if_neg (by omega)]
    generalize rdM (bs a) (bs b) = O at *
    by_cases h6 : 6 < b.size
    · obtain ⟨c, hc⟩ : ∃ c, byteAt (bs b) 6 = c := ⟨_, rfl⟩
      have hb6 : (b[6]'h6).toNat = c := (at_byte h6).trans hc
      rw [hc] at hone hnone
      have hc1 : c ≤ 255 := by rw [← hc]; exact byte_le b 6
      clear hc
      by_cases h53 : 53 ≤ c
      · have hO := hone h53
        rw [← hO] at pA
        generalize ((val (bs T) : Nat) : Int) = V at *
        have PP := Lib.hid pP; have PO := Lib.hid pO; have PO1 := Lib.hid pO1; have PA := Lib.hid pA
        clear pP pO pO1 pA hadd hone hnone hO e1 hmag hTv hTd hTn hA hB hv
        go_enter Tryz.func88, Tryz.ntmps88
        go_wp2_with fail
        refine (PR.out _).mono ?_; rintro e w1 ⟨rfl, hb1⟩; obtain ⟨hc1', hf1⟩ := bcell hb1
        have z1 : w.heap.size < w1.heap.size := (by have := hb1.size; simp at this; omega)
        go_wp2_with fail
        refine (PP.out _).mono ?_; rintro e w2 ⟨rfl, hb2⟩; obtain ⟨hc2, hf2⟩ := bcell hb2
        have z2 : w.heap.size < w2.heap.size := Nat.lt_of_lt_of_le z1 hb2.size
        have HX := Lib.hid (below_next (below_box hb1) hb2)
        go_wp2_with fail
        refine (PO.out _).mono ?_; rintro e w3 ⟨rfl, hb3⟩; obtain ⟨hc3, hf3⟩ := bcell hb3
        have z3 : w.heap.size < w3.heap.size := Nat.lt_of_lt_of_le z2 hb3.size
        have HY := Lib.hid (below_next HX.out hb3)
        have ne3 : w3.heap.size ≠ w.heap.size := by omega
        have ne4 : w.heap.size ≠ w3.heap.size := by omega
        go_wp2_with fail
        go_region_held3 (fun y => y.cell? ⟨w3.heap.size, 0, none⟩ = some (.bool false) ∧ y.cell? ⟨w3.heap.size, 1, none⟩ = some (.int .i64 V))
          (first | go_keep)
          (first
            | (go_at_call 121; refine (PO1.out _).mono ?_; rintro e w4 ⟨rfl, hb4⟩; obtain ⟨hc4, hf4⟩ := bcell hb4; have z4 : w3.heap.size < w4.heap.size := (by have := hb4.size; simp at this; omega); have y4 : w.heap.size < w4.heap.size := (by omega); have p0 : w4.cell? ⟨w.heap.size, 0, none⟩ = some (.bool false) := (by go_simp); have p1 : w4.cell? ⟨w.heap.size, 1, none⟩ = some (.int .i64 0) := (by go_simp); have p2 : w4.frozen? ⟨w.heap.size, 0, none⟩ = false := (by go_simp); have p3 : w4.frozen? ⟨w.heap.size, 1, none⟩ = false := (by go_simp))
            | (go_at_call 122; refine (PA.out _).mono ?_; rintro e w5 ⟨rfl, hb5⟩; obtain ⟨hc5, hf5⟩ := bcell hb5; have q0 : w5.cell? ⟨w.heap.size, 0, none⟩ = some (.bool false) := (by go_simp); have q1 : w5.cell? ⟨w.heap.size, 1, none⟩ = some (.int .i64 0) := (by go_simp); have q2 : w5.frozen? ⟨w.heap.size, 0, none⟩ = false := (by go_simp); have q3 : w5.frozen? ⟨w.heap.size, 1, none⟩ = false := (by go_simp)))
        go_wp2
        have HZ4 := below_next ((HY.out.alloc (by omega) _).drew) hb4
        exact bodyPost_ret (v := .agg #[.bool (nb O), .int .i64 (nv O)]) (by simp [results, Tryz.results88, go_sem, q0, q1, q2, q3]) rfl ⟨rfl, below_put (below_next HZ4 hb5) (by omega) _ _⟩
      · -- the first digit that is cut off is below 5
        have hO := hnone h53
        rw [hO]
        simp only [nb, nv, Option.isNone_some, Option.getD_some]
        generalize ((val (bs T) : Nat) : Int) = V at *
        have PP := Lib.hid pP; have PO := Lib.hid pO
        clear pP pO pO1 pA hadd hone hnone hO e1 hmag hTv hTd hTn hA hB hv
        go_enter Tryz.func88, Tryz.ntmps88
        go_wp2_with fail
        refine (PR.out _).mono ?_; rintro e w1 ⟨rfl, hb1⟩; obtain ⟨hc1', hf1⟩ := bcell hb1
        have z1 : w.heap.size < w1.heap.size := (by have := hb1.size; simp at this; omega)
        go_wp2_with fail
        refine (PP.out _).mono ?_; rintro e w2 ⟨rfl, hb2⟩; obtain ⟨hc2, hf2⟩ := bcell hb2
        have z2 : w.heap.size < w2.heap.size := Nat.lt_of_lt_of_le z1 hb2.size
        have HX := Lib.hid (below_next (below_box hb1) hb2)
        go_wp2_with fail
        refine (PO.out _).mono ?_; rintro e w3 ⟨rfl, hb3⟩; obtain ⟨hc3, hf3⟩ := bcell hb3
        have z3 : w.heap.size < w3.heap.size := Nat.lt_of_lt_of_le z2 hb3.size
        have HY := Lib.hid (below_next HX.out hb3)
        have ne3 : w3.heap.size ≠ w.heap.size := by omega
        have ne4 : w.heap.size ≠ w3.heap.size := by omega
        go_wp2
        exact bodyPost_ret (v := .agg #[.bool false, .int .i64 V]) (by simp [results, Tryz.results88, go_sem, hc1', hf1, hc2, hf2, hc3, hf3, z1, z2, z3]) rfl ⟨rfl, (below_put HY.out (Nat.le_refl _) _ _).alloc (by simp [World.setCell]; omega) _⟩
    · have hpast : ¬ 53 ≤ byteAt (bs b) 6 := by rw [byte_past (by rw [bs_length]; omega)]; omega
      have hO := hnone hpast
      rw [hO]
      simp only [nb, nv, Option.isNone_some, Option.getD_some]
      generalize ((val (bs T) : Nat) : Int) = V at *
      have PP := Lib.hid pP; have PO := Lib.hid pO
      clear pP pO pO1 pA hadd hone hnone hO e1 hmag hTv hTd hTn hA hB hv
      go_enter Tryz.func88, Tryz.ntmps88
      go_wp2_with fail
      refine (PR.out _).mono ?_; rintro e w1 ⟨rfl, hb1⟩; obtain ⟨hc1', hf1⟩ := bcell hb1
      have z1 : w.heap.size < w1.heap.size := (by have := hb1.size; simp at this; omega)
      go_wp2_with fail
      refine (PP.out _).mono ?_; rintro e w2 ⟨rfl, hb2⟩; obtain ⟨hc2, hf2⟩ := bcell hb2
      have z2 : w.heap.size < w2.heap.size := Nat.lt_of_lt_of_le z1 hb2.size
      have HX := Lib.hid (below_next (below_box hb1) hb2)
      go_wp2_with fail
      refine (PO.out _).mono ?_; rintro e w3 ⟨rfl, hb3⟩; obtain ⟨hc3, hf3⟩ := bcell hb3
      have z3 : w.heap.size < w3.heap.size := Nat.lt_of_lt_of_le z2 hb3.size
      have HY := Lib.hid (below_next HX.out hb3)
      have ne3 : w3.heap.size ≠ w.heap.size := by omega
      have ne4 : w.heap.size ≠ w3.heap.size := by omega
      go_wp2
      exact bodyPost_ret (v := .agg #[.bool false, .int .i64 V]) (by simp [results, Tryz.results88, go_sem, hc1', hf1, hc2, hf2, hc3, hf3, z1, z2, z3]) rfl ⟨rfl, (below_put HY.out (Nat.le_refl _) _ _).alloc (by simp [World.setCell]; omega) _⟩
  · have pP := parseInt_no T (by omega) hTd hTn hv
    have hO : rdM (bs a) (bs b) = none := by
      unfold rdM
      rw [hmag, ← hTv, if_pos (by omega)]
    rw [hO]
    simp only [nb, nv, Option.isNone_none, Option.getD_none]
    have PP := Lib.hid pP
    clear pP hO hmag hTv hTd hTn hA hB hv
    go_enter Tryz.func88, Tryz.ntmps88
    go_wp2_with fail
    refine (PR.out _).mono ?_; rintro e w1 ⟨rfl, hb1⟩; obtain ⟨hc1', hf1⟩ := bcell hb1
    have z1 : w.heap.size < w1.heap.size := (by have := hb1.size; simp at this; omega)
    have g1 := Lib.hid ((HG.out.alloc _).below hb1)
    go_wp2_with fail
    refine (PP.out _ g1.out).mono ?_; rintro e w2 ⟨x, t, p, rfl, hb2⟩; obtain ⟨hc2, hf2⟩ := bcell hb2
    have z2 : w.heap.size < w2.heap.size := Nat.lt_of_lt_of_le z1 hb2.size
    have HX := Lib.hid (below_next (below_box hb1) hb2)
    go_wp2
    exact bodyPost_ret (v := .agg #[.bool true, .int .i64 0]) (by simp [results, Tryz.results88, go_sem, hc1', hf1, hc2, hf2, z1, z2]) rfl ⟨rfl, below_put HX.out (by omega) _ _⟩
end Go.Proofs.YtodlgbihdehmbaaGreatDoor.De.DP
/-
  Contracts of the program's own functions of layer 3 (decimal), third part: Parse.
-/
set_option linter.unusedSimpArgs false
set_option linter.unusedVariables false
namespace Go.Proofs.YtodlgbihdehmbaaGreatDoor.De.DP
open Go.RowKit Go.Sort

theorem bs_lt (s : ByteArray) : ∀ c ∈ bs s, c < 256 := by
  intro c hc
  simp only [bs, List.mem_map] at hc
  obtain ⟨x, _, rfl⟩ := hc
  exact x.toNat_lt
theorem mem_cut1 {l : List Nat} {c : Nat} (h : c ∈ cut1 l) : c ∈ l := by
  unfold cut1 at h
  split at h
  · exact List.mem_of_mem_drop h
  · exact h
theorem cut1_length (l : List Nat) : (cut1 l).length ≤ l.length := by
  unfold cut1
  split
  · rw [List.length_drop]; omega
  · exact Nat.le_refl _
theorem mem_ipart : ∀ {l : List Nat} {c : Nat}, c ∈ ipart l → c ∈ l
  | [], c, h => h
  | d :: l, c, h => by
    unfold ipart at h
    split at h
    · cases h
    · rcases List.mem_cons.1 h with rfl | h
      · exact List.mem_cons_self
      · exact List.mem_cons_of_mem _ (mem_ipart h)
theorem mem_fpart : ∀ {l : List Nat} {c : Nat}, c ∈ fpart l → c ∈ l
  | [], c, h => h
  | d :: l, c, h => by
    unfold fpart at h
    split at h
    · exact List.mem_cons_of_mem _ h
    · exact List.mem_cons_of_mem _ (mem_fpart h)
theorem ipart_length : ∀ l : List Nat, (ipart l).length ≤ l.length
  | [] => Nat.le_refl _
  | d :: l => by
    unfold ipart
    split
    · exact Nat.zero_le _
    · simp only [List.length_cons]; have := ipart_length l; omega
theorem fpart_length : ∀ l : List Nat, (fpart l).length ≤ l.length
  | [] => Nat.le_refl _
  | d :: l => by
    unfold fpart
    split
    · simp
    · simp only [List.length_cons]; have := fpart_length l; omega
set_option maxRecDepth 100000 in
set_option maxHeartbeats 2000000 in
theorem parse_c (s : ByteArray) (hs : s.size ≤ 9223372036854775807) (w : World) (hG : G w) :
    Calls Tryz.prog 63 #[.string s] w fun e w' => e = .returned (.tuple #[.agg #[.bool false, .int .i64 (canP (bs s)).1], .int .i64 (canP (bs s)).2]) ∧ Below w.heap.size w w' := by
  by_cases hl : 64 < s.size
  · have hL : canP (bs s) = (0, 12) := by unfold canP; rw [if_pos (by rw [bs_length]; exact hl)]
    rw [hL]
    go_enter Tryz.func63, Tryz.ntmps63
    go_wp2
    exact bodyPost_ret (v := .tuple #[.agg #[.bool false, .int .i64 0], .int .i64 12]) (by simp [results, Tryz.results63, go_sem]) rfl ⟨rfl, (Below.refl _ _).alloc (Nat.le_refl _) _⟩
  · have hC : canP (bs s) = canon (cut1 (bs s)) (sgnB (bs s)) := by unfold canP; rw [if_neg (by rw [bs_length]; exact hl)]
    rw [hC]
    have p1 := cutSign_c s
    obtain ⟨R, hR⟩ : ∃ R, str (cut1 (bs s)) = R := ⟨_, rfl⟩
    have hRb : bs R = cut1 (bs s) := by rw [← hR]; exact bs_str fun c hc => bs_lt s c (mem_cut1 hc)
    have hRs : R.size ≤ 64 := by rw [← bs_length, hRb]; have := cut1_length (bs s); rw [bs_length] at this; omega
    have p2 := cut_c R hRs
    obtain ⟨I, hI⟩ : ∃ I, str (ipart (bs R)) = I := ⟨_, rfl⟩
    obtain ⟨F, hF⟩ : ∃ F, str (fpart (bs R)) = F := ⟨_, rfl⟩
    have hIb : bs I = ipart (bs R) := by rw [← hI]; exact bs_str fun c hc => bs_lt R c (mem_ipart hc)
    have hFb : bs F = fpart (bs R) := by rw [← hF]; exact bs_str fun c hc => bs_lt R c (mem_fpart hc)
    have hIs : I.size ≤ 64 := by rw [← bs_length, hIb]; have := ipart_length (bs R); rw [bs_length] at this; omega
    have hFs : F.size ≤ 64 := by rw [← bs_length, hFb]; have := fpart_length (bs R); rw [bs_length] at this; omega
    have hIFs : (I ++ F).size ≤ 128 := by rw [ByteArray.size_append]; omega
    rw [hR] at p1
    rw [hI, hF] at p2
    have p3 := digits_c (I ++ F) (by omega)
    rw [bs_append] at p3
    have hcan : canon (cut1 (bs s)) (sgnB (bs s)) = if allD (bs I) = true ∧ allD (bs F) = true ∧ bs I ++ bs F ≠ [] then
        if 9223372036854775807 < magn (bs I) (bs F) then (0, 3) else (if sgnB (bs s) then -(magn (bs I) (bs F) : Int) else (magn (bs I) (bs F) : Int), 0) else (0, 2) := by
      rw [← hRb, hIb, hFb]; rfl
    rw [hcan]
    generalize sgnB (bs s) = neg at *
    have P1 := Lib.hid p1; have P2 := Lib.hid p2; have P3 := Lib.hid p3
    have HG := Lib.hid hG
    clear p1 p2 p3 hcan hC hR hI hF hIb hFb hRb hG
    by_cases hok : allD (bs I) = true ∧ allD (bs F) = true ∧ bs I ++ bs F ≠ []
    · rw [if_pos hok]
      have hokD : okD (bs I ++ bs F) = true := by rw [okD_iff, allD_append]; exact ⟨⟨hok.1, hok.2.1⟩, hok.2.2⟩
      rw [hokD] at P3
      have p4 := rounded_c I F hIs hFs hok.1 hok.2.1
      by_cases hm : 9223372036854775807 < magn (bs I) (bs F)
      · rw [if_pos hm]
        have e : rdM (bs I) (bs F) = none := if_pos hm
        rw [e] at p4
        simp only [nb, nv, Option.isNone_none, Option.getD_none] at p4
        have P4 := Lib.hid p4
        clear p4 hok hokD hm e
        go_enter Tryz.func63, Tryz.ntmps63
        go_wp2_with fail
        refine (P1.out _).mono ?_; rintro e w1 ⟨rfl, rfl⟩
        go_wp2_with fail
        refine (P2.out _ (HG.out.alloc _)).mono ?_; rintro e w2 ⟨bb, rfl, hb2⟩; obtain ⟨hc2, hf2⟩ := bcell hb2
        have z2 : w.heap.size < w2.heap.size := (by have := hb2.size; simp at this; omega)
        have HX := Lib.hid (below_box hb2)
        have g2 := Lib.hid ((HG.out.alloc _).below hb2)
        go_wp2_with fail
        refine (P3.out _).mono ?_; rintro e w3 ⟨rfl, rfl⟩
        go_wp2_with fail
        refine (P4.out _ g2.out).mono ?_; rintro e w4 ⟨rfl, hb4⟩; obtain ⟨hc4, hf4⟩ := bcell hb4
        have z4 : w.heap.size < w4.heap.size := Nat.lt_of_lt_of_le z2 hb4.size
        have HY := Lib.hid (below_next HX.out hb4)
        have ne3 : w4.heap.size ≠ w.heap.size := by omega
        have ne4 : w.heap.size ≠ w4.heap.size := by omega
        go_wp2
        exact bodyPost_ret (v := .tuple #[.agg #[.bool false, .int .i64 0], .int .i64 3]) (by simp [results, Tryz.results63, go_sem, hc2, hf2, hc4, hf4, z2, z4]) rfl ⟨rfl, (below_put HY.out (Nat.le_refl _) _ _).alloc (by simp [World.setCell]; omega) _⟩
      · rw [if_neg hm]
        have e : rdM (bs I) (bs F) = some ((magn (bs I) (bs F) : Nat) : Int) := if_neg hm
        rw [e] at p4
        have p5 := FP.neg_any false (magn (bs I) (bs F) : Nat) (by omega)
        rw [rd_some rfl (by omega)] at p5
        simp only [nb, nv, negO, Option.isNone_some, Option.getD_some] at p4 p5
        obtain ⟨V, hV⟩ : ∃ V, ((magn (bs I) (bs F) : Nat) : Int) = V := ⟨_, rfl⟩
        rw [hV] at p4 p5 ⊢
        have P4 := Lib.hid p4; have P5 := Lib.hid p5
        clear p4 p5 hok hokD hm e hV
        cases neg
        · simp only [Bool.false_eq_true, if_false]
          go_enter Tryz.func63, Tryz.ntmps63
          go_wp2_with fail
          refine (P1.out _).mono ?_; rintro e w1 ⟨rfl, rfl⟩
          go_wp2_with fail
          refine (P2.out _ (HG.out.alloc _)).mono ?_; rintro e w2 ⟨bb, rfl, hb2⟩; obtain ⟨hc2, hf2⟩ := bcell hb2
          have z2 : w.heap.size < w2.heap.size := (by have := hb2.size; simp at this; omega)
          have HX := Lib.hid (below_box hb2)
          have g2 := Lib.hid ((HG.out.alloc _).below hb2)
          go_wp2_with fail
          refine (P3.out _).mono ?_; rintro e w3 ⟨rfl, rfl⟩
          go_wp2_with fail
          refine (P4.out _ g2.out).mono ?_; rintro e w4 ⟨rfl, hb4⟩; obtain ⟨hc4, hf4⟩ := bcell hb4
          have z4 : w.heap.size < w4.heap.size := Nat.lt_of_lt_of_le z2 hb4.size
          have HY := Lib.hid (below_next HX.out hb4)
          have ne3 : w4.heap.size ≠ w.heap.size := by omega
          have ne4 : w.heap.size ≠ w4.heap.size := by omega
          go_wp2
          exact bodyPost_ret (v := .tuple #[.agg #[.bool false, .int .i64 V], .int .i64 0]) (by simp [results, Tryz.results63, go_sem, hc2, hf2, hc4, hf4, z2, z4]) rfl ⟨rfl, (below_put HY.out (Nat.le_refl _) _ _).alloc (by simp [World.setCell]; omega) _⟩
        · simp only [if_true]
          go_enter Tryz.func63, Tryz.ntmps63
          go_wp2_with fail
          refine (P1.out _).mono ?_; rintro e w1 ⟨rfl, rfl⟩
          go_wp2_with fail
          refine (P2.out _ (HG.out.alloc _)).mono ?_; rintro e w2 ⟨bb, rfl, hb2⟩; obtain ⟨hc2, hf2⟩ := bcell hb2
          have z2 : w.heap.size < w2.heap.size := (by have := hb2.size; simp at this; omega)
          have HX := Lib.hid (below_box hb2)
          have g2 := Lib.hid ((HG.out.alloc _).below hb2)
          go_wp2_with fail
          refine (P3.out _).mono ?_; rintro e w3 ⟨rfl, rfl⟩
          go_wp2_with fail
          refine (P4.out _ g2.out).mono ?_; rintro e w4 ⟨rfl, hb4⟩; obtain ⟨hc4, hf4⟩ := bcell hb4
          have z4 : w.heap.size < w4.heap.size := Nat.lt_of_lt_of_le z2 hb4.size
          have HY := Lib.hid (below_next HX.out hb4)
          have ne3 : w4.heap.size ≠ w.heap.size := by omega
          have ne4 : w.heap.size ≠ w4.heap.size := by omega
          go_wp2_with fail
          refine (P5.out _).mono ?_; rintro e w5 ⟨rfl, hb5⟩; obtain ⟨hc5, hf5⟩ := bcell hb5
          have z5 : w.heap.size < w5.heap.size := (by have := hb5.size; simp at this; omega)
          have HZ := Lib.hid (below_next HY.out (below_box hb5))
          have K0 : w5.cell? ⟨w.heap.size, 0, none⟩ = some (.bool false) := by go_simp
          have K1 : w5.cell? ⟨w.heap.size, 1, none⟩ = some (.int .i64 0) := by go_simp
          go_wp2
          exact bodyPost_ret (v := .tuple #[.agg #[.bool false, .int .i64 (-V)], .int .i64 0]) (by simp [results, Tryz.results63, go_sem, hc2, hf2, hc4, hf4, K0, K1]) rfl ⟨rfl, below_put HZ.out (Nat.le_refl _) _ _⟩
    · rw [if_neg hok]
      have hokD : okD (bs I ++ bs F) = false := by
        rw [Bool.eq_false_iff]
        intro h
        rw [okD_iff, allD_append] at h
        exact hok ⟨h.1.1, h.1.2, h.2⟩
      rw [hokD] at P3
      clear hok hokD
      go_enter Tryz.func63, Tryz.ntmps63
      go_wp2_with fail
      refine (P1.out _).mono ?_; rintro e w1 ⟨rfl, rfl⟩
      go_wp2_with fail
      refine (P2.out _ (HG.out.alloc _)).mono ?_; rintro e w2 ⟨bb, rfl, hb2⟩; obtain ⟨hc2, hf2⟩ := bcell hb2
      have z2 : w.heap.size < w2.heap.size := (by have := hb2.size; simp at this; omega)
      have HX := Lib.hid (below_box hb2)
      have g2 := Lib.hid ((HG.out.alloc _).below hb2)
      go_wp2_with fail
      refine (P3.out _).mono ?_; rintro e w3 ⟨rfl, rfl⟩
      go_wp2
      exact bodyPost_ret (v := .tuple #[.agg #[.bool false, .int .i64 0], .int .i64 2]) (by simp [results, Tryz.results63, go_sem, hc2, hf2, z2]) rfl ⟨rfl, below_put HX.out (Nat.le_refl _) _ _⟩
end Go.Proofs.YtodlgbihdehmbaaGreatDoor.De.DP
/-
  Contracts of the program's functions of layer 12: a fold of a section.
-/
set_option linter.unusedSimpArgs false
set_option linter.unusedVariables false
namespace Go.Proofs.YtodlgbihdehmbaaGreatDoor.LP
open Go.RowKit Cf Cf.KR Cf.KP
/-- A fold under way: the section's box, the answer's cells, the fold's own cells. -/
structure FdSt (W : World) (b r f : Nat) (x y f0 f1 f2 f3 : Value) : Prop where
  b0 : W.cell? ⟨b, 0, none⟩ = some x
  b1 : W.cell? ⟨b, 1, none⟩ = some y
  vr : DVar W r 4
  vf : DVar W f 4
  h : Holds W f [f0, f1, f2, f3]
theorem FdSt.below {W W' : World} {b r f : Nat} {x y f0 f1 f2 f3 : Value} (h : FdSt W b r f x y f0 f1 f2 f3) (hb : Below W.heap.size W W') : FdSt W' b r f x y f0 f1 f2 f3 :=
  ⟨cellb hb h.b0, cellb hb h.b1, h.vr.below hb, h.vf.below hb, h.h.below hb⟩
theorem FdSt.put2 {W : World} {b r f : Nat} {x y f0 f1 f2 f3 : Value} (h : FdSt W b r f x y f0 f1 f2 f3) (hn : b ≠ f) (u : Value) : FdSt (W.setCell ⟨f, 2, none⟩ u) b r f x y f0 f1 u f3 := by
  obtain ⟨h0, h1, h2, h3⟩ := h.h.four
  have e0 := h.b0; have e1 := h.b1
  refine ⟨(World.cell?_setCell_other W _ _ u (fun e => by injection e with e1; exact hn e1.symm)).trans e0, (World.cell?_setCell_other W _ _ u (fun e => by injection e with e1; exact hn e1.symm)).trans e1, h.vr.set u, h.vf.set u, fun j v hv => ?_⟩
  match j, hv with
  | 0, hv => exact (World.cell?_setCell_other W _ _ u (fun e => by injection e with _ e2; cases e2)).trans (h0.trans hv)
  | 1, hv => exact (World.cell?_setCell_other W _ _ u (fun e => by injection e with _ e2; cases e2)).trans (h1.trans hv)
  | 2, hv => exact (World.cell?_setCell_same W _ u h2).trans hv
  | 3, hv => exact (World.cell?_setCell_other W _ _ u (fun e => by injection e with _ e2; cases e2)).trans (h3.trans hv)
  | j + 4, hv => simp at hv
theorem FdSt.put3 {W : World} {b r f : Nat} {x y f0 f1 f2 f3 : Value} (h : FdSt W b r f x y f0 f1 f2 f3) (hn : b ≠ f) (u : Value) : FdSt (W.setCell ⟨f, 3, none⟩ u) b r f x y f0 f1 f2 u := by
  obtain ⟨h0, h1, h2, h3⟩ := h.h.four
  have e0 := h.b0; have e1 := h.b1
  refine ⟨(World.cell?_setCell_other W _ _ u (fun e => by injection e with e1; exact hn e1.symm)).trans e0, (World.cell?_setCell_other W _ _ u (fun e => by injection e with e1; exact hn e1.symm)).trans e1, h.vr.set u, h.vf.set u, fun j v hv => ?_⟩
  match j, hv with
  | 0, hv => exact (World.cell?_setCell_other W _ _ u (fun e => by injection e with _ e2; cases e2)).trans (h0.trans hv)
  | 1, hv => exact (World.cell?_setCell_other W _ _ u (fun e => by injection e with _ e2; cases e2)).trans (h1.trans hv)
  | 2, hv => exact (World.cell?_setCell_other W _ _ u (fun e => by injection e with _ e2; cases e2)).trans (h2.trans hv)
  | 3, hv => exact (World.cell?_setCell_same W _ u h3).trans hv
  | j + 4, hv => simp at hv
theorem FdSt.facts {W : World} {b r f : Nat} {x y f0 f1 f2 f3 : Value} (h : FdSt W b r f x y f0 f1 f2 f3) :
    (W.cell? ⟨f, 0, none⟩ = some f0 ∧ W.cell? ⟨f, 1, none⟩ = some f1 ∧ W.cell? ⟨f, 2, none⟩ = some f2 ∧ W.cell? ⟨f, 3, none⟩ = some f3) ∧ (W.frozen? ⟨f, 0, none⟩ = false ∧ W.frozen? ⟨f, 1, none⟩ = false ∧ W.frozen? ⟨f, 2, none⟩ = false ∧ W.frozen? ⟨f, 3, none⟩ = false) ∧
    (∃ x0 x1 x2 x3, W.cell? ⟨r, 0, none⟩ = some x0 ∧ W.cell? ⟨r, 1, none⟩ = some x1 ∧ W.cell? ⟨r, 2, none⟩ = some x2 ∧ W.cell? ⟨r, 3, none⟩ = some x3) ∧ (W.frozen? ⟨r, 0, none⟩ = false ∧ W.frozen? ⟨r, 1, none⟩ = false ∧ W.frozen? ⟨r, 2, none⟩ = false ∧ W.frozen? ⟨r, 3, none⟩ = false) := by
  obtain ⟨x0, p0⟩ := h.vr.c 0 (by decide); obtain ⟨x1, p1⟩ := h.vr.c 1 (by decide); obtain ⟨x2, p2⟩ := h.vr.c 2 (by decide); obtain ⟨x3, p3⟩ := h.vr.c 3 (by decide)
  exact ⟨h.h.four, h.vf.four, ⟨x0, x1, x2, x3, p0, p1, p2, p3⟩, h.vr.four⟩
theorem put4_read {W : World} {r : Nat} (h : DVar W r 4) (a b c d : Value) :
    ((((W.setCell ⟨r, 0, none⟩ a).setCell ⟨r, 1, none⟩ b).setCell ⟨r, 2, none⟩ c).setCell ⟨r, 3, none⟩ d).cell? ⟨r, 0, none⟩ = some a ∧ ((((W.setCell ⟨r, 0, none⟩ a).setCell ⟨r, 1, none⟩ b).setCell ⟨r, 2, none⟩ c).setCell ⟨r, 3, none⟩ d).cell? ⟨r, 1, none⟩ = some b ∧
    ((((W.setCell ⟨r, 0, none⟩ a).setCell ⟨r, 1, none⟩ b).setCell ⟨r, 2, none⟩ c).setCell ⟨r, 3, none⟩ d).cell? ⟨r, 2, none⟩ = some c ∧ ((((W.setCell ⟨r, 0, none⟩ a).setCell ⟨r, 1, none⟩ b).setCell ⟨r, 2, none⟩ c).setCell ⟨r, 3, none⟩ d).cell? ⟨r, 3, none⟩ = some d := by
  obtain ⟨x0, p0⟩ := h.c 0 (by decide); obtain ⟨x1, p1⟩ := h.c 1 (by decide); obtain ⟨x2, p2⟩ := h.c 2 (by decide); obtain ⟨x3, p3⟩ := h.c 3 (by decide)
  refine ⟨?_, ?_, ?_, ?_⟩ <;> go_simp
theorem below_puts4 {B b : Nat} {a w : World} (h : Below B a w) (hB : B ≤ b) (x y z u : Value) : Below B a ((((w.setCell ⟨b, 0, none⟩ x).setCell ⟨b, 1, none⟩ y).setCell ⟨b, 2, none⟩ z).setCell ⟨b, 3, none⟩ u) :=
  (((h.setCell (p := ⟨b, 0, none⟩) hB x).setCell (p := ⟨b, 1, none⟩) hB y).setCell (p := ⟨b, 2, none⟩) hB z).setCell (p := ⟨b, 3, none⟩) hB u
/-- What fold answers. -/
def FdAns (w : World) (nm pat : ByteArray) (X A : Int × Int) (e : Ending) (w' : World) : Prop :=
  ∃ (a b : ByteArray) (p q E : Int), e = .returned (.tuple #[.agg #[.string a, .string b, .int .i64 p, .int .i64 q], .int .i64 E]) ∧ E = (if X.2 ≠ 0 then X.2 else A.2) ∧ (E = 0 → a = nm ∧ b = pat ∧ p = X.1 ∧ q = A.1) ∧ Below w.heap.size w w'
theorem fold_end {w W : World} {r : Nat} {nm pat : ByteArray} {X A : Int × Int} (hB : w.heap.size ≤ r) (hb : Below w.heap.size w W) (a b : ByteArray) (p q E : Int) (hE : E = (if X.2 ≠ 0 then X.2 else A.2)) (hz : E = 0 → a = nm ∧ b = pat ∧ p = X.1 ∧ q = A.1) :
    FdAns w nm pat X A (.returned (.tuple #[.agg #[.string a, .string b, .int .i64 p, .int .i64 q], .int .i64 E])) ((((W.setCell ⟨r, 0, none⟩ (.string a)).setCell ⟨r, 1, none⟩ (.string b)).setCell ⟨r, 2, none⟩ (.int .i64 p)).setCell ⟨r, 3, none⟩ (.int .i64 q)) :=
  ⟨a, b, p, q, E, rfl, hE, hz, below_puts4 hb hB _ _ _ _⟩
theorem xff_err {t : List Nat} {V E : Int} (h : refP t = (V, E)) (h0 : E ≠ 0) : xffV (some t) = (0, E) := by
  unfold xffV; simp only [h]; rw [if_pos h0]
theorem xff_far {t : List Nat} {V : Int} (h : refP t = (V, 0)) (h0 : ¬ (0 ≤ V ∧ V ≤ 1000000)) : xffV (some t) = (0, 3) := by
  unfold xffV; simp only [h]; rw [if_neg (fun e => e rfl), if_pos (by omega)]
theorem xff_in {t : List Nat} {V : Int} (h : refP t = (V, 0)) (h0 : 0 ≤ V ∧ V ≤ 1000000) : xffV (some t) = (V, 0) := by
  unfold xffV; simp only [h]; rw [if_neg (fun e => e rfl), if_neg (by omega)]
theorem agg_yes {t : List Nat} {m : Int} (h : mNum t = (m, true)) : aggV (some t) = (m, 0) := by
  unfold aggV; simp only [h]; rfl
theorem agg_no {t : List Nat} {m : Int} (h : mNum t = (m, false)) : aggV (some t) = (0, 7) := by
  unfold aggV; simp only [h]; rfl
/-- All that fold is called with, and what it calls. -/
structure FdIn (w : World) (nm : ByteArray) (A : Option Addr) (n c : Nat) (ox oa : Option (List Nat)) : Prop where
  gx : ∀ W, Below w.heap.size w W → Calls Tryz.prog 51 #[.agg #[.string nm, .slice A n c], .string (str xffB)] W fun e w' => e = .returned (.tuple #[.string (str (ox.getD [])), .bool ox.isSome]) ∧ Below W.heap.size W w'
  ga : ∀ W, Below w.heap.size w W → Calls Tryz.prog 51 #[.agg #[.string nm, .slice A n c], .string (str aggB)] W fun e w' => e = .returned (.tuple #[.string (str (oa.getD [])), .bool oa.isSome]) ∧ Below W.heap.size W w'
  g : De.G w
  t : Mt w
theorem FdIn.px {w : World} {nm : ByteArray} {A : Option Addr} {n c : Nat} {ox oa : Option (List Nat)} (h : FdIn w nm A n c ox oa) (t : List Nat) (ht : Byt t ∧ t.length ≤ 5000) (W : World) (hb : Below w.heap.size w W) :
    Calls Tryz.prog 63 #[.string (str t)] W fun e w' => e = .returned (.tuple #[.agg #[.bool false, .int .i64 (refP t).1], .int .i64 (refP t).2]) ∧ Below W.heap.size W w' := by
  have := De.DP.parse_c (str t) (by rw [str_size]; omega) W (h.g.below hb)
  rwa [bs_str ht.1, ← ref_canon] at this
theorem FdIn.me {w : World} {nm : ByteArray} {A : Option Addr} {n c : Nat} {ox oa : Option (List Nat)} (h : FdIn w nm A n c ox oa) (t : List Nat) (ht : Byt t ∧ t.length ≤ 5000) (W : World) (hb : Below w.heap.size w W) :
    Calls Tryz.prog 12 #[.string (str t)] W fun e w' => e = .returned (.tuple #[.int .i64 (mNum t).1, .bool (mNum t).2]) ∧ Below W.heap.size W w' := by
  have := method_p (str t) W (h.t.below hb)
  rwa [bs_str ht.1] at this
/-- The three variables of fold. -/
theorem fd_start (w wb wr wf : World) (nm pat : ByteArray) (v : Value) (hwb : w.alloc (.cells #[.string nm, v] 63) = wb) (hwr : wb.alloc (.cells #[.string ⟨#[]⟩, .string ⟨#[]⟩, .int .i64 0, .int .i64 0] 74) = wr) (hwf : wr.alloc (.cells #[.string nm, .string pat, .int .i64 500000, .int .i64 1] 74) = wf) :
    FdSt wf w.heap.size wb.heap.size wr.heap.size (.string nm) v (.string nm) (.string pat) (.int .i64 500000) (.int .i64 1) ∧ Below w.heap.size w wf ∧ (wb.cell? ⟨w.heap.size, 0, none⟩ = some (.string nm) ∧ wr.cell? ⟨w.heap.size, 0, none⟩ = some (.string nm)) ∧ (w.heap.size ≤ wb.heap.size ∧ w.heap.size ≠ wr.heap.size ∧ wb.heap.size ≠ wr.heap.size) := by
  obtain ⟨k0, k1, -, -⟩ := two_new w (.string nm) v 63
  have s1 : wb.heap.size = w.heap.size + 1 := by rw [← hwb]; simp
  have s2 : wr.heap.size = wb.heap.size + 1 := by rw [← hwr]; simp
  have b1 := alloc_below w (.cells #[.string nm, v] 63)
  have b2 := alloc_below wb (.cells #[.string ⟨#[]⟩, .string ⟨#[]⟩, .int .i64 0, .int .i64 0] 74)
  have b3 := alloc_below wr (.cells #[.string nm, .string pat, .int .i64 500000, .int .i64 1] 74)
  have d1 : DVar (wb.alloc (.cells #[.string ⟨#[]⟩, .string ⟨#[]⟩, .int .i64 0, .int .i64 0] 74)) wb.heap.size 4 := DVar.alloc _ _
  have d2 : DVar (wr.alloc (.cells #[.string nm, .string pat, .int .i64 500000, .int .i64 1] 74)) wr.heap.size 4 := DVar.alloc _ _
  have hh := heap_alloc_new wr (.cells #[.string nm, .string pat, .int .i64 500000, .int .i64 1] 74)
  rw [hwb] at k0 k1 b1
  rw [hwr] at b2 d1
  rw [hwf] at b3 d2 hh
  refine ⟨⟨cellb (bnext b2 b3) k0, cellb (bnext b2 b3) k1, d1.below b3, d2, fun j u hu => ?_⟩, bnext b1 (bnext b2 b3), ⟨k0, cellb b2 k0⟩, by omega, by omega, by omega⟩
  match j, hu with
  | 0, hu => exact (cell_of_row _ _ 0 _ _ (0, 0) hh).trans hu
  | 1, hu => exact (cell_of_row _ _ 1 _ _ (0, 0) hh).trans hu
  | 2, hu => exact (cell_of_row _ _ 2 _ _ (0, 0) hh).trans hu
  | 3, hu => exact (cell_of_row _ _ 3 _ _ (0, 0) hh).trans hu
  | j + 4, hu => simp at hu

set_option maxRecDepth 100000 in
set_option maxHeartbeats 4000000 in
theorem fold_n_n (nm pat : ByteArray) (w : World) (A : Option Addr) (n c : Nat) (I : FdIn w nm A n c none none) : Calls Tryz.prog 33 #[.agg #[.string nm, .slice A n c], .string pat] w (FdAns w nm pat (xffV none) (aggV none)) := by
  rw [show xffV none = ((500000 : Int), (0 : Int)) from rfl]
  rw [show aggV none = ((1 : Int), (0 : Int)) from rfl]
  have GX := Lib.hid I.gx; have GA := Lib.hid I.ga
  simp only [Option.getD_none, Option.isSome_none, str] at GX
  simp only [Option.getD_none, Option.isSome_none, str] at GA
  obtain ⟨wb, hwb⟩ : ∃ wb, w.alloc (.cells #[.string nm, .slice A n c] 63) = wb := ⟨_, rfl⟩
  obtain ⟨wr, hwr⟩ : ∃ wr, wb.alloc (.cells #[.string ⟨#[]⟩, .string ⟨#[]⟩, .int .i64 0, .int .i64 0] 74) = wr := ⟨_, rfl⟩
  obtain ⟨wf, hwf⟩ : ∃ wf, wr.alloc (.cells #[.string nm, .string pat, .int .i64 500000, .int .i64 1] 74) = wf := ⟨_, rfl⟩
  obtain ⟨st, hb, ⟨j0, j1⟩, hle, hne, hrf⟩ := fd_start w wb wr wf nm pat (.slice A n c) hwb hwr hwf
  have ST := Lib.hid st; have HB := Lib.hid hb; have HLE := Lib.hid hle; have HNE := Lib.hid hne; have HRF := Lib.hid hrf
  clear st hb hle hne hrf I
  obtain ⟨⟨c0, c1, c2, c3⟩, ⟨f0, f1, f2, f3⟩, ⟨x0, x1, x2, x3, p0, p1, p2, p3⟩, z0, z1, z2, z3⟩ := ST.out.facts; have k0 := ST.out.b0; have k1 := ST.out.b1
  go_enter Tryz.func33, Tryz.ntmps33
  go_wp2_with fail
  (try rw [hwb]); (try rw [hwr]); (try rw [hwf])
  refine (GX.out wf HB.out).mono ?_; rintro _ w3 ⟨rfl, hb3⟩
  clear hwb hwr hwf j0 j1
  clear c0 c1 c2 c3 f0 f1 f2 f3 p0 p1 p2 p3 z0 z1 z2 z3 k0 k1
  have ST := Lib.hid (ST.out.below hb3); have HB := Lib.hid (bnext HB.out hb3)
  clear hb3 GX
  obtain ⟨⟨c0, c1, c2, c3⟩, ⟨f0, f1, f2, f3⟩, ⟨x0, x1, x2, x3, p0, p1, p2, p3⟩, z0, z1, z2, z3⟩ := ST.out.facts; have k0 := ST.out.b0; have k1 := ST.out.b1
  go_wp2_with fail
  refine (GA.out w3 HB.out).mono ?_; rintro _ w6 ⟨rfl, hb6⟩
  clear c0 c1 c2 c3 f0 f1 f2 f3 p0 p1 p2 p3 z0 z1 z2 z3 k0 k1
  have ST := Lib.hid (ST.out.below hb6); have HB := Lib.hid (bnext HB.out hb6)
  clear hb6 GA
  obtain ⟨⟨c0, c1, c2, c3⟩, ⟨f0, f1, f2, f3⟩, ⟨x0, x1, x2, x3, p0, p1, p2, p3⟩, z0, z1, z2, z3⟩ := ST.out.facts; have k0 := ST.out.b0; have k1 := ST.out.b1
  go_wp2
  obtain ⟨q0, q1, q2, q3⟩ := put4_read (W := w6) ST.out.vr (.string nm) (.string pat) (.int .i64 500000) (.int .i64 1)
  exact bodyPost_ret (v := .tuple #[.agg #[.string nm, .string pat, .int .i64 500000, .int .i64 1], .int .i64 0]) (by simp [results, Tryz.results33, go_sem, q0, q1, q2, q3]) rfl (fold_end HLE.out HB.out _ _ _ _ _ (rfl) (fun _ => ⟨rfl, rfl, rfl, rfl⟩))
set_option maxRecDepth 100000 in
set_option maxHeartbeats 4000000 in
theorem fold_n_0 (nm pat : ByteArray) (w : World) (A : Option Addr) (n c : Nat) (ta : List Nat) (ba : Byt ta ∧ ta.length ≤ 5000) (m : Int) (hm : mNum ta = (m, false)) (I : FdIn w nm A n c none (some ta)) : Calls Tryz.prog 33 #[.agg #[.string nm, .slice A n c], .string pat] w (FdAns w nm pat (xffV none) (aggV (some ta))) := by
  rw [show xffV none = ((500000 : Int), (0 : Int)) from rfl]
  rw [agg_no hm]
  have GX := Lib.hid I.gx; have GA := Lib.hid I.ga
  simp only [Option.getD_none, Option.isSome_none, str] at GX
  have PM := I.me ta ba
  rw [hm] at PM
  have DM := Lib.hid PM
  obtain ⟨TA, hTA⟩ : ∃ T, str ta = T := ⟨_, rfl⟩
  simp only [Option.getD_some, Option.isSome_some] at GA
  rw [hTA] at GA DM
  obtain ⟨wb, hwb⟩ : ∃ wb, w.alloc (.cells #[.string nm, .slice A n c] 63) = wb := ⟨_, rfl⟩
  obtain ⟨wr, hwr⟩ : ∃ wr, wb.alloc (.cells #[.string ⟨#[]⟩, .string ⟨#[]⟩, .int .i64 0, .int .i64 0] 74) = wr := ⟨_, rfl⟩
  obtain ⟨wf, hwf⟩ : ∃ wf, wr.alloc (.cells #[.string nm, .string pat, .int .i64 500000, .int .i64 1] 74) = wf := ⟨_, rfl⟩
  obtain ⟨st, hb, ⟨j0, j1⟩, hle, hne, hrf⟩ := fd_start w wb wr wf nm pat (.slice A n c) hwb hwr hwf
  have ST := Lib.hid st; have HB := Lib.hid hb; have HLE := Lib.hid hle; have HNE := Lib.hid hne; have HRF := Lib.hid hrf
  clear st hb hle hne hrf I PM hm hTA ba
  obtain ⟨⟨c0, c1, c2, c3⟩, ⟨f0, f1, f2, f3⟩, ⟨x0, x1, x2, x3, p0, p1, p2, p3⟩, z0, z1, z2, z3⟩ := ST.out.facts; have k0 := ST.out.b0; have k1 := ST.out.b1
  go_enter Tryz.func33, Tryz.ntmps33
  go_wp2_with fail
  (try rw [hwb]); (try rw [hwr]); (try rw [hwf])
  refine (GX.out wf HB.out).mono ?_; rintro _ w3 ⟨rfl, hb3⟩
  clear hwb hwr hwf j0 j1
  clear c0 c1 c2 c3 f0 f1 f2 f3 p0 p1 p2 p3 z0 z1 z2 z3 k0 k1
  have ST := Lib.hid (ST.out.below hb3); have HB := Lib.hid (bnext HB.out hb3)
  clear hb3 GX
  obtain ⟨⟨c0, c1, c2, c3⟩, ⟨f0, f1, f2, f3⟩, ⟨x0, x1, x2, x3, p0, p1, p2, p3⟩, z0, z1, z2, z3⟩ := ST.out.facts; have k0 := ST.out.b0; have k1 := ST.out.b1
  go_wp2_with fail
  refine (GA.out w3 HB.out).mono ?_; rintro _ w6 ⟨rfl, hb6⟩
  clear c0 c1 c2 c3 f0 f1 f2 f3 p0 p1 p2 p3 z0 z1 z2 z3 k0 k1
  have ST := Lib.hid (ST.out.below hb6); have HB := Lib.hid (bnext HB.out hb6)
  clear hb6 GA
  obtain ⟨⟨c0, c1, c2, c3⟩, ⟨f0, f1, f2, f3⟩, ⟨x0, x1, x2, x3, p0, p1, p2, p3⟩, z0, z1, z2, z3⟩ := ST.out.facts; have k0 := ST.out.b0; have k1 := ST.out.b1
  go_wp2_with fail
  refine (DM.out w6 HB.out).mono ?_; rintro _ w7 ⟨rfl, hb7⟩
  clear c0 c1 c2 c3 f0 f1 f2 f3 p0 p1 p2 p3 z0 z1 z2 z3 k0 k1
  have ST := Lib.hid (ST.out.below hb7); have HB := Lib.hid (bnext HB.out hb7)
  clear hb7 DM
  obtain ⟨⟨c0, c1, c2, c3⟩, ⟨f0, f1, f2, f3⟩, ⟨x0, x1, x2, x3, p0, p1, p2, p3⟩, z0, z1, z2, z3⟩ := ST.out.facts; have k0 := ST.out.b0; have k1 := ST.out.b1
  go_wp2
  obtain ⟨q0, q1, q2, q3⟩ := put4_read (W := w7) ST.out.vr (.string ⟨#[]⟩) (.string ⟨#[]⟩) (.int .i64 0) (.int .i64 0)
  exact bodyPost_ret (v := .tuple #[.agg #[.string ⟨#[]⟩, .string ⟨#[]⟩, .int .i64 0, .int .i64 0], .int .i64 7]) (by simp [results, Tryz.results33, go_sem, q0, q1, q2, q3]) rfl (fold_end HLE.out HB.out _ _ _ _ _ (rfl) (fun e => absurd e (by decide)))
set_option maxRecDepth 100000 in
set_option maxHeartbeats 4000000 in
theorem fold_n_1 (nm pat : ByteArray) (w : World) (A : Option Addr) (n c : Nat) (ta : List Nat) (ba : Byt ta ∧ ta.length ≤ 5000) (m : Int) (hm : mNum ta = (m, true)) (I : FdIn w nm A n c none (some ta)) : Calls Tryz.prog 33 #[.agg #[.string nm, .slice A n c], .string pat] w (FdAns w nm pat (xffV none) (aggV (some ta))) := by
  rw [show xffV none = ((500000 : Int), (0 : Int)) from rfl]
  rw [agg_yes hm]
  have GX := Lib.hid I.gx; have GA := Lib.hid I.ga
  simp only [Option.getD_none, Option.isSome_none, str] at GX
  have PM := I.me ta ba
  rw [hm] at PM
  have DM := Lib.hid PM
  obtain ⟨TA, hTA⟩ : ∃ T, str ta = T := ⟨_, rfl⟩
  simp only [Option.getD_some, Option.isSome_some] at GA
  rw [hTA] at GA DM
  obtain ⟨wb, hwb⟩ : ∃ wb, w.alloc (.cells #[.string nm, .slice A n c] 63) = wb := ⟨_, rfl⟩
  obtain ⟨wr, hwr⟩ : ∃ wr, wb.alloc (.cells #[.string ⟨#[]⟩, .string ⟨#[]⟩, .int .i64 0, .int .i64 0] 74) = wr := ⟨_, rfl⟩
  obtain ⟨wf, hwf⟩ : ∃ wf, wr.alloc (.cells #[.string nm, .string pat, .int .i64 500000, .int .i64 1] 74) = wf := ⟨_, rfl⟩
  obtain ⟨st, hb, ⟨j0, j1⟩, hle, hne, hrf⟩ := fd_start w wb wr wf nm pat (.slice A n c) hwb hwr hwf
  have ST := Lib.hid st; have HB := Lib.hid hb; have HLE := Lib.hid hle; have HNE := Lib.hid hne; have HRF := Lib.hid hrf
  have WRLE := Lib.hid (show w.heap.size ≤ wr.heap.size from by have e : wr.heap.size = wb.heap.size + 1 := (by rw [← hwr]; simp); omega)
  clear st hb hle hne hrf I PM hm hTA ba
  obtain ⟨⟨c0, c1, c2, c3⟩, ⟨f0, f1, f2, f3⟩, ⟨x0, x1, x2, x3, p0, p1, p2, p3⟩, z0, z1, z2, z3⟩ := ST.out.facts; have k0 := ST.out.b0; have k1 := ST.out.b1
  go_enter Tryz.func33, Tryz.ntmps33
  go_wp2_with fail
  (try rw [hwb]); (try rw [hwr]); (try rw [hwf])
  refine (GX.out wf HB.out).mono ?_; rintro _ w3 ⟨rfl, hb3⟩
  clear hwb hwr hwf j0 j1
  clear c0 c1 c2 c3 f0 f1 f2 f3 p0 p1 p2 p3 z0 z1 z2 z3 k0 k1
  have ST := Lib.hid (ST.out.below hb3); have HB := Lib.hid (bnext HB.out hb3)
  clear hb3 GX
  obtain ⟨⟨c0, c1, c2, c3⟩, ⟨f0, f1, f2, f3⟩, ⟨x0, x1, x2, x3, p0, p1, p2, p3⟩, z0, z1, z2, z3⟩ := ST.out.facts; have k0 := ST.out.b0; have k1 := ST.out.b1
  go_wp2_with fail
  refine (GA.out w3 HB.out).mono ?_; rintro _ w6 ⟨rfl, hb6⟩
  clear c0 c1 c2 c3 f0 f1 f2 f3 p0 p1 p2 p3 z0 z1 z2 z3 k0 k1
  have ST := Lib.hid (ST.out.below hb6); have HB := Lib.hid (bnext HB.out hb6)
  clear hb6 GA
  obtain ⟨⟨c0, c1, c2, c3⟩, ⟨f0, f1, f2, f3⟩, ⟨x0, x1, x2, x3, p0, p1, p2, p3⟩, z0, z1, z2, z3⟩ := ST.out.facts; have k0 := ST.out.b0; have k1 := ST.out.b1
  go_wp2_with fail
  refine (DM.out w6 HB.out).mono ?_; rintro _ w7 ⟨rfl, hb7⟩
  clear c0 c1 c2 c3 f0 f1 f2 f3 p0 p1 p2 p3 z0 z1 z2 z3 k0 k1
  have ST := Lib.hid (ST.out.below hb7); have HB := Lib.hid (bnext HB.out hb7)
  clear hb7 DM
  obtain ⟨⟨c0, c1, c2, c3⟩, ⟨f0, f1, f2, f3⟩, ⟨x0, x1, x2, x3, p0, p1, p2, p3⟩, z0, z1, z2, z3⟩ := ST.out.facts; have k0 := ST.out.b0; have k1 := ST.out.b1
  have ne1 : wb.heap.size ≠ wr.heap.size := HRF.out
  have ST2 := Lib.hid (ST.out.put3 HNE.out (.int .i64 m))
  have HB2 := Lib.hid (HB.out.setCell (p := ⟨wr.heap.size, 3, none⟩) WRLE.out (.int .i64 m))
  go_wp2
  obtain ⟨q0, q1, q2, q3⟩ := put4_read (W := (w7.setCell ⟨wr.heap.size, 3, none⟩ (.int .i64 m))) ST2.out.vr (.string nm) (.string pat) (.int .i64 500000) (.int .i64 m)
  exact bodyPost_ret (v := .tuple #[.agg #[.string nm, .string pat, .int .i64 500000, .int .i64 m], .int .i64 0]) (by simp [results, Tryz.results33, go_sem, q0, q1, q2, q3]) rfl (fold_end HLE.out HB2.out _ _ _ _ _ (rfl) (fun _ => ⟨rfl, rfl, rfl, rfl⟩))
set_option maxRecDepth 100000 in
set_option maxHeartbeats 4000000 in
theorem fold_e_q (nm pat : ByteArray) (w : World) (A : Option Addr) (n c : Nat) (tx : List Nat) (bx : Byt tx ∧ tx.length ≤ 5000) (V E : Int) (hV : refP tx = (V, E)) (h0 : E ≠ 0) (oa : Option (List Nat)) (I : FdIn w nm A n c (some tx) oa) : Calls Tryz.prog 33 #[.agg #[.string nm, .slice A n c], .string pat] w (FdAns w nm pat (xffV (some tx)) (aggV oa)) := by
  rw [xff_err hV h0]
  have GX := Lib.hid I.gx; have GA := Lib.hid I.ga
  have PX := I.px tx bx
  rw [hV] at PX
  have DX := Lib.hid PX
  obtain ⟨TX, hTX⟩ : ∃ T, str tx = T := ⟨_, rfl⟩
  simp only [Option.getD_some, Option.isSome_some] at GX
  rw [hTX] at GX DX
  obtain ⟨wb, hwb⟩ : ∃ wb, w.alloc (.cells #[.string nm, .slice A n c] 63) = wb := ⟨_, rfl⟩
  obtain ⟨wr, hwr⟩ : ∃ wr, wb.alloc (.cells #[.string ⟨#[]⟩, .string ⟨#[]⟩, .int .i64 0, .int .i64 0] 74) = wr := ⟨_, rfl⟩
  obtain ⟨wf, hwf⟩ : ∃ wf, wr.alloc (.cells #[.string nm, .string pat, .int .i64 500000, .int .i64 1] 74) = wf := ⟨_, rfl⟩
  obtain ⟨st, hb, ⟨j0, j1⟩, hle, hne, hrf⟩ := fd_start w wb wr wf nm pat (.slice A n c) hwb hwr hwf
  have ST := Lib.hid st; have HB := Lib.hid hb; have HLE := Lib.hid hle; have HNE := Lib.hid hne; have HRF := Lib.hid hrf
  have h1 : (E != 0) = true := by simpa using h0
  have H0 := Lib.hid h0
  clear st hb hle hne hrf I PX hV hTX bx h0
  obtain ⟨⟨c0, c1, c2, c3⟩, ⟨f0, f1, f2, f3⟩, ⟨x0, x1, x2, x3, p0, p1, p2, p3⟩, z0, z1, z2, z3⟩ := ST.out.facts; have k0 := ST.out.b0; have k1 := ST.out.b1
  go_enter Tryz.func33, Tryz.ntmps33
  go_wp2_with fail
  (try rw [hwb]); (try rw [hwr]); (try rw [hwf])
  refine (GX.out wf HB.out).mono ?_; rintro _ w3 ⟨rfl, hb3⟩
  clear hwb hwr hwf j0 j1
  clear c0 c1 c2 c3 f0 f1 f2 f3 p0 p1 p2 p3 z0 z1 z2 z3 k0 k1
  have ST := Lib.hid (ST.out.below hb3); have HB := Lib.hid (bnext HB.out hb3)
  clear hb3 GX
  obtain ⟨⟨c0, c1, c2, c3⟩, ⟨f0, f1, f2, f3⟩, ⟨x0, x1, x2, x3, p0, p1, p2, p3⟩, z0, z1, z2, z3⟩ := ST.out.facts; have k0 := ST.out.b0; have k1 := ST.out.b1
  go_wp2_with fail
  refine (DX.out w3 HB.out).mono ?_; rintro _ w4 ⟨rfl, hb4⟩
  clear c0 c1 c2 c3 f0 f1 f2 f3 p0 p1 p2 p3 z0 z1 z2 z3 k0 k1
  have hb5 := bnext hb4 (alloc_below w4 (.cells #[.bool false, .int .i64 V] 77))
  have ST := Lib.hid (ST.out.below hb5); have HB := Lib.hid (bnext HB.out hb5)
  clear hb4 hb5 DX
  obtain ⟨⟨c0, c1, c2, c3⟩, ⟨f0, f1, f2, f3⟩, ⟨x0, x1, x2, x3, p0, p1, p2, p3⟩, z0, z1, z2, z3⟩ := ST.out.facts; have k0 := ST.out.b0; have k1 := ST.out.b1
  go_wp2
  obtain ⟨q0, q1, q2, q3⟩ := put4_read (W := (w4.alloc (.cells #[.bool false, .int .i64 V] 77))) ST.out.vr (.string ⟨#[]⟩) (.string ⟨#[]⟩) (.int .i64 0) (.int .i64 0)
  exact bodyPost_ret (v := .tuple #[.agg #[.string ⟨#[]⟩, .string ⟨#[]⟩, .int .i64 0, .int .i64 0], .int .i64 E]) (by simp [results, Tryz.results33, go_sem, q0, q1, q2, q3]) rfl (fold_end HLE.out HB.out _ _ _ _ _ (by rw [if_pos H0.out]) (fun e => absurd e H0.out))
set_option maxRecDepth 100000 in
set_option maxHeartbeats 4000000 in
theorem fold_f_q (nm pat : ByteArray) (w : World) (A : Option Addr) (n c : Nat) (tx : List Nat) (bx : Byt tx ∧ tx.length ≤ 5000) (V : Int) (hV : refP tx = (V, 0)) (hf : ¬ (0 ≤ V ∧ V ≤ 1000000)) (oa : Option (List Nat)) (I : FdIn w nm A n c (some tx) oa) : Calls Tryz.prog 33 #[.agg #[.string nm, .slice A n c], .string pat] w (FdAns w nm pat (xffV (some tx)) (aggV oa)) := by
  rw [xff_far hV hf]
  have GX := Lib.hid I.gx; have GA := Lib.hid I.ga
  have PX := I.px tx bx
  rw [hV] at PX
  have DX := Lib.hid PX
  obtain ⟨TX, hTX⟩ : ∃ T, str tx = T := ⟨_, rfl⟩
  simp only [Option.getD_some, Option.isSome_some] at GX
  rw [hTX] at GX DX
  obtain ⟨wb, hwb⟩ : ∃ wb, w.alloc (.cells #[.string nm, .slice A n c] 63) = wb := ⟨_, rfl⟩
  obtain ⟨wr, hwr⟩ : ∃ wr, wb.alloc (.cells #[.string ⟨#[]⟩, .string ⟨#[]⟩, .int .i64 0, .int .i64 0] 74) = wr := ⟨_, rfl⟩
  obtain ⟨wf, hwf⟩ : ∃ wf, wr.alloc (.cells #[.string nm, .string pat, .int .i64 500000, .int .i64 1] 74) = wf := ⟨_, rfl⟩
  obtain ⟨st, hb, ⟨j0, j1⟩, hle, hne, hrf⟩ := fd_start w wb wr wf nm pat (.slice A n c) hwb hwr hwf
  have ST := Lib.hid st; have HB := Lib.hid hb; have HLE := Lib.hid hle; have HNE := Lib.hid hne; have HRF := Lib.hid hrf
  have IF := Lib.hid (fun W => isFactor_p V W)
  rw [decide_eq_false hf] at IF
  clear st hb hle hne hrf I PX hV hTX bx hf
  obtain ⟨⟨c0, c1, c2, c3⟩, ⟨f0, f1, f2, f3⟩, ⟨x0, x1, x2, x3, p0, p1, p2, p3⟩, z0, z1, z2, z3⟩ := ST.out.facts; have k0 := ST.out.b0; have k1 := ST.out.b1
  go_enter Tryz.func33, Tryz.ntmps33
  go_wp2_with fail
  (try rw [hwb]); (try rw [hwr]); (try rw [hwf])
  refine (GX.out wf HB.out).mono ?_; rintro _ w3 ⟨rfl, hb3⟩
  clear hwb hwr hwf j0 j1
  clear c0 c1 c2 c3 f0 f1 f2 f3 p0 p1 p2 p3 z0 z1 z2 z3 k0 k1
  have ST := Lib.hid (ST.out.below hb3); have HB := Lib.hid (bnext HB.out hb3)
  clear hb3 GX
  obtain ⟨⟨c0, c1, c2, c3⟩, ⟨f0, f1, f2, f3⟩, ⟨x0, x1, x2, x3, p0, p1, p2, p3⟩, z0, z1, z2, z3⟩ := ST.out.facts; have k0 := ST.out.b0; have k1 := ST.out.b1
  go_wp2_with fail
  refine (DX.out w3 HB.out).mono ?_; rintro _ w4 ⟨rfl, hb4⟩
  clear c0 c1 c2 c3 f0 f1 f2 f3 p0 p1 p2 p3 z0 z1 z2 z3 k0 k1
  have hb5 := bnext hb4 (alloc_below w4 (.cells #[.bool false, .int .i64 V] 77))
  have ST := Lib.hid (ST.out.below hb5); have HB := Lib.hid (bnext HB.out hb5)
  clear hb4 hb5 DX
  obtain ⟨⟨c0, c1, c2, c3⟩, ⟨f0, f1, f2, f3⟩, ⟨x0, x1, x2, x3, p0, p1, p2, p3⟩, z0, z1, z2, z3⟩ := ST.out.facts; have k0 := ST.out.b0; have k1 := ST.out.b1
  go_wp2_with fail
  refine (IF.out _).mono ?_; rintro _ w5 ⟨rfl, rfl⟩
  go_wp2
  obtain ⟨q0, q1, q2, q3⟩ := put4_read (W := (w4.alloc (.cells #[.bool false, .int .i64 V] 77))) ST.out.vr (.string ⟨#[]⟩) (.string ⟨#[]⟩) (.int .i64 0) (.int .i64 0)
  exact bodyPost_ret (v := .tuple #[.agg #[.string ⟨#[]⟩, .string ⟨#[]⟩, .int .i64 0, .int .i64 0], .int .i64 3]) (by simp [results, Tryz.results33, go_sem, q0, q1, q2, q3]) rfl (fold_end HLE.out HB.out _ _ _ _ _ (rfl) (fun e => absurd e (by decide)))
set_option maxRecDepth 100000 in
set_option maxHeartbeats 4000000 in
theorem fold_i_n (nm pat : ByteArray) (w : World) (A : Option Addr) (n c : Nat) (tx : List Nat) (bx : Byt tx ∧ tx.length ≤ 5000) (V : Int) (hV : refP tx = (V, 0)) (hf : 0 ≤ V ∧ V ≤ 1000000) (I : FdIn w nm A n c (some tx) none) : Calls Tryz.prog 33 #[.agg #[.string nm, .slice A n c], .string pat] w (FdAns w nm pat (xffV (some tx)) (aggV none)) := by
  rw [xff_in hV hf]
  rw [show aggV none = ((1 : Int), (0 : Int)) from rfl]
  have GX := Lib.hid I.gx; have GA := Lib.hid I.ga
  have PX := I.px tx bx
  rw [hV] at PX
  have DX := Lib.hid PX
  obtain ⟨TX, hTX⟩ : ∃ T, str tx = T := ⟨_, rfl⟩
  simp only [Option.getD_some, Option.isSome_some] at GX
  rw [hTX] at GX DX
  simp only [Option.getD_none, Option.isSome_none, str] at GA
  obtain ⟨wb, hwb⟩ : ∃ wb, w.alloc (.cells #[.string nm, .slice A n c] 63) = wb := ⟨_, rfl⟩
  obtain ⟨wr, hwr⟩ : ∃ wr, wb.alloc (.cells #[.string ⟨#[]⟩, .string ⟨#[]⟩, .int .i64 0, .int .i64 0] 74) = wr := ⟨_, rfl⟩
  obtain ⟨wf, hwf⟩ : ∃ wf, wr.alloc (.cells #[.string nm, .string pat, .int .i64 500000, .int .i64 1] 74) = wf := ⟨_, rfl⟩
  obtain ⟨st, hb, ⟨j0, j1⟩, hle, hne, hrf⟩ := fd_start w wb wr wf nm pat (.slice A n c) hwb hwr hwf
  have ST := Lib.hid st; have HB := Lib.hid hb; have HLE := Lib.hid hle; have HNE := Lib.hid hne; have HRF := Lib.hid hrf
  have WRLE := Lib.hid (show w.heap.size ≤ wr.heap.size from by have e : wr.heap.size = wb.heap.size + 1 := (by rw [← hwr]; simp); omega)
  have IF := Lib.hid (fun W => isFactor_p V W)
  rw [decide_eq_true hf] at IF
  clear st hb hle hne hrf I PX hV hTX bx hf
  obtain ⟨⟨c0, c1, c2, c3⟩, ⟨f0, f1, f2, f3⟩, ⟨x0, x1, x2, x3, p0, p1, p2, p3⟩, z0, z1, z2, z3⟩ := ST.out.facts; have k0 := ST.out.b0; have k1 := ST.out.b1
  go_enter Tryz.func33, Tryz.ntmps33
  go_wp2_with fail
  (try rw [hwb]); (try rw [hwr]); (try rw [hwf])
  refine (GX.out wf HB.out).mono ?_; rintro _ w3 ⟨rfl, hb3⟩
  clear hwb hwr hwf j0 j1
  clear c0 c1 c2 c3 f0 f1 f2 f3 p0 p1 p2 p3 z0 z1 z2 z3 k0 k1
  have ST := Lib.hid (ST.out.below hb3); have HB := Lib.hid (bnext HB.out hb3)
  clear hb3 GX
  obtain ⟨⟨c0, c1, c2, c3⟩, ⟨f0, f1, f2, f3⟩, ⟨x0, x1, x2, x3, p0, p1, p2, p3⟩, z0, z1, z2, z3⟩ := ST.out.facts; have k0 := ST.out.b0; have k1 := ST.out.b1
  go_wp2_with fail
  refine (DX.out w3 HB.out).mono ?_; rintro _ w4 ⟨rfl, hb4⟩
  clear c0 c1 c2 c3 f0 f1 f2 f3 p0 p1 p2 p3 z0 z1 z2 z3 k0 k1
  have hb5 := bnext hb4 (alloc_below w4 (.cells #[.bool false, .int .i64 V] 77))
  have ST := Lib.hid (ST.out.below hb5); have HB := Lib.hid (bnext HB.out hb5)
  clear hb4 hb5 DX
  obtain ⟨⟨c0, c1, c2, c3⟩, ⟨f0, f1, f2, f3⟩, ⟨x0, x1, x2, x3, p0, p1, p2, p3⟩, z0, z1, z2, z3⟩ := ST.out.facts; have k0 := ST.out.b0; have k1 := ST.out.b1
  go_wp2_with fail
  refine (IF.out _).mono ?_; rintro _ w5 ⟨rfl, rfl⟩
  go_wp2_with fail
  have ST2 := Lib.hid (ST.out.put2 HNE.out (.int .i64 V))
  have HB2 := Lib.hid (HB.out.setCell (p := ⟨wr.heap.size, 2, none⟩) WRLE.out (.int .i64 V))
  clear c0 c1 c2 c3 f0 f1 f2 f3 p0 p1 p2 p3 z0 z1 z2 z3 k0 k1
  clear ST HB
  have ST := ST2; have HB := HB2; clear ST2 HB2
  obtain ⟨⟨c0, c1, c2, c3⟩, ⟨f0, f1, f2, f3⟩, ⟨x0, x1, x2, x3, p0, p1, p2, p3⟩, z0, z1, z2, z3⟩ := ST.out.facts; have k0 := ST.out.b0; have k1 := ST.out.b1
  refine (GA.out ((w4.alloc (.cells #[.bool false, .int .i64 V] 77)).setCell ⟨wr.heap.size, 2, none⟩ (.int .i64 V)) HB.out).mono ?_; rintro _ w6 ⟨rfl, hb6⟩
  clear c0 c1 c2 c3 f0 f1 f2 f3 p0 p1 p2 p3 z0 z1 z2 z3 k0 k1
  have ST := Lib.hid (ST.out.below hb6); have HB := Lib.hid (bnext HB.out hb6)
  clear hb6 GA
  obtain ⟨⟨c0, c1, c2, c3⟩, ⟨f0, f1, f2, f3⟩, ⟨x0, x1, x2, x3, p0, p1, p2, p3⟩, z0, z1, z2, z3⟩ := ST.out.facts; have k0 := ST.out.b0; have k1 := ST.out.b1
  go_wp2
  obtain ⟨q0, q1, q2, q3⟩ := put4_read (W := w6) ST.out.vr (.string nm) (.string pat) (.int .i64 V) (.int .i64 1)
  exact bodyPost_ret (v := .tuple #[.agg #[.string nm, .string pat, .int .i64 V, .int .i64 1], .int .i64 0]) (by simp [results, Tryz.results33, go_sem, q0, q1, q2, q3]) rfl (fold_end HLE.out HB.out _ _ _ _ _ (rfl) (fun _ => ⟨rfl, rfl, rfl, rfl⟩))
set_option maxRecDepth 100000 in
set_option maxHeartbeats 4000000 in
theorem fold_i_0 (nm pat : ByteArray) (w : World) (A : Option Addr) (n c : Nat) (tx : List Nat) (bx : Byt tx ∧ tx.length ≤ 5000) (V : Int) (hV : refP tx = (V, 0)) (hf : 0 ≤ V ∧ V ≤ 1000000) (ta : List Nat) (ba : Byt ta ∧ ta.length ≤ 5000) (m : Int) (hm : mNum ta = (m, false)) (I : FdIn w nm A n c (some tx) (some ta)) : Calls Tryz.prog 33 #[.agg #[.string nm, .slice A n c], .string pat] w (FdAns w nm pat (xffV (some tx)) (aggV (some ta))) := by
  rw [xff_in hV hf]
  rw [agg_no hm]
  have GX := Lib.hid I.gx; have GA := Lib.hid I.ga
  have PX := I.px tx bx
  rw [hV] at PX
  have DX := Lib.hid PX
  obtain ⟨TX, hTX⟩ : ∃ T, str tx = T := ⟨_, rfl⟩
  simp only [Option.getD_some, Option.isSome_some] at GX
  rw [hTX] at GX DX
  have PM := I.me ta ba
  rw [hm] at PM
  have DM := Lib.hid PM
  obtain ⟨TA, hTA⟩ : ∃ T, str ta = T := ⟨_, rfl⟩
  simp only [Option.getD_some, Option.isSome_some] at GA
  rw [hTA] at GA DM
  obtain ⟨wb, hwb⟩ : ∃ wb, w.alloc (.cells #[.string nm, .slice A n c] 63) = wb := ⟨_, rfl⟩
  obtain ⟨wr, hwr⟩ : ∃ wr, wb.alloc (.cells #[.string ⟨#[]⟩, .string ⟨#[]⟩, .int .i64 0, .int .i64 0] 74) = wr := ⟨_, rfl⟩
  obtain ⟨wf, hwf⟩ : ∃ wf, wr.alloc (.cells #[.string nm, .string pat, .int .i64 500000, .int .i64 1] 74) = wf := ⟨_, rfl⟩
  obtain ⟨st, hb, ⟨j0, j1⟩, hle, hne, hrf⟩ := fd_start w wb wr wf nm pat (.slice A n c) hwb hwr hwf
  have ST := Lib.hid st; have HB := Lib.hid hb; have HLE := Lib.hid hle; have HNE := Lib.hid hne; have HRF := Lib.hid hrf
  have WRLE := Lib.hid (show w.heap.size ≤ wr.heap.size from by have e : wr.heap.size = wb.heap.size + 1 := (by rw [← hwr]; simp); omega)
  have IF := Lib.hid (fun W => isFactor_p V W)
  rw [decide_eq_true hf] at IF
  clear st hb hle hne hrf I PX hV hTX bx PM hm hTA ba hf
  obtain ⟨⟨c0, c1, c2, c3⟩, ⟨f0, f1, f2, f3⟩, ⟨x0, x1, x2, x3, p0, p1, p2, p3⟩, z0, z1, z2, z3⟩ := ST.out.facts; have k0 := ST.out.b0; have k1 := ST.out.b1
  go_enter Tryz.func33, Tryz.ntmps33
  go_wp2_with fail
  (try rw [hwb]); (try rw [hwr]); (try rw [hwf])
  refine (GX.out wf HB.out).mono ?_; rintro _ w3 ⟨rfl, hb3⟩
  clear hwb hwr hwf j0 j1
  clear c0 c1 c2 c3 f0 f1 f2 f3 p0 p1 p2 p3 z0 z1 z2 z3 k0 k1
  have ST := Lib.hid (ST.out.below hb3); have HB := Lib.hid (bnext HB.out hb3)
  clear hb3 GX
  obtain ⟨⟨c0, c1, c2, c3⟩, ⟨f0, f1, f2, f3⟩, ⟨x0, x1, x2, x3, p0, p1, p2, p3⟩, z0, z1, z2, z3⟩ := ST.out.facts; have k0 := ST.out.b0; have k1 := ST.out.b1
  go_wp2_with fail
  refine (DX.out w3 HB.out).mono ?_; rintro _ w4 ⟨rfl, hb4⟩
  clear c0 c1 c2 c3 f0 f1 f2 f3 p0 p1 p2 p3 z0 z1 z2 z3 k0 k1
  have hb5 := bnext hb4 (alloc_below w4 (.cells #[.bool false, .int .i64 V] 77))
  have ST := Lib.hid (ST.out.below hb5); have HB := Lib.hid (bnext HB.out hb5)
  clear hb4 hb5 DX
  obtain ⟨⟨c0, c1, c2, c3⟩, ⟨f0, f1, f2, f3⟩, ⟨x0, x1, x2, x3, p0, p1, p2, p3⟩, z0, z1, z2, z3⟩ := ST.out.facts; have k0 := ST.out.b0; have k1 := ST.out.b1
  go_wp2_with fail
  refine (IF.out _).mono ?_; rintro _ w5 ⟨rfl, rfl⟩
  go_wp2_with fail
  have ST2 := Lib.hid (ST.out.put2 HNE.out (.int .i64 V))
  have HB2 := Lib.hid (HB.out.setCell (p := ⟨wr.heap.size, 2, none⟩) WRLE.out (.int .i64 V))
  clear c0 c1 c2 c3 f0 f1 f2 f3 p0 p1 p2 p3 z0 z1 z2 z3 k0 k1
  clear ST HB
  have ST := ST2; have HB := HB2; clear ST2 HB2
  obtain ⟨⟨c0, c1, c2, c3⟩, ⟨f0, f1, f2, f3⟩, ⟨x0, x1, x2, x3, p0, p1, p2, p3⟩, z0, z1, z2, z3⟩ := ST.out.facts; have k0 := ST.out.b0; have k1 := ST.out.b1
  refine (GA.out ((w4.alloc (.cells #[.bool false, .int .i64 V] 77)).setCell ⟨wr.heap.size, 2, none⟩ (.int .i64 V)) HB.out).mono ?_; rintro _ w6 ⟨rfl, hb6⟩
  clear c0 c1 c2 c3 f0 f1 f2 f3 p0 p1 p2 p3 z0 z1 z2 z3 k0 k1
  have ST := Lib.hid (ST.out.below hb6); have HB := Lib.hid (bnext HB.out hb6)
  clear hb6 GA
  obtain ⟨⟨c0, c1, c2, c3⟩, ⟨f0, f1, f2, f3⟩, ⟨x0, x1, x2, x3, p0, p1, p2, p3⟩, z0, z1, z2, z3⟩ := ST.out.facts; have k0 := ST.out.b0; have k1 := ST.out.b1
  go_wp2_with fail
  refine (DM.out w6 HB.out).mono ?_; rintro _ w7 ⟨rfl, hb7⟩
  clear c0 c1 c2 c3 f0 f1 f2 f3 p0 p1 p2 p3 z0 z1 z2 z3 k0 k1
  have ST := Lib.hid (ST.out.below hb7); have HB := Lib.hid (bnext HB.out hb7)
  clear hb7 DM
  obtain ⟨⟨c0, c1, c2, c3⟩, ⟨f0, f1, f2, f3⟩, ⟨x0, x1, x2, x3, p0, p1, p2, p3⟩, z0, z1, z2, z3⟩ := ST.out.facts; have k0 := ST.out.b0; have k1 := ST.out.b1
  go_wp2
  obtain ⟨q0, q1, q2, q3⟩ := put4_read (W := w7) ST.out.vr (.string ⟨#[]⟩) (.string ⟨#[]⟩) (.int .i64 0) (.int .i64 0)
  exact bodyPost_ret (v := .tuple #[.agg #[.string ⟨#[]⟩, .string ⟨#[]⟩, .int .i64 0, .int .i64 0], .int .i64 7]) (by simp [results, Tryz.results33, go_sem, q0, q1, q2, q3]) rfl (fold_end HLE.out HB.out _ _ _ _ _ (rfl) (fun e => absurd e (by decide)))
set_option maxRecDepth 100000 in
set_option maxHeartbeats 4000000 in
theorem fold_i_1 (nm pat : ByteArray) (w : World) (A : Option Addr) (n c : Nat) (tx : List Nat) (bx : Byt tx ∧ tx.length ≤ 5000) (V : Int) (hV : refP tx = (V, 0)) (hf : 0 ≤ V ∧ V ≤ 1000000) (ta : List Nat) (ba : Byt ta ∧ ta.length ≤ 5000) (m : Int) (hm : mNum ta = (m, true)) (I : FdIn w nm A n c (some tx) (some ta)) : Calls Tryz.prog 33 #[.agg #[.string nm, .slice A n c], .string pat] w (FdAns w nm pat (xffV (some tx)) (aggV (some ta))) := by
  rw [xff_in hV hf]
  rw [agg_yes hm]
  have GX := Lib.hid I.gx; have GA := Lib.hid I.ga
  have PX := I.px tx bx
  rw [hV] at PX
  have DX := Lib.hid PX
  obtain ⟨TX, hTX⟩ : ∃ T, str tx = T := ⟨_, rfl⟩
  simp only [Option.getD_some, Option.isSome_some] at GX
  rw [hTX] at GX DX
  have PM := I.me ta ba
  rw [hm] at PM
  have DM := Lib.hid PM
  obtain ⟨TA, hTA⟩ : ∃ T, str ta = T := ⟨_, rfl⟩
  simp only [Option.getD_some, Option.isSome_some] at GA
  rw [hTA] at GA DM
  obtain ⟨wb, hwb⟩ : ∃ wb, w.alloc (.cells #[.string nm, .slice A n c] 63) = wb := ⟨_, rfl⟩
  obtain ⟨wr, hwr⟩ : ∃ wr, wb.alloc (.cells #[.string ⟨#[]⟩, .string ⟨#[]⟩, .int .i64 0, .int .i64 0] 74) = wr := ⟨_, rfl⟩
  obtain ⟨wf, hwf⟩ : ∃ wf, wr.alloc (.cells #[.string nm, .string pat, .int .i64 500000, .int .i64 1] 74) = wf := ⟨_, rfl⟩
  obtain ⟨st, hb, ⟨j0, j1⟩, hle, hne, hrf⟩ := fd_start w wb wr wf nm pat (.slice A n c) hwb hwr hwf
  have ST := Lib.hid st; have HB := Lib.hid hb; have HLE := Lib.hid hle; have HNE := Lib.hid hne; have HRF := Lib.hid hrf
  have WRLE := Lib.hid (show w.heap.size ≤ wr.heap.size from by have e : wr.heap.size = wb.heap.size + 1 := (by rw [← hwr]; simp); omega)
  have IF := Lib.hid (fun W => isFactor_p V W)
  rw [decide_eq_true hf] at IF
  clear st hb hle hne hrf I PX hV hTX bx PM hm hTA ba hf
  obtain ⟨⟨c0, c1, c2, c3⟩, ⟨f0, f1, f2, f3⟩, ⟨x0, x1, x2, x3, p0, p1, p2, p3⟩, z0, z1, z2, z3⟩ := ST.out.facts; have k0 := ST.out.b0; have k1 := ST.out.b1
  go_enter Tryz.func33, Tryz.ntmps33
  go_wp2_with fail
  (try rw [hwb]); (try rw [hwr]); (try rw [hwf])
  refine (GX.out wf HB.out).mono ?_; rintro _ w3 ⟨rfl, hb3⟩
  clear hwb hwr hwf j0 j1
  clear c0 c1 c2 c3 f0 f1 f2 f3 p0 p1 p2 p3 z0 z1 z2 z3 k0 k1
  have ST := Lib.hid (ST.out.below hb3); have HB := Lib.hid (bnext HB.out hb3)
  clear hb3 GX
  obtain ⟨⟨c0, c1, c2, c3⟩, ⟨f0, f1, f2, f3⟩, ⟨x0, x1, x2, x3, p0, p1, p2, p3⟩, z0, z1, z2, z3⟩ := ST.out.facts; have k0 := ST.out.b0; have k1 := ST.out.b1
  go_wp2_with fail
  refine (DX.out w3 HB.out).mono ?_; rintro _ w4 ⟨rfl, hb4⟩
  clear c0 c1 c2 c3 f0 f1 f2 f3 p0 p1 p2 p3 z0 z1 z2 z3 k0 k1
  have hb5 := bnext hb4 (alloc_below w4 (.cells #[.bool false, .int .i64 V] 77))
  have ST := Lib.hid (ST.out.below hb5); have HB := Lib.hid (bnext HB.out hb5)
  clear hb4 hb5 DX
  obtain ⟨⟨c0, c1, c2, c3⟩, ⟨f0, f1, f2, f3⟩, ⟨x0, x1, x2, x3, p0, p1, p2, p3⟩, z0, z1, z2, z3⟩ := ST.out.facts; have k0 := ST.out.b0; have k1 := ST.out.b1
  go_wp2_with fail
  refine (IF.out _).mono ?_; rintro _ w5 ⟨rfl, rfl⟩
  go_wp2_with fail
  have ST2 := Lib.hid (ST.out.put2 HNE.out (.int .i64 V))
  have HB2 := Lib.hid (HB.out.setCell (p := ⟨wr.heap.size, 2, none⟩) WRLE.out (.int .i64 V))
  clear c0 c1 c2 c3 f0 f1 f2 f3 p0 p1 p2 p3 z0 z1 z2 z3 k0 k1
  clear ST HB
  have ST := ST2; have HB := HB2; clear ST2 HB2
  obtain ⟨⟨c0, c1, c2, c3⟩, ⟨f0, f1, f2, f3⟩, ⟨x0, x1, x2, x3, p0, p1, p2, p3⟩, z0, z1, z2, z3⟩ := ST.out.facts; have k0 := ST.out.b0; have k1 := ST.out.b1
  refine (GA.out ((w4.alloc (.cells #[.bool false, .int .i64 V] 77)).setCell ⟨wr.heap.size, 2, none⟩ (.int .i64 V)) HB.out).mono ?_; rintro _ w6 ⟨rfl, hb6⟩
  clear c0 c1 c2 c3 f0 f1 f2 f3 p0 p1 p2 p3 z0 z1 z2 z3 k0 k1
  have ST := Lib.hid (ST.out.below hb6); have HB := Lib.hid (bnext HB.out hb6)
  clear hb6 GA
  obtain ⟨⟨c0, c1, c2, c3⟩, ⟨f0, f1, f2, f3⟩, ⟨x0, x1, x2, x3, p0, p1, p2, p3⟩, z0, z1, z2, z3⟩ := ST.out.facts; have k0 := ST.out.b0; have k1 := ST.out.b1
  go_wp2_with fail
  refine (DM.out w6 HB.out).mono ?_; rintro _ w7 ⟨rfl, hb7⟩
  clear c0 c1 c2 c3 f0 f1 f2 f3 p0 p1 p2 p3 z0 z1 z2 z3 k0 k1
  have ST := Lib.hid (ST.out.below hb7); have HB := Lib.hid (bnext HB.out hb7)
  clear hb7 DM
  obtain ⟨⟨c0, c1, c2, c3⟩, ⟨f0, f1, f2, f3⟩, ⟨x0, x1, x2, x3, p0, p1, p2, p3⟩, z0, z1, z2, z3⟩ := ST.out.facts; have k0 := ST.out.b0; have k1 := ST.out.b1
  have ne1 : wb.heap.size ≠ wr.heap.size := HRF.out
  have ST2 := Lib.hid (ST.out.put3 HNE.out (.int .i64 m))
  have HB2 := Lib.hid (HB.out.setCell (p := ⟨wr.heap.size, 3, none⟩) WRLE.out (.int .i64 m))
  go_wp2
  obtain ⟨q0, q1, q2, q3⟩ := put4_read (W := (w7.setCell ⟨wr.heap.size, 3, none⟩ (.int .i64 m))) ST2.out.vr (.string nm) (.string pat) (.int .i64 V) (.int .i64 m)
  exact bodyPost_ret (v := .tuple #[.agg #[.string nm, .string pat, .int .i64 V, .int .i64 m], .int .i64 0]) (by simp [results, Tryz.results33, go_sem, q0, q1, q2, q3]) rfl (fold_end HLE.out HB2.out _ _ _ _ _ (rfl) (fun _ => ⟨rfl, rfl, rfl, rfl⟩))
theorem fold_p (nm pat : ByteArray) (v : Value) (L : List KV) (hl : L.length ≤ 100000) (hL : ∀ x ∈ L, Byt x.1 ∧ Byt x.2 ∧ x.2.length ≤ 5000) (w : World) (g : De.G w) (t : Mt w) (f : KvOut w v L) :
    Calls Tryz.prog 33 #[.agg #[.string nm, v], .string pat] w (FdAns w nm pat (xffV (getV L xffB)) (aggV (getV L aggB))) := by
  have GX := (fun (W : World) (h : Below w.heap.size w W) => get_p nm v L hl (fun x hx => (hL x hx).1) (str xffB) W (f.below h))
  rw [bs_str (by unfold Byt xffB; decide : Byt xffB)] at GX
  have GA := (fun (W : World) (h : Below w.heap.size w W) => get_p nm v L hl (fun x hx => (hL x hx).1) (str aggB) W (f.below h))
  rw [bs_str (by unfold Byt aggB; decide : Byt aggB)] at GA
  have BV : ∀ (k t : List Nat), getV L k = some t → Byt t ∧ t.length ≤ 5000 := fun k t h => by
    unfold getV at h
    obtain ⟨x, hx, e⟩ := Option.map_eq_some_iff.1 h
    subst e
    exact ⟨(hL x (List.mem_of_find?_eq_some hx)).2.1, (hL x (List.mem_of_find?_eq_some hx)).2.2⟩
  have BX := BV xffB; have BA := BV aggB
  clear BV
  obtain ⟨A, c, rfl, -, -⟩ := f
  generalize L.length = n at *
  generalize getV L xffB = ox at *
  generalize getV L aggB = oa at *
  have I : FdIn w nm A n c ox oa := ⟨GX, GA, g, t⟩
  cases ox with
  | none =>
    cases oa with
    | none => exact fold_n_n nm pat w A n c I
    | some ta =>
      obtain ⟨⟨m, b⟩, hm⟩ : ∃ m, mNum ta = m := ⟨_, rfl⟩
      cases b
      · exact fold_n_0 nm pat w A n c ta (BA ta rfl) m hm I
      · exact fold_n_1 nm pat w A n c ta (BA ta rfl) m hm I
  | some tx =>
    obtain ⟨⟨V, E⟩, hV⟩ : ∃ m, refP tx = m := ⟨_, rfl⟩
    by_cases h0 : E = 0
    · subst h0
      by_cases hf : 0 ≤ V ∧ V ≤ 1000000
      · cases oa with
        | none => exact fold_i_n nm pat w A n c tx (BX tx rfl) V hV hf I
        | some ta =>
          obtain ⟨⟨m, b⟩, hm⟩ : ∃ m, mNum ta = m := ⟨_, rfl⟩
          cases b
          · exact fold_i_0 nm pat w A n c tx (BX tx rfl) V hV hf ta (BA ta rfl) m hm I
          · exact fold_i_1 nm pat w A n c tx (BX tx rfl) V hV hf ta (BA ta rfl) m hm I
      · exact fold_f_q nm pat w A n c tx (BX tx rfl) V hV hf oa I
    · exact fold_e_q nm pat w A n c tx (BX tx rfl) V E hV h0 oa I
theorem folV_no {x : Sec} (h : keysV [patB] [xffB, aggB] x.2 = false) : folV x = (Fol.none, 7) := by
  unfold folV
  refine if_neg fun ⟨h1, h3⟩ => ?_
  have : keysV [patB] [xffB, aggB] x.2 = true := by
    unfold keysV
    rw [Bool.and_eq_true]
    refine ⟨by simp [h1], ?_⟩
    unfold onlyV at h3
    rw [List.all_eq_true] at h3 ⊢
    intro p hp
    have := h3 p hp
    simp only [List.any_cons, List.any_nil, Bool.or_false, Bool.or_eq_true, beq_iff_eq] at this ⊢
    rcases this with e | e | e
    · exact .inl e.symm
    · exact .inr (.inl e.symm)
    · exact .inr (.inr e.symm)
  rw [h] at this; cases this
theorem folV_yes {x : Sec} (h : keysV [patB] [xffB, aggB] x.2 = true) : folV x = if (Nd.ndComp ((getV x.2 patB).getD [])).2 ≠ 0 then (Fol.none, (Nd.ndComp ((getV x.2 patB).getD [])).2)
    else if (xffV (getV x.2 xffB)).2 ≠ 0 then (Fol.none, (xffV (getV x.2 xffB)).2)
    else if (aggV (getV x.2 aggB)).2 ≠ 0 then (Fol.none, (aggV (getV x.2 aggB)).2)
    else ((x.1, (getV x.2 patB).getD [], (xffV (getV x.2 xffB)).1, (aggV (getV x.2 aggB)).1), 0) := by
  unfold folV
  refine if_pos ?_
  unfold keysV at h
  rw [Bool.and_eq_true] at h
  obtain ⟨h1, h2⟩ := h
  simp only [List.all_cons, List.all_nil, Bool.and_true] at h1
  refine ⟨h1, ?_⟩
  unfold onlyV
  rw [List.all_eq_true] at h2 ⊢
  intro p hp
  have := h2 p hp
  simp only [List.any_cons, List.any_nil, Bool.or_false, Bool.or_eq_true, beq_iff_eq] at this ⊢
  rcases this with e | e | e
  · exact .inl e.symm
  · exact .inr (.inl e.symm)
  · exact .inr (.inr e.symm)
/-- The folds so far. -/
def fosV (L : List Sec) : List Fol := L.map fun x => (folV x).1
theorem folds_err {l : List Nat} {k : Nat} {x : Sec} (hc : (confV l).2 = 0) (hk : (confV l).1[k]? = some x) (h : ∀ y ∈ (confV l).1.take k, (folV y).2 = 0) (hx : (folV x).2 ≠ 0) : foldsV l = ([], (folV x).2) := by
  unfold foldsV
  rw [if_neg (fun e => e hc)]
  exact rulV_take folV _ k x hk h hx
theorem folds_ok {l : List Nat} (hc : (confV l).2 = 0) (h : ∀ y ∈ (confV l).1, (folV y).2 = 0) : foldsV l = (fosV (confV l).1, 0) := by
  unfold foldsV
  rw [if_neg (fun e => e hc)]
  exact rulV_all folV _ h
theorem eg_fold : ∀ args w, (callFunc 33 args).run Tryz.prog w = .ok (.enter 33 args) w := enters_of Tryz.func33 (by kernel_rfl) rfl
end Go.Proofs.YtodlgbihdehmbaaGreatDoor.LP
/-
  Contracts of the program's functions of layer 12: the folds of a configuration, read.
-/
set_option linter.unusedSimpArgs false
set_option linter.unusedVariables false
namespace Go.Proofs.YtodlgbihdehmbaaGreatDoor.LP
open Go.RowKit Cf Cf.KR Cf.KP
theorem folV_yes2 {x : Sec} (h : keysV [patB] [xffB, aggB] x.2 = true) : folV x = if (Nd.ndComp ((getV x.2 patB).getD [])).2 ≠ 0 then (Fol.none, (Nd.ndComp ((getV x.2 patB).getD [])).2)
    else if (if (xffV (getV x.2 xffB)).2 ≠ 0 then (xffV (getV x.2 xffB)).2 else (aggV (getV x.2 aggB)).2) ≠ 0 then (Fol.none, (if (xffV (getV x.2 xffB)).2 ≠ 0 then (xffV (getV x.2 xffB)).2 else (aggV (getV x.2 aggB)).2))
    else ((x.1, (getV x.2 patB).getD [], (xffV (getV x.2 xffB)).1, (aggV (getV x.2 aggB)).1), 0) := by
  rw [folV_yes h]
  by_cases h1 : (xffV (getV x.2 xffB)).2 ≠ 0
  · rw [if_pos h1, if_pos h1, if_pos h1]
  · rw [if_neg h1, if_neg h1]
set_option maxRecDepth 100000 in
set_option maxHeartbeats 4000000 in
theorem readF_p (s : ByteArray) (w : World) (vm vn : Value) (gd : De.G w) (t : Mt w) (fm : TxOut w vm [patB]) (fn : TxOut w vn [xffB, aggB]) :
    Calls Tryz.prog 32 #[.string s, vm, vn, .func (.func 33) #[] #[]] w fun e w' => ∃ v, e = .returned (.tuple #[v, .int .i64 (foldsV (bs s)).2]) ∧ FoOut w' v (foldsV (bs s)).1 ∧ Below w.heap.size w w' := by
  have eg := eg_fold
  have PC := parse_p s w
  have OKS := conf_ok (l := bs s) (bs_small s)
  have SE := fun (k : Nat) (x : Sec) => @folds_err (bs s) k x
  have SO := @folds_ok (bs s)
  have SZ : (confV (bs s)).2 ≠ 0 → foldsV (bs s) = ([], (confV (bs s)).2) := fun h => by unfold foldsV; rw [if_pos h]
  have FEW := (conf_few (bs s)).secs
  obtain ⟨⟨L, E⟩, hC⟩ : ∃ C, confV (bs s) = C := ⟨_, rfl⟩
  rw [hC] at PC OKS SE SO SZ FEW
  obtain ⟨⟨D, Z⟩, hD⟩ : ∃ D, foldsV (bs s) = D := ⟨_, rfl⟩
  rw [hD] at SE SO SZ ⊢
  simp only at PC OKS SE SO SZ FEW ⊢
  clear hC hD
  obtain ⟨n, hn⟩ : ∃ n, L.length = n := ⟨_, rfl⟩
  rw [hn] at FEW
  obtain ⟨Am, cm, rfl, hcm, hxm⟩ := id fm
  obtain ⟨An, cn, rfl, hcn, hxn⟩ := id fn
  have FM := Lib.hid fm; have FN := Lib.hid fn
  simp only [List.length_cons, List.length_nil, Nat.zero_add, Nat.reduceAdd] at FM FN ⊢
  obtain ⟨i0, hi0, hz0, hz1, hz2⟩ := info_parts fold_info
  have PCC := Lib.hid PC; have HOK := Lib.hid OKS; have HSE := Lib.hid SE; have HSO := Lib.hid SO; have HSZ := Lib.hid SZ; have HN := Lib.hid hn; have GG := Lib.hid gd; have MT := Lib.hid t
  clear PC OKS SE SO SZ hn gd t fm fn hcm hxm hcn hxn
  go_enter Tryz.func32, Tryz.ntmps32
  go_wp2_with fail
  refine PCC.out.mono ?_; rintro _ w1 ⟨v, rfl, hv, hb1⟩
  obtain ⟨AL, cL, rfl, hcL, hxL⟩ := id hv
  have HV := Lib.hid hv; have HXL := Lib.hid hxL; have HB1 := Lib.hid hb1
  rw [HN.out] at hcL HV ⊢
  clear hv hxL hb1 PCC
  by_cases h0 : E = 0
  · subst h0
    clear HSZ
    go_wp2
    go_loopw [31, 12] (fun i o wr => ∃ k : Nat, i = .int .i64 (k : Nat) ∧ k ≤ n ∧ ((∀ y ∈ L.take k, (folV y).2 = 0) ∧ FoNew w1.heap.size wr o (fosV (L.take k)) ∧ Below w1.heap.size w1 wr)) (fun i _ _ => n - (intOf i).toNat)
    case atStart => exact ⟨0, rfl, Nat.zero_le _, fun y hy => (by simp at hy), FoNew.nil _ _, Below.refl _ _⟩
    case round =>
      obtain ⟨k, rfl, hk, hz, hst, hbw⟩ := hrel
      have hlen : (fosV (L.take k)).length = k := by unfold fosV; rw [List.length_map, List.length_take, HN.out]; omega
      obtain ⟨AO, cO, rfl, hcO, hown⟩ := hst.form
      rw [hlen] at hcO hst hown ⊢
      have HZ := Lib.hid hz; have HST := Lib.hid hst; have HBW := Lib.hid hbw; have HOW := Lib.hid hown; have HLEN := Lib.hid hlen
      have HW := Lib.hid (bnext HB1.out hbw)
      clear hz hst hown hlen
      by_cases hlt : k < n
      · have hkl : k < L.length := by rw [HN.out]; exact hlt
        obtain ⟨bb, rfl, ha⟩ := HXL.out (by intro e; rw [e] at hkl; exact absurd hkl (Nat.not_lt_zero _))
        have hp := List.getElem?_eq_getElem hkl
        obtain ⟨⟨nm, kv⟩, hxx⟩ : ∃ x, L[k] = x := ⟨_, rfl⟩
        rw [hxx] at hp
        obtain ⟨u, c0, c1, hkv⟩ := (ha.below hbw) k (nm, kv) hp
        have OK := HOK.out (nm, kv) (List.mem_of_getElem? hp)
        have few := OK.few
        simp only at few c0 hkv
        have HP := Lib.hid hp
        have KEYS := fun (W : World) (h : Below wr.heap.size wr W) => keys_p (str nm) u (.slice Am 1 cm) (.slice An 2 cn) kv [patB] [xffB, aggB] (by omega) (fun x hx => (OK.kv x hx).1) (by decide) (by decide) (by unfold Byt patB; decide) (by unfold Byt xffB aggB; decide) W (hkv.below h) (FM.out.below (bnext HW.out h)) (FN.out.below (bnext HW.out h))
        have GET := fun (W : World) (h : Below wr.heap.size wr W) => get_p (str nm) u kv (by omega) (fun x hx => (OK.kv x hx).1) (str patB) W (hkv.below h)
        rw [bs_str (by unfold Byt patB; decide : Byt patB)] at GET
        have COMP := fun (W : World) => Nd.NP.compile_c (str ((getV kv patB).getD [])) (by rw [str_size]; have := (OK.val patB).2; simp only at this; omega) W
        rw [bs_str (OK.val patB).1] at COMP
        have STO := fun (W : World) (h : Below wr.heap.size wr W) => fold_p (str nm) (str ((getV kv patB).getD [])) u kv (by omega) OK.kv W (GG.out.below (bnext HW.out h)) (MT.out.below (bnext HW.out h)) (hkv.below h)
        have SNO := @folV_no (nm, kv)
        have SYES := @folV_yes2 (nm, kv)
        have BYT : Byt nm ∧ Byt ((getV kv patB).getD []) := ⟨OK.nm, (OK.val patB).1⟩
        simp only at SNO SYES
        obtain ⟨A1, c1', rfl, -, -⟩ := id hkv
        generalize kv.length = m at *
        obtain ⟨pt, hpt⟩ : ∃ pt, (getV kv patB).getD [] = pt := ⟨_, rfl⟩
        obtain ⟨PT, hPT⟩ : ∃ PT, str pt = PT := ⟨_, rfl⟩
        obtain ⟨NM, hNM⟩ : ∃ NM, str nm = NM := ⟨_, rfl⟩
        have ES : ∀ W' W1 e, FdAns W1 (str nm) PT (xffV (getV kv xffB)) (aggV (getV kv aggB)) e W' → ∃ (a b : ByteArray) (p q : Int), e = .returned (.tuple #[.agg #[.string a, .string b, .int .i64 p, .int .i64 q], .int .i64 (if (xffV (getV kv xffB)).2 ≠ 0 then (xffV (getV kv xffB)).2 else (aggV (getV kv aggB)).2)]) ∧ ((if (xffV (getV kv xffB)).2 ≠ 0 then (xffV (getV kv xffB)).2 else (aggV (getV kv aggB)).2) = 0 → a = str nm ∧ b = PT ∧ p = (xffV (getV kv xffB)).1 ∧ q = (aggV (getV kv aggB)).1) ∧ Below W1.heap.size W1 W' := fun W' W1 e h => by
          obtain ⟨a, b, p, q, E, he, rfl, hz, hb⟩ := h
          exact ⟨a, b, p, q, he, hz, hb⟩
        obtain ⟨X1, hX1⟩ : ∃ R, (xffV (getV kv xffB)).1 = R := ⟨_, rfl⟩
        obtain ⟨A1', hA1⟩ : ∃ R, (aggV (getV kv aggB)).1 = R := ⟨_, rfl⟩
        obtain ⟨E2, hR⟩ : ∃ R, (if (xffV (getV kv xffB)).2 ≠ 0 then (xffV (getV kv xffB)).2 else (aggV (getV kv aggB)).2) = R := ⟨_, rfl⟩
        obtain ⟨kd, hkd⟩ : ∃ kd, keysV [patB] [xffB, aggB] kv = kd := ⟨_, rfl⟩
        obtain ⟨gd, hgd⟩ : ∃ gd, (getV kv patB).isSome = gd := ⟨_, rfl⟩
        rw [hpt] at GET COMP STO SYES BYT
        obtain ⟨E1, hE1⟩ : ∃ E1, (Nd.ndComp pt).2 = E1 := ⟨_, rfl⟩
        rw [hE1] at COMP SYES
        rw [hX1, hA1, hR] at ES SYES
        rw [hkd] at KEYS SNO SYES
        rw [hgd] at GET
        rw [hPT] at GET COMP STO
        rw [hNM] at KEYS GET STO ES c0
        have STO := fun (W : World) (h : Below wr.heap.size wr W) => (STO W h).mono fun e W' k => ES W' W e k
        have K2 := Lib.hid KEYS; have G2 := Lib.hid GET; have C2 := Lib.hid COMP; have S2 := Lib.hid STO; have N2 := Lib.hid SNO; have Y2 := Lib.hid SYES; have B2 := Lib.hid BYT
        have HPT := Lib.hid hPT; have HNM := Lib.hid hNM
        clear KEYS GET COMP STO ES SNO SYES BYT hPT hNM hpt hR hX1 hA1 hkd hgd hE1 hp hxx ha hkl hkv few OK
        have ERR := Lib.hid (fun (e : Int) (h : folV (nm, kv) = (Fol.none, e)) (he : e ≠ 0) => (show D = [] ∧ Z = e from by
          have := HSE.out k (nm, kv) trivial HP.out HZ.out (by rw [h]; exact he)
          rw [h] at this
          exact ⟨congrArg Prod.fst this, congrArg Prod.snd this⟩))
        have BOX := Lib.hid (alloc_below wr (.cells #[.string NM, .slice A1 m c1'] 63))
        cases kd
        · have F := Lib.hid (ERR.out 7 (N2.out rfl) (by decide))
          clear HSE HSO HOK N2 Y2 ERR G2 C2 S2 HST HZ
          go_wp2_with (go_at_call 50; refine (K2.out _ BOX.out).mono ?_; rintro _ w2 ⟨rfl, hb2⟩)
          go_ret2
          exact ⟨_, ret_vi F.out.2.symm, by rw [F.out.1]; exact FoOut.nil _, bnext (bnext HW.out BOX.out) hb2⟩
        · have Y3 := Lib.hid (Y2.out rfl)
          clear Y2 N2
          by_cases h1 : E1 = 0
          · subst h1
            by_cases h2 : E2 = 0
            · subst h2
              have HV2 := Lib.hid (show folV (nm, kv) = ((nm, pt, X1, A1'), 0) from Y3.out.trans ((if_neg (fun h => h rfl)).trans (if_neg (fun h => h rfl))))
              have NEXT := Lib.hid (show (∀ y ∈ L.take (k + 1), (folV y).2 = 0) ∧ fosV (L.take (k + 1)) = fosV (L.take k) ++ [(nm, pt, X1, A1')] from by
                rw [List.take_add_one, HP.out]
                simp only [Option.toList_some]
                refine ⟨fun y hy => ?_, ?_⟩
                · rcases List.mem_append.1 hy with hy | hy
                  · exact HZ.out y hy
                  · rw [List.mem_singleton.1 hy, HV2.out]
                · unfold fosV
                  rw [List.map_append, List.map_cons, List.map_nil, HV2.out])
              have PUSH := Lib.hid (fun (W1 : World) (h : Below wr.heap.size wr W1) =>
                (show ∃ xs, W1.ownsRow w1.heap.size 74 4 (.slice AO k cO) k xs ∧ ∀ (g cap : Nat) (w2 : World), w2.ownsRow w1.heap.size 74 4 (.slice (some ⟨g, 0, none⟩) (k + 1) cap) (k + 1) (xs ++ [.string NM, .string PT, .int .i64 X1, .int .i64 A1']) → W1.grownBy w2 (Value.ownBlock (.slice AO k cO)) → FoNew w1.heap.size w2 (.slice (some ⟨g, 0, none⟩) (k + 1) cap) (fosV (L.take (k + 1))) ∧ Below w1.heap.size w1 w2 from by
                  have hz := FoNew.push (w1 := W1) (s := (nm, pt, X1, A1')) HST.out h B2.out
                  rw [HLEN.out] at hz
                  obtain ⟨xs, hr, hf⟩ := hz
                  refine ⟨xs, hr, fun g cap w2 ho hg => ⟨?_, ?_⟩⟩
                  · rw [NEXT.out.2]
                    exact hf g cap w2 (by rw [HNM.out, HPT.out]; exact ho)
                  · exact (HBW.out.trans (h.mono HBW.out.size)).grown hg (Nat.le_trans HBW.out.size h.size) (fun j ej => (HOW.out j ej).1)))
              clear HSE HSO HOK Y3 ERR HST HZ
              go_wp2_with (first
                | (go_at_call 50; refine (K2.out _ BOX.out).mono ?_; rintro _ w2 ⟨rfl, hb2⟩; have BB2 := Lib.hid (bnext BOX.out hb2); have v0 := cellb hb2 (two_new wr (.string NM) (.slice A1 m c1') 63).1; have v1 := cellb hb2 (two_new wr (.string NM) (.slice A1 m c1') 63).2.1)
                | (go_at_call 51; refine (G2.out _ BB2.out).mono ?_; rintro _ w3 ⟨rfl, hb3⟩; have BB3 := Lib.hid (bnext BB2.out hb3); have v0 := cellb hb3 v0; have v1 := cellb hb3 v1)
                | (go_at_call 52; refine (C2.out _).mono ?_; rintro _ w4 ⟨nv, rfl, hnv, -, -, hb4⟩; obtain ⟨s1, f1, A5, n5, c5, rfl⟩ := needle_form hnv; clear hnv; have BB4 := Lib.hid (bnext (bnext BB3.out hb4) (alloc_below _ (.cells #[.bool s1, .bool f1, .slice A5 n5 c5] 67))); have v0 := cellb (bnext hb4 (alloc_below w4 (.cells #[.bool s1, .bool f1, .slice A5 n5 c5] 67))) v0; have v1 := cellb (bnext hb4 (alloc_below w4 (.cells #[.bool s1, .bool f1, .slice A5 n5 c5] 67))) v1)
                | (go_at_fn 33; refine (S2.out _ BB4.out).mono ?_; rintro _ w5 ⟨a5, b5, p5, q5, rfl, hs5, hb5⟩; obtain ⟨rfl, rfl, rfl, rfl⟩ := hs5 (by trivial); have BD := Lib.hid (bnext (alloc_below w5 (.cells #[.string a5, .string b5, .int .i64 p5, .int .i64 q5] 74)) (alloc_below (w5.alloc (.cells #[.string a5, .string b5, .int .i64 p5, .int .i64 q5] 74)) (.cells #[.string a5, .string b5, .int .i64 p5, .int .i64 q5] 74))); have PU := Lib.hid (PUSH.out ((w5.alloc (.cells #[.string a5, .string b5, .int .i64 p5, .int .i64 q5] 74)).alloc (.cells #[.string a5, .string b5, .int .i64 p5, .int .i64 q5] 74)) (bnext (bnext BB4.out hb5) BD.out)); have NEWS := Lib.hid (row_newsd (w5.alloc (.cells #[.string a5, .string b5, .int .i64 p5, .int .i64 q5] 74)) [.string a5, .string b5, .int .i64 p5, .int .i64 q5] 74 (w5.heap.size + 1) (by simp)); have HBS := Lib.hid (Nat.le_trans HBW.out.size (bnext (bnext BB4.out hb5) BD.out).size); clear hs5)
                | (at_builtin; obtain ⟨xs, hrow, hfin⟩ := PU.out; refine wpList_append_lies _ rfl (.tmp 63) (.tmp 65) _ rfl w1.heap.size 74 i0 (.agg #[.string ⟨#[]⟩, .string ⟨#[]⟩, .int .i64 0, .int .i64 0]) 4 48 Tryz.underlying27 hi0 hz0 hz1 hz2 rfl (by decide) (.slice AO k cO) k xs rfl hrow ⟨w5.heap.size + 1, 0, none⟩ 1 1 [.string a5, .string b5, .int .i64 p5, .int .i64 q5] rfl rfl NEWS.out (by simp [Value.oneCell']) (by decide) (by simp only [maxLen]; omega) (by omega) HBS.out _ rfl ?_; intro g9 cap9 w9 hown9 hg9 hat9 hlt9; have FN := Lib.hid (hfin g9 cap9 w9 hown9 hg9); clear hown9 hg9 hat9 hlt9 hfin hrow))
              go_roundw
              case rel => exact ⟨k + 1, by go_num, by omega, NEXT.out.1, FN.out.1, FN.out.2⟩
              case measure => simp [intOf]; omega
            · have F := Lib.hid (ERR.out E2 (Y3.out.trans ((if_neg (by decide)).trans (if_pos h2))) h2)
              have h3 : (E2 != 0) = true := by simpa using h2
              clear HSE HSO HOK Y3 ERR HST HZ
              go_wp2_with (first
                | (go_at_call 50; refine (K2.out _ BOX.out).mono ?_; rintro _ w2 ⟨rfl, hb2⟩; have BB2 := Lib.hid (bnext BOX.out hb2); have v0 := cellb hb2 (two_new wr (.string NM) (.slice A1 m c1') 63).1; have v1 := cellb hb2 (two_new wr (.string NM) (.slice A1 m c1') 63).2.1)
                | (go_at_call 51; refine (G2.out _ BB2.out).mono ?_; rintro _ w3 ⟨rfl, hb3⟩; have BB3 := Lib.hid (bnext BB2.out hb3); have v0 := cellb hb3 v0; have v1 := cellb hb3 v1)
                | (go_at_call 52; refine (C2.out _).mono ?_; rintro _ w4 ⟨nv, rfl, hnv, -, -, hb4⟩; obtain ⟨s1, f1, A5, n5, c5, rfl⟩ := needle_form hnv; clear hnv; have BB4 := Lib.hid (bnext (bnext BB3.out hb4) (alloc_below _ (.cells #[.bool s1, .bool f1, .slice A5 n5 c5] 67))); have v0 := cellb (bnext hb4 (alloc_below w4 (.cells #[.bool s1, .bool f1, .slice A5 n5 c5] 67))) v0; have v1 := cellb (bnext hb4 (alloc_below w4 (.cells #[.bool s1, .bool f1, .slice A5 n5 c5] 67))) v1)
                | (go_at_fn 33; refine (S2.out _ BB4.out).mono ?_; rintro _ w5 ⟨a5, b5, p5, q5, rfl, -, hb5⟩))
              go_ret2
              exact ⟨_, ret_vi F.out.2.symm, by rw [F.out.1]; exact FoOut.nil _, bnext (bnext HW.out (bnext BB4.out hb5)) (alloc_below _ _)⟩
          · have F := Lib.hid (ERR.out E1 (Y3.out.trans (if_pos h1)) h1)
            have h3 : (E1 != 0) = true := by simpa using h1
            clear HSE HSO HOK Y3 ERR HST HZ S2
            go_wp2_with (first
              | (go_at_call 50; refine (K2.out _ BOX.out).mono ?_; rintro _ w2 ⟨rfl, hb2⟩; have BB2 := Lib.hid (bnext BOX.out hb2); have v0 := cellb hb2 (two_new wr (.string NM) (.slice A1 m c1') 63).1; have v1 := cellb hb2 (two_new wr (.string NM) (.slice A1 m c1') 63).2.1)
              | (go_at_call 51; refine (G2.out _ BB2.out).mono ?_; rintro _ w3 ⟨rfl, hb3⟩; have BB3 := Lib.hid (bnext BB2.out hb3); have v0 := cellb hb3 v0; have v1 := cellb hb3 v1)
              | (go_at_call 52; refine (C2.out _).mono ?_; rintro _ w4 ⟨nv, rfl, hnv, -, -, hb4⟩; obtain ⟨s1, f1, A5, n5, c5, rfl⟩ := needle_form hnv; clear hnv))
            go_ret2
            exact ⟨_, ret_vi F.out.2.symm, by rw [F.out.1]; exact FoOut.nil _, bnext (bnext HW.out (bnext BB3.out hb4)) (alloc_below _ _)⟩
      · obtain rfl : n = k := by omega
        have HE := Lib.hid (HSO.out trivial (by rw [← HN.out, List.take_length] at HZ; exact HZ.out))
        have HS2 := Lib.hid (show FoNew w1.heap.size wr (.slice AO n cO) D from by
          have h := HST.out
          rw [← HN.out, List.take_length] at h
          rw [HN.out, show fosV L = D from (congrArg Prod.fst HE.out).symm] at h
          exact h)
        have e2 := congrArg Prod.snd HE.out
        simp only at e2
        have E2 := Lib.hid e2
        clear HSE HSO HOK HZ HST HE e2
        go_wp2
        go_ret2
        exact ⟨_, ret_vi E2.out.symm, HS2.out.out, HW.out⟩
  · have h1 : (E != 0) = true := by simpa using h0
    have SEV := Lib.hid (HSZ.out h0)
    clear HSO HSE HSZ
    go_wp2
    go_ret2
    injection SEV.out with e1 e2
    exact ⟨_, ret_vi e2.symm, by rw [e1]; exact FoOut.nil _, HB1.out⟩
set_option maxRecDepth 100000 in
set_option maxHeartbeats 1000000 in
theorem folds_p (s : ByteArray) (w : World) (gd : De.G w) (t : Mt w) :
    Calls Tryz.prog 10 #[.string s] w fun e w' => ∃ v, e = .returned (.tuple #[v, .int .i64 (foldsV (bs s)).2]) ∧ FoOut w' v (foldsV (bs s)).1 ∧ Below w.heap.size w w' := by
  have tn := tx_new w [patB] (by decide) 9
  have hb1 := alloc_below w (.cells #[.string (str patB)] 9)
  have hb2 := alloc_below (w.alloc (.cells #[.string (str patB)] 9)) (.cells #[.string (str xffB), .string (str aggB)] 9)
  have RD := readF_p s ((w.alloc (.cells #[.string (str patB)] 9)).alloc (.cells #[.string (str xffB), .string (str aggB)] 9)) (.slice (some ⟨w.heap.size, 0, none⟩) 1 1) (.slice (some ⟨(w.alloc (.cells #[.string (str patB)] 9)).heap.size, 0, none⟩) 2 2) (gd.below (bnext hb1 hb2)) (t.below (bnext hb1 hb2)) (tn.below hb2) (tx_new (w.alloc (.cells #[.string (str patB)] 9)) [xffB, aggB] (by decide) 9)
  have e1 : str patB = ⟨#[112, 97, 116, 116, 101, 114, 110]⟩ := rfl
  have e2 : str xffB = ⟨#[120, 70, 105, 108, 101, 115, 70, 97, 99, 116, 111, 114]⟩ := rfl
  have e3 : str aggB = ⟨#[97, 103, 103, 114, 101, 103, 97, 116, 105, 111, 110, 77, 101, 116, 104, 111, 100]⟩ := rfl
  have BB := bnext hb1 hb2
  rw [e1, e2, e3] at RD BB
  obtain ⟨D, hD⟩ : ∃ D, foldsV (bs s) = D := ⟨_, rfl⟩
  rw [hD] at RD ⊢
  rw [show (w.alloc (.cells #[.string ⟨#[112, 97, 116, 116, 101, 114, 110]⟩] 9)).heap.size = w.heap.size + 1 from by simp] at RD
  have R2 := Lib.hid RD; have B2 := Lib.hid BB
  clear RD e1 e2 e3 tn hb1 hb2 BB gd t
  go_enter Tryz.func10, Tryz.ntmps10
  go_wp2_with (go_at_call 32; refine R2.out.mono ?_; rintro _ w2 ⟨v, rfl, hv, hb2⟩)
  go_ret2
  exact ⟨_, rfl, hv, bnext B2.out hb2⟩
end Go.Proofs.YtodlgbihdehmbaaGreatDoor.LP
