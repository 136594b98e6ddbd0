/-
  Contracts of the program's own functions of layer 3 (decimal), first part: the library's functions in plain words; signs, cuts, digits.
-/
import Derived.Test.YtnnilllnkklecaaDoorDecPlain
import Derived.Test.YtnnilllnkklecaaDoorDecG
import Derived.Test.YtnnilllnkklecaaDoorShelf
set_option linter.unusedSimpArgs false
set_option linter.unusedVariables false
namespace Go.Proofs.YtnnilllnkklecaaDoor.DP
open Go.RowKit Go.Sort

theorem below_grow (w : World) (k : Nat) (os : Array Obj) : Below w.heap.size w (grow (w.drewN k) os) := by
  refine ⟨rfl, rfl, rfl, ?_, fun b hb => ?_⟩
  · simp [grow]
  · simp [grow, Array.getElem?_append, hb]
theorem below_drewN (w : World) (k : Nat) : Below w.heap.size w (w.drewN k) := ⟨rfl, rfl, rfl, Nat.le_refl _, fun _ _ => rfl⟩
theorem below_bytes {w w' : World} {t : TypeId} (h : w' = w ∨ ∃ x, w' = Lib.bytesWorld w t x) : Below w.heap.size w w' := by
  rcases h with rfl | ⟨x, rfl⟩
  · exact Below.refl _ _
  · exact Lib.bytesWorld_below _ _ _

/-! ### The library's functions in plain words -/
theorem cut_c (s : ByteArray) (hs : s.size ≤ 64) (w : World) (hg : G w) :
    Calls Tryd.prog 18 #[.string s, .string ⟨#[46]⟩] w fun e w' => ∃ b, e = .returned (.tuple #[.string (str (ipart (bs s))), .string (str (fpart (bs s))), .bool b]) ∧ Below w.heap.size w w' := by
  obtain ⟨m, hm⟩ := hg.len
  refine (Tryd.strings_Cut s ⟨#[46]⟩ m w (by omega) hm).mono ?_
  rintro e w' ⟨rfl, n, rfl⟩
  obtain ⟨h1, h2⟩ := cut_dot s.data.toList
  refine ⟨(Lib.cut s.data.toList [46]).2.2, ?_, below_drewN _ _⟩
  rw [bs_nu, ← h1, ← h2, ← mk_str, ← mk_str]
theorem repeat_c (w : World) : Calls Tryd.prog 33 #[.string ⟨#[48]⟩, .int .i64 6] w fun e w' => e = .returned (.string ⟨#[48, 48, 48, 48, 48, 48]⟩) ∧ Below w.heap.size w w' := by
  refine (Tryd.strings_Repeat ⟨#[48]⟩ 6 w (by decide) (by decide)).mono ?_
  rintro e w' ⟨rfl, hb⟩
  exact ⟨rfl, hb⟩
theorem parseInt_ok (s : ByteArray) (hs : s.size ≤ 1000) (hd : allD (bs s) = true) (hne : bs s ≠ []) (hv : val (bs s) ≤ 9223372036854775807) (w : World) :
    Calls Tryd.prog 34 #[.string s, .int .i64 10, .int .i64 64] w fun e w' => e = .returned (.tuple #[.int .i64 (val (bs s) : Nat), .nilIface]) ∧ Below w.heap.size w w' := by
  have h := parseInt_digits (l := s.data.toList) hd (fun h => hne (nu_nil.2 h))
  rw [← bs_nu, if_pos hv] at h
  refine (Tryd.strconv_ParseInt_10_at64_ok s (by omega) _ h w).mono ?_
  rintro e w' ⟨rfl, hb⟩
  exact ⟨rfl, below_bytes hb⟩
theorem parseInt_no (s : ByteArray) (hs : s.size ≤ 1000) (hd : allD (bs s) = true) (hne : bs s ≠ []) (hv : ¬ val (bs s) ≤ 9223372036854775807) (w : World) (hg : G w) :
    Calls Tryd.prog 34 #[.string s, .int .i64 10, .int .i64 64] w fun e w' => ∃ x t p, e = .returned (.tuple #[.int .i64 x, .iface t p]) ∧ Below w.heap.size w w' := by
  have h := parseInt_digits (l := s.data.toList) hd (fun h => hne (nu_nil.2 h))
  rw [← bs_nu, if_neg hv] at h
  obtain ⟨te, pe, he⟩ := hg.err
  refine (Tryd.strconv_ParseInt_10_at64_range s (by omega) h _ w he (.inr ⟨te, pe, rfl⟩)).mono ?_
  rintro e w' ⟨N, rfl, _, _, hb⟩
  exact ⟨_, _, _, rfl, hb⟩
theorem atoi_ok (s : ByteArray) (hs : s.size ≤ 1000) (hd : allD (bs s) = true) (hne : bs s ≠ []) (hv : val (bs s) ≤ 9223372036854775807) (w : World) :
    Calls Tryd.prog 23 #[.string s] w fun e w' => e = .returned (.tuple #[.int .i64 (val (bs s) : Nat), .nilIface]) ∧ Below w.heap.size w w' := by
  have h := atoi_digits (l := s.data.toList) hd (fun h => hne (nu_nil.2 h))
  rw [← bs_nu, if_pos hv] at h
  refine (Tryd.strconv_Atoi_ok s (by omega) _ h w).mono ?_
  rintro e w' ⟨rfl, hb⟩
  exact ⟨rfl, below_bytes hb⟩
theorem atoi_no (s : ByteArray) (hs : s.size ≤ 1000) (hd : allD (bs s) = true) (hne : bs s ≠ []) (hv : ¬ val (bs s) ≤ 9223372036854775807) (w : World) (hg : G w) :
    Calls Tryd.prog 23 #[.string s] w fun e w' => ∃ x t p, e = .returned (.tuple #[.int .i64 x, .iface t p]) ∧ Below w.heap.size w w' := by
  have h := atoi_digits (l := s.data.toList) hd (fun h => hne (nu_nil.2 h))
  rw [← bs_nu, if_neg hv] at h
  obtain ⟨te, pe, he⟩ := hg.err
  refine (Tryd.strconv_Atoi_range s (by omega) h _ w he (.inr ⟨te, pe, rfl⟩)).mono ?_
  rintro e w' ⟨N, rfl, _, _, hb⟩
  exact ⟨_, _, _, rfl, hb⟩
theorem format_c (n : Nat) (h1 : n ≤ 9223372036854775807) (w : World) (hg : G w) :
    Calls Tryd.prog 26 #[.int .i64 (n : Int), .int .i64 10] w fun e w' => e = .returned (.string (str (digs n))) ∧ Below w.heap.size w w' := by
  refine (Tryd.strconv_FormatInt_10 (n : Int) (by omega) (by omega) w hg.tab).mono ?_
  rintro e w' ⟨rfl, k, os, rfl⟩
  refine ⟨?_, below_grow _ _ _⟩
  rw [mk_str, nu_itoa]
theorem trim_c (s : ByteArray) (hs : s.size ≤ 9223372036854775807) (w : World) :
    Calls Tryd.prog 27 #[.string s, .string ⟨#[48]⟩] w fun e w' => e = .returned (.string (str (trimN (bs s)))) ∧ w' = w := by
  refine (Tryd.strings_TrimRight_one s 48 (by decide) w hs).mono ?_
  rintro e w' ⟨rfl, rfl⟩
  refine ⟨?_, rfl⟩
  rw [mk_str, nu_trim]; rfl
/-! ### Signs, digits -/
theorem ret_sign {a b : ByteArray} {x y : Bool} (h : a = b) (k : x = y) : Ending.returned (.tuple #[.string a, .bool x]) = .returned (.tuple #[.string b, .bool y]) := by rw [h, k]
theorem cutSign_c (s : ByteArray) (w : World) :
    Calls Tryd.prog 17 #[.string s] w fun e w' => e = .returned (.tuple #[.string (str (cut1 (bs s))), .bool (sgnB (bs s))]) ∧ w = w' := by
  have hm := sign_minus s.data.toList
  have hp := sign_plus s.data.toList
  have p1 := Tryd.strings_CutPrefix s ⟨#[45]⟩
  have p2 := Tryd.strings_TrimPrefix s ⟨#[43]⟩
  rw [show (⟨#[45]⟩ : ByteArray).data.toList = [45] from rfl, mk_str (Lib.trimPrefix s.data.toList [45])] at p1
  rw [show (⟨#[43]⟩ : ByteArray).data.toList = [43] from rfl, mk_str (Lib.trimPrefix s.data.toList [43])] at p2
  have P1 := Lib.hid p1; have P2 := Lib.hid p2
  clear p1 p2
  cases hh : Lib.hasPrefix s.data.toList [45]
  · obtain ⟨e1, e2⟩ := hp hh
    rw [hh] at P1
    rw [e1] at P2
    rw [bs_nu, e2]
    generalize str (cut1 (nu s.data.toList)) = X at *
    generalize str (nu (Lib.trimPrefix s.data.toList [45])) = Y at *
    clear hm hp hh e1 e2
    go_enter Tryd.func17, Tryd.ntmps17
    go_wp2_with fail
    refine (P1.out _).mono ?_; rintro e w1 ⟨rfl, rfl⟩
    go_wp2_with fail
    refine (P2.out _).mono ?_; rintro e w2 ⟨rfl, rfl⟩
    go_wp2
    go_ret2
    exact ⟨rfl, rfl⟩
  · obtain ⟨e1, e2⟩ := hm hh
    rw [hh, e1] at P1
    rw [bs_nu, e2]
    generalize str (cut1 (nu s.data.toList)) = X at *
    clear hm hp hh e1 e2 P2
    go_enter Tryd.func17, Tryd.ntmps17
    go_wp2_with fail
    refine (P1.out _).mono ?_; rintro e w1 ⟨rfl, rfl⟩
    go_wp2
    go_ret2
    exact ⟨rfl, rfl⟩
/-- One digit or more, and nothing else. -/
def okD (l : List Nat) : Bool := allD l && !l.isEmpty
theorem okD_iff (l : List Nat) : okD l = true ↔ allD l = true ∧ l ≠ [] := by simp [okD]
set_option maxRecDepth 100000 in
set_option maxHeartbeats 1000000 in
theorem digits_c (s : ByteArray) (hs : s.size ≤ 9223372036854775807) (w : World) :
    Calls Tryd.prog 19 #[.string s] w fun e w' => e = .returned (.bool (okD (bs s))) ∧ w = w' := by
  go_enter Tryd.func19, Tryd.ntmps19
  go_wp2
  go_loop [6] (fun i => ∃ k : Nat, k ≤ s.size ∧ i = .int .i64 k ∧ Hid (∀ j, j < k → isD (byteAt (bs s) j) = true)) (fun i => s.size - (intOf i).toNat)
  case atStart => exact ⟨0, Nat.zero_le _, rfl, fun j h => absurd h (Nat.not_lt_zero j)⟩
  case round =>
    obtain ⟨k, hk, rfl, HD⟩ := hrel
    by_cases hlt : k < s.size
    · obtain ⟨c, hc⟩ : ∃ c, byteAt (bs s) k = c := ⟨_, rfl⟩
      have hb : (s[k]'hlt).toNat = c := (at_byte hlt).trans hc
      have hc1 : c ≤ 255 := by rw [← hc]; exact byte_le s k
      have HC := Lib.hid hc
      clear hc
      have no : isD c = false → okD (bs s) = false := fun hd => by
        have := allD_no (l := bs s) (k := k) (by rw [bs_length]; exact hlt) (by rw [HC.out]; exact hd)
        unfold okD; rw [this]; rfl
      have NO := Lib.hid no
      clear no
      by_cases h1 : c < 48
      · have := NO.out (by simp [isD]; omega)
        go_wp2
        go_ret
        exact ⟨rfl, rfl⟩
      · by_cases h2 : 57 < c
        · have := NO.out (by simp [isD]; omega)
          go_wp2
          go_ret
          exact ⟨rfl, rfl⟩
        · have hd : isD c = true := by simp [isD]; omega
          have HDC := Lib.hid hd
          clear hd
          go_wp2
          refine ⟨⟨k + 1, by omega, by go_num, fun j hj => ?_⟩, by simp [intOf]; omega⟩
          by_cases he : j = k
          · rw [he, HC.out]; exact HDC.out
          · exact HD.out j (by omega)
    · obtain rfl : k = s.size := by omega
      have hA := Lib.hid (allD_yes (l := bs s) (fun j hj => HD.out j (by rw [bs_length] at hj; exact hj)))
      go_wp2
      go_ret
      refine ⟨congrArg (fun b => Ending.returned (.bool b)) (?_ : (!s.toList.isEmpty) = okD (bs s)), rfl⟩
      unfold okD
      rw [hA.out, ByteArray.toList_eq]
      simp [bs]
end Go.Proofs.YtnnilllnkklecaaDoor.DP
