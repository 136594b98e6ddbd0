/-
  Contracts of the document's own functions of layer 11 (isobarref11): has, Get; lists of texts that are the same (isobarref06).
-/
import Derived.Test.YtodlgbihdehmbaaGreatDoorCfgRAP
set_option linter.unusedSimpArgs false
set_option linter.unusedVariables false
namespace Go.Proofs.YtodlgbihdehmbaaGreatDoor.Cf
def Byt (l : List Nat) : Prop := ∀ c ∈ l, c < 256
theorem byt_bs (s : ByteArray) : Byt (bs s) := bs_small s
theorem toList_eq (s t : ByteArray) : (s.toList == t.toList) = decide (bs s = bs t) := by
  have e : (bs s = bs t) ↔ s = t := ⟨fun h => by rw [← str_bs s, ← str_bs t, h], fun h => by rw [h]⟩
  rw [Bool.eq_iff_iff, beq_iff_eq, decide_eq_true_eq, e, ByteArray.toList_eq, ByteArray.toList_eq]
  exact ⟨fun h => by obtain ⟨⟨l⟩⟩ := s; obtain ⟨⟨m⟩⟩ := t; simp at h; rw [h], fun h => by rw [h]⟩
theorem toList_str {l : List Nat} (h : Byt l) (t : ByteArray) : ((str l).toList == t.toList) = decide (l = bs t) := by rw [toList_eq, bs_str h]
namespace KR
open Go.RowKit
set_option maxRecDepth 100000 in
set_option maxHeartbeats 1000000 in
theorem has_c (v : Value) (L : List Sec) (hl : L.length ≤ 100000) (hL : ∀ x ∈ L, Byt x.1) (nm : ByteArray) (w : World) (f : SecOut w v L) :
    Calls Tryz.prog 56 #[v, .string nm] w fun e w' => e = .returned (.bool (hasV L (bs nm))) ∧ w = w' := by
  obtain ⟨A, c, rfl, hc, hx⟩ := f
  obtain ⟨n, hn⟩ : ∃ n, L.length = n := ⟨_, rfl⟩
  obtain ⟨d, hd⟩ : ∃ d, hasV L (bs nm) = d := ⟨_, rfl⟩
  rw [hn] at hl hc
  rw [hn, hd]
  have HX := Lib.hid hx; have HN := Lib.hid hn; have HD := Lib.hid hd; have HL := Lib.hid hL
  clear hx hn hd hL
  go_enter Tryz.func56, Tryz.ntmps56
  go_wp2
  go_loopw [5] (fun i wr => ∃ k : Nat, i = .int .i64 (k : Nat) ∧ k ≤ n ∧ wr = w ∧ Hid (∀ (j : Nat) (x : Sec), j < k → L[j]? = some x → x.1 ≠ bs nm)) (fun i _ => n - (intOf i).toNat)
  case atStart => exact ⟨0, rfl, Nat.zero_le _, rfl, fun j x hj => absurd hj (Nat.not_lt_zero j)⟩
  case round =>
    obtain ⟨k, rfl, hk, rfl, HI⟩ := hrel
    by_cases hlt : k < n
    · have hkl : k < L.length := by rw [HN.out]; exact hlt
      obtain ⟨b, rfl, ha⟩ := HX.out (by intro e; rw [e] at hkl; exact absurd hkl (Nat.not_lt_zero _))
      have hp := List.getElem?_eq_getElem hkl
      obtain ⟨x, hxx⟩ : ∃ x, L[k] = x := ⟨_, rfl⟩
      rw [hxx] at hp
      obtain ⟨u, c0, _, _⟩ := ha k x hp
      have hbyt := HL.out x (List.mem_of_getElem? hp)
      have hcmp := toList_str hbyt nm
      have HP := Lib.hid hp
      by_cases he : x.1 = bs nm
      · rw [decide_eq_true he] at hcmp
        have HE := Lib.hid (show d = true by
          rw [← HD.out]
          unfold hasV
          rw [List.any_eq_true]
          exact ⟨x, List.mem_of_getElem? HP.out, by simpa using he⟩)
        generalize str x.1 = X at *
        clear hp hxx hbyt ha he hkl
        go_wp2
        go_ret
        exact ⟨by rw [HE.out]; rfl, rfl⟩
      · rw [decide_eq_false he] at hcmp
        have NEXT := Lib.hid (show ∀ (j : Nat) (y : Sec), j < k + 1 → L[j]? = some y → y.1 ≠ bs nm from fun j y hj hy => by
          by_cases e : j = k
          · rw [e, HP.out] at hy
            obtain rfl := Option.some.inj hy
            exact he
          · exact HI.out j y (by omega) hy)
        generalize str x.1 = X at *
        clear hp hxx hbyt ha he hkl
        go_wp2
        go_roundw
        case rel => exact ⟨k + 1, by go_num, by omega, (by first | rfl | trivial), NEXT.out⟩
        case measure => simp [intOf]; omega
    · obtain rfl : k = n := by omega
      have HE := Lib.hid (show d = false by
        rw [← HD.out]
        unfold hasV
        rw [Bool.eq_false_iff]
        intro h
        rw [List.any_eq_true] at h
        obtain ⟨x, hx, e⟩ := h
        obtain ⟨j, hj⟩ := List.getElem?_of_mem hx
        exact HI.out j x (by rw [← HN.out]; exact (List.getElem?_eq_some_iff.1 hj).1) hj (by simpa using e))
      go_wp2
      go_ret
      exact ⟨by rw [HE.out]; rfl, rfl⟩
theorem get_at : ∀ {l : List KV} {k : Nat} {p : KV} {key : List Nat}, l[k]? = some p → p.1 = key → (∀ (j : Nat) (q : KV), j < k → l[j]? = some q → q.1 ≠ key) → getV l key = some p.2
  | [], k, p, key, h, _, _ => by simp at h
  | q :: l, 0, p, key, h, he, _ => by
    obtain rfl : q = p := by simpa using h
    unfold getV
    rw [List.find?_cons_of_pos (by simpa using he)]; rfl
  | q :: l, k + 1, p, key, h, he, hn => by
    have h0 := hn 0 q (Nat.succ_pos _) rfl
    have ih := get_at (l := l) (k := k) (p := p) (key := key) (by simpa using h) he (fun j r hj hr => hn (j + 1) r (by omega) (by simpa using hr))
    unfold getV at ih ⊢
    rw [List.find?_cons_of_neg (by simpa using h0)]; exact ih
theorem get_no {l : List KV} {key : List Nat} (h : ∀ (j : Nat) (q : KV), l[j]? = some q → q.1 ≠ key) : getV l key = none := by
  unfold getV
  rw [Option.map_eq_none_iff, List.find?_eq_none]
  intro q hq
  obtain ⟨j, hj⟩ := List.getElem?_of_mem hq
  simpa using h j q hj
theorem ret_sb {a b : ByteArray} {x y : Bool} (h : a = b) (k : x = y) : Ending.returned (.tuple #[.string a, .bool x]) = .returned (.tuple #[.string b, .bool y]) := by rw [h, k]
set_option maxRecDepth 100000 in
set_option maxHeartbeats 1000000 in
theorem get_c (nm : ByteArray) (v : Value) (l : List KV) (hl : l.length ≤ 100000) (hL : ∀ p ∈ l, Byt p.1) (key : ByteArray) (w : World) (f : KvOut w v l) :
    Calls Tryz.prog 28 #[.agg #[.string nm, v], .string key] w fun e w' => e = .returned (.tuple #[.string (str ((getV l (bs key)).getD [])), .bool (getV l (bs key)).isSome]) ∧ Below w.heap.size w w' := by
  obtain ⟨A, c, rfl, hc, hx⟩ := f
  obtain ⟨n, hn⟩ : ∃ n, l.length = n := ⟨_, rfl⟩
  obtain ⟨d, hd⟩ : ∃ d, getV l (bs key) = d := ⟨_, rfl⟩
  rw [hn] at hl hc
  rw [hn, hd]
  have HX := Lib.hid hx; have HN := Lib.hid hn; have HD := Lib.hid hd; have HL := Lib.hid hL
  clear hx hn hd hL
  go_enter Tryz.func28, Tryz.ntmps28
  go_wp2
  obtain ⟨wb, hwb⟩ : ∃ wb, w.alloc (.cells #[.string nm, .slice A n c] 63) = wb := ⟨_, rfl⟩
  have hb1 := cell_of_row _ w.heap.size 1 _ _ (0, 0) (heap_alloc_new w (.cells #[.string nm, .slice A n c] 63))
  have hbw := alloc_below w (.cells #[.string nm, .slice A n c] 63)
  rw [hwb] at hb1 hbw ⊢
  have hb1' : wb.cell? ⟨w.heap.size, 1, none⟩ = some (.slice A n c) := hb1
  have HBW := Lib.hid hbw; have HWB := Lib.hid hwb
  clear hb1 hbw hwb
  go_loopw [6] (fun i wr => ∃ k : Nat, i = .int .i64 (k : Nat) ∧ k ≤ n ∧ wr = wb ∧ Hid (∀ (j : Nat) (x : KV), j < k → l[j]? = some x → x.1 ≠ bs key)) (fun i _ => n - (intOf i).toNat)
  case atStart => exact ⟨0, rfl, Nat.zero_le _, rfl, fun j x hj => absurd hj (Nat.not_lt_zero j)⟩
  case round =>
    obtain ⟨k, rfl, hk, rfl, HI⟩ := hrel
    by_cases hlt : k < n
    · have hkl : k < l.length := by rw [HN.out]; exact hlt
      obtain ⟨b, rfl, ha⟩ := HX.out (by intro e; rw [e] at hkl; exact absurd hkl (Nat.not_lt_zero _))
      have hp := List.getElem?_eq_getElem hkl
      obtain ⟨p, hpp⟩ : ∃ p, l[k] = p := ⟨_, rfl⟩
      rw [hpp] at hp
      obtain ⟨c0, c1⟩ := (ha.below HBW.out) k p hp
      have hbyt := HL.out p (List.mem_of_getElem? hp)
      have hcmp := toList_str hbyt key
      have HP := Lib.hid hp
      by_cases he : p.1 = bs key
      · rw [decide_eq_true he] at hcmp
        have HE := Lib.hid (show d = some p.2 by rw [← HD.out]; exact get_at HP.out he HI.out)
        generalize str p.1 = X at *
        clear hp hpp hbyt ha he hkl
        go_wp2
        go_ret2
        exact ⟨ret_sb (by rw [HE.out]; rfl) (by rw [HE.out]; rfl), HBW.out⟩
      · rw [decide_eq_false he] at hcmp
        have NEXT := Lib.hid (show ∀ (j : Nat) (y : KV), j < k + 1 → l[j]? = some y → y.1 ≠ bs key from fun j y hj hy => by
          by_cases e : j = k
          · rw [e, HP.out] at hy
            obtain rfl := Option.some.inj hy
            exact he
          · exact HI.out j y (by omega) hy)
        generalize str p.1 = X at *
        clear hp hpp hbyt ha he hkl
        go_wp2
        go_roundw
        case rel => exact ⟨k + 1, by go_num, by omega, (by first | rfl | trivial), NEXT.out⟩
        case measure => simp [intOf]; omega
    · obtain rfl : k = n := by omega
      have HE := Lib.hid (show d = none by rw [← HD.out]; exact get_no fun j q hj => HI.out j q (by rw [← HN.out]; exact (List.getElem?_eq_some_iff.1 hj).1) hj)
      go_wp2
      go_ret2
      exact ⟨ret_sb (by rw [HE.out]; rfl) (by rw [HE.out]; rfl), HBW.out⟩
end KR
end Go.Proofs.YtodlgbihdehmbaaGreatDoor.Cf
