/-
  Contracts of the program's functions of layer 5: Check, with the library's bytes.Equal.
-/
import Derived.Test.YtabbpgnenmpacaaDoorCrcPB
import Derived.Laws.IdiomStrings
import Derived.Laws.BytesArg
import Derived.Laws.Strings
set_option linter.unusedSimpArgs false
set_option linter.unusedVariables false
namespace Go.Proofs.YtabbpgnenmpacaaDoor.CP
open Go.RowKit
open CR (below_next own_ge u8_wrap)
theorem nilOut (w : World) : ByOut w (.slice none 0 0) [] := ⟨none, 0, rfl, Nat.le_refl _, fun h => absurd rfl h⟩
/-- A row of bytes as the text that a conversion makes of it. -/
def strB (l : List Nat) : ByteArray := ⟨(l.map UInt8.ofNat).toArray⟩
theorem map_ofNat_inj {a b : List Nat} (ha : Bytes a) (hb : Bytes b) (h : a.map UInt8.ofNat = b.map UInt8.ofNat) : a = b := by
  have e : ∀ l : List Nat, Bytes l → (l.map UInt8.ofNat).map UInt8.toNat = l := by
    intro l hl
    rw [List.map_map]
    refine (List.map_congr_left fun x hx => ?_).trans (List.map_id l)
    have := hl x hx
    show (UInt8.ofNat x).toNat = x
    rw [UInt8.toNat_ofNat']
    omega
  rw [← e a ha, ← e b hb, h]
theorem cPut_bytes {l : List Nat} (h : Bytes l) : Bytes (cPut l) := fun b hb => (List.mem_append.1 (by unfold cPut at hb; exact hb)).elim (h b) (le4_bytes _ b)
theorem conv_by {w : World} {A : Option Addr} {n c : Nat} {l : List Nat} (hb : Bytes l) (h : ByOut w (.slice A n c) l) : (convert 27 9 (.slice A n c)).run Tryd.prog w = .ok (.string (strB l)) w := by
  obtain ⟨A', c', hv, hc, hx⟩ := h
  injection hv with h1 h2 h3
  subst h1 h2 h3
  rcases Nat.eq_zero_or_pos l.length with h0 | h0
  · obtain rfl : l = [] := List.eq_nil_of_length_eq_zero h0
    rw [run_convert_bytes_string w 27 9 5 _ _ c Tryd.underlying27 Tryd.underlying5 Tryd.underlying9]
    cases A <;> simp [Conv.bytesToString, loadCells]
    all_goals rfl
  · obtain ⟨b, off, rfl, hf⟩ := hx (List.length_pos_iff.1 h0)
    have e := run_convert_bytes_back (P := Tryd.prog) w 27 9 5 ⟨b, off, none⟩ c (l.map UInt8.ofNat) Tryd.underlying27 Tryd.underlying5 Tryd.underlying9 (fun j hj => by
      have ea : (⟨b, off, none⟩ : Addr).add j = ⟨b, off + j, none⟩ := by unfold Addr.add; split <;> simp_all
      rw [List.length_map] at hj
      rw [ea, hf j _ (List.getElem?_eq_getElem hj), List.getElem_map]
      have := hb _ (List.getElem_mem hj)
      rw [UInt8.toNat_ofNat']
      congr 3
      omega)
    rw [List.length_map] at e
    exact e
set_option maxRecDepth 100000 in
set_option maxHeartbeats 1000000 in
theorem equal_c (v1 v2 : Value) (a b : List Nat) (ha : Bytes a) (hb : Bytes b) (w : World) (h1 : ByOut w v1 a) (h2 : ByOut w v2 b) :
    Calls Tryd.prog 39 #[v1, v2] w fun e w' => e = .returned (.bool (decide (a = b))) ∧ w = w' := by
  obtain ⟨A1, c1, rfl, _, _⟩ := id h1
  obtain ⟨A2, c2, rfl, _, _⟩ := id h2
  have k1 := conv_by ha h1
  have k2 := conv_by hb h2
  have hd : ((strB a).toList == (strB b).toList) = decide (a = b) := by
    rw [ByteArray.toList_eq, ByteArray.toList_eq]
    by_cases h : a = b
    · rw [h, decide_eq_true rfl]; exact beq_self_eq_true _
    · rw [decide_eq_false h, beq_eq_false_iff_ne]
      intro h9
      apply h
      unfold strB at h9
      simp only [List.toList_toArray] at h9
      exact map_ofNat_inj ha hb h9
  generalize strB a = s1 at *
  generalize strB b = s2 at *
  have HD := Lib.hid hd
  clear hd h1 h2
  go_enter Tryd.func39, Tryd.ntmps39
  go_wp2
  go_ret
  exact ⟨congrArg (fun z => Ending.returned (.bool z)) HD.out, rfl⟩
set_option maxRecDepth 100000 in
set_option maxHeartbeats 4000000 in
theorem check_c (v : Value) (l : List Nat) (hl : l.length ≤ 90000) (hb : Bytes l) (w : World) (g : G w) (h : ByOut w v l) :
    Calls Tryd.prog 50 #[v] w fun e w' => ∃ v', e = .returned (.tuple #[v', .int .i64 (cChk l).2]) ∧ ByOut w' v' (cChk l).1 ∧ Below w.heap.size w w' := by
  have hF := h
  obtain ⟨A, c, rfl, hc, hx⟩ := h
  obtain ⟨n, hln⟩ : ∃ n, l.length = n := ⟨_, rfl⟩
  rw [hln] at hl hc hF ⊢
  by_cases h4 : n < 4
  · have hk : cChk l = ([], 9) := by unfold cChk; rw [if_pos (by rw [hln]; exact h4)]
    rw [hk]
    have h4i : (n : Int) < 4 := by omega
    clear hk hx hF
    go_enter Tryd.func50, Tryd.ntmps50
    go_wp2
    exact bodyPost_ret (v := .tuple #[.slice none 0 0, .int .i64 9]) (by simp [results, Tryd.results50, go_sem]) rfl ⟨.slice none 0 0, rfl, nilOut _, Below.refl _ _⟩
  · obtain ⟨m, hm⟩ : ∃ m, n - 4 = m := ⟨_, rfl⟩
    have hnm : (n : Int) - 4 = (m : Int) := by omega
    have hmn : m ≤ n := by omega
    have hmc : (m : Int) ≤ (c : Int) := by omega
    have h4i : ¬ (n : Int) < 4 := by omega
    have ht : (l.take m).length = m := by rw [List.length_take]; omega
    have hput : (cPut (l.take m)).length = m + 4 := by unfold cPut; rw [List.length_append, le4_length, ht]
    have hbt := CR.Bytes.take hb m
    have PT := Lib.hid (put_c (.slice A m c) (l.take m) (by rw [ht]; omega) hbt w g (CR.ByOut.take hF hmn))
    have EQ := Lib.hid (fun (v1 : Value) (w1 : World) (h1 : ByOut w1 v1 (cPut (l.take m))) (h2 : ByOut w1 (.slice A n c) l) => equal_c v1 (.slice A n c) (cPut (l.take m)) l (cPut_bytes hbt) hb w1 h1 h2)
    have hk : cChk l = if cPut (l.take m) = l then (l.take m, 0) else ([], 8) := by unfold cChk; rw [if_neg (by rw [hln]; omega), hln, hm]
    have hcut : ∀ (w' : World) (A1 : Option Addr) (c1 : Nat), ByOut w' (.slice A1 (m + 4) c1) (cPut (l.take m)) → ByOut w' (.slice A1 m m) (l.take m) := by
      intro w' A1 c1 h
      have h2 := CR.ByOut.take h (m := m) (by omega)
      have e : (cPut (l.take m)).take m = l.take m := by unfold cPut; rw [List.take_append_of_le_length (by omega), List.take_of_length_le (by omega)]
      rw [e] at h2
      obtain ⟨A', c', hv, _, hx⟩ := h2
      injection hv with q1 q2 q3
      subst q1
      exact ⟨A1, m, by rw [ht], by omega, hx⟩
    have HK := Lib.hid hk; have HF := Lib.hid hF; have HP := Lib.hid hput; have HC := Lib.hid hcut
    clear hk hF hx hput ht hln hm g hcut hbt
    by_cases hq : cPut (l.take m) = l
    · have hk2 : cChk l = (l.take m, 0) := by rw [HK.out, if_pos hq]
      rw [hk2]
      rw [decide_eq_true hq] at EQ
      clear hk2 hq
      generalize l.take m = a at *
      go_enter Tryd.func50, Tryd.ntmps50
      go_wp2_with fail
      refine PT.out.mono ?_; rintro _ w1 ⟨v1, rfl, hn1, hb1⟩
      obtain ⟨A1, c1, hv1, hc1, _⟩ := hn1.out
      rw [HP.out] at hv1 hc1
      subst hv1
      have hc1i : (m : Int) + 4 ≤ (c1 : Int) := by omega
      have O1 := Lib.hid hn1.out; have B1 := Lib.hid hb1
      clear hn1 hb1
      go_wp2_with fail
      refine (EQ.out _ _ O1.out (HF.out.below B1.out)).mono ?_; rintro _ w2 ⟨rfl, rfl⟩
      have O2 := Lib.hid (HC.out _ _ _ O1.out)
      go_wp2
      exact bodyPost_ret (v := .tuple #[.slice A1 m m, .int .i64 0]) (by simp [results, Tryd.results50, go_sem]) rfl ⟨.slice A1 m m, rfl, O2.out, B1.out⟩
    · have hk2 : cChk l = ([], 8) := by rw [HK.out, if_neg hq]
      rw [hk2]
      rw [decide_eq_false hq] at EQ
      clear hk2 hq
      generalize l.take m = a at *
      go_enter Tryd.func50, Tryd.ntmps50
      go_wp2_with fail
      refine PT.out.mono ?_; rintro _ w1 ⟨v1, rfl, hn1, hb1⟩
      have O1 := Lib.hid hn1.out; have B1 := Lib.hid hb1
      clear hn1 hb1
      go_wp2_with fail
      refine (EQ.out _ _ O1.out (HF.out.below B1.out)).mono ?_; rintro _ w2 ⟨rfl, rfl⟩
      go_wp2
      exact bodyPost_ret (v := .tuple #[.slice none 0 0, .int .i64 8]) (by simp [results, Tryd.results50, go_sem]) rfl ⟨.slice none 0 0, rfl, nilOut _, B1.out⟩
end Go.Proofs.YtabbpgnenmpacaaDoor.CP
