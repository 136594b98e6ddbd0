/-
  DeleteFunc at files.
-/
import Derived.Test.YtmkjjcogheidmaaDskQA
set_option linter.unusedSimpArgs false
set_option linter.unusedVariables false
namespace Go.Proofs.Ytmkjjcogheidmaa.DP
open Go.RowKit
theorem cF_set3 {Q : List (PF × Value)} {i : Nat} {f : PF} {u : Value} (h : i < Q.length) : (((Q.flatMap cF).set (i * 3) (.int .i64 (f.id : Nat))).set (i * 3 + 1) u).set (i * 3 + 2) (.int .i64 (f.sure : Nat)) = (Q.set i (f, u)).flatMap cF := by
  induction Q generalizing i with
  | nil => simp at h
  | cons x r ih =>
    cases i with
    | zero => rfl
    | succ i =>
      have := ih (i := i) (by simpa using h)
      have hl : (cF x).length = 3 := rfl
      rw [List.set_cons_succ, List.flatMap_cons, List.flatMap_cons, ← this, List.set_append_right _ _ (by rw [hl]; omega), List.set_append_right _ _ (by rw [hl]; omega), List.set_append_right _ _ (by rw [hl]; omega), hl, show (i + 1) * 3 - 3 = i * 3 from by omega, show (i + 1) * 3 + 1 - 3 = i * 3 + 1 from by omega, show (i + 1) * 3 + 2 - 3 = i * 3 + 2 from by omega]
theorem cells_one {u : Value} (h : u.oneCell' = true) : u.cells = #[u] := by
  cases u <;> first | rfl | (simp [Value.oneCell'] at h)
structure DelSt (P Q : List (PF × Value)) (ids : List Nat) (n i j : Nat) : Prop where
  len : Q.length = n
  head : Q.take i = (P.take j).filter (keepF ids)
  tail : Q.drop j = P.drop j
theorem DelSt.at_j {P Q : List (PF × Value)} {ids : List Nat} {n i j : Nat} (h : DelSt P Q ids n i j) {p : PF × Value} (hp : P[j]? = some p) : Q[j]? = some p := by
  have := congrArg (fun l : List (PF × Value) => l[0]?) h.tail
  simp only [List.getElem?_drop, Nat.add_zero] at this
  rw [this, hp]
theorem DelSt.drop {P Q : List (PF × Value)} {ids : List Nat} {n i j : Nat} (h : DelSt P Q ids n i j) {p : PF × Value} (hp : P[j]? = some p) (hk : keepF ids p = false) : DelSt P Q ids n i (j + 1) := by
  refine ⟨h.len, ?_, ?_⟩
  · rw [List.take_add_one, hp, List.filter_append, h.head]
    simp [hk]
  · rw [← List.drop_drop, h.tail, List.drop_drop]
theorem DelSt.keep {P Q : List (PF × Value)} {ids : List Nat} {n i j : Nat} (h : DelSt P Q ids n i j) {p : PF × Value} (hp : P[j]? = some p) (hk : keepF ids p = true) (hij : i < j) (hj : j < n) : DelSt P (Q.set i p) ids n (i + 1) (j + 1) := by
  refine ⟨by rw [List.length_set]; exact h.len, ?_, ?_⟩
  · rw [List.take_add_one, List.take_set_of_le (Nat.le_refl _), h.head, List.getElem?_set_self (by rw [h.len]; omega), List.take_add_one, hp, List.filter_append]
    simp [hk]
  · rw [List.drop_set_of_lt (by omega), ← List.drop_drop, h.tail, List.drop_drop]
theorem three_set {w : World} {base g n c i : Nat} {Q : List (PF × Value)} {f : PF} {u : Value} (h : w.ownsRow base 58 3 (.slice (some ⟨g, 0, none⟩) n c) n (Q.flatMap cF)) (hi : i < Q.length) :
    (((w.setCell ⟨g, i * 3, none⟩ (.int .i64 (f.id : Nat))).setCell ⟨g, i * 3 + 1, none⟩ u).setCell ⟨g, i * 3 + 2, none⟩ (.int .i64 (f.sure : Nat))).ownsRow base 58 3 (.slice (some ⟨g, 0, none⟩) n c) n ((Q.set i (f, u)).flatMap cF) ∧
    w.grownBy (((w.setCell ⟨g, i * 3, none⟩ (.int .i64 (f.id : Nat))).setCell ⟨g, i * 3 + 1, none⟩ u).setCell ⟨g, i * 3 + 2, none⟩ (.int .i64 (f.sure : Nat))) (some g) := by
  obtain ⟨s1, t1⟩ := h.stored (i * 3) (.int .i64 (f.id : Nat))
  obtain ⟨s2, t2⟩ := s1.stored (i * 3 + 1) u
  obtain ⟨s3, t3⟩ := s2.stored (i * 3 + 2) (.int .i64 (f.sure : Nat))
  rw [cF_set3 hi] at s3
  exact ⟨s3, (t1.trans t2).trans t3⟩
theorem clear_files {w : World} {base g n c i : Nat} {Q : List (PF × Value)} (h : w.ownsRow base 58 3 (.slice (some ⟨g, 0, none⟩) n c) n (Q.flatMap cF)) (hi : i < n) (hQ : Q.length = n) :
    ∃ w', (∀ ty d, (Builtin.clear_ #[25] ty #[.slice (some ⟨g, i * 3, none⟩) (n - i) d]).run Try.prog w = .ok (.tuple #[]) w') ∧ w'.ownsRow base 58 3 (.slice (some ⟨g, 0, none⟩) i c) i ((Q.take i).flatMap cF) ∧ w.grownBy w' (some g) := by
  rcases h.2 with ⟨h0, _⟩ | ⟨g', cap', cur, hv, hbg, hg, hnc, hcm, hcs, htake⟩
  · cases h0
  · injection hv with h1 _ h2
    injection h1 with h1; injection h1 with h1
    subst h1 h2
    have hcl : cur.toList.length = c * 3 := by rw [Array.length_toList, hcs]
    refine ⟨_, fun ty d => run_clearK w 25 58 ty (.agg #[.int .i64 0, .slice none 0 0, .int .i64 0]) 3 Try.underlying25 Try.zeroValue58 rfl (by intro v hv; simp [Value.cells] at hv; rcases hv with rfl | rfl | rfl <;> rfl) g (i * 3) (n - i) d (by omega) cur _ hg (by rw [hcs]; omega), ⟨?_, .inr ⟨g, c, _, rfl, hbg, setRow_heap w g cur _ 58 _ hg, by omega, hcm, ?_, ?_⟩⟩, grown_setRow w g _⟩
    · rw [flat_length cF 3 (fun _ => rfl), List.length_take]; omega
    · simp only [List.size_toArray, List.length_append, List.length_take, List.length_drop, hcl, Array.length_toList, size_zeroCells]
      show min (i * 3) (c * 3) + (n - i) * 3 + _ = _
      omega
    · show (cur.toList.take (i * 3) ++ _ ++ _).take (i * 3) = _
      rw [List.append_assoc, List.take_append_of_le_length (by rw [List.length_take, hcl]; omega), List.take_take, Nat.min_self, ← cF_take, ← htake, List.take_take]
      congr 1
      omega
def Deleted (base : Nat) (R : List (PF × Value)) (w : World) (v : Value) (e : Ending) (w' : World) : Prop := ∃ v', e = .returned v' ∧ w'.ownsRow base 58 3 v' R.length (R.flatMap cF) ∧ w.grownBy w' v.ownBlock ∧ v'.ownBlock = v.ownBlock
set_option maxRecDepth 100000 in
set_option maxHeartbeats 4000000 in
theorem deleteFunc_c {w : World} {base b vb n c : Nat} {A : Option Addr} {P : List (PF × Value)} {ids : List Nat} (hown : w.ownsRow base 58 3 (.slice A n c) n (P.flatMap cF)) (hm : Met w b ids) (hv : w.cell? ⟨vb, 0, none⟩ = some (.map (some b))) (hP : P.length = n) (hn : n ≤ 1000) (hids2 : ∀ p ∈ P, p.1.id ≤ 1099511627776 ∧ ∃ Z d z, p.2 = .slice Z d z)
    (hb : some b ≠ (Value.slice A n c).ownBlock) (hvb : some vb ≠ (Value.slice A n c).ownBlock) :
    Calls Try.prog 47 #[.slice A n c, .func (.func 48) #[] #[.pointer (some ⟨vb, 0, none⟩)]] w (Deleted base (P.filter (keepF ids)) w (.slice A n c)) := by
  have hids : ∀ p ∈ P, p.1.id ≤ 1099511627776 ∧ p.2.oneCell' = true := fun p hp => ⟨(hids2 p hp).1, by obtain ⟨_, Z, d, z, e⟩ := hids2 p hp; rw [e]; rfl⟩
  by_cases hall : ∀ p ∈ P, keepF ids p = true
  · have hi := indexNone_c hown hm hv hP hn hids hall
    rw [List.filter_eq_self.2 hall]
    have HR : Hid (∀ W, Below w.heap.size w W → Deleted base P w (.slice A n c) (.returned (.slice A n c)) W) := Lib.hid fun W h => ⟨_, rfl, by rw [hP]; exact own_below hown h, grown_of_below h _, rfl⟩
    clear hown hm hv hP hids hids2 hb hvb hall
    go_enter Try.func47, Try.ntmps47
    go_wp2_with (go_at_call 57; refine hi.mono ?_; rintro e w1 ⟨rfl, hb1⟩)
    go_ret
    exact HR.out _ hb1
  · obtain ⟨p0, hp0, hk0⟩ : ∃ p ∈ P, keepF ids p = false := by
      simp only [Classical.not_forall] at hall
      obtain ⟨p, hp, hk⟩ := hall
      exact ⟨p, hp, by simpa using hk⟩
    obtain ⟨m, hm0⟩ : ∃ m, P.findIdx (fun p => !keepF ids p) = m := ⟨_, rfl⟩
    have hmn : m < n := by rw [← hm0, ← hP]; exact List.findIdx_lt_length_of_exists ⟨p0, hp0, by simp [hk0]⟩
    have hat : ∀ p, P[m]? = some p → keepF ids p = false := fun p hp => by
      have h1 := List.findIdx_getElem (p := fun p => !keepF ids p) (xs := P) (w := by rw [hm0, hP]; exact hmn)
      have h2 := (List.getElem?_eq_some_iff.1 hp).2
      simp only [hm0] at h1
      rw [h2] at h1
      simpa using h1
    have hbf : ∀ k p, k < m → P[k]? = some p → keepF ids p = true := fun k p hk hp => by
      have h1 := List.not_of_lt_findIdx (p := fun p => !keepF ids p) (xs := P) (i := k) (by rw [hm0]; exact hk)
      have h2 := (List.getElem?_eq_some_iff.1 hp).2
      rw [h2] at h1
      simpa using h1
    have hi := indexAt_c hown hm hv hP hn hids hmn hbf hat
    obtain ⟨pm, hpm⟩ : ∃ p, P[m]? = some p := ⟨_, List.getElem?_eq_getElem (by rw [hP]; exact hmn)⟩
    obtain ⟨g, rfl, hgl, _⟩ := own_file (P := P) (f := pm.1) (u := pm.2) hown hpm
    have hcn : n ≤ c := by obtain ⟨_, _, e, h, _⟩ := own_form hown; injection e with _ _ e; omega
    have hcm : c ≤ 9223372036854775807 := by obtain ⟨_, _, e, _, h⟩ := own_form hown; injection e with _ _ e; unfold maxLen at h; omega
    have hst : DelSt P P ids n m (m + 1) := ⟨hP, by
      rw [List.take_add_one, hpm, List.filter_append, List.filter_eq_self.2 fun p hp => by
        obtain ⟨k, hk⟩ := List.getElem?_of_mem hp
        have hkm : k < m := by have := (List.getElem?_eq_some_iff.1 hk).1; rw [List.length_take] at this; omega
        rw [List.getElem?_take, if_pos hkm] at hk
        exact hbf k p hkm hk]
      simp [hat pm hpm], rfl⟩
    have HL := Lib.hid (fun (W : World) (hgr : w.grownBy W (some g)) (i : Nat) (u : Value) (s : Int) (hi : i ≤ 1099511627776) => led_c (i := i) (u := u) (s := s) (hm.kept hgr hb) (((grown_cells hgr (World.block_lt_of_cell? w _ hv) hvb).1 0).trans hv) hi)
    have HO := Lib.hid hown; have HI := Lib.hid hids2; have HP := Lib.hid hP; have HS := Lib.hid hst
    have eg := eg_led
    have hm1 : (((m : Nat) : Int) == -1) = false := by simp
    clear hown hm hv hids hids2 hall hp0 hk0 hm0 hat hbf hpm hst hb hvb hP
    go_enter Try.func47, Try.ntmps47
    go_wp2_with (go_at_call 57; refine hi.mono ?_; rintro e w1 ⟨rfl, hb1⟩)
    have HB1 := Lib.hid hb1
    clear hb1
    go_loopw [5, 6, 7] (fun s5 s6 _ wr => ∃ (i j : Nat) (Q : List (PF × Value)), i < j ∧ j ≤ n ∧ s5 = .int .i64 i ∧ s6 = .int .i64 j ∧ Hid (DelSt P Q ids n i j) ∧ Hid (wr.ownsRow base 58 3 (.slice (some ⟨g, 0, none⟩) n c) n (Q.flatMap cF)) ∧ Hid (w.grownBy wr (some g))) (fun _ s6 _ _ => n - (intOf s6).toNat)
    case atStart => exact ⟨m, m + 1, P, Nat.lt_succ_self m, by omega, rfl, by go_num, HS, Lib.hid (own_below HO.out HB1.out), Lib.hid (grown_of_below HB1.out _)⟩
    case round =>
      obtain ⟨i, j, Q, hij, hjn, rfl, rfl, HS2, HO2, HG⟩ := hrel
      have hgw : g < wr.heap.size := Nat.lt_of_lt_of_le hgl HG.out.size
      by_cases hlt : j < n
      · obtain ⟨p, hp⟩ : ∃ p, P[j]? = some p := ⟨_, List.getElem?_eq_getElem (by rw [HP.out]; exact hlt)⟩
        obtain ⟨f, u⟩ := p
        obtain ⟨g', e', _, k0, k1, k2, hfz⟩ := own_file HO2.out (HS2.out.at_j hp)
        obtain rfl : g = g' := by injection e' with e'; injection e'
        obtain ⟨q, hq⟩ : ∃ q, Q[i]? = some q := ⟨_, List.getElem?_eq_getElem (by rw [HS2.out.len]; omega)⟩
        obtain ⟨f2, u2⟩ := q
        obtain ⟨g', e'', _, r0, r1, r2, _⟩ := own_file HO2.out hq
        obtain rfl : g = g' := by injection e'' with e''; injection e''
        obtain ⟨hi1, Z, d, z, hu1⟩ := HI.out _ (List.mem_of_getElem? hp)
        obtain rfl : u = .slice Z d z := hu1
        have ha := alloc_below wr (.cells #[.int .i64 (f.id : Nat), .slice Z d z, .int .i64 (f.sure : Nat)] 58)
        have hc := HL.out (wr.alloc (.cells #[.int .i64 (f.id : Nat), .slice Z d z, .int .i64 (f.sure : Nat)] 58)) (HG.out.trans (grown_of_below ha _)) f.id (.slice Z d z) (f.sure : Nat) hi1
        have z0 := hfz (i * 3); have z1 := hfz (i * 3 + 1); have z2 := hfz (i * 3 + 2)
        have hgw2 : g < wr.heap.size + 1 := by omega
        have HP2 := Lib.hid hp
        have HQ2 : Hid (i < Q.length) := Lib.hid (by rw [HS2.out.len]; omega)
        have HA := Lib.hid ha
        by_cases hkp : decide (f.id ∈ ids) = true
        · rw [hkp] at hc
          have HK : Hid (keepF ids (f, .slice Z d z) = true) := Lib.hid hkp
          clear hp hq hi1 hkp e' e'' hfz ha
          go_wp2_with (go_at_fn 48; refine hc.mono ?_; rintro e w2 ⟨rfl, hb2⟩; obtain ⟨y1, y2⟩ := bcl hb2; have HB2 := Lib.hid (bnext HA.out hb2); clear hb2)
          go_roundw
          case rel =>
            refine ⟨i + 1, j + 1, Q.set i (f, .slice Z d z), by omega, by omega, by go_num, by go_num, Lib.hid (HS2.out.keep HP2.out HK.out hij hlt), ?_, ?_⟩
            · exact Lib.hid (three_set (own_below HO2.out HB2.out) HQ2.out).1
            · exact Lib.hid ((HG.out.trans (grown_of_below HB2.out _)).trans (three_set (f := f) (u := .slice Z d z) (own_below HO2.out HB2.out) HQ2.out).2)
          case measure => simp [intOf]; omega
        · have hkp : decide (f.id ∈ ids) = false := by simpa using hkp
          rw [hkp] at hc
          have HK : Hid (keepF ids (f, .slice Z d z) = false) := Lib.hid hkp
          clear hp hq hi1 hkp e' e'' hfz ha r0 r1 r2
          go_wp2_with (go_at_fn 48; refine hc.mono ?_; rintro e w2 ⟨rfl, hb2⟩; have HB2 := Lib.hid (bnext HA.out hb2); clear hb2)
          go_roundw
          case rel => exact ⟨i, j + 1, Q, by omega, by omega, rfl, by go_num, Lib.hid (HS2.out.drop HP2.out HK.out), Lib.hid (own_below HO2.out HB2.out), Lib.hid (HG.out.trans (grown_of_below HB2.out _))⟩
          case measure => simp [intOf]; omega
      · obtain rfl : j = n := by omega
        obtain ⟨w9, hclr, ho9, hg9⟩ := clear_files HO2.out hij HS2.out.len
        have HR : Hid (Deleted base (P.filter (keepF ids)) w (.slice (some ⟨g, 0, none⟩) j c) (.returned (.slice (some ⟨g, 0, none⟩) i c)) w9) := Lib.hid (by
          have e1 : Q.take i = P.filter (keepF ids) := by rw [HS2.out.head, List.take_of_length_le (by rw [HP.out]; exact Nat.le_refl _)]
          have e2 : (P.filter (keepF ids)).length = i := by rw [← e1, List.length_take, HS2.out.len]; omega
          rw [e1] at ho9
          exact ⟨_, rfl, by rw [e2]; exact ho9, HG.out.trans hg9, rfl⟩)
        have hci : ¬ c = i := by omega
        clear ho9 hg9
        go_wp2_with (refine wpList_clear_eq rfl (.tmp 38) 25 rfl _ rfl (hclr _ _) ?_)
        go_ret
        exact HR.out
end Go.Proofs.Ytmkjjcogheidmaa.DP
