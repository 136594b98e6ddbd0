/-
  Texts of the trie's proofs, merged: TriWA, TriWB, TrlEx.
-/
import Derived.Test.YtbfbjalnahngjaaGreatDoorTriQ16
import Derived.Test.YtbfbjalnahngjaaGreatDoorTriQ13
import Derived.Test.YtbfbjalnahngjaaGreatDoorTriQ5
import Derived.Laws.OwnMore
set_option linter.unusedSimpArgs false
set_option linter.unusedVariables false
namespace Go.Proofs.YtbfbjalnahngjaaGreatDoor.IW
open Go.RowKit GR IP TP TR
/-- A row of texts that a statement writes out. -/
theorem lit_out (w : World) (B : Nat) (hB : B ≤ w.heap.size) (ls : List (List Nat)) (hl : 0 < ls.length) (hm : ls.length ≤ 1000) : TxNew B (w.alloc (.cells (txC ls).toArray 9)) (.slice (some ⟨w.heap.size, 0, none⟩) ls.length ls.length) ls := by
  refine ⟨by rw [txC_length]; omega, Or.inr ⟨w.heap.size, ls.length, (txC ls).toArray, rfl, hB, ?_, Nat.le_refl _, by unfold maxLen; omega, ?_, ?_⟩⟩
  · show (w.heap.push _)[w.heap.size]? = _
    exact Array.getElem?_push_size
  · simp [txC_length]
  · rw [Nat.mul_one, List.take_of_length_le (by simp [txC_length])]
theorem hit_out (w : World) (H : List Hit3) : HtOut (w.alloc (.cells (htC H).toArray 53)) (.slice (some ⟨w.heap.size, 0, none⟩) H.length H.length) H := by
  refine ⟨_, _, rfl, Nat.le_refl _, fun _ => ⟨_, rfl, fun k h hk => ?_⟩⟩
  obtain ⟨a, b, c⟩ := htC_at H k h hk
  have hh := holds_alloc w (htC H) 53
  exact ⟨hh _ _ a, hh _ _ b, hh _ _ c⟩
set_option maxRecDepth 100000 in
set_option maxHeartbeats 4000000 in
theorem alive_c (w : World) (hm : Ml w) : Calls Tryz.prog 7 #[] w fun e w' => e = .returned (.bool true) ∧ Below w.heap.size w w' := by
  have hb0 := alloc_below w (.cells (txC [aB, aCD, aC]).toArray 9)
  have B1 := Lib.hid (build_c [aB, aCD, aC] (by decide) (by decide) _ (w.alloc (.cells (txC [aB, aCD, aC]).toArray 9)) (hm.below hb0) (TxArg.of (TxOut.of (lit_out w w.heap.size (Nat.le_refl _) [aB, aCD, aC] (by decide) (by decide)))))
  rw [alive_bld] at B1
  have HB0 := Lib.hid hb0
  have HM := Lib.hid hm
  obtain ⟨w0, hw0⟩ : ∃ w0, w.alloc (.cells (txC [aB, aCD, aC]).toArray 9) = w0 := ⟨_, rfl⟩
  have hw1 : w.alloc (.cells #[.string ⟨#[97, 46, 98]⟩, .string ⟨#[97, 46, 99, 46, 100]⟩, .string ⟨#[97, 46, 99]⟩] 9) = w0 := hw0
  rw [hw0] at B1 HB0
  have B1 : Hid (Calls Tryz.prog 17 #[.slice (some ⟨w.heap.size, 0, none⟩) 3 3] w0 _) := B1
  clear hb0 hm hw0
  go_enter Tryz.func7, Tryz.ntmps7
  go_wp2_with fail
  try rw [hw1]
  refine B1.out.mono ?_; rintro _ w1 ⟨hb1, hr⟩
  have HB1 := Lib.hid (bnext HB0.out hb1)
  rcases hr with ⟨-, t, F, rfl, ht, -⟩ | ⟨hr, -⟩
  · have HT := Lib.hid ht
    have FC := fun (W : World) (hb : Below w1.heap.size w1 W) => find_c (w := W) ht.pl (ht.below hb (Nat.le_refl _)).v (ht.below hb (Nat.le_refl _)).lt ⟨#[97, 46, 42]⟩ (by decide) (HM.out.below (bnext HB1.out hb))
    have NC := fun (W : World) (hb : Below w1.heap.size w1 W) => nodes_c' (w := W) ht.pl (ht.below hb (Nat.le_refl _)).v (ht.below hb (Nat.le_refl _)).lt ⟨#[97, 46, 42]⟩ (by decide) (HM.out.below (bnext HB1.out hb))
    simp only [show bs ⟨#[97, 46, 42]⟩ = aStar from rfl, star_err, if_true, alive_found] at FC NC
    have FF := Lib.hid (FC w1 (Below.refl _ _))
    have NN := Lib.hid NC
    clear FC NC ht hb1
    go_wp2_with fail
    refine FF.out.mono ?_; rintro _ w2 ⟨u2, rfl, hu2, hb2⟩
    have HB2 := Lib.hid (bnext HB1.out hb2)
    have N2 := Lib.hid (NN.out w2 hb2)
    have HU2 := Lib.hid (TxOut.of hu2)
    obtain ⟨A2, c2, rfl, -, -⟩ := hu2.form
    clear hu2 hb2
    go_wp2_with fail
    refine N2.out.mono ?_; rintro _ w3 ⟨u3, H, rfl, ho3, hh3, -, hb3⟩
    obtain rfl := (hh3 (by first | rfl | trivial)).unique alive_hits
    have HB3 := Lib.hid (bnext HB2.out hb3)
    have HU3 := Lib.hid ho3
    obtain ⟨A3, c3, rfl, -, -⟩ := id ho3
    have hb4 := alloc_below w3 (.cells (txC [aB, aC]).toArray 9)
    have TC := Lib.hid (GR.texts_c (l := [aB, aC]) (by decide) ((HU2.out.below hb3).below hb4) (TxOut.of (lit_out w3 w3.heap.size (Nat.le_refl _) [aB, aC] (by decide) (by decide))))
    have HB4 := Lib.hid (bnext HB3.out hb4)
    have HU4 := Lib.hid (ho3.below hb4)
    obtain ⟨w4, hw4⟩ : ∃ w4, w3.alloc (.cells (txC [aB, aC]).toArray 9) = w4 := ⟨_, rfl⟩
    have hw5 : w3.alloc (.cells #[.string ⟨#[97, 46, 98]⟩, .string ⟨#[97, 46, 99]⟩] 9) = w4 := hw4
    rw [hw4] at TC HB4 HU4
    have TC : Hid (Calls Tryz.prog 24 #[.slice A2 2 c2, .slice (some ⟨w3.heap.size, 0, none⟩) 2 2] w4 _) := TC
    clear hw4 hb3 hb4 ho3 hh3 hw1
    go_wp2_with fail
    try rw [hw5]
    refine TC.out.mono ?_; rintro _ w5 ⟨rfl, hb5⟩
    have hb6 := alloc_below w5 (.cells (htC [(aB, true, false), (aC, true, true)]).toArray 53)
    have HC := Lib.hid (TR.hits_c (H := [(aB, true, false), (aC, true, true)]) (by decide) ((HU4.out.below hb5).below hb6) (hit_out w5 _))
    have HB6 := Lib.hid (bnext (bnext HB4.out hb5) hb6)
    obtain ⟨w6, hw6⟩ : ∃ w6, w5.alloc (.cells (htC [(aB, true, false), (aC, true, true)]).toArray 53) = w6 := ⟨_, rfl⟩
    have hw7 : w5.alloc (.cells #[.string ⟨#[97, 46, 98]⟩, .bool true, .bool false, .string ⟨#[97, 46, 99]⟩, .bool true, .bool true] 53) = w6 := hw6
    rw [hw6] at HC HB6
    have HC : Hid (Calls Tryz.prog 25 #[.slice A3 2 c3, .slice (some ⟨w5.heap.size, 0, none⟩) 2 2] w6 _) := HC
    clear hw6 hb5 hb6 hw5
    go_wp2_with fail
    try rw [hw7]
    refine HC.out.mono ?_; rintro _ w7 ⟨rfl, hb7⟩
    have HB7 := Lib.hid (bnext HB6.out hb7)
    clear hb7 hw7
    go_wp2
    go_ret
    exact ⟨rfl, HB7.out⟩
  · exact absurd rfl hr
end Go.Proofs.YtbfbjalnahngjaaGreatDoor.IW
namespace Go.Proofs.YtbfbjalnahngjaaGreatDoor.IW
open Go.RowKit GR IP TP TR
theorem nil_v (N : Nat) (w : World) : TrV N w (.pointer none) (fun _ => False) [] := .inl ⟨rfl, rfl⟩
set_option maxRecDepth 100000 in
set_option maxHeartbeats 8000000 in
theorem trieNone_c (P S : ByteArray) (w : World) (hm : Ml w) : Calls Tryz.prog 6 #[.string P, .string S] w fun e w' => e = .returned (.bool true) ∧ Below w.heap.size w w' := by
  have AL := Lib.hid (alive_c w hm)
  have HM := Lib.hid hm
  clear hm
  go_enter Tryz.func6, Tryz.ntmps6
  go_wp2_with fail
  refine AL.out.mono ?_; rintro _ w1 ⟨rfl, hb1⟩
  have HB1 := Lib.hid hb1
  clear hb1 AL
  by_cases hl : 2000 < P.size
  · as_aux_lemma =>
      have hi : (2000 : Int) < (P.size : Int) := by omega
      go_wp2
      go_ret
      exact ⟨rfl, HB1.out⟩
  · have hi : ¬ (2000 : Int) < (P.size : Int) := by omega
    by_cases hl2 : 2000 < S.size
    · as_aux_lemma =>
        have hi2 : (2000 : Int) < (S.size : Int) := by omega
        go_wp2
        go_ret
        exact ⟨rfl, HB1.out⟩
    · have hi2 : ¬ (2000 : Int) < (S.size : Int) := by omega
      have I1 := Lib.hid (insert_none S w1)
      have H1 := has_c pl_nil (nil_v 0 w1) S (by omega) (HM.out.below HB1.out)
      rw [decide_eq_false (show ¬ bs S ∈ [] by simp)] at H1
      have H1 := Lib.hid H1
      have L1 := Lib.hid (fun W => len_c pl_nil (nil_v 0 W) (fun _ h => h.elim))
      have P1 := Lib.hid (fun W => paths_c pl_nil (fun _ h => absurd h (by simp)) (nil_v 0 W) (fun _ h => h.elim))
      have D1 := Lib.hid (fun W => rdelete_nil S (by omega) W)
      have F1 := Lib.hid (fun (W : World) (h : Ml W) => find_c (w := W) pl_nil (nil_v 0 W) (fun _ h => h.elim) P (by omega) h)
      have N1 := Lib.hid (fun (W : World) (h : Ml W) => nodes_c' (w := W) pl_nil (nil_v 0 W) (fun _ h => h.elim) P (by omega) h)
      have R1 := Lib.hid (fun (W : World) => rnodes_c P (by omega) W)
      have E1 := Lib.hid (fun (W : World) (h : Ml W) => delete_no (w := W) (nil_v 0 W) S (by omega) (by simp) h)
      have HF0 := Lib.hid (show (if tErr (bs P) = 0 then tFound [] (bs P) else []) = ([] : List (List Nat)) by split <;> rfl)
      clear hl hl2
      go_wp2_with fail
      refine I1.out.mono ?_; rintro _ w2 ⟨rfl, rfl⟩
      go_wp2_with fail
      refine H1.out.mono ?_; rintro _ w3 ⟨rfl, hb3⟩
      have HB3 := Lib.hid (bnext HB1.out hb3)
      clear hb3 H1
      go_wp2_with fail
      refine (L1.out w3).mono ?_; rintro _ w4 ⟨rfl, hb4⟩
      have HB4 := Lib.hid (bnext HB3.out hb4)
      clear hb4 L1
      go_wp2_with fail
      refine (P1.out w4).mono ?_; rintro _ w5 ⟨u5, rfl, hu5, hb5⟩
      have HB5 := Lib.hid (bnext HB4.out hb5)
      obtain ⟨A5, c5, rfl, -, -⟩ := hu5.form
      clear hb5 P1 hu5
      go_wp2_with fail
      refine (D1.out w5).mono ?_; rintro _ w6 ⟨E, rfl, hE, hb6⟩
      have HB6 := Lib.hid (bnext HB5.out hb6)
      have HE := Lib.hid hE
      clear hb6 D1 hE
      have F6 := Lib.hid (F1.out w6 (HM.out.below HB6.out))
      go_wp2_with fail
      refine F6.out.mono ?_; rintro _ w7 ⟨u7, rfl, hu7, hb7⟩
      rw [HF0.out] at hu7
      have HB7 := Lib.hid (bnext HB6.out hb7)
      obtain ⟨A7, c7, rfl, -, -⟩ := hu7.form
      have N7 := Lib.hid (N1.out w7 (HM.out.below HB7.out))
      clear hb7 F1 F6 hu7
      go_wp2_with fail
      refine N7.out.mono ?_; rintro _ w8 ⟨u8, H, rfl, ho8, h81, h82, hb8⟩
      have hH : H = [] := by
        by_cases e : tErr (bs P) = 0
        · exact (h81 e).unique hits_nil
        · exact h82 e
      subst hH
      obtain ⟨A8, c8, rfl, -, -⟩ := ho8
      have HB8 := Lib.hid (bnext HB7.out hb8)
      have R8 := Lib.hid (R1.out w8)
      clear hb8 N1 N7 h81 h82 R1
      go_wp2_with fail
      refine R8.out.mono ?_; rintro _ w9 ⟨u9, rfl, -, -, hb9⟩
      have HB9 := Lib.hid (bnext HB8.out hb9)
      have E9 := Lib.hid (E1.out w9 (HM.out.below HB9.out))
      clear hb9 R8 E1
      obtain ⟨X, hX⟩ : ∃ X, tErr (bs P) = X := ⟨_, rfl⟩
      rw [hX]
      clear hX
      go_wp2_with fail
      refine E9.out.mono ?_; rintro _ w10 ⟨E', rfl, hE', hb10⟩
      obtain rfl := tNo_unique hE' HE.out
      have HB10 := Lib.hid (bnext HB9.out hb10)
      clear hb10 hE' E9
      go_wp2
      go_ret
      exact ⟨rfl, HB10.out⟩
end Go.Proofs.YtbfbjalnahngjaaGreatDoor.IW
namespace Go.Proofs.YtbfbjalnahngjaaGreatDoor
open Go.RowKit
theorem TxNew.set {B : Nat} {w : World} {g c k n : Nat} {ls : List (List Nat)} (h : TxNew B w (.slice (some ⟨g, 0, none⟩) n c) ls) (hn : ls.length = n) (t : List Nat) :
    TxNew B (w.setCell ⟨g, k, none⟩ (.string (str t))) (.slice (some ⟨g, 0, none⟩) n c) (ls.set k t) := by
  unfold TxNew at h ⊢
  subst hn
  have h2 := (World.ownsRow.stored h k (.string (str t))).1
  rw [List.length_set]
  have e : txC (ls.set k t) = (txC ls).set k (.string (str t)) := by unfold txC; rw [List.map_set]
  rw [e]
  exact h2
/-- The first i are changed. -/
def mapTo {α : Type} (F : α → α) (l : List α) (i : Nat) : List α := (l.take i).map F ++ l.drop i
theorem mapTo_zero {α : Type} (F : α → α) (l : List α) : mapTo F l 0 = l := rfl
theorem mapTo_all {α : Type} (F : α → α) (l : List α) : mapTo F l l.length = l.map F := by unfold mapTo; rw [List.take_length, List.drop_length, List.append_nil]
theorem mapTo_length {α : Type} (F : α → α) (l : List α) (i : Nat) : (mapTo F l i).length = l.length := by
  unfold mapTo
  rw [List.length_append, List.length_map, List.length_take, List.length_drop]
  omega
theorem mapTo_get {α : Type} (F : α → α) (l : List α) (i : Nat) (h : i < l.length) : (mapTo F l i)[i]? = l[i]? := by
  unfold mapTo
  rw [List.getElem?_append_right (by rw [List.length_map, List.length_take]; omega), List.length_map, List.length_take, Nat.min_eq_left (by omega), Nat.sub_self, List.getElem?_drop, Nat.add_zero]
theorem mapTo_set {α : Type} (F : α → α) (l : List α) (i : Nat) (x : α) (h : l[i]? = some x) : (mapTo F l i).set i (F x) = mapTo F l (i + 1) := by
  obtain ⟨hl, hx⟩ := List.getElem?_eq_some_iff.1 h
  unfold mapTo
  rw [List.set_append_right _ _ (by rw [List.length_map, List.length_take]; omega), List.length_map, List.length_take, Nat.min_eq_left (by omega), Nat.sub_self, List.drop_eq_getElem_cons hl, take_snoc' h, List.map_append, List.append_assoc]
  rfl
theorem drop_same {s : List Nat} {a b : Nat} (h : s.drop a = s.drop b) (ha : a ≤ s.length) (hb : b ≤ s.length) : a = b := by
  have := congrArg List.length h
  rw [List.length_drop, List.length_drop] at this
  omega
/-- What expand still has to read, up to a place, and to come to. -/
structure ExI (s : List Nat) (m k : Nat) (G OUT : List (List Nat)) : Prop where
  rd : ∃ tr, gPr false (s.drop k) = some (tr, s.drop m) ∧ Good false tr ∧ gTx tr OUT = G ∧ OUT.length * gNm tr ≤ 64
  le : k ≤ m
  pos : 1 ≤ OUT.length
  len : ∀ x ∈ OUT, x.length ≤ k
theorem ExI.few {s : List Nat} {m k : Nat} {G OUT : List (List Nat)} (h : ExI s m k G OUT) : OUT.length ≤ 64 := by
  obtain ⟨tr, _, hg, _, hn⟩ := h.rd
  have := (gNm_pos tr).1 hg
  have h2 := Nat.mul_le_mul (Nat.le_refl OUT.length) this
  omega
theorem ExI.stop {s : List Nat} {m k : Nat} {G OUT : List (List Nat)} (h : ExI s m k G OUT) (hm : m ≤ s.length) (hs : Stop (s.drop k)) : k = m ∧ OUT = G := by
  obtain ⟨tr, h1, _, h2, _⟩ := h.rd
  have e : gPr false (s.drop k) = some (.nil, s.drop k) := by
    rcases hs with e | ⟨c, t, e, hc⟩
    · rw [e]; exact gPr_nil
    · rw [e]; exact gPr_stop t hc
  rw [e] at h1
  injection h1 with h1
  injection h1 with h3 h4
  subst h3
  have := h.le
  exact ⟨drop_same h4 (by omega) hm, h2⟩
theorem ExI.atom {s : List Nat} {m k c : Nat} {G OUT : List (List Nat)} (h : ExI s m k G OUT) (hm : m ≤ s.length) (hk : k < s.length) (hc : s.getD k 0 = c) (h1 : ¬ (c = 44 ∨ c = 125)) (h2 : c ≠ 123) :
    ∃ x j, gAt (s.drop k) = some (x, j) ∧ x.txt = (s.drop k).take j ∧ 1 ≤ j ∧ k + j ≤ s.length ∧ ExI s m (k + j) G (OUT.map (· ++ x.txt)) := by
  obtain ⟨tr, ht, hgd, hG, hn⟩ := h.rd
  have e := drop_cons hk
  rw [hc] at e
  cases hg : gAt (s.drop k) with
  | none =>
    rw [e] at hg ht
    rw [gPr_atomNo h1 h2 hg] at ht
    cases ht
  | some xj =>
    obtain ⟨x, j⟩ := xj
    obtain ⟨hx1, hx2, hx3, hx4⟩ := gAt_good hg
    rw [List.length_drop] at hx4
    have hg2 := hg
    rw [e] at hg2
    have hp := gPr_atom h1 h2 hg2
    rw [← e, List.drop_drop, ht] at hp
    cases hr : gPr false (s.drop (k + j)) with
    | none => rw [hr] at hp; cases hp
    | some y =>
      obtain ⟨tr', r⟩ := y
      rw [hr] at hp
      injection hp with hp
      injection hp with hp1 hp2
      subst hp1 hp2
      obtain ⟨m', hm1, hm2, hm3, _, hgd', _⟩ := rest_is hr (by omega)
      have := drop_same hm1 hm hm3
      subst this
      have hjl : x.txt.length = j := by rw [hx2, List.length_take, List.length_drop]; omega
      refine ⟨x, j, rfl, hx2, hx3, by omega, ⟨tr', hr, hgd', hG, ?_⟩, hm2, by rw [List.length_map]; exact h.pos, fun y hy => ?_⟩
      · rw [List.length_map]; exact hn
      · obtain ⟨z, hz, rfl⟩ := List.mem_map.1 hy
        have := h.len z hz
        rw [List.length_append, hjl]
        omega
/-- What is left of alternatives. -/
structure ExW (s : List Nat) (q j : Nat) (A ALL : List (List Nat)) : Prop where
  rd : ∃ ws, gPr true (s.drop (j + 1)) = some (ws, s.drop q) ∧ Good true ws ∧ ALL ++ gTx ws [] = A ∧ ALL.length + gNm ws ≤ 64
theorem ExI.br {s : List Nat} {m k : Nat} {G OUT : List (List Nat)} (h : ExI s m k G OUT) (hm : m ≤ s.length) (hk : k < s.length) (hc : s.getD k 0 = 123) :
    ∃ q A, k + 1 ≤ q ∧ q ≤ s.length ∧ ExW s q k A [] ∧ OUT.length * A.length ≤ 64 ∧ A.length ≤ 64 ∧ 1 ≤ A.length ∧ (∀ x ∈ OUT, ∀ y ∈ A, x.length + y.length ≤ s.length) ∧ ExI s m q G (longer OUT A) := by
  obtain ⟨tr, ht, hgd, hG, hn⟩ := h.rd
  have e := drop_cons hk
  rw [hc] at e
  cases hw : gPr true (s.drop (k + 1)) with
  | none =>
    rw [e, gPr_brNo hw] at ht
    cases ht
  | some y =>
    obtain ⟨ws, r⟩ := y
    obtain ⟨hgw, hne, hstr, hlt⟩ := gPr_pt hw
    have hp := gPr_br hw
    rw [← e, ht] at hp
    cases hr : gPr false r with
    | none => rw [hr] at hp; cases hp
    | some z =>
      obtain ⟨tr', r'⟩ := z
      rw [hr] at hp
      injection hp with hp
      injection hp with hp1 hp2
      subst hp1 hp2
      have hl := congrArg List.length hstr
      rw [List.length_drop, List.length_append] at hl
      have hrq : r = s.drop (k + 1 + (gStr ws).length) := by
        rw [← List.drop_drop, hstr, List.drop_left']
        rfl
      obtain ⟨q, hq⟩ : ∃ q, k + 1 + (gStr ws).length = q := ⟨_, rfl⟩
      rw [hq] at hrq
      subst hrq
      obtain ⟨m', hm1, hm2, hm3, _, hgd', _⟩ := rest_is hr (by omega)
      have := drop_same hm1 hm hm3
      subst this
      have hnm : OUT.length * (gNm ws * gNm tr') ≤ 64 := hn
      have hp1 := (gNm_pos tr').1 hgd'
      have hp2 := (gNm_pos ws).2 hgw hne
      have hal : (gTx ws []).length = gNm ws := (gTx_length ws).2 hgw
      have h3 : OUT.length * gNm ws ≤ 64 := by
        rw [← Nat.mul_assoc] at hnm
        have := Nat.mul_le_mul (Nat.le_refl (OUT.length * gNm ws)) hp1
        omega
      have h4 : gNm ws ≤ 64 := by
        have := Nat.mul_le_mul h.pos (Nat.le_refl (gNm ws))
        omega
      have hylen : ∀ y ∈ gTx ws [], y.length ≤ (gStr ws).length := fun y hy => by
        obtain ⟨e', he', rfl⟩ := ((gTx_mem ws).2 hgw y).1 hy
        exact gEx_len ws (.inr hgw) e' he'
      refine ⟨q, gTx ws [], by omega, by omega, ⟨ws, hw, hgw, rfl, by simpa using h4⟩, by rw [hal]; exact h3, by rw [hal]; exact h4, by rw [hal]; exact hp2, fun x hx y hy => ?_, ⟨tr', hr, hgd', hG, ?_⟩, hm2, ?_, fun y hy => ?_⟩
      · have h5 := h.len x hx
        have h6 := hylen y hy
        omega
      · rw [longer_length, hal, Nat.mul_assoc]; exact hnm
      · rw [longer_length, hal]
        have := Nat.mul_le_mul h.pos hp2
        omega
      · obtain ⟨a, ha, hy2⟩ := List.mem_flatMap.1 hy
        obtain ⟨b, hb, rfl⟩ := List.mem_map.1 hy2
        have h5 := h.len a ha
        have h6 := hylen b hb
        rw [List.length_append]
        omega
theorem ExW.step {s : List Nat} {q j : Nat} {A ALL : List (List Nat)} (h : ExW s q j A ALL) (hq : q ≤ s.length) (hj : j + 1 ≤ s.length) :
    ∃ t m, gPr false (s.drop (j + 1)) = some (t, s.drop m) ∧ j + 1 ≤ m ∧ m < s.length ∧ gNm t ≤ 64 ∧ (gTx t [[]]).length = gNm t ∧ ALL.length + gNm t ≤ 64 ∧
      ((s.getD m 0 = 125 ∧ m + 1 = q ∧ ALL ++ gTx t [[]] = A) ∨ (s.getD m 0 = 44 ∧ ExW s q m A (ALL ++ gTx t [[]]))) := by
  obtain ⟨ws, hw, hgw, hA, hn⟩ := h.rd
  cases hp : gPr false (s.drop (j + 1)) with
  | none => rw [gPr_wayNo hp] at hw; cases hw
  | some y =>
    obtain ⟨t, r⟩ := y
    obtain ⟨m, hr, hm1, hm2, hst, hgt, _⟩ := rest_is hp hj
    subst hr
    have htl : (gTx t [[]]).length = gNm t := by rw [(gTx_length t).1 hgt]; exact Nat.one_mul _
    have hml : m < s.length := by
      rcases Nat.lt_or_ge m s.length with h | h
      · exact h
      · rw [List.drop_eq_nil_of_le h] at hp
        rw [gPr_wayOpen hp] at hw
        cases hw
    have e := drop_cons hml
    obtain ⟨c, hc⟩ : ∃ c, s.getD m 0 = c := ⟨_, rfl⟩
    rw [hc] at e
    have hc2 : c = 44 ∨ c = 125 := by
      rcases hst with h | ⟨c', t', h, hc'⟩
      · rw [e] at h; cases h
      · rw [e] at h
        injection h with h _
        omega
    by_cases h125 : c = 125
    · subst h125
      have hp2 := hp
      rw [e] at hp2
      rw [gPr_wayEnd hp2] at hw
      injection hw with hw
      injection hw with hw1 hw2
      subst hw1
      have hA2 : ALL ++ (gTx t [[]] ++ []) = A := hA
      rw [List.append_nil] at hA2
      have hn2 : ALL.length + (gNm t + 0) ≤ 64 := hn
      exact ⟨t, m, rfl, hm1, hml, by omega, htl, by omega, .inl ⟨hc, drop_same hw2 (by omega) hq, hA2⟩⟩
    · obtain rfl : c = 44 := by omega
      have hp2 := hp
      rw [e] at hp2
      rw [gPr_wayMore' hp2 (by decide) (by rw [List.length_drop, List.length_drop]; omega)] at hw
      cases hr : gPr true (s.drop (m + 1)) with
      | none => rw [hr] at hw; cases hw
      | some z =>
        obtain ⟨ws', r⟩ := z
        rw [hr] at hw
        injection hw with hw
        injection hw with hw1 hw2
        subst hw1 hw2
        have hA2 : ALL ++ (gTx t [[]] ++ gTx ws' []) = A := hA
        have hn2 : ALL.length + (gNm t + gNm ws') ≤ 64 := hn
        exact ⟨t, m, rfl, hm1, hml, by omega, htl, by omega, .inr ⟨hc, ws', hr, hgw.2, by rw [List.append_assoc]; exact hA2, by rw [List.length_append, htl]; omega⟩⟩
theorem ExI.start {s : List Nat} {a m : Nat} {t : Tr} (h : gPr false (s.drop a) = some (t, s.drop m)) (ha : a ≤ s.length) (hm : m ≤ s.length) (hn : gNm t ≤ 64) : ExI s m a (gTx t [[]]) [[]] := by
  obtain ⟨m', h1, h2, h3, _, hg, _⟩ := rest_is h ha
  have := drop_same h1 hm h3
  subst this
  exact ⟨⟨t, h, hg, rfl, by simpa using hn⟩, h2, Nat.le_refl _, fun x hx => by obtain rfl := List.mem_singleton.1 hx; exact Nat.zero_le _⟩
end Go.Proofs.YtbfbjalnahngjaaGreatDoor
