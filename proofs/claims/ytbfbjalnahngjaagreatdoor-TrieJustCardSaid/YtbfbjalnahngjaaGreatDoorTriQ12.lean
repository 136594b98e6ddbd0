/-
  Texts of the trie's proofs, merged: TriPH, TriPI, TriF, TrlRA.
-/
import Derived.Test.YtbfbjalnahngjaaGreatDoorTriQ11
import Derived.Test.YtbfbjalnahngjaaGreatDoorTriQ10
import Derived.Test.YtbfbjalnahngjaaGreatDoorRows
import Derived.Test.YtbfbjalnahngjaaGreatDoorTie
import Derived.Test.YtbfbjalnahngjaaGreatDoorCards
import Derived.SliceStrings
import Derived.LaidMore
import Derived.Lay
import Derived.SevenTiedAt
import Derived.Stop.Joined
import Derived.Stop.LaidErr
import Derived.Shelf.Vars
import Derived.HandedShaped
import Derived.WalkKit
import Derived.ProofKit
import Derived.OpenShut
import Derived.ChangeMaps5
import Derived.Lib.SmallJoins
import Derived.Lib.LaidTab
import Derived.Laws.Cover2
import Derived.Laws.IdiomArrays
import Derived.Deep.Slices
import Derived.Carry
import Derived.Maps.StringElems
import Derived.Test.YtbfbjalnahngjaaGreatDoorTriQ7
set_option linter.unusedSimpArgs false
set_option linter.unusedVariables false
namespace Go.Proofs.YtbfbjalnahngjaaGreatDoor
open Go.RowKit Go.Maps Go.WideMaps GR
/-- A trie of one's own, at block t. -/
structure TrO (N : Nat) (w : World) (t : Nat) (F : Nat → Prop) (l : List (List Nat)) : Prop where
  nd : NdAt N w 8 t F (Sof l)
  lt : ∀ x, F x → x < w.heap.size
  pl : Pl l
  by_ : ∀ x ∈ l, ∀ c ∈ x, c < 256
theorem TrO.v {N : Nat} {w : World} {t : Nat} {F : Nat → Prop} {l : List (List Nat)} (h : TrO N w t F l) : TrV N w (.pointer (some ⟨t, 0, none⟩)) F l := .inr ⟨t, rfl, h.nd, h.lt⟩
theorem TrO.below {N N' : Nat} {w w' : World} {t : Nat} {F : Nat → Prop} {l : List (List Nat)} (h : TrO N w t F l) (hb : Below w.heap.size w w') (hN : N ≤ N') : TrO N' w' t F l :=
  ⟨h.nd.keep hN (fun x hx => hb.block x (h.lt x hx)), fun x hx => by have := h.lt x hx; have := hb.size; omega, h.pl, h.by_⟩
theorem tIns_bytes {l : List (List Nat)} {x : List Nat} (h : ∀ t ∈ l, ∀ c ∈ t, c < 256) (hx : ∀ c ∈ x, c < 256) : ∀ t ∈ (tIns l x).1, ∀ c ∈ t, c < 256 := by
  unfold tIns
  split
  · split
    · exact h
    · split
      · exact h
      · intro t ht
        rcases (mem_with l x t).1 ht with rfl | ht
        · exact hx
        · exact h t ht
  · exact h
theorem cut_bytes {s : List Nat} (h : tRight s = true) : IP.Byts (tCut s 8) := fun n hn => by
  obtain ⟨a, _, c⟩ := tName_bytes ((tRight_names h).2 n hn)
  exact ⟨a, by omega⟩
namespace IP
open TP
set_option maxRecDepth 100000 in
set_option maxHeartbeats 2000000 in
theorem insert_c (N t : Nat) (F : Nat → Prop) (l : List (List Nat)) (p : ByteArray) (hp : p.size ≤ 100000) (w : World) (hm : Ml w) (h : TrO N w t F l) (hN : N < 100000) :
    Calls Tryz.prog 12 #[.pointer (some ⟨t, 0, none⟩), .string p] w fun e w' => e = .returned (.int .i64 (tIns l (bs p)).2) ∧ ∃ F', TrO (N + 1) w' t F' (tIns l (bs p)).1 ∧ Frm F w w' ∧ ∀ x, F' x → F x ∨ w.heap.size ≤ x := by
  have SC := split_c p hp w hm
  have LC := Lib.hid (fun (W : World) (hb : Below w.heap.size w W) => len_c h.pl (h.below hb (Nat.le_refl _)).v (h.below hb (Nat.le_refl _)).lt)
  have HH := Lib.hid h
  have SAME := Lib.hid (fun (W : World) (hb : Below w.heap.size w W) => (⟨F, h.below hb (Nat.le_succ N), Frm.of_below hb, fun x hx => .inl hx⟩ : ∃ F', TrO (N + 1) W t F' l ∧ Frm F w W ∧ ∀ x, F' x → F x ∨ w.heap.size ≤ x))
  obtain ⟨s, hs⟩ : ∃ s, bs p = s := ⟨_, rfl⟩
  have hsb : ∀ c ∈ s, c < 256 := by rw [← hs]; exact bs_mem p
  rw [hs] at SC ⊢
  clear hm h hp hs
  by_cases hr : tRight s = true
  · have HR := Lib.hid hr
    rw [tPErr_right hr] at SC
    have HSC := Lib.hid SC
    have HSB := Lib.hid hsb
    have HO := Lib.hid (fun (W : World) (hb : Below w.heap.size w W) (v : Value) (tv : TxOut W v (tCut s 8)) => holds_c 8 N t F (Sof l) (tCut s 8) (cut_bytes hr) (by have := (tRight_names hr).1; omega) v W (HH.out.below hb (Nat.le_refl _)).nd tv)
    rw [sof_cut] at HO
    have AC := Lib.hid (fun (W : World) (hb : Below w.heap.size w W) (g cap : Nat) (hc : (tCut s 8).length ≤ cap) (ta : TxAt W g (tCut s 8)) (hg : w.heap.size ≤ g) => add_c 8 N t F (Sof l) (tCut s 8) (cut_bytes hr) (tCut_ne s 8) (tRight_names hr).2 (tRight_names hr).1 (by have := (tRight_names hr).1; omega) hN g cap W hc (HH.out.below hb (Nat.le_refl _)).nd (HH.out.below hb (Nat.le_refl _)).lt ta (fun e => by have := HH.out.lt g e; omega))
    have hneL : 0 < (tCut s 8).length := List.length_pos_iff.2 (tCut_ne s 8)
    clear SC hsb
    by_cases hx : s ∈ l
    · have e1 : tIns l s = (l, 5) := by unfold tIns; rw [if_pos hr, if_pos hx]
      rw [decide_eq_true hx] at HO
      rw [e1]
      clear e1 hx hr
      as_aux_lemma =>
        go_enter Tryz.func12, Tryz.ntmps12
        go_wp2_with fail
        refine HSC.out.mono ?_; rintro _ w1 ⟨v, rfl, hv, _, hb1⟩
        have HB1 := Lib.hid hb1
        have H1 := Lib.hid (HO.out w1 hb1 v (TxOut.of (hv (by first | rfl | trivial))))
        clear hv hb1
        go_wp2_with fail
        refine H1.out.mono ?_; rintro _ w2 ⟨rfl, rfl⟩
        go_wp2
        go_ret
        exact ⟨rfl, SAME.out _ HB1.out⟩
    · rw [decide_eq_false hx] at HO
      by_cases h64 : 64 ≤ l.length
      · have e1 : tIns l s = (l, 11) := by unfold tIns; rw [if_pos hr, if_neg hx, if_pos h64]
        rw [e1]
        have hi : (64 : Int) ≤ (l.length : Int) := by omega
        clear e1 hx hr
        as_aux_lemma =>
          go_enter Tryz.func12, Tryz.ntmps12
          go_wp2_with fail
          refine HSC.out.mono ?_; rintro _ w1 ⟨v, rfl, hv, _, hb1⟩
          have HB1 := Lib.hid hb1
          have H1 := Lib.hid (HO.out w1 hb1 v (TxOut.of (hv (by first | rfl | trivial))))
          have L1 := Lib.hid (LC.out w1 hb1)
          clear hv hb1
          go_wp2_with fail
          refine H1.out.mono ?_; rintro _ w2 ⟨rfl, rfl⟩
          go_wp2_with fail
          refine L1.out.mono ?_; rintro _ w3 ⟨rfl, hb3⟩
          have HB3 := Lib.hid (bnext HB1.out hb3)
          clear hb3
          go_wp2
          go_ret
          exact ⟨rfl, SAME.out _ HB3.out⟩
      · have e1 : tIns l s = (tWith l s, 0) := by unfold tIns; rw [if_pos hr, if_neg hx, if_neg h64]
        have NEW := Lib.hid (fun (W w4 : World) (hb : Below w.heap.size w W) (hnd : NdAt (N + 1) w4 8 t (fun x => F x ∨ W.heap.size ≤ x) (tAdd (Sof l) (tCut s 8))) (hf : Frm F W w4) => show ∃ F', TrO (N + 1) w4 t F' (tIns l s).1 ∧ Frm F w w4 ∧ ∀ x, F' x → F x ∨ w.heap.size ≤ x from by
          refine ⟨fun x => (F x ∨ W.heap.size ≤ x) ∧ x < w4.heap.size, ⟨?_, fun x hx => hx.2, HH.out.pl.ins s, tIns_bytes HH.out.by_ HSB.out⟩, (Frm.of_below hb).trans hf (fun x hx => .inl hx), fun x hx => ?_⟩
          · rw [e1, sof_add (fun t => mem_with l s t)]
            exact hnd.cut
          · rcases hx.1 with h | h
            · exact .inl h
            · exact .inr (Nat.le_trans hb.size h))
        rw [e1] at NEW ⊢
        have hi : ¬ (64 : Int) ≤ (l.length : Int) := by omega
        clear e1 hx hr
        as_aux_lemma =>
          go_enter Tryz.func12, Tryz.ntmps12
          go_wp2_with fail
          refine HSC.out.mono ?_; rintro _ w1 ⟨v, rfl, hv, _, hb1⟩
          have hv := hv (by first | rfl | trivial)
          obtain ⟨A, c, rfl, hc, hxx⟩ := hv.form
          obtain ⟨g, rfl, hg1, hg2, hta⟩ := hxx hneL
          have HB1 := Lib.hid hb1
          have H1 := Lib.hid (HO.out w1 hb1 _ (TxOut.of hv))
          have L1 := Lib.hid (LC.out w1 hb1)
          have A1 := Lib.hid (fun (W : World) (hb3 : Below w1.heap.size w1 W) => AC.out W (bnext hb1 hb3) g c hc (hta.below hb3) hg1)
          clear hv hb1 hxx hta hg1 hg2
          obtain ⟨n, hn⟩ : ∃ n, (tCut s 8).length = n := ⟨_, rfl⟩
          rw [hn] at H1 A1 hc hneL ⊢
          clear hn
          go_wp2_with fail
          refine H1.out.mono ?_; rintro _ w2 ⟨rfl, rfl⟩
          go_wp2_with fail
          refine L1.out.mono ?_; rintro _ w3 ⟨rfl, hb3⟩
          have HB3 := Lib.hid (bnext HB1.out hb3)
          have A3 := Lib.hid (A1.out w3 hb3)
          clear hb3 A1
          go_wp2_with fail
          refine A3.out.mono ?_; rintro _ w4 ⟨rfl, hnd, hf⟩
          have NW := Lib.hid (NEW.out w3 w4 HB3.out hnd hf)
          clear hnd hf
          go_wp2
          go_ret
          exact ⟨rfl, NW.out⟩
  · have e1 : tIns l s = (l, 13) := by unfold tIns; rw [if_neg hr]
    rw [tPErr_wrong hr] at SC
    rw [e1]
    have HSC := Lib.hid SC
    clear e1 hr SC hsb
    as_aux_lemma =>
      go_enter Tryz.func12, Tryz.ntmps12
      go_wp2_with fail
      refine HSC.out.mono ?_; rintro _ w1 ⟨v, rfl, _, _, hb1⟩
      have HB1 := Lib.hid hb1
      clear hb1
      go_wp2
      go_ret
      exact ⟨rfl, SAME.out _ HB1.out⟩
set_option maxRecDepth 100000 in
/-- Into none at all. -/
theorem insert_none (p : ByteArray) (w : World) : Calls Tryz.prog 12 #[.pointer none, .string p] w fun e w' => e = .returned (.int .i64 1) ∧ w' = w := by
  go_enter Tryz.func12, Tryz.ntmps12
  go_wp2
  go_ret
  exact ⟨rfl, rfl⟩
end IP
end Go.Proofs.YtbfbjalnahngjaaGreatDoor
namespace Go.Proofs.YtbfbjalnahngjaaGreatDoor
open Go.RowKit Go.Maps Go.WideMaps GR
/-- A trie is built of paths. -/
def tBld : List (List Nat) → List (List Nat) → List (List Nat) × Int
  | l, [] => (l, 0)
  | l, p :: ps => if (tIns l p).2 = 0 then tBld (tIns l p).1 ps else ([], (tIns l p).2)
theorem tBld_yes {l ps : List (List Nat)} {k : Nat} {p : List Nat} (h : ps[k]? = some p) (h0 : (tIns l p).2 = 0) : tBld l (ps.drop k) = tBld (tIns l p).1 (ps.drop (k + 1)) := by
  have hlt := (List.getElem?_eq_some_iff.1 h).1
  have hp : ps[k] = p := (List.getElem?_eq_some_iff.1 h).2
  rw [List.drop_eq_getElem_cons hlt, hp, tBld, if_pos h0]
theorem tBld_no {l ps : List (List Nat)} {k : Nat} {p : List Nat} (h : ps[k]? = some p) (h0 : (tIns l p).2 ≠ 0) : tBld l (ps.drop k) = ([], (tIns l p).2) := by
  have hlt := (List.getElem?_eq_some_iff.1 h).1
  have hp : ps[k] = p := (List.getElem?_eq_some_iff.1 h).2
  rw [List.drop_eq_getElem_cons hlt, hp, tBld, if_neg h0]
theorem tBld_end (l ps : List (List Nat)) : tBld l (ps.drop ps.length) = (l, 0) := by rw [List.drop_length]; rfl
/-- A row of texts, wherever it lies. -/
def TxArg (w : World) (v : Value) (ls : List (List Nat)) : Prop := ∃ A c, v = .slice A ls.length c ∧ ls.length ≤ c ∧ (ls ≠ [] → ∃ b o, A = some ⟨b, o, none⟩ ∧ ∀ (k : Nat) (t : List Nat), ls[k]? = some t → w.cell? ⟨b, o + k, none⟩ = some (.string (str t)))
theorem TxArg.of {w : World} {v : Value} {ls : List (List Nat)} (h : TxOut w v ls) : TxArg w v ls := by
  obtain ⟨A, c, e, h1, h2⟩ := h
  exact ⟨A, c, e, h1, fun hn => by obtain ⟨b, hb, ha⟩ := h2 hn; exact ⟨b, 0, hb, fun k t hk => by rw [Nat.zero_add]; exact ha k t hk⟩⟩
theorem TxArg.below {w w' : World} {v : Value} {ls : List (List Nat)} (h : TxArg w v ls) (hb : Below w.heap.size w w') : TxArg w' v ls := by
  obtain ⟨A, c, e, h1, h2⟩ := h
  exact ⟨A, c, e, h1, fun hn => by obtain ⟨b, o, hb2, ha⟩ := h2 hn; exact ⟨b, o, hb2, fun k t hk => cellb hb (ha k t hk)⟩⟩
theorem trO_new (N : Nat) (w : World) : TrO N (w.alloc (.cells #[.bool false, .map none] 58)) w.heap.size (fun x => x = w.heap.size) [] :=
  ⟨NdAt.empty (IP.trie_new w) rfl, fun x hx => by rw [hx]; exact (IP.trie_new w).lt, pl_nil, fun _ h => absurd h (by simp)⟩
namespace IP
open TP
set_option maxRecDepth 100000 in
set_option maxHeartbeats 1000000 in
theorem has_c {N : Nat} {w : World} {v : Value} {F : Nat → Prop} {l : List (List Nat)} (hpl : Pl l) (h : TrV N w v F l) (p : ByteArray) (hp : p.size ≤ 100000) (hm : Ml w) :
    Calls Tryz.prog 15 #[v, .string p] w fun e w' => e = .returned (.bool (decide (bs p ∈ l))) ∧ Below w.heap.size w w' := by
  have SC := split_c p hp w hm
  obtain ⟨s, hs⟩ : ∃ s, bs p = s := ⟨_, rfl⟩
  rw [hs] at SC ⊢
  clear hm hp hs
  by_cases hr : tRight s = true
  · rw [tPErr_right hr] at SC
    have HSC := Lib.hid SC
    have TC := Lib.hid (fun (W : World) (hb : Below w.heap.size w W) => top_c (h.below hb))
    have HO := Lib.hid (fun (W : World) (b : Nat) (F' : Nat → Prop) (hn : NdAt N W 8 b F' (Sof l)) (v : Value) (tv : TxOut W v (tCut s 8)) => holds_c 8 N b F' (Sof l) (tCut s 8) (cut_bytes hr) (by have := (tRight_names hr).1; omega) v W hn tv)
    rw [sof_cut] at HO
    obtain ⟨d, hd⟩ : ∃ d, decide (s ∈ l) = d := ⟨_, rfl⟩
    rw [hd] at HO ⊢
    clear SC hd hr h hpl
    as_aux_lemma =>
      go_enter Tryz.func15, Tryz.ntmps15
      go_wp2_with fail
      refine HSC.out.mono ?_; rintro _ w1 ⟨u, rfl, hv, _, hb1⟩
      have HB1 := Lib.hid hb1
      have T1 := Lib.hid (TC.out w1 hb1)
      have HV := Lib.hid (TxOut.of (hv (by first | rfl | trivial)))
      clear hv hb1
      go_wp2_with fail
      refine T1.out.mono ?_; rintro _ w2 ⟨b, F', rfl, hn2, _, _, hb2⟩
      have HB2 := Lib.hid (bnext HB1.out hb2)
      have H2 := Lib.hid (HO.out w2 b F' hn2 u (HV.out.below hb2))
      clear hn2 hb2
      go_wp2_with fail
      refine H2.out.mono ?_; rintro _ w3 ⟨rfl, rfl⟩
      go_wp2
      go_ret
      exact ⟨rfl, HB2.out⟩
  · have hd : decide (s ∈ l) = false := decide_eq_false fun e => hr (hpl.ri s e)
    rw [tPErr_wrong hr] at SC
    rw [hd]
    have HSC := Lib.hid SC
    clear SC hd hr h hpl
    as_aux_lemma =>
      go_enter Tryz.func15, Tryz.ntmps15
      go_wp2_with fail
      refine HSC.out.mono ?_; rintro _ w1 ⟨u, rfl, _, _, hb1⟩
      have HB1 := Lib.hid hb1
      clear hb1
      go_wp2
      go_ret
      exact ⟨rfl, HB1.out⟩
set_option maxRecDepth 100000 in
set_option maxHeartbeats 2000000 in
theorem build_c (ps : List (List Nat)) (hb : ∀ p ∈ ps, (∀ c ∈ p, c < 256) ∧ p.length ≤ 100000) (hl : ps.length ≤ 10000) (v : Value) (w : World) (hm : Ml w) (tv : TxArg w v ps) :
    Calls Tryz.prog 17 #[v] w fun e w' => Below w.heap.size w w' ∧ (((tBld [] ps).2 = 0 ∧ ∃ t F, e = .returned (.tuple #[.pointer (some ⟨t, 0, none⟩), .int .i64 0]) ∧ TrO ps.length w' t F (tBld [] ps).1 ∧ ∀ x, F x → w.heap.size ≤ x) ∨ ((tBld [] ps).2 ≠ 0 ∧ e = .returned (.tuple #[.pointer none, .int .i64 (tBld [] ps).2]))) := by
  obtain ⟨A, c, rfl, hc, hx⟩ := tv
  have NC := Lib.hid (new_c w)
  have T0 := Lib.hid (trO_new 0 w)
  have HB0 := Lib.hid (alloc_below w (.cells #[.bool false, .map none] 58))
  obtain ⟨w0, hw0⟩ : ∃ w0, w.alloc (.cells #[.bool false, .map none] 58) = w0 := ⟨_, rfl⟩
  rw [hw0] at NC T0 HB0
  obtain ⟨t, ht⟩ : ∃ t, w.heap.size = t := ⟨_, rfl⟩
  have HTT := Lib.hid ht
  rw [ht] at NC T0
  have INS := Lib.hid insert_c
  obtain ⟨n, hnn⟩ : ∃ n, ps.length = n := ⟨_, rfl⟩
  have HN := Lib.hid hnn; have HX := Lib.hid hx; have HBY := Lib.hid hb; have HM := Lib.hid hm
  rw [hnn] at hl hc ⊢
  obtain ⟨R, hR⟩ : ∃ R, tBld [] ps = R := ⟨_, rfl⟩
  have HRR := Lib.hid hR
  rw [hR]
  clear hnn hx hb hm hw0 ht hR
  go_enter Tryz.func17, Tryz.ntmps17
  go_wp2_with fail
  refine NC.out.mono ?_; rintro _ w1 ⟨rfl, rfl⟩
  go_wp2_with fail
  go_loopw [6, 7, 11] (fun _ _ v11 wr => ∃ (k : Nat) (l : List (List Nat)) (F : Nat → Prop), v11 = .int .i64 (k : Nat) ∧ k ≤ n ∧ Hid (TrO k wr t F l) ∧ Hid (∀ x, F x → w.heap.size ≤ x) ∧ Hid (Below w.heap.size w wr) ∧ Hid (tBld l (ps.drop k) = R)) (fun _ _ v11 _ => n - (intOf v11).toNat)
  case atStart => exact ⟨0, [], _, rfl, Nat.zero_le _, T0.out, fun x hx => by have := HTT.out; omega, HB0.out, HRR.out⟩
  case round =>
    obtain ⟨k, l, F, rfl, hk, HT, HF, HB, HR⟩ := hrel
    by_cases hlt : k < n
    · have hki : (k : Int) < (n : Int) := by omega
      obtain ⟨g, o, rfl, ha⟩ := HX.out (by intro e; have := HN.out; rw [e] at this; simp at this; omega)
      have hkl : k < ps.length := by rw [HN.out]; exact hlt
      have hp := List.getElem?_eq_getElem hkl
      obtain ⟨p, hpp⟩ : ∃ p, ps[k] = p := ⟨_, rfl⟩
      rw [hpp] at hp
      obtain ⟨hb1, hb2⟩ := HBY.out p (List.mem_of_getElem? hp)
      have z1 := cellb HB.out (ha k p hp)
      obtain ⟨X, hX⟩ : ∃ X, str p = X := ⟨_, rfl⟩
      have hbX : bs X = p := by rw [← hX, bs_str hb1]
      have hXs : X.size ≤ 100000 := by rw [← hX, str_size]; exact hb2
      rw [hX] at z1
      have I := INS.out k t F l X hXs wr (HM.out.below HB.out) HT.out (by omega)
      rw [hbX] at I
      have YES := Lib.hid (fun (h : (tIns l p).2 = 0) => (tBld_yes hp h).symm.trans HR.out)
      have NO := Lib.hid (fun (h : (tIns l p).2 ≠ 0) => (tBld_no hp h).symm.trans HR.out)
      obtain ⟨l', hl'⟩ : ∃ l', (tIns l p).1 = l' := ⟨_, rfl⟩
      obtain ⟨e', he'⟩ : ∃ e', (tIns l p).2 = e' := ⟨_, rfl⟩
      rw [hl', he'] at I
      rw [hl', he'] at YES
      rw [he'] at NO
      have HI := Lib.hid I
      clear I hl' he' hbX hX hXs hb1 hb2 hp hpp ha
      by_cases h0 : e' = 0
      · subst h0
        as_aux_lemma =>
          go_wp2_with fail
          refine HI.out.mono ?_; rintro _ w2 ⟨rfl, F', ht2, hf2, hs2⟩
          have HT2 := Lib.hid ht2
          have HB2 := Lib.hid (HB.out.trans (hf2.to_below (B := w.heap.size) HB.out.size HF.out))
          have HF2 := Lib.hid (show ∀ x, F' x → w.heap.size ≤ x from fun x hx => by
            rcases hs2 x hx with h | h
            · exact HF.out x h
            · have := HB.out.size; omega)
          clear ht2 hf2 hs2
          go_wp2
          go_roundw
          case rel => exact ⟨k + 1, l', F', by go_num, by omega, HT2.out, HF2.out, HB2.out, YES.out (by trivial)⟩
          case measure => simp [intOf]; omega
      · have hb0 : (e' != 0) = true := bne_iff_ne.2 h0
        have HE := Lib.hid (NO.out h0)
        have H0 := Lib.hid h0
        as_aux_lemma =>
          go_wp2_with fail
          refine HI.out.mono ?_; rintro _ w2 ⟨rfl, F', ht2, hf2, hs2⟩
          have HB2 := Lib.hid (HB.out.trans (hf2.to_below (B := w.heap.size) HB.out.size HF.out))
          clear ht2 hf2 hs2
          go_wp2
          go_ret2
          exact ⟨HB2.out, .inr ⟨by rw [← HE.out]; exact H0.out, congrArg (fun z : List (List Nat) × Int => Ending.returned (.tuple #[.pointer none, .int .i64 z.2])) HE.out⟩⟩
    · obtain rfl : k = n := by omega
      have HE := Lib.hid (show R = (l, 0) by rw [← HR.out, ← HN.out, tBld_end])
      as_aux_lemma =>
        go_wp2
        go_ret2
        exact ⟨HB.out, .inl ⟨by rw [HE.out], t, F, rfl, by rw [HE.out]; exact HT.out, HF.out⟩⟩
end IP
end Go.Proofs.YtbfbjalnahngjaaGreatDoor
namespace Go.Proofs.YtbfbjalnahngjaaGreatDoor
open Go.ChangeShapes Go.WideShapes Go.ChangeAt Go.RowKit Go.Joins Go.Deep

theorem own : ownKnob Tryz.prog.godebug = none := by kernel_rfl
theorem laid_out : laidOutB Tryz.prog = true := by kernel_rfl

section
variable {H : Type} {enc : TypeId × Value → H} {P : Program}
/-- The row's last step where of the world behind the call 'Below' alone is known. -/
theorem post_of_below {f : Func} {s : ChangeSpec} {apart fresh handsOn again : Bool} {W W' : World} {args : Array Value} {v : Value} {ds gs : List (DataW H)} {before pa pv : List MemPlace}
    (hW : DataW.Whole enc P f.params.toList s.vars apart W args.toList ds gs before)
    (hres : ∀ (b : Nat) (sp : Nat → Bool) (hd : Bool), DataW.TrodAll enc P W' b sp hd f.resultTypes.toList (v.resultList f.resultTypes.size) (s.fn H (ds ++ gs)).results [])
    (hargs : ∀ sp : Nat → Bool, (∀ p ∈ before, sp p.block = true) → DataW.TrodAll enc P W' 0 sp true f.params.toList args.toList (s.fn H (ds ++ gs)).args pa)
    (hvars : ∀ sp : Nat → Bool, (∀ p ∈ before, sp p.block = true) → DataW.TrodVars enc P W' sp s.vars (s.fn H (ds ++ gs)).vars pv)
    (hps : before = pa ++ pv) (hb : Below W.heap.size W W')
    (hok : ∀ (j : Nat) (t : TypeId) (r : Value), f.resultTypes[j]? = some t → (v.resultList f.resultTypes.size)[j]? = some r → Value.okWide P W' .any 0 t r) :
    s.post enc P f apart fresh handsOn again W args v W' := by
  have hlt : ∀ p ∈ before, p.block < W.heap.size := fun p hp => hW.lt p hp
  have hold : ∀ p ∈ before, (fun b => decide (b < W.heap.size)) p.block = true := fun p hp => by simpa using hlt p hp
  refine ⟨ds, gs, before, [], pa, pv, hW, hres _ _ _, hargs _ hold, hvars _ hold, World.keptBut_mono (fun p hp => ⟨hp, ?_⟩) (hb.frame (· ∈ before)), fun _ => ?_⟩
  · rw [hps, List.mem_append] at hp
    exact Or.inr hp
  · obtain ⟨_, _, _, _, _, hz, hn⟩ := hW
    refine ⟨hok, _, _, ([] ++ pa) ++ pv, ⟨[] ++ pa, pv, trodAll_append (hargs _ (fun _ _ => rfl)) (hres _ _ _), hvars _ (fun _ _ => rfl), rfl, ?_, ?_⟩, ?_⟩
    · intro b off hp
      have hin : MemPlace.cell b off ∈ before := by rw [hps]; simpa using hp
      rw [hb.frozen (hlt _ hin)]
      exact hz b off hin
    · intro ha
      have := hn ha
      rw [hps] at this
      simpa using this
    · intro p hp _
      rw [hps]
      simpa using hp
end

section
variable {H : Type} {enc : TypeId × Value → H} {w : World} {base : Nat} {sp : Nat → Bool} {held : Bool}
theorem open_u8 {P : Program} {r : Reach} {b0 : Nat} {t : TypeId} {v : Value} {d : DataW H} {ps : List MemPlace} (ht : P.underlying t = some (.int .u8)) (hval : Value.okWide P w r b0 t v) (hd : DataW.Trod enc P w base sp held t v d ps) : ∃ b : Nat, v = .int .u8 (b : Nat) ∧ b < 256 := by
  obtain ⟨n, rfl, _, _, hw⟩ := open_int ht hval hd
  obtain ⟨k0, k1⟩ := bounds_u8 hw
  refine ⟨n.toNat, ?_, by omega⟩
  rw [Int.toNat_of_nonneg k0]
end
section
variable {H : Type} {enc : TypeId × Value → H} {w : World} {base : Nat} {sp : Nat → Bool} {held : Bool}
set_option maxRecDepth 100000 in
/-- A row of texts that comes in. -/
theorem open_texts {r : Reach} {b0 : Nat} {v : Value} {d : DataW H} {ps : List MemPlace} (hval : Value.okWide Tryz.prog w r b0 27 v) (hd : DataW.Trod enc Tryz.prog w base sp held 27 v d ps) :
    ∃ ls, TxArg w v ls ∧ (∀ l ∈ ls, ∀ c ∈ l, c < 256) ∧ (∀ l ∈ ls, l.length ≤ 9223372036854775807) ∧ ls.length ≤ 9223372036854775807 := by
  obtain ⟨a0, len0, cap0, rfl⟩ := okWide_slice Tryz.underlying27 hval
  obtain ⟨fuel, hf⟩ := hd
  rcases open_strings Tryz.underlying27 Tryz.underlying9 (by kernel_rfl) hf with ⟨hcs, _⟩ | ⟨a, len, cap, ss, hcs, _, hl, hm, hz, _, hcell, hsz⟩
  · simp [Value.cells] at hcs
    obtain ⟨rfl, rfl, rfl⟩ := hcs
    exact ⟨[], ⟨none, 0, rfl, Nat.le_refl _, fun h => absurd rfl h⟩, fun _ h => absurd h (by simp), fun _ h => absurd h (by simp), by simp⟩
  · simp [Value.cells] at hcs
    obtain ⟨rfl, rfl, rfl⟩ := hcs
    have hzl : len0 ≤ ss.length := by
      rw [hz]
      split <;> omega
    refine ⟨(ss.take len0).map bs, ⟨some a, cap0, by rw [List.length_map, List.length_take]; congr 1; omega, by rw [List.length_map, List.length_take]; omega, fun hn => ?_⟩, fun l hl c hc => ?_, fun l hl => ?_, ?_⟩
    · have h0 : 0 < len0 := by
        rcases Nat.eq_zero_or_pos len0 with e | e
        · rw [e] at hn; simp at hn
        · exact e
      have c0 := hcell 0 (by omega)
      obtain ⟨b, off, spot⟩ := a
      have hspot : spot = none := by simpa [Addr.add] using World.cell?_spot c0
      subst hspot
      refine ⟨b, off, rfl, fun k t hk => ?_⟩
      rw [List.getElem?_map] at hk
      obtain ⟨s, hs, rfl⟩ := Option.map_eq_some_iff.1 hk
      rw [List.getElem?_take] at hs
      split at hs
      · rename_i hkl
        have h1 := hcell k (by omega)
        have e : (⟨b, off, none⟩ : Addr).add k = ⟨b, off + k, none⟩ := by unfold Addr.add; split <;> simp_all
        rw [e] at h1
        rw [h1, str_bs]
        have e2 : ss.getD k ByteArray.empty = s := by rw [List.getD_eq_getElem?_getD, hs]; rfl
        rw [e2]
      · cases hs
    · obtain ⟨s, _, rfl⟩ := List.mem_map.1 hl
      exact bs_mem s c hc
    · obtain ⟨s, hs, rfl⟩ := List.mem_map.1 hl
      rw [bs_length]
      have := hsz s (List.mem_of_mem_take hs)
      unfold maxLen at this
      exact this
    · rw [List.length_map, List.length_take]
      unfold maxLen at hm
      omega
end
/-! ### A row that lists variables: its premise and the world's shape are handed to the walk -/
theorem returns_laid {H : Type} {enc : TypeId × Value → H} {a : Assume} {C : Checked} {os : Os} {f : FuncId} {fn : Func} {s : ChangeSpec} {conds : List PathCond} {apart fresh handsOn again : Bool} {X : World → Array Value → Prop}
    (hX : ∀ (w w' : World) (args : Array Value), w.heap = w'.heap → X w args → X w' args)
    (own : ownKnob C.prog.godebug = none) (started : os.Started) (noInit : C.prog.inits.idxOf? f = none) (hfn : C.prog.funcs[f]? = some fn)
    (witness : ∃ (w : World) (tape : Tape) (i : Input), w.os = os ∧ (w.forCall tape i).Shaped C.prog ∧ i.vars = [] ∧ Input.okWide C.prog (w.forCall tape i) .any w.heap.size f i ∧
      ((s.pre enc C.prog fn conds apart (w.forCall tape i).memory i.args ∧ X (w.forCall tape i).memory i.args) ∧ sizedMet enc C.prog fn (OpenSpec.ofChange s) apart (w.forCall tape i).memory i.args) ∧ a.holds C.prog (lone (Frame.enter C.prog f i.args .normal) [] (w.forCall tape i)))
    (contract : ∀ (W : World) (base : Nat) (args : Array Value) (ds gs : List (DataW H)) (before : List MemPlace),
      (∀ (j : Nat) t v, fn.params[j]? = some t → args[j]? = some v → Value.okWide C.prog W .any base t v) →
      DataW.Whole enc C.prog fn.params.toList s.vars apart W args.toList ds gs before →
      X W args → W.ShapedOpen C.prog →
      Calls C.prog f args W fun e W' => ∃ v, e = .returned v ∧ s.post enc C.prog fn apart fresh handsOn again W args v W') :
    ReturnsInHanded a C os f .any (fun w args => (s.pre enc C.prog fn conds apart w args ∧ X w args) ∧ sizedMet enc C.prog fn (OpenSpec.ofChange s) apart w args) (s.post enc C.prog fn apart fresh handsOn again) := by
  refine returnsInHanded_of_calls own started noInit witness ?_
  intro w tape i _ hsh _ hok hpre _
  obtain ⟨_, _, _, fn', hfn', _, _, _, _, hval⟩ := hok
  have e : fn' = fn := Option.some.inj (hfn'.symm.trans hfn)
  subst e
  obtain ⟨⟨⟨ds, gs, before, hw, _⟩, hx⟩, _⟩ := hpre
  have hw' := DataW.Whole.of_heap (w' := w.forCall tape i) (by rfl) hw
  refine (contract (w.forCall tape i) w.heap.size i.args ds gs before hval hw' (hX _ _ _ (by rfl) hx) hsh).mono fun e W' ⟨v, he, hp⟩ => ?_
  subst he
  exact ChangeSpec.post_blind hp

theorem ml_of {W : World} (hs : W.ShapedOpen Tryz.prog) : ∃ m, W.cell? ⟨0, 0, none⟩ = some (.int .i64 m) :=
  Proofs.cell_of_shapedOpen_int hs (g := 0) (t := 3) (zero := #[.int .i64 0]) (by decide +kernel) (by kernel_rfl) rfl (by kernel_rfl) (by kernel_rfl) Tryz.underlying3
/-- What the rows of layer 17 list. -/
def laid : List (String × DataW Unit) := Rows.trieNoneRow.laid
end Go.Proofs.YtbfbjalnahngjaaGreatDoor
namespace Go.Proofs.YtbfbjalnahngjaaGreatDoor
theorem drop_getD (s : List Nat) (k j : Nat) : (s.drop k).getD j 0 = s.getD (k + j) 0 := by
  rw [List.getD_eq_getElem?_getD, List.getD_eq_getElem?_getD, List.getElem?_drop]
/-- What stands from a place on. -/
theorem drop_cons {s : List Nat} {k : Nat} (h : k < s.length) : s.drop k = s.getD k 0 :: s.drop (k + 1) := by
  rw [List.drop_eq_getElem_cons h, List.getD_eq_getElem?_getD, List.getElem?_eq_getElem h]
  rfl
theorem mem_at (s : List Nat) (k : Nat) (hk : k < s.length) : gMem (s.drop k) =
    if isB (s.getD k 0) = true then
      if k + 3 ≤ s.length ∧ s.getD (k + 1) 0 = 45 ∧ isB (s.getD (k + 2) 0) = true then if s.getD k 0 ≤ s.getD (k + 2) 0 then some ((s.getD k 0, s.getD (k + 2) 0), 3) else none
      else some ((s.getD k 0, s.getD k 0), 1)
    else none := by
  unfold gMem
  rw [drop_getD, drop_getD, drop_getD, List.length_drop, Nat.add_zero]
  by_cases h : k + 3 ≤ s.length
  · have h2 : 3 ≤ s.length - k := by omega
    simp only [h, h2]
  · have h2 : ¬ 3 ≤ s.length - k := by omega
    simp only [h, h2, false_and, if_false]
theorem cls_step {s : List Nat} {k j : Nat} {m : Nat × Nat} (hk : k < s.length) (h93 : s.getD k 0 ≠ 93) (hm : gMem (s.drop k) = some (m, j)) : gCls (s.drop k) = (gCls (s.drop (k + j))).map fun x => (m :: x.1, j + x.2) := by
  have e := drop_cons hk
  rw [e] at hm ⊢
  rw [gCls_yes h93 hm, ← e, List.drop_drop]
theorem cls_no {s : List Nat} {k : Nat} (hk : k < s.length) (h93 : s.getD k 0 ≠ 93) (hm : gMem (s.drop k) = none) : gCls (s.drop k) = none := by
  have e := drop_cons hk
  rw [e] at hm ⊢
  exact gCls_no h93 hm
theorem cls_end {s : List Nat} {k : Nat} (hk : k < s.length) (h93 : s.getD k 0 = 93) : gCls (s.drop k) = some ([], 0) := by
  rw [drop_cons hk, h93]
  exact gCls_end _
/-- Where a class ends whose first member stands at a place. -/
def clsV (s : List Nat) (a : Nat) : Int := match gCls (s.drop a) with | none => -1 | some (rs, n) => if rs.isEmpty = true then -1 else ((a + n + 1 : Nat) : Int)
/-- The members that were read. -/
structure ClI (s : List Nat) (a k : Nat) (pre : List (Nat × Nat)) : Prop where
  rd : gCls (s.drop a) = (gCls (s.drop k)).map fun x => (pre ++ x.1, (k - a) + x.2)
  no : pre = [] ↔ k = a
  le : a ≤ k
theorem ClI.start (s : List Nat) (a : Nat) : ClI s a a [] := ⟨by rw [Nat.sub_self]; cases gCls (s.drop a) with | none => rfl | some x => obtain ⟨x1, x2⟩ := x; simp, by simp, Nat.le_refl _⟩
theorem ClI.step {s : List Nat} {a k j : Nat} {pre : List (Nat × Nat)} {m : Nat × Nat} (h : ClI s a k pre) (hk : k < s.length) (h93 : s.getD k 0 ≠ 93) (hm : gMem (s.drop k) = some (m, j)) (hj : 1 ≤ j) : ClI s a (k + j) (pre ++ [m]) := by
  have hle := h.le
  refine ⟨?_, by simp; omega, by omega⟩
  rw [h.rd, cls_step hk h93 hm]
  cases gCls (s.drop (k + j)) with
  | none => rfl
  | some x =>
    obtain ⟨x1, x2⟩ := x
    simp
    omega
theorem ClI.none {s : List Nat} {a k : Nat} {pre : List (Nat × Nat)} (h : ClI s a k pre) (hn : gCls (s.drop k) = none) : clsV s a = -1 := by
  unfold clsV
  rw [h.rd, hn]
  rfl
theorem ClI.ends {s : List Nat} {a k : Nat} {pre : List (Nat × Nat)} (h : ClI s a k pre) (hk : k < s.length) (h93 : s.getD k 0 = 93) : clsV s a = if k = a then -1 else ((k + 1 : Nat) : Int) := by
  unfold clsV
  rw [h.rd, cls_end hk h93]
  have hle := h.le
  by_cases e : k = a
  · have := h.no.2 e
    subst this
    rw [if_pos e]
    rfl
  · have hne : pre ≠ [] := fun e2 => e (h.no.1 e2)
    rw [if_neg e]
    show (if (pre ++ []).isEmpty = true then -1 else ((a + (k - a + 0) + 1 : Nat) : Int)) = _
    rw [List.append_nil, if_neg (by simpa using hne), show a + (k - a + 0) + 1 = k + 1 by omega]
theorem ClI.past {s : List Nat} {a k : Nat} {pre : List (Nat × Nat)} (h : ClI s a k pre) (hk : s.length ≤ k) : clsV s a = -1 := h.none (by rw [List.drop_eq_nil_of_le hk]; exact gCls_nil)
namespace GR
open Go.RowKit
set_option maxRecDepth 100000 in
set_option maxHeartbeats 4000000 in
theorem class_c (p : ByteArray) (a : Nat) (hp : p.size ≤ 128) (ha : a ≤ p.size) (w : World) : Calls Tryz.prog 82 #[.string p, .int .i64 (a : Nat)] w fun e w' => e = .returned (.int .i64 (clsV (bs p) a)) ∧ Below w.heap.size w w' := by
  obtain ⟨d, hd⟩ : ∃ d, clsV (bs p) a = d := ⟨_, rfl⟩
  rw [hd]
  have HD := Lib.hid hd
  have BY := Lib.hid (fun (c : Nat) (hc : c < 256) (W : World) => byte_c c hc W)
  have hl := bs_length p
  have HL := Lib.hid hl
  have hw2 : IntKind.i64.wrap ((p.size : Int) - 2) = (p.size : Int) - 2 := by rw [IntKind.wrap_i64]; omega
  clear hd hl
  go_enter Tryz.func82, Tryz.ntmps82
  go_wp2
  go_loopw [1] (fun v1 wr => ∃ k : Nat, v1 = .int .i64 (k : Nat) ∧ k ≤ p.size ∧ Hid (∃ pre, ClI (bs p) a k pre) ∧ Hid (Below w.heap.size w wr)) (fun v1 _ => p.size - (intOf v1).toNat)
  case atStart => exact ⟨a, rfl, ha, ⟨[], ClI.start _ _⟩, Below.refl _ _⟩
  case round =>
    obtain ⟨k, rfl, hk, HI, HB⟩ := hrel
    by_cases hlt : k < p.size
    · obtain ⟨c, hcb, x0, hc⟩ := bs_get hlt
      have hki : (k : Int) < (p.size : Int) := by omega
      have hkn : ¬ (p.size : Int) ≤ (k : Int) := by omega
      have HC := Lib.hid hcb
      clear hcb
      by_cases h93 : c = 93
      · subst h93
        as_aux_lemma =>
          have HE := Lib.hid (show d = if k = a then -1 else ((k + 1 : Nat) : Int) by
            obtain ⟨pre, hi⟩ := HI.out
            rw [← HD.out]; exact hi.ends (by rw [HL.out]; exact hlt) HC.out)
          by_cases hka : k = a
          · subst hka
            have HE2 := Lib.hid (show -1 = d by rw [HE.out, if_pos rfl])
            go_wp2
            go_ret
            exact ⟨congrArg (fun z => Ending.returned (.int .i64 z)) HE2.out, HB.out⟩
          · have hka2 : ((k : Int) == (a : Int)) = false := beq_false_of_ne (by omega)
            have hka3 : ¬ (k : Int) = (a : Int) := by omega
            have hw1 : IntKind.i64.wrap ((k : Int) + 1) = ((k + 1 : Nat) : Int) := by rw [IntKind.wrap_i64]; omega
            have HE2 := Lib.hid (show ((k + 1 : Nat) : Int) = d by rw [HE.out, if_neg hka])
            go_wp2
            go_ret
            exact ⟨congrArg (fun z => Ending.returned (.int .i64 z)) HE2.out, HB.out⟩
      · have i93 : ¬ (c : Int) = 93 := by omega
        have b93 : ((c : Int) != 93) = true := bne_iff_ne.2 i93
        have HM := Lib.hid (mem_at (bs p) k (by rw [HL.out]; exact hlt))
        have BC := Lib.hid (BY.out c hc wr)
        cases hB : isB c with
        | false =>
          as_aux_lemma =>
            rw [hB] at BC
            have HE := Lib.hid (show -1 = d by
              obtain ⟨pre, hi⟩ := HI.out
              rw [← HD.out]
              refine (hi.none (cls_no (by rw [HL.out]; exact hlt) (by rw [HC.out]; exact h93) ?_)).symm
              rw [HM.out, HC.out, hB]
              rfl)
            clear hB
            go_wp2_with fail
            refine BC.out.mono ?_; rintro _ w2 ⟨rfl, hw2⟩; obtain rfl := hw2.symm
            go_wp2
            go_ret
            exact ⟨congrArg (fun z => Ending.returned (.int .i64 z)) HE.out, HB.out⟩
        | true =>
          rw [hB] at BC
          have hw1 : IntKind.i64.wrap ((k : Int) + 1) = ((k + 1 : Nat) : Int) := by rw [IntKind.wrap_i64]; omega
          have hwp2 : IntKind.i64.wrap ((k : Int) + 2) = ((k + 2 : Nat) : Int) := by rw [IntKind.wrap_i64]; omega
          have HONE := Lib.hid (fun (hx : ¬ (k + 3 ≤ (bs p).length ∧ (bs p).getD (k + 1) 0 = 45 ∧ isB ((bs p).getD (k + 2) 0) = true)) => show ∃ pre, ClI (bs p) a (k + 1) pre by
            obtain ⟨pre, hi⟩ := HI.out
            refine ⟨_, hi.step (by rw [HL.out]; exact hlt) (by rw [HC.out]; exact h93) (m := (c, c)) (j := 1) ?_ (Nat.le_refl _)⟩
            rw [HM.out, HC.out, hB, if_pos rfl, if_neg hx])
          by_cases h3 : k + 3 ≤ p.size
          · have h3i : (k : Int) < (p.size : Int) - 2 := by omega
            obtain ⟨c1, hcb1, x1, hc1⟩ := bs_get (show k + 1 < p.size by omega)
            have HC1 := Lib.hid hcb1
            have hk1 : ((k + 1 : Nat) : Int) < (p.size : Int) := by omega
            clear hcb1
            by_cases h45 : c1 = 45
            · subst h45
              obtain ⟨c2, hcb2, x2, hc2⟩ := bs_get (show k + 2 < p.size by omega)
              have HC2 := Lib.hid hcb2
              have hk2 : ((k + 2 : Nat) : Int) < (p.size : Int) := by omega
              have BC2 := Lib.hid (BY.out c2 hc2 wr)
              clear hcb2
              cases hB2 : isB c2 with
              | false =>
                as_aux_lemma =>
                  rw [hB2] at BC2
                  have HN := Lib.hid (HONE.out (fun hx => by rw [HC2.out, hB2] at hx; exact absurd hx.2.2 (by decide)))
                  clear hB hB2
                  go_wp2_with fail
                  refine BC.out.mono ?_; rintro _ w2 ⟨rfl, hw2⟩; obtain rfl := hw2.symm
                  go_wp2_with fail
                  refine BC2.out.mono ?_; rintro _ w2 ⟨rfl, hw2⟩; obtain rfl := hw2.symm
                  go_wp2
                  go_roundw
                  case rel => exact ⟨k + 1, rfl, by omega, HN.out, HB.out⟩
                  case measure => simp [intOf]; omega
              | true =>
                rw [hB2] at BC2
                have hm3 : (k + 3 ≤ (bs p).length ∧ (bs p).getD (k + 1) 0 = 45 ∧ isB ((bs p).getD (k + 2) 0) = true) := ⟨by rw [HL.out]; exact h3, HC1.out, by rw [HC2.out]; exact hB2⟩
                by_cases hfall : c2 < c
                · as_aux_lemma =>
                    have hfi : (c2 : Int) < (c : Int) := by omega
                    have HE := Lib.hid (show -1 = d by
                      obtain ⟨pre, hi⟩ := HI.out
                      rw [← HD.out]
                      refine (hi.none (cls_no (by rw [HL.out]; exact hlt) (by rw [HC.out]; exact h93) ?_)).symm
                      rw [HM.out, HC.out, hB, if_pos rfl, if_pos hm3, HC2.out, if_neg (by omega)])
                    clear hB hB2 hm3
                    go_wp2_with fail
                    refine BC.out.mono ?_; rintro _ w2 ⟨rfl, hw2⟩; obtain rfl := hw2.symm
                    go_wp2_with fail
                    refine BC2.out.mono ?_; rintro _ w2 ⟨rfl, hw2⟩; obtain rfl := hw2.symm
                    go_wp2
                    go_region
                    go_wp2
                    go_ret
                    exact ⟨congrArg (fun z => Ending.returned (.int .i64 z)) HE.out, HB.out.drew⟩
                · as_aux_lemma =>
                    have hfi : ¬ (c2 : Int) < (c : Int) := by omega
                    have HN := Lib.hid (show ∃ pre, ClI (bs p) a (k + 3) pre by
                      obtain ⟨pre, hi⟩ := HI.out
                      refine ⟨_, hi.step (by rw [HL.out]; exact hlt) (by rw [HC.out]; exact h93) (m := (c, c2)) (j := 3) ?_ (by decide)⟩
                      rw [HM.out, HC.out, hB, if_pos rfl, if_pos hm3, HC2.out, if_pos (by omega)])
                    have hwp3 : IntKind.i64.wrap (((k + 2 : Nat) : Int) + 1) = ((k + 3 : Nat) : Int) := by rw [IntKind.wrap_i64]; omega
                    clear hB hB2 hm3
                    go_wp2_with fail
                    refine BC.out.mono ?_; rintro _ w2 ⟨rfl, hw2⟩; obtain rfl := hw2.symm
                    go_wp2_with fail
                    refine BC2.out.mono ?_; rintro _ w2 ⟨rfl, hw2⟩; obtain rfl := hw2.symm
                    go_wp2
                    go_region
                    go_wp2
                    go_roundw
                    case rel => exact ⟨k + 3, rfl, by omega, HN.out, HB.out.drew⟩
                    case measure => simp [intOf]; omega
            · as_aux_lemma =>
                have i45 : ¬ (c1 : Int) = 45 := by omega
                have b45 : ((c1 : Int) == 45) = false := beq_false_of_ne i45
                have HN := Lib.hid (HONE.out (fun hx => by rw [HC1.out] at hx; exact h45 hx.2.1))
                clear hB
                go_wp2_with fail
                refine BC.out.mono ?_; rintro _ w2 ⟨rfl, hw2⟩; obtain rfl := hw2.symm
                go_wp2
                go_roundw
                case rel => exact ⟨k + 1, rfl, by omega, HN.out, HB.out⟩
                case measure => simp [intOf]; omega
          · as_aux_lemma =>
              have h3i : ¬ (k : Int) < (p.size : Int) - 2 := by omega
              have HN := Lib.hid (HONE.out (fun hx => by rw [HL.out] at hx; exact h3 hx.1))
              clear hB
              go_wp2_with fail
              refine BC.out.mono ?_; rintro _ w2 ⟨rfl, hw2⟩; obtain rfl := hw2.symm
              go_wp2
              go_roundw
              case rel => exact ⟨k + 1, rfl, by omega, HN.out, HB.out⟩
              case measure => simp [intOf]; omega
    · as_aux_lemma =>
        obtain rfl : k = p.size := by omega
        have HE := Lib.hid (show -1 = d by
          obtain ⟨pre, hi⟩ := HI.out
          rw [← HD.out]
          exact (hi.past (by rw [HL.out]; exact Nat.le_refl _)).symm)
        go_wp2
        go_ret
        exact ⟨congrArg (fun z => Ending.returned (.int .i64 z)) HE.out, HB.out⟩
end GR
end Go.Proofs.YtbfbjalnahngjaaGreatDoor
