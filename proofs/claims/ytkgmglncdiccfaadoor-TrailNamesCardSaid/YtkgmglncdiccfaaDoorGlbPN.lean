/-
  Contracts of the program's functions of layer 15: piece.lead at braces, lead.
-/
import Derived.Test.YtkgmglncdiccfaaDoorGlbPM
set_option linter.unusedSimpArgs false
set_option linter.unusedVariables false
namespace Go.Proofs.YtkgmglncdiccfaaDoor.GP
open Go.RowKit
set_option maxRecDepth 100000 in
set_option maxHeartbeats 4000000 in
theorem lead_br (ws : Tr) (hwg : Good true ws) (hwl : (gStr ws).length ≤ 900) (H : AllW LdC ws) (wv : Value) (N : ByteArray) (n g c : Nat) (f : Nat → Bool) (w : World) (hn : N.size = n) (hs : n ≤ 900) (hc : n + 1 ≤ c) (h : BRow w g (n + 1) f) (hw : WsR w wv ws) :
    Calls Tryd.prog 41 #[.agg #[.int .i64 4, .string ⟨#[]⟩, .slice none 0 0, wv], .slice (some ⟨g, 0, none⟩) (n + 1) c, .string N] w fun e w' => ∃ g' c', e = .returned (.slice (some ⟨g', 0, none⟩) (n + 1) c') ∧ n + 1 ≤ c' ∧ w.heap.size ≤ g' ∧ BRow w' g' (n + 1) (gLd (bs N) ws f) ∧ Below w.heap.size w w' := by
  obtain ⟨A2, c2, rfl, hc2, hx2⟩ := hw.form
  have hw9 : ws.len ≤ 900 := Nat.le_trans (ws_len hwg) hwl
  obtain ⟨n2, hn2⟩ : ∃ n2, ws.len = n2 := ⟨_, rfl⟩
  rw [hn2] at hc2 hw9 hx2 ⊢
  have HXW := Lib.hid hx2
  have HW1 := Lib.hid (show Good true ws ∧ AllW LdC ws ∧ (gStr ws).length ≤ 900 ∧ ws.len = n2 from ⟨hwg, H, hwl, hn2⟩)
  have HNN := Lib.hid hn
  clear hx2 hwg H hwl hn2 hw
  obtain ⟨i0, hi0, hz0, hzz1, hzz2⟩ := info_parts bool_info
  have HB0 := Lib.hid (alloc_below w (.cells #[.int .i64 4, .string ⟨#[]⟩, .slice none 0 0, .slice A2 n2 c2] 70))
  have HH0 := Lib.hid (holds_alloc w [.int .i64 4, .string ⟨#[]⟩, .slice none 0 0, .slice A2 n2 c2] 70)
  have HR0 := Lib.hid h
  have hgl := h.lt
  clear h
  go_enter Tryd.func41, Tryd.ntmps41
  go_upto_region 2 with (at_make; refine wpList_make_full _ rfl _ _ 43 rfl 0 4 i0 (.bool false) 1 Tryd.underlying43 hi0 hz0 hzz1 .i64 .i64 _ _ (n + 1) rfl rfl (by omega) (by omega) (by rw [hzz2]; omega) (by unfold maxLen; omega) (Nat.zero_le _) ?_; intro w2 hown2 hg2)
  have hbl := below_none hg2
  have hx2 := BRow.made hown2 (Nat.succ_pos n)
  have hsz : (w.alloc (.cells #[.int .i64 4, .string ⟨#[]⟩, .slice none 0 0, .slice A2 n2 c2] 70)).heap.size = w.heap.size + 1 := by simp
  rw [hsz] at hx2
  have HX2 := Lib.hid hx2
  have HB2 := Lib.hid (bnext HB0.out hbl)
  have HR2 := Lib.hid (HR0.out.below HB2.out)
  have HH2 := Lib.hid (Holds.below HH0.out hbl)
  obtain ⟨b0, b1, b2, b3⟩ := HH2.out.four
  obtain ⟨gx, hgx⟩ : ∃ gx, w.heap.size + 1 = gx := ⟨_, rfl⟩
  have hgw : w.heap.size < gx := by omega
  have hgne : ¬ gx = g := by omega
  rw [hgx] at HX2 ⊢
  clear hown2 hg2 hbl hx2 hsz hgx HB0 HH0 HR0
  go_wp2_with fail
  go_loopw [12, 13, 14, 68] (fun _ _ _ v68 wr => ∃ j : Nat, v68 = .int .i64 (j : Nat) ∧ j ≤ n2 ∧ Hid (BRow wr g (n + 1) f) ∧ Hid (∃ u acc, BRow wr gx (n + 1) acc ∧ (j < n2 → ∀ g, A2 = some ⟨g, 0, none⟩ → Wx w g j u) ∧ u.len + j = n2 ∧ Good true u ∧ AllW LdC u ∧ (gStr u).length ≤ 900 ∧ ∀ q, (acc q || gLd (bs N) u f q) = gLd (bs N) ws f q) ∧ Hid (Below w.heap.size w wr)) (fun _ _ _ v68 _ => n2 - (intOf v68).toNat)
  case atStart =>
    refine ⟨0, rfl, Nat.zero_le _, HR2.out, ⟨ws, fun _ => false, HX2.out, fun hk g2 hg2 => ?_, by have := HW1.out.2.2.2; omega, HW1.out.1, HW1.out.2.1, HW1.out.2.2.1, fun q => Bool.false_or _⟩, HB2.out⟩
    obtain ⟨g', hg', hs⟩ := HXW.out hk
    rw [hg'] at hg2
    injection hg2 with hg2
    injection hg2 with hg2
    subst hg2
    exact hs
  case round =>
    as_aux_lemma =>
      obtain ⟨j, rfl, hj, HR, HU, HB⟩ := hrel
      by_cases hjl : j < n2
      · as_aux_lemma =>
          obtain ⟨u, acc, hac, hux, hul, hug, hua, hus, huf⟩ := HU.out
          obtain ⟨g2, rfl, -⟩ := HXW.out (by omega)
          obtain ⟨p, u', A3, c3, rfl, z0, hpr, hux'⟩ := (hux hjl g2 rfl).next hug (by omega)
          have zz0 := cellb HB.out z0
          have CP := hua.1 hug.1 (by have := gStr_way hug; omega) _ N g c f wr (by rw [HNN.out]; exact hs) (by rw [HNN.out]; exact hc) (hpr.below HB.out) (by rw [HNN.out]; exact HR.out)
          rw [HNN.out] at CP
          obtain ⟨hf, hhf⟩ : ∃ hf, gLd (bs N) p f = hf := ⟨_, rfl⟩
          rw [hhf] at CP
          have HCP := Lib.hid CP
          have huf' : ∀ q, (acc q || (gLd (bs N) p f q || gLd (bs N) u' f q)) = gLd (bs N) ws f q := huf
          have HUN := Lib.hid (show (j + 1 < n2 → ∀ g, some (⟨g2, 0, none⟩ : Addr) = some ⟨g, 0, none⟩ → Wx w g (j + 1) u') ∧ u'.len + (j + 1) = n2 ∧ Good true u' ∧ AllW LdC u' ∧ (gStr u').length ≤ 900 ∧ ∀ q, ((acc q || hf q) || gLd (bs N) u' f q) = gLd (bs N) ws f q from
            ⟨fun _ g' e => by injection e with e; injection e with e; subst e; exact hux', by simp only [Tr.len] at hul; omega, hug.2, hua.2, by have := gStr_way hug; omega, fun q => by rw [Bool.or_assoc, ← hhf]; exact huf' q⟩)
          have HAC := Lib.hid hac
          have hgxl := hac.lt
          obtain ⟨pl, hpl⟩ : ∃ pl, p.len = pl := ⟨_, rfl⟩
          rw [hpl] at HCP zz0
          clear hux hul hug hua hus huf z0 hpr hux' CP huf' hhf hac HU hpl
          go_wp2_with fail
          refine HCP.out.mono ?_; rintro _ w3 ⟨g', c', rfl, hc', hgg, hbr, hb3⟩
          have hne3 : ¬ gx = g' := by omega
          have HB3 := Lib.hid (bnext HB.out hb3)
          have HR3 := Lib.hid (HR.out.below hb3)
          have HX3 := Lib.hid (HAC.out.below hb3)
          have HF3 := Lib.hid hbr
          clear hb3 HCP hgg hbr HAC
          go_wp2_with fail
          go_loopw [13, 14, 77] (fun _ _ v77 wq => ∃ q : Nat, v77 = .int .i64 (q : Nat) ∧ q ≤ n + 1 ∧ Hid (BRow wq g (n + 1) f) ∧ Hid (BRow wq g' (n + 1) hf) ∧ Hid (BRow wq gx (n + 1) (fun z => if z < q then acc z || hf z else acc z)) ∧ Hid (Below w.heap.size w wq)) (fun _ _ v77 _ => n + 1 - (intOf v77).toNat)
          case atStart => exact ⟨0, rfl, Nat.zero_le _, HR3.out, HF3.out, HX3.out.congr (fun z _ => (if_neg (Nat.not_lt_zero z)).symm), HB3.out⟩
          case round =>
            as_aux_lemma =>
              obtain ⟨q, rfl, hq, HRq, HFq, HXq, HBq⟩ := hrel
              by_cases hql : q ≤ n
              · as_aux_lemma =>
                  have cF := HFq.out.c q (by omega)
                  have cX := HXq.out.c q (by omega)
                  have fX := HXq.out.fz q (by omega)
                  rw [if_neg (Nat.lt_irrefl q)] at cX
                  obtain ⟨x, hx⟩ : ∃ x, hf q = x := ⟨_, rfl⟩
                  obtain ⟨y, hy⟩ : ∃ y, acc q = y := ⟨_, rfl⟩
                  rw [hx] at cF
                  rw [hy] at cX
                  have HST := Lib.hid (show BRow (wr.setCell ⟨gx, q, none⟩ (.bool (y || x))) gx (n + 1) (fun z => if z < q + 1 then acc z || hf z else acc z) from HXq.out.set (x := y || x) (k := q) (by omega) (fun z hz => by
                    by_cases e : z = q
                    · subst e
                      rw [if_pos rfl, if_pos (Nat.lt_succ_self _), hx, hy]
                    · rw [if_neg e]
                      by_cases e2 : z < q
                      · rw [if_pos e2, if_pos (by omega)]
                      · rw [if_neg e2, if_neg (by omega)]))
                  have hbI : (0 : Int) ≤ (q : Int) := by omega
                  have hbJ : (q : Int) < (n : Int) + 1 := by omega
                  have hbN : q < n + 1 := by omega
                  clear hx hy
                  cases y with
                  | true =>
                    go_wp2
                    go_roundw
                    case rel => exact ⟨q + 1, by go_num, by omega, HRq.out.other hgne, HFq.out.other hne3, HST.out, below_own HBq.out hgw⟩
                    case measure => simp [intOf]; omega
                  | false =>
                    rw [Bool.false_or] at HST
                    go_wp2
                    go_roundw
                    case rel => exact ⟨q + 1, by go_num, by omega, HRq.out.other hgne, HFq.out.other hne3, HST.out, below_own HBq.out hgw⟩
                    case measure => simp [intOf]; omega
              · as_aux_lemma =>
                  obtain rfl : q = n + 1 := by omega
                  have HXE := Lib.hid (HXq.out.congr (h := fun z => acc z || hf z) (fun z hz => if_pos hz))
                  have hbJ : ¬ ((n + 1 : Nat) : Int) < (n : Int) + 1 := by omega
                  clear HXq
                  go_wp2
                  go_roundw
                  case rel => exact ⟨j + 1, by go_num, by omega, HRq.out, ⟨u', _, HXE.out, HUN.out.1, HUN.out.2.1, HUN.out.2.2.1, HUN.out.2.2.2.1, HUN.out.2.2.2.2.1, HUN.out.2.2.2.2.2⟩, HBq.out⟩
                  case measure => simp [intOf]; omega
      · as_aux_lemma =>
          obtain rfl : j = n2 := by omega
          obtain ⟨u, acc, hac, -, hul, hug, -, -, huf⟩ := HU.out
          have : u = .none := by
            cases u with
            | none => rfl
            | way p ws => simp only [Tr.len] at hul; omega
            | nil => exact hug.elim
            | atom a r => exact hug.elim
            | br ws r => exact hug.elim
          subst this
          have HRE := Lib.hid (hac.congr (h := gLd (bs N) ws f) (fun q _ => by
            rw [← huf q]
            show acc q = (acc q || false)
            rw [Bool.or_false]))
          clear hac huf HU
          go_wp2
          go_ret
          exact ⟨gx, n + 1, rfl, Nat.le_refl _, Nat.le_of_lt hgw, HRE.out, HB.out⟩
end Go.Proofs.YtkgmglncdiccfaaDoor.GP
