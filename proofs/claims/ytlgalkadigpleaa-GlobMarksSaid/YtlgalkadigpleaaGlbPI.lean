/-
  Contracts of the program's functions of layer 15: piece.texts.
-/
import Derived.Test.YtlgalkadigpleaaGlbTx
import Derived.Test.YtlgalkadigpleaaGlbPC
import Derived.Test.YtlgalkadigpleaaGlbPG
set_option linter.unusedSimpArgs false
set_option linter.unusedVariables false
namespace Go.Proofs.Ytlgalkadigpleaa.GP
open Go.RowKit
/-- texts keeps its word. -/
def TxC (l : Tr) : Prop := Good false l → (gStr l).length ≤ 900 → gNm l ≤ 64 → ∀ (v : Value) (w : World), TrR w v l →
    Calls Try.prog 13 #[v] w fun e w' => ∃ v', e = .returned v' ∧ TxNew w.heap.size w' v' (gTx l [[]]) ∧ Below w.heap.size w w'
set_option maxRecDepth 100000 in
set_option maxHeartbeats 4000000 in
theorem texts_atom (a : GA) (rv : Value) (A1 : Option Addr) (n1 c1 : Nat) (hrv : rv = .slice A1 n1 c1) (w : World) :
    Calls Try.prog 18 #[.agg #[.int .i64 (a.kind : Nat), .string (str a.txt), rv, .slice none 0 0]] w fun e w' => ∃ v', e = .returned v' ∧ TxNew w.heap.size w' v' [a.txt] ∧ Below w.heap.size w w' := by
  subst hrv
  have hka : ¬ ((a.kind : Nat) : Int) = 4 := by cases a <;> simp [GA.kind]
  obtain ⟨ka, hka2⟩ : ∃ ka, a.kind = ka := ⟨_, rfl⟩
  rw [hka2] at hka ⊢
  have HL := fun (W : World) (hW : w.heap.size ≤ W.heap.size) => TxNew.lit hW a.txt
  obtain ⟨sa, hsa⟩ : ∃ sa, str a.txt = sa := ⟨_, rfl⟩
  rw [hsa] at HL ⊢
  have HL2 := Lib.hid HL
  have HBX := Lib.hid (alloc_below w (.cells #[.int .i64 (ka : Nat), .string sa, .slice A1 n1 c1, .slice none 0 0] 49))
  clear hka2 hsa HL
  go_enter Try.func18, Try.ntmps18
  go_wp2
  go_ret
  have ht := HL2.out _ HBX.out.size
  rw [show (w.alloc (.cells #[.int .i64 (ka : Nat), .string sa, .slice A1 n1 c1, .slice none 0 0] 49)).heap.size = w.heap.size + 1 by simp] at ht
  exact ⟨_, rfl, ht, bnext HBX.out (alloc_below _ _)⟩
set_option maxRecDepth 100000 in
set_option maxHeartbeats 4000000 in
theorem texts_br (ws : Tr) (hwg : Good true ws) (hl : (gStr ws).length ≤ 900) (hnm : gNm ws ≤ 64) (H : AllW TxC ws) (wv : Value) (w : World) (h : WsR w wv ws) :
    Calls Try.prog 18 #[.agg #[.int .i64 4, .string ⟨#[]⟩, .slice none 0 0, wv]] w fun e w' => ∃ v', e = .returned v' ∧ TxNew w.heap.size w' v' (gTx ws []) ∧ Below w.heap.size w w' := by
  obtain ⟨A2, c2, rfl, hc2, hx2⟩ := h.form
  have hw9 : ws.len ≤ 900 := Nat.le_trans (ws_len hwg) hl
  obtain ⟨n2, hn2⟩ : ∃ n2, ws.len = n2 := ⟨_, rfl⟩
  rw [hn2] at hc2 hw9 hx2 ⊢
  have HX2 := Lib.hid hx2
  have HW1 := Lib.hid (show Good true ws ∧ AllW TxC ws ∧ (gStr ws).length ≤ 900 ∧ ws.len = n2 ∧ gNm ws ≤ 64 from ⟨hwg, H, hl, hn2, hnm⟩)
  obtain ⟨R, hR⟩ : ∃ R, gTx ws [] = R := ⟨_, rfl⟩
  rw [hR]
  have HR := Lib.hid hR
  have HBX := Lib.hid (alloc_below w (.cells #[.int .i64 4, .string ⟨#[]⟩, .slice none 0 0, .slice A2 n2 c2] 49))
  obtain ⟨i0, hi0, hz0, hzz1, hzz2⟩ := info_parts tx_info
  clear hx2 hwg H hl hn2 hnm hR h
  go_enter Try.func18, Try.ntmps18
  go_wp2_with fail
  generalize (w.alloc (.cells #[.int .i64 4, .string ⟨#[]⟩, .slice none 0 0, .slice A2 n2 c2] 49)) = w1 at HBX ⊢
  go_loopw [3, 5, 15] (fun v3 _ v15 wq => ∃ (j m : Nat) (A : Option Addr) (c : Nat), j ≤ n2 ∧ v3 = .slice A m c ∧ v15 = .int .i64 (j : Nat) ∧ m ≤ 64 ∧ Hid (Below w.heap.size w wq) ∧ Hid (∃ u ls, (j < n2 → ∀ g, A2 = some ⟨g, 0, none⟩ → Wx w g j u) ∧ u.len + j = n2 ∧ Good true u ∧ AllW TxC u ∧ (gStr u).length ≤ 900 ∧ ls.length = m ∧ TxNew w.heap.size wq (.slice A m c) ls ∧ m + gNm u ≤ 64 ∧ ls ++ gTx u [] = R)) (fun _ _ v15 _ => n2 - (intOf v15).toNat)
  case atStart =>
    refine ⟨0, 0, none, 0, Nat.zero_le _, rfl, rfl, by omega, HBX.out, ws, [], fun hk g2 hg2 => ?_, by have := HW1.out.2.2.2.1; omega, HW1.out.1, HW1.out.2.1, HW1.out.2.2.1, rfl, TxNew.nil _ _, by have := HW1.out.2.2.2.2; omega, HR.out⟩
    obtain ⟨g', hg', hs⟩ := HX2.out hk
    rw [hg'] at hg2
    injection hg2 with hg2
    injection hg2 with hg2
    subst hg2
    exact hs
  case round =>
    as_aux_lemma =>
      obtain ⟨j, m, A, c, hj, rfl, rfl, hm, HB2, HU⟩ := hrel
      by_cases hjl : j < n2
      · as_aux_lemma =>
          obtain ⟨u, ls, hux, hul, hug, hua, hus, hlm, hnew, hnm, huc⟩ := HU.out
          obtain ⟨g2, rfl, -⟩ := HX2.out (by omega)
          obtain ⟨p, u', A3, c3, rfl, z0, hpr, hux'⟩ := (hux hjl g2 rfl).next hug (by omega)
          have zz0 := cellb HB2.out z0
          have hnm2 : m + (gNm p + gNm u') ≤ 64 := hnm
          have CP := hua.1 hug.1 (by have := gStr_way hug; omega) (by omega) _ wr (hpr.below HB2.out)
          have HCP := Lib.hid CP
          have hlen : (gTx p [[]]).length = gNm p := by rw [(gTx_length p).1 hug.1]; simp
          obtain ⟨P, hP⟩ : ∃ P, gTx p [[]] = P := ⟨_, rfl⟩
          rw [hP] at HCP hlen
          have huc' : ls ++ (gTx p [[]] ++ gTx u' []) = R := huc
          rw [hP] at huc'
          have HUN := Lib.hid (show (j + 1 < n2 → ∀ g, some (⟨g2, 0, none⟩ : Addr) = some ⟨g, 0, none⟩ → Wx w g (j + 1) u') ∧ u'.len + (j + 1) = n2 ∧ Good true u' ∧ AllW TxC u' ∧ (gStr u').length ≤ 900 ∧ m + P.length + gNm u' ≤ 64 ∧ (ls ++ P) ++ gTx u' [] = R from
            ⟨fun _ g' e => by injection e with e; injection e with e; subst e; exact hux', by simp only [Tr.len] at hul; omega, hug.2, hua.2, by have := gStr_way hug; omega, by rw [hlen]; omega, by rw [List.append_assoc]; exact huc'⟩)
          have HNW := Lib.hid hnew; have HLM := Lib.hid hlm
          have hm2 : m + P.length ≤ 64 := by rw [hlen]; omega
          clear hux hul hug hua hus huc z0 hpr hux' CP huc' hP hlen hnew hlm hnm hnm2
          go_wp2_with fail
          refine HCP.out.mono ?_; rintro _ w3 ⟨v3, rfl, htx, hb3⟩
          have HB3 := Lib.hid (bnext HB2.out hb3)
          have HOW := Lib.hid (show w3.ownsRow w.heap.size 9 1 (.slice A m c) m (txC ls) by have := HNW.out.below hb3; unfold TxNew at this; rw [HLM.out] at this; exact this)
          obtain ⟨A3', c3', rfl, hc3, -⟩ := htx.form
          have HRD := Lib.hid htx.reads
          have HS3 := Lib.hid (show w.heap.size ≤ w3.heap.size from HB3.out.size)
          clear hb3 HCP htx
          go_wp2_with (at_builtin; refine wpList_append_any _ rfl (.tmp 19) (.tmp 21) _ rfl w.heap.size 9 i0 (.string ⟨#[]⟩) 1 16 Try.underlying26 hi0 hz0 hzz1 hzz2 rfl (by decide) (.slice A m c) m (txC ls) rfl HOW.out _ A3' P.length c3' (txC P) rfl HRD.out (txC_one P) (by simp only [maxLen]; omega) (by omega) HS3.out ?_; intro v6 w6 hown6 hg6 hat6)
          obtain ⟨A6, c6, hv6, -⟩ := own_form hown6
          subst hv6
          have hlow : Below w.heap.size w3 w6 := Below.grown (Below.refl _ w3) hg6 HS3.out (fun k e => (World.ownsRow.lt HOW.out k e).1)
          have HB6 := Lib.hid (HB3.out.trans hlow)
          have HN6 := Lib.hid (TxNew.push (ls := ls) (ms := P) (by rw [HLM.out]; exact hown6))
          clear hown6 hg6 hat6 hlow
          go_wp2
          go_roundw
          case rel => exact ⟨j + 1, m + P.length, A6, c6, by omega, rfl, by go_num, hm2, HB6.out, u', ls ++ P, HUN.out.1, HUN.out.2.1, HUN.out.2.2.1, HUN.out.2.2.2.1, HUN.out.2.2.2.2.1, by rw [List.length_append, HLM.out], HN6.out, HUN.out.2.2.2.2.2.1, HUN.out.2.2.2.2.2.2⟩
          case measure => simp [intOf]; omega
      · as_aux_lemma =>
          obtain rfl : j = n2 := by omega
          obtain ⟨u, ls, -, hul, hug, -, -, hlm, hnew, hnm, huc⟩ := HU.out
          have : u = .none := by
            cases u with
            | none => rfl
            | way p ws => simp only [Tr.len] at hul; omega
            | nil => exact hug.elim
            | atom a r => exact hug.elim
            | br ws r => exact hug.elim
          subst this
          have e0 : ls = R := by have : ls ++ [] = R := huc; rwa [List.append_nil] at this
          subst e0
          have HN := Lib.hid hnew
          clear hnew huc hlm
          go_wp2
          go_ret
          exact ⟨_, rfl, HN.out, HB2.out⟩
end Go.Proofs.Ytlgalkadigpleaa.GP
