/-
  Texts of the trie's proofs, merged: GlbPF, GlbRd, GlbPG, GlbPH.
-/
import Derived.Test.YtbfbjalnahngjaaGreatDoorTriQ3
import Derived.Test.YtbfbjalnahngjaaGreatDoorTriQ1
import Derived.Test.YtbfbjalnahngjaaGreatDoorTriQ2
import Derived.StillTailTactics
import Derived.Deep.Cut
set_option linter.unusedSimpArgs false
set_option linter.unusedVariables false
namespace Go.Proofs.YtbfbjalnahngjaaGreatDoor.GP
open Go.RowKit
def PL : Tr → Prop
  | .nil => True
  | .atom _ r => PL r
  | .br _ r => PL r
  | .none => False
  | .way _ _ => False
theorem app_nil : ∀ (l : Tr), PL l → l.app .nil = l
  | .nil, _ => rfl
  | .atom a r, h => congrArg (Tr.atom a) (app_nil r h)
  | .br ws r, h => congrArg (Tr.br ws) (app_nil r h)
  | .none, h => h.elim
  | .way _ _, h => h.elim
theorem PL.app : ∀ {l : Tr}, PL l → ∀ {u : Tr}, PL u → PL (l.app u)
  | .nil, _, _, h => h
  | .atom a r, h, _, hu => PL.app (l := r) h hu
  | .br ws r, h, _, hu => PL.app (l := r) h hu
  | .none, h, _, _ => h.elim
  | .way _ _, h, _, _ => h.elim
theorem Un.pl {B : Nat} {w : World} {v : Value} {u : Tr} (h : Un B w v u) : PL u := by
  cases h with
  | atom a rv h => exact trivial
  | br ws wv h => exact trivial
/-- The pieces that were read. -/
structure PsJ (B : Nat) (wr : World) (s sk : List Nat) (l : Tr) (v : Value) : Prop where
  rest : gPr false s = (gPr false sk).map fun x => (l.app x.1, x.2)
  row : TrNew B wr v l
  mem : ∀ c ∈ sk, c < 256
  dep : gDp l + sk.length ≤ s.length
  num : l.len + sk.length ≤ s.length
  pl : PL l
set_option maxRecDepth 100000 in
set_option maxHeartbeats 4000000 in
theorem pieces_c (n : Nat) (HP : PcC n) : PsC n := by
  intro rb s o d hod hs hb hol hd w h
  have hlt := h.var.lt
  have HR := Lib.hid h
  have HOD := Lib.hid hod
  have c0 := h.three.1
  obtain ⟨i0, hi0, hz0, hzz1, hzz2⟩ := info_parts pc_info
  have HB := Lib.hid hb
  clear h hod hb
  go_enter Tryz.func103, Tryz.ntmps103
  go_wp2_with fail
  go_loopw [4, 5, 6] (fun v4 _ _ wr => ∃ (sk : List Nat) (l : Tr) (A : Option Addr) (q cc : Nat), v4 = .slice A q cc ∧ q ≤ 900 ∧ Hid (q = l.len) ∧ Hid (Rd wr rb sk o (max d (o + (gDp l : Nat)))) ∧ Hid (PsJ w.heap.size wr s sk l (.slice A q cc)) ∧ Hid (w.grownBy wr (some rb))) (fun _ _ _ wr => restLen rb wr)
  case atStart => exact ⟨s, .nil, none, 0, 0, rfl, by omega, rfl, by have := HR.out; have h0 := HOD.out; rwa [show max d (o + ((gDp .nil : Nat) : Int)) = d from by show max d (o + 0) = d; omega], ⟨by cases gPr false s <;> rfl, TrNew.nil _ _, HB.out, by show 0 + s.length ≤ _; omega, by show 0 + s.length ≤ _; omega, trivial⟩, World.grownBy.refl _ _⟩
  case round =>
    obtain ⟨sk, l, A, q, cc, rfl, hq, HQ, HRd, HJ, HG⟩ := hrel
    have k0 := HRd.out.three.1
    have STOP := Lib.hid (fun (hst : Stop sk) => show gPr false s = some (l, sk) by
      have e1 : gPr false sk = some (.nil, sk) := by
        rcases hst with rfl | ⟨c, t, rfl, hc⟩
        · exact gPr_nil
        · exact gPr_stop t hc
      have h1 := HJ.out.rest
      rw [e1] at h1
      rw [h1]
      show some (l.app .nil, sk) = _
      rw [app_nil l HJ.out.pl])
    have END := Lib.hid (fun (hst : Stop sk) => show PsI w.heap.size wr rb s o d (.slice A q cc) true from ⟨l, sk, STOP.out hst, HJ.out.row, HRd.out⟩)
    by_cases hn : sk = []
    · subst hn
      have EN := Lib.hid (END.out (.inl rfl))
      have k1 : wr.cell? ⟨rb, 0, none⟩ = some (.string ⟨#[]⟩) := k0
      clear k0
      go_wp2
      go_ret2
      first | exact ⟨_, _, rfl, EN.out, HG.out⟩ | exact ⟨_, .inr ⟨rfl, EN.out, HG.out⟩⟩
    · obtain ⟨c, t, rfl⟩ : ∃ c t, sk = c :: t := by
        cases sk with
        | nil => exact absurd rfl hn
        | cons a b => exact ⟨a, b, rfl⟩
      have hc256 := HJ.out.mem c (by simp)
      obtain ⟨hz, hr0⟩ := str_first (t := t) hc256
      have hdp := HJ.out.dep
      have hnm := HJ.out.num
      simp only [List.length_cons] at hdp hnm
      have hml : restLen rb wr = t.length + 1 := restLen_is HRd.out
      have PC := fun (hc : ¬ (c = 44 ∨ c = 125)) => HP rb c t o (max d (o + (gDp l : Nat))) ⟨HOD.out.1, by omega⟩ (by omega) HJ.out.mem hc (by omega) (by omega) wr HRd.out
      obtain ⟨R, hRs⟩ : ∃ R, str (c :: t) = R := ⟨_, rfl⟩
      have hne : R.toList.isEmpty = false := ne_empty2 (by rw [← hRs]; exact hz)
      have hz1 : (0 : Int) < (R.size : Int) := by rw [← hRs, str_size]; simp only [List.length_cons]; omega
      obtain ⟨hzR, hR0⟩ : ∃ h : 0 < R.size, (R[0]'h).toNat = c := by subst hRs; exact ⟨hz, hr0⟩
      rw [hRs] at k0
      have HRS := Lib.hid hRs; have HPC := Lib.hid PC; have HML := Lib.hid hml
      clear hn hz hr0 hRs PC hml
      by_cases h44 : c = 44
      · subst h44
        have EN := Lib.hid (END.out (.inr ⟨_, _, rfl, .inl rfl⟩))
        go_wp2
        go_ret2
        first | exact ⟨_, _, rfl, EN.out, HG.out⟩ | exact ⟨_, .inr ⟨rfl, EN.out, HG.out⟩⟩
      · have i44 : ¬ (c : Int) = 44 := by omega
        have b44 : ((c : Int) != 44) = true := bne_iff_ne.2 i44
        by_cases h125 : c = 125
        · subst h125
          have EN := Lib.hid (END.out (.inr ⟨_, _, rfl, .inr rfl⟩))
          go_wp2
          go_ret2
          first | exact ⟨_, _, rfl, EN.out, HG.out⟩ | exact ⟨_, .inr ⟨rfl, EN.out, HG.out⟩⟩
        · have i125 : ¬ (c : Int) = 125 := by omega
          have b125 : ((c : Int) != 125) = true := bne_iff_ne.2 i125
          have PC1 := Lib.hid (HPC.out (by omega))
          go_wp2_with fail
          refine PC1.out.mono ?_; rintro _ w2 ⟨pv, ok, rfl, hpi, hg2⟩
          obtain ⟨kk, SS, A1, A2, n1, c1, n2, c2, rfl⟩ := hpi.form
          have HG2 := Lib.hid (HG.out.trans hg2)
          cases ok with
          | false =>
            obtain ⟨hno, ⟨r, o', d', hr⟩, hpv⟩ := hpi
            have HNO := Lib.hid (show gPr false s = none by rw [HJ.out.rest, hno]; rfl)
            have HR2 := Lib.hid hr
            clear hno hr hpv hg2
            go_wp2
            go_ret2
            first | exact ⟨_, _, rfl, ⟨HNO.out, _, _, _, HR2.out.below (alloc_below _ _)⟩, grown_below HG2.out (alloc_below _ _)⟩ | exact ⟨_, .inl ⟨rfl, ⟨HNO.out, _, _, _, HR2.out.below (alloc_below _ _)⟩, grown_below HG2.out (alloc_below _ _)⟩⟩
          | true =>
            obtain ⟨u, r, hu, hr, hgp, hlen, hmem⟩ := hpi
            simp only [List.length_cons] at hlen
            obtain ⟨k', S', B1, B2, m1, d1, m2, d2, hpv, hut, hul, -⟩ := hu.cells
            have hpl := Un.pl hu
            have hrow := HJ.out.row.keep (keepG hg2 (by omega))
            obtain ⟨cs, how, hta⟩ := hrow
            rw [← HQ.out] at how
            have hdl : max (max d (o + (gDp l : Nat))) (o + (gDp u : Nat)) = max d (o + ((gDp (l.app u) : Nat) : Int)) := by rw [gDp_app]; omega
            rw [hdl] at hr
            have HJN := Lib.hid (show gPr false s = (gPr false r).map fun x => ((l.app u).app x.1, x.2) by
              rw [HJ.out.rest, hgp]
              cases gPr false r with
              | none => rfl
              | some x => exact congrArg (fun z => some (z, x.2)) (Tr.app_assoc l u x.1).symm)
            have HNN := Lib.hid (show gDp (l.app u) + r.length ≤ s.length ∧ (l.app u).len + r.length ≤ s.length by rw [gDp_app, Tr.app_len, hul]; omega)
            have HPL := Lib.hid (PL.app HJ.out.pl hpl)
            have hlt4 : ∀ g, (Value.slice A q cc).ownBlock = some g → g < wr.heap.size := fun g hg => (own_lt HJ.out.row.choose_spec.1 hg).2
            have HLT := Lib.hid hlt4
            have HS4 := Lib.hid (show w.heap.size ≤ wr.heap.size from HG.out.size)
            have HS2 := Lib.hid (show w.heap.size ≤ w2.heap.size from HG2.out.size)
            have HR2 := Lib.hid hr; have HOW := Lib.hid how; have HTA := Lib.hid hta; have HMEM := Lib.hid hmem; have HLEN := Lib.hid hlen.1; have HUL := Lib.hid hul
            have HPV := Lib.hid hpv; have HUT := Lib.hid hut
            clear hu hpv hut hul hpl how hta hdl hr hgp hlen hmem hlt4 hg2
            go_upto_region 6 with fail
            have hb3 : Below w2.heap.size w2 (w2.alloc (.cells #[.int .i64 kk, .string SS, .slice A1 n1 c1, .slice A2 n2 c2] 129)) := alloc_below _ _
            have HB3 := Lib.hid hb3
            have HS3 := Lib.hid (Nat.le_trans HS2.out hb3.size)
            have HOW3 := Lib.hid (own_keep HOW.out (keepB hb3))
            obtain ⟨t0, t1, t2, t3⟩ := (holds_alloc w2 [.int .i64 kk, .string SS, .slice A1 n1 c1, .slice A2 n2 c2] 129).four
            have e0 : (w2.alloc (.cells [.int .i64 kk, .string SS, .slice A1 n1 c1, .slice A2 n2 c2].toArray 129)) = (w2.alloc (.cells #[.int .i64 kk, .string SS, .slice A1 n1 c1, .slice A2 n2 c2] 129)) := rfl
            rw [e0] at t0 t1 t2 t3
            clear e0 hb3
            generalize (w2.alloc (.cells #[.int .i64 kk, .string SS, .slice A1 n1 c1, .slice A2 n2 c2] 129)) = y1 at HB3 HS3 HOW3 t0 t1 t2 t3 ⊢
            obtain ⟨lit, hlit⟩ : ∃ lit, (y1.alloc (.cells #[.int .i64 kk, .string SS, .slice A1 n1 c1, .slice A2 n2 c2] 129)) = lit := ⟨_, rfl⟩
            have hbl : Below y1.heap.size y1 lit := by rw [← hlit]; exact alloc_below _ _
            have hll : lit.heap.size = y1.heap.size + 1 := by rw [← hlit]; simp
            have HLIT := Lib.hid hlit; have HBL := Lib.hid hbl; have HLL := Lib.hid hll
            clear hbl hll hlit
            have hq1 : q + 1 ≤ 900 := by have h5 := HOD.out.1; have := HNN.out.2; rw [Tr.app_len] at this; have h1 := HQ.out; have h2 := HUL.out; omega
            go_wp2_with (at_builtin; refine wpList_append_any _ rfl (.tmp 35) (.tmp 37) _ rfl w.heap.size 129 i0 (.agg #[.int .i64 0, .string ⟨#[]⟩, .slice none 0 0, .slice none 0 0]) 4 72 Tryz.underlying102 hi0 hz0 hzz1 hzz2 rfl (by decide) (.slice A q cc) q cs rfl (World.ownsRow.alloc HOW3.out _) _ (some ⟨y1.heap.size, 0, none⟩) 1 1 [.int .i64 kk, .string SS, .slice A1 n1 c1, .slice A2 n2 c2] rfl (Reads.of_own (World.ownsRow_lit (base := 0) (e := 129) (size := 4) y1 #[.int .i64 kk, .string SS, .slice A1 n1 c1, .slice A2 n2 c2] 1 (Nat.zero_le _) (by decide) rfl)) (by simp [Value.oneCell']) (by simp only [maxLen]; omega) (by omega) (by have := HS3.out; simp; omega) ?_; intro v6 w6 hown6 hg6 hat6; rw [HLIT.out] at hg6 hat6)
            obtain ⟨A6, c6, hv6, -⟩ := own_form hown6
            subst hv6
            have hlow : Below w.heap.size y1 w6 := Below.grown (HBL.out.mono HS3.out) hg6 (by have := HS3.out; have := HLL.out; omega) (fun k e => (World.ownsRow.lt HOW3.out k e).1)
            have HG6 := Lib.hid (grown_low (grown_below HG2.out HB3.out) hlow (Nat.le_refl _))
            have HR6 := Lib.hid ((HR2.out.below HB3.out).low hlow hlt)
            have HN6 := Lib.hid (show TrNew w.heap.size w6 (.slice A6 (q + 1) c6) (l.app u) by
              refine ⟨cs ++ [.int .i64 kk, .string SS, .slice A1 n1 c1, .slice A2 n2 c2], ?_, ?_⟩
              · rw [Tr.app_len, HUL.out, ← HQ.out]
                exact hown6
              · refine TrAt.app ?_ l cs (TrAt.step (TrAt.move (fun g h1 h2 => ⟨(HBL.out.block g (Nat.lt_of_lt_of_le h2 HB3.out.size)).trans (HB3.out.block g h2), h1⟩) l cs HTA.out) hg6 hat6)
                have hx : pcC k' S' (.slice B1 m1 d1) (.slice B2 m2 d2) = [.int .i64 kk, .string SS, .slice A1 n1 c1, .slice A2 n2 c2] := by
                  have h0 := HPV.out
                  injection h0 with h0
                  have h1 := congrArg Array.toList h0
                  exact h1.symm
                have h9 := HUT.out
                rw [hx] at h9
                exact TrAt.fresh (M := wr.heap.size) h9 HS4.out HLT.out (fun g _ h2 => (HBL.out.block g (Nat.lt_of_lt_of_le h2 HB3.out.size)).trans (HB3.out.block g h2)) (Nat.le_trans HB3.out.size HBL.out.size) hg6 hat6)
            clear hown6 hg6 hat6 hlow
            go_wp2
            go_roundw
            case rel => exact ⟨r, l.app u, A6, q + 1, c6, rfl, hq1, by rw [Tr.app_len, HUL.out, ← HQ.out]; rfl, HR6.out, ⟨HJN.out, HN6.out, HMEM.out, HNN.out.1, HNN.out.2, HPL.out⟩, HG6.out⟩
            case measure => rw [HML.out, restLen_is HR6.out]; have := HLEN.out; omega
theorem psC_all : ∀ (n : Nat), (∀ m, PsC m → BrC m) → PsC n
  | 0, _ => pieces_c 0 (fun rb c t o d _ h => by omega)
  | n + 1, hbr => pieces_c (n + 1) (piece_c n (hbr n (psC_all n hbr)))
end Go.Proofs.YtbfbjalnahngjaaGreatDoor.GP
namespace Go.Proofs.YtbfbjalnahngjaaGreatDoor
open Go.RowKit
def AnyB : Nat → Prop := fun _ => True
/-- Pieces that are read. -/
def TrR (w : World) (v : Value) (t : Tr) : Prop := ∃ cs, OwnP AnyB w 129 4 v t.len cs ∧ TrAt AnyB w t cs
/-- Alternatives that are read. -/
def WsR (w : World) (v : Value) (t : Tr) : Prop := ∃ cs, OwnP AnyB w 102 1 v t.len cs ∧ TrAt AnyB w t cs
theorem TrNew.rd {B : Nat} {w : World} {v : Value} {t : Tr} (h : TrNew B w v t) : TrR w v t := by
  obtain ⟨cs, h1, h2⟩ := h
  exact ⟨cs, (OwnP.of h1).move (fun _ _ _ => ⟨rfl, trivial⟩), TrAt.move (fun _ _ _ => ⟨rfl, trivial⟩) t cs h2⟩
theorem TrR.below {w w' : World} {v : Value} {t : Tr} (h : TrR w v t) (hb : Below w.heap.size w w') : TrR w' v t := by
  obtain ⟨cs, h1, h2⟩ := h
  exact ⟨cs, h1.move (fun g _ hg => ⟨hb.block g hg, trivial⟩), TrAt.move (fun g _ hg => ⟨hb.block g hg, trivial⟩) t cs h2⟩
theorem WsR.below {w w' : World} {v : Value} {t : Tr} (h : WsR w v t) (hb : Below w.heap.size w w') : WsR w' v t := by
  obtain ⟨cs, h1, h2⟩ := h
  exact ⟨cs, h1.move (fun g _ hg => ⟨hb.block g hg, trivial⟩), TrAt.move (fun g _ hg => ⟨hb.block g hg, trivial⟩) t cs h2⟩
/-- From place k of block g on lie these pieces. -/
def Sx (w : World) (g k : Nat) (t : Tr) : Prop := ∃ cs, (∀ j u, cs[j]? = some u → w.cell? ⟨g, k * 4 + j, none⟩ = some u) ∧ TrAt AnyB w t cs
/-- From place k of block g on lie these alternatives. -/
def Wx (w : World) (g k : Nat) (t : Tr) : Prop := ∃ cs, (∀ j u, cs[j]? = some u → w.cell? ⟨g, k + j, none⟩ = some u) ∧ TrAt AnyB w t cs
theorem TrR.form {w : World} {v : Value} {t : Tr} (h : TrR w v t) : ∃ A c, v = .slice A t.len c ∧ t.len ≤ c ∧ (0 < t.len → ∃ g, A = some ⟨g, 0, none⟩ ∧ Sx w g 0 t) := by
  obtain ⟨cs, h1, h2⟩ := h
  obtain ⟨A, c, rfl, hc, _⟩ := own_form h1.1
  refine ⟨A, c, rfl, hc, fun hn => ?_⟩
  obtain ⟨g, c', hv, _, _, _, hcs, _⟩ := own_at h1.1 hn
  injection hv with e1 _ _
  exact ⟨g, e1, cs, fun j u hj => by rw [Nat.zero_mul, Nat.zero_add]; exact hcs j u hj, h2⟩
theorem WsR.form {w : World} {v : Value} {t : Tr} (h : WsR w v t) : ∃ A c, v = .slice A t.len c ∧ t.len ≤ c ∧ (0 < t.len → ∃ g, A = some ⟨g, 0, none⟩ ∧ Wx w g 0 t) := by
  obtain ⟨cs, h1, h2⟩ := h
  obtain ⟨A, c, rfl, hc, _⟩ := own_form h1.1
  refine ⟨A, c, rfl, hc, fun hn => ?_⟩
  obtain ⟨g, c', hv, _, _, _, hcs, _⟩ := own_at h1.1 hn
  injection hv with e1 _ _
  exact ⟨g, e1, cs, fun j u hj => by rw [Nat.zero_add]; exact hcs j u hj, h2⟩
/-- A range that is read. -/
def RnR (w : World) (v : Value) (rs : List (Nat × Nat)) : Prop := OwnP AnyB w 147 2 v rs.length (rnC rs)
theorem RnR.below {w w' : World} {v : Value} {rs : List (Nat × Nat)} (h : RnR w v rs) (hb : Below w.heap.size w w') : RnR w' v rs := h.move (fun g _ hg => ⟨hb.block g hg, trivial⟩)
/-- What a piece is, by its cells. -/
inductive PcR (w : World) : Nat → ByteArray → Value → Value → (GA ⊕ Tr) → Prop where
  | atom (a : GA) (rv : Value) (h : RnR w rv a.rows) : PcR w a.kind (str a.txt) rv (.slice none 0 0) (.inl a)
  | br (ws : Tr) (wv : Value) (h : WsR w wv ws) : PcR w 4 ⟨#[]⟩ (.slice none 0 0) wv (.inr ws)
theorem PcR.below {w w' : World} {k : Nat} {s : ByteArray} {rv wv : Value} {x : GA ⊕ Tr} (h : PcR w k s rv wv x) (hb : Below w.heap.size w w') : PcR w' k s rv wv x := by
  cases h with
  | atom a rv h => exact .atom a rv (h.below hb)
  | br ws wv h => exact .br ws wv (h.below hb)
def consT : GA ⊕ Tr → Tr → Tr
  | .inl a, r => .atom a r
  | .inr ws, r => .br ws r
theorem Sx.next {w : World} {g k : Nat} {t : Tr} (h : Sx w g k t) (hp : Good false t) (hn : 0 < t.len) : ∃ (x : GA ⊕ Tr) (r : Tr) (kk : Nat) (s : ByteArray) (A1 A2 : Option Addr) (n1 c1 n2 c2 : Nat), t = consT x r ∧
    w.cell? ⟨g, k * 4, none⟩ = some (.int .i64 (kk : Nat)) ∧ w.cell? ⟨g, k * 4 + 1, none⟩ = some (.string s) ∧ w.cell? ⟨g, k * 4 + 2, none⟩ = some (.slice A1 n1 c1) ∧ w.cell? ⟨g, k * 4 + 3, none⟩ = some (.slice A2 n2 c2) ∧
    PcR w kk s (.slice A1 n1 c1) (.slice A2 n2 c2) x ∧ Sx w g (k + 1) r := by
  obtain ⟨cs, h1, h2⟩ := h
  cases t with
  | nil => exact absurd hn (Nat.lt_irrefl 0)
  | none => exact hp.elim
  | way p ws => exact hp.elim
  | atom a r =>
    obtain ⟨rv, cs', ho, rfl, hr⟩ := h2
    obtain ⟨A, c, rfl, _⟩ := own_form ho.1
    refine ⟨.inl a, r, _, _, _, _, _, _, _, _, rfl, h1 0 _ rfl, h1 1 _ rfl, h1 2 _ rfl, h1 3 _ rfl, .atom a _ ho, cs', fun j u hj => ?_, hr⟩
    have := h1 (4 + j) u (by rw [List.getElem?_append_right (by simp [pcC]), show 4 + j - (pcC a.kind (str a.txt) (.slice A a.rows.length c) (.slice none 0 0)).length = j by simp [pcC]]; exact hj)
    rw [show (k + 1) * 4 + j = k * 4 + (4 + j) by omega]
    exact this
  | br ws r =>
    obtain ⟨wv, wcs, cs', ho, hw, rfl, hr⟩ := h2
    obtain ⟨A, c, rfl, _⟩ := own_form ho.1
    refine ⟨.inr ws, r, 4, _, _, _, _, _, _, _, rfl, h1 0 _ rfl, h1 1 _ rfl, h1 2 _ rfl, h1 3 _ rfl, .br ws _ ⟨wcs, ho, hw⟩, cs', fun j u hj => ?_, hr⟩
    have := h1 (4 + j) u (by rw [List.getElem?_append_right (by simp [pcC]), show 4 + j - (pcC 4 ⟨#[]⟩ (.slice none 0 0) (.slice A ws.len c)).length = j by simp [pcC]]; exact hj)
    rw [show (k + 1) * 4 + j = k * 4 + (4 + j) by omega]
    exact this
theorem Wx.next {w : World} {g k : Nat} {t : Tr} (h : Wx w g k t) (hp : Good true t) (hn : 0 < t.len) : ∃ (p r : Tr) (A : Option Addr) (c : Nat), t = .way p r ∧ w.cell? ⟨g, k, none⟩ = some (.slice A p.len c) ∧ TrR w (.slice A p.len c) p ∧ Wx w g (k + 1) r := by
  obtain ⟨cs, h1, h2⟩ := h
  cases t with
  | nil => exact hp.elim
  | atom a r => exact hp.elim
  | br ws r => exact hp.elim
  | none => exact absurd hn (Nat.lt_irrefl 0)
  | way p r =>
    obtain ⟨v, pcs, cs', ho, hw, rfl, hr⟩ := h2
    obtain ⟨A, c, rfl, _⟩ := own_form ho.1
    refine ⟨p, r, A, c, rfl, h1 0 _ rfl, ⟨pcs, ho, hw⟩, cs', fun j u hj => ?_, hr⟩
    have := h1 (1 + j) u (by rw [show 1 + j = j + 1 by omega]; exact hj)
    rw [show k + 1 + j = k + (1 + j) by omega]
    exact this
/-! ### By the alternatives -/
def AllW (Q : Tr → Prop) : Tr → Prop
  | .nil => True
  | .atom _ r => AllW Q r
  | .br ws r => AllW Q ws ∧ AllW Q r
  | .none => True
  | .way p ws => Q p ∧ AllW Q ws
theorem tr_ind {Q : Tr → Prop} (h : ∀ l, AllW Q l → Q l) : ∀ t, Q t ∧ AllW Q t
  | .nil => ⟨h _ trivial, trivial⟩
  | .none => ⟨h _ trivial, trivial⟩
  | .atom a r => ⟨h _ (tr_ind h r).2, (tr_ind h r).2⟩
  | .br ws r => ⟨h _ ⟨(tr_ind h ws).2, (tr_ind h r).2⟩, (tr_ind h ws).2, (tr_ind h r).2⟩
  | .way p ws => ⟨h _ ⟨(tr_ind h p).1, (tr_ind h ws).2⟩, (tr_ind h p).1, (tr_ind h ws).2⟩
theorem gStr_way {p ws : Tr} (h : Good true (.way p ws)) : (gStr (.way p ws)).length = (gStr p).length + 1 + (gStr ws).length := by
  by_cases hn : ws = .none
  · subst hn
    show (gStr p ++ [125]).length = _ + 1 + 0
    rw [List.length_append]
    rfl
  · rw [gStr_more hn h.2, List.length_append, List.length_cons]
    omega
theorem gStr_br (ws r : Tr) : (gStr (.br ws r)).length = (gStr ws).length + (gStr r).length + 1 := by
  show (123 :: (gStr ws ++ gStr r)).length = _
  rw [List.length_cons, List.length_append]
theorem ws_len {ws : Tr} (h : Good true ws) : ws.len ≤ (gStr ws).length := by
  by_cases hn : ws = .none
  · subst hn; exact Nat.zero_le _
  · exact ((gStr_len ws).2 h hn).2
end Go.Proofs.YtbfbjalnahngjaaGreatDoor
namespace Go.Proofs.YtbfbjalnahngjaaGreatDoor.GP
open Go.RowKit
/-- count keeps its word. -/
def CntC (l : Tr) : Prop := Good false l → (gStr l).length ≤ 900 → ∀ (v : Value) (w : World), TrR w v l →
    Calls Tryz.prog 104 #[v] w fun e w' => e = .returned (.int .i64 (gCnt l 1 : Nat)) ∧ Below w.heap.size w w'
theorem consT_good {x : GA ⊕ Tr} {r : Tr} (h : Good false (consT x r)) : Good false r := by
  cases x with
  | inl a => exact h.2
  | inr ws => exact h.2.2
theorem consT_len (x : GA ⊕ Tr) (r : Tr) : (consT x r).len = r.len + 1 := by cases x <;> rfl
set_option maxRecDepth 100000 in
set_option maxHeartbeats 4000000 in
theorem count_of (l : Tr) (H : AllW CntC l) : CntC l := by
  intro hg hl v w h
  have hn9 : l.len ≤ 900 := Nat.le_trans ((gStr_len l).1 hg).2 hl
  obtain ⟨A, c, rfl, hc, hx⟩ := h.form
  obtain ⟨n, hn⟩ : ∃ n, l.len = n := ⟨_, rfl⟩
  rw [hn] at hc hx hn9 ⊢
  obtain ⟨d, hd⟩ : ∃ d, gCnt l 1 = d := ⟨_, rfl⟩
  rw [hd]
  have hd9 : d ≤ 65 := by rw [← hd]; exact gCnt_le l hg 1 (by omega)
  have HX := Lib.hid hx; have HD := Lib.hid hd; have HGL := Lib.hid (show Good false l ∧ AllW CntC l ∧ (gStr l).length ≤ 900 ∧ l.len = n from ⟨hg, H, hl, hn⟩)
  clear hx hd h hg H hl hn
  go_enter Tryz.func104, Tryz.ntmps104
  go_wp2
  go_loopw [3, 5, 6, 8, 11] (fun v3 _ _ _ v11 wr => ∃ (k m : Nat), k ≤ n ∧ v3 = .int .i64 (m : Nat) ∧ v11 = .int .i64 (k : Nat) ∧ m ≤ 65 ∧ Hid (Below w.heap.size w wr) ∧ Hid (∃ t, (k < n → ∀ g, A = some ⟨g, 0, none⟩ → Sx w g k t) ∧ t.len + k = n ∧ Good false t ∧ AllW CntC t ∧ (gStr t).length ≤ 900 ∧ gCnt t m = d)) (fun _ _ _ _ v11 _ => n - (intOf v11).toNat)
  case atStart =>
    refine ⟨0, 1, Nat.zero_le _, rfl, rfl, by omega, Below.refl _ _, l, fun hk g hg => ?_, by have := HGL.out.2.2.2; omega, HGL.out.1, HGL.out.2.1, HGL.out.2.2.1, HD.out⟩
    obtain ⟨g', hg', hs⟩ := HX.out hk
    rw [hg'] at hg
    injection hg with hg
    injection hg with hg
    subst hg
    exact hs
  case round =>
    obtain ⟨k, m, hk, rfl, rfl, hm, HB, HT⟩ := hrel
    by_cases hlt : k < n
    · obtain ⟨t, hsx, htl, htg, hta, hts, htc⟩ := HT.out
      obtain ⟨g, rfl, -⟩ := HX.out (by omega)
      obtain ⟨x, r, kk, s, A1, A2, n1, c1, n2, c2, rfl, q0, q1, q2, q3, hpc, hsr⟩ := (hsx hlt g rfl).next htg (by omega)
      have y0 := cellb HB.out q0; have y1 := cellb HB.out q1; have y2 := cellb HB.out q2; have y3 := cellb HB.out q3
      have hrg := consT_good htg
      rw [consT_len] at htl
      cases hpc with
      | atom a rv h =>
        have hka : ¬ ((a.kind : Nat) : Int) = 4 := by cases a <;> simp [GA.kind]
        have HNX := Lib.hid (show ∃ t, (k + 1 < n → ∀ g', some (⟨g, 0, none⟩ : Addr) = some ⟨g', 0, none⟩ → Sx w g' (k + 1) t) ∧ t.len + (k + 1) = n ∧ Good false t ∧ AllW CntC t ∧ (gStr t).length ≤ 900 ∧ gCnt t m = d from
          ⟨r, fun _ g' e => by injection e with e; injection e with e; subst e; exact hsr, by omega, hrg, hta, by have : (gStr (Tr.atom a r)).length = a.txt.length + (gStr r).length := List.length_append; simp only [consT] at hts; omega, htc⟩)
        obtain ⟨ka, hka2⟩ : ∃ ka, a.kind = ka := ⟨_, rfl⟩
        rw [hka2] at hka y0
        obtain ⟨sa, hsa⟩ : ∃ sa, str a.txt = sa := ⟨_, rfl⟩
        rw [hsa] at y1
        clear hsx htl htg hta hts htc q0 q1 q2 q3 hsr hrg hka2 hsa h
        go_wp2
        go_roundw
        case rel => exact ⟨k + 1, m, by omega, rfl, by go_num, hm, bnext HB.out (alloc_below _ _), HNX.out⟩
        case measure => simp [intOf]; omega
      | br ws wv h =>
        obtain ⟨A2', c2', hv2, hc2, hx2⟩ := h.form
        injection hv2 with e1 e2 e3
        subst e1 e2 e3
        have hwg : Good true ws := htg.1
        have hw9 : ws.len ≤ 900 := Nat.le_trans (ws_len hwg) (by have := gStr_br ws r; simp only [consT] at hts; omega)
        have htc' : gCnt r (min (m * gCnt ws 0) 65) = d := htc
        have HR1 := Lib.hid (show Good false r ∧ AllW CntC r ∧ (gStr r).length ≤ 900 ∧ r.len + (k + 1) = n ∧ Sx w g (k + 1) r from ⟨hrg, hta.2, by have := gStr_br ws r; simp only [consT] at hts; omega, by omega, hsr⟩)
        have HW1 := Lib.hid (show Good true ws ∧ AllW CntC ws ∧ (gStr ws).length ≤ 900 from ⟨hwg, hta.1, by have := gStr_br ws r; simp only [consT] at hts; omega⟩)
        have HX2 := Lib.hid hx2; have HTC := Lib.hid htc'
        obtain ⟨W, hW⟩ : ∃ W, gCnt ws 0 = W := ⟨_, rfl⟩
        rw [hW] at HTC
        have HWW := Lib.hid hW
        obtain ⟨n2, hn2⟩ : ∃ n2, ws.len = n2 := ⟨_, rfl⟩
        rw [hn2] at hc2 hw9 HX2 y3
        have HN2 := Lib.hid hn2
        clear hsx htl htg hta hts htc q0 q1 q2 q3 hsr hrg h hx2 hwg htc' hW hn2
        go_wp2_with fail
        have HB1 := Lib.hid (bnext HB.out (alloc_below wr (.cells #[.int .i64 4, .string ⟨#[]⟩, .slice none 0 0, .slice A2 n2 c2] 129)))
        generalize (wr.alloc (.cells #[.int .i64 4, .string ⟨#[]⟩, .slice none 0 0, .slice A2 n2 c2] 129)) = w1 at HB1 ⊢
        go_loopw [6, 8, 21] (fun v6 _ v21 wq => ∃ (j s : Nat), j ≤ n2 ∧ v6 = .int .i64 (s : Nat) ∧ v21 = .int .i64 (j : Nat) ∧ s ≤ 65 * j ∧ Hid (Below w.heap.size w wq) ∧ Hid (∃ u, (j < n2 → ∀ g, A2 = some ⟨g, 0, none⟩ → Wx w g j u) ∧ u.len + j = n2 ∧ Good true u ∧ AllW CntC u ∧ (gStr u).length ≤ 900 ∧ s + gCnt u 0 = W)) (fun _ _ v21 _ => n2 - (intOf v21).toNat)
        case atStart =>
          refine ⟨0, 0, Nat.zero_le _, rfl, rfl, by omega, HB1.out, ws, fun hk g2 hg2 => ?_, by have := HN2.out; omega, HW1.out.1, HW1.out.2.1, HW1.out.2.2, by rw [Nat.zero_add]; exact HWW.out⟩
          obtain ⟨g', hg', hs⟩ := HX2.out hk
          rw [hg'] at hg2
          injection hg2 with hg2
          injection hg2 with hg2
          subst hg2
          exact hs
        case round =>
          obtain ⟨j, s, hj, rfl, rfl, hs, HB2, HU⟩ := hrel
          by_cases hjl : j < n2
          · obtain ⟨u, hux, hul, hug, hua, hus, huc⟩ := HU.out
            obtain ⟨g2, rfl, -⟩ := HX2.out (by omega)
            obtain ⟨p, u', A3, c3, rfl, z0, hpr, hux'⟩ := (hux hjl g2 rfl).next hug (by omega)
            have zz0 := cellb HB2.out z0
            have CP := hua.1 hug.1 (by have := gStr_way hug; omega) _ wr (hpr.below HB2.out)
            have hp65 : gCnt p 1 ≤ 65 := gCnt_le p hug.1 1 (by omega)
            have huc' : s + (gCnt p 1 + gCnt u' 0) = W := huc
            obtain ⟨x, hx⟩ : ∃ x, gCnt p 1 = x := ⟨_, rfl⟩
            rw [hx] at CP hp65 huc'
            have wadd : IntKind.i64.wrap ((s : Int) + (x : Int)) = ((s + x : Nat) : Int) := by rw [IntKind.wrap_i64]; omega
            have HCP := Lib.hid CP
            have HUN := Lib.hid (show ∃ u, (j + 1 < n2 → ∀ g, some (⟨g2, 0, none⟩ : Addr) = some ⟨g, 0, none⟩ → Wx w g (j + 1) u) ∧ u.len + (j + 1) = n2 ∧ Good true u ∧ AllW CntC u ∧ (gStr u).length ≤ 900 ∧ s + x + gCnt u 0 = W from
              ⟨u', fun _ g' e => by injection e with e; injection e with e; subst e; exact hux', by simp only [Tr.len] at hul; omega, hug.2, hua.2, by have := gStr_way hug; omega, by omega⟩)
            clear hux hul hug hua hus huc z0 hpr hux' CP huc' hx
            go_wp2_with fail
            refine HCP.out.mono ?_; rintro _ w3 ⟨rfl, hb3⟩
            have HB3 := Lib.hid (bnext HB2.out hb3)
            clear hb3 HCP
            go_wp2
            go_roundw
            case rel => exact ⟨j + 1, s + x, by omega, rfl, by go_num, by omega, HB3.out, HUN.out⟩
            case measure => simp [intOf]; omega
          · obtain rfl : j = n2 := by omega
            obtain ⟨u, -, hul, hug, -, -, huc⟩ := HU.out
            have : u = .none := by
              cases u with
              | none => rfl
              | way p ws => simp only [Tr.len] at hul; omega
              | nil => exact hug.elim
              | atom a r => exact hug.elim
              | br ws r => exact hug.elim
            subst this
            obtain rfl : s = W := by have : s + 0 = W := huc; omega
            have hms : m * s ≤ 65 * (65 * 900) := Nat.mul_le_mul hm (by omega)
            have wmul : IntKind.i64.wrap ((m : Int) * (s : Int)) = ((m * s : Nat) : Int) := by
              have e : (m : Int) * (s : Int) = ((m * s : Nat) : Int) := by push_cast; rfl
              rw [e, IntKind.wrap_i64]; omega
            have HNX := Lib.hid (show ∃ t, (k + 1 < n → ∀ g', some (⟨g, 0, none⟩ : Addr) = some ⟨g', 0, none⟩ → Sx w g' (k + 1) t) ∧ t.len + (k + 1) = n ∧ Good false t ∧ AllW CntC t ∧ (gStr t).length ≤ 900 ∧ gCnt t (min (m * s) 65) = d from
              ⟨r, fun _ g' e => by injection e with e; injection e with e; subst e; exact HR1.out.2.2.2.2, HR1.out.2.2.2.1, HR1.out.1, HR1.out.2.1, HR1.out.2.2.1, HTC.out⟩)
            obtain ⟨ms, hmse⟩ : ∃ ms, m * s = ms := ⟨_, rfl⟩
            rw [hmse] at wmul hms HNX
            clear hul hug huc hmse HU HR1 HTC
            go_wp2
            go_roundw
            case rel => exact ⟨k + 1, min ms 65, by omega, by simp; first | (split <;> omega) | omega, by go_num, Nat.min_le_right _ _, HB2.out, HNX.out⟩
            case measure => simp [intOf]; omega
    · obtain rfl : k = n := by omega
      obtain ⟨t, -, htl, htg, -, -, htc⟩ := HT.out
      have : t = .nil := by
        cases t with
        | nil => rfl
        | atom a r => simp only [Tr.len] at htl; omega
        | br ws r => simp only [Tr.len] at htl; omega
        | none => exact htg.elim
        | way p ws => exact htg.elim
      subst this
      obtain rfl : m = d := htc
      go_wp2
      go_ret
      exact ⟨rfl, HB.out⟩
theorem count_c (l : Tr) : CntC l := (tr_ind count_of l).1
end Go.Proofs.YtbfbjalnahngjaaGreatDoor.GP
namespace Go.Proofs.YtbfbjalnahngjaaGreatDoor.GP
open Go.RowKit
theorem max_two (a b : Int) : max a b = if a ≤ b then b else a := by omega
/-- What read answers. -/
def RdI (B : Nat) (w' : World) (s : List Nat) (v : Value) : Prop := gErr s = 0 → gPr false s = some (gTree s, []) ∧ Good false (gTree s) ∧ TrNew B w' v (gTree s)
theorem gErr_long {s : List Nat} (h : 128 < s.length) : gErr s = 12 := if_pos h
theorem gErr_none {s : List Nat} (h : ¬ 128 < s.length) (hp : gPr false s = none) : gErr s = 10 := by unfold gErr; rw [if_neg h, hp]
theorem gErr_form {s r : List Nat} {l : Tr} (h : ¬ 128 < s.length) (hp : gPr false s = some (l, r)) (hr : l.len = 0 ∨ r ≠ []) : gErr s = 10 := by unfold gErr; rw [if_neg h, hp]; exact if_pos hr
theorem gErr_deep {s : List Nat} {l : Tr} (h : ¬ 128 < s.length) (hp : gPr false s = some (l, [])) (hl : ¬ l.len = 0) (hd : 4 < gDp l) : gErr s = 19 := by
  unfold gErr; rw [if_neg h, hp]; simp only [hl, ne_eq, not_true, or_self, if_false]; exact if_pos hd
theorem gErr_many {s : List Nat} {l : Tr} (h : ¬ 128 < s.length) (hp : gPr false s = some (l, [])) (hl : ¬ l.len = 0) (hd : ¬ 4 < gDp l) (hc : 64 < gCnt l 1) : gErr s = 11 := by
  unfold gErr; rw [if_neg h, hp]; simp only [hl, ne_eq, not_true, or_self, if_false]; rw [if_neg hd, if_pos hc]
theorem gErr_ok {s : List Nat} {l : Tr} (h : ¬ 128 < s.length) (hp : gPr false s = some (l, [])) (hl : ¬ l.len = 0) (hd : ¬ 4 < gDp l) (hc : ¬ 64 < gCnt l 1) : gErr s = 0 ∧ gTree s = l := by
  unfold gErr gTree; rw [hp]; simp only [hl, ne_eq, not_true, or_self, if_false]; rw [if_neg h, if_neg hd, if_neg hc]; exact ⟨rfl, trivial⟩
set_option maxRecDepth 100000 in
set_option maxHeartbeats 4000000 in
theorem read_of (HPS : PsC 128) (S : ByteArray) (hsz : S.size ≤ 9223372036854775807) (w : World) :
    Calls Tryz.prog 83 #[.string S] w fun e w' => ∃ v, e = .returned (.tuple #[v, .int .i64 (gErr (bs S))]) ∧ RdI w.heap.size w' (bs S) v ∧ Below w.heap.size w w' := by
  by_cases hl : 128 < S.size
  · have hi : (128 : Int) < (S.size : Int) := by omega
    have HE := Lib.hid (gErr_long (s := bs S) (by rw [bs_length]; exact hl))
    go_enter Tryz.func83, Tryz.ntmps83
    go_wp2
    go_ret2
    exact ⟨_, by rw [HE.out]; rfl, (fun h => by rw [HE.out] at h; cases h), Below.refl _ _⟩
  · have hi : ¬ (128 : Int) < (S.size : Int) := by omega
    have HL := Lib.hid (show ¬ 128 < (bs S).length by rw [bs_length]; exact hl)
    have HP := Lib.hid (fun (W : World) (rb : Nat) (hW : Rd W rb (bs S) 0 0) => HPS rb (bs S) 0 0 ⟨Int.le_refl _, Int.le_refl _⟩ (by rw [bs_length]; omega) (bs_mem S) (by rw [bs_length]; omega) (by omega) W hW)
    have HRX := Lib.hid (show Rd (w.alloc (.cells #[.string S, .int .i64 0, .int .i64 0] 122)) w.heap.size (bs S) 0 0 from ⟨DVar.alloc _ _, by
      have := holds_alloc w [.string S, .int .i64 0, .int .i64 0] 122
      rw [str_bs]
      exact this⟩)
    have HBX := Lib.hid (alloc_below w (.cells #[.string S, .int .i64 0, .int .i64 0] 122))
    go_enter Tryz.func83, Tryz.ntmps83
    go_wp2_with fail
    refine (HP.out _ _ HRX.out).mono ?_; rintro _ w2 ⟨v, ok, rfl, hps, hg2⟩
    have HB2 := Lib.hid (show Below w.heap.size w w2 from (HBX.out.trans (Below.mono ⟨hg2.os, hg2.tape, hg2.output, hg2.size, fun i hi => hg2.block i (by simp; omega) (by intro e; injection e with e; omega)⟩ (Nat.le_refl _))))
    cases ok with
    | false =>
      have HE := Lib.hid (gErr_none HL.out hps.1)
      clear hps hg2
      go_wp2
      go_ret2
      exact ⟨_, by rw [HE.out]; rfl, (fun h => by rw [HE.out] at h; cases h), HB2.out⟩
    | true =>
      obtain ⟨l, r, hp, ht, hr⟩ := hps
      have HT := Lib.hid (ht.mono (B := w.heap.size) (by simp))
      obtain ⟨A, c, rfl, hc, -⟩ := ht.rd.form
      obtain ⟨k0, -, k2, -, -, -⟩ := hr.three
      have hgp := gPr_pf hp
      have hll := (gStr_len l).1 hgp.1
      have hlen := congrArg List.length hgp.2.1
      rw [List.length_append, bs_length] at hlen
      have hdd : max (0 : Int) (0 + (gDp l : Nat)) = (gDp l : Nat) := by omega
      rw [hdd] at k2
      have CN := Lib.hid (count_c l hgp.1 (by omega) _ w2 ht.rd)
      have HGP := Lib.hid hgp; have HPP := Lib.hid hp
      have hl9 : l.len ≤ 900 := by omega
      have hd9 : gDp l ≤ 900 := by omega
      have hc65 : gCnt l 1 ≤ 65 := gCnt_le l hgp.1 1 (by omega)
      obtain ⟨n, hn⟩ : ∃ n, l.len = n := ⟨_, rfl⟩
      obtain ⟨dp, hdp⟩ : ∃ dp, gDp l = dp := ⟨_, rfl⟩
      obtain ⟨cn, hcn⟩ : ∃ cn, gCnt l 1 = cn := ⟨_, rfl⟩
      rw [hn] at CN HT hc hl9 ⊢
      rw [hdp] at k2 hd9
      rw [hcn] at CN hc65
      have HN := Lib.hid hn; have HDP := Lib.hid hdp; have HCN := Lib.hid hcn
      clear ht hr hdd hg2 hgp hp hn hdp hcn hll hlen
      by_cases hz : n = 0
      · subst hz
        have HE := Lib.hid (gErr_form HL.out HPP.out (.inl HN.out))
        go_wp2
        go_ret2
        exact ⟨_, by rw [HE.out]; rfl, (fun h => by rw [HE.out] at h; cases h), HB2.out⟩
      · have hzi : ¬ (n : Int) = 0 := by omega
        have hzb : ((n : Int) == 0) = false := beq_false_of_ne hzi
        by_cases hrn : r = []
        · subst hrn
          have k1 : w2.cell? ⟨w.heap.size, 0, none⟩ = some (.string ⟨#[]⟩) := k0
          clear k0
          by_cases h4 : 4 < dp
          · have h4i : (4 : Int) < (dp : Int) := by omega
            have HE := Lib.hid (gErr_deep HL.out HPP.out (by rw [HN.out]; exact hz) (by rw [HDP.out]; exact h4))
            go_wp2
            go_ret2
            exact ⟨_, by rw [HE.out]; rfl, (fun h => by rw [HE.out] at h; cases h), HB2.out⟩
          · have h4i : ¬ (4 : Int) < (dp : Int) := by omega
            by_cases h64 : 64 < cn
            · have h64i : (64 : Int) < (cn : Int) := by omega
              have HE := Lib.hid (gErr_many HL.out HPP.out (by rw [HN.out]; exact hz) (by rw [HDP.out]; exact h4) (by rw [HCN.out]; exact h64))
              go_wp2_with fail
              refine CN.out.mono ?_; rintro _ w3 ⟨rfl, hb3⟩
              have HB3 := Lib.hid (bnext HB2.out hb3)
              clear hb3
              go_wp2
              go_ret2
              exact ⟨_, by rw [HE.out]; rfl, (fun h => by rw [HE.out] at h; cases h), HB3.out⟩
            · have h64i : ¬ (64 : Int) < (cn : Int) := by omega
              have HE := Lib.hid (gErr_ok HL.out HPP.out (by rw [HN.out]; exact hz) (by rw [HDP.out]; exact h4) (by rw [HCN.out]; exact h64))
              go_wp2_with fail
              refine CN.out.mono ?_; rintro _ w3 ⟨rfl, hb3⟩
              have HB3 := Lib.hid (bnext HB2.out hb3)
              have HT3 := Lib.hid (HT.out.below hb3)
              clear hb3
              go_wp2
              go_ret2
              exact ⟨_, by rw [HE.out.1]; rfl, (fun _ => by rw [HE.out.2]; exact ⟨HPP.out, HGP.out.1, HT3.out⟩), HB3.out⟩
        · have HE := Lib.hid (gErr_form HL.out HPP.out (.inr hrn))
          obtain ⟨R, hRs⟩ : ∃ R, str r = R := ⟨_, rfl⟩
          have hne : R.toList.isEmpty = false := ne_empty2 (by rw [← hRs, str_size]; exact List.length_pos_iff.2 hrn)
          rw [hRs] at k0
          clear hRs
          go_wp2
          go_ret2
          exact ⟨_, by rw [HE.out]; rfl, (fun h => by rw [HE.out] at h; cases h), HB2.out⟩
end Go.Proofs.YtbfbjalnahngjaaGreatDoor.GP
