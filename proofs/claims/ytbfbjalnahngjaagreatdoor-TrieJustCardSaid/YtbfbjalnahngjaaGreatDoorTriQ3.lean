/-
  Texts of the trie's proofs, merged: GlbPC, GlbPD, GlbPE.
-/
import Derived.Test.YtbfbjalnahngjaaGreatDoorTriQ2
import Derived.Deep.RegionHeld3
import Derived.Defers
set_option linter.unusedSimpArgs false
set_option linter.unusedVariables false
namespace Go.Proofs.YtbfbjalnahngjaaGreatDoor
open Go.RowKit
theorem info_parts {P : Program} {T : TypeId} {x : Option Value} {n m : Nat} (h : (P.info? T).map (fun i => (i.zero, i.size, i.bytes)) = some (x, n, m)) : ∃ i, P.info? T = some i ∧ i.zero = x ∧ i.size = n ∧ i.bytes = m := by
  cases hi : P.info? T with
  | none => rw [hi] at h; cases h
  | some i =>
    rw [hi] at h
    simp only [Option.map_some, Option.some.injEq, Prod.mk.injEq] at h
    exact ⟨i, rfl, h.1, h.2.1, h.2.2⟩
theorem dvar_low {B : Nat} {w w' : World} {b n : Nat} (hb : Below B w w') (h : b < B) (hv : DVar w b n) : DVar w' b n :=
  ⟨Nat.lt_of_lt_of_le hv.lt hb.size, fun i hi => by obtain ⟨u, hu⟩ := hv.c i hi; exact ⟨u, (hb.cell (p := ⟨b, i, none⟩) h).trans hu⟩, fun i hi => (hb.frozen (p := ⟨b, i, none⟩) h).trans (hv.f i hi)⟩
theorem mem_drop {s : List Nat} (h : ∀ c ∈ s, c < 256) (k : Nat) : ∀ c ∈ s.drop k, c < 256 := fun c hc => h c (List.mem_of_mem_drop hc)
theorem drop_at {s : List Nat} {k : Nat} (h : k < s.length) : s.drop k = s.getD k 0 :: s.drop (k + 1) := by
  rw [List.drop_eq_getElem_cons h, List.getD_eq_getElem?_getD, List.getElem?_eq_getElem h]
  rfl
theorem grown_then {a b c : World} {r1 r2 : Nat} (h : a.grownBy b (some r1)) (k : b.grownBy c (some r2)) (hr : a.heap.size ≤ r2) : a.grownBy c (some r1) :=
  ⟨k.os.trans h.os, k.tape.trans h.tape, k.output.trans h.output, Nat.le_trans h.size k.size, fun i hi hn => (k.block i (Nat.lt_of_lt_of_le hi h.size) (fun e => by injection e with e; omega)).trans (h.block i hi hn)⟩
namespace GP
/-- What a reading of a piece answers. -/
def PcI (B : Nat) (w' : World) (rb : Nat) (s : List Nat) (o d : Int) (pv : Value) : Bool → Prop
  | true => ∃ u r, Un B w' pv u ∧ Rd w' rb r o (max d (o + gDp u)) ∧ gPr false s = (gPr false r).map (fun x => (u.app x.1, x.2)) ∧ (r.length < s.length ∧ r.length + gDp u ≤ s.length) ∧ ∀ c ∈ r, c < 256
  | false => gPr false s = none ∧ (∃ r o' d', Rd w' rb r o' d') ∧ pv = .agg #[.int .i64 0, .string ⟨#[]⟩, .slice none 0 0, .slice none 0 0]
theorem Rd.put {w w' : World} {b b' : Nat} {s : List Nat} {o d : Int} {cs : List Value} (h : Rd w b s o d) (hp : Put w w' b' cs) (hn : b ≠ b') : Rd w' b s o d := ⟨hp.vars _ _ h.var, h.at_.keep hp.keep hn⟩
theorem deep0 {o d : Int} (h : 0 ≤ o ∧ o ≤ d) (a : GA) : max d (o + (gDp (.atom a .nil) : Nat)) = d := by
  show max d (o + 0) = d
  omega
/-- The members that were read, at place k. -/
def ClI (t : List Nat) (k : Nat) (rs : List (Nat × Nat)) : Prop := 1 ≤ k ∧ rs.length ≤ k ∧ gCls t = (gCls ((91 :: t).drop k)).map fun x => (rs ++ x.1, k - 1 + x.2)
theorem ClI.start (t : List Nat) : ClI t 1 [] := ⟨Nat.le_refl _, Nat.zero_le _, by
  show gCls t = (gCls t).map _
  cases gCls t with
  | none => rfl
  | some x => simp⟩
theorem ClI.next {t : List Nat} {k c m : Nat} {rs : List (Nat × Nat)} {r : Nat × Nat} (h : ClI t k rs) (hk : k < (91 :: t).length) (hc : (91 :: t).getD k 0 = c) (h93 : c ≠ 93) (hm : gMem ((91 :: t).drop k) = some (r, m)) : ClI t (k + m) (rs ++ [r]) := by
  obtain ⟨h1, h2, h3⟩ := h
  have hs := gMem_size hm
  refine ⟨by omega, by rw [List.length_append]; simp; omega, ?_⟩
  rw [h3]
  have e := drop_at hk
  rw [hc] at e
  rw [e] at hm
  rw [e, gCls_yes h93 hm, ← e, List.drop_drop]
  cases gCls ((91 :: t).drop (k + m)) with
  | none => rfl
  | some x =>
    simp
    omega
theorem ClI.over {t : List Nat} {k : Nat} {rs : List (Nat × Nat)} (h : ClI t k rs) (hk : (91 :: t).length ≤ k) : gCls t = none := by
  rw [h.2.2, List.drop_eq_nil_of_le hk, gCls_nil]
  rfl
theorem ClI.bad {t : List Nat} {k c : Nat} {rs : List (Nat × Nat)} (h : ClI t k rs) (hk : k < (91 :: t).length) (hc : (91 :: t).getD k 0 = c) (h93 : c ≠ 93) (hm : gMem ((91 :: t).drop k) = none) : gCls t = none := by
  have e := drop_at hk
  rw [hc] at e
  rw [e] at hm
  rw [h.2.2, e, gCls_no h93 hm]
  rfl
theorem ClI.done {t : List Nat} {k : Nat} {rs : List (Nat × Nat)} (h : ClI t k rs) (hk : k < (91 :: t).length) (hc : (91 :: t).getD k 0 = 93) : gCls t = some (rs, k - 1) := by
  rw [h.2.2, drop_at hk, hc, gCls_end]
  simp
theorem at_no {t : List Nat} (h : gCls t = none) : gPr false (91 :: t) = none := gPr_atomNo (by decide) (by decide) (by unfold gAt; simp [h])
theorem at_nil {t : List Nat} {n : Nat} (h : gCls t = some ([], n)) : gPr false (91 :: t) = none := gPr_atomNo (by decide) (by decide) (by unfold gAt; simp [h])
theorem at_cls {t : List Nat} {k : Nat} {rs : List (Nat × Nat)} (hk : 1 ≤ k) (h : gCls t = some (rs, k - 1)) (hr : rs ≠ []) : gPr false (91 :: t) = (gPr false ((91 :: t).drop (k + 1))).map fun x => ((Tr.atom (.cls ((91 :: t).take (k + 1)) rs) .nil).app x.1, x.2) := by
  have : gAt (91 :: t) = some (.cls ((91 :: t).take (k + 1)) rs, k + 1) := by
    unfold gAt
    simp only
    rw [if_pos trivial, h]
    show (if rs.isEmpty = true then none else some (GA.cls ((91 :: t).take (k - 1 + 2)) rs, k - 1 + 2)) = _
    rw [if_neg (by cases rs with | nil => exact absurd rfl hr | cons => exact fun h => by cases h), show k - 1 + 2 = k + 1 by omega]
  rw [gPr_atom (by decide) (by decide) this]
  rfl
set_option maxRecDepth 100000 in
set_option maxHeartbeats 4000000 in
theorem class_c (rb : Nat) (t : List Nat) (o d : Int) (hod : 0 ≤ o ∧ o ≤ d) (hs : t.length ≤ 900) (hb : ∀ c ∈ 91 :: t, c < 256) (w : World) (h : Rd w rb (91 :: t) o d) :
    Calls Tryz.prog 123 #[.pointer (some ⟨rb, 0, none⟩)] w fun e w' => ∃ pv ok, e = .returned (.tuple #[pv, .bool ok]) ∧ PcI w.heap.size w' rb (91 :: t) o d pv ok ∧ w.grownBy w' (some rb) := by
  have hlt := h.var.lt
  have HR := Lib.hid h
  obtain ⟨C, hC⟩ : ∃ C, str (91 :: t) = C := ⟨_, rfl⟩
  have hN : (91 :: t).length = C.size := by rw [← hC, str_size]
  have hN1 : C.size ≤ 901 := by rw [← hN]; simp only [List.length_cons]; omega
  have HBC := Lib.hid (show bs C = 91 :: t by rw [← hC, bs_str hb])
  have MC := Lib.hid (fun (k : Nat) (hk : k < C.size) (W : World) => member_c (C.extract k C.size) (by rw [← bs_length, bs_from, HBC.out, List.length_drop, hN]; omega) W)
  have TK := Lib.hid (fun (k : Nat) (hk : k + 1 ≤ C.size) (W : World) (hR : Rd W rb (91 :: t) o d) => take_c rb (91 :: t) o d (k + 1) (by rw [hN]; exact hk) (by rw [hN]; omega) hb W hR)
  have HDX := Lib.hid (show DVar (w.alloc (.cells #[.int .i64 0, .string ⟨#[]⟩, .slice none 0 0, .slice none 0 0] 129)) w.heap.size 4 from DVar.alloc _ _)
  have HBX := Lib.hid (show Below w.heap.size w (w.alloc (.cells #[.int .i64 0, .string ⟨#[]⟩, .slice none 0 0, .slice none 0 0] 129)) from alloc_below _ _)
  have HSX := Lib.hid (show w.heap.size + 1 ≤ (w.alloc (.cells #[.int .i64 0, .string ⟨#[]⟩, .slice none 0 0, .slice none 0 0] 129)).heap.size by simp)
  have c0 : w.cell? ⟨rb, 0, none⟩ = some (.string C) := by rw [← hC]; exact h.three.1
  obtain ⟨i0, hi0, hz0, hzz1, hzz2⟩ := info_parts rng_info
  have HN := Lib.hid hN
  have HB256 := Lib.hid hb
  have HOD := Lib.hid hod
  clear h hC hN hb hod
  go_enter Tryz.func123, Tryz.ntmps123
  go_wp2_with fail
  obtain ⟨wx, hwx⟩ : ∃ wx, (w.alloc (.cells #[.int .i64 0, .string ⟨#[]⟩, .slice none 0 0, .slice none 0 0] 129)) = wx := ⟨_, rfl⟩
  rw [hwx] at HDX HBX HSX
  go_loopw [4, 5, 6, 7, 8] (fun rv sz _ _ _ wr => ∃ (k : Nat) (rs : List (Nat × Nat)) (A : Option Addr) (c : Nat), rv = .slice A rs.length c ∧ sz = .int .i64 (k : Nat) ∧ k ≤ C.size ∧ wr.cell? ⟨rb, 0, none⟩ = some (.string C) ∧ Hid (RnNew (w.heap.size + 1) wr rv rs) ∧ Hid (ClI t k rs) ∧ Hid (DVar wr w.heap.size 4) ∧ Hid (Below w.heap.size w wr) ∧ Hid (w.heap.size + 1 ≤ wr.heap.size)) (fun _ sz _ _ _ _ => C.size - (intOf sz).toNat)
  case atStart => exact ⟨1, [], none, 0, rfl, rfl, by have := HN.out; simp only [List.length_cons] at this; omega, by rw [hwx]; exact cellb HBX.out c0, RnNew.nil _ _, ClI.start t, by rw [hwx]; exact HDX.out, by rw [hwx]; exact HBX.out, by rw [hwx]; exact HSX.out⟩
  case round =>
    obtain ⟨k, rs, A, c, rfl, rfl, hk, k0, HRN, HCL, HD, HB, HS⟩ := hrel
    by_cases hlt2 : k < C.size
    · have hkC : k < C.size := by omega
      obtain ⟨a, ha1, ha2, ha3⟩ := bs_get hkC
      rw [HBC.out] at ha1
      have hkI : (k : Int) < (C.size : Int) := by omega
      have hkL : (k : Int) ≤ (C.size : Int) := by omega
      have hkn : ¬ (k : Int) = (C.size : Int) := by omega
      by_cases h93 : a = 93
      · subst h93
        have hdn := HCL.out.done (by rw [HN.out]; exact hlt2) ha1
        cases rs with
        | nil =>
          have HNO := Lib.hid (at_nil hdn)
          clear hdn ha1
          go_wp2_with (refine wpList_put rfl 129 _ _ rfl w.heap.size [.int .i64 0, .string ⟨#[]⟩, .slice none 0 0, .slice none 0 0] rfl rfl HD.out (by kernel_rfl) (by simp [Value.oneCell']) ?_; intro y1 hp; obtain ⟨t0, t1, t2, t3⟩ := hp.at_.four)
          exact bodyPost_ret (v := .tuple #[.agg #[.int .i64 0, .string ⟨#[]⟩, .slice none 0 0, .slice none 0 0], .bool false]) (by simp [results, Tryz.results123, go_sem, t0, t1, t2, t3]) rfl ⟨_, _, rfl, ⟨HNO.out, ⟨_, _, _, (HR.out.below (hp.below (Nat.le_refl _) HB.out))⟩, rfl⟩, below_grown (hp.below (Nat.le_refl _) HB.out) (World.grownBy.refl _ _)⟩
        | cons r0 rs0 =>
          obtain ⟨rs, hrs⟩ : ∃ rs, r0 :: rs0 = rs := ⟨_, rfl⟩
          have HNE := Lib.hid (show rs ≠ [] by rw [← hrs]; simp)
          have hln : ¬ ((rs.length : Nat) : Int) = 0 := by rw [← hrs]; simp only [List.length_cons]; omega
          rw [hrs] at HRN HCL hdn ⊢
          obtain ⟨n, hn⟩ : ∃ n, rs.length = n := ⟨_, rfl⟩
          rw [hn] at hln HRN ⊢
          have hln2 : (((n : Nat) : Int) == 0) = false := beq_false_of_ne hln
          have hkn2 : ((k : Int) == (C.size : Int)) = false := beq_false_of_ne hkn
          have HCY := Lib.hid (at_cls HCL.out.1 hdn HNE.out)
          have TK1 := Lib.hid (TK.out k (by omega) wr (HR.out.below HB.out))
          rw [show ((k + 1 : Nat) : Int) = (k : Int) + 1 by omega] at TK1
          have i63 : IntKind.i64.wrap ((k : Int) + 1) = (k : Int) + 1 := by rw [IntKind.wrap_i64]; omega
          have HRD := Lib.hid ((HR.out.below HB.out).set0 (s' := (91 :: t).drop (k + 1)))
          have HU := Lib.hid (show k + 1 ≤ (91 :: t).length by rw [HN.out]; omega)
          have HH := Lib.hid hn
          obtain ⟨T1, hT1⟩ : ∃ T1, str ((91 :: t).take (k + 1)) = T1 := ⟨_, rfl⟩
          obtain ⟨T2, hT2⟩ : ∃ T2, str ((91 :: t).drop (k + 1)) = T2 := ⟨_, rfl⟩
          rw [hT1] at TK1
          rw [hT2] at TK1 HRD
          have HT1 := Lib.hid hT1
          clear hdn ha1 hrs hn hT1 hT2
          go_wp2_with fail
          refine TK1.out.mono ?_; rintro _ w2 ⟨rfl, rfl⟩
          have HG2 := Lib.hid (grown_set1 wr rb 0 (.string T2))
          have HD2 := Lib.hid (HD.out.set (b' := rb) (o := 0) (.string T2))
          generalize (wr.setCell ⟨rb, 0, none⟩ (.string T2)) = w2 at HRD HG2 HD2 ⊢
          go_wp2_with (refine wpList_put rfl 129 _ _ rfl w.heap.size [.int .i64 3, .string T1, .slice A n c, .slice none 0 0] rfl rfl HD2.out (by kernel_rfl) (by simp [Value.oneCell']) ?_; intro y1 hp; obtain ⟨t0, t1, t2, t3⟩ := hp.at_.four)
          refine bodyPost_ret (v := .tuple #[.agg #[.int .i64 3, .string T1, .slice A n c, .slice none 0 0], .bool true]) (by simp [results, Tryz.results123, go_sem, t0, t1, t2, t3]) rfl ⟨_, _, rfl, ⟨.atom (.cls ((91 :: t).take (k + 1)) rs) .nil, (91 :: t).drop (k + 1), ?_, ?_, HCY.out, ?_, mem_drop HB256.out _⟩, ?_⟩
          · have hr : RnNew w.heap.size y1 (.slice A n c) rs := own_mono (own_keep (own_keep HRN.out (keepG HG2.out (by omega))) (keepG hp.grown (Nat.lt_succ_self _))) (Nat.le_succ _)
            have := Un.atom (.cls ((91 :: t).take (k + 1)) rs) (.slice A n c) hr
            have e : str (GA.cls ((91 :: t).take (k + 1)) rs).txt = T1 := HT1.out
            rw [e] at this
            exact this
          · rw [deep0 HOD.out]
            exact HRD.out.put hp (by omega)
          · show ((91 :: t).drop (k + 1)).length < _ ∧ ((91 :: t).drop (k + 1)).length + 0 ≤ _
            rw [List.length_drop]
            have := HU.out
            omega
          · exact grown_then (below_grown HB.out HG2.out) hp.grown (Nat.le_refl _)
      · have h93i : ¬ (a : Int) = 93 := by omega
        have MC1 := Lib.hid (MC.out k hlt2 wr)
        rw [bs_from, HBC.out] at MC1
        go_wp2_with fail
        refine MC1.out.mono ?_; rintro _ w2 ⟨lo, hi, m, ok, rfl, hmb, hb2⟩
        have HD2 := Lib.hid (HD.out.below hb2); have HB2 := Lib.hid (bnext HB.out hb2); have HS2 := Lib.hid (Nat.le_trans HS.out hb2.size)
        have k2 := cellb hb2 k0
        have how : w2.ownsRow (w.heap.size + 1) 147 2 (.slice A rs.length c) rs.length (rnC rs) := own_keep HRN.out (keepB hb2)
        cases ok with
        | false =>
          have HNO := Lib.hid (at_no (HCL.out.bad (by rw [HN.out]; exact hlt2) ha1 h93 hmb))
          clear hmb hb2 how
          go_upto_region 6 with fail
          have HD3 := Lib.hid (HD2.out.below (alloc_below w2 (.cells #[.int .u8 (lo : Nat), .int .u8 (hi : Nat)] 147))); have HB3 := Lib.hid (bnext HB2.out (alloc_below w2 (.cells #[.int .u8 (lo : Nat), .int .u8 (hi : Nat)] 147)))
          go_wp2_with (refine wpList_put rfl 129 _ _ rfl w.heap.size [.int .i64 0, .string ⟨#[]⟩, .slice none 0 0, .slice none 0 0] rfl rfl HD3.out (by kernel_rfl) (by simp [Value.oneCell']) ?_; intro y1 hp; obtain ⟨t0, t1, t2, t3⟩ := hp.at_.four)
          exact bodyPost_ret (v := .tuple #[.agg #[.int .i64 0, .string ⟨#[]⟩, .slice none 0 0, .slice none 0 0], .bool false]) (by simp [results, Tryz.results123, go_sem, t0, t1, t2, t3]) rfl ⟨_, _, rfl, ⟨HNO.out, ⟨_, _, _, (HR.out.below (hp.below (Nat.le_refl _) HB3.out))⟩, rfl⟩, below_grown (hp.below (Nat.le_refl _) HB3.out) (World.grownBy.refl _ _)⟩
        | true =>
          have HCN := Lib.hid (HCL.out.next (by rw [HN.out]; exact hlt2) ha1 h93 hmb.1)
          have hsz := gMem_size hmb.1
          rw [List.length_drop, HN.out] at hsz
          have hrl := HCL.out.2.1
          obtain ⟨n, hn⟩ : ∃ n, rs.length = n := ⟨_, rfl⟩
          rw [hn] at how hrl ⊢
          have HNL := Lib.hid hn
          clear hmb
          go_upto_region 7 with fail
          have hb3 : Below w2.heap.size w2 (w2.alloc (.cells #[.int .u8 (lo : Nat), .int .u8 (hi : Nat)] 147)) := alloc_below _ _
          have HD3 := Lib.hid (HD2.out.below hb3); have HB3 := Lib.hid (bnext HB2.out hb3)
          have HOW := Lib.hid (own_keep how (keepB hb3)); have HS3 := Lib.hid (Nat.le_trans HS2.out hb3.size)
          have k3 := cellb hb3 k2
          have t0 : (w2.alloc (.cells #[.int .u8 (lo : Nat), .int .u8 (hi : Nat)] 147)).cell? ⟨w2.heap.size, 0, none⟩ = some (.int .u8 (lo : Nat)) := holds_alloc w2 [.int .u8 (lo : Nat), .int .u8 (hi : Nat)] _ 0 _ rfl
          have t1 : (w2.alloc (.cells #[.int .u8 (lo : Nat), .int .u8 (hi : Nat)] 147)).cell? ⟨w2.heap.size, 1, none⟩ = some (.int .u8 (hi : Nat)) := holds_alloc w2 [.int .u8 (lo : Nat), .int .u8 (hi : Nat)] _ 1 _ rfl
          generalize (w2.alloc (.cells #[.int .u8 (lo : Nat), .int .u8 (hi : Nat)] 147)) = y1 at hb3 HD3 HB3 HOW HS3 k3 t0 t1 ⊢
          have i63 : IntKind.i64.wrap ((k : Int) + (m : Nat)) = ((k + m : Nat) : Int) := by rw [IntKind.wrap_i64]; omega
          clear hb3 how hb2 k2 HD2 HB2 HS2
          go_wp2_with (at_builtin; refine wpList_append_any _ rfl (.tmp 39) (.tmp 41) _ rfl (w.heap.size + 1) 147 i0 (.agg #[.int .u8 0, .int .u8 0]) 2 2 Tryz.underlying126 hi0 hz0 hzz1 hzz2 rfl (by decide) (.slice A n c) n (rnC rs) rfl (World.ownsRow.alloc HOW.out _) _ (some ⟨y1.heap.size, 0, none⟩) 1 1 [.int .u8 (lo : Nat), .int .u8 (hi : Nat)] rfl (Reads.of_own (World.ownsRow_lit (base := 0) (e := 147) (size := 2) y1 #[.int .u8 (lo : Nat), .int .u8 (hi : Nat)] 1 (Nat.zero_le _) (by decide) rfl)) (by simp [Value.oneCell']) (by simp only [maxLen]; omega) (by omega) (by have := HS3.out; simp; omega) ?_; intro v3 w3 hown3 hg3 hat3)
          have hlow : Below (w.heap.size + 1) y1 w3 := Below.grown ((Below.refl _ y1).alloc HS3.out _) hg3 (by have := HS3.out; simp; omega) (fun k e => (World.ownsRow.lt HOW.out k e).1)
          have HB4 := Lib.hid (HB3.out.trans (hlow.mono (Nat.le_succ _))); have HD4 := Lib.hid (dvar_low hlow (Nat.lt_succ_self _) HD3.out)
          have k4 : w3.cell? ⟨rb, 0, none⟩ = some (.string C) := (hlow.cell (p := ⟨rb, 0, none⟩) (show rb < w.heap.size + 1 by omega)).trans k3
          obtain ⟨A4, c4, rfl, -⟩ := own_form hown3
          have HI4 := Lib.hid (RnNew.push (rs := rs) (r := (lo, hi)) (by rw [HNL.out]; exact hown3)); have HS4 := Lib.hid (Nat.le_trans HS3.out hlow.size)
          have HNL2 := Lib.hid (show (rs ++ [(lo, hi)]).length = n + 1 by rw [List.length_append, HNL.out]; rfl)
          clear hown3 hg3 hat3 hlow
          go_wp2
          go_roundw
          case rel => exact ⟨k + m, _, A4, c4, by rw [HNL2.out], rfl, by omega, k4, HI4.out, HCN.out, HD4.out, HB4.out, HS4.out⟩
          case measure => simp [intOf]; omega
    · obtain rfl : k = C.size := by omega
      have HNO := Lib.hid (at_no (HCL.out.over (by rw [HN.out]; exact Nat.le_refl _)))
      go_wp2_with (refine wpList_put rfl 129 _ _ rfl w.heap.size [.int .i64 0, .string ⟨#[]⟩, .slice none 0 0, .slice none 0 0] rfl rfl HD.out (by kernel_rfl) (by simp [Value.oneCell']) ?_; intro y1 hp; obtain ⟨t0, t1, t2, t3⟩ := hp.at_.four)
      exact bodyPost_ret (v := .tuple #[.agg #[.int .i64 0, .string ⟨#[]⟩, .slice none 0 0, .slice none 0 0], .bool false]) (by simp [results, Tryz.results123, go_sem, t0, t1, t2, t3]) rfl ⟨_, _, rfl, ⟨HNO.out, ⟨_, _, _, (HR.out.below (hp.below (Nat.le_refl _) HB.out))⟩, rfl⟩, below_grown (hp.below (Nat.le_refl _) HB.out) (World.grownBy.refl _ _)⟩
end GP
end Go.Proofs.YtbfbjalnahngjaaGreatDoor
namespace Go.Proofs.YtbfbjalnahngjaaGreatDoor.GP
open Go.RowKit
/-- What a reading of pieces answers. -/
def PsI (B : Nat) (w' : World) (rb : Nat) (s : List Nat) (o d : Int) (v : Value) : Bool → Prop
  | true => ∃ l r, gPr false s = some (l, r) ∧ TrNew B w' v l ∧ Rd w' rb r o (max d (o + gDp l))
  | false => gPr false s = none ∧ ∃ r o' d', Rd w' rb r o' d'
/-- pieces keeps its word for texts of up to so many bytes. -/
def PsC (n : Nat) : Prop := ∀ (rb : Nat) (s : List Nat) (o d : Int), 0 ≤ o ∧ o ≤ d → s.length ≤ n → (∀ c ∈ s, c < 256) → o + s.length ≤ 900 → d ≤ 900 → ∀ (w : World), Rd w rb s o d →
    Calls Tryz.prog 103 #[.pointer (some ⟨rb, 0, none⟩)] w fun e w' => ∃ v ok, e = .returned (.tuple #[v, .bool ok]) ∧ PsI w.heap.size w' rb s o d v ok ∧ w.grownBy w' (some rb)
set_option maxRecDepth 100000 in
set_option maxHeartbeats 1000000 in
theorem close_c (pb rb : Nat) (s : List Nat) (o d : Int) (u : FrameMode) (w : World) (hp : w.cell? ⟨pb, 0, none⟩ = some (.pointer (some ⟨rb, 0, none⟩))) (h : Rd w rb s o d) :
    CallsD Tryz.prog 132 #[.pointer (some ⟨pb, 0, none⟩)] u w fun e u' w' => u' = u ∧ (e = .returned (.tuple #[]) ∧ w' = w.setCell ⟨rb, 1, none⟩ (.int .i64 (wrap64 (o - 1)))) := by
  obtain ⟨-, c1, -, -, f1, -⟩ := h.three
  clear h
  go_enter_d Tryz.func132, Tryz.ntmps132
  go_wp2
  go_end0
  exact ⟨rfl, rfl⟩
theorem gDp_app : ∀ (a b : Tr), gDp (a.app b) = max (gDp a) (gDp b)
  | .nil, b => by show gDp b = max 0 (gDp b); omega
  | .none, b => by show gDp b = max 0 (gDp b); omega
  | .atom x r, b => gDp_app r b
  | .br ws r, b => by show max (gDp ws + 1) (gDp (r.app b)) = max (max (gDp ws + 1) (gDp r)) (gDp b); rw [gDp_app r b]; omega
  | .way p ws, b => by show max (gDp p) (gDp (ws.app b)) = max (max (gDp p) (gDp ws)) (gDp b); rw [gDp_app ws b]; omega
/-- The alternatives that were read. -/
structure BrI (B : Nat) (wr : World) (rb : Nat) (t tk : List Nat) (o d : Int) (dw : Tr) (vw : Value) : Prop where
  rest : gPr true t = (gPr true tk).map fun x => (dw.app x.1, x.2)
  ws : WsNew B wr vw dw
  len : tk.length ≤ t.length
  mem : ∀ c ∈ tk, c < 256
  dep : gDp dw + tk.length ≤ t.length
  num : dw.len + tk.length ≤ t.length
def restLen (b : Nat) (w : World) : Nat := match w.cell? ⟨b, 0, none⟩ with
  | some (.string s) => s.size
  | _ => 0
theorem restLen_is {w : World} {b : Nat} {s : List Nat} {o d : Int} (h : Rd w b s o d) : restLen b w = s.length := by
  unfold restLen
  rw [h.three.1]
  exact str_size s
theorem dvar_grown {w w' : World} {b b' n : Nat} (hg : w.grownBy w' (some b)) (hn : b' ≠ b) (h : DVar w b' n) : DVar w' b' n := by
  have hk : w'.heap[b']? = w.heap[b']? := hg.block b' h.lt (by intro e; injection e with e; exact hn e)
  exact ⟨Nat.lt_of_lt_of_le h.lt hg.size, fun i hi => by obtain ⟨u, hu⟩ := h.c i hi; exact ⟨u, (World.cell?_of_block (a := ⟨b', i, none⟩) hk).trans hu⟩, fun i hi => (World.frozen?_of_block (a := ⟨b', i, none⟩) hk).trans (h.f i hi)⟩
theorem holds_grown {w w' : World} {b b' n : Nat} {cs : List Value} (hg : w.grownBy w' (some b)) (hn : b' ≠ b) (h : DVar w b' n) (hh : Holds w b' cs) : Holds w' b' cs := by
  have hk : w'.heap[b']? = w.heap[b']? := hg.block b' h.lt (by intro e; injection e with e; exact hn e)
  exact fun j v hj => (World.cell?_of_block (a := ⟨b', j, none⟩) hk).trans (hh j v hj)
theorem Rd.low {B : Nat} {w w' : World} {b : Nat} {s : List Nat} {o d : Int} (h : Rd w b s o d) (hb : Below B w w') (hl : b < B) : Rd w' b s o d := ⟨dvar_low hb hl h.var, fun j v hj => (hb.cell (p := ⟨b, j, none⟩) hl).trans (h.at_ j v hj)⟩
theorem holds_low {B : Nat} {w w' : World} {b : Nat} {cs : List Value} (hb : Below B w w') (hl : b < B) (h : Holds w b cs) : Holds w' b cs := fun j v hj => (hb.cell (p := ⟨b, j, none⟩) hl).trans (h j v hj)
theorem grown_low {B : Nat} {w w' w'' : World} {r : Option Nat} (h : w.grownBy w' r) (hb : Below B w' w'') (hB : w.heap.size ≤ B) : w.grownBy w'' r :=
  ⟨hb.os.trans h.os, hb.tape.trans h.tape, hb.output.trans h.output, Nat.le_trans h.size hb.size, fun i hi hn => (hb.block i (by omega)).trans (h.block i hi hn)⟩
theorem ne_empty2 {R : ByteArray} (h : 0 < R.size) : R.toList.isEmpty = false := by
  rw [ByteArray.toList_eq]
  obtain ⟨⟨l⟩⟩ := R
  have h2 : 0 < l.length := h
  cases l with
  | nil => simp at h2
  | cons x l => rfl
theorem way_one {M : Nat} {w : World} {v : Value} {l : Tr} (h : TrNew M w v l) : TrAt (fun x => M ≤ x) w (.way l .none) [v] := by
  obtain ⟨cs, h1, h2⟩ := h
  exact ⟨v, cs, [], OwnP.of h1, TrAt.move (fun g h _ => ⟨rfl, h.1⟩) l cs h2, rfl, rfl⟩
theorem str_first {c : Nat} {t : List Nat} (hc : c < 256) : ∃ h : 0 < (str (c :: t)).size, ((str (c :: t))[0]'h).toNat = c := by
  have h : 0 < (str (c :: t)).size := by rw [str_size]; simp
  refine ⟨h, ?_⟩
  show (UInt8.ofNat c).toNat = c
  simp [Nat.mod_eq_of_lt hc]
/-- braces keeps its word for texts of up to so many bytes behind the first one. -/
def BrC (n : Nat) : Prop := ∀ (rb : Nat) (t : List Nat) (o d : Int), 0 ≤ o ∧ o ≤ d → t.length ≤ n → (∀ c ∈ 123 :: t, c < 256) → o + t.length + 1 ≤ 900 → d ≤ 900 → ∀ (w : World), Rd w rb (123 :: t) o d →
    Calls Tryz.prog 122 #[.pointer (some ⟨rb, 0, none⟩)] w fun e w' => ∃ pv ok, e = .returned (.tuple #[pv, .bool ok]) ∧ PcI w.heap.size w' rb (123 :: t) o d pv ok ∧ w.grownBy w' (some rb)
end Go.Proofs.YtbfbjalnahngjaaGreatDoor.GP
namespace Go.Proofs.YtbfbjalnahngjaaGreatDoor.GP
open Go.RowKit
/-- piece keeps its word for texts of up to so many bytes. -/
def PcC (n : Nat) : Prop := ∀ (rb : Nat) (c : Nat) (t : List Nat) (o d : Int), 0 ≤ o ∧ o ≤ d → t.length + 1 ≤ n → (∀ x ∈ c :: t, x < 256) → ¬ (c = 44 ∨ c = 125) → o + t.length + 1 ≤ 900 → d ≤ 900 → ∀ (w : World), Rd w rb (c :: t) o d →
    Calls Tryz.prog 114 #[.pointer (some ⟨rb, 0, none⟩)] w fun e w' => ∃ pv ok, e = .returned (.tuple #[pv, .bool ok]) ∧ PcI w.heap.size w' rb (c :: t) o d pv ok ∧ w.grownBy w' (some rb)
theorem PcI.form {B : Nat} {w' : World} {rb : Nat} {s : List Nat} {o d : Int} {pv : Value} {ok : Bool} (h : PcI B w' rb s o d pv ok) : ∃ (k : Int) (S : ByteArray) (A1 A2 : Option Addr) (n1 c1 n2 c2 : Nat), pv = .agg #[.int .i64 k, .string S, .slice A1 n1 c1, .slice A2 n2 c2] := by
  cases ok with
  | true =>
    obtain ⟨u, r, hu, _⟩ := h
    obtain ⟨k, S, A1, A2, n1, c1, n2, c2, rfl, _⟩ := hu.cells
    exact ⟨_, _, _, _, _, _, _, _, rfl⟩
  | false =>
    obtain ⟨_, _, rfl⟩ := h
    exact ⟨_, _, _, _, _, _, _, _, rfl⟩
/-- Behind a store into a block of the call's own. -/
theorem PcI.put {B M b : Nat} {w' w'' : World} {rb : Nat} {s : List Nat} {o d : Int} {pv : Value} {ok : Bool} {cs : List Value} (h : PcI M w' rb s o d pv ok) (hp : Put w' w'' b cs) (hb : b < M) (hn : rb ≠ b) (hB : B ≤ M) : PcI B w'' rb s o d pv ok := by
  cases ok with
  | true =>
    obtain ⟨u, r, hu, hr, h1, h2, h3⟩ := h
    refine ⟨u, r, ?_, hr.put hp hn, h1, h2, h3⟩
    have hk := hu.keep (keepG hp.grown hb)
    cases hk with
    | atom a rv h => exact .atom a rv (own_mono h hB)
    | br ws wv h => exact .br ws wv (h.mono hB)
  | false =>
    obtain ⟨h1, ⟨r, o', d', hr⟩, h3⟩ := h
    exact ⟨h1, ⟨r, o', d', hr.put hp hn⟩, h3⟩
theorem one_at {B : Nat} {w' : World} {rb : Nat} {c : Nat} {t : List Nat} {o d : Int} {k : Nat} {a : GA} (hod : 0 ≤ o ∧ o ≤ d) (ha : gAt (c :: t) = some (a, 1)) (hc : ¬ (c = 44 ∨ c = 125)) (h2 : c ≠ 123) (hk : a.kind = k) (htx : a.txt = [c]) (hrw : a.rows = []) (hb : ∀ x ∈ t, x < 256) (hr : Rd w' rb t o d) :
    PcI B w' rb (c :: t) o d (.agg #[.int .i64 (k : Nat), .string (str [c]), .slice none 0 0, .slice none 0 0]) true := by
  refine ⟨.atom a .nil, t, ?_, ?_, ?_, ?_, hb⟩
  · have := Un.atom (B := B) (w := w') a (.slice none 0 0) (by rw [hrw]; exact RnNew.nil _ _)
    rw [hk, htx] at this
    exact this
  · rw [deep0 hod]
    exact hr
  · rw [gPr_atom hc h2 ha]
    rfl
  · show t.length < (c :: t).length ∧ t.length + 0 ≤ (c :: t).length
    simp
theorem gAt_each (t : List Nat) : gAt (63 :: t) = some (.each, 1) := rfl
theorem gAt_star (t : List Nat) : gAt (42 :: t) = some (.star, 1) := rfl
theorem gAt_one {c : Nat} {t : List Nat} (h : isB c = true) : gAt (c :: t) = some (.one c, 1) := by
  unfold gAt
  simp only
  rw [if_neg (isB_ne h (by decide)), if_neg (isB_ne h (by decide)), if_neg (isB_ne h (by decide)), if_pos h]
theorem gAt_none {c : Nat} {t : List Nat} (h1 : c ≠ 91) (h2 : c ≠ 63) (h3 : c ≠ 42) (h : isB c = false) : gAt (c :: t) = none := by
  unfold gAt
  simp only
  rw [if_neg h1, if_neg h2, if_neg h3, if_neg (by rw [h]; decide)]
set_option maxRecDepth 100000 in
set_option maxHeartbeats 4000000 in
theorem piece_c (n : Nat) (H : BrC n) : PcC (n + 1) := by
  intro rb c t o d hod hs hb hc hol hd w h
  have hlt := h.var.lt
  have HR := Lib.hid h
  have hc256 := hb c (by simp)
  have HMT := Lib.hid (fun x hx => hb x (List.mem_cons_of_mem _ hx))
  obtain ⟨c0, -, -, -, -, -⟩ := h.three
  obtain ⟨hz, hr0⟩ := str_first (t := t) hc256
  have TK := fun (W : World) (hW : Rd W rb (c :: t) o d) => take_c rb (c :: t) o d 1 (by simp) (by simp only [List.length_cons]; omega) hb W hW
  rw [show (c :: t).drop 1 = t from rfl, show (c :: t).take 1 = [c] from rfl] at TK
  have BC := fun (ht : c = 123) (W : World) (hW : Rd W rb (c :: t) o d) => H rb t o d hod (by omega) (by rw [← ht]; exact hb) (by omega) hd W (by rw [← ht]; exact hW)
  have CC := fun (ht : c = 91) (W : World) (hW : Rd W rb (c :: t) o d) => class_c rb t o d hod (by omega) (by rw [← ht]; exact hb) W (by rw [← ht]; exact hW)
  have BY := fun (W : World) => byte_c c hc256 W
  obtain ⟨S, hS⟩ : ∃ S, str (c :: t) = S := ⟨_, rfl⟩
  have hz1 : (0 : Int) < (S.size : Int) := by rw [← hS, str_size]; simp only [List.length_cons]; omega
  obtain ⟨hzS, hS0⟩ : ∃ h : 0 < S.size, (S[0]'h).toNat = c := by subst hS; exact ⟨hz, hr0⟩
  rw [hS] at c0
  have HDX := Lib.hid (show DVar (w.alloc (.cells #[.int .i64 0, .string ⟨#[]⟩, .slice none 0 0, .slice none 0 0] 129)) w.heap.size 4 from DVar.alloc _ _)
  have HBX := Lib.hid (show Below w.heap.size w (w.alloc (.cells #[.int .i64 0, .string ⟨#[]⟩, .slice none 0 0, .slice none 0 0] 129)) from alloc_below _ _)
  have HSX := Lib.hid (show w.heap.size + 1 ≤ (w.alloc (.cells #[.int .i64 0, .string ⟨#[]⟩, .slice none 0 0, .slice none 0 0] 129)).heap.size by simp)
  have HOD := Lib.hid hod; have HC := Lib.hid hc; have HTK := Lib.hid TK; have HBC := Lib.hid BC; have HCC := Lib.hid CC; have HBY := Lib.hid BY
  clear h hr0 hz hS TK BC CC BY H hod hc
  go_enter Tryz.func114, Tryz.ntmps114
  go_upto_region 2 with fail
  obtain ⟨w1, hw1⟩ : ∃ w1, (w.alloc (.cells #[.int .i64 0, .string ⟨#[]⟩, .slice none 0 0, .slice none 0 0] 129)) = w1 := ⟨_, rfl⟩
  rw [hw1] at HDX HBX HSX
  rw [hw1]
  have HR1 := Lib.hid (HR.out.below HBX.out)
  have k0 := cellb HBX.out c0
  have HW1 := Lib.hid hw1
  clear c0 hw1
  by_cases h123 : c = 123
  · subst h123
    go_wp2_with fail
    refine (HBC.out (by trivial) w1 HR1.out).mono ?_; rintro _ w2 ⟨pv, ok, rfl, hpi, hg2⟩
    obtain ⟨kk, SS, A1, A2, n1, c1, n2, c2, rfl⟩ := hpi.form
    have HPI := Lib.hid hpi; have HG2 := Lib.hid (below_grown HBX.out hg2); have HD2 := Lib.hid (dvar_grown hg2 (show w.heap.size ≠ rb by omega) HDX.out)
    clear hpi hg2
    go_wp2_with (refine wpList_put rfl 129 _ _ rfl w.heap.size [.int .i64 kk, .string SS, .slice A1 n1 c1, .slice A2 n2 c2] rfl rfl HD2.out (by kernel_rfl) (by simp [Value.oneCell']) ?_; intro y1 hp; obtain ⟨t0, t1, t2, t3⟩ := hp.at_.four)
    exact bodyPost_ret (v := .tuple #[.agg #[.int .i64 kk, .string SS, .slice A1 n1 c1, .slice A2 n2 c2], .bool ok]) (by simp [results, Tryz.results114, go_sem, t0, t1, t2, t3]) rfl ⟨_, _, rfl, HPI.out.put hp (by have := HSX.out; omega) (by omega) (by have := HSX.out; omega), grown_then HG2.out hp.grown (Nat.le_refl _)⟩
  · have i123 : ¬ (c : Int) = 123 := by omega
    by_cases h91 : c = 91
    · subst h91
      go_wp2_with fail
      refine (HCC.out (by trivial) w1 HR1.out).mono ?_; rintro _ w2 ⟨pv, ok, rfl, hpi, hg2⟩
      obtain ⟨kk, SS, A1, A2, n1, c1, n2, c2, rfl⟩ := hpi.form
      have HPI := Lib.hid hpi; have HG2 := Lib.hid (below_grown HBX.out hg2); have HD2 := Lib.hid (dvar_grown hg2 (show w.heap.size ≠ rb by omega) HDX.out)
      clear hpi hg2
      go_wp2_with (refine wpList_put rfl 129 _ _ rfl w.heap.size [.int .i64 kk, .string SS, .slice A1 n1 c1, .slice A2 n2 c2] rfl rfl HD2.out (by kernel_rfl) (by simp [Value.oneCell']) ?_; intro y1 hp; obtain ⟨t0, t1, t2, t3⟩ := hp.at_.four)
      exact bodyPost_ret (v := .tuple #[.agg #[.int .i64 kk, .string SS, .slice A1 n1 c1, .slice A2 n2 c2], .bool ok]) (by simp [results, Tryz.results114, go_sem, t0, t1, t2, t3]) rfl ⟨_, _, rfl, HPI.out.put hp (by have := HSX.out; omega) (by omega) (by have := HSX.out; omega), grown_then HG2.out hp.grown (Nat.le_refl _)⟩
    · have i91 : ¬ (c : Int) = 91 := by omega
      by_cases h63 : c = 63
      · subst h63
        have TK1 := Lib.hid (HTK.out w1 HR1.out)
        have HR2 := Lib.hid (HR1.out.set0 (s' := t))
        have HD2 := Lib.hid (HDX.out.set (b' := rb) (o := 0) (.string (str t)))
        have HG2 := Lib.hid (below_grown HBX.out (grown_set1 w1 rb 0 (.string (str t))))
        obtain ⟨T1, hT1⟩ : ∃ T1, str [63] = T1 := ⟨_, rfl⟩
        rw [hT1] at TK1
        have HT1 := Lib.hid hT1
        clear hT1
        go_wp2_with fail
        refine TK1.out.mono ?_; rintro _ w2 ⟨rfl, rfl⟩
        generalize (w1.setCell ⟨rb, 0, none⟩ (.string (str t))) = w2 at HR2 HD2 HG2 ⊢
        go_wp2_with (refine wpList_put rfl 129 _ _ rfl w.heap.size [.int .i64 1, .string T1, .slice none 0 0, .slice none 0 0] rfl rfl HD2.out (by kernel_rfl) (by simp [Value.oneCell']) ?_; intro y1 hp; obtain ⟨t0, t1, t2, t3⟩ := hp.at_.four)
        exact bodyPost_ret (v := .tuple #[.agg #[.int .i64 1, .string T1, .slice none 0 0, .slice none 0 0], .bool true]) (by simp [results, Tryz.results114, go_sem, t0, t1, t2, t3]) rfl ⟨_, _, rfl, by rw [← HT1.out]; exact one_at (k := 1) HOD.out (gAt_each t) HC.out (by decide) rfl rfl rfl HMT.out (HR2.out.put hp (by omega)), grown_then HG2.out hp.grown (Nat.le_refl _)⟩
      · have i63 : ¬ (c : Int) = 63 := by omega
        by_cases h42 : c = 42
        · subst h42
          have TK1 := Lib.hid (HTK.out w1 HR1.out)
          have HR2 := Lib.hid (HR1.out.set0 (s' := t))
          have HD2 := Lib.hid (HDX.out.set (b' := rb) (o := 0) (.string (str t)))
          have HG2 := Lib.hid (below_grown HBX.out (grown_set1 w1 rb 0 (.string (str t))))
          obtain ⟨T1, hT1⟩ : ∃ T1, str [42] = T1 := ⟨_, rfl⟩
          rw [hT1] at TK1
          have HT1 := Lib.hid hT1
          clear hT1
          go_wp2_with fail
          refine TK1.out.mono ?_; rintro _ w2 ⟨rfl, rfl⟩
          generalize (w1.setCell ⟨rb, 0, none⟩ (.string (str t))) = w2 at HR2 HD2 HG2 ⊢
          go_wp2_with (refine wpList_put rfl 129 _ _ rfl w.heap.size [.int .i64 2, .string T1, .slice none 0 0, .slice none 0 0] rfl rfl HD2.out (by kernel_rfl) (by simp [Value.oneCell']) ?_; intro y1 hp; obtain ⟨t0, t1, t2, t3⟩ := hp.at_.four)
          exact bodyPost_ret (v := .tuple #[.agg #[.int .i64 2, .string T1, .slice none 0 0, .slice none 0 0], .bool true]) (by simp [results, Tryz.results114, go_sem, t0, t1, t2, t3]) rfl ⟨_, _, rfl, by rw [← HT1.out]; exact one_at (k := 2) HOD.out (gAt_star t) HC.out (by decide) rfl rfl rfl HMT.out (HR2.out.put hp (by omega)), grown_then HG2.out hp.grown (Nat.le_refl _)⟩
        · have i42 : ¬ (c : Int) = 42 := by omega
          have BY1 := Lib.hid (HBY.out w1)
          cases hB : isB c with
          | true =>
            rw [hB] at BY1
            have HB := Lib.hid hB
            clear hB
            go_wp2_with fail
            refine BY1.out.mono ?_; rintro _ w2 ⟨rfl, hw2⟩; obtain rfl := hw2.symm
            have TK1 := Lib.hid (HTK.out w1 HR1.out)
            have HR2 := Lib.hid (HR1.out.set0 (s' := t))
            have HD2 := Lib.hid (HDX.out.set (b' := rb) (o := 0) (.string (str t)))
            have HG2 := Lib.hid (below_grown HBX.out (grown_set1 w1 rb 0 (.string (str t))))
            obtain ⟨T1, hT1⟩ : ∃ T1, str [c] = T1 := ⟨_, rfl⟩
            rw [hT1] at TK1
            have HT1 := Lib.hid hT1
            clear hT1
            go_wp2_with fail
            refine TK1.out.mono ?_; rintro _ w2 ⟨rfl, rfl⟩
            generalize (w1.setCell ⟨rb, 0, none⟩ (.string (str t))) = w2 at HR2 HD2 HG2 ⊢
            go_wp2_with (refine wpList_put rfl 129 _ _ rfl w.heap.size [.int .i64 0, .string T1, .slice none 0 0, .slice none 0 0] rfl rfl HD2.out (by kernel_rfl) (by simp [Value.oneCell']) ?_; intro y1 hp; obtain ⟨t0, t1, t2, t3⟩ := hp.at_.four)
            exact bodyPost_ret (v := .tuple #[.agg #[.int .i64 0, .string T1, .slice none 0 0, .slice none 0 0], .bool true]) (by simp [results, Tryz.results114, go_sem, t0, t1, t2, t3]) rfl ⟨_, _, rfl, by rw [← HT1.out]; exact one_at (k := 0) HOD.out (gAt_one HB.out) HC.out h123 rfl rfl rfl HMT.out (HR2.out.put hp (by omega)), grown_then HG2.out hp.grown (Nat.le_refl _)⟩
          | false =>
            rw [hB] at BY1
            have HNO := Lib.hid (gPr_atomNo HC.out h123 (gAt_none (t := t) h91 h63 h42 hB))
            clear hB
            go_wp2_with fail
            refine BY1.out.mono ?_; rintro _ w2 ⟨rfl, hw2⟩; obtain rfl := hw2.symm
            go_wp2_with (refine wpList_put rfl 129 _ _ rfl w.heap.size [.int .i64 0, .string ⟨#[]⟩, .slice none 0 0, .slice none 0 0] rfl rfl HDX.out (by kernel_rfl) (by simp [Value.oneCell']) ?_; intro y1 hp; obtain ⟨t0, t1, t2, t3⟩ := hp.at_.four)
            exact bodyPost_ret (v := .tuple #[.agg #[.int .i64 0, .string ⟨#[]⟩, .slice none 0 0, .slice none 0 0], .bool false]) (by simp [results, Tryz.results114, go_sem, t0, t1, t2, t3]) rfl ⟨_, _, rfl, ⟨HNO.out, ⟨_, _, _, HR1.out.put hp (by omega)⟩, rfl⟩, grown_then (below_grown HBX.out (World.grownBy.refl _ _)) hp.grown (Nat.le_refl _)⟩
end Go.Proofs.YtbfbjalnahngjaaGreatDoor.GP
