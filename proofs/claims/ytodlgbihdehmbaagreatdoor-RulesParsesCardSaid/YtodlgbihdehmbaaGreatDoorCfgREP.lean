/-
  Contracts of the document's own functions of layer 11 (isobarref11): a line's key and value.
-/
import Derived.Test.YtodlgbihdehmbaaGreatDoorCfgRBP
import Derived.Test.YtodlgbihdehmbaaGreatDoorCfgRCP
import Derived.Deep.RegionWith
import Derived.Test.YtodlgbihdehmbaaGreatDoorCfgStepP
import Derived.Deep.RegionLaw
set_option linter.unusedSimpArgs false
set_option linter.unusedVariables false
namespace Go.Proofs.YtodlgbihdehmbaaGreatDoor.Cf.KR
open Go.RowKit
theorem cutC_no {l : List Nat} (h : ∀ j, j < l.length → byteAt l j ≠ 61) : cutC l = (([], []), false) := by
  have e := spl_last (c := 61) (l := l) (f := 0) (fun j _ hj => h j hj)
  rw [List.drop_zero] at e
  unfold cutC
  rw [e]
theorem cutC_at {l : List Nat} {k : Nat} (hk : k < l.length) (hc : byteAt l k = 61) (h : ∀ j, j < k → byteAt l j ≠ 61) :
    cutC l = ((blB (l.take k), blB (l.drop (k + 1))), keyedV (blB (l.take k))) := by
  have e := spl_seg (c := 61) (l := l) (f := 0) (k := k) (Nat.zero_le _) hk hc (fun j _ hj => h j hj)
  rw [List.drop_zero, Nat.sub_zero] at e
  obtain ⟨a, t, ht⟩ := List.exists_cons_of_ne_nil (spl_ne 61 (l.drop (k + 1)))
  have hl : (l.take k).length = k := by rw [List.length_take]; omega
  unfold cutC
  rw [e, ht]
  simp only
  rw [hl]
theorem two_new (w : World) (x y : Value) (t : TypeId) : (w.alloc (.cells #[x, y] t)).cell? ⟨w.heap.size, 0, none⟩ = some x ∧ (w.alloc (.cells #[x, y] t)).cell? ⟨w.heap.size, 1, none⟩ = some y ∧
    (w.alloc (.cells #[x, y] t)).frozen? ⟨w.heap.size, 0, none⟩ = false ∧ (w.alloc (.cells #[x, y] t)).frozen? ⟨w.heap.size, 1, none⟩ = false := by
  have h := heap_alloc_new w (.cells #[x, y] t)
  exact ⟨cell_of_row _ _ 0 _ _ (0, 0) h, cell_of_row _ _ 1 _ _ (0, 0) h, frozen_of_row _ _ 0 _ _ h, frozen_of_row _ _ 1 _ _ h⟩
theorem str_take (s : ByteArray) (k : Nat) : s.extract 0 k = str ((bs s).take k) := by
  have e : s = str (bs s) := (str_bs s).symm
  have h2 : (str (bs s)).extract 0 k = str (((bs s).drop 0).take (k - 0)) := str_extract 0 k
  rw [← e, List.drop_zero, Nat.sub_zero] at h2
  exact h2
theorem str_drop (s : ByteArray) (k : Nat) : s.extract k s.size = str ((bs s).drop k) := by
  have e : s = str (bs s) := (str_bs s).symm
  have h1 : (str (bs s)).extract k s.size = str ((bs s).drop k) := by
    rw [str_extract, List.take_of_length_le (by rw [List.length_drop, bs_length]; exact Nat.le_refl _)]
  rwa [← e] at h1
set_option maxRecDepth 100000 in
set_option maxHeartbeats 1000000 in
theorem cut_c (s : ByteArray) (hs : s.size ≤ 100000) (w : World) :
    Calls Tryz.prog 57 #[.string s] w fun e w' => e = .returned (.tuple #[.agg #[.string (str (cutC (bs s)).1.1), .string (str (cutC (bs s)).1.2)], .bool (cutC (bs s)).2]) ∧ Below w.heap.size w w' := by
  obtain ⟨d, hd⟩ : ∃ d, cutC (bs s) = d := ⟨_, rfl⟩
  rw [hd]
  have HD := Lib.hid hd
  clear hd
  go_enter Tryz.func57, Tryz.ntmps57
  go_wp2
  obtain ⟨wb, hwb⟩ : ∃ wb, w.alloc (.cells #[.string ⟨#[]⟩, .string ⟨#[]⟩] 97) = wb := ⟨_, rfl⟩
  obtain ⟨r0, r1, rf0, rf1⟩ := two_new w (.string ⟨#[]⟩) (.string ⟨#[]⟩) 97
  have hbw := alloc_below w (.cells #[.string ⟨#[]⟩, .string ⟨#[]⟩] 97)
  have hsz : wb.heap.size = w.heap.size + 1 := by rw [← hwb]; simp
  rw [hwb] at hbw r0 r1 rf0 rf1 ⊢
  have HBW := Lib.hid hbw; have HWB := Lib.hid hwb; have HSZ := Lib.hid hsz
  clear hbw hwb hsz
  go_loopw [4] (fun i wr => ∃ k : Nat, i = .int .i64 (k : Nat) ∧ k ≤ s.size ∧ wr = wb ∧ Hid (∀ (j : Nat), j < k → byteAt (bs s) j ≠ 61)) (fun i _ => s.size - (intOf i).toNat)
  case atStart => exact ⟨0, rfl, Nat.zero_le _, rfl, fun j hj => absurd hj (Nat.not_lt_zero j)⟩
  case round =>
    obtain ⟨k, rfl, hk, rfl, HI⟩ := hrel
    by_cases hlt : k < s.size
    · obtain ⟨x, hx⟩ : ∃ x, byteAt (bs s) k = x := ⟨_, rfl⟩
      have hb : (s[k]'hlt).toNat = x := (at_byte hlt).trans hx
      by_cases h61 : x = 61
      · have HE := Lib.hid (show ((blB ((bs s).take k), blB ((bs s).drop (k + 1))), keyedV (blB ((bs s).take k))) = d by
          rw [← HD.out]
          exact (cutC_at (by rw [bs_length]; exact hlt) (hx.trans h61) HI.out).symm)
        have e1 := str_take s k
        have e2 := str_drop s (k + 1)
        have m1 : Byt ((bs s).take k) := fun c hc => bs_small s c (List.mem_of_mem_take hc)
        have m2 : Byt ((bs s).drop (k + 1)) := fun c hc => bs_small s c (List.mem_of_mem_drop hc)
        have T1 := Lib.hid (fun X => trim_c (str ((bs s).take k)) (by rw [str_size]; have := List.length_take_le k (bs s); omega) X)
        have T2 := Lib.hid (fun X => trim_c (str ((bs s).drop (k + 1))) (by rw [str_size, List.length_drop, bs_length]; omega) X)
        rw [bs_str m1] at T1
        rw [bs_str m2] at T2
        have m3 : Byt (blB ((bs s).take k)) := fun c hc => m1 c (blB_mem hc)
        have hz : (str (blB ((bs s).take k))).size ≤ 9223372036854775807 := by
          rw [str_size]
          have h1 := blB_length ((bs s).take k)
          have h2 := List.length_take_le k (bs s)
          omega
        have KC := Lib.hid (fun X => keyed_c (str (blB ((bs s).take k))) hz X)
        rw [bs_str m3] at KC
        generalize keyedV (blB ((bs s).take k)) = kb at *
        generalize blB ((bs s).take k) = K at *
        generalize blB ((bs s).drop (k + 1)) = V at *
        generalize str ((bs s).take k) = S1 at *
        generalize str ((bs s).drop (k + 1)) = S2 at *
        obtain ⟨KS, hKS⟩ : ∃ KS, str K = KS := ⟨_, rfl⟩
        obtain ⟨VS, hVS⟩ : ∃ VS, str V = VS := ⟨_, rfl⟩
        rw [hKS] at T1 KC
        rw [hVS] at T2
        have HKS := Lib.hid hKS; have HVS := Lib.hid hVS
        have hk1 : k + 1 ≤ s.size := hlt
        have hkle : k ≤ s.size := by omega
        have zq : (k : Int) + 1 = ((k + 1 : Nat) : Int) := by omega
        have zw : IntKind.i64.wrap ((k + 1 : Nat) : Int) = ((k + 1 : Nat) : Int) := by rw [IntKind.wrap_i64]; omega
        subst h61
        generalize k + 1 = q at *
        clear hx m1 m2 m3 hz hKS hVS HD HI
        go_upto_region 5 with fail
        go_cut [5] from 16 to 25 (fun v wx => ∃ b : Nat, v = .pointer (some ⟨b, 0, none⟩) ∧ wx.cell? ⟨b, 0, none⟩ = some (.string KS) ∧ wx.cell? ⟨b, 1, none⟩ = some (.string VS) ∧ Hid (Below wr.heap.size wr wx))
        case first =>
          go_region_with (first
            | (go_at_call 81; (with_reducible refine (T1.out _).mono ?_); rintro _ w1 ⟨rfl, rfl⟩)
            | (go_at_call 81; (with_reducible refine (T2.out _).mono ?_); rintro _ w1 ⟨rfl, rfl⟩))
          all_goals go_wp2_with fail
          all_goals go_meet
          all_goals (obtain ⟨k0, k1, -, -⟩ := two_new wr (.string KS) (.string VS) 97)
          all_goals exact ⟨_, rfl, k0, k1, Lib.hid (by first | exact alloc_below _ _ | exact (alloc_below _ _).drew | exact Below.drew (alloc_below _ _))⟩
        case rest =>
          obtain ⟨b, rfl, c0, c1, HB⟩ := hcut
          have q0 := cellb HB.out r0
          have q1 := cellb HB.out r1
          have g0 := (HB.out.frozen (p := ⟨w.heap.size, 0, none⟩) (by have := HSZ.out; simp only; omega)).trans rf0
          have g1 := (HB.out.frozen (p := ⟨w.heap.size, 1, none⟩) (by have := HSZ.out; simp only; omega)).trans rf1
          have BB := Lib.hid (bnext HBW.out HB.out)
          clear r0 r1 rf0 rf1
          go_wp2_with fail
          go_region_with (go_at_call 82; (with_reducible refine (KC.out _).mono ?_); rintro _ w1 ⟨rfl, rfl⟩)
          all_goals (try go_wp2_with fail)
          all_goals
            refine bodyPost_ret (v := .tuple #[.agg #[.string KS, .string VS], .bool kb]) (by simp [results, Tryz.results57, go_sem, q0, q1]) rfl ⟨by rw [← HE.out]; simp only; rw [HKS.out, HVS.out], ?_⟩
            first
              | exact ((BB.out.setCell (p := ⟨w.heap.size, 0, none⟩) (Nat.le_refl _) (.string KS)).setCell (p := ⟨w.heap.size, 1, none⟩) (Nat.le_refl _) (.string VS))
              | exact (((Below.drew BB.out).setCell (p := ⟨w.heap.size, 0, none⟩) (Nat.le_refl _) (.string KS)).setCell (p := ⟨w.heap.size, 1, none⟩) (Nat.le_refl _) (.string VS))
      · have NEXT := Lib.hid (show ∀ (j : Nat), j < k + 1 → byteAt (bs s) j ≠ 61 from fun j hj => by
          by_cases e : j = k
          · rw [e, hx]; exact h61
          · exact HI.out j (by omega))
        have xi : ((x : Int) == 61) = false := by rw [beq_eq_false_iff_ne]; omega
        clear hx h61 HI
        go_wp2
        go_roundw
        case rel => exact ⟨k + 1, by go_num, by omega, (by first | rfl | trivial), NEXT⟩
        case measure => simp [intOf]; omega
    · obtain rfl : k = s.size := by omega
      have HE := Lib.hid (show d = (([], []), false) by rw [← HD.out]; exact cutC_no fun j hj => HI.out j (by rw [bs_length] at hj; exact hj))
      clear HI HD
      have p0 := World.cell?_setCell_same wr ⟨w.heap.size, 0, none⟩ (.string ⟨#[]⟩) r0
      have BB := Lib.hid ((HBW.out.setCell (p := ⟨w.heap.size, 0, none⟩) (Nat.le_refl _) (.string ⟨#[]⟩)).setCell (p := ⟨w.heap.size, 1, none⟩) (Nat.le_refl _) (.string ⟨#[]⟩))
      go_wp2
      refine bodyPost_ret (v := .tuple #[.agg #[.string ⟨#[]⟩, .string ⟨#[]⟩], .bool false]) (by simp [results, Tryz.results57, go_sem, r0, r1]) rfl ⟨by rw [HE.out]; rfl, BB.out⟩
end Go.Proofs.YtodlgbihdehmbaaGreatDoor.Cf.KR
/-
  Contracts of the document's own functions of layer 11: lists of texts, and of sections, that are the same.
-/
set_option linter.unusedSimpArgs false
set_option linter.unusedVariables false
namespace Go.Proofs.YtodlgbihdehmbaaGreatDoor.Cf
open Go.RowKit
/-- A row of texts, as it is read. -/
def TxAt (w : World) (b : Nat) (l : List (List Nat)) : Prop := ∀ (k : Nat) (t : List Nat), l[k]? = some t → w.cell? ⟨b, k, none⟩ = some (.string (str t))
def TxOut (w : World) (v : Value) (l : List (List Nat)) : Prop := ∃ A cap, v = .slice A l.length cap ∧ l.length ≤ cap ∧ (l ≠ [] → ∃ b, A = some ⟨b, 0, none⟩ ∧ TxAt w b l)
theorem TxAt.below {w w' : World} {b : Nat} {l : List (List Nat)} (h : TxAt w b l) (hb : Below w.heap.size w w') : TxAt w' b l := fun k t hk => cellb hb (h k t hk)
theorem TxOut.below {w w' : World} {v : Value} {l : List (List Nat)} (h : TxOut w v l) (hb : Below w.heap.size w w') : TxOut w' v l := by
  obtain ⟨A, cap, hv, hc, hx⟩ := h
  refine ⟨A, cap, hv, hc, fun hn => ?_⟩
  obtain ⟨b, hA, hf⟩ := hx hn
  exact ⟨b, hA, hf.below hb⟩
theorem TxNew.out {B : Nat} {w : World} {v : Value} {l : List (List Nat)} (h : TxNew B w v l) : TxOut w v l := by
  obtain ⟨A, c, rfl, hc, hx⟩ := own_form h
  refine ⟨A, c, rfl, hc, fun hn => ?_⟩
  obtain ⟨g, rfl, _, _⟩ := hx (List.length_pos_iff.2 hn)
  exact ⟨g, rfl, fun k t hk => (TxNew.cellAt h hk).1⟩
end Go.Proofs.YtodlgbihdehmbaaGreatDoor.Cf
/-
  Contracts of the document's own functions of layer 11 (isobarref11): Parse.
-/
set_option linter.unusedSimpArgs false
set_option linter.unusedVariables false
namespace Go.Proofs.YtodlgbihdehmbaaGreatDoor.Cf.KR
open Go.RowKit
theorem str_mid (s : ByteArray) : s.extract 1 (s.size - 1) = str (((bs s).drop 1).dropLast) := by
  have e : s = str (bs s) := (str_bs s).symm
  have h1 : (str (bs s)).extract 1 (s.size - 1) = str (((bs s).drop 1).dropLast) := by
    rw [str_extract, List.dropLast_eq_take, List.length_drop, bs_length]
  rwa [← e] at h1
theorem sub_one {n : Nat} (h : n ≠ 0) : (n : Int) - 1 = ((n - 1 : Nat) : Int) := by omega
theorem ret_vn {v : Value} {a b : Int} (h : a = b) : Ending.returned (.tuple #[v, .int .i64 a]) = .returned (.tuple #[v, .int .i64 b]) := by rw [h]
theorem two_news (w : World) (x y : Value) (t : TypeId) : ∀ (j : Nat) (u : Value), [x, y][j]? = some u → (w.alloc (.cells #[x, y] t)).cell? ((⟨w.heap.size, 0, none⟩ : Addr).add j) = some u := fun j u hj => by
  have e : (⟨w.heap.size, 0, none⟩ : Addr).add j = ⟨w.heap.size, j, none⟩ := by unfold Addr.add; split <;> simp_all
  rw [e]
  refine (cell_of_row _ _ j _ _ (0, 0) (heap_alloc_new w _)).trans ?_
  simpa using hj
set_option maxRecDepth 100000 in
set_option maxHeartbeats 2000000 in
theorem parse_c (s : ByteArray) (hs : s.size ≤ 100000) (w : World) :
    Calls Tryz.prog 27 #[.string s] w fun e w' => ∃ v, e = .returned (.tuple #[v, .int .i64 (confV (bs s)).2]) ∧ SecOut w' v (confV (bs s)).1 ∧ Below w.heap.size w w' := by
  by_cases h4 : 4096 < s.size
  · have HE := Lib.hid (show confV (bs s) = ([], 12) by unfold confV; rw [bs_length, if_pos h4])
    go_enter Tryz.func27, Tryz.ntmps27
    go_wp2
    go_ret2
    exact ⟨_, ret_vn (by rw [HE.out]), by rw [HE.out]; exact SecOut.nil _, Below.refl _ _⟩
  · have h4' : s.size ≤ 4096 := by omega
    obtain ⟨i0, hi0, hz0, hz1, hz2⟩ := info_parts sec_info
    obtain ⟨j0, hj0, jz0, jz1, jz2⟩ := info_parts pair_info
    have HE := Lib.hid (show confV (bs s) = runV [] (linesV (bs s)) by unfold confV; rw [bs_length, if_neg h4])
    have OK := Lib.hid (fun k => run_ok (byt_bs s) k)
    have LB := Lib.hid (lines_byt (byt_bs s))
    have LL := Lib.hid (fun (t : List Nat) (ht : t ∈ linesV (bs s)) => Nat.le_trans (linesV_length ht) (show (bs s).length ≤ 4096 by rw [bs_length]; exact h4'))
    have LC := Lib.hid (lines_c s hs w)
    have LN := linesV_count (bs s)
    rw [bs_length] at LN
    have LN2 : (linesV (bs s)).length ≤ 4097 := by omega
    generalize linesV (bs s) = ls at *
    obtain ⟨m, hm⟩ : ∃ m, ls.length = m := ⟨_, rfl⟩
    rw [hm] at LN2
    have HM := Lib.hid hm
    clear LN hm h4
    go_enter Tryz.func27, Tryz.ntmps27
    go_wp2_with fail
    refine LC.out.mono ?_; rintro _ w1 ⟨lv, rfl, ht1, hb1⟩
    obtain ⟨AL, cl, rfl, hcl, _⟩ := own_form ht1
    have TX := Lib.hid ht1.out
    rw [HM.out] at TX hcl ⊢
    have HB1 := Lib.hid hb1
    clear ht1 hb1 LC
    go_wp2
    go_loopw [5, 6] (fun o i wr => ∃ (k : Nat) (us : List (Value × Sec)), k ≤ m ∧ i = .int .i64 k ∧ Hid (us.map Prod.snd = (runV [] (ls.take k)).1 ∧ ScUs w1.heap.size wr o us ∧ (runV [] (ls.take k)).2 = 0 ∧ Below w1.heap.size w1 wr)) (fun _ i _ => m - (intOf i).toNat)
    case atStart => exact ⟨0, [], Nat.zero_le _, rfl, rfl, ScUs.nil _ _, rfl, Below.refl _ _⟩
    case round =>
      obtain ⟨k, us, hk, rfl, HI⟩ := hrel
      obtain ⟨A, c, rfl, hc, hA⟩ := HI.out.2.1.form
      obtain ⟨hfew, hbyt⟩ := OK.out k
      rw [← HI.out.1] at hfew hbyt
      have hn16 : us.length ≤ 16 := by have := hfew.secs; rwa [List.length_map] at this
      obtain ⟨nu, hnu⟩ : ∃ nu, us.length = nu := ⟨_, rfl⟩
      have HNU := Lib.hid hnu
      rw [hnu] at hn16 hc hA HI ⊢
      have HA := Lib.hid hA; have FEW := Lib.hid hfew; have BYT := Lib.hid hbyt
      clear hA hfew hbyt hnu
      by_cases hlt : k < m
      · have hkl : k < ls.length := by rw [HM.out]; exact hlt
        have hp := List.getElem?_eq_getElem hkl
        obtain ⟨t, htt⟩ : ∃ t, ls[k] = t := ⟨_, rfl⟩
        rw [htt] at hp
        obtain ⟨A', c', hv', _, hx'⟩ := TX.out.below HI.out.2.2.2
        injection hv' with e1 e2 e3; subst e1; clear e2 e3
        obtain ⟨bl, rfl, al⟩ := hx' (by intro e; rw [e] at hkl; exact absurd hkl (Nat.not_lt_zero _))
        have tc := al k t hp
        have hb := LB.out t (List.mem_of_getElem? hp)
        have hl := LL.out t (List.mem_of_getElem? hp)
        have HP := Lib.hid hp; have HT := Lib.hid hb
        obtain ⟨S, hS⟩ : ∃ S, str t = S := ⟨_, rfl⟩
        have hSb : bs S = t := by rw [← hS]; exact bs_str hb
        have hSl : S.size = t.length := by rw [← hS, str_size]
        rw [hS] at tc
        have NC := Lib.hid (fun X => named_c (str ((t.drop 1).dropLast)) (by rw [str_size, List.length_dropLast, List.length_drop]; omega) X)
        rw [bs_str (fun c hc => hb c (List.mem_of_mem_drop (List.dropLast_subset _ hc)))] at NC
        have mid := str_mid S
        rw [hSb] at mid
        obtain ⟨NM, hNM⟩ : ∃ NM, str ((t.drop 1).dropLast) = NM := ⟨_, rfl⟩
        rw [hNM] at mid NC
        have CC := Lib.hid (fun X => cut_c S (by omega) X)
        rw [hSb] at CC
        have HSB := Lib.hid hSb; have HNM := Lib.hid hNM
        obtain ⟨b, hb0⟩ : ∃ b, (headV t).isSome = b := ⟨_, rfl⟩
        have HB := Lib.hid hb0
        have hSl2 : S.size ≤ 4096 := by omega
        have HSL := Lib.hid hSl
        clear hkl hp htt al hx' hb hl hS hSb hNM hb0 hSl
        go_upto_region 9 with fail
        go_cut [52] from 29 to 52 (fun v wx => v = .bool b ∧ wx = wr)
        case first =>
          by_cases z2 : 2 ≤ S.size
          · have zi : (2 : Int) ≤ (S.size : Int) := by omega
            have zp : 0 < S.size := by omega
            have zl : S.size - 1 < S.size := by omega
            have zq : (S.size : Int) - 1 = ((S.size - 1 : Nat) : Int) := by omega
            obtain ⟨x, hx⟩ : ∃ x, byteAt (bs S) 0 = x := ⟨_, rfl⟩
            have hbx : (S[0]'zp).toNat = x := (at_byte zp).trans hx
            obtain ⟨y, hy⟩ : ∃ y, byteAt (bs S) (S.size - 1) = y := ⟨_, rfl⟩
            have hby : (S[S.size - 1]'zl).toNat = y := (at_byte zl).trans hy
            have hlast : lastB t = y := by unfold lastB; rw [← HSL.out, ← HSB.out]; exact hy
            have hzero : byteAt t 0 = x := by rw [← HSB.out]; exact hx
            have q1 : 1 ≤ S.size - 1 := by omega
            have q2 : S.size - 1 ≤ S.size := by omega
            generalize S.size - 1 = r at *
            clear hx hy
            by_cases h91 : x = 91
            · by_cases h93 : y = 93
              · cases hnm : namedV ((t.drop 1).dropLast) with
                | true =>
                  have hbb : b = true := by rw [← HB.out, head_yes (by rw [← HSL.out]; exact z2) (hzero.trans h91) (hlast.trans h93) hnm]; rfl
                  rw [hnm] at NC
                  subst h91 h93 hbb
                  clear hlast hzero hnm
                  go_wp2_with (go_at_call 55; refine (NC.out _).mono ?_; rintro _ w2 ⟨rfl, rfl⟩)
                  go_meet
                  exact ⟨rfl, rfl⟩
                | false =>
                  have hbb : b = false := by rw [← HB.out, head_no (fun h => by rw [hnm] at h; exact absurd h.2.2.2 (by decide))]; rfl
                  rw [hnm] at NC
                  subst h91 h93 hbb
                  clear hlast hzero hnm
                  go_wp2_with (go_at_call 55; refine (NC.out _).mono ?_; rintro _ w2 ⟨rfl, rfl⟩)
                  go_meet
                  exact ⟨rfl, rfl⟩
              · have hbb : b = false := by rw [← HB.out, head_no (fun h => h93 (hlast.symm.trans h.2.2.1))]; rfl
                have yi : ((y : Int) == 93) = false := by rw [beq_eq_false_iff_ne]; omega
                subst h91 hbb
                clear hlast hzero h93
                go_wp2
                go_meet
                exact ⟨rfl, rfl⟩
            · have hbb : b = false := by rw [← HB.out, head_no (fun h => h91 (hzero.symm.trans h.2.1))]; rfl
              have xi : ((x : Int) == 91) = false := by rw [beq_eq_false_iff_ne]; omega
              subst hbb
              clear hlast hzero h91
              go_wp2
              go_meet
              exact ⟨rfl, rfl⟩
          · have hbb : b = false := by rw [← HB.out, head_no (fun h => z2 (by rw [HSL.out]; exact h.1))]; rfl
            have zi : ¬ (2 : Int) ≤ (S.size : Int) := by omega
            subst hbb
            go_wp2
            go_meet
            exact ⟨rfl, rfl⟩
        case rest =>
          obtain ⟨rfl, rfl⟩ := hcut
          cases b with
          | true =>
            obtain ⟨n, hn⟩ : ∃ n, headV t = some n := Option.isSome_iff_exists.1 HB.out
            have hcond : 2 ≤ t.length ∧ (t.drop 1).dropLast = n := by
              unfold headV at hn
              split at hn
              · rename_i h
                exact ⟨h.1, Option.some.inj hn⟩
              · cases hn
            obtain ⟨h2, hnn⟩ := hcond
            rw [hnn] at HNM
            have hnB : Byt n := fun c hc => HT.out c (head_mem hn hc)
            have hbNM : bs NM = n := by rw [← HNM.out]; exact bs_str hnB
            have HC := Lib.hid (has_c (.slice A nu c) (us.map Prod.snd) (by rw [List.length_map, HNU.out]; omega) (fun x hx => (BYT.out x hx).1) NM wc HI.out.2.1.out)
            rw [hbNM] at HC
            have hst := step_head (out := us.map Prod.snd) hn
            rw [List.length_map, HNU.out] at hst
            have HST := Lib.hid hst
            have q1 : 1 ≤ S.size - 1 := by have := HSL.out; omega
            have q2 : S.size - 1 ≤ S.size := by omega
            have zq : (S.size : Int) - 1 = ((S.size - 1 : Nat) : Int) := by omega
            generalize S.size - 1 = r at *
            clear hn h2 hnn hst hbNM CC
            cases hh : hasV (us.map Prod.snd) n with
            | true =>
              rw [hh] at HC
              rw [hh, if_pos rfl] at HST
              have STOP := Lib.hid (show confV (bs s) = ([], 5) by
                rw [HE.out]
                exact run_stop HP.out HI.out.2.2.1 (by rw [← HI.out.1, HST.out]) (by decide))
              have LOW := Lib.hid (bnext HB1.out HI.out.2.2.2)
              clear hh
              go_wp2_with fail
              refine (HC.out).mono ?_; rintro _ w3 ⟨rfl, rfl⟩
              go_wp2
              go_ret2
              exact ⟨_, ret_vn (by rw [STOP.out]), by rw [STOP.out]; exact SecOut.nil _, LOW.out⟩
            | false =>
              rw [hh] at HC
              rw [hh, if_neg (by decide)] at HST
              clear hh
              by_cases h16 : nu = 16
              · rw [if_pos h16] at HST
                have STOP := Lib.hid (show confV (bs s) = ([], 11) by
                  rw [HE.out]
                  exact run_stop HP.out HI.out.2.2.1 (by rw [← HI.out.1, HST.out]) (by decide))
                have LOW := Lib.hid (bnext HB1.out HI.out.2.2.2)
                subst h16
                go_wp2_with fail
                refine (HC.out).mono ?_; rintro _ w3 ⟨rfl, rfl⟩
                go_wp2
                go_ret2
                exact ⟨_, ret_vn (by rw [STOP.out]), by rw [STOP.out]; exact SecOut.nil _, LOW.out⟩
              · rw [if_neg h16] at HST
                have ni : ((nu : Int) == 16) = false := by rw [beq_eq_false_iff_ne]; omega
                have NEXT := Lib.hid (show (us ++ [((.slice none 0 0 : Value), ((n, []) : Sec))]).map Prod.snd = (runV [] (ls.take (k + 1))).1 ∧ (runV [] (ls.take (k + 1))).2 = 0 from by
                  have h := run_next HP.out HI.out.2.2.1 (by rw [← HI.out.1, HST.out])
                  rw [← HI.out.1, HST.out] at h
                  exact ⟨by rw [List.map_append, h.1]; rfl, h.2⟩)
                have B63 := Lib.hid (show nu + 1 ≤ maxLen by simp only [maxLen]; omega)
                have B48 := Lib.hid (show (nu + 1) * 40 ≤ 140737488355328 by omega)
                have SCU := Lib.hid (HI.out.2.1.below (alloc_below wc (.cells #[.string NM, .slice none 0 0] 63)))
                have LOW := Lib.hid (bnext HI.out.2.2.2 (alloc_below wc (.cells #[.string NM, .slice none 0 0] 63)))
                have ROW := Lib.hid (show (wc.alloc (.cells #[.string NM, .slice none 0 0] 63)).ownsRow w1.heap.size 63 2 (.slice A nu c) nu (scC us) from by
                  have h := SCU.out.row
                  rw [HNU.out] at h; exact h)
                have PUSH := Lib.hid (fun (g cap : Nat) (w' : World) hn hg hat => @ScUs.push w1.heap.size (wc.alloc (.cells #[.string NM, .slice none 0 0] 63)) w' (.slice A nu c) us n g cap SCU.out hn hg hat)
                rw [HNU.out, HNM.out] at PUSH
                have NEWS := Lib.hid (two_news wc (.string NM) (.slice none 0 0) 63)
                have GROW := Lib.hid (show ∀ (w' : World), (wc.alloc (.cells #[.string NM, .slice none 0 0] 63)).grownBy w' (Value.ownBlock (.slice A nu c)) → Below w1.heap.size w1 w' from fun w' hg =>
                  LOW.out.grown hg LOW.out.size fun j ej => (own_lt ROW.out ej).1)
                clear h16
                go_wp2_with (first
                  | (go_at_call 56; refine (HC.out).mono ?_; rintro _ w3 ⟨rfl, rfl⟩)
                  | (at_builtin; refine wpList_append_lies _ rfl (.tmp 64) (.tmp 67) _ rfl w1.heap.size 63 i0 (.agg #[.string ⟨#[]⟩, .slice none 0 0]) 2 40 Tryz.underlying56 hi0 hz0 hz1 hz2 rfl (by decide) (.slice A nu c) nu (scC us) rfl ROW.out ⟨wc.heap.size, 0, none⟩ 1 1 [.string NM, .slice none 0 0] rfl rfl NEWS.out (by simp [Value.oneCell']) (by decide) B63.out B48.out LOW.out.size (wc.heap.size + 1) (by simp) ?_; intro g9 cap9 w9 hown9 hg9 hat9 hlt9; have hs9 := Lib.hid (PUSH.out g9 cap9 w9 hown9 hg9 (hat9.imp id (fun e => by rw [e]; simp))); have hb9 := Lib.hid (GROW.out _ hg9); clear hown9 hg9 hat9 hlt9))
                go_roundw
                case rel => exact ⟨k + 1, _, by omega, by go_num, NEXT.out.1, hs9.out, NEXT.out.2, hb9.out⟩
                case measure => simp only [intOf]; omega
          | false =>
            have hnone : headV t = none := by
              cases hh : headV t with
              | none => rfl
              | some n => have := HB.out; rw [hh] at this; cases this
            have HNO := Lib.hid hnone
            obtain ⟨⟨⟨K, V⟩, ok⟩, hcut⟩ : ∃ x, cutC t = x := ⟨_, rfl⟩
            have HCUT := Lib.hid hcut
            have cb := cutC_byt HT.out
            rw [hcut] at CC cb
            simp only at CC cb
            have CB := Lib.hid cb
            obtain ⟨KS, hKS⟩ : ∃ KS, str K = KS := ⟨_, rfl⟩
            obtain ⟨VS, hVS⟩ : ∃ VS, str V = VS := ⟨_, rfl⟩
            rw [hKS, hVS] at CC
            have HKS := Lib.hid hKS; have HVS := Lib.hid hVS
            clear hnone hcut cb hKS hVS NC mid
            by_cases hok : ok = false
            · subst hok
              have STOP := Lib.hid (show confV (bs s) = ([], 7) by
                rw [HE.out]
                exact run_stop HP.out HI.out.2.2.1 (by rw [step_wrong HNO.out (by rw [HCUT.out])]) (by decide))
              go_wp2_with fail
              refine (CC.out _).mono ?_; rintro _ w3 ⟨rfl, hb3⟩
              have LOW := Lib.hid (bnext (bnext HB1.out HI.out.2.2.2) hb3)
              clear hb3
              go_wp2
              go_ret2
              exact ⟨_, ret_vn (by rw [STOP.out]), by rw [STOP.out]; exact SecOut.nil _, bnext LOW.out (alloc_below _ _)⟩
            · obtain rfl : ok = true := by simpa using hok
              by_cases h0 : nu = 0
              · subst h0
                have STOP := Lib.hid (show confV (bs s) = ([], 7) by
                  rw [HE.out]
                  refine run_stop HP.out HI.out.2.2.1 ?_ (by decide)
                  rw [← HI.out.1, List.eq_nil_of_length_eq_zero HNU.out]
                  show (stepV [] t).2 = 7
                  rw [step_none HNO.out])
                go_wp2_with fail
                refine (CC.out _).mono ?_; rintro _ w3 ⟨rfl, hb3⟩
                have LOW := Lib.hid (bnext (bnext HB1.out HI.out.2.2.2) hb3)
                clear hb3
                go_wp2
                go_ret2
                exact ⟨_, ret_vn (by rw [STOP.out]), by rw [STOP.out]; exact SecOut.nil _, bnext LOW.out (alloc_below _ _)⟩
              · obtain ⟨gs, rfl, hgB, hgl⟩ := HA.out (Nat.pos_of_ne_zero h0)
                have hune : us ≠ [] := by intro e; rw [e] at HNU; exact h0 HNU.out.symm
                obtain ⟨ui, uz, hus⟩ : ∃ ui uz, us = ui ++ [uz] := by
                  rcases List.eq_nil_or_concat us with e | ⟨a, z, e⟩
                  · exact absurd e hune
                  · exact ⟨a, z, by rw [e, List.concat_eq_append]⟩
                subst hus
                obtain ⟨u, nm, kl⟩ := uz
                have hlen : ui.length = nu - 1 := by have := HNU.out; rw [List.length_append, List.length_singleton] at this; omega
                have hlast : (ui ++ [(u, nm, kl)])[nu - 1]? = some (u, nm, kl) := by rw [← hlen]; simp
                obtain ⟨c0, c1, f1⟩ := HI.out.2.1.cells hlast
                have hmem : (u, nm, kl) ∈ ui ++ [(u, nm, kl)] := List.mem_append_right _ (List.mem_singleton.2 rfl)
                have hkv := HI.out.2.1.kv _ hmem
                have hk16 : kl.length ≤ 16 := FEW.out.keys (nm, kl) (List.mem_map.2 ⟨_, hmem, rfl⟩)
                have hkb : ∀ p ∈ kl, Byt p.1 := fun p hp => ((BYT.out (nm, kl) (List.mem_map.2 ⟨_, hmem, rfl⟩)).2 p hp).1
                obtain ⟨Au, cu, hu, hcu, _⟩ := own_form hkv
                simp only at hu c0 c1
                subst hu
                obtain ⟨nk, hnk⟩ : ∃ nk, kl.length = nk := ⟨_, rfl⟩
                have hst := step_key (out := ui.map Prod.snd) (x := (nm, kl)) HNO.out
                rw [HCUT.out] at hst
                simp only [Bool.true_eq_false, if_false] at hst
                have HST := Lib.hid (show stepV ((ui ++ [(Value.slice Au kl.length cu, nm, kl)]).map Prod.snd) t = if (getV kl K).isSome = true then ([], 5) else if kl.length = 16 then ([], 11) else (ui.map Prod.snd ++ [(nm, kl ++ [(K, V)])], 0) by
                  rw [List.map_append]; exact hst)
                have KO := Lib.hid hkv.out
                simp only at KO
                have ni0 : ¬ ((nu : Int) = 0) := by omega
                have ni0b : ((nu : Int) == 0) = false := beq_false_of_ne ni0
                have zq : (nu : Int) - 1 = ((nu - 1 : Nat) : Int) := sub_one h0
                have zlt : nu - 1 < nu := by omega
                have HLEN := Lib.hid hlen
                rw [hnk] at hk16 hcu HST KO c1
                obtain ⟨NMS, hNMS⟩ : ∃ x, str nm = x := ⟨_, rfl⟩
                rw [hNMS] at c0
                have GC := Lib.hid (fun (X : World) (hX : Below wc.heap.size wc X) => get_c NMS (.slice Au nk cu) kl (by omega) hkb KS X (KO.out.below hX))
                rw [show bs KS = K from by rw [← HKS.out]; exact bs_str CB.out.1] at GC
                obtain ⟨gv, hgv⟩ : ∃ gv, getV kl K = gv := ⟨_, rfl⟩
                rw [hgv] at GC HST
                obtain ⟨G1, hG1⟩ : ∃ x, str (gv.getD []) = x := ⟨_, rfl⟩
                rw [hG1] at GC
                obtain ⟨th, hth⟩ : ∃ th, gv.isSome = th := ⟨_, rfl⟩
                rw [hth] at GC HST
                have HNK := Lib.hid hnk
                have HI2 := Lib.hid HI.out
                generalize nu - 1 = q at *
                clear hune hlast hmem hkv hkb hlen hst hnk hNMS hgv hG1 hth hok h0 HI
                go_wp2_with fail
                refine (CC.out _).mono ?_; rintro _ w3 ⟨rfl, hb3⟩
                obtain ⟨p0, p1, pf0, pf1⟩ := two_new w3 (.string KS) (.string VS) 97
                go_upto_region 20 with fail
                obtain ⟨w4, hw4⟩ : ∃ w4, w3.alloc (.cells #[.string KS, .string VS] 97) = w4 := ⟨_, rfl⟩
                have hb4 := bnext hb3 (alloc_below w3 (.cells #[.string KS, .string VS] 97))
                rw [hw4] at p0 p1 pf0 pf1 hb4 ⊢
                have H4 := Lib.hid hb4
                have d0 := cellb hb4 c0
                have d1 := cellb hb4 c1
                have GC4 := Lib.hid (fun (z : Laid w4) => GC.out z.W (bnext H4.out z.h))
                have Y0 : ∀ z : Laid w4, z.W.cell? ⟨gs, q * 2, none⟩ = some (.string NMS) := fun z => cellb z.h d0
                have Y1 : ∀ z : Laid w4, z.W.cell? ⟨gs, q * 2 + 1, none⟩ = some (.slice Au nk cu) := fun z => cellb z.h d1
                have Y2 : ∀ z : Laid w4, z.W.cell? ⟨w3.heap.size, 0, none⟩ = some (.string KS) := fun z => cellb z.h p0
                clear hb3 hb4 hw4
                cases th with
                | true =>
                  rw [if_pos rfl] at HST
                  have STOP := Lib.hid (show confV (bs s) = ([], 5) by
                    rw [HE.out]
                    exact run_stop HP.out HI2.out.2.2.1 (by rw [← HI2.out.1, HNK.out, HST.out]) (by decide))
                  have LOW := Lib.hid (bnext (bnext HB1.out HI2.out.2.2.2) H4.out)
                  refine wp_region_laid (by kernel_rfl) (by kernel_rfl) ?_
                  repeat (go_big_quiet_step (first | (go_at_call 28; with_reducible exact Calls.laid (GC4.out _))))
                  refine wpQuiet_nil ?_
                  intro _ hw'
                  obtain ⟨pq, hw''⟩ := hw'
                  subst hw''
                  go_wp2
                  go_ret2
                  exact ⟨_, ret_vn (by rw [STOP.out]), by rw [STOP.out]; exact SecOut.nil _, bnext LOW.out pq.h⟩
                | false =>
                  rw [if_neg (by decide)] at HST
                  refine wp_region_laid (by kernel_rfl) (by kernel_rfl) ?_
                  repeat (go_big_quiet_step (first | (go_at_call 28; with_reducible exact Calls.laid (GC4.out _))))
                  refine wpQuiet_nil ?_
                  intro _ hw'
                  obtain ⟨pq, hw''⟩ := hw'
                  subst hw''
                  have hX := pq.h
                  have d2 := Y0 pq
                  have d3 := Y1 pq
                  have p2 := Y2 pq
                  have p3 := cellb hX p1
                  have f3 := ((bnext H4.out hX).frozen (p := ⟨gs, q * 2 + 1, none⟩) (by simpa using hgl)).trans f1
                  generalize pq.W = X at *
                  have HX := Lib.hid (bnext H4.out hX)
                  clear Y0 Y1 Y2 GC4 hX d0 d1 c0 c1 p0 p1 pf0 pf1 f1
                  by_cases h16 : nk = 16
                  · rw [if_pos h16] at HST
                    have STOP := Lib.hid (show confV (bs s) = ([], 11) by
                      rw [HE.out]
                      exact run_stop HP.out HI2.out.2.2.1 (by rw [← HI2.out.1, HNK.out, HST.out]) (by decide))
                    have LOW := Lib.hid (bnext (bnext HB1.out HI2.out.2.2.2) HX.out)
                    subst h16
                    go_wp2
                    go_ret2
                    exact ⟨_, ret_vn (by rw [STOP.out]), by rw [STOP.out]; exact SecOut.nil _, LOW.out⟩
                  · rw [if_neg h16] at HST
                    have kn : ((nk : Int) == 16) = false := by rw [beq_eq_false_iff_ne]; omega
                    have kn2 : ¬ ((nk : Int) = 16) := by omega
                    clear h16
                    obtain ⟨XA, hXA⟩ : ∃ XA, (X.alloc (.cells #[.string KS, .string VS] 97)).drew = XA := ⟨_, rfl⟩
                    have hbA : Below X.heap.size X XA := by rw [← hXA]; exact (alloc_below X _).drew
                    have hsA : XA.heap.size = X.heap.size + 1 := by rw [← hXA]; simp [World.drew]
                    have d4 := cellb hbA d3
                    have p4 := cellb hbA p2
                    have p5 := cellb hbA p3
                    have NEWS := Lib.hid (show ∀ (j : Nat) (x : Value), [Value.string KS, Value.string VS][j]? = some x → XA.cell? ((⟨X.heap.size, 0, none⟩ : Addr).add j) = some x from by
                      rw [← hXA]; exact two_news X (.string KS) (.string VS) 97)
                    have SX := Lib.hid (show ScUs w1.heap.size XA (.slice (some ⟨gs, 0, none⟩) nu c) (ui ++ [((.slice Au nk cu : Value), ((nm, kl) : Sec))]) from by
                      have h := HI2.out.2.1.below (bnext HX.out hbA)
                      rw [HNK.out] at h; exact h)
                    have LOWA := Lib.hid (bnext HI2.out.2.2.2 (bnext HX.out hbA))
                    have ROWK := Lib.hid (show XA.ownsRow w1.heap.size 97 2 (.slice Au nk cu) nk (kvC kl) from by
                      have h := SX.out.kv _ (List.mem_append_right _ (List.mem_singleton.2 rfl))
                      unfold KvNew at h
                      simp only at h
                      rw [HNK.out] at h; exact h)
                    have MORE := Lib.hid (fun (g cap : Nat) (w' : World) hn hg hat => @ScUs.more w1.heap.size XA w' gs nu c ui (.slice Au nk cu) (nm, kl) (K, V) g cap SX.out hn hg hat)
                    simp only [kvC1, HNK.out, HLEN.out, HKS.out, HVS.out] at MORE
                    have B63 := Lib.hid (show nk + 1 ≤ maxLen by simp only [maxLen]; omega)
                    have B48 := Lib.hid (show (nk + 1) * 32 ≤ 140737488355328 by omega)
                    have GROW := Lib.hid (show ∀ (w' : World) (y : Value), XA.grownBy w' (Value.ownBlock (.slice Au nk cu)) → Below w1.heap.size w1 (w'.setCell ⟨gs, q * 2 + 1, none⟩ y) from fun w' y hg =>
                      (LOWA.out.grown hg LOWA.out.size fun j ej => (own_lt ROWK.out ej).1).setCell (p := ⟨gs, q * 2 + 1, none⟩) hgB y)
                    have NEXT := Lib.hid (show ∀ y : Value, (ui ++ [(y, ((nm, kl ++ [(K, V)]) : Sec))]).map Prod.snd = (runV [] (ls.take (k + 1))).1 ∧ (runV [] (ls.take (k + 1))).2 = 0 from fun y => by
                      have h := run_next HP.out HI2.out.2.2.1 (by rw [← HI2.out.1, HNK.out, HST.out])
                      rw [← HI2.out.1, HNK.out, HST.out] at h
                      exact ⟨by rw [List.map_append, h.1]; rfl, h.2⟩)
                    go_upto_region 25 with fail
                    go_region_law (first
                      | ((try rw [hXA]); refine step_append_lies _ (by rfl) (.tmp 108) (.tmp 110) 61 (by rfl) w1.heap.size 97 j0 (.agg #[.string ⟨#[]⟩, .string ⟨#[]⟩]) 2 32 Tryz.underlying61 hj0 jz0 jz1 jz2 rfl (by decide) (.slice Au nk cu) nk (kvC kl) (by rfl) ROWK.out ⟨X.heap.size, 0, none⟩ 1 1 [.string KS, .string VS] (by rfl) rfl NEWS.out (by simp [Value.oneCell']) (by decide) B63.out B48.out LOWA.out.size (X.heap.size + 1) hsA ?_; intro g9 cap9 w9 hown9 hg9 hat9 hlt9; obtain ⟨m1, m2, m3⟩ := MORE.out g9 cap9 w9 hown9 hg9 (hat9.imp id (fun e => by rw [e, hsA]; exact Nat.le_refl _)); have HM3 := Lib.hid m3; have HB9 := Lib.hid (GROW.out w9 (.slice (some ⟨g9, 0, none⟩) (nk + 1) cap9) hg9); clear m3 hown9 hg9 hat9 hlt9))
                    all_goals (try go_wp2)
                    all_goals (go_roundw; (case rel => exact ⟨k + 1, _, by omega, by go_num, (NEXT.out _).1, HM3.out, (NEXT.out (.slice none 0 0)).2, HB9.out⟩); (case measure => simp only [intOf]; omega))
      · obtain rfl : k = m := by omega
        have hT : ls.take k = ls := by rw [← HM.out, List.take_length]
        have FIN := Lib.hid (show SecOut wr (.slice A nu c) (runV [] ls).1 ∧ (runV [] ls).2 = 0 from by
          have h1 := HI.out.2.1.out
          have h2 := HI.out.2.2.1
          rw [HI.out.1, hT] at h1
          rw [hT] at h2
          exact ⟨h1, h2⟩)
        have LOW := Lib.hid (bnext HB1.out HI.out.2.2.2)
        clear hT HI
        go_wp2
        go_ret2
        exact ⟨_, ret_vn (by rw [HE.out, FIN.out.2]), by rw [HE.out]; exact FIN.out.1, LOW.out⟩
end Go.Proofs.YtodlgbihdehmbaaGreatDoor.Cf.KR
