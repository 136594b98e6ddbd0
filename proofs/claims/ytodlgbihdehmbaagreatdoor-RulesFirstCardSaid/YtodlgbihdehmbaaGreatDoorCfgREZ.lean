/-
  Contracts of the document's own functions of layer 11 (isobarref11): a line's key and value.
-/
import Derived.Test.YtodlgbihdehmbaaGreatDoorCfgRBZ
import Derived.Test.YtodlgbihdehmbaaGreatDoorCfgRCZ
import Derived.Deep.RegionWith
import Derived.Test.YtodlgbihdehmbaaGreatDoorCfgStepZ
import Derived.Deep.RegionLaw
set_option linter.unusedSimpArgs false
set_option linter.unusedVariables false
namespace Go.Proofs.YtodlgbihdehmbaaGreatDoor.Cf.KR
open Go.RowKit
theorem cutC_no {l : List Nat} (h : ∀ j, j < l.length → byteAt l j ≠ 61) : cutC l = (([], []), false) := by
  have e := spl_last (c := 61) (l := l) (f := 0) (fun j _ hj => h j hj)
  rw [List.drop_zero] at e
  unfold cutC
  rw [e]
theorem cutC_at {l : List Nat} {k : Nat} (hk : k < l.length) (hc : byteAt l k = 61) (h : ∀ j, j < k → byteAt l j ≠ 61) :
    cutC l = ((blB (l.take k), blB (l.drop (k + 1))), keyedV (blB (l.take k))) := by
  have e := spl_seg (c := 61) (l := l) (f := 0) (k := k) (Nat.zero_le _) hk hc (fun j _ hj => h j hj)
  rw [List.drop_zero, Nat.sub_zero] at e
  obtain ⟨a, t, ht⟩ := List.exists_cons_of_ne_nil (spl_ne 61 (l.drop (k + 1)))
  have hl : (l.take k).length = k := by rw [List.length_take]; omega
  unfold cutC
  rw [e, ht]
  simp only
  rw [hl]
theorem two_new (w : World) (x y : Value) (t : TypeId) : (w.alloc (.cells #[x, y] t)).cell? ⟨w.heap.size, 0, none⟩ = some x ∧ (w.alloc (.cells #[x, y] t)).cell? ⟨w.heap.size, 1, none⟩ = some y ∧
    (w.alloc (.cells #[x, y] t)).frozen? ⟨w.heap.size, 0, none⟩ = false ∧ (w.alloc (.cells #[x, y] t)).frozen? ⟨w.heap.size, 1, none⟩ = false := by
  have h := heap_alloc_new w (.cells #[x, y] t)
  exact ⟨cell_of_row _ _ 0 _ _ (0, 0) h, cell_of_row _ _ 1 _ _ (0, 0) h, frozen_of_row _ _ 0 _ _ h, frozen_of_row _ _ 1 _ _ h⟩
theorem str_take (s : ByteArray) (k : Nat) : s.extract 0 k = str ((bs s).take k) := by
  have e : s = str (bs s) := (str_bs s).symm
  have h2 : (str (bs s)).extract 0 k = str (((bs s).drop 0).take (k - 0)) := str_extract 0 k
  rw [← e, List.drop_zero, Nat.sub_zero] at h2
  exact h2
theorem str_drop (s : ByteArray) (k : Nat) : s.extract k s.size = str ((bs s).drop k) := by
  have e : s = str (bs s) := (str_bs s).symm
  have h1 : (str (bs s)).extract k s.size = str ((bs s).drop k) := by
    rw [str_extract, List.take_of_length_le (by rw [List.length_drop, bs_length]; exact Nat.le_refl _)]
  rwa [← e] at h1
set_option maxRecDepth 100000 in
set_option maxHeartbeats 1000000 in
theorem cut_c (s : ByteArray) (hs : s.size ≤ 100000) (w : World) :
    Calls Tryz.prog 57 #[.string s] w fun e w' => e = .returned (.tuple #[.agg #[.string (str (cutC (bs s)).1.1), .string (str (cutC (bs s)).1.2)], .bool (cutC (bs s)).2]) ∧ Below w.heap.size w w' := by
  obtain ⟨d, hd⟩ : ∃ d, cutC (bs s) = d := ⟨_, rfl⟩
  rw [hd]
  have HD := Lib.hid hd
  clear hd
  go_enter Tryz.func57, Tryz.ntmps57
  go_wp2
  obtain ⟨wb, hwb⟩ : ∃ wb, w.alloc (.cells #[.string ⟨#[]⟩, .string ⟨#[]⟩] 97) = wb := ⟨_, rfl⟩
  obtain ⟨r0, r1, rf0, rf1⟩ := two_new w (.string ⟨#[]⟩) (.string ⟨#[]⟩) 97
  have hbw := alloc_below w (.cells #[.string ⟨#[]⟩, .string ⟨#[]⟩] 97)
  have hsz : wb.heap.size = w.heap.size + 1 := by rw [← hwb]; simp
  rw [hwb] at hbw r0 r1 rf0 rf1 ⊢
  have HBW := Lib.hid hbw; have HWB := Lib.hid hwb; have HSZ := Lib.hid hsz
  clear hbw hwb hsz
  go_loopw [4] (fun i wr => ∃ k : Nat, i = .int .i64 (k : Nat) ∧ k ≤ s.size ∧ wr = wb ∧ Hid (∀ (j : Nat), j < k → byteAt (bs s) j ≠ 61)) (fun i _ => s.size - (intOf i).toNat)
  case atStart => exact ⟨0, rfl, Nat.zero_le _, rfl, fun j hj => absurd hj (Nat.not_lt_zero j)⟩
  case round =>
    obtain ⟨k, rfl, hk, rfl, HI⟩ := hrel
    by_cases hlt : k < s.size
    · obtain ⟨x, hx⟩ : ∃ x, byteAt (bs s) k = x := ⟨_, rfl⟩
      have hb : (s[k]'hlt).toNat = x := (at_byte hlt).trans hx
      by_cases h61 : x = 61
      · have HE := Lib.hid (show ((blB ((bs s).take k), blB ((bs s).drop (k + 1))), keyedV (blB ((bs s).take k))) = d by
          rw [← HD.out]
          exact (cutC_at (by rw [bs_length]; exact hlt) (hx.trans h61) HI.out).symm)
        have e1 := str_take s k
        have e2 := str_drop s (k + 1)
        have m1 : Byt ((bs s).take k) := fun c hc => bs_small s c (List.mem_of_mem_take hc)
        have m2 : Byt ((bs s).drop (k + 1)) := fun c hc => bs_small s c (List.mem_of_mem_drop hc)
        have T1 := Lib.hid (fun X => trim_c (str ((bs s).take k)) (by rw [str_size]; have := List.length_take_le k (bs s); omega) X)
        have T2 := Lib.hid (fun X => trim_c (str ((bs s).drop (k + 1))) (by rw [str_size, List.length_drop, bs_length]; omega) X)
        rw [bs_str m1] at T1
        rw [bs_str m2] at T2
        have m3 : Byt (blB ((bs s).take k)) := fun c hc => m1 c (blB_mem hc)
        have hz : (str (blB ((bs s).take k))).size ≤ 9223372036854775807 := by
          rw [str_size]
          have h1 := blB_length ((bs s).take k)
          have h2 := List.length_take_le k (bs s)
          omega
        have KC := Lib.hid (fun X => keyed_c (str (blB ((bs s).take k))) hz X)
        rw [bs_str m3] at KC
        generalize keyedV (blB ((bs s).take k)) = kb at *
        generalize blB ((bs s).take k) = K at *
        generalize blB ((bs s).drop (k + 1)) = V at *
        generalize str ((bs s).take k) = S1 at *
        generalize str ((bs s).drop (k + 1)) = S2 at *
        obtain ⟨KS, hKS⟩ : ∃ KS, str K = KS := ⟨_, rfl⟩
        obtain ⟨VS, hVS⟩ : ∃ VS, str V = VS := ⟨_, rfl⟩
        rw [hKS] at T1 KC
        rw [hVS] at T2
        have HKS := Lib.hid hKS; have HVS := Lib.hid hVS
        have hk1 : k + 1 ≤ s.size := hlt
        have hkle : k ≤ s.size := by omega
        have zq : (k : Int) + 1 = ((k + 1 : Nat) : Int) := by omega
        have zw : IntKind.i64.wrap ((k + 1 : Nat) : Int) = ((k + 1 : Nat) : Int) := by rw [IntKind.wrap_i64]; omega
        subst h61
        generalize k + 1 = q at *
        clear hx m1 m2 m3 hz hKS hVS HD HI
        go_upto_region 5 with fail
        go_cut [5] from 16 to 25 (fun v wx => ∃ b : Nat, v = .pointer (some ⟨b, 0, none⟩) ∧ wx.cell? ⟨b, 0, none⟩ = some (.string KS) ∧ wx.cell? ⟨b, 1, none⟩ = some (.string VS) ∧ Hid (Below wr.heap.size wr wx))
        case first =>
          go_region_with (first
            | (go_at_call 81; (with_reducible refine (T1.out _).mono ?_); rintro _ w1 ⟨rfl, rfl⟩)
            | (go_at_call 81; (with_reducible refine (T2.out _).mono ?_); rintro _ w1 ⟨rfl, rfl⟩))
          all_goals go_wp2_with fail
          all_goals go_meet
          all_goals (obtain ⟨k0, k1, -, -⟩ := two_new wr (.string KS) (.string VS) 97)
          all_goals exact ⟨_, rfl, k0, k1, Lib.hid (by first | exact alloc_below _ _ | exact (alloc_below _ _).drew | exact Below.drew (alloc_below _ _))⟩
        case rest =>
          obtain ⟨b, rfl, c0, c1, HB⟩ := hcut
          have q0 := cellb HB.out r0
          have q1 := cellb HB.out r1
          have g0 := (HB.out.frozen (p := ⟨w.heap.size, 0, none⟩) (by have := HSZ.out; simp only; omega)).trans rf0
          have g1 := (HB.out.frozen (p := ⟨w.heap.size, 1, none⟩) (by have := HSZ.out; simp only; omega)).trans rf1
          have BB := Lib.hid (bnext HBW.out HB.out)
          clear r0 r1 rf0 rf1
          go_wp2_with fail
          go_region_with (go_at_call 82; (with_reducible refine (KC.out _).mono ?_); rintro _ w1 ⟨rfl, rfl⟩)
          all_goals (try go_wp2_with fail)
          all_goals
            refine bodyPost_ret (v := .tuple #[.agg #[.string KS, .string VS], .bool kb]) (by simp [results, Tryz.results57, go_sem, q0, q1]) rfl ⟨by rw [← HE.out]; simp only; rw [HKS.out, HVS.out], ?_⟩
            first
              | exact ((BB.out.setCell (p := ⟨w.heap.size, 0, none⟩) (Nat.le_refl _) (.string KS)).setCell (p := ⟨w.heap.size, 1, none⟩) (Nat.le_refl _) (.string VS))
              | exact (((Below.drew BB.out).setCell (p := ⟨w.heap.size, 0, none⟩) (Nat.le_refl _) (.string KS)).setCell (p := ⟨w.heap.size, 1, none⟩) (Nat.le_refl _) (.string VS))
      · have NEXT := Lib.hid (show ∀ (j : Nat), j < k + 1 → byteAt (bs s) j ≠ 61 from fun j hj => by
          by_cases e : j = k
          · rw [e, hx]; exact h61
          · exact HI.out j (by omega))
        have xi : ((x : Int) == 61) = false := by rw [beq_eq_false_iff_ne]; omega
        clear hx h61 HI
        go_wp2
        go_roundw
        case rel => exact ⟨k + 1, by go_num, by omega, (by first | rfl | trivial), NEXT⟩
        case measure => simp [intOf]; omega
    · obtain rfl : k = s.size := by omega
      have HE := Lib.hid (show d = (([], []), false) by rw [← HD.out]; exact cutC_no fun j hj => HI.out j (by rw [bs_length] at hj; exact hj))
      clear HI HD
      have p0 := World.cell?_setCell_same wr ⟨w.heap.size, 0, none⟩ (.string ⟨#[]⟩) r0
      have BB := Lib.hid ((HBW.out.setCell (p := ⟨w.heap.size, 0, none⟩) (Nat.le_refl _) (.string ⟨#[]⟩)).setCell (p := ⟨w.heap.size, 1, none⟩) (Nat.le_refl _) (.string ⟨#[]⟩))
      go_wp2
      refine bodyPost_ret (v := .tuple #[.agg #[.string ⟨#[]⟩, .string ⟨#[]⟩], .bool false]) (by simp [results, Tryz.results57, go_sem, r0, r1]) rfl ⟨by rw [HE.out]; rfl, BB.out⟩
end Go.Proofs.YtodlgbihdehmbaaGreatDoor.Cf.KR
/-
  Contracts of the document's own functions of layer 11: lists of texts, and of sections, that are the same.
-/
set_option linter.unusedSimpArgs false
set_option linter.unusedVariables false
namespace Go.Proofs.YtodlgbihdehmbaaGreatDoor.Cf
open Go.RowKit
/-- A row of texts, as it is read. -/
def TxAt (w : World) (b : Nat) (l : List (List Nat)) : Prop := ∀ (k : Nat) (t : List Nat), l[k]? = some t → w.cell? ⟨b, k, none⟩ = some (.string (str t))
def TxOut (w : World) (v : Value) (l : List (List Nat)) : Prop := ∃ A cap, v = .slice A l.length cap ∧ l.length ≤ cap ∧ (l ≠ [] → ∃ b, A = some ⟨b, 0, none⟩ ∧ TxAt w b l)
theorem TxAt.below {w w' : World} {b : Nat} {l : List (List Nat)} (h : TxAt w b l) (hb : Below w.heap.size w w') : TxAt w' b l := fun k t hk => cellb hb (h k t hk)
theorem TxOut.below {w w' : World} {v : Value} {l : List (List Nat)} (h : TxOut w v l) (hb : Below w.heap.size w w') : TxOut w' v l := by
  obtain ⟨A, cap, hv, hc, hx⟩ := h
  refine ⟨A, cap, hv, hc, fun hn => ?_⟩
  obtain ⟨b, hA, hf⟩ := hx hn
  exact ⟨b, hA, hf.below hb⟩
theorem TxNew.out {B : Nat} {w : World} {v : Value} {l : List (List Nat)} (h : TxNew B w v l) : TxOut w v l := by
  obtain ⟨A, c, rfl, hc, hx⟩ := own_form h
  refine ⟨A, c, rfl, hc, fun hn => ?_⟩
  obtain ⟨g, rfl, _, _⟩ := hx (List.length_pos_iff.2 hn)
  exact ⟨g, rfl, fun k t hk => (TxNew.cellAt h hk).1⟩
end Go.Proofs.YtodlgbihdehmbaaGreatDoor.Cf
/-
  Contracts of the document's own functions of layer 11 (isobarref11): Parse.
-/
set_option linter.unusedSimpArgs false
set_option linter.unusedVariables false
namespace Go.Proofs.YtodlgbihdehmbaaGreatDoor.Cf.KR
open Go.RowKit
theorem two_news (w : World) (x y : Value) (t : TypeId) : ∀ (j : Nat) (u : Value), [x, y][j]? = some u → (w.alloc (.cells #[x, y] t)).cell? ((⟨w.heap.size, 0, none⟩ : Addr).add j) = some u := fun j u hj => by
  have e : (⟨w.heap.size, 0, none⟩ : Addr).add j = ⟨w.heap.size, j, none⟩ := by unfold Addr.add; split <;> simp_all
  rw [e]
  refine (cell_of_row _ _ j _ _ (0, 0) (heap_alloc_new w _)).trans ?_
  simpa using hj
end Go.Proofs.YtodlgbihdehmbaaGreatDoor.Cf.KR
