/-
  Walks of layer 12's laws: the fixed fact; methods' names (RulesNames).
-/
import Derived.Test.YtodlgbihdehmbaaGreatDoorRulPIP
import Derived.Test.YtodlgbihdehmbaaGreatDoorRulPJP
import Derived.Test.YtodlgbihdehmbaaGreatDoorRetRGP
import Derived.Test.YtodlgbihdehmbaaGreatDoorNdlRowP
import Derived.WalkKit
import Derived.WalkSmall
import Derived.Laws.BitsAllLaws
import Derived.Carry
import Derived.Test.YtodlgbihdehmbaaGreatDoorNdlRAP
import Derived.Test.YtodlgbihdehmbaaGreatDoorNdlPlcP
import Derived.Deep.QuietTactic
import Derived.BigQuiet
import Derived.BigRegion
import Derived.Deep.RegionWith
import Derived.Deep.RegionHeld3
import Derived.Deep.Cut
import Derived.Deep.CutRange
import Derived.Deep.CutBlock
import Derived.Test.YtodlgbihdehmbaaGreatDoorNdlRJP
import Derived.Test.YtodlgbihdehmbaaGreatDoorCfgRCP
import Derived.Test.YtodlgbihdehmbaaGreatDoorRulPFP
import Derived.Test.YtodlgbihdehmbaaGreatDoorRetRIP
import Derived.Test.YtodlgbihdehmbaaGreatDoorDecMathP
import Derived.Test.YtodlgbihdehmbaaGreatDoorWideKitP
import Derived.Test.YtodlgbihdehmbaaGreatDoorDecRunP
import Derived.Test.YtodlgbihdehmbaaGreatDoorRulPLP
set_option linter.unusedSimpArgs false
set_option linter.unusedVariables false
namespace Go.Proofs.YtodlgbihdehmbaaGreatDoor
open Go.RowKit Cf Cf.KR Cf.KP
def fixT : ByteArray := ⟨#[91, 97, 108, 108, 93, 10, 112, 97, 116, 116, 101, 114, 110, 32, 61, 32, 46, 42, 10, 114, 101, 116, 101, 110, 116, 105, 111, 110, 115, 32, 61, 32, 54, 48, 115, 58, 49, 104, 10]⟩
def fixU : ByteArray := ⟨#[91, 120, 93, 10, 112, 97, 116, 116, 101, 114, 110, 32, 61, 32, 97, 10]⟩
set_option maxRecDepth 100000 in
theorem fixA : storesV (bs fixT) = ([([97, 108, 108], [46, 42], [(60, 60)])], 0) := by decide +kernel
set_option maxRecDepth 100000 in
theorem fixB : storesV (bs fixU) = ([], 7) := by decide +kernel
set_option maxRecDepth 100000 in
theorem fixC : findV [([97, 108, 108], [46, 42], [(60, 60)])] [] (bs ⟨#[97, 46, 98]⟩) = (([(60, 60)], 1, 500000), 0) := by decide +kernel
theorem lit_rung (w : World) (x y : Int) : RgOut (w.alloc (.cells #[.int .i64 x, .int .i64 y] 49)) (.slice (some ⟨w.heap.size, 0, none⟩) 1 1) [(x, y)] := by
  refine ⟨_, _, rfl, Nat.le_refl _, fun _ => ⟨_, 0, rfl, fun k g hk => ?_⟩⟩
  match k, hk with
  | 0, hk =>
    obtain rfl : (x, y) = g := by simpa using hk
    exact ⟨cell_of_row _ _ 0 _ _ (0, 0) (heap_alloc_new w _), cell_of_row _ _ 1 _ _ (0, 0) (heap_alloc_new w _)⟩
  | k + 1, hk => simp at hk
theorem fix_fit : RuFit [([97, 108, 108], [46, 42], [(60, 60)])] [] := by
  refine ⟨fun s h => ?_, fun f h => ?_, by decide, by decide⟩
  · obtain rfl := List.mem_singleton.1 h
    exact ⟨by decide, by decide⟩
  · cases h
namespace LW
open LP
set_option maxRecDepth 100000 in
set_option maxHeartbeats 2000000 in
theorem alive_c (w : World) (g : G w) : Calls Tryz.prog 7 #[] w fun e w' => e = .returned (.bool true) ∧ Below w.heap.size w w' := by
  have p1 := stores_p fixT w g
  rw [fixA] at p1
  have p2 := fun (W : World) (h : G W) => stores_p fixU W h
  rw [fixB] at p2
  have P1 := Lib.hid p1; have P2 := Lib.hid p2
  have FD := Lib.hid (fun (v : Value) (W : World) (h : StOut W v [([97, 108, 108], [46, 42], [(60, 60)])]) => find_p v (.slice none 0 0) [([97, 108, 108], [46, 42], [(60, 60)])] [] ⟨#[97, 46, 98]⟩ fix_fit (by decide) W h (FoOut.nil W))
  rw [fixC] at FD
  have GG := Lib.hid g
  simp only [fixT, fixU] at P1 P2
  clear p1 p2 g
  go_enter Tryz.func7, Tryz.ntmps7
  go_wp2_with fail
  refine P1.out.mono ?_; rintro _ w1 ⟨v1, rfl, h1, hb1⟩
  have F1 := Lib.hid (FD.out v1 w1 h1)
  obtain ⟨A1, c1, rfl, -, -⟩ := id h1
  have B1 := Lib.hid hb1
  simp only [List.length_cons, List.length_nil, Nat.zero_add] at F1
  clear h1 hb1 FD P1
  go_wp2_with fail
  refine F1.out.mono ?_; rintro _ w2 ⟨v2, rfl, ⟨A2, c2, rfl, h2⟩, hb2⟩
  have hb3 := alloc_below w2 (.cells #[.slice A2 1 c2, .int .i64 1, .int .i64 500000] 41)
  have v0 : (w2.alloc (.cells #[.slice A2 1 c2, .int .i64 1, .int .i64 500000] 41)).cell? ⟨w2.heap.size, 0, none⟩ = some (.slice A2 1 c2) := cell_of_row _ _ 0 _ _ (0, 0) (heap_alloc_new w2 _)
  have v1 : (w2.alloc (.cells #[.slice A2 1 c2, .int .i64 1, .int .i64 500000] 41)).cell? ⟨w2.heap.size, 1, none⟩ = some (.int .i64 1) := cell_of_row _ _ 1 _ _ (0, 0) (heap_alloc_new w2 _)
  have v2 : (w2.alloc (.cells #[.slice A2 1 c2, .int .i64 1, .int .i64 500000] 41)).cell? ⟨w2.heap.size, 2, none⟩ = some (.int .i64 500000) := cell_of_row _ _ 2 _ _ (0, 0) (heap_alloc_new w2 _)
  have B3 := Lib.hid (bnext B1.out (bnext hb2 hb3))
  have H2 := Lib.hid (h2.below hb3)
  have P3 := Lib.hid (P2.out _ (GG.out.below B3.out))
  clear hb2 hb3 h2 F1 P2
  go_wp2_with fail
  refine P3.out.mono ?_; rintro _ w4 ⟨v4, rfl, h4, hb4⟩
  obtain ⟨A4, c4, rfl, -, -⟩ := id h4
  have v0 := cellb hb4 v0
  have v1 := cellb hb4 v1
  have v2 := cellb hb4 v2
  have hb5 := alloc_below w4 (.cells #[.int .i64 60, .int .i64 60] 49)
  have SR := Lib.hid (RR.sameRungs_c (.slice A2 1 c2) (.slice (some ⟨w4.heap.size, 0, none⟩) 1 1) [(60, 60)] [(60, 60)] (by decide) (by decide) (w4.alloc (.cells #[.int .i64 60, .int .i64 60] 49)) (H2.out.below (bnext hb4 hb5)) (lit_rung w4 60 60))
  rw [show decide ([((60 : Int), (60 : Int))] = [(60, 60)]) = true from rfl] at SR
  have B5 := Lib.hid (bnext B3.out (bnext hb4 hb5))
  clear hb4 h4 hb5
  go_wp2_with (go_at_call 24; refine SR.out.mono ?_; rintro _ w6 ⟨rfl, hb6⟩)
  go_ret
  exact ⟨rfl, bnext B5.out hb6⟩
end LW
end Go.Proofs.YtodlgbihdehmbaaGreatDoor
/-
  Contracts of the document's own functions of layer 9: Found, what its walk wants.
-/
set_option linter.unusedSimpArgs false
set_option linter.unusedVariables false
namespace Go.Proofs.YtodlgbihdehmbaaGreatDoor.Nd.NR
open Go.RowKit
/-- A row of truths in a block. -/
structure BRow (w : World) (g n : Nat) (f : Nat → Bool) : Prop where
  lt : g < w.heap.size
  c : ∀ j, j < n → w.cell? ⟨g, j, none⟩ = some (.bool (f j))
  fz : ∀ j, j < n → w.frozen? ⟨g, j, none⟩ = false
theorem BRow.made {w w' : World} {n : Nat} (h : w'.ownsRow 0 4 1 (.slice (some ⟨w.heap.size, 0, none⟩) n n) n (madeCells (Value.bool false).cells (n * 1)).toList) (hn : 0 < n) : BRow w' w.heap.size n (fun _ => false) := by
  refine ⟨(World.ownsRow.lt h _ rfl).2, fun j hj => ?_, fun j hj => h.frozenAt j⟩
  rw [h.cellAt j (by omega)]
  rw [Nat.mul_one]
  have e : (Value.bool false).cells = #[.bool false] := rfl
  rw [e]
  unfold madeCells
  simp [hj, Nat.mod_one]
end Go.Proofs.YtodlgbihdehmbaaGreatDoor.Nd.NR
/-
  Contracts of the reference's functions of layer 12: names and numbers of methods, patterns, the same schemas.
-/
set_option linter.unusedSimpArgs false
set_option linter.unusedVariables false
namespace Go.Proofs.YtodlgbihdehmbaaGreatDoor.LR
open Go.RowKit Cf Cf.KR Cf.KP LP
set_option maxRecDepth 100000 in
theorem name_c (m : Int) (w : World) : Calls Tryz.prog 17 #[.int .i64 m] w fun e w' => e = .returned (.string (str (mName m))) ∧ w = w' := by
  by_cases h : 1 ≤ m ∧ m ≤ 5
  · obtain ⟨h1, h2⟩ := h
    rcases (show m = 1 ∨ m = 2 ∨ m = 3 ∨ m = 4 ∨ m = 5 by omega) with rfl | rfl | rfl | rfl | rfl <;>
    · go_enter Tryz.func17, Tryz.ntmps17
      go_wp2
      go_ret
      exact ⟨rfl, rfl⟩
  · have e1 : (m == 1) = false := beq_false_of_ne (by omega)
    have e2 : (m == 2) = false := beq_false_of_ne (by omega)
    have e3 : (m == 3) = false := beq_false_of_ne (by omega)
    have e4 : (m == 4) = false := beq_false_of_ne (by omega)
    have e5 : (m == 5) = false := beq_false_of_ne (by omega)
    rw [mName_far (by omega)]
    go_enter Tryz.func17, Tryz.ntmps17
    go_wp2
    go_ret
    exact ⟨rfl, rfl⟩
end Go.Proofs.YtodlgbihdehmbaaGreatDoor.LR
/-
  Contracts of the reference's functions of layer 12: a name's number, just keys of a list.
-/
set_option linter.unusedSimpArgs false
set_option linter.unusedVariables false
namespace Go.Proofs.YtodlgbihdehmbaaGreatDoor
open Cf Go.RowKit
theorem onlyV_no {ks : List (List Nat)} {l : List KV} {k : Nat} {p : KV} (hk : l[k]? = some p) (h : (ks.any fun k => p.1 == k) = false) : onlyV ks l = false := by
  unfold onlyV
  rw [Bool.eq_false_iff]
  intro e
  rw [List.all_eq_true] at e
  rw [e p (List.mem_of_getElem? hk)] at h
  cases h
theorem onlyV_all {ks : List (List Nat)} {l : List KV} (h : ∀ (k : Nat) (p : KV), k < l.length → l[k]? = some p → (ks.any fun k => p.1 == k) = true) : onlyV ks l = true := by
  unfold onlyV
  rw [List.all_eq_true]
  intro p hp
  obtain ⟨j, hj⟩ := List.getElem?_of_mem hp
  exact h j p (List.getElem?_eq_some_iff.1 hj).1 hj
theorem any_next {ks : List (List Nat)} {j : Nat} {key : List Nat} (f : List Nat → Bool) (h : ks[j]? = some key) : (ks.take (j + 1)).any f = ((ks.take j).any f || f key) := by
  rw [List.take_add_one, h, List.any_append]
  simp
theorem below_dn {B : Nat} {a w : World} (h : Below B a w) (k : Nat) : Below B a (w.drewN k) := ⟨h.os, h.tape, h.output, h.size, h.block⟩
namespace LR
open Go.RowKit Cf.KR Cf.KP LP
set_option maxRecDepth 100000 in
set_option maxHeartbeats 2000000 in
theorem method_c (nm : ByteArray) (w : World) : Calls Tryz.prog 13 #[.string nm] w fun e w' => e = .returned (.tuple #[.int .i64 (mNum (bs nm)).1, .bool (mNum (bs nm)).2]) ∧ Below w.heap.size w w' := by
  have NA := Lib.hid (fun (m : Int) (W : World) => name_c m W)
  go_enter Tryz.func13, Tryz.ntmps13
  go_wp2
  go_loopw [4] (fun i wr => ∃ k : Int, (1 ≤ k ∧ k ≤ 6) ∧ i = .int .i64 k ∧ Hid ((∀ m : Int, 1 ≤ m ∧ m < k → mName m ≠ bs nm) ∧ Below w.heap.size w wr)) (fun i _ => 6 - (intOf i).toNat)
  case atStart => exact ⟨1, by omega, rfl, fun m hm => by omega, Below.refl _ _⟩
  case round =>
    obtain ⟨k, ⟨hk1, hk2⟩, rfl, HI⟩ := hrel
    by_cases h5 : k ≤ 5
    · have N1 := Lib.hid (NA.out k wr)
      have CE := toList_str (mName_byt k) nm
      by_cases he : mName k = bs nm
      · rw [decide_eq_true he] at CE
        have HE := Lib.hid (mNum_at (m := k) ⟨hk1, h5⟩ he)
        generalize str (mName k) = X at *
        clear he
        go_wp2_with (go_at_call 17; refine N1.out.mono ?_; rintro _ w2 ⟨rfl, rfl⟩)
        go_ret2
        exact ⟨ret_ib (by rw [HE.out]) (by rw [HE.out]), HI.out.2⟩
      · rw [decide_eq_false he] at CE
        have NEXT := Lib.hid (show ∀ m : Int, 1 ≤ m ∧ m < k + 1 → mName m ≠ bs nm from fun m hm e => by
          by_cases h : m = k
          · rw [h] at e; exact he e
          · exact HI.out.1 m (by omega) e)
        generalize str (mName k) = X at *
        clear he
        go_wp2_with (go_at_call 17; refine N1.out.mono ?_; rintro _ w2 ⟨rfl, rfl⟩)
        go_roundw
        case rel => exact ⟨k + 1, by omega, by go_num, NEXT.out, HI.out.2⟩
        case measure => simp [intOf]; omega
    · have HE := Lib.hid (mNum_no (n := bs nm) (fun m hm => HI.out.1 m (by omega)))
      go_wp2
      go_ret2
      exact ⟨ret_ib (by rw [HE.out]) (by rw [HE.out]), HI.out.2⟩
set_option maxRecDepth 100000 in
set_option maxHeartbeats 4000000 in
theorem only_c (nm : ByteArray) (v vk : Value) (L : List KV) (ks : List (List Nat)) (hl : L.length ≤ 100000) (hL : ∀ x ∈ L, Byt x.1) (hq : ks.length ≤ 100000) (hkB : ∀ m ∈ ks, Byt m) (w : World) (f : KvOut w v L) (fk : TxOut w vk ks) :
    Calls Tryz.prog 29 #[.agg #[.string nm, v], vk] w fun e w' => e = .returned (.bool (onlyV ks L)) ∧ Below w.heap.size w w' := by
  obtain ⟨A, c, rfl, hc, hx⟩ := f
  obtain ⟨Ak, ck, rfl, hck, hxk⟩ := fk
  obtain ⟨n, hn⟩ : ∃ n, L.length = n := ⟨_, rfl⟩
  obtain ⟨q, hq1⟩ : ∃ q, ks.length = q := ⟨_, rfl⟩
  obtain ⟨d, hd⟩ : ∃ d, onlyV ks L = d := ⟨_, rfl⟩
  rw [hn] at hl hc
  rw [hq1] at hq hck
  rw [hn, hq1, hd]
  obtain ⟨k0, k1, -, -⟩ := two_new w (.string nm) (.slice A n c) 63
  obtain ⟨wb, hwb⟩ : ∃ wb, w.alloc (.cells #[.string nm, .slice A n c] 63) = wb := ⟨_, rfl⟩
  have hbw := alloc_below w (.cells #[.string nm, .slice A n c] 63)
  rw [hwb] at k0 k1 hbw
  have HX := Lib.hid hx; have HXK := Lib.hid hxk; have HN := Lib.hid hn; have HQ := Lib.hid hq1; have HD := Lib.hid hd; have HBW := Lib.hid hbw; have HLB := Lib.hid hL; have HKB := Lib.hid hkB
  have K1 := Lib.hid k1
  clear hx hxk hn hq1 hd hL hkB hbw k0 k1
  go_enter Tryz.func29, Tryz.ntmps29
  go_wp2
  (try rw [hwb])
  go_loopw [5] (fun i wr => ∃ k : Nat, i = .int .i64 (k : Nat) ∧ k ≤ n ∧ Hid ((∀ (j : Nat) (x : KV), j < k → L[j]? = some x → (ks.any fun m => x.1 == m) = true) ∧ Below wb.heap.size wb wr)) (fun i _ => n - (intOf i).toNat)
  case atStart => exact ⟨0, rfl, Nat.zero_le _, fun j x hj => absurd hj (Nat.not_lt_zero j), Below.refl _ _⟩
  case round =>
    obtain ⟨k, rfl, hk, HI⟩ := hrel
    have k1 := cellb HI.out.2 K1.out
    by_cases hlt : k < n
    · have hkl : k < L.length := by rw [HN.out]; exact hlt
      obtain ⟨bb, rfl, ha⟩ := HX.out (by intro e; rw [e] at hkl; exact absurd hkl (Nat.not_lt_zero _))
      have hp := List.getElem?_eq_getElem hkl
      obtain ⟨x, hxx⟩ : ∃ x, L[k] = x := ⟨_, rfl⟩
      rw [hxx] at hp
      have HP := Lib.hid hp
      have HA := Lib.hid ha
      have BX := Lib.hid (HLB.out x (List.mem_of_getElem? hp))
      clear hp hxx hkl ha
      go_wp2
      have HK1 := Lib.hid k1
      clear k1
      go_loopw [6, 7] (fun fv i wx => ∃ j : Nat, i = .int .i64 (j : Nat) ∧ j ≤ q ∧ fv = .bool ((ks.take j).any fun m => x.1 == m) ∧ Hid (Below wr.heap.size wr wx)) (fun _ i _ => q - (intOf i).toNat)
      case atStart => exact ⟨0, rfl, Nat.zero_le _, rfl, Below.refl _ _⟩
      case round =>
        obtain ⟨j, rfl, hj, rfl, HJ⟩ := hrel
        have k1 := cellb HJ.out HK1.out
        have HBX := Lib.hid (HI.out.2.trans (HJ.out.mono HI.out.2.size))
        obtain ⟨c0, c1⟩ := (HA.out.below (bnext HBW.out HBX.out)) k x HP.out
        by_cases hjl : j < q
        · have hjk : j < ks.length := by rw [HQ.out]; exact hjl
          obtain ⟨b2, rfl, ha2⟩ := HXK.out (by intro e; rw [e] at hjk; exact absurd hjk (Nat.not_lt_zero _))
          have hp2 := List.getElem?_eq_getElem hjk
          obtain ⟨y, hyy⟩ : ∃ y, ks[j] = y := ⟨_, rfl⟩
          rw [hyy] at hp2
          have d0 := (ha2.below (bnext HBW.out HBX.out)) j y hp2
          have CE := toList_str BX.out (str y)
          rw [bs_str (HKB.out y (List.mem_of_getElem? hp2))] at CE
          have NX := any_next (fun m => x.1 == m) hp2
          obtain ⟨fd, hfd⟩ : ∃ fd, ((ks.take j).any fun m => x.1 == m) = fd := ⟨_, rfl⟩
          obtain ⟨g, hg⟩ : ∃ g, decide (x.1 = y) = g := ⟨_, rfl⟩
          rw [show (x.1 == y) = g from (Bool.eq_iff_iff.2 (by rw [beq_iff_eq, ← hg, decide_eq_true_eq])), hfd] at NX
          rw [hg] at CE
          rw [hfd]
          have NX2 := Lib.hid NX
          generalize str x.1 = X at *
          generalize str y = Y at *
          clear NX hfd hg hp2 hyy ha2 hjk
          cases fd <;> cases g <;>
          · go_wp2
            go_quiet (fail)
            go_wp2
            go_roundw
            case rel => exact ⟨j + 1, by go_num, by omega, by rw [NX2.out]; rfl, below_dn HJ.out _⟩
            case measure => simp [intOf]; omega
        · obtain rfl : j = q := by omega
          have hall : ks.take j = ks := List.take_of_length_le (by rw [HQ.out]; exact Nat.le_refl _)
          rw [hall]
          obtain ⟨fd, hfd⟩ : ∃ fd, (ks.any fun m => x.1 == m) = fd := ⟨_, rfl⟩
          rw [hfd]
          have HF := Lib.hid hfd
          generalize str x.1 = X at *
          clear hfd hall
          cases fd
          · have HE := Lib.hid (HD.out.symm.trans (onlyV_no HP.out HF.out))
            go_wp2
            go_ret
            exact ⟨ret_b HE.out.symm, bnext HBW.out HBX.out⟩
          · have NEXT := Lib.hid (show ∀ (i : Nat) (y : KV), i < k + 1 → L[i]? = some y → (ks.any fun m => y.1 == m) = true from fun i y hi hy => by
              by_cases e : i = k
              · rw [e, HP.out] at hy
                obtain rfl := Option.some.inj hy
                exact HF.out
              · exact HI.out.1 i y (by omega) hy)
            go_wp2
            go_roundw
            case rel => exact ⟨k + 1, by go_num, by omega, NEXT.out, HBX.out⟩
            case measure => simp [intOf]; omega
    · obtain rfl : n = k := by omega
      have HE := Lib.hid (HD.out.symm.trans (onlyV_all (by rw [HN.out]; exact HI.out.1)))
      go_wp2
      go_ret
      exact ⟨ret_b HE.out.symm, bnext HBW.out HI.out.2⟩
end LR
end Go.Proofs.YtodlgbihdehmbaaGreatDoor
/-
  Contracts of the reference's functions of layer 12: the same stores, the same folds.
-/
set_option linter.unusedSimpArgs false
set_option linter.unusedVariables false
namespace Go.Proofs.YtodlgbihdehmbaaGreatDoor.LR
open Go.RowKit Cf Cf.KR Cf.KP LP
theorem held_6 {x y : World} {p1 p2 p3 p4 p5 p6 : Addr} {v1 v2 v3 v4 v5 v6 : Value} (h : x.cell? p1 = some v1 ∧ x.cell? p2 = some v2 ∧ x.cell? p3 = some v3 ∧ x.cell? p4 = some v4 ∧ x.cell? p5 = some v5 ∧ x.cell? p6 = some v6) (hb : Below x.heap.size x y) :
    y.cell? p1 = some v1 ∧ y.cell? p2 = some v2 ∧ y.cell? p3 = some v3 ∧ y.cell? p4 = some v4 ∧ y.cell? p5 = some v5 ∧ y.cell? p6 = some v6 := by
  obtain ⟨h1, h2, h3, h4, h5, h6⟩ := h
  have k : ∀ {p : Addr} {v : Value}, x.cell? p = some v → y.cell? p = some v := fun e => (hb.cell (World.block_lt_of_cell? x _ e)).trans e
  exact ⟨k h1, k h2, k h3, k h4, k h5, k h6⟩
set_option maxRecDepth 100000 in
set_option maxHeartbeats 4000000 in
theorem sameFolds_c (v1 v2 : Value) (D : List Fol) (hl : D.length ≤ 100000) (w : World) (f1 : FoOut w v1 D) (f2 : FoOut w v2 D) :
    Calls Tryz.prog 15 #[v1, v2] w fun e w' => e = .returned (.bool true) ∧ Below w.heap.size w w' := by
  obtain ⟨A1, c1, rfl, hc1, x1⟩ := f1
  obtain ⟨A2, c2, rfl, hc2, x2⟩ := f2
  obtain ⟨n, hn⟩ : ∃ n, D.length = n := ⟨_, rfl⟩
  rw [hn] at hl hc1 hc2
  rw [hn]
  have X1 := Lib.hid x1; have X2 := Lib.hid x2; have HN := Lib.hid hn
  clear x1 x2 hn
  go_enter Tryz.func15, Tryz.ntmps15
  go_wp2
  go_loopw [5] (fun i wr => ∃ k : Nat, k ≤ n ∧ i = .int .i64 k ∧ Hid (Below w.heap.size w wr)) (fun i _ => n - (intOf i).toNat)
  case atStart => exact ⟨0, Nat.zero_le _, rfl, Below.refl _ _⟩
  case round =>
    obtain ⟨k, hk, rfl, HI⟩ := hrel
    by_cases hlt : k < n
    · have hl1 : k < D.length := by rw [HN.out]; exact hlt
      obtain ⟨b1, o1, rfl, a1⟩ := X1.out (by intro h; rw [h] at hl1; exact absurd hl1 (Nat.not_lt_zero _))
      obtain ⟨b2, o2, rfl, a2⟩ := X2.out (by intro h; rw [h] at hl1; exact absurd hl1 (Nat.not_lt_zero _))
      have e1 := List.getElem?_eq_getElem hl1
      obtain ⟨⟨p1, p2, p3, p4⟩, hp⟩ : ∃ p, D[k] = p := ⟨_, rfl⟩
      rw [hp] at e1
      obtain ⟨-, y1, y2, y3, y4⟩ := (a1.below HI.out) k _ e1
      obtain ⟨-, z1, z2, z3, z4⟩ := (a2.below HI.out) k _ e1
      simp only at y1 y2 y3 y4 z1 z2 z3 z4
      generalize str p1 = S1 at *
      generalize str p2 = S2 at *
      clear e1 hp a1 a2 hl1
      go_wp2
      go_quiet (fail)
      go_wp2
      go_roundw
      case rel => exact ⟨k + 1, by omega, by go_num, below_dn HI.out _⟩
      case measure => simp [intOf]; omega
    · obtain rfl : k = n := by omega
      go_wp2
      go_ret
      exact ⟨rfl, HI.out⟩
set_option maxRecDepth 100000 in
set_option maxHeartbeats 8000000 in
theorem sameStores_c (v1 v2 : Value) (D : List Sto) (hl : D.length ≤ 100000) (hr : ∀ s ∈ D, s.2.2.length ≤ 100000) (w : World) (f1 : StOut w v1 D) (f2 : StOut w v2 D) :
    Calls Tryz.prog 14 #[v1, v2] w fun e w' => e = .returned (.bool true) ∧ Below w.heap.size w w' := by
  obtain ⟨A1, c1, rfl, hc1, x1⟩ := f1
  obtain ⟨A2, c2, rfl, hc2, x2⟩ := f2
  obtain ⟨n, hn⟩ : ∃ n, D.length = n := ⟨_, rfl⟩
  rw [hn] at hl hc1 hc2
  rw [hn]
  have X1 := Lib.hid x1; have X2 := Lib.hid x2; have HN := Lib.hid hn; have HR := Lib.hid hr
  clear x1 x2 hn hr
  go_enter Tryz.func14, Tryz.ntmps14
  go_wp2
  go_loopw [5] (fun i wr => ∃ k : Nat, k ≤ n ∧ i = .int .i64 k ∧ Hid (Below w.heap.size w wr)) (fun i _ => n - (intOf i).toNat)
  case atStart => exact ⟨0, Nat.zero_le _, rfl, Below.refl _ _⟩
  case round =>
    obtain ⟨k, hk, rfl, HI⟩ := hrel
    by_cases hlt : k < n
    · have hl1 : k < D.length := by rw [HN.out]; exact hlt
      obtain ⟨b1, o1, rfl, a1⟩ := X1.out (by intro h; rw [h] at hl1; exact absurd hl1 (Nat.not_lt_zero _))
      obtain ⟨b2, o2, rfl, a2⟩ := X2.out (by intro h; rw [h] at hl1; exact absurd hl1 (Nat.not_lt_zero _))
      have e1 := List.getElem?_eq_getElem hl1
      obtain ⟨⟨p1, p2, p3⟩, hp⟩ : ∃ p, D[k] = p := ⟨_, rfl⟩
      rw [hp] at e1
      have hlen := HR.out _ (List.mem_of_getElem? e1)
      obtain ⟨-, u1, y1, y2, y3, y4⟩ := (a1.below HI.out) k _ e1
      obtain ⟨-, u2, z1, z2, z3, z4⟩ := (a2.below HI.out) k _ e1
      simp only at y1 y2 y3 y4 z1 z2 z3 z4 hlen
      have SR := fun (W : World) (h : Below wr.heap.size wr W) => RR.sameRungs_c u1 u2 p3 p3 hlen hlen W (y4.below h) (z4.below h)
      simp only [decide_true] at SR
      obtain ⟨B1, d1, rfl, -, -⟩ := id y4
      obtain ⟨B2, d2, rfl, -, -⟩ := id z4
      have S2 := Lib.hid SR
      generalize p3.length = m at *
      generalize str p1 = S1 at *
      generalize str p2 = T2 at *
      clear e1 hp a1 a2 hl1 hlen y4 z4 SR
      go_wp2_with fail
      go_region_held3 (fun y => y.cell? ⟨b1, o1 + k * 3, none⟩ = some (.string S1) ∧ y.cell? ⟨b1, o1 + k * 3 + 1, none⟩ = some (.string T2) ∧ y.cell? ⟨b1, o1 + k * 3 + 2, none⟩ = some (.slice B1 m d1) ∧ y.cell? ⟨b2, o2 + k * 3, none⟩ = some (.string S1) ∧ y.cell? ⟨b2, o2 + k * 3 + 1, none⟩ = some (.string T2) ∧ y.cell? ⟨b2, o2 + k * 3 + 2, none⟩ = some (.slice B2 m d2))
        (first | go_keep | (refine held_6 ?_ (by assumption); assumption))
        (first
          | (go_at_call 24; refine (S2.out _ (by first | exact Below.refl _ _ | exact (Below.refl _ _).drew)).mono ?_; rintro _ w3 ⟨rfl, hb3⟩))
      go_wp2
      go_roundw
      case rel => exact ⟨k + 1, by omega, by go_num, bnext HI.out.drew hb3⟩
      case measure => simp [intOf]; omega
    · obtain rfl : k = n := by omega
      go_wp2
      go_ret
      exact ⟨rfl, HI.out⟩
end Go.Proofs.YtodlgbihdehmbaaGreatDoor.LR
/-
  Contracts of the reference's functions of layer 12: Stores.
-/
set_option linter.unusedSimpArgs false
set_option linter.unusedVariables false
namespace Go.Proofs.YtodlgbihdehmbaaGreatDoor.LR
open Go.RowKit Cf Cf.KR Cf.KP LP
theorem stoV_if (x : Sec) {g1 g2 od : Bool} (h1 : (getV x.2 patB).isSome = g1) (h2 : (getV x.2 retB).isSome = g2) (h3 : onlyV [patB, retB] x.2 = od) : stoV x =
    if g1 = true ∧ g2 = true ∧ od = true then (if (Nd.ndComp ((getV x.2 patB).getD [])).2 ≠ 0 then (Sto.none, (Nd.ndComp ((getV x.2 patB).getD [])).2)
    else if (parseV ((getV x.2 retB).getD [])).2 ≠ 0 then (Sto.none, (parseV ((getV x.2 retB).getD [])).2)
    else ((x.1, (getV x.2 patB).getD [], (parseV ((getV x.2 retB).getD [])).1), 0)) else (Sto.none, 7) := by
  subst h1 h2 h3; rfl
set_option maxRecDepth 100000 in
set_option maxHeartbeats 8000000 in
theorem stores_c (s : ByteArray) (hs : s.size ≤ 100000) (w : World) :
    Calls Tryz.prog 9 #[.string s] w fun e w' => ∃ v, e = .returned (.tuple #[v, .int .i64 (storesV (bs s)).2]) ∧ StOut w' v (storesV (bs s)).1 ∧ Below w.heap.size w w' := by
  have PC := KR.parse_c s hs w
  have OKS := conf_ok (l := bs s) (bs_small s)
  have SE := fun (k : Nat) (x : Sec) => @stores_err (bs s) k x
  have SO := @stores_ok (bs s)
  have SZ : (confV (bs s)).2 ≠ 0 → storesV (bs s) = ([], (confV (bs s)).2) := fun h => by unfold storesV; rw [if_pos h]
  have FEW := (conf_few (bs s)).secs
  obtain ⟨⟨L, E⟩, hC⟩ : ∃ C, confV (bs s) = C := ⟨_, rfl⟩
  rw [hC] at PC OKS SE SO SZ FEW
  obtain ⟨⟨D, Z⟩, hD⟩ : ∃ D, storesV (bs s) = D := ⟨_, rfl⟩
  rw [hD] at SE SO SZ ⊢
  simp only at PC OKS SE SO SZ FEW ⊢
  clear hC hD
  obtain ⟨n, hn⟩ : ∃ n, L.length = n := ⟨_, rfl⟩
  rw [hn] at FEW
  obtain ⟨i0, hi0, hz0, hz1, hz2⟩ := info_parts store_info
  have PCC := Lib.hid PC; have HOK := Lib.hid OKS; have HSE := Lib.hid SE; have HSO := Lib.hid SO; have HSZ := Lib.hid SZ; have HN := Lib.hid hn
  clear PC OKS SE SO SZ hn
  go_enter Tryz.func9, Tryz.ntmps9
  go_wp2_with fail
  refine PCC.out.mono ?_; rintro _ w1 ⟨v, rfl, hv, hb1⟩
  obtain ⟨AL, cL, rfl, hcL, hxL⟩ := id hv
  have HV := Lib.hid hv; have HXL := Lib.hid hxL; have HB1 := Lib.hid hb1
  rw [HN.out] at hcL HV ⊢
  clear hv hxL hb1 PCC
  by_cases h0 : E = 0
  · subst h0
    clear HSZ
    go_wp2
    go_loopw [7, 6] (fun i o wr => ∃ k : Nat, i = .int .i64 (k : Nat) ∧ k ≤ n ∧ ((∀ y ∈ L.take k, (stoV y).2 = 0) ∧ StNew w1.heap.size wr o (stsV (L.take k)) ∧ Below w1.heap.size w1 wr)) (fun i _ _ => n - (intOf i).toNat)
    case atStart => exact ⟨0, rfl, Nat.zero_le _, fun y hy => (by simp at hy), StNew.nil _ _, Below.refl _ _⟩
    case round =>
      obtain ⟨k, rfl, hk, hz, hst, hbw⟩ := hrel
      have hlen : (stsV (L.take k)).length = k := by unfold stsV; rw [List.length_map, List.length_take, HN.out]; omega
      obtain ⟨AO, cO, rfl, hcO, hown⟩ := hst.form
      rw [hlen] at hcO hst hown ⊢
      have HZ := Lib.hid hz; have HST := Lib.hid hst; have HBW := Lib.hid hbw; have HOW := Lib.hid hown; have HLEN := Lib.hid hlen
      have HW := Lib.hid (bnext HB1.out hbw)
      clear hz hst hown hlen
      by_cases hlt : k < n
      · have hkl : k < L.length := by rw [HN.out]; exact hlt
        obtain ⟨bb, rfl, ha⟩ := HXL.out (by intro e; rw [e] at hkl; exact absurd hkl (Nat.not_lt_zero _))
        have hp := List.getElem?_eq_getElem hkl
        obtain ⟨⟨nm, kv⟩, hxx⟩ : ∃ x, L[k] = x := ⟨_, rfl⟩
        rw [hxx] at hp
        obtain ⟨u, c0, c1, hkv⟩ := (ha.below hbw) k (nm, kv) hp
        have OK := HOK.out (nm, kv) (List.mem_of_getElem? hp)
        have few := OK.few
        simp only at few c0 hkv
        have HP := Lib.hid hp
        have GP := fun (W : World) (h : Below wr.heap.size wr W) => KR.get_c (str nm) u kv (by omega) (fun x hx => (OK.kv x hx).1) (str patB) W (hkv.below h)
        rw [bs_str (by unfold Byt patB; decide : Byt patB)] at GP
        have GR := fun (W : World) (h : Below wr.heap.size wr W) => KR.get_c (str nm) u kv (by omega) (fun x hx => (OK.kv x hx).1) (str retB) W (hkv.below h)
        rw [bs_str (by unfold Byt retB; decide : Byt retB)] at GR
        have ONLY := fun (vk : Value) (W : World) (h : Below wr.heap.size wr W) (hk : TxOut W vk [patB, retB]) => only_c (str nm) u vk kv [patB, retB] (by omega) (fun x hx => (OK.kv x hx).1) (by decide) (by unfold Byt patB retB; decide) W (hkv.below h) hk
        have COMP := fun (W : World) => Nd.NR.compile_c (str ((getV kv patB).getD [])) (by rw [str_size]; have := (OK.val patB).2; simp only at this; omega) W
        rw [bs_str (OK.val patB).1] at COMP
        have PARS := fun (W : World) => RR.parse_n (str ((getV kv retB).getD [])) (by rw [str_size]; have := (OK.val retB).2; simp only at this; omega) W
        rw [bs_str (OK.val retB).1] at PARS
        have BYT : Byt nm ∧ Byt ((getV kv patB).getD []) := ⟨OK.nm, (OK.val patB).1⟩
        obtain ⟨A1, c1', rfl, -, -⟩ := id hkv
        obtain ⟨gd1, hg1⟩ : ∃ gd, (getV kv patB).isSome = gd := ⟨_, rfl⟩
        obtain ⟨gd2, hg2⟩ : ∃ gd, (getV kv retB).isSome = gd := ⟨_, rfl⟩
        obtain ⟨od, hod⟩ : ∃ od, onlyV [patB, retB] kv = od := ⟨_, rfl⟩
        have SV := stoV_if (nm, kv) hg1 hg2 hod
        simp only at SV
        rw [hg1] at GP; rw [hg2] at GR; rw [hod] at ONLY
        generalize kv.length = m at *
        obtain ⟨pt, hpt⟩ : ∃ pt, (getV kv patB).getD [] = pt := ⟨_, rfl⟩
        obtain ⟨rt, hrt⟩ : ∃ rt, (getV kv retB).getD [] = rt := ⟨_, rfl⟩
        obtain ⟨PT, hPT⟩ : ∃ PT, str pt = PT := ⟨_, rfl⟩
        obtain ⟨RT, hRT⟩ : ∃ RT, str rt = RT := ⟨_, rfl⟩
        obtain ⟨NM, hNM⟩ : ∃ NM, str nm = NM := ⟨_, rfl⟩
        rw [hpt] at GP COMP SV BYT
        rw [hrt] at GR PARS SV
        obtain ⟨⟨R, E2⟩, hR⟩ : ∃ R, parseV rt = R := ⟨_, rfl⟩
        obtain ⟨E1, hE1⟩ : ∃ E1, (Nd.ndComp pt).2 = E1 := ⟨_, rfl⟩
        rw [hE1] at COMP SV
        rw [hR] at PARS SV
        rw [hPT] at GP COMP
        rw [hRT] at GR PARS
        rw [hNM] at GP GR ONLY c0
        simp only at PARS SV
        have G1 := Lib.hid GP; have G2 := Lib.hid GR; have O2 := Lib.hid ONLY; have C2 := Lib.hid COMP; have P2 := Lib.hid PARS; have S2 := Lib.hid SV; have B2 := Lib.hid BYT
        have HPT := Lib.hid hPT; have HNM := Lib.hid hNM
        clear GP GR ONLY COMP PARS SV BYT hPT hRT hNM hpt hrt hR hE1 hg1 hg2 hod hp hxx ha hkl hkv few OK
        have ERR := Lib.hid (fun (e : Int) (h : stoV (nm, kv) = (Sto.none, e)) (he : e ≠ 0) => (show D = [] ∧ Z = e from by
          have := HSE.out k (nm, kv) trivial HP.out HZ.out (by rw [h]; exact he)
          rw [h] at this
          exact ⟨congrArg Prod.fst this, congrArg Prod.snd this⟩))
        cases gd1
        · have F := Lib.hid (ERR.out 7 (S2.out.trans (if_neg (by simp))) (by decide))
          clear HSE HSO HOK ERR C2 P2 O2 HST HZ S2
          go_wp2_with fail
          refine (G1.out wr (Below.refl _ _)).mono ?_; rintro _ w2 ⟨rfl, hb2⟩
          have v0 := cellb hb2 c0; have v1 := cellb hb2 c1; have BB2 := Lib.hid hb2
          clear hb2 c0 c1
          go_wp2_with fail
          refine (G2.out w2 BB2.out).mono ?_; rintro _ w3 ⟨rfl, hb3⟩
          have v0 := cellb hb3 v0; have v1 := cellb hb3 v1; have BB3 := Lib.hid (bnext BB2.out hb3)
          clear hb3
          go_wp2
          go_ret2
          exact ⟨_, ret_vi F.out.2.symm, by rw [F.out.1]; exact StOut.nil _, bnext HW.out BB3.out⟩
        · cases gd2
          · have F := Lib.hid (ERR.out 7 (S2.out.trans (if_neg (by simp))) (by decide))
            clear HSE HSO HOK ERR C2 P2 O2 HST HZ S2
            go_wp2_with fail
            refine (G1.out wr (Below.refl _ _)).mono ?_; rintro _ w2 ⟨rfl, hb2⟩
            have v0 := cellb hb2 c0; have v1 := cellb hb2 c1; have BB2 := Lib.hid hb2
            clear hb2 c0 c1
            go_wp2_with fail
            refine (G2.out w2 BB2.out).mono ?_; rintro _ w3 ⟨rfl, hb3⟩
            have v0 := cellb hb3 v0; have v1 := cellb hb3 v1; have BB3 := Lib.hid (bnext BB2.out hb3)
            clear hb3
            go_wp2
            go_ret2
            exact ⟨_, ret_vi F.out.2.symm, by rw [F.out.1]; exact StOut.nil _, bnext HW.out BB3.out⟩
          · have LST := Lib.hid (fun (W : World) (h : Below wr.heap.size wr W) => O2.out (.slice (some ⟨W.heap.size, 0, none⟩) 2 2) (W.alloc (.cells #[.string (str patB), .string (str retB)] 9)) (bnext h (alloc_below _ _)) (tx_new W [patB, retB] (by decide) 9))
            have e1 : str patB = ⟨#[112, 97, 116, 116, 101, 114, 110]⟩ := rfl
            have e2 : str retB = ⟨#[114, 101, 116, 101, 110, 116, 105, 111, 110, 115]⟩ := rfl
            rw [e1, e2] at LST
            clear e1 e2 O2
            cases od
            · have F := Lib.hid (ERR.out 7 (S2.out.trans (if_neg (by simp))) (by decide))
              clear HSE HSO HOK ERR C2 P2 HST HZ S2
              go_wp2_with fail
              refine (G1.out wr (Below.refl _ _)).mono ?_; rintro _ w2 ⟨rfl, hb2⟩
              have v0 := cellb hb2 c0; have v1 := cellb hb2 c1; have BB2 := Lib.hid hb2
              clear hb2 c0 c1
              go_wp2_with fail
              refine (G2.out w2 BB2.out).mono ?_; rintro _ w3 ⟨rfl, hb3⟩
              have v0 := cellb hb3 v0; have v1 := cellb hb3 v1; have BB3 := Lib.hid (bnext BB2.out hb3)
              clear hb3
              go_wp2_with fail
              refine (LST.out w3 BB3.out).mono ?_; rintro _ w4 ⟨rfl, hb4⟩
              have BB4 := Lib.hid (bnext (bnext BB3.out (alloc_below _ _)) hb4)
              go_wp2
              go_ret2
              exact ⟨_, ret_vi F.out.2.symm, by rw [F.out.1]; exact StOut.nil _, bnext HW.out BB4.out⟩
            · have S3 := Lib.hid (S2.out.trans (if_pos ⟨rfl, rfl, rfl⟩))
              clear S2
              by_cases h1 : E1 = 0
              · subst h1
                by_cases h2 : E2 = 0
                · subst h2
                  have HV2 := Lib.hid (show stoV (nm, kv) = ((nm, pt, R), 0) from S3.out.trans ((if_neg (fun h => h rfl)).trans (if_neg (fun h => h rfl))))
                  have NEXT := Lib.hid (show (∀ y ∈ L.take (k + 1), (stoV y).2 = 0) ∧ stsV (L.take (k + 1)) = stsV (L.take k) ++ [(nm, pt, R)] from by
                    rw [List.take_add_one, HP.out]
                    simp only [Option.toList_some]
                    refine ⟨fun y hy => ?_, ?_⟩
                    · rcases List.mem_append.1 hy with hy | hy
                      · exact HZ.out y hy
                      · rw [List.mem_singleton.1 hy, HV2.out]
                    · unfold stsV
                      rw [List.map_append, List.map_cons, List.map_nil, HV2.out])
                  have PUSH := Lib.hid (fun (W1 : World) (N : Nat) (A4 : Option Addr) (n4 c4 : Nat) (h : Below wr.heap.size wr W1) (hN : wr.heap.size ≤ N) (hu : RgNew N W1 (.slice A4 n4 c4) R) =>
                    (show ∃ xs, W1.ownsRow w1.heap.size 47 3 (.slice AO k cO) k xs ∧ ∀ (g cap : Nat) (w2 : World), w2.ownsRow w1.heap.size 47 3 (.slice (some ⟨g, 0, none⟩) (k + 1) cap) (k + 1) (xs ++ [.string NM, .string PT, .slice A4 n4 c4]) → W1.grownBy w2 (Value.ownBlock (.slice AO k cO)) → (Value.ownBlock (.slice AO k cO) = some g ∨ g = W1.heap.size) → StNew w1.heap.size w2 (.slice (some ⟨g, 0, none⟩) (k + 1) cap) (stsV (L.take (k + 1))) ∧ Below w1.heap.size w1 w2 from by
                      have hz := StNew.push (w1 := W1) (w2 := W1) (u := .slice A4 n4 c4) (s := (nm, pt, R)) HST.out h B2.out (hu.far fun g hg => Nat.lt_of_lt_of_le (HOW.out g hg).2 hN)
                      rw [HLEN.out] at hz
                      obtain ⟨xs, hr, hf⟩ := hz
                      refine ⟨xs, hr, fun g cap w2 ho hg hat => ⟨?_, ?_⟩⟩
                      · rw [NEXT.out.2]
                        exact hf g cap w2 (by rw [HNM.out, HPT.out]; exact ho) hg (hat.imp id fun e => Nat.le_of_eq e.symm)
                      · exact (HBW.out.trans (h.mono HBW.out.size)).grown hg (Nat.le_trans HBW.out.size h.size) (fun j ej => (HOW.out j ej).1)))
                  clear HSE HSO HOK S3 ERR HST HZ
                  go_wp2_with fail
                  refine (G1.out wr (Below.refl _ _)).mono ?_; rintro _ w2 ⟨rfl, hb2⟩
                  have v0 := cellb hb2 c0; have v1 := cellb hb2 c1; have BB2 := Lib.hid hb2
                  clear hb2 c0 c1
                  go_wp2_with fail
                  refine (G2.out w2 BB2.out).mono ?_; rintro _ w3 ⟨rfl, hb3⟩
                  have v0 := cellb hb3 v0; have v1 := cellb hb3 v1; have BB3 := Lib.hid (bnext BB2.out hb3)
                  clear hb3
                  go_wp2_with fail
                  refine (LST.out w3 BB3.out).mono ?_; rintro _ w4 ⟨rfl, hb4⟩
                  have hbq := bnext (alloc_below w3 (.cells #[.string ⟨#[112, 97, 116, 116, 101, 114, 110]⟩, .string ⟨#[114, 101, 116, 101, 110, 116, 105, 111, 110, 115]⟩] 9)) hb4
                  have v0 := cellb hbq v0; have v1 := cellb hbq v1; have BB4 := Lib.hid (bnext BB3.out hbq)
                  clear hb4 hbq
                  go_wp2_with fail
                  refine (C2.out w4).mono ?_; rintro _ w5 ⟨nv, rfl, hnv, -, -, hb5⟩
                  obtain ⟨s1, f1, A5, n5, c5, rfl⟩ := needle_form hnv
                  have hbq := bnext hb5 (alloc_below w5 (.cells #[.bool s1, .bool f1, .slice A5 n5 c5] 67))
                  have v0 := cellb hbq v0; have v1 := cellb hbq v1; have BB5 := Lib.hid (bnext BB4.out hbq)
                  clear hb5 hbq hnv
                  go_wp2_with fail
                  refine (P2.out _).mono ?_; rintro _ w6 ⟨rv, rfl, hrv, hb6⟩
                  obtain ⟨A6, c6, rfl, -⟩ := hrv.form
                  have v0 := cellb hb6 v0; have v1 := cellb hb6 v1; have BB6 := Lib.hid (bnext BB5.out hb6)
                  have HRV := Lib.hid hrv
                  clear hrv hb6
                  obtain ⟨n6, hn6⟩ : ∃ n6, R.length = n6 := ⟨_, rfl⟩
                  rw [hn6] at HRV ⊢
                  clear hn6
                  have BD := Lib.hid (alloc_below w6 (.cells #[.string NM, .string PT, .slice A6 n6 c6] 47))
                  have PU := Lib.hid (PUSH.out (w6.alloc (.cells #[.string NM, .string PT, .slice A6 n6 c6] 47)) _ A6 n6 c6 (bnext BB6.out BD.out) BB5.out.size (HRV.out.below BD.out))
                  have NEWS := Lib.hid (row_newsd w6 [.string NM, .string PT, .slice A6 n6 c6] 47 w6.heap.size rfl)
                  have HBS := Lib.hid (Nat.le_trans HBW.out.size (bnext BB6.out BD.out).size)
                  go_wp2_with (at_builtin; obtain ⟨xs, hrow, hfin⟩ := PU.out; refine wpList_append_lies _ rfl (.tmp 76) (.tmp 85) _ rfl w1.heap.size 47 i0 (.agg #[.string ⟨#[]⟩, .string ⟨#[]⟩, .slice none 0 0]) 3 56 Tryz.underlying23 hi0 hz0 hz1 hz2 rfl (by decide) (.slice AO k cO) k xs rfl hrow ⟨w6.heap.size, 0, none⟩ 1 1 [.string NM, .string PT, .slice A6 n6 c6] rfl rfl NEWS.out (by simp [Value.oneCell']) (by decide) (by simp only [maxLen]; omega) (by omega) HBS.out _ rfl ?_; intro g9 cap9 w9 hown9 hg9 hat9 hlt9; have FN := Lib.hid (hfin g9 cap9 w9 hown9 hg9 hat9); clear hown9 hg9 hat9 hlt9 hfin hrow)
                  go_roundw
                  case rel => exact ⟨k + 1, by go_num, by omega, NEXT.out.1, FN.out.1, FN.out.2⟩
                  case measure => simp [intOf]; omega
                · have F := Lib.hid (ERR.out E2 (S3.out.trans ((if_neg (by decide)).trans (if_pos h2))) h2)
                  have h3 : (E2 != 0) = true := by simpa using h2
                  clear HSE HSO HOK S3 ERR HST HZ
                  go_wp2_with fail
                  refine (G1.out wr (Below.refl _ _)).mono ?_; rintro _ w2 ⟨rfl, hb2⟩
                  have v0 := cellb hb2 c0; have v1 := cellb hb2 c1; have BB2 := Lib.hid hb2
                  clear hb2 c0 c1
                  go_wp2_with fail
                  refine (G2.out w2 BB2.out).mono ?_; rintro _ w3 ⟨rfl, hb3⟩
                  have v0 := cellb hb3 v0; have v1 := cellb hb3 v1; have BB3 := Lib.hid (bnext BB2.out hb3)
                  clear hb3
                  go_wp2_with fail
                  refine (LST.out w3 BB3.out).mono ?_; rintro _ w4 ⟨rfl, hb4⟩
                  have BB4 := Lib.hid (bnext (bnext BB3.out (alloc_below _ _)) hb4)
                  clear hb4
                  go_wp2_with fail
                  refine (C2.out w4).mono ?_; rintro _ w5 ⟨nv, rfl, hnv, -, -, hb5⟩
                  obtain ⟨s1, f1, A5, n5, c5, rfl⟩ := needle_form hnv
                  have BB5 := Lib.hid (bnext BB4.out (bnext hb5 (alloc_below w5 (.cells #[.bool s1, .bool f1, .slice A5 n5 c5] 67))))
                  clear hb5 hnv
                  go_wp2_with fail
                  refine (P2.out _).mono ?_; rintro _ w6 ⟨rv, rfl, hrv, hb6⟩
                  obtain ⟨A6, c6, rfl, -⟩ := hrv.form
                  clear hrv
                  go_wp2
                  go_ret2
                  exact ⟨_, ret_vi F.out.2.symm, by rw [F.out.1]; exact StOut.nil _, bnext HW.out (bnext BB5.out hb6)⟩
              · have F := Lib.hid (ERR.out E1 (S3.out.trans (if_pos h1)) h1)
                have h3 : (E1 != 0) = true := by simpa using h1
                clear HSE HSO HOK S3 ERR HST HZ P2
                go_wp2_with fail
                refine (G1.out wr (Below.refl _ _)).mono ?_; rintro _ w2 ⟨rfl, hb2⟩
                have v0 := cellb hb2 c0; have v1 := cellb hb2 c1; have BB2 := Lib.hid hb2
                clear hb2 c0 c1
                go_wp2_with fail
                refine (G2.out w2 BB2.out).mono ?_; rintro _ w3 ⟨rfl, hb3⟩
                have v0 := cellb hb3 v0; have v1 := cellb hb3 v1; have BB3 := Lib.hid (bnext BB2.out hb3)
                clear hb3
                go_wp2_with fail
                refine (LST.out w3 BB3.out).mono ?_; rintro _ w4 ⟨rfl, hb4⟩
                have BB4 := Lib.hid (bnext (bnext BB3.out (alloc_below _ _)) hb4)
                clear hb4
                go_wp2_with fail
                refine (C2.out w4).mono ?_; rintro _ w5 ⟨nv, rfl, hnv, -, -, hb5⟩
                obtain ⟨s1, f1, A5, n5, c5, rfl⟩ := needle_form hnv
                have BB5 := Lib.hid (bnext BB4.out (bnext hb5 (alloc_below w5 (.cells #[.bool s1, .bool f1, .slice A5 n5 c5] 67))))
                clear hb5 hnv
                go_wp2
                go_ret2
                exact ⟨_, ret_vi F.out.2.symm, by rw [F.out.1]; exact StOut.nil _, bnext HW.out BB5.out⟩
      · obtain rfl : n = k := by omega
        have HE := Lib.hid (HSO.out trivial (by rw [← HN.out, List.take_length] at HZ; exact HZ.out))
        have HS2 := Lib.hid (show StNew w1.heap.size wr (.slice AO n cO) D from by
          have h := HST.out
          rw [← HN.out, List.take_length] at h
          rw [HN.out, show stsV L = D from (congrArg Prod.fst HE.out).symm] at h
          exact h)
        have e2 := congrArg Prod.snd HE.out
        simp only at e2
        have E2 := Lib.hid e2
        clear HSE HSO HOK HZ HST HE e2
        go_wp2
        go_ret2
        exact ⟨_, ret_vi E2.out.symm, HS2.out.out, HW.out⟩
  · have h1 : (E != 0) = true := by simpa using h0
    have SEV := Lib.hid (HSZ.out h0)
    clear HSO HSE HSZ
    go_wp2
    go_ret2
    injection SEV.out with e1 e2
    exact ⟨_, ret_vi e2.symm, by rw [e1]; exact StOut.nil _, HB1.out⟩
end Go.Proofs.YtodlgbihdehmbaaGreatDoor.LR
/-
  Contracts of the document's own functions of layer 3 (isobarref03): digits and whole texts.
-/
set_option linter.unusedSimpArgs false
set_option linter.unusedVariables false
namespace Go.Proofs.YtodlgbihdehmbaaGreatDoor.De.DR
open Go.RowKit

theorem digit_c (c : Int) (w : World) : Calls Tryz.prog 64 #[.int .u8 c] w fun e w' => e = .returned (.bool (isD c)) ∧ w = w' := by
  by_cases h1 : 48 ≤ c
  · by_cases h2 : c ≤ 57
    · rw [show isD c = true from by simp [isD, h1, h2]]
      go_enter Tryz.func64, Tryz.ntmps64
      go_wp2
      go_ret
      exact ⟨rfl, rfl⟩
    · rw [show isD c = false from by simp [isD, h2]]
      go_enter Tryz.func64, Tryz.ntmps64
      go_wp2
      go_ret
      exact ⟨rfl, rfl⟩
  · rw [show isD c = false from by simp [isD, h1]]
    go_enter Tryz.func64, Tryz.ntmps64
    go_wp2
    go_ret
    exact ⟨rfl, rfl⟩

end Go.Proofs.YtodlgbihdehmbaaGreatDoor.De.DR
/-
  Contracts of the document's own functions of layer 3 (isobarref03), the fourth part: a number's text parsed.
-/
set_option linter.unusedSimpArgs false
set_option linter.unusedVariables false
namespace Go.Proofs.YtodlgbihdehmbaaGreatDoor.De.DR
open Go.RowKit

theorem fin_same (fr up neg : Bool) (n : Nat) (N : Int) (h : N = n) : (if fr = true ∨ 9223372036854775807 < (if up then n + 1 else n) then ((0 : Int), (3 : Int)) else (if neg then -((if up then n + 1 else n : Nat) : Int) else ((if up then n + 1 else n : Nat) : Int), 0)) =
    (if fr = true ∨ 9223372036854775807 < (if up then N + 1 else N) then (0, 3) else (if neg then -(if up then N + 1 else N) else (if up then N + 1 else N), 0)) := by
  subst h
  cases up
  · simp only [Bool.false_eq_true, if_false]
    by_cases hb : 9223372036854775807 < n
    · rw [if_pos (.inr hb), if_pos (.inr (by omega))]
    · have e : (fr = true ∨ 9223372036854775807 < n) ↔ (fr = true ∨ (9223372036854775807 : Int) < n) := by constructor <;> (rintro (h | h) <;> first | exact .inl h | exact .inr (by omega))
      simp only [e]
  · simp only [if_true]
    have e : (fr = true ∨ 9223372036854775807 < n + 1) ↔ (fr = true ∨ (9223372036854775807 : Int) < n + 1) := by constructor <;> (rintro (h | h) <;> first | exact .inl h | exact .inr (by omega))
    simp only [e, Int.natCast_add, Int.natCast_one]
theorem parse_long (s : ByteArray) (hs : s.size ≤ 9223372036854775807) (hl : 64 < s.size) (w : World) :
    Calls Tryz.prog 34 #[.string s] w fun e w' => e = .returned (.tuple #[.agg #[.bool false, .int .i64 (refP (bs s)).1], .int .i64 (refP (bs s)).2]) ∧ Below w.heap.size w w' := by
  have hfin : refP (bs s) = (0, 12) := if_pos (by rw [bs_length]; exact hl)
  have HF := Lib.hid hfin
  clear hfin
  go_enter Tryz.func34, Tryz.ntmps34
  go_wp2
  refine bodyPost_ret (v := .tuple #[.agg #[.bool false, .int .i64 0], .int .i64 12]) (by simp [results, Tryz.results34, go_sem]) rfl ⟨?_, (Below.refl _ _).alloc (Nat.le_refl _) _⟩
  rw [HF.out]
theorem bs_tail (s : ByteArray) (h : 0 < s.size) : bs (s.extract 1 s.size) = (bs s).drop 1 := by
  obtain ⟨⟨l⟩⟩ := s
  simp [bs, ByteArray.extract_mk]
  rw [List.take_of_length_le]
  simp [ByteArray.size]
theorem tail_size (s : ByteArray) (h : 0 < s.size) : (s.extract 1 s.size).size = s.size - 1 := by
  rw [← bs_length, bs_tail s h, List.length_drop, bs_length]
theorem bs_ne {s : ByteArray} (h : 0 < s.size) : bs s ≠ [] := by
  intro e
  have := bs_length s
  rw [e] at this
  simp at this
  omega
theorem ref_short {s : ByteArray} (hl : s.size ≤ 64) : refP (bs s) = PSt.all (cut1 (bs s)) (sgnB (bs s)) := if_neg (by rw [bs_length]; omega)
set_option maxRecDepth 100000 in
set_option maxHeartbeats 4000000 in
theorem parse_plain (s : ByteArray) (hl : s.size ≤ 64) (h0 : 0 < s.size) (c0 : Nat) (hc0 : (s[0]'h0).toNat = c0) (h45 : c0 ≠ 45) (h43 : c0 ≠ 43) (w : World) :
    Calls Tryz.prog 34 #[.string s] w fun e w' => e = .returned (.tuple #[.agg #[.bool false, .int .i64 (refP (bs s)).1], .int .i64 (refP (bs s)).2]) ∧ Below w.heap.size w w' := by
  have HS := Lib.hid (show refP (bs s) = PSt.all (bs s) false from by
    have e0 : byteAt (bs s) 0 = c0 := (at_byte h0).symm.trans hc0
    rw [ref_short hl, show cut1 (bs s) = bs s from if_neg (by rw [e0]; rintro ⟨-, h | h⟩ <;> contradiction), show sgnB (bs s) = false from by unfold sgnB; rw [e0, decide_eq_false_iff_not]; exact fun h => h45 h.1])
  have hl' : ¬ 64 < s.size := by omega
  have t45 : ((c0 : Int) == 45) = false := by rw [beq_eq_false_iff_ne]; omega
  have t43 : ((c0 : Int) == 43) = false := by rw [beq_eq_false_iff_ne]; omega
  go_enter Tryz.func34, Tryz.ntmps34
  go_wp2
  go_loop [5, 6, 7, 8, 9, 10, 11] (fun vd vp vb vn vf vu vi => ∃ (k d p b : Nat) (N : Int) (far up : Bool), k ≤ s.size ∧ vi = .int .i64 k ∧ vd = .int .i64 d ∧ vp = .int .i64 p ∧ vb = .int .i64 b ∧ vn = .int .u64 N ∧ vf = .bool far ∧ vu = .bool up ∧ d ≤ k ∧ p ≤ k ∧ b ≤ k ∧ 0 ≤ N ∧ N ≤ 11529215046068469769 ∧
      Hid (∃ n : Nat, N = n ∧ (p = 0 → b = 0) ∧ PSt.run ((bs s).drop k) ⟨d, p, b, n, far, up⟩ = PSt.run (bs s) PSt.zero)) (fun _ _ _ _ _ _ vi => s.size - (intOf vi).toNat)
  case atStart => exact ⟨0, 0, 0, 0, 0, false, false, Nat.zero_le _, rfl, rfl, rfl, rfl, rfl, rfl, rfl, Nat.le_refl _, Nat.le_refl _, Nat.le_refl _, by omega, by omega, 0, rfl, fun _ => rfl, rfl⟩
  case round =>
    obtain ⟨k, d, p, b, N, far, up, hk, rfl, rfl, rfl, rfl, rfl, rfl, rfl, hd, hp, hbk, hN0, hN1, HI⟩ := hrel
    by_cases hlt : k < s.size
    · obtain ⟨c, hc⟩ : ∃ c, byteAt (bs s) k = c := ⟨_, rfl⟩
      have hb : (s[k]'hlt).toNat = c := (at_byte hlt).trans hc
      have hc255 : c ≤ 255 := by rw [← hc]; exact byte_le s k
      have HRn := Lib.hid (show ∀ st, PSt.run ((bs s).drop k) st = (st.step c).bind (PSt.run ((bs s).drop (k + 1))) from fun st => by rw [run_drop (by rw [bs_length]; exact hlt), hc])
      clear hc
      by_cases c46 : c = 46
      · subst c46
        go_wp2
        refine ⟨⟨k + 1, d, p + 1, b, N, far, up, by omega, by go_num, by go_num, by go_num, by go_num, rfl, rfl, rfl, by omega, by omega, by omega, by omega, by omega, ?_⟩, by simp [intOf] <;> omega⟩
        obtain ⟨n, hn, hpb, hr⟩ := HI.out; exact ⟨n, hn, fun h => by omega, by rw [← hr, HRn.out, step_dot]; rfl⟩
      · have tc : ((c : Int) == 46) = false := by rw [beq_eq_false_iff_ne]; omega
        have HC := Lib.hid c46
        clear c46
        go_wp2_with fail
        refine (digit_c c _).mono ?_; rintro e w' ⟨rfl, rfl⟩
        cases hD : isD (c : Int)
        · go_wp2
          have hfin : refP (bs s) = (0, 2) := by obtain ⟨n, hn, hpb, hr⟩ := HI.out; rw [HS.out]; unfold PSt.all; rw [← hr, HRn.out, step_bad HC.out hD]; rfl
          refine bodyPost_ret (v := .tuple #[.agg #[.bool false, .int .i64 (0)], .int .i64 2]) (by simp [results, Tryz.results34, go_sem]) rfl ⟨?_, (Below.refl _ _).alloc (Nat.le_refl _) _⟩
          rw [hfin]
        · obtain ⟨c48, c57⟩ := isD_bounds hD
          have HD := Lib.hid hD
          clear hD
          by_cases hp0 : p = 0
          · subst hp0
            obtain rfl : b = 0 := by obtain ⟨n, hn, hpb, hr⟩ := HI.out; exact hpb rfl
            by_cases hf : 1152921504606846976 < N
            · go_wp2
              refine ⟨⟨k + 1, d + 1, 0, 0, N, true, up, by omega, by go_num, by go_num, by go_num, by go_num, rfl, rfl, rfl, by omega, by omega, by omega, by omega, by omega, ?_⟩, by simp [intOf] <;> omega⟩
              obtain ⟨n, hn, hpb, hr⟩ := HI.out; exact ⟨n, hn, fun _ => rfl, by rw [← hr, HRn.out, step_front HC.out HD.out rfl, put_far (show 1152921504606846976 < n from by omega)]; rfl⟩
            · go_wp2
              refine ⟨⟨k + 1, d + 1, 0, 0, N * 10 + ((c : Int) - 48), far, up, by omega, by go_num, by go_num, by go_num, by go_num, rfl, rfl, rfl, by omega, by omega, by omega, by omega, by omega, ?_⟩, by simp [intOf] <;> omega⟩
              obtain ⟨n, hn, hpb, hr⟩ := HI.out; exact ⟨n * 10 + (c - 48), by omega, fun _ => rfl, by rw [← hr, HRn.out, step_front HC.out HD.out rfl, put_on (show ¬ 1152921504606846976 < n from by omega)]; rfl⟩
          · have hp1 : (0 : Int) < p := by omega
            by_cases h7 : b = 6
            · subst h7
              go_wp2
              refine ⟨⟨k + 1, d + 1, p, 7, N, far, (decide (53 ≤ (c : Int))), by omega, by go_num, by go_num, by go_num, by go_num, rfl, rfl, rfl, by omega, by omega, by omega, by omega, by omega, ?_⟩, by simp [intOf] <;> omega⟩
              obtain ⟨n, hn, hpb, hr⟩ := HI.out; exact ⟨n, hn, fun h => absurd h hp0, by rw [← hr, HRn.out, step_seven HC.out HD.out hp0 rfl, show decide (53 ≤ c) = decide (53 ≤ (c : Int)) from by rw [decide_eq_decide]; omega]; rfl⟩
            · have h7' : ((b : Int) + 1 == 7) = false := by rw [beq_eq_false_iff_ne]; omega
              by_cases h6 : 6 < b
              · have h6' : (6 : Int) < (b : Int) + 1 := by omega
                go_wp2
                refine ⟨⟨k + 1, d + 1, p, b + 1, N, far, up, by omega, by go_num, by go_num, by go_num, by go_num, rfl, rfl, rfl, by omega, by omega, by omega, by omega, by omega, ?_⟩, by simp [intOf] <;> omega⟩
                obtain ⟨n, hn, hpb, hr⟩ := HI.out; exact ⟨n, hn, fun h => absurd h hp0, by rw [← hr, HRn.out, step_past HC.out HD.out hp0 (by show b + 1 ≠ 7; omega) (by show 6 < b + 1; omega)]; rfl⟩
              · have h6' : ¬ (6 : Int) < (b : Int) + 1 := by omega
                by_cases hf : 1152921504606846976 < N
                · go_wp2
                  refine ⟨⟨k + 1, d + 1, p, b + 1, N, true, up, by omega, by go_num, by go_num, by go_num, by go_num, rfl, rfl, rfl, by omega, by omega, by omega, by omega, by omega, ?_⟩, by simp [intOf] <;> omega⟩
                  obtain ⟨n, hn, hpb, hr⟩ := HI.out; exact ⟨n, hn, fun h => absurd h hp0, by rw [← hr, HRn.out, step_behind HC.out HD.out hp0 (by show ¬ 6 < b + 1; omega), put_far (show 1152921504606846976 < n from by omega)]; rfl⟩
                · go_wp2
                  refine ⟨⟨k + 1, d + 1, p, b + 1, N * 10 + ((c : Int) - 48), far, up, by omega, by go_num, by go_num, by go_num, by go_num, rfl, rfl, rfl, by omega, by omega, by omega, by omega, by omega, ?_⟩, by simp [intOf] <;> omega⟩
                  obtain ⟨n, hn, hpb, hr⟩ := HI.out; exact ⟨n * 10 + (c - 48), by omega, fun h => absurd h hp0, by rw [← hr, HRn.out, step_behind HC.out HD.out hp0 (by show ¬ 6 < b + 1; omega), put_on (show ¬ 1152921504606846976 < n from by omega)]; rfl⟩
    · obtain rfl : k = s.size := by omega
      clear hlt
      have HA := Lib.hid (show ∃ n : Nat, N = n ∧ refP (bs s) = PSt.fin ⟨d, p, b, n, far, up⟩ false from by
        obtain ⟨n, hn, hpb, hr⟩ := HI.out
        refine ⟨n, hn, ?_⟩
        rw [HS.out]
        unfold PSt.all
        rw [← hr, run_end (by rw [bs_length]; exact Nat.le_refl _)])
      clear HI HS
      by_cases hbad : d = 0 ∨ 1 < p
      · have HB := Lib.hid hbad
        have hz : ((d : Int) == 0) = true ∨ ((d : Int) == 0) = false ∧ (1 : Int) < p := by
          by_cases h : d = 0
          · left; rw [beq_iff_eq]; omega
          · right; exact ⟨by rw [beq_eq_false_iff_ne]; omega, by rcases hbad with h' | h' <;> omega⟩
        clear hbad
        rcases hz with hz | ⟨hz, hz2⟩
        all_goals
          go_wp2
          have hfin : refP (bs s) = (0, 2) := by obtain ⟨n, hn, hr⟩ := HA.out; rw [hr]; unfold PSt.fin; rw [if_pos HB.out]
          refine bodyPost_ret (v := .tuple #[.agg #[.bool false, .int .i64 (0)], .int .i64 2]) (by simp [results, Tryz.results34, go_sem]) rfl ⟨?_, (Below.refl _ _).alloc (Nat.le_refl _) _⟩
          rw [hfin]
      · have HG := Lib.hid (show ∃ n : Nat, N = n ∧ refP (bs s) = (if (PSt.pad (6 - b) ⟨d, p, b, n, far, up⟩).far = true ∨ 9223372036854775807 < (if (PSt.pad (6 - b) ⟨d, p, b, n, far, up⟩).up then (PSt.pad (6 - b) ⟨d, p, b, n, far, up⟩).n + 1 else (PSt.pad (6 - b) ⟨d, p, b, n, far, up⟩).n) then (0, 3) else (if false then -((if (PSt.pad (6 - b) ⟨d, p, b, n, far, up⟩).up then (PSt.pad (6 - b) ⟨d, p, b, n, far, up⟩).n + 1 else (PSt.pad (6 - b) ⟨d, p, b, n, far, up⟩).n : Nat) : Int) else ((if (PSt.pad (6 - b) ⟨d, p, b, n, far, up⟩).up then (PSt.pad (6 - b) ⟨d, p, b, n, far, up⟩).n + 1 else (PSt.pad (6 - b) ⟨d, p, b, n, far, up⟩).n : Nat) : Int), 0)) from by
          obtain ⟨n, hn, hr⟩ := HA.out
          refine ⟨n, hn, ?_⟩
          rw [hr]; unfold PSt.fin; rw [if_neg hbad])
        have hd0 : ((d : Int) == 0) = false := by rw [beq_eq_false_iff_ne]; omega
        have hp2 : ¬ (1 : Int) < p := by omega
        clear hbad HA
        go_wp2_with fail
        go_loop [8, 9, 12] (fun vn vf vi => ∃ (i : Nat) (N' : Int) (fr : Bool), vi = .int .i64 i ∧ vn = .int .u64 N' ∧ vf = .bool fr ∧ b ≤ i ∧ i ≤ 64 ∧ 0 ≤ N' ∧ N' ≤ 11529215046068469769 ∧ Hid (∃ n n' : Nat, N = n ∧ N' = n' ∧ PSt.pad (6 - i) ⟨d, p, b, n', fr, up⟩ = PSt.pad (6 - b) ⟨d, p, b, n, far, up⟩)) (fun _ _ vi => 64 - (intOf vi).toNat)
        case atStart => exact ⟨b, N, far, rfl, rfl, rfl, Nat.le_refl _, by omega, hN0, hN1, by obtain ⟨n, hn, -⟩ := HG.out; exact ⟨n, n, hn, hn, rfl⟩⟩
        case round =>
          obtain ⟨i, N', fr, rfl, rfl, rfl, hbi, hi64, hM0, hM1, HJ⟩ := hrel
          by_cases h6 : i < 6
          · have HP := Lib.hid (show ∀ st, PSt.pad (6 - i) st = PSt.pad (6 - (i + 1)) (st.put 48) from fun st => by rw [show 6 - i = 6 - (i + 1) + 1 from by omega]; rfl)
            by_cases hf : 1152921504606846976 < N'
            · go_wp2
              refine ⟨⟨i + 1, N', true, by go_num, rfl, rfl, by omega, by omega, hM0, hM1, ?_⟩, by simp [intOf] <;> omega⟩
              obtain ⟨n, n', hn, hn', hpd⟩ := HJ.out
              exact ⟨n, n', hn, hn', by rw [← hpd, HP.out, put_far (show 1152921504606846976 < n' from by omega)]⟩
            · go_wp2
              refine ⟨⟨i + 1, N' * 10, fr, by go_num, by go_num, rfl, by omega, by omega, by omega, by omega, ?_⟩, by simp [intOf] <;> omega⟩
              obtain ⟨n, n', hn, hn', hpd⟩ := HJ.out
              exact ⟨n, n' * 10, hn, by omega, by rw [← hpd, HP.out, put_on (show ¬ 1152921504606846976 < n' from by omega)]; rfl⟩
          · have HF := Lib.hid (show refP (bs s) = (if fr = true ∨ 9223372036854775807 < (if up then N' + 1 else N') then (0, 3) else (if false then -(if up then N' + 1 else N') else (if up then N' + 1 else N'), 0)) from by
              obtain ⟨n, hn, hg⟩ := HG.out
              obtain ⟨m, n', hm, hn', hpd⟩ := HJ.out
              obtain rfl : m = n := by omega
              rw [show 6 - i = 0 from by omega] at hpd
              have hpd' : PSt.pad (6 - b) ⟨d, p, b, m, far, up⟩ = ⟨d, p, b, n', fr, up⟩ := hpd.symm
              rw [hg, hpd']
              exact fin_same fr up false n' N' hn')
            have h6i : ¬ (i : Int) < 6 := by omega
            clear HG HJ h6
            cases fr
            · cases up
              · by_cases hm : 9223372036854775807 < N'
                · go_wp2
                  have hfin : refP (bs s) = (0, 3) := by rw [HF.out]; exact if_pos (.inr hm)
                  refine bodyPost_ret (v := .tuple #[.agg #[.bool false, .int .i64 (0)], .int .i64 3]) (by simp [results, Tryz.results34, go_sem]) rfl ⟨?_, (Below.refl _ _).alloc (Nat.le_refl _) _⟩
                  rw [hfin]
                · go_wp2
                  have hfin : refP (bs s) = (N', 0) := by rw [HF.out]; exact if_neg (by simp; omega)
                  refine bodyPost_ret (v := .tuple #[.agg #[.bool false, .int .i64 (N')], .int .i64 0]) (by simp [results, Tryz.results34, go_sem]) rfl ⟨?_, (Below.refl _ _).alloc (Nat.le_refl _) _⟩
                  rw [hfin]
              · by_cases hm : 9223372036854775807 < N' + 1
                · go_wp2
                  have hfin : refP (bs s) = (0, 3) := by rw [HF.out]; exact if_pos (.inr hm)
                  refine bodyPost_ret (v := .tuple #[.agg #[.bool false, .int .i64 (0)], .int .i64 3]) (by simp [results, Tryz.results34, go_sem]) rfl ⟨?_, (Below.refl _ _).alloc (Nat.le_refl _) _⟩
                  rw [hfin]
                · go_wp2
                  have hfin : refP (bs s) = (N' + 1, 0) := by rw [HF.out]; exact if_neg (by simp; omega)
                  refine bodyPost_ret (v := .tuple #[.agg #[.bool false, .int .i64 (N' + 1)], .int .i64 0]) (by simp [results, Tryz.results34, go_sem]) rfl ⟨?_, (Below.refl _ _).alloc (Nat.le_refl _) _⟩
                  rw [hfin]
            · cases up
              all_goals
                go_wp2
                have hfin : refP (bs s) = (0, 3) := by rw [HF.out]; exact if_pos (.inl (by trivial))
                refine bodyPost_ret (v := .tuple #[.agg #[.bool false, .int .i64 (0)], .int .i64 3]) (by simp [results, Tryz.results34, go_sem]) rfl ⟨?_, (Below.refl _ _).alloc (Nat.le_refl _) _⟩
                rw [hfin]
set_option maxRecDepth 100000 in
set_option maxHeartbeats 4000000 in
theorem parse_minus (s : ByteArray) (hl : s.size ≤ 64) (h0 : 0 < s.size) (hc0 : (s[0]'h0).toNat = 45) (w : World) :
    Calls Tryz.prog 34 #[.string s] w fun e w' => e = .returned (.tuple #[.agg #[.bool false, .int .i64 (refP (bs s)).1], .int .i64 (refP (bs s)).2]) ∧ Below w.heap.size w w' := by
  obtain ⟨T, hT⟩ : ∃ T, s.extract 1 s.size = T := ⟨_, rfl⟩
  have HS := Lib.hid (show refP (bs s) = PSt.all (bs T) true from by
    have e0 : byteAt (bs s) 0 = 45 := (at_byte h0).symm.trans hc0
    rw [ref_short hl, show cut1 (bs s) = bs T from by rw [← hT, bs_tail s h0]; exact if_pos ⟨bs_ne h0, .inl e0⟩, show sgnB (bs s) = true from by unfold sgnB; rw [e0, decide_eq_true_eq]; exact ⟨rfl, bs_ne h0⟩])
  have hTs : T.size ≤ 63 := by rw [← hT, tail_size s h0]; omega
  have hl' : ¬ 64 < s.size := by omega
  have h1 : (1 : Int) ≤ s.size := by omega
  go_enter Tryz.func34, Tryz.ntmps34
  go_wp2
  go_loop [5, 6, 7, 8, 9, 10, 11] (fun vd vp vb vn vf vu vi => ∃ (k d p b : Nat) (N : Int) (far up : Bool), k ≤ T.size ∧ vi = .int .i64 k ∧ vd = .int .i64 d ∧ vp = .int .i64 p ∧ vb = .int .i64 b ∧ vn = .int .u64 N ∧ vf = .bool far ∧ vu = .bool up ∧ d ≤ k ∧ p ≤ k ∧ b ≤ k ∧ 0 ≤ N ∧ N ≤ 11529215046068469769 ∧
      Hid (∃ n : Nat, N = n ∧ (p = 0 → b = 0) ∧ PSt.run ((bs T).drop k) ⟨d, p, b, n, far, up⟩ = PSt.run (bs T) PSt.zero)) (fun _ _ _ _ _ _ vi => T.size - (intOf vi).toNat)
  case atStart => exact ⟨0, 0, 0, 0, 0, false, false, Nat.zero_le _, rfl, rfl, rfl, rfl, rfl, rfl, rfl, Nat.le_refl _, Nat.le_refl _, Nat.le_refl _, by omega, by omega, 0, rfl, fun _ => rfl, rfl⟩
  case round =>
    obtain ⟨k, d, p, b, N, far, up, hk, rfl, rfl, rfl, rfl, rfl, rfl, rfl, hd, hp, hbk, hN0, hN1, HI⟩ := hrel
    by_cases hlt : k < T.size
    · obtain ⟨c, hc⟩ : ∃ c, byteAt (bs T) k = c := ⟨_, rfl⟩
      have hb : (T[k]'hlt).toNat = c := (at_byte hlt).trans hc
      have hc255 : c ≤ 255 := by rw [← hc]; exact byte_le T k
      have HRn := Lib.hid (show ∀ st, PSt.run ((bs T).drop k) st = (st.step c).bind (PSt.run ((bs T).drop (k + 1))) from fun st => by rw [run_drop (by rw [bs_length]; exact hlt), hc])
      clear hc
      by_cases c46 : c = 46
      · subst c46
        go_wp2
        refine ⟨⟨k + 1, d, p + 1, b, N, far, up, by omega, by go_num, by go_num, by go_num, by go_num, rfl, rfl, rfl, by omega, by omega, by omega, by omega, by omega, ?_⟩, by simp [intOf] <;> omega⟩
        obtain ⟨n, hn, hpb, hr⟩ := HI.out; exact ⟨n, hn, fun h => by omega, by rw [← hr, HRn.out, step_dot]; rfl⟩
      · have tc : ((c : Int) == 46) = false := by rw [beq_eq_false_iff_ne]; omega
        have HC := Lib.hid c46
        clear c46
        go_wp2_with fail
        refine (digit_c c _).mono ?_; rintro e w' ⟨rfl, rfl⟩
        cases hD : isD (c : Int)
        · go_wp2
          have hfin : refP (bs s) = (0, 2) := by obtain ⟨n, hn, hpb, hr⟩ := HI.out; rw [HS.out]; unfold PSt.all; rw [← hr, HRn.out, step_bad HC.out hD]; rfl
          refine bodyPost_ret (v := .tuple #[.agg #[.bool false, .int .i64 (0)], .int .i64 2]) (by simp [results, Tryz.results34, go_sem]) rfl ⟨?_, (Below.refl _ _).alloc (Nat.le_refl _) _⟩
          rw [hfin]
        · obtain ⟨c48, c57⟩ := isD_bounds hD
          have HD := Lib.hid hD
          clear hD
          by_cases hp0 : p = 0
          · subst hp0
            obtain rfl : b = 0 := by obtain ⟨n, hn, hpb, hr⟩ := HI.out; exact hpb rfl
            by_cases hf : 1152921504606846976 < N
            · go_wp2
              refine ⟨⟨k + 1, d + 1, 0, 0, N, true, up, by omega, by go_num, by go_num, by go_num, by go_num, rfl, rfl, rfl, by omega, by omega, by omega, by omega, by omega, ?_⟩, by simp [intOf] <;> omega⟩
              obtain ⟨n, hn, hpb, hr⟩ := HI.out; exact ⟨n, hn, fun _ => rfl, by rw [← hr, HRn.out, step_front HC.out HD.out rfl, put_far (show 1152921504606846976 < n from by omega)]; rfl⟩
            · go_wp2
              refine ⟨⟨k + 1, d + 1, 0, 0, N * 10 + ((c : Int) - 48), far, up, by omega, by go_num, by go_num, by go_num, by go_num, rfl, rfl, rfl, by omega, by omega, by omega, by omega, by omega, ?_⟩, by simp [intOf] <;> omega⟩
              obtain ⟨n, hn, hpb, hr⟩ := HI.out; exact ⟨n * 10 + (c - 48), by omega, fun _ => rfl, by rw [← hr, HRn.out, step_front HC.out HD.out rfl, put_on (show ¬ 1152921504606846976 < n from by omega)]; rfl⟩
          · have hp1 : (0 : Int) < p := by omega
            by_cases h7 : b = 6
            · subst h7
              go_wp2
              refine ⟨⟨k + 1, d + 1, p, 7, N, far, (decide (53 ≤ (c : Int))), by omega, by go_num, by go_num, by go_num, by go_num, rfl, rfl, rfl, by omega, by omega, by omega, by omega, by omega, ?_⟩, by simp [intOf] <;> omega⟩
              obtain ⟨n, hn, hpb, hr⟩ := HI.out; exact ⟨n, hn, fun h => absurd h hp0, by rw [← hr, HRn.out, step_seven HC.out HD.out hp0 rfl, show decide (53 ≤ c) = decide (53 ≤ (c : Int)) from by rw [decide_eq_decide]; omega]; rfl⟩
            · have h7' : ((b : Int) + 1 == 7) = false := by rw [beq_eq_false_iff_ne]; omega
              by_cases h6 : 6 < b
              · have h6' : (6 : Int) < (b : Int) + 1 := by omega
                go_wp2
                refine ⟨⟨k + 1, d + 1, p, b + 1, N, far, up, by omega, by go_num, by go_num, by go_num, by go_num, rfl, rfl, rfl, by omega, by omega, by omega, by omega, by omega, ?_⟩, by simp [intOf] <;> omega⟩
                obtain ⟨n, hn, hpb, hr⟩ := HI.out; exact ⟨n, hn, fun h => absurd h hp0, by rw [← hr, HRn.out, step_past HC.out HD.out hp0 (by show b + 1 ≠ 7; omega) (by show 6 < b + 1; omega)]; rfl⟩
              · have h6' : ¬ (6 : Int) < (b : Int) + 1 := by omega
                by_cases hf : 1152921504606846976 < N
                · go_wp2
                  refine ⟨⟨k + 1, d + 1, p, b + 1, N, true, up, by omega, by go_num, by go_num, by go_num, by go_num, rfl, rfl, rfl, by omega, by omega, by omega, by omega, by omega, ?_⟩, by simp [intOf] <;> omega⟩
                  obtain ⟨n, hn, hpb, hr⟩ := HI.out; exact ⟨n, hn, fun h => absurd h hp0, by rw [← hr, HRn.out, step_behind HC.out HD.out hp0 (by show ¬ 6 < b + 1; omega), put_far (show 1152921504606846976 < n from by omega)]; rfl⟩
                · go_wp2
                  refine ⟨⟨k + 1, d + 1, p, b + 1, N * 10 + ((c : Int) - 48), far, up, by omega, by go_num, by go_num, by go_num, by go_num, rfl, rfl, rfl, by omega, by omega, by omega, by omega, by omega, ?_⟩, by simp [intOf] <;> omega⟩
                  obtain ⟨n, hn, hpb, hr⟩ := HI.out; exact ⟨n * 10 + (c - 48), by omega, fun h => absurd h hp0, by rw [← hr, HRn.out, step_behind HC.out HD.out hp0 (by show ¬ 6 < b + 1; omega), put_on (show ¬ 1152921504606846976 < n from by omega)]; rfl⟩
    · obtain rfl : k = T.size := by omega
      clear hlt
      have HA := Lib.hid (show ∃ n : Nat, N = n ∧ refP (bs s) = PSt.fin ⟨d, p, b, n, far, up⟩ true from by
        obtain ⟨n, hn, hpb, hr⟩ := HI.out
        refine ⟨n, hn, ?_⟩
        rw [HS.out]
        unfold PSt.all
        rw [← hr, run_end (by rw [bs_length]; exact Nat.le_refl _)])
      clear HI HS
      by_cases hbad : d = 0 ∨ 1 < p
      · have HB := Lib.hid hbad
        have hz : ((d : Int) == 0) = true ∨ ((d : Int) == 0) = false ∧ (1 : Int) < p := by
          by_cases h : d = 0
          · left; rw [beq_iff_eq]; omega
          · right; exact ⟨by rw [beq_eq_false_iff_ne]; omega, by rcases hbad with h' | h' <;> omega⟩
        clear hbad
        rcases hz with hz | ⟨hz, hz2⟩
        all_goals
          go_wp2
          have hfin : refP (bs s) = (0, 2) := by obtain ⟨n, hn, hr⟩ := HA.out; rw [hr]; unfold PSt.fin; rw [if_pos HB.out]
          refine bodyPost_ret (v := .tuple #[.agg #[.bool false, .int .i64 (0)], .int .i64 2]) (by simp [results, Tryz.results34, go_sem]) rfl ⟨?_, (Below.refl _ _).alloc (Nat.le_refl _) _⟩
          rw [hfin]
      · have HG := Lib.hid (show ∃ n : Nat, N = n ∧ refP (bs s) = (if (PSt.pad (6 - b) ⟨d, p, b, n, far, up⟩).far = true ∨ 9223372036854775807 < (if (PSt.pad (6 - b) ⟨d, p, b, n, far, up⟩).up then (PSt.pad (6 - b) ⟨d, p, b, n, far, up⟩).n + 1 else (PSt.pad (6 - b) ⟨d, p, b, n, far, up⟩).n) then (0, 3) else (if true then -((if (PSt.pad (6 - b) ⟨d, p, b, n, far, up⟩).up then (PSt.pad (6 - b) ⟨d, p, b, n, far, up⟩).n + 1 else (PSt.pad (6 - b) ⟨d, p, b, n, far, up⟩).n : Nat) : Int) else ((if (PSt.pad (6 - b) ⟨d, p, b, n, far, up⟩).up then (PSt.pad (6 - b) ⟨d, p, b, n, far, up⟩).n + 1 else (PSt.pad (6 - b) ⟨d, p, b, n, far, up⟩).n : Nat) : Int), 0)) from by
          obtain ⟨n, hn, hr⟩ := HA.out
          refine ⟨n, hn, ?_⟩
          rw [hr]; unfold PSt.fin; rw [if_neg hbad])
        have hd0 : ((d : Int) == 0) = false := by rw [beq_eq_false_iff_ne]; omega
        have hp2 : ¬ (1 : Int) < p := by omega
        clear hbad HA
        go_wp2_with fail
        go_loop [8, 9, 12] (fun vn vf vi => ∃ (i : Nat) (N' : Int) (fr : Bool), vi = .int .i64 i ∧ vn = .int .u64 N' ∧ vf = .bool fr ∧ b ≤ i ∧ i ≤ 64 ∧ 0 ≤ N' ∧ N' ≤ 11529215046068469769 ∧ Hid (∃ n n' : Nat, N = n ∧ N' = n' ∧ PSt.pad (6 - i) ⟨d, p, b, n', fr, up⟩ = PSt.pad (6 - b) ⟨d, p, b, n, far, up⟩)) (fun _ _ vi => 64 - (intOf vi).toNat)
        case atStart => exact ⟨b, N, far, rfl, rfl, rfl, Nat.le_refl _, by omega, hN0, hN1, by obtain ⟨n, hn, -⟩ := HG.out; exact ⟨n, n, hn, hn, rfl⟩⟩
        case round =>
          obtain ⟨i, N', fr, rfl, rfl, rfl, hbi, hi64, hM0, hM1, HJ⟩ := hrel
          by_cases h6 : i < 6
          · have HP := Lib.hid (show ∀ st, PSt.pad (6 - i) st = PSt.pad (6 - (i + 1)) (st.put 48) from fun st => by rw [show 6 - i = 6 - (i + 1) + 1 from by omega]; rfl)
            by_cases hf : 1152921504606846976 < N'
            · go_wp2
              refine ⟨⟨i + 1, N', true, by go_num, rfl, rfl, by omega, by omega, hM0, hM1, ?_⟩, by simp [intOf] <;> omega⟩
              obtain ⟨n, n', hn, hn', hpd⟩ := HJ.out
              exact ⟨n, n', hn, hn', by rw [← hpd, HP.out, put_far (show 1152921504606846976 < n' from by omega)]⟩
            · go_wp2
              refine ⟨⟨i + 1, N' * 10, fr, by go_num, by go_num, rfl, by omega, by omega, by omega, by omega, ?_⟩, by simp [intOf] <;> omega⟩
              obtain ⟨n, n', hn, hn', hpd⟩ := HJ.out
              exact ⟨n, n' * 10, hn, by omega, by rw [← hpd, HP.out, put_on (show ¬ 1152921504606846976 < n' from by omega)]; rfl⟩
          · have HF := Lib.hid (show refP (bs s) = (if fr = true ∨ 9223372036854775807 < (if up then N' + 1 else N') then (0, 3) else (if true then -(if up then N' + 1 else N') else (if up then N' + 1 else N'), 0)) from by
              obtain ⟨n, hn, hg⟩ := HG.out
              obtain ⟨m, n', hm, hn', hpd⟩ := HJ.out
              obtain rfl : m = n := by omega
              rw [show 6 - i = 0 from by omega] at hpd
              have hpd' : PSt.pad (6 - b) ⟨d, p, b, m, far, up⟩ = ⟨d, p, b, n', fr, up⟩ := hpd.symm
              rw [hg, hpd']
              exact fin_same fr up true n' N' hn')
            have h6i : ¬ (i : Int) < 6 := by omega
            clear HG HJ h6
            cases fr
            · cases up
              · by_cases hm : 9223372036854775807 < N'
                · go_wp2
                  have hfin : refP (bs s) = (0, 3) := by rw [HF.out]; exact if_pos (.inr hm)
                  refine bodyPost_ret (v := .tuple #[.agg #[.bool false, .int .i64 (0)], .int .i64 3]) (by simp [results, Tryz.results34, go_sem]) rfl ⟨?_, (Below.refl _ _).alloc (Nat.le_refl _) _⟩
                  rw [hfin]
                · go_wp2
                  have hfin : refP (bs s) = (-N', 0) := by rw [HF.out]; exact if_neg (by simp; omega)
                  refine bodyPost_ret (v := .tuple #[.agg #[.bool false, .int .i64 (-N')], .int .i64 0]) (by simp [results, Tryz.results34, go_sem]) rfl ⟨?_, (Below.refl _ _).alloc (Nat.le_refl _) _⟩
                  rw [hfin]
              · by_cases hm : 9223372036854775807 < N' + 1
                · go_wp2
                  have hfin : refP (bs s) = (0, 3) := by rw [HF.out]; exact if_pos (.inr hm)
                  refine bodyPost_ret (v := .tuple #[.agg #[.bool false, .int .i64 (0)], .int .i64 3]) (by simp [results, Tryz.results34, go_sem]) rfl ⟨?_, (Below.refl _ _).alloc (Nat.le_refl _) _⟩
                  rw [hfin]
                · go_wp2
                  have hfin : refP (bs s) = (-(N' + 1), 0) := by rw [HF.out]; exact if_neg (by simp; omega)
                  refine bodyPost_ret (v := .tuple #[.agg #[.bool false, .int .i64 (-(N' + 1))], .int .i64 0]) (by simp [results, Tryz.results34, go_sem]) rfl ⟨?_, (Below.refl _ _).alloc (Nat.le_refl _) _⟩
                  rw [hfin]
            · cases up
              all_goals
                go_wp2
                have hfin : refP (bs s) = (0, 3) := by rw [HF.out]; exact if_pos (.inl (by trivial))
                refine bodyPost_ret (v := .tuple #[.agg #[.bool false, .int .i64 (0)], .int .i64 3]) (by simp [results, Tryz.results34, go_sem]) rfl ⟨?_, (Below.refl _ _).alloc (Nat.le_refl _) _⟩
                rw [hfin]
set_option maxRecDepth 100000 in
set_option maxHeartbeats 4000000 in
theorem parse_plus (s : ByteArray) (hl : s.size ≤ 64) (h0 : 0 < s.size) (hc0 : (s[0]'h0).toNat = 43) (w : World) :
    Calls Tryz.prog 34 #[.string s] w fun e w' => e = .returned (.tuple #[.agg #[.bool false, .int .i64 (refP (bs s)).1], .int .i64 (refP (bs s)).2]) ∧ Below w.heap.size w w' := by
  obtain ⟨T, hT⟩ : ∃ T, s.extract 1 s.size = T := ⟨_, rfl⟩
  have HS := Lib.hid (show refP (bs s) = PSt.all (bs T) false from by
    have e0 : byteAt (bs s) 0 = 43 := (at_byte h0).symm.trans hc0
    rw [ref_short hl, show cut1 (bs s) = bs T from by rw [← hT, bs_tail s h0]; exact if_pos ⟨bs_ne h0, .inr e0⟩, show sgnB (bs s) = false from by unfold sgnB; rw [e0, decide_eq_false_iff_not]; exact fun h => absurd h.1 (by decide)])
  have hTs : T.size ≤ 63 := by rw [← hT, tail_size s h0]; omega
  have hl' : ¬ 64 < s.size := by omega
  have h1 : (1 : Int) ≤ s.size := by omega
  go_enter Tryz.func34, Tryz.ntmps34
  go_wp2
  go_loop [5, 6, 7, 8, 9, 10, 11] (fun vd vp vb vn vf vu vi => ∃ (k d p b : Nat) (N : Int) (far up : Bool), k ≤ T.size ∧ vi = .int .i64 k ∧ vd = .int .i64 d ∧ vp = .int .i64 p ∧ vb = .int .i64 b ∧ vn = .int .u64 N ∧ vf = .bool far ∧ vu = .bool up ∧ d ≤ k ∧ p ≤ k ∧ b ≤ k ∧ 0 ≤ N ∧ N ≤ 11529215046068469769 ∧
      Hid (∃ n : Nat, N = n ∧ (p = 0 → b = 0) ∧ PSt.run ((bs T).drop k) ⟨d, p, b, n, far, up⟩ = PSt.run (bs T) PSt.zero)) (fun _ _ _ _ _ _ vi => T.size - (intOf vi).toNat)
  case atStart => exact ⟨0, 0, 0, 0, 0, false, false, Nat.zero_le _, rfl, rfl, rfl, rfl, rfl, rfl, rfl, Nat.le_refl _, Nat.le_refl _, Nat.le_refl _, by omega, by omega, 0, rfl, fun _ => rfl, rfl⟩
  case round =>
    obtain ⟨k, d, p, b, N, far, up, hk, rfl, rfl, rfl, rfl, rfl, rfl, rfl, hd, hp, hbk, hN0, hN1, HI⟩ := hrel
    by_cases hlt : k < T.size
    · obtain ⟨c, hc⟩ : ∃ c, byteAt (bs T) k = c := ⟨_, rfl⟩
      have hb : (T[k]'hlt).toNat = c := (at_byte hlt).trans hc
      have hc255 : c ≤ 255 := by rw [← hc]; exact byte_le T k
      have HRn := Lib.hid (show ∀ st, PSt.run ((bs T).drop k) st = (st.step c).bind (PSt.run ((bs T).drop (k + 1))) from fun st => by rw [run_drop (by rw [bs_length]; exact hlt), hc])
      clear hc
      by_cases c46 : c = 46
      · subst c46
        go_wp2
        refine ⟨⟨k + 1, d, p + 1, b, N, far, up, by omega, by go_num, by go_num, by go_num, by go_num, rfl, rfl, rfl, by omega, by omega, by omega, by omega, by omega, ?_⟩, by simp [intOf] <;> omega⟩
        obtain ⟨n, hn, hpb, hr⟩ := HI.out; exact ⟨n, hn, fun h => by omega, by rw [← hr, HRn.out, step_dot]; rfl⟩
      · have tc : ((c : Int) == 46) = false := by rw [beq_eq_false_iff_ne]; omega
        have HC := Lib.hid c46
        clear c46
        go_wp2_with fail
        refine (digit_c c _).mono ?_; rintro e w' ⟨rfl, rfl⟩
        cases hD : isD (c : Int)
        · go_wp2
          have hfin : refP (bs s) = (0, 2) := by obtain ⟨n, hn, hpb, hr⟩ := HI.out; rw [HS.out]; unfold PSt.all; rw [← hr, HRn.out, step_bad HC.out hD]; rfl
          refine bodyPost_ret (v := .tuple #[.agg #[.bool false, .int .i64 (0)], .int .i64 2]) (by simp [results, Tryz.results34, go_sem]) rfl ⟨?_, (Below.refl _ _).alloc (Nat.le_refl _) _⟩
          rw [hfin]
        · obtain ⟨c48, c57⟩ := isD_bounds hD
          have HD := Lib.hid hD
          clear hD
          by_cases hp0 : p = 0
          · subst hp0
            obtain rfl : b = 0 := by obtain ⟨n, hn, hpb, hr⟩ := HI.out; exact hpb rfl
            by_cases hf : 1152921504606846976 < N
            · go_wp2
              refine ⟨⟨k + 1, d + 1, 0, 0, N, true, up, by omega, by go_num, by go_num, by go_num, by go_num, rfl, rfl, rfl, by omega, by omega, by omega, by omega, by omega, ?_⟩, by simp [intOf] <;> omega⟩
              obtain ⟨n, hn, hpb, hr⟩ := HI.out; exact ⟨n, hn, fun _ => rfl, by rw [← hr, HRn.out, step_front HC.out HD.out rfl, put_far (show 1152921504606846976 < n from by omega)]; rfl⟩
            · go_wp2
              refine ⟨⟨k + 1, d + 1, 0, 0, N * 10 + ((c : Int) - 48), far, up, by omega, by go_num, by go_num, by go_num, by go_num, rfl, rfl, rfl, by omega, by omega, by omega, by omega, by omega, ?_⟩, by simp [intOf] <;> omega⟩
              obtain ⟨n, hn, hpb, hr⟩ := HI.out; exact ⟨n * 10 + (c - 48), by omega, fun _ => rfl, by rw [← hr, HRn.out, step_front HC.out HD.out rfl, put_on (show ¬ 1152921504606846976 < n from by omega)]; rfl⟩
          · have hp1 : (0 : Int) < p := by omega
            by_cases h7 : b = 6
            · subst h7
              go_wp2
              refine ⟨⟨k + 1, d + 1, p, 7, N, far, (decide (53 ≤ (c : Int))), by omega, by go_num, by go_num, by go_num, by go_num, rfl, rfl, rfl, by omega, by omega, by omega, by omega, by omega, ?_⟩, by simp [intOf] <;> omega⟩
              obtain ⟨n, hn, hpb, hr⟩ := HI.out; exact ⟨n, hn, fun h => absurd h hp0, by rw [← hr, HRn.out, step_seven HC.out HD.out hp0 rfl, show decide (53 ≤ c) = decide (53 ≤ (c : Int)) from by rw [decide_eq_decide]; omega]; rfl⟩
            · have h7' : ((b : Int) + 1 == 7) = false := by rw [beq_eq_false_iff_ne]; omega
              by_cases h6 : 6 < b
              · have h6' : (6 : Int) < (b : Int) + 1 := by omega
                go_wp2
                refine ⟨⟨k + 1, d + 1, p, b + 1, N, far, up, by omega, by go_num, by go_num, by go_num, by go_num, rfl, rfl, rfl, by omega, by omega, by omega, by omega, by omega, ?_⟩, by simp [intOf] <;> omega⟩
                obtain ⟨n, hn, hpb, hr⟩ := HI.out; exact ⟨n, hn, fun h => absurd h hp0, by rw [← hr, HRn.out, step_past HC.out HD.out hp0 (by show b + 1 ≠ 7; omega) (by show 6 < b + 1; omega)]; rfl⟩
              · have h6' : ¬ (6 : Int) < (b : Int) + 1 := by omega
                by_cases hf : 1152921504606846976 < N
                · go_wp2
                  refine ⟨⟨k + 1, d + 1, p, b + 1, N, true, up, by omega, by go_num, by go_num, by go_num, by go_num, rfl, rfl, rfl, by omega, by omega, by omega, by omega, by omega, ?_⟩, by simp [intOf] <;> omega⟩
                  obtain ⟨n, hn, hpb, hr⟩ := HI.out; exact ⟨n, hn, fun h => absurd h hp0, by rw [← hr, HRn.out, step_behind HC.out HD.out hp0 (by show ¬ 6 < b + 1; omega), put_far (show 1152921504606846976 < n from by omega)]; rfl⟩
                · go_wp2
                  refine ⟨⟨k + 1, d + 1, p, b + 1, N * 10 + ((c : Int) - 48), far, up, by omega, by go_num, by go_num, by go_num, by go_num, rfl, rfl, rfl, by omega, by omega, by omega, by omega, by omega, ?_⟩, by simp [intOf] <;> omega⟩
                  obtain ⟨n, hn, hpb, hr⟩ := HI.out; exact ⟨n * 10 + (c - 48), by omega, fun h => absurd h hp0, by rw [← hr, HRn.out, step_behind HC.out HD.out hp0 (by show ¬ 6 < b + 1; omega), put_on (show ¬ 1152921504606846976 < n from by omega)]; rfl⟩
    · obtain rfl : k = T.size := by omega
      clear hlt
      have HA := Lib.hid (show ∃ n : Nat, N = n ∧ refP (bs s) = PSt.fin ⟨d, p, b, n, far, up⟩ false from by
        obtain ⟨n, hn, hpb, hr⟩ := HI.out
        refine ⟨n, hn, ?_⟩
        rw [HS.out]
        unfold PSt.all
        rw [← hr, run_end (by rw [bs_length]; exact Nat.le_refl _)])
      clear HI HS
      by_cases hbad : d = 0 ∨ 1 < p
      · have HB := Lib.hid hbad
        have hz : ((d : Int) == 0) = true ∨ ((d : Int) == 0) = false ∧ (1 : Int) < p := by
          by_cases h : d = 0
          · left; rw [beq_iff_eq]; omega
          · right; exact ⟨by rw [beq_eq_false_iff_ne]; omega, by rcases hbad with h' | h' <;> omega⟩
        clear hbad
        rcases hz with hz | ⟨hz, hz2⟩
        all_goals
          go_wp2
          have hfin : refP (bs s) = (0, 2) := by obtain ⟨n, hn, hr⟩ := HA.out; rw [hr]; unfold PSt.fin; rw [if_pos HB.out]
          refine bodyPost_ret (v := .tuple #[.agg #[.bool false, .int .i64 (0)], .int .i64 2]) (by simp [results, Tryz.results34, go_sem]) rfl ⟨?_, (Below.refl _ _).alloc (Nat.le_refl _) _⟩
          rw [hfin]
      · have HG := Lib.hid (show ∃ n : Nat, N = n ∧ refP (bs s) = (if (PSt.pad (6 - b) ⟨d, p, b, n, far, up⟩).far = true ∨ 9223372036854775807 < (if (PSt.pad (6 - b) ⟨d, p, b, n, far, up⟩).up then (PSt.pad (6 - b) ⟨d, p, b, n, far, up⟩).n + 1 else (PSt.pad (6 - b) ⟨d, p, b, n, far, up⟩).n) then (0, 3) else (if false then -((if (PSt.pad (6 - b) ⟨d, p, b, n, far, up⟩).up then (PSt.pad (6 - b) ⟨d, p, b, n, far, up⟩).n + 1 else (PSt.pad (6 - b) ⟨d, p, b, n, far, up⟩).n : Nat) : Int) else ((if (PSt.pad (6 - b) ⟨d, p, b, n, far, up⟩).up then (PSt.pad (6 - b) ⟨d, p, b, n, far, up⟩).n + 1 else (PSt.pad (6 - b) ⟨d, p, b, n, far, up⟩).n : Nat) : Int), 0)) from by
          obtain ⟨n, hn, hr⟩ := HA.out
          refine ⟨n, hn, ?_⟩
          rw [hr]; unfold PSt.fin; rw [if_neg hbad])
        have hd0 : ((d : Int) == 0) = false := by rw [beq_eq_false_iff_ne]; omega
        have hp2 : ¬ (1 : Int) < p := by omega
        clear hbad HA
        go_wp2_with fail
        go_loop [8, 9, 12] (fun vn vf vi => ∃ (i : Nat) (N' : Int) (fr : Bool), vi = .int .i64 i ∧ vn = .int .u64 N' ∧ vf = .bool fr ∧ b ≤ i ∧ i ≤ 64 ∧ 0 ≤ N' ∧ N' ≤ 11529215046068469769 ∧ Hid (∃ n n' : Nat, N = n ∧ N' = n' ∧ PSt.pad (6 - i) ⟨d, p, b, n', fr, up⟩ = PSt.pad (6 - b) ⟨d, p, b, n, far, up⟩)) (fun _ _ vi => 64 - (intOf vi).toNat)
        case atStart => exact ⟨b, N, far, rfl, rfl, rfl, Nat.le_refl _, by omega, hN0, hN1, by obtain ⟨n, hn, -⟩ := HG.out; exact ⟨n, n, hn, hn, rfl⟩⟩
        case round =>
          obtain ⟨i, N', fr, rfl, rfl, rfl, hbi, hi64, hM0, hM1, HJ⟩ := hrel
          by_cases h6 : i < 6
          · have HP := Lib.hid (show ∀ st, PSt.pad (6 - i) st = PSt.pad (6 - (i + 1)) (st.put 48) from fun st => by rw [show 6 - i = 6 - (i + 1) + 1 from by omega]; rfl)
            by_cases hf : 1152921504606846976 < N'
            · go_wp2
              refine ⟨⟨i + 1, N', true, by go_num, rfl, rfl, by omega, by omega, hM0, hM1, ?_⟩, by simp [intOf] <;> omega⟩
              obtain ⟨n, n', hn, hn', hpd⟩ := HJ.out
              exact ⟨n, n', hn, hn', by rw [← hpd, HP.out, put_far (show 1152921504606846976 < n' from by omega)]⟩
            · go_wp2
              refine ⟨⟨i + 1, N' * 10, fr, by go_num, by go_num, rfl, by omega, by omega, by omega, by omega, ?_⟩, by simp [intOf] <;> omega⟩
              obtain ⟨n, n', hn, hn', hpd⟩ := HJ.out
              exact ⟨n, n' * 10, hn, by omega, by rw [← hpd, HP.out, put_on (show ¬ 1152921504606846976 < n' from by omega)]; rfl⟩
          · have HF := Lib.hid (show refP (bs s) = (if fr = true ∨ 9223372036854775807 < (if up then N' + 1 else N') then (0, 3) else (if false then -(if up then N' + 1 else N') else (if up then N' + 1 else N'), 0)) from by
              obtain ⟨n, hn, hg⟩ := HG.out
              obtain ⟨m, n', hm, hn', hpd⟩ := HJ.out
              obtain rfl : m = n := by omega
              rw [show 6 - i = 0 from by omega] at hpd
              have hpd' : PSt.pad (6 - b) ⟨d, p, b, m, far, up⟩ = ⟨d, p, b, n', fr, up⟩ := hpd.symm
              rw [hg, hpd']
              exact fin_same fr up false n' N' hn')
            have h6i : ¬ (i : Int) < 6 := by omega
            clear HG HJ h6
            cases fr
            · cases up
              · by_cases hm : 9223372036854775807 < N'
                · go_wp2
                  have hfin : refP (bs s) = (0, 3) := by rw [HF.out]; exact if_pos (.inr hm)
                  refine bodyPost_ret (v := .tuple #[.agg #[.bool false, .int .i64 (0)], .int .i64 3]) (by simp [results, Tryz.results34, go_sem]) rfl ⟨?_, (Below.refl _ _).alloc (Nat.le_refl _) _⟩
                  rw [hfin]
                · go_wp2
                  have hfin : refP (bs s) = (N', 0) := by rw [HF.out]; exact if_neg (by simp; omega)
                  refine bodyPost_ret (v := .tuple #[.agg #[.bool false, .int .i64 (N')], .int .i64 0]) (by simp [results, Tryz.results34, go_sem]) rfl ⟨?_, (Below.refl _ _).alloc (Nat.le_refl _) _⟩
                  rw [hfin]
              · by_cases hm : 9223372036854775807 < N' + 1
                · go_wp2
                  have hfin : refP (bs s) = (0, 3) := by rw [HF.out]; exact if_pos (.inr hm)
                  refine bodyPost_ret (v := .tuple #[.agg #[.bool false, .int .i64 (0)], .int .i64 3]) (by simp [results, Tryz.results34, go_sem]) rfl ⟨?_, (Below.refl _ _).alloc (Nat.le_refl _) _⟩
                  rw [hfin]
                · go_wp2
                  have hfin : refP (bs s) = (N' + 1, 0) := by rw [HF.out]; exact if_neg (by simp; omega)
                  refine bodyPost_ret (v := .tuple #[.agg #[.bool false, .int .i64 (N' + 1)], .int .i64 0]) (by simp [results, Tryz.results34, go_sem]) rfl ⟨?_, (Below.refl _ _).alloc (Nat.le_refl _) _⟩
                  rw [hfin]
            · cases up
              all_goals
                go_wp2
                have hfin : refP (bs s) = (0, 3) := by rw [HF.out]; exact if_pos (.inl (by trivial))
                refine bodyPost_ret (v := .tuple #[.agg #[.bool false, .int .i64 (0)], .int .i64 3]) (by simp [results, Tryz.results34, go_sem]) rfl ⟨?_, (Below.refl _ _).alloc (Nat.le_refl _) _⟩
                rw [hfin]
theorem parse_empty (w : World) :
    Calls Tryz.prog 34 #[.string ⟨#[]⟩] w fun e w' => e = .returned (.tuple #[.agg #[.bool false, .int .i64 (refP (bs ⟨#[]⟩)).1], .int .i64 (refP (bs ⟨#[]⟩)).2]) ∧ Below w.heap.size w w' := by
  rw [show refP (bs ⟨#[]⟩) = (0, 2) from by decide]
  go_enter Tryz.func34, Tryz.ntmps34
  go_wp2
  go_loop [5, 6, 11] (fun vd vp vi => vd = .int .i64 0 ∧ vp = .int .i64 0 ∧ vi = .int .i64 0) (fun _ _ _ => 0)
  case atStart => exact ⟨rfl, rfl, rfl⟩
  case round =>
    obtain ⟨rfl, rfl, rfl⟩ := hrel
    go_wp2
    exact bodyPost_ret (v := .tuple #[.agg #[.bool false, .int .i64 0], .int .i64 2]) (by simp [results, Tryz.results34, go_sem]) rfl ⟨rfl, (Below.refl _ _).alloc (Nat.le_refl _) _⟩
theorem parse_c (s : ByteArray) (hs : s.size ≤ 9223372036854775807) (w : World) :
    Calls Tryz.prog 34 #[.string s] w fun e w' => e = .returned (.tuple #[.agg #[.bool false, .int .i64 (refP (bs s)).1], .int .i64 (refP (bs s)).2]) ∧ Below w.heap.size w w' := by
  by_cases hl : s.size ≤ 64
  · by_cases h0 : 0 < s.size
    · by_cases h45 : (s[0]'h0).toNat = 45
      · exact parse_minus s hl h0 h45 w
      · by_cases h43 : (s[0]'h0).toNat = 43
        · exact parse_plus s hl h0 h43 w
        · exact parse_plain s hl h0 _ rfl h45 h43 w
    · obtain rfl : s = ⟨#[]⟩ := by
        obtain ⟨⟨l⟩⟩ := s
        have e : l.length = 0 := (show (ByteArray.mk ⟨l⟩).size = 0 from by omega)
        rw [List.eq_nil_of_length_eq_zero e]
      exact parse_empty w
  · exact parse_long s hs (by omega) w
end Go.Proofs.YtodlgbihdehmbaaGreatDoor.De.DR
/-
  Contracts of the reference's functions of layer 12: Folds.
-/
set_option linter.unusedSimpArgs false
set_option linter.unusedVariables false
namespace Go.Proofs.YtodlgbihdehmbaaGreatDoor.LR
open Go.RowKit Cf Cf.KR Cf.KP LP
/-- A fold under way: the section's cells, the fold's own. -/
structure FrSt (W : World) (b o f : Nat) (x y f0 f1 f2 f3 : Value) : Prop where
  b0 : W.cell? ⟨b, o, none⟩ = some x
  b1 : W.cell? ⟨b, o + 1, none⟩ = some y
  vf : DVar W f 4
  h : Holds W f [f0, f1, f2, f3]
theorem FrSt.below {W W' : World} {b o f : Nat} {x y f0 f1 f2 f3 : Value} (h : FrSt W b o f x y f0 f1 f2 f3) (hb : Below W.heap.size W W') : FrSt W' b o f x y f0 f1 f2 f3 :=
  ⟨cellb hb h.b0, cellb hb h.b1, h.vf.below hb, h.h.below hb⟩
theorem FrSt.put2 {W : World} {b o f : Nat} {x y f0 f1 f2 f3 : Value} (h : FrSt W b o f x y f0 f1 f2 f3) (hn : b ≠ f) (u : Value) : FrSt (W.setCell ⟨f, 2, none⟩ u) b o f x y f0 f1 u f3 := by
  obtain ⟨h0, h1, h2, h3⟩ := h.h.four
  have e0 := h.b0; have e1 := h.b1
  refine ⟨(World.cell?_setCell_other W _ _ u (fun e => by injection e with e1; exact hn e1.symm)).trans e0, (World.cell?_setCell_other W _ _ u (fun e => by injection e with e1; exact hn e1.symm)).trans e1, h.vf.set u, fun j v hv => ?_⟩
  match j, hv with
  | 0, hv => exact (World.cell?_setCell_other W _ _ u (fun e => by injection e with _ e2; cases e2)).trans (h0.trans hv)
  | 1, hv => exact (World.cell?_setCell_other W _ _ u (fun e => by injection e with _ e2; cases e2)).trans (h1.trans hv)
  | 2, hv => exact (World.cell?_setCell_same W _ u h2).trans hv
  | 3, hv => exact (World.cell?_setCell_other W _ _ u (fun e => by injection e with _ e2; cases e2)).trans (h3.trans hv)
  | j + 4, hv => simp at hv
theorem FrSt.put3 {W : World} {b o f : Nat} {x y f0 f1 f2 f3 : Value} (h : FrSt W b o f x y f0 f1 f2 f3) (hn : b ≠ f) (u : Value) : FrSt (W.setCell ⟨f, 3, none⟩ u) b o f x y f0 f1 f2 u := by
  obtain ⟨h0, h1, h2, h3⟩ := h.h.four
  have e0 := h.b0; have e1 := h.b1
  refine ⟨(World.cell?_setCell_other W _ _ u (fun e => by injection e with e1; exact hn e1.symm)).trans e0, (World.cell?_setCell_other W _ _ u (fun e => by injection e with e1; exact hn e1.symm)).trans e1, h.vf.set u, fun j v hv => ?_⟩
  match j, hv with
  | 0, hv => exact (World.cell?_setCell_other W _ _ u (fun e => by injection e with _ e2; cases e2)).trans (h0.trans hv)
  | 1, hv => exact (World.cell?_setCell_other W _ _ u (fun e => by injection e with _ e2; cases e2)).trans (h1.trans hv)
  | 2, hv => exact (World.cell?_setCell_other W _ _ u (fun e => by injection e with _ e2; cases e2)).trans (h2.trans hv)
  | 3, hv => exact (World.cell?_setCell_same W _ u h3).trans hv
  | j + 4, hv => simp at hv
theorem FrSt.facts {W : World} {b o f : Nat} {x y f0 f1 f2 f3 : Value} (h : FrSt W b o f x y f0 f1 f2 f3) :
    (W.cell? ⟨f, 0, none⟩ = some f0 ∧ W.cell? ⟨f, 1, none⟩ = some f1 ∧ W.cell? ⟨f, 2, none⟩ = some f2 ∧ W.cell? ⟨f, 3, none⟩ = some f3) ∧ (W.frozen? ⟨f, 0, none⟩ = false ∧ W.frozen? ⟨f, 1, none⟩ = false ∧ W.frozen? ⟨f, 2, none⟩ = false ∧ W.frozen? ⟨f, 3, none⟩ = false) ∧ W.cell? ⟨b, o, none⟩ = some x ∧ W.cell? ⟨b, o + 1, none⟩ = some y :=
  ⟨h.h.four, h.vf.four, h.b0, h.b1⟩
theorem FrSt.new {W : World} {b o : Nat} {x y f0 f1 f2 f3 : Value} (h0 : W.cell? ⟨b, o, none⟩ = some x) (h1 : W.cell? ⟨b, o + 1, none⟩ = some y) : FrSt (W.alloc (.cells #[f0, f1, f2, f3] 74)) b o W.heap.size x y f0 f1 f2 f3 := by
  have hh := heap_alloc_new W (.cells #[f0, f1, f2, f3] 74)
  have hb := alloc_below W (.cells #[f0, f1, f2, f3] 74)
  refine ⟨cellb hb h0, cellb hb h1, DVar.alloc _ _, fun j u hu => ?_⟩
  match j, hu with
  | 0, hu => exact (cell_of_row _ _ 0 _ _ (0, 0) hh).trans hu
  | 1, hu => exact (cell_of_row _ _ 1 _ _ (0, 0) hh).trans hu
  | 2, hu => exact (cell_of_row _ _ 2 _ _ (0, 0) hh).trans hu
  | 3, hu => exact (cell_of_row _ _ 3 _ _ (0, 0) hh).trans hu
  | j + 4, hu => simp at hu
theorem folV_if (x : Sec) {g1 od : Bool} (h1 : (getV x.2 patB).isSome = g1) (h3 : onlyV [patB, xffB, aggB] x.2 = od) : folV x =
    if g1 = true ∧ od = true then (if (Nd.ndComp ((getV x.2 patB).getD [])).2 ≠ 0 then (Fol.none, (Nd.ndComp ((getV x.2 patB).getD [])).2)
    else if (xffV (getV x.2 xffB)).2 ≠ 0 then (Fol.none, (xffV (getV x.2 xffB)).2)
    else if (aggV (getV x.2 aggB)).2 ≠ 0 then (Fol.none, (aggV (getV x.2 aggB)).2)
    else ((x.1, (getV x.2 patB).getD [], (xffV (getV x.2 xffB)).1, (aggV (getV x.2 aggB)).1), 0)) else (Fol.none, 7) := by
  subst h1 h3; rfl
set_option maxRecDepth 100000 in
set_option maxHeartbeats 16000000 in
theorem folds_c (s : ByteArray) (hs : s.size ≤ 100000) (w : World) :
    Calls Tryz.prog 11 #[.string s] w fun e w' => ∃ v, e = .returned (.tuple #[v, .int .i64 (foldsV (bs s)).2]) ∧ FoOut w' v (foldsV (bs s)).1 ∧ Below w.heap.size w w' := by
  have PC := KR.parse_c s hs w
  have OKS := conf_ok (l := bs s) (bs_small s)
  have SE := fun (k : Nat) (x : Sec) => @folds_err (bs s) k x
  have SO := @folds_ok (bs s)
  have SZ : (confV (bs s)).2 ≠ 0 → foldsV (bs s) = ([], (confV (bs s)).2) := fun h => by unfold foldsV; rw [if_pos h]
  have FEW := (conf_few (bs s)).secs
  obtain ⟨⟨L, E⟩, hC⟩ : ∃ C, confV (bs s) = C := ⟨_, rfl⟩
  rw [hC] at PC OKS SE SO SZ FEW
  obtain ⟨⟨D, Z⟩, hD⟩ : ∃ D, foldsV (bs s) = D := ⟨_, rfl⟩
  rw [hD] at SE SO SZ ⊢
  simp only at PC OKS SE SO SZ FEW ⊢
  clear hC hD
  obtain ⟨n, hn⟩ : ∃ n, L.length = n := ⟨_, rfl⟩
  rw [hn] at FEW
  obtain ⟨i0, hi0, hz0, hz1, hz2⟩ := info_parts fold_info
  have PCC := Lib.hid PC; have HOK := Lib.hid OKS; have HSE := Lib.hid SE; have HSO := Lib.hid SO; have HSZ := Lib.hid SZ; have HN := Lib.hid hn
  clear PC OKS SE SO SZ hn
  go_enter Tryz.func11, Tryz.ntmps11
  go_wp2_with fail
  refine PCC.out.mono ?_; rintro _ w1 ⟨v, rfl, hv, hb1⟩
  obtain ⟨AL, cL, rfl, hcL, hxL⟩ := id hv
  have HV := Lib.hid hv; have HXL := Lib.hid hxL; have HB1 := Lib.hid hb1
  rw [HN.out] at hcL HV ⊢
  clear hv hxL hb1 PCC
  by_cases h0 : E = 0
  · subst h0
    clear HSZ
    go_wp2
    go_loopw [7, 6] (fun i o wr => ∃ k : Nat, i = .int .i64 (k : Nat) ∧ k ≤ n ∧ ((∀ y ∈ L.take k, (folV y).2 = 0) ∧ FoNew w1.heap.size wr o (fosV (L.take k)) ∧ Below w1.heap.size w1 wr)) (fun i _ _ => n - (intOf i).toNat)
    case atStart => exact ⟨0, rfl, Nat.zero_le _, fun y hy => (by simp at hy), FoNew.nil _ _, Below.refl _ _⟩
    case round =>
      obtain ⟨k, rfl, hk, hz, hst, hbw⟩ := hrel
      have hlen : (fosV (L.take k)).length = k := by unfold fosV; rw [List.length_map, List.length_take, HN.out]; omega
      obtain ⟨AO, cO, rfl, hcO, hown⟩ := hst.form
      rw [hlen] at hcO hst hown ⊢
      have HZ := Lib.hid hz; have HST := Lib.hid hst; have HBW := Lib.hid hbw; have HOW := Lib.hid hown; have HLEN := Lib.hid hlen
      have HW := Lib.hid (bnext HB1.out hbw)
      clear hz hst hown hlen
      by_cases hlt : k < n
      · have hkl : k < L.length := by rw [HN.out]; exact hlt
        obtain ⟨bb, rfl, ha⟩ := HXL.out (by intro e; rw [e] at hkl; exact absurd hkl (Nat.not_lt_zero _))
        have hp := List.getElem?_eq_getElem hkl
        obtain ⟨⟨nm, kv⟩, hxx⟩ : ∃ x, L[k] = x := ⟨_, rfl⟩
        rw [hxx] at hp
        obtain ⟨u, c0, c1, hkv⟩ := (ha.below hbw) k (nm, kv) hp
        have OK := HOK.out (nm, kv) (List.mem_of_getElem? hp)
        have few := OK.few
        simp only at few c0 hkv
        have HP := Lib.hid hp
        have GP := fun (W : World) (h : Below wr.heap.size wr W) => KR.get_c (str nm) u kv (by omega) (fun x hx => (OK.kv x hx).1) (str patB) W (hkv.below h)
        rw [bs_str (by unfold Byt patB; decide : Byt patB)] at GP
        have GX := fun (W : World) (h : Below wr.heap.size wr W) => KR.get_c (str nm) u kv (by omega) (fun x hx => (OK.kv x hx).1) (str xffB) W (hkv.below h)
        rw [bs_str (by unfold Byt xffB; decide : Byt xffB)] at GX
        have GA := fun (W : World) (h : Below wr.heap.size wr W) => KR.get_c (str nm) u kv (by omega) (fun x hx => (OK.kv x hx).1) (str aggB) W (hkv.below h)
        rw [bs_str (by unfold Byt aggB; decide : Byt aggB)] at GA
        have ONLY := fun (vk : Value) (W : World) (h : Below wr.heap.size wr W) (hk : TxOut W vk [patB, xffB, aggB]) => only_c (str nm) u vk kv [patB, xffB, aggB] (by omega) (fun x hx => (OK.kv x hx).1) (by decide) (by unfold Byt patB xffB aggB; decide) W (hkv.below h) hk
        have COMP := fun (W : World) => Nd.NR.compile_c (str ((getV kv patB).getD [])) (by rw [str_size]; have := (OK.val patB).2; simp only at this; omega) W
        rw [bs_str (OK.val patB).1] at COMP
        have BV : ∀ (k t : List Nat), getV kv k = some t → Byt t ∧ t.length ≤ 5000 := fun k t h => by
          have := OK.val k
          simp only at this
          rw [h] at this
          exact this
        have DX := fun (t : List Nat) (h : getV kv xffB = some t) (W : World) => De.DR.parse_c (str t) (by rw [str_size]; have := (BV _ _ h).2; omega) W
        have MX := fun (t : List Nat) (h : getV kv aggB = some t) (W : World) => method_c (str t) W
        have BYX := fun (t : List Nat) (h : getV kv xffB = some t) => (BV _ _ h).1
        have BYA := fun (t : List Nat) (h : getV kv aggB = some t) => (BV _ _ h).1
        have BYT : Byt nm ∧ Byt ((getV kv patB).getD []) := ⟨OK.nm, (OK.val patB).1⟩
        obtain ⟨A1, c1', rfl, -, -⟩ := id hkv
        obtain ⟨gd1, hg1⟩ : ∃ gd, (getV kv patB).isSome = gd := ⟨_, rfl⟩
        obtain ⟨od, hod⟩ : ∃ od, onlyV [patB, xffB, aggB] kv = od := ⟨_, rfl⟩
        have SV := folV_if (nm, kv) hg1 hod
        simp only at SV
        rw [hg1] at GP; rw [hod] at ONLY
        generalize kv.length = m at *
        obtain ⟨pt, hpt⟩ : ∃ pt, (getV kv patB).getD [] = pt := ⟨_, rfl⟩
        obtain ⟨ox, hox⟩ : ∃ ox, getV kv xffB = ox := ⟨_, rfl⟩
        obtain ⟨oa, hoa⟩ : ∃ oa, getV kv aggB = oa := ⟨_, rfl⟩
        obtain ⟨PT, hPT⟩ : ∃ PT, str pt = PT := ⟨_, rfl⟩
        obtain ⟨NM, hNM⟩ : ∃ NM, str nm = NM := ⟨_, rfl⟩
        rw [hpt] at GP COMP SV BYT
        rw [hox] at GX SV DX BYX
        rw [hoa] at GA SV MX BYA
        obtain ⟨E1, hE1⟩ : ∃ E1, (Nd.ndComp pt).2 = E1 := ⟨_, rfl⟩
        rw [hE1] at COMP SV
        rw [hPT] at GP COMP
        rw [hNM] at GP GX GA ONLY c0
        have G1 := Lib.hid GP; have G2 := Lib.hid GX; have G3 := Lib.hid GA; have O2 := Lib.hid ONLY; have C2 := Lib.hid COMP; have S2 := Lib.hid SV; have B2 := Lib.hid BYT; have D2 := Lib.hid DX; have M2 := Lib.hid MX; have BX2 := Lib.hid BYX; have BA2 := Lib.hid BYA
        have HPT := Lib.hid hPT; have HNM := Lib.hid hNM
        have BBK := Lib.hid (World.block_lt_of_cell? wr _ c0)
        clear GP GX GA ONLY COMP SV BYT DX MX BYX BYA BV hPT hNM hpt hox hoa hE1 hg1 hod hp hxx ha hkl hkv few OK
        have ERR := Lib.hid (fun (e : Int) (h : folV (nm, kv) = (Fol.none, e)) (he : e ≠ 0) => (show D = [] ∧ Z = e from by
          have := HSE.out k (nm, kv) trivial HP.out HZ.out (by rw [h]; exact he)
          rw [h] at this
          exact ⟨congrArg Prod.fst this, congrArg Prod.snd this⟩))
        cases gd1
        · have F := Lib.hid (ERR.out 7 (S2.out.trans (if_neg (by simp))) (by decide))
          clear HSE HSO HOK ERR HST HZ C2 O2 S2 G2 G3 D2 M2
          go_wp2_with fail
          refine (G1.out wr (Below.refl _ _)).mono ?_; rintro _ w2 ⟨rfl, hb2⟩
          have v0 := cellb hb2 c0; have v1 := cellb hb2 c1; have BB2 := Lib.hid hb2
          clear hb2 c0 c1
          go_wp2
          go_ret2
          exact ⟨_, ret_vi F.out.2.symm, by rw [F.out.1]; exact FoOut.nil _, bnext HW.out BB2.out⟩
        · have LST := Lib.hid (fun (W : World) (h : Below wr.heap.size wr W) => O2.out (.slice (some ⟨W.heap.size, 0, none⟩) 3 3) (W.alloc (.cells #[.string (str patB), .string (str xffB), .string (str aggB)] 9)) (bnext h (alloc_below _ _)) (tx_new W [patB, xffB, aggB] (by decide) 9))
          have e1 : str patB = ⟨#[112, 97, 116, 116, 101, 114, 110]⟩ := rfl
          have e2 : str xffB = ⟨#[120, 70, 105, 108, 101, 115, 70, 97, 99, 116, 111, 114]⟩ := rfl
          have e3 : str aggB = ⟨#[97, 103, 103, 114, 101, 103, 97, 116, 105, 111, 110, 77, 101, 116, 104, 111, 100]⟩ := rfl
          rw [e1, e2, e3] at LST
          clear e1 e2 e3 O2
          cases od
          · have F := Lib.hid (ERR.out 7 (S2.out.trans (if_neg (by simp))) (by decide))
            clear HSE HSO HOK ERR HST HZ C2 S2 G2 G3 D2 M2
            go_wp2_with fail
            refine (G1.out wr (Below.refl _ _)).mono ?_; rintro _ w2 ⟨rfl, hb2⟩
            have v0 := cellb hb2 c0; have v1 := cellb hb2 c1; have BB2 := Lib.hid hb2
            clear hb2 c0 c1
            go_wp2_with fail
            refine (LST.out w2 BB2.out).mono ?_; rintro _ w4 ⟨rfl, hb4⟩
            have hbq := bnext (alloc_below w2 (.cells #[.string ⟨#[112, 97, 116, 116, 101, 114, 110]⟩, .string ⟨#[120, 70, 105, 108, 101, 115, 70, 97, 99, 116, 111, 114]⟩, .string ⟨#[97, 103, 103, 114, 101, 103, 97, 116, 105, 111, 110, 77, 101, 116, 104, 111, 100]⟩] 9)) hb4
            have v0 := cellb hbq v0; have v1 := cellb hbq v1; have BB4 := Lib.hid (bnext BB2.out hbq)
            clear hb4 hbq
            go_wp2
            go_ret2
            exact ⟨_, ret_vi F.out.2.symm, by rw [F.out.1]; exact FoOut.nil _, bnext HW.out BB4.out⟩
          · have S3 := Lib.hid (S2.out.trans (if_pos ⟨rfl, rfl⟩))
            clear S2
            by_cases h1 : E1 = 0
            · subst h1
              have S4 := Lib.hid (S3.out.trans (if_neg (fun h => h rfl)))
              clear S3
              cases ox with
              | none =>
                have S5 := Lib.hid (show folV (nm, kv) = (if (aggV oa).2 ≠ 0 then (Fol.none, (aggV oa).2) else ((nm, pt, 500000, (aggV oa).1), 0)) from S4.out.trans (if_neg (fun h => h rfl)))
                clear S4 D2
                cases oa with
                | none =>
                  have HV2 := Lib.hid (show folV (nm, kv) = ((nm, pt, 500000, 1), 0) from S5.out)
                  have NEXT := Lib.hid (show (∀ y ∈ L.take (k + 1), (folV y).2 = 0) ∧ fosV (L.take (k + 1)) = fosV (L.take k) ++ [(nm, pt, 500000, 1)] from by
                    rw [List.take_add_one, HP.out]
                    simp only [Option.toList_some]
                    refine ⟨fun y hy => ?_, ?_⟩
                    · rcases List.mem_append.1 hy with hy | hy
                      · exact HZ.out y hy
                      · rw [List.mem_singleton.1 hy, HV2.out]
                    · unfold fosV
                      rw [List.map_append, List.map_cons, List.map_nil, HV2.out])
                  have PUSH := Lib.hid (fun (W1 : World) (h : Below wr.heap.size wr W1) =>
                    (show ∃ xs, W1.ownsRow w1.heap.size 74 4 (.slice AO k cO) k xs ∧ ∀ (g cap : Nat) (w2 : World), w2.ownsRow w1.heap.size 74 4 (.slice (some ⟨g, 0, none⟩) (k + 1) cap) (k + 1) (xs ++ [.string NM, .string PT, .int .i64 500000, .int .i64 1]) → W1.grownBy w2 (Value.ownBlock (.slice AO k cO)) → FoNew w1.heap.size w2 (.slice (some ⟨g, 0, none⟩) (k + 1) cap) (fosV (L.take (k + 1))) ∧ Below w1.heap.size w1 w2 from by
                      have hz := FoNew.push (w1 := W1) (s := (nm, pt, 500000, 1)) HST.out h B2.out
                      rw [HLEN.out] at hz
                      obtain ⟨xs, hr, hf⟩ := hz
                      refine ⟨xs, hr, fun g cap w2 ho hg => ⟨?_, ?_⟩⟩
                      · rw [NEXT.out.2]
                        exact hf g cap w2 (by rw [HNM.out, HPT.out]; exact ho)
                      · exact (HBW.out.trans (h.mono HBW.out.size)).grown hg (Nat.le_trans HBW.out.size h.size) (fun j ej => (HOW.out j ej).1)))
                  clear HSE HSO HOK S5 ERR HST HZ
                  go_wp2_with fail
                  refine (G1.out wr (Below.refl _ _)).mono ?_; rintro _ w2 ⟨rfl, hb2⟩
                  have v0 := cellb hb2 c0; have v1 := cellb hb2 c1; have BB2 := Lib.hid hb2
                  clear hb2 c0 c1
                  go_wp2_with fail
                  refine (LST.out w2 BB2.out).mono ?_; rintro _ w4 ⟨rfl, hb4⟩
                  have hbq := bnext (alloc_below w2 (.cells #[.string ⟨#[112, 97, 116, 116, 101, 114, 110]⟩, .string ⟨#[120, 70, 105, 108, 101, 115, 70, 97, 99, 116, 111, 114]⟩, .string ⟨#[97, 103, 103, 114, 101, 103, 97, 116, 105, 111, 110, 77, 101, 116, 104, 111, 100]⟩] 9)) hb4
                  have v0 := cellb hbq v0; have v1 := cellb hbq v1; have BB4 := Lib.hid (bnext BB2.out hbq)
                  clear hb4 hbq
                  go_wp2_with fail
                  refine (C2.out w4).mono ?_; rintro _ w5 ⟨nv, rfl, hnv, -, -, hb5⟩
                  obtain ⟨s1, f1, A5, n5, c5, rfl⟩ := needle_form hnv
                  have hbq := bnext hb5 (alloc_below w5 (.cells #[.bool s1, .bool f1, .slice A5 n5 c5] 67))
                  have v0 := cellb hbq v0; have v1 := cellb hbq v1; have BB5 := Lib.hid (bnext BB4.out hbq)
                  clear hb5 hbq hnv
                  obtain ⟨wq, hwq⟩ : ∃ wq, w5.alloc (.cells #[.bool s1, .bool f1, .slice A5 n5 c5] 67) = wq := ⟨_, rfl⟩
                  rw [hwq] at v0 v1 BB5
                  have j0 := v0; have j1 := v1
                  obtain ⟨wf, hwf⟩ : ∃ wf, wq.alloc (.cells #[.string NM, .string PT, .int .i64 500000, .int .i64 1] 74) = wf := ⟨_, rfl⟩
                  have ST := Lib.hid (FrSt.new (W := wq) (f0 := .string NM) (f1 := .string PT) (f2 := .int .i64 500000) (f3 := .int .i64 1) v0 v1)
                  have BB6 := Lib.hid (bnext BB5.out (alloc_below wq (.cells #[.string NM, .string PT, .int .i64 500000, .int .i64 1] 74)))
                  have FB := Lib.hid (show bb ≠ wq.heap.size from by have := BBK.out; have := BB5.out.size; omega)
                  have FL := Lib.hid BB5.out.size
                  rw [hwf] at ST BB6
                  clear v0 v1
                  obtain ⟨⟨q0, q1, q2, q3⟩, ⟨g0, g1, g2, g3⟩, v0, v1⟩ := ST.out.facts
                  go_wp2_with fail
                  (try rw [hwq]); (try rw [hwf])
                  clear hwq hwf j0 j1
                  refine (G2.out wf BB6.out).mono ?_; rintro _ w7 ⟨rfl, hb7⟩
                  have ST := Lib.hid (ST.out.below hb7); have BB7 := Lib.hid (bnext BB6.out hb7)
                  clear hb7
                  clear q0 q1 q2 q3 g0 g1 g2 g3 v0 v1
                  obtain ⟨⟨q0, q1, q2, q3⟩, ⟨g0, g1, g2, g3⟩, v0, v1⟩ := ST.out.facts
                  go_wp2_with fail
                  refine (G3.out w7 BB7.out).mono ?_; rintro _ wa ⟨rfl, hba⟩
                  clear q0 q1 q2 q3 g0 g1 g2 g3 v0 v1
                  have ST := Lib.hid (ST.out.below hba); have BBA := Lib.hid (bnext BB7.out hba)
                  clear hba
                  obtain ⟨⟨q0, q1, q2, q3⟩, ⟨g0, g1, g2, g3⟩, v0, v1⟩ := ST.out.facts
                  have BD := Lib.hid (alloc_below wa (.cells #[.string NM, .string PT, .int .i64 500000, .int .i64 1] 74))
                  have PU := Lib.hid (PUSH.out (wa.alloc (.cells #[.string NM, .string PT, .int .i64 500000, .int .i64 1] 74)) (bnext BBA.out BD.out))
                  have NEWS := Lib.hid (row_newsd wa [.string NM, .string PT, .int .i64 500000, .int .i64 1] 74 wa.heap.size (by simp))
                  have HBS := Lib.hid (Nat.le_trans HBW.out.size (bnext BBA.out BD.out).size)
                  go_wp2_with (at_builtin; obtain ⟨xs, hrow, hfin⟩ := PU.out; refine wpList_append_lies _ rfl (.tmp 113) (.tmp 115) _ rfl w1.heap.size 74 i0 (.agg #[.string ⟨#[]⟩, .string ⟨#[]⟩, .int .i64 0, .int .i64 0]) 4 48 Tryz.underlying27 hi0 hz0 hz1 hz2 rfl (by decide) (.slice AO k cO) k xs rfl hrow ⟨wa.heap.size, 0, none⟩ 1 1 [.string NM, .string PT, .int .i64 500000, .int .i64 1] rfl rfl NEWS.out (by simp [Value.oneCell']) (by decide) (by simp only [maxLen]; omega) (by omega) HBS.out _ rfl ?_; intro g9 cap9 w9 hown9 hg9 hat9 hlt9; have FN := Lib.hid (hfin g9 cap9 w9 hown9 hg9); clear hown9 hg9 hat9 hlt9 hfin hrow)
                  go_roundw
                  case rel => exact ⟨k + 1, by go_num, by omega, NEXT.out.1, FN.out.1, FN.out.2⟩
                  case measure => simp [intOf]; omega
                | some ta =>
                  have D4 := M2.out ta rfl
                  rw [bs_str (BA2.out ta rfl)] at D4
                  obtain ⟨⟨M, bo⟩, hm⟩ : ∃ m, mNum ta = m := ⟨_, rfl⟩
                  rw [hm] at D4
                  obtain ⟨TA, hTA⟩ : ∃ T, str ta = T := ⟨_, rfl⟩
                  simp only [Option.getD_some, Option.isSome_some] at G3
                  rw [hTA] at D4 G3
                  have D5 := Lib.hid D4
                  clear D4 hTA
                  cases bo
                  · have S6 := Lib.hid (show folV (nm, kv) = (Fol.none, 7) from S5.out.trans (by rw [agg_no hm]; rfl))
                    have F := Lib.hid (ERR.out 7 S6.out (by decide))
                    clear hm S5 S6
                    clear HSE HSO HOK ERR HST HZ
                    go_wp2_with fail
                    refine (G1.out wr (Below.refl _ _)).mono ?_; rintro _ w2 ⟨rfl, hb2⟩
                    have v0 := cellb hb2 c0; have v1 := cellb hb2 c1; have BB2 := Lib.hid hb2
                    clear hb2 c0 c1
                    go_wp2_with fail
                    refine (LST.out w2 BB2.out).mono ?_; rintro _ w4 ⟨rfl, hb4⟩
                    have hbq := bnext (alloc_below w2 (.cells #[.string ⟨#[112, 97, 116, 116, 101, 114, 110]⟩, .string ⟨#[120, 70, 105, 108, 101, 115, 70, 97, 99, 116, 111, 114]⟩, .string ⟨#[97, 103, 103, 114, 101, 103, 97, 116, 105, 111, 110, 77, 101, 116, 104, 111, 100]⟩] 9)) hb4
                    have v0 := cellb hbq v0; have v1 := cellb hbq v1; have BB4 := Lib.hid (bnext BB2.out hbq)
                    clear hb4 hbq
                    go_wp2_with fail
                    refine (C2.out w4).mono ?_; rintro _ w5 ⟨nv, rfl, hnv, -, -, hb5⟩
                    obtain ⟨s1, f1, A5, n5, c5, rfl⟩ := needle_form hnv
                    have hbq := bnext hb5 (alloc_below w5 (.cells #[.bool s1, .bool f1, .slice A5 n5 c5] 67))
                    have v0 := cellb hbq v0; have v1 := cellb hbq v1; have BB5 := Lib.hid (bnext BB4.out hbq)
                    clear hb5 hbq hnv
                    obtain ⟨wq, hwq⟩ : ∃ wq, w5.alloc (.cells #[.bool s1, .bool f1, .slice A5 n5 c5] 67) = wq := ⟨_, rfl⟩
                    rw [hwq] at v0 v1 BB5
                    have j0 := v0; have j1 := v1
                    obtain ⟨wf, hwf⟩ : ∃ wf, wq.alloc (.cells #[.string NM, .string PT, .int .i64 500000, .int .i64 1] 74) = wf := ⟨_, rfl⟩
                    have ST := Lib.hid (FrSt.new (W := wq) (f0 := .string NM) (f1 := .string PT) (f2 := .int .i64 500000) (f3 := .int .i64 1) v0 v1)
                    have BB6 := Lib.hid (bnext BB5.out (alloc_below wq (.cells #[.string NM, .string PT, .int .i64 500000, .int .i64 1] 74)))
                    have FB := Lib.hid (show bb ≠ wq.heap.size from by have := BBK.out; have := BB5.out.size; omega)
                    have FL := Lib.hid BB5.out.size
                    rw [hwf] at ST BB6
                    clear v0 v1
                    obtain ⟨⟨q0, q1, q2, q3⟩, ⟨g0, g1, g2, g3⟩, v0, v1⟩ := ST.out.facts
                    go_wp2_with fail
                    (try rw [hwq]); (try rw [hwf])
                    clear hwq hwf j0 j1
                    refine (G2.out wf BB6.out).mono ?_; rintro _ w7 ⟨rfl, hb7⟩
                    have ST := Lib.hid (ST.out.below hb7); have BB7 := Lib.hid (bnext BB6.out hb7)
                    clear hb7
                    clear q0 q1 q2 q3 g0 g1 g2 g3 v0 v1
                    obtain ⟨⟨q0, q1, q2, q3⟩, ⟨g0, g1, g2, g3⟩, v0, v1⟩ := ST.out.facts
                    go_wp2_with fail
                    refine (G3.out w7 BB7.out).mono ?_; rintro _ wa ⟨rfl, hba⟩
                    clear q0 q1 q2 q3 g0 g1 g2 g3 v0 v1
                    have ST := Lib.hid (ST.out.below hba); have BBA := Lib.hid (bnext BB7.out hba)
                    clear hba
                    obtain ⟨⟨q0, q1, q2, q3⟩, ⟨g0, g1, g2, g3⟩, v0, v1⟩ := ST.out.facts
                    go_wp2_with fail
                    refine (D5.out wa).mono ?_; rintro _ wm ⟨rfl, hbm⟩
                    clear q0 q1 q2 q3 g0 g1 g2 g3 v0 v1
                    have ST := Lib.hid (ST.out.below hbm); have BBM := Lib.hid (bnext BBA.out hbm)
                    clear hbm
                    obtain ⟨⟨q0, q1, q2, q3⟩, ⟨g0, g1, g2, g3⟩, v0, v1⟩ := ST.out.facts
                    go_wp2
                    go_ret2
                    exact ⟨_, ret_vi F.out.2.symm, by rw [F.out.1]; exact FoOut.nil _, bnext HW.out BBM.out⟩
                  · have S6 := Lib.hid (show folV (nm, kv) = ((nm, pt, 500000, M), 0) from S5.out.trans (by rw [agg_yes hm]; rfl))
                    clear hm S5
                    have S5 := S6
                    clear S6
                    have HV2 := Lib.hid (show folV (nm, kv) = ((nm, pt, 500000, M), 0) from S5.out)
                    have NEXT := Lib.hid (show (∀ y ∈ L.take (k + 1), (folV y).2 = 0) ∧ fosV (L.take (k + 1)) = fosV (L.take k) ++ [(nm, pt, 500000, M)] from by
                      rw [List.take_add_one, HP.out]
                      simp only [Option.toList_some]
                      refine ⟨fun y hy => ?_, ?_⟩
                      · rcases List.mem_append.1 hy with hy | hy
                        · exact HZ.out y hy
                        · rw [List.mem_singleton.1 hy, HV2.out]
                      · unfold fosV
                        rw [List.map_append, List.map_cons, List.map_nil, HV2.out])
                    have PUSH := Lib.hid (fun (W1 : World) (h : Below wr.heap.size wr W1) =>
                      (show ∃ xs, W1.ownsRow w1.heap.size 74 4 (.slice AO k cO) k xs ∧ ∀ (g cap : Nat) (w2 : World), w2.ownsRow w1.heap.size 74 4 (.slice (some ⟨g, 0, none⟩) (k + 1) cap) (k + 1) (xs ++ [.string NM, .string PT, .int .i64 500000, .int .i64 M]) → W1.grownBy w2 (Value.ownBlock (.slice AO k cO)) → FoNew w1.heap.size w2 (.slice (some ⟨g, 0, none⟩) (k + 1) cap) (fosV (L.take (k + 1))) ∧ Below w1.heap.size w1 w2 from by
                        have hz := FoNew.push (w1 := W1) (s := (nm, pt, 500000, M)) HST.out h B2.out
                        rw [HLEN.out] at hz
                        obtain ⟨xs, hr, hf⟩ := hz
                        refine ⟨xs, hr, fun g cap w2 ho hg => ⟨?_, ?_⟩⟩
                        · rw [NEXT.out.2]
                          exact hf g cap w2 (by rw [HNM.out, HPT.out]; exact ho)
                        · exact (HBW.out.trans (h.mono HBW.out.size)).grown hg (Nat.le_trans HBW.out.size h.size) (fun j ej => (HOW.out j ej).1)))
                    clear HSE HSO HOK S5 ERR HST HZ
                    go_wp2_with fail
                    refine (G1.out wr (Below.refl _ _)).mono ?_; rintro _ w2 ⟨rfl, hb2⟩
                    have v0 := cellb hb2 c0; have v1 := cellb hb2 c1; have BB2 := Lib.hid hb2
                    clear hb2 c0 c1
                    go_wp2_with fail
                    refine (LST.out w2 BB2.out).mono ?_; rintro _ w4 ⟨rfl, hb4⟩
                    have hbq := bnext (alloc_below w2 (.cells #[.string ⟨#[112, 97, 116, 116, 101, 114, 110]⟩, .string ⟨#[120, 70, 105, 108, 101, 115, 70, 97, 99, 116, 111, 114]⟩, .string ⟨#[97, 103, 103, 114, 101, 103, 97, 116, 105, 111, 110, 77, 101, 116, 104, 111, 100]⟩] 9)) hb4
                    have v0 := cellb hbq v0; have v1 := cellb hbq v1; have BB4 := Lib.hid (bnext BB2.out hbq)
                    clear hb4 hbq
                    go_wp2_with fail
                    refine (C2.out w4).mono ?_; rintro _ w5 ⟨nv, rfl, hnv, -, -, hb5⟩
                    obtain ⟨s1, f1, A5, n5, c5, rfl⟩ := needle_form hnv
                    have hbq := bnext hb5 (alloc_below w5 (.cells #[.bool s1, .bool f1, .slice A5 n5 c5] 67))
                    have v0 := cellb hbq v0; have v1 := cellb hbq v1; have BB5 := Lib.hid (bnext BB4.out hbq)
                    clear hb5 hbq hnv
                    obtain ⟨wq, hwq⟩ : ∃ wq, w5.alloc (.cells #[.bool s1, .bool f1, .slice A5 n5 c5] 67) = wq := ⟨_, rfl⟩
                    rw [hwq] at v0 v1 BB5
                    have j0 := v0; have j1 := v1
                    obtain ⟨wf, hwf⟩ : ∃ wf, wq.alloc (.cells #[.string NM, .string PT, .int .i64 500000, .int .i64 1] 74) = wf := ⟨_, rfl⟩
                    have ST := Lib.hid (FrSt.new (W := wq) (f0 := .string NM) (f1 := .string PT) (f2 := .int .i64 500000) (f3 := .int .i64 1) v0 v1)
                    have BB6 := Lib.hid (bnext BB5.out (alloc_below wq (.cells #[.string NM, .string PT, .int .i64 500000, .int .i64 1] 74)))
                    have FB := Lib.hid (show bb ≠ wq.heap.size from by have := BBK.out; have := BB5.out.size; omega)
                    have FL := Lib.hid BB5.out.size
                    rw [hwf] at ST BB6
                    clear v0 v1
                    obtain ⟨⟨q0, q1, q2, q3⟩, ⟨g0, g1, g2, g3⟩, v0, v1⟩ := ST.out.facts
                    go_wp2_with fail
                    (try rw [hwq]); (try rw [hwf])
                    clear hwq hwf j0 j1
                    refine (G2.out wf BB6.out).mono ?_; rintro _ w7 ⟨rfl, hb7⟩
                    have ST := Lib.hid (ST.out.below hb7); have BB7 := Lib.hid (bnext BB6.out hb7)
                    clear hb7
                    clear q0 q1 q2 q3 g0 g1 g2 g3 v0 v1
                    obtain ⟨⟨q0, q1, q2, q3⟩, ⟨g0, g1, g2, g3⟩, v0, v1⟩ := ST.out.facts
                    go_wp2_with fail
                    refine (G3.out w7 BB7.out).mono ?_; rintro _ wa ⟨rfl, hba⟩
                    clear q0 q1 q2 q3 g0 g1 g2 g3 v0 v1
                    have ST := Lib.hid (ST.out.below hba); have BBA := Lib.hid (bnext BB7.out hba)
                    clear hba
                    obtain ⟨⟨q0, q1, q2, q3⟩, ⟨g0, g1, g2, g3⟩, v0, v1⟩ := ST.out.facts
                    go_wp2_with fail
                    refine (D5.out wa).mono ?_; rintro _ wm ⟨rfl, hbm⟩
                    clear q0 q1 q2 q3 g0 g1 g2 g3 v0 v1
                    have ST := Lib.hid (ST.out.below hbm); have BBM := Lib.hid (bnext BBA.out hbm)
                    clear hbm
                    obtain ⟨⟨q0, q1, q2, q3⟩, ⟨g0, g1, g2, g3⟩, v0, v1⟩ := ST.out.facts
                    have BBN := Lib.hid (BBM.out.setCell (p := ⟨wq.heap.size, 3, none⟩) FL.out (.int .i64 M))
                    have BD := Lib.hid (alloc_below (wm.setCell ⟨wq.heap.size, 3, none⟩ (.int .i64 M)) (.cells #[.string NM, .string PT, .int .i64 500000, .int .i64 M] 74))
                    have PU := Lib.hid (PUSH.out ((wm.setCell ⟨wq.heap.size, 3, none⟩ (.int .i64 M)).alloc (.cells #[.string NM, .string PT, .int .i64 500000, .int .i64 M] 74)) (bnext BBN.out BD.out))
                    have NEWS := Lib.hid (row_newsd (wm.setCell ⟨wq.heap.size, 3, none⟩ (.int .i64 M)) [.string NM, .string PT, .int .i64 500000, .int .i64 M] 74 wm.heap.size (by simp))
                    have HBS := Lib.hid (Nat.le_trans HBW.out.size (bnext BBN.out BD.out).size)
                    go_wp2_with (at_builtin; obtain ⟨xs, hrow, hfin⟩ := PU.out; refine wpList_append_lies _ rfl (.tmp 113) (.tmp 115) _ rfl w1.heap.size 74 i0 (.agg #[.string ⟨#[]⟩, .string ⟨#[]⟩, .int .i64 0, .int .i64 0]) 4 48 Tryz.underlying27 hi0 hz0 hz1 hz2 rfl (by decide) (.slice AO k cO) k xs rfl hrow ⟨wm.heap.size, 0, none⟩ 1 1 [.string NM, .string PT, .int .i64 500000, .int .i64 M] rfl rfl NEWS.out (by simp [Value.oneCell']) (by decide) (by simp only [maxLen]; omega) (by omega) HBS.out _ rfl ?_; intro g9 cap9 w9 hown9 hg9 hat9 hlt9; have FN := Lib.hid (hfin g9 cap9 w9 hown9 hg9); clear hown9 hg9 hat9 hlt9 hfin hrow)
                    go_roundw
                    case rel => exact ⟨k + 1, by go_num, by omega, NEXT.out.1, FN.out.1, FN.out.2⟩
                    case measure => simp [intOf]; omega
              | some tx =>
                have DX := D2.out tx rfl
                rw [bs_str (BX2.out tx rfl)] at DX
                obtain ⟨⟨V, E⟩, hV⟩ : ∃ m, refP tx = m := ⟨_, rfl⟩
                rw [hV] at DX
                obtain ⟨TX, hTX⟩ : ∃ T, str tx = T := ⟨_, rfl⟩
                simp only [Option.getD_some, Option.isSome_some] at G2
                rw [hTX] at DX G2
                have D3 := Lib.hid DX
                clear DX hTX D2
                by_cases h0 : E = 0
                · subst h0
                  by_cases hv0 : V < 0
                  · have S5 := Lib.hid (show folV (nm, kv) = (Fol.none, 3) from S4.out.trans (by rw [xff_far hV (by omega)]; rfl))
                    have F := Lib.hid (ERR.out 3 S5.out (by decide))
                    clear hV S4 S5 G3 M2
                    clear HSE HSO HOK ERR HST HZ
                    go_wp2_with fail
                    refine (G1.out wr (Below.refl _ _)).mono ?_; rintro _ w2 ⟨rfl, hb2⟩
                    have v0 := cellb hb2 c0; have v1 := cellb hb2 c1; have BB2 := Lib.hid hb2
                    clear hb2 c0 c1
                    go_wp2_with fail
                    refine (LST.out w2 BB2.out).mono ?_; rintro _ w4 ⟨rfl, hb4⟩
                    have hbq := bnext (alloc_below w2 (.cells #[.string ⟨#[112, 97, 116, 116, 101, 114, 110]⟩, .string ⟨#[120, 70, 105, 108, 101, 115, 70, 97, 99, 116, 111, 114]⟩, .string ⟨#[97, 103, 103, 114, 101, 103, 97, 116, 105, 111, 110, 77, 101, 116, 104, 111, 100]⟩] 9)) hb4
                    have v0 := cellb hbq v0; have v1 := cellb hbq v1; have BB4 := Lib.hid (bnext BB2.out hbq)
                    clear hb4 hbq
                    go_wp2_with fail
                    refine (C2.out w4).mono ?_; rintro _ w5 ⟨nv, rfl, hnv, -, -, hb5⟩
                    obtain ⟨s1, f1, A5, n5, c5, rfl⟩ := needle_form hnv
                    have hbq := bnext hb5 (alloc_below w5 (.cells #[.bool s1, .bool f1, .slice A5 n5 c5] 67))
                    have v0 := cellb hbq v0; have v1 := cellb hbq v1; have BB5 := Lib.hid (bnext BB4.out hbq)
                    clear hb5 hbq hnv
                    obtain ⟨wq, hwq⟩ : ∃ wq, w5.alloc (.cells #[.bool s1, .bool f1, .slice A5 n5 c5] 67) = wq := ⟨_, rfl⟩
                    rw [hwq] at v0 v1 BB5
                    have j0 := v0; have j1 := v1
                    obtain ⟨wf, hwf⟩ : ∃ wf, wq.alloc (.cells #[.string NM, .string PT, .int .i64 500000, .int .i64 1] 74) = wf := ⟨_, rfl⟩
                    have ST := Lib.hid (FrSt.new (W := wq) (f0 := .string NM) (f1 := .string PT) (f2 := .int .i64 500000) (f3 := .int .i64 1) v0 v1)
                    have BB6 := Lib.hid (bnext BB5.out (alloc_below wq (.cells #[.string NM, .string PT, .int .i64 500000, .int .i64 1] 74)))
                    have FB := Lib.hid (show bb ≠ wq.heap.size from by have := BBK.out; have := BB5.out.size; omega)
                    have FL := Lib.hid BB5.out.size
                    rw [hwf] at ST BB6
                    clear v0 v1
                    obtain ⟨⟨q0, q1, q2, q3⟩, ⟨g0, g1, g2, g3⟩, v0, v1⟩ := ST.out.facts
                    go_wp2_with fail
                    (try rw [hwq]); (try rw [hwf])
                    clear hwq hwf j0 j1
                    refine (G2.out wf BB6.out).mono ?_; rintro _ w7 ⟨rfl, hb7⟩
                    have ST := Lib.hid (ST.out.below hb7); have BB7 := Lib.hid (bnext BB6.out hb7)
                    clear hb7
                    clear q0 q1 q2 q3 g0 g1 g2 g3 v0 v1
                    obtain ⟨⟨q0, q1, q2, q3⟩, ⟨g0, g1, g2, g3⟩, v0, v1⟩ := ST.out.facts
                    go_wp2_with fail
                    refine (D3.out w7).mono ?_; rintro _ w8 ⟨rfl, hb8⟩
                    clear q0 q1 q2 q3 g0 g1 g2 g3 v0 v1
                    have hbq := bnext hb8 (alloc_below w8 (.cells #[.bool false, .int .i64 V] 77))
                    have ST := Lib.hid (ST.out.below hbq); have BB8 := Lib.hid (bnext BB7.out hbq)
                    clear hb8 hbq
                    obtain ⟨⟨q0, q1, q2, q3⟩, ⟨g0, g1, g2, g3⟩, v0, v1⟩ := ST.out.facts
                    go_wp2
                    go_ret2
                    exact ⟨_, ret_vi F.out.2.symm, by rw [F.out.1]; exact FoOut.nil _, bnext HW.out BB8.out⟩
                  · by_cases hv1 : 1000000 < V
                    · have S5 := Lib.hid (show folV (nm, kv) = (Fol.none, 3) from S4.out.trans (by rw [xff_far hV (by omega)]; rfl))
                      have F := Lib.hid (ERR.out 3 S5.out (by decide))
                      clear hV S4 S5 G3 M2
                      clear HSE HSO HOK ERR HST HZ
                      go_wp2_with fail
                      refine (G1.out wr (Below.refl _ _)).mono ?_; rintro _ w2 ⟨rfl, hb2⟩
                      have v0 := cellb hb2 c0; have v1 := cellb hb2 c1; have BB2 := Lib.hid hb2
                      clear hb2 c0 c1
                      go_wp2_with fail
                      refine (LST.out w2 BB2.out).mono ?_; rintro _ w4 ⟨rfl, hb4⟩
                      have hbq := bnext (alloc_below w2 (.cells #[.string ⟨#[112, 97, 116, 116, 101, 114, 110]⟩, .string ⟨#[120, 70, 105, 108, 101, 115, 70, 97, 99, 116, 111, 114]⟩, .string ⟨#[97, 103, 103, 114, 101, 103, 97, 116, 105, 111, 110, 77, 101, 116, 104, 111, 100]⟩] 9)) hb4
                      have v0 := cellb hbq v0; have v1 := cellb hbq v1; have BB4 := Lib.hid (bnext BB2.out hbq)
                      clear hb4 hbq
                      go_wp2_with fail
                      refine (C2.out w4).mono ?_; rintro _ w5 ⟨nv, rfl, hnv, -, -, hb5⟩
                      obtain ⟨s1, f1, A5, n5, c5, rfl⟩ := needle_form hnv
                      have hbq := bnext hb5 (alloc_below w5 (.cells #[.bool s1, .bool f1, .slice A5 n5 c5] 67))
                      have v0 := cellb hbq v0; have v1 := cellb hbq v1; have BB5 := Lib.hid (bnext BB4.out hbq)
                      clear hb5 hbq hnv
                      obtain ⟨wq, hwq⟩ : ∃ wq, w5.alloc (.cells #[.bool s1, .bool f1, .slice A5 n5 c5] 67) = wq := ⟨_, rfl⟩
                      rw [hwq] at v0 v1 BB5
                      have j0 := v0; have j1 := v1
                      obtain ⟨wf, hwf⟩ : ∃ wf, wq.alloc (.cells #[.string NM, .string PT, .int .i64 500000, .int .i64 1] 74) = wf := ⟨_, rfl⟩
                      have ST := Lib.hid (FrSt.new (W := wq) (f0 := .string NM) (f1 := .string PT) (f2 := .int .i64 500000) (f3 := .int .i64 1) v0 v1)
                      have BB6 := Lib.hid (bnext BB5.out (alloc_below wq (.cells #[.string NM, .string PT, .int .i64 500000, .int .i64 1] 74)))
                      have FB := Lib.hid (show bb ≠ wq.heap.size from by have := BBK.out; have := BB5.out.size; omega)
                      have FL := Lib.hid BB5.out.size
                      rw [hwf] at ST BB6
                      clear v0 v1
                      obtain ⟨⟨q0, q1, q2, q3⟩, ⟨g0, g1, g2, g3⟩, v0, v1⟩ := ST.out.facts
                      go_wp2_with fail
                      (try rw [hwq]); (try rw [hwf])
                      clear hwq hwf j0 j1
                      refine (G2.out wf BB6.out).mono ?_; rintro _ w7 ⟨rfl, hb7⟩
                      have ST := Lib.hid (ST.out.below hb7); have BB7 := Lib.hid (bnext BB6.out hb7)
                      clear hb7
                      clear q0 q1 q2 q3 g0 g1 g2 g3 v0 v1
                      obtain ⟨⟨q0, q1, q2, q3⟩, ⟨g0, g1, g2, g3⟩, v0, v1⟩ := ST.out.facts
                      go_wp2_with fail
                      refine (D3.out w7).mono ?_; rintro _ w8 ⟨rfl, hb8⟩
                      clear q0 q1 q2 q3 g0 g1 g2 g3 v0 v1
                      have hbq := bnext hb8 (alloc_below w8 (.cells #[.bool false, .int .i64 V] 77))
                      have ST := Lib.hid (ST.out.below hbq); have BB8 := Lib.hid (bnext BB7.out hbq)
                      clear hb8 hbq
                      obtain ⟨⟨q0, q1, q2, q3⟩, ⟨g0, g1, g2, g3⟩, v0, v1⟩ := ST.out.facts
                      go_wp2
                      go_ret2
                      exact ⟨_, ret_vi F.out.2.symm, by rw [F.out.1]; exact FoOut.nil _, bnext HW.out BB8.out⟩
                    · have S5 := Lib.hid (show folV (nm, kv) = (if (aggV oa).2 ≠ 0 then (Fol.none, (aggV oa).2) else ((nm, pt, V, (aggV oa).1), 0)) from S4.out.trans (by rw [xff_in hV (by omega)]; exact if_neg (fun h => h rfl)))
                      clear hV S4
                      cases oa with
                      | none =>
                        have HV2 := Lib.hid (show folV (nm, kv) = ((nm, pt, V, 1), 0) from S5.out)
                        have NEXT := Lib.hid (show (∀ y ∈ L.take (k + 1), (folV y).2 = 0) ∧ fosV (L.take (k + 1)) = fosV (L.take k) ++ [(nm, pt, V, 1)] from by
                          rw [List.take_add_one, HP.out]
                          simp only [Option.toList_some]
                          refine ⟨fun y hy => ?_, ?_⟩
                          · rcases List.mem_append.1 hy with hy | hy
                            · exact HZ.out y hy
                            · rw [List.mem_singleton.1 hy, HV2.out]
                          · unfold fosV
                            rw [List.map_append, List.map_cons, List.map_nil, HV2.out])
                        have PUSH := Lib.hid (fun (W1 : World) (h : Below wr.heap.size wr W1) =>
                          (show ∃ xs, W1.ownsRow w1.heap.size 74 4 (.slice AO k cO) k xs ∧ ∀ (g cap : Nat) (w2 : World), w2.ownsRow w1.heap.size 74 4 (.slice (some ⟨g, 0, none⟩) (k + 1) cap) (k + 1) (xs ++ [.string NM, .string PT, .int .i64 V, .int .i64 1]) → W1.grownBy w2 (Value.ownBlock (.slice AO k cO)) → FoNew w1.heap.size w2 (.slice (some ⟨g, 0, none⟩) (k + 1) cap) (fosV (L.take (k + 1))) ∧ Below w1.heap.size w1 w2 from by
                            have hz := FoNew.push (w1 := W1) (s := (nm, pt, V, 1)) HST.out h B2.out
                            rw [HLEN.out] at hz
                            obtain ⟨xs, hr, hf⟩ := hz
                            refine ⟨xs, hr, fun g cap w2 ho hg => ⟨?_, ?_⟩⟩
                            · rw [NEXT.out.2]
                              exact hf g cap w2 (by rw [HNM.out, HPT.out]; exact ho)
                            · exact (HBW.out.trans (h.mono HBW.out.size)).grown hg (Nat.le_trans HBW.out.size h.size) (fun j ej => (HOW.out j ej).1)))
                        clear HSE HSO HOK S5 ERR HST HZ
                        go_wp2_with fail
                        refine (G1.out wr (Below.refl _ _)).mono ?_; rintro _ w2 ⟨rfl, hb2⟩
                        have v0 := cellb hb2 c0; have v1 := cellb hb2 c1; have BB2 := Lib.hid hb2
                        clear hb2 c0 c1
                        go_wp2_with fail
                        refine (LST.out w2 BB2.out).mono ?_; rintro _ w4 ⟨rfl, hb4⟩
                        have hbq := bnext (alloc_below w2 (.cells #[.string ⟨#[112, 97, 116, 116, 101, 114, 110]⟩, .string ⟨#[120, 70, 105, 108, 101, 115, 70, 97, 99, 116, 111, 114]⟩, .string ⟨#[97, 103, 103, 114, 101, 103, 97, 116, 105, 111, 110, 77, 101, 116, 104, 111, 100]⟩] 9)) hb4
                        have v0 := cellb hbq v0; have v1 := cellb hbq v1; have BB4 := Lib.hid (bnext BB2.out hbq)
                        clear hb4 hbq
                        go_wp2_with fail
                        refine (C2.out w4).mono ?_; rintro _ w5 ⟨nv, rfl, hnv, -, -, hb5⟩
                        obtain ⟨s1, f1, A5, n5, c5, rfl⟩ := needle_form hnv
                        have hbq := bnext hb5 (alloc_below w5 (.cells #[.bool s1, .bool f1, .slice A5 n5 c5] 67))
                        have v0 := cellb hbq v0; have v1 := cellb hbq v1; have BB5 := Lib.hid (bnext BB4.out hbq)
                        clear hb5 hbq hnv
                        obtain ⟨wq, hwq⟩ : ∃ wq, w5.alloc (.cells #[.bool s1, .bool f1, .slice A5 n5 c5] 67) = wq := ⟨_, rfl⟩
                        rw [hwq] at v0 v1 BB5
                        have j0 := v0; have j1 := v1
                        obtain ⟨wf, hwf⟩ : ∃ wf, wq.alloc (.cells #[.string NM, .string PT, .int .i64 500000, .int .i64 1] 74) = wf := ⟨_, rfl⟩
                        have ST := Lib.hid (FrSt.new (W := wq) (f0 := .string NM) (f1 := .string PT) (f2 := .int .i64 500000) (f3 := .int .i64 1) v0 v1)
                        have BB6 := Lib.hid (bnext BB5.out (alloc_below wq (.cells #[.string NM, .string PT, .int .i64 500000, .int .i64 1] 74)))
                        have FB := Lib.hid (show bb ≠ wq.heap.size from by have := BBK.out; have := BB5.out.size; omega)
                        have FL := Lib.hid BB5.out.size
                        rw [hwf] at ST BB6
                        clear v0 v1
                        obtain ⟨⟨q0, q1, q2, q3⟩, ⟨g0, g1, g2, g3⟩, v0, v1⟩ := ST.out.facts
                        go_wp2_with fail
                        (try rw [hwq]); (try rw [hwf])
                        clear hwq hwf j0 j1
                        refine (G2.out wf BB6.out).mono ?_; rintro _ w7 ⟨rfl, hb7⟩
                        have ST := Lib.hid (ST.out.below hb7); have BB7 := Lib.hid (bnext BB6.out hb7)
                        clear hb7
                        clear q0 q1 q2 q3 g0 g1 g2 g3 v0 v1
                        obtain ⟨⟨q0, q1, q2, q3⟩, ⟨g0, g1, g2, g3⟩, v0, v1⟩ := ST.out.facts
                        go_wp2_with fail
                        refine (D3.out w7).mono ?_; rintro _ w8 ⟨rfl, hb8⟩
                        clear q0 q1 q2 q3 g0 g1 g2 g3 v0 v1
                        have hbq := bnext hb8 (alloc_below w8 (.cells #[.bool false, .int .i64 V] 77))
                        have ST := Lib.hid (ST.out.below hbq); have BB8 := Lib.hid (bnext BB7.out hbq)
                        clear hb8 hbq
                        obtain ⟨⟨q0, q1, q2, q3⟩, ⟨g0, g1, g2, g3⟩, v0, v1⟩ := ST.out.facts
                        have ne1 := FB.out; have ne2 : wq.heap.size ≠ bb := fun e => FB.out e.symm
                        go_wp2_with fail
                        clear ne1 ne2
                        have ST2 := Lib.hid (ST.out.put2 FB.out (.int .i64 V))
                        have BB9 := Lib.hid (BB8.out.setCell (p := ⟨wq.heap.size, 2, none⟩) FL.out (.int .i64 V))
                        clear q0 q1 q2 q3 g0 g1 g2 g3 v0 v1
                        clear ST
                        have ST := ST2; clear ST2
                        obtain ⟨⟨q0, q1, q2, q3⟩, ⟨g0, g1, g2, g3⟩, v0, v1⟩ := ST.out.facts
                        refine (G3.out ((w8.alloc (.cells #[.bool false, .int .i64 V] 77)).setCell ⟨wq.heap.size, 2, none⟩ (.int .i64 V)) BB9.out).mono ?_; rintro _ wa ⟨rfl, hba⟩
                        clear q0 q1 q2 q3 g0 g1 g2 g3 v0 v1
                        have ST := Lib.hid (ST.out.below hba); have BBA := Lib.hid (bnext BB9.out hba)
                        clear hba
                        obtain ⟨⟨q0, q1, q2, q3⟩, ⟨g0, g1, g2, g3⟩, v0, v1⟩ := ST.out.facts
                        have BD := Lib.hid (alloc_below wa (.cells #[.string NM, .string PT, .int .i64 V, .int .i64 1] 74))
                        have PU := Lib.hid (PUSH.out (wa.alloc (.cells #[.string NM, .string PT, .int .i64 V, .int .i64 1] 74)) (bnext BBA.out BD.out))
                        have NEWS := Lib.hid (row_newsd wa [.string NM, .string PT, .int .i64 V, .int .i64 1] 74 wa.heap.size (by simp))
                        have HBS := Lib.hid (Nat.le_trans HBW.out.size (bnext BBA.out BD.out).size)
                        go_wp2_with (at_builtin; obtain ⟨xs, hrow, hfin⟩ := PU.out; refine wpList_append_lies _ rfl (.tmp 113) (.tmp 115) _ rfl w1.heap.size 74 i0 (.agg #[.string ⟨#[]⟩, .string ⟨#[]⟩, .int .i64 0, .int .i64 0]) 4 48 Tryz.underlying27 hi0 hz0 hz1 hz2 rfl (by decide) (.slice AO k cO) k xs rfl hrow ⟨wa.heap.size, 0, none⟩ 1 1 [.string NM, .string PT, .int .i64 V, .int .i64 1] rfl rfl NEWS.out (by simp [Value.oneCell']) (by decide) (by simp only [maxLen]; omega) (by omega) HBS.out _ rfl ?_; intro g9 cap9 w9 hown9 hg9 hat9 hlt9; have FN := Lib.hid (hfin g9 cap9 w9 hown9 hg9); clear hown9 hg9 hat9 hlt9 hfin hrow)
                        go_roundw
                        case rel => exact ⟨k + 1, by go_num, by omega, NEXT.out.1, FN.out.1, FN.out.2⟩
                        case measure => simp [intOf]; omega
                      | some ta =>
                        have D4 := M2.out ta rfl
                        rw [bs_str (BA2.out ta rfl)] at D4
                        obtain ⟨⟨M, bo⟩, hm⟩ : ∃ m, mNum ta = m := ⟨_, rfl⟩
                        rw [hm] at D4
                        obtain ⟨TA, hTA⟩ : ∃ T, str ta = T := ⟨_, rfl⟩
                        simp only [Option.getD_some, Option.isSome_some] at G3
                        rw [hTA] at D4 G3
                        have D5 := Lib.hid D4
                        clear D4 hTA
                        cases bo
                        · have S6 := Lib.hid (show folV (nm, kv) = (Fol.none, 7) from S5.out.trans (by rw [agg_no hm]; rfl))
                          have F := Lib.hid (ERR.out 7 S6.out (by decide))
                          clear hm S5 S6
                          clear HSE HSO HOK ERR HST HZ
                          go_wp2_with fail
                          refine (G1.out wr (Below.refl _ _)).mono ?_; rintro _ w2 ⟨rfl, hb2⟩
                          have v0 := cellb hb2 c0; have v1 := cellb hb2 c1; have BB2 := Lib.hid hb2
                          clear hb2 c0 c1
                          go_wp2_with fail
                          refine (LST.out w2 BB2.out).mono ?_; rintro _ w4 ⟨rfl, hb4⟩
                          have hbq := bnext (alloc_below w2 (.cells #[.string ⟨#[112, 97, 116, 116, 101, 114, 110]⟩, .string ⟨#[120, 70, 105, 108, 101, 115, 70, 97, 99, 116, 111, 114]⟩, .string ⟨#[97, 103, 103, 114, 101, 103, 97, 116, 105, 111, 110, 77, 101, 116, 104, 111, 100]⟩] 9)) hb4
                          have v0 := cellb hbq v0; have v1 := cellb hbq v1; have BB4 := Lib.hid (bnext BB2.out hbq)
                          clear hb4 hbq
                          go_wp2_with fail
                          refine (C2.out w4).mono ?_; rintro _ w5 ⟨nv, rfl, hnv, -, -, hb5⟩
                          obtain ⟨s1, f1, A5, n5, c5, rfl⟩ := needle_form hnv
                          have hbq := bnext hb5 (alloc_below w5 (.cells #[.bool s1, .bool f1, .slice A5 n5 c5] 67))
                          have v0 := cellb hbq v0; have v1 := cellb hbq v1; have BB5 := Lib.hid (bnext BB4.out hbq)
                          clear hb5 hbq hnv
                          obtain ⟨wq, hwq⟩ : ∃ wq, w5.alloc (.cells #[.bool s1, .bool f1, .slice A5 n5 c5] 67) = wq := ⟨_, rfl⟩
                          rw [hwq] at v0 v1 BB5
                          have j0 := v0; have j1 := v1
                          obtain ⟨wf, hwf⟩ : ∃ wf, wq.alloc (.cells #[.string NM, .string PT, .int .i64 500000, .int .i64 1] 74) = wf := ⟨_, rfl⟩
                          have ST := Lib.hid (FrSt.new (W := wq) (f0 := .string NM) (f1 := .string PT) (f2 := .int .i64 500000) (f3 := .int .i64 1) v0 v1)
                          have BB6 := Lib.hid (bnext BB5.out (alloc_below wq (.cells #[.string NM, .string PT, .int .i64 500000, .int .i64 1] 74)))
                          have FB := Lib.hid (show bb ≠ wq.heap.size from by have := BBK.out; have := BB5.out.size; omega)
                          have FL := Lib.hid BB5.out.size
                          rw [hwf] at ST BB6
                          clear v0 v1
                          obtain ⟨⟨q0, q1, q2, q3⟩, ⟨g0, g1, g2, g3⟩, v0, v1⟩ := ST.out.facts
                          go_wp2_with fail
                          (try rw [hwq]); (try rw [hwf])
                          clear hwq hwf j0 j1
                          refine (G2.out wf BB6.out).mono ?_; rintro _ w7 ⟨rfl, hb7⟩
                          have ST := Lib.hid (ST.out.below hb7); have BB7 := Lib.hid (bnext BB6.out hb7)
                          clear hb7
                          clear q0 q1 q2 q3 g0 g1 g2 g3 v0 v1
                          obtain ⟨⟨q0, q1, q2, q3⟩, ⟨g0, g1, g2, g3⟩, v0, v1⟩ := ST.out.facts
                          go_wp2_with fail
                          refine (D3.out w7).mono ?_; rintro _ w8 ⟨rfl, hb8⟩
                          clear q0 q1 q2 q3 g0 g1 g2 g3 v0 v1
                          have hbq := bnext hb8 (alloc_below w8 (.cells #[.bool false, .int .i64 V] 77))
                          have ST := Lib.hid (ST.out.below hbq); have BB8 := Lib.hid (bnext BB7.out hbq)
                          clear hb8 hbq
                          obtain ⟨⟨q0, q1, q2, q3⟩, ⟨g0, g1, g2, g3⟩, v0, v1⟩ := ST.out.facts
                          have ne1 := FB.out; have ne2 : wq.heap.size ≠ bb := fun e => FB.out e.symm
                          go_wp2_with fail
                          clear ne1 ne2
                          have ST2 := Lib.hid (ST.out.put2 FB.out (.int .i64 V))
                          have BB9 := Lib.hid (BB8.out.setCell (p := ⟨wq.heap.size, 2, none⟩) FL.out (.int .i64 V))
                          clear q0 q1 q2 q3 g0 g1 g2 g3 v0 v1
                          clear ST
                          have ST := ST2; clear ST2
                          obtain ⟨⟨q0, q1, q2, q3⟩, ⟨g0, g1, g2, g3⟩, v0, v1⟩ := ST.out.facts
                          refine (G3.out ((w8.alloc (.cells #[.bool false, .int .i64 V] 77)).setCell ⟨wq.heap.size, 2, none⟩ (.int .i64 V)) BB9.out).mono ?_; rintro _ wa ⟨rfl, hba⟩
                          clear q0 q1 q2 q3 g0 g1 g2 g3 v0 v1
                          have ST := Lib.hid (ST.out.below hba); have BBA := Lib.hid (bnext BB9.out hba)
                          clear hba
                          obtain ⟨⟨q0, q1, q2, q3⟩, ⟨g0, g1, g2, g3⟩, v0, v1⟩ := ST.out.facts
                          go_wp2_with fail
                          refine (D5.out wa).mono ?_; rintro _ wm ⟨rfl, hbm⟩
                          clear q0 q1 q2 q3 g0 g1 g2 g3 v0 v1
                          have ST := Lib.hid (ST.out.below hbm); have BBM := Lib.hid (bnext BBA.out hbm)
                          clear hbm
                          obtain ⟨⟨q0, q1, q2, q3⟩, ⟨g0, g1, g2, g3⟩, v0, v1⟩ := ST.out.facts
                          go_wp2
                          go_ret2
                          exact ⟨_, ret_vi F.out.2.symm, by rw [F.out.1]; exact FoOut.nil _, bnext HW.out BBM.out⟩
                        · have S6 := Lib.hid (show folV (nm, kv) = ((nm, pt, V, M), 0) from S5.out.trans (by rw [agg_yes hm]; rfl))
                          clear hm S5
                          have S5 := S6
                          clear S6
                          have HV2 := Lib.hid (show folV (nm, kv) = ((nm, pt, V, M), 0) from S5.out)
                          have NEXT := Lib.hid (show (∀ y ∈ L.take (k + 1), (folV y).2 = 0) ∧ fosV (L.take (k + 1)) = fosV (L.take k) ++ [(nm, pt, V, M)] from by
                            rw [List.take_add_one, HP.out]
                            simp only [Option.toList_some]
                            refine ⟨fun y hy => ?_, ?_⟩
                            · rcases List.mem_append.1 hy with hy | hy
                              · exact HZ.out y hy
                              · rw [List.mem_singleton.1 hy, HV2.out]
                            · unfold fosV
                              rw [List.map_append, List.map_cons, List.map_nil, HV2.out])
                          have PUSH := Lib.hid (fun (W1 : World) (h : Below wr.heap.size wr W1) =>
                            (show ∃ xs, W1.ownsRow w1.heap.size 74 4 (.slice AO k cO) k xs ∧ ∀ (g cap : Nat) (w2 : World), w2.ownsRow w1.heap.size 74 4 (.slice (some ⟨g, 0, none⟩) (k + 1) cap) (k + 1) (xs ++ [.string NM, .string PT, .int .i64 V, .int .i64 M]) → W1.grownBy w2 (Value.ownBlock (.slice AO k cO)) → FoNew w1.heap.size w2 (.slice (some ⟨g, 0, none⟩) (k + 1) cap) (fosV (L.take (k + 1))) ∧ Below w1.heap.size w1 w2 from by
                              have hz := FoNew.push (w1 := W1) (s := (nm, pt, V, M)) HST.out h B2.out
                              rw [HLEN.out] at hz
                              obtain ⟨xs, hr, hf⟩ := hz
                              refine ⟨xs, hr, fun g cap w2 ho hg => ⟨?_, ?_⟩⟩
                              · rw [NEXT.out.2]
                                exact hf g cap w2 (by rw [HNM.out, HPT.out]; exact ho)
                              · exact (HBW.out.trans (h.mono HBW.out.size)).grown hg (Nat.le_trans HBW.out.size h.size) (fun j ej => (HOW.out j ej).1)))
                          clear HSE HSO HOK S5 ERR HST HZ
                          go_wp2_with fail
                          refine (G1.out wr (Below.refl _ _)).mono ?_; rintro _ w2 ⟨rfl, hb2⟩
                          have v0 := cellb hb2 c0; have v1 := cellb hb2 c1; have BB2 := Lib.hid hb2
                          clear hb2 c0 c1
                          go_wp2_with fail
                          refine (LST.out w2 BB2.out).mono ?_; rintro _ w4 ⟨rfl, hb4⟩
                          have hbq := bnext (alloc_below w2 (.cells #[.string ⟨#[112, 97, 116, 116, 101, 114, 110]⟩, .string ⟨#[120, 70, 105, 108, 101, 115, 70, 97, 99, 116, 111, 114]⟩, .string ⟨#[97, 103, 103, 114, 101, 103, 97, 116, 105, 111, 110, 77, 101, 116, 104, 111, 100]⟩] 9)) hb4
                          have v0 := cellb hbq v0; have v1 := cellb hbq v1; have BB4 := Lib.hid (bnext BB2.out hbq)
                          clear hb4 hbq
                          go_wp2_with fail
                          refine (C2.out w4).mono ?_; rintro _ w5 ⟨nv, rfl, hnv, -, -, hb5⟩
                          obtain ⟨s1, f1, A5, n5, c5, rfl⟩ := needle_form hnv
                          have hbq := bnext hb5 (alloc_below w5 (.cells #[.bool s1, .bool f1, .slice A5 n5 c5] 67))
                          have v0 := cellb hbq v0; have v1 := cellb hbq v1; have BB5 := Lib.hid (bnext BB4.out hbq)
                          clear hb5 hbq hnv
                          obtain ⟨wq, hwq⟩ : ∃ wq, w5.alloc (.cells #[.bool s1, .bool f1, .slice A5 n5 c5] 67) = wq := ⟨_, rfl⟩
                          rw [hwq] at v0 v1 BB5
                          have j0 := v0; have j1 := v1
                          obtain ⟨wf, hwf⟩ : ∃ wf, wq.alloc (.cells #[.string NM, .string PT, .int .i64 500000, .int .i64 1] 74) = wf := ⟨_, rfl⟩
                          have ST := Lib.hid (FrSt.new (W := wq) (f0 := .string NM) (f1 := .string PT) (f2 := .int .i64 500000) (f3 := .int .i64 1) v0 v1)
                          have BB6 := Lib.hid (bnext BB5.out (alloc_below wq (.cells #[.string NM, .string PT, .int .i64 500000, .int .i64 1] 74)))
                          have FB := Lib.hid (show bb ≠ wq.heap.size from by have := BBK.out; have := BB5.out.size; omega)
                          have FL := Lib.hid BB5.out.size
                          rw [hwf] at ST BB6
                          clear v0 v1
                          obtain ⟨⟨q0, q1, q2, q3⟩, ⟨g0, g1, g2, g3⟩, v0, v1⟩ := ST.out.facts
                          go_wp2_with fail
                          (try rw [hwq]); (try rw [hwf])
                          clear hwq hwf j0 j1
                          refine (G2.out wf BB6.out).mono ?_; rintro _ w7 ⟨rfl, hb7⟩
                          have ST := Lib.hid (ST.out.below hb7); have BB7 := Lib.hid (bnext BB6.out hb7)
                          clear hb7
                          clear q0 q1 q2 q3 g0 g1 g2 g3 v0 v1
                          obtain ⟨⟨q0, q1, q2, q3⟩, ⟨g0, g1, g2, g3⟩, v0, v1⟩ := ST.out.facts
                          go_wp2_with fail
                          refine (D3.out w7).mono ?_; rintro _ w8 ⟨rfl, hb8⟩
                          clear q0 q1 q2 q3 g0 g1 g2 g3 v0 v1
                          have hbq := bnext hb8 (alloc_below w8 (.cells #[.bool false, .int .i64 V] 77))
                          have ST := Lib.hid (ST.out.below hbq); have BB8 := Lib.hid (bnext BB7.out hbq)
                          clear hb8 hbq
                          obtain ⟨⟨q0, q1, q2, q3⟩, ⟨g0, g1, g2, g3⟩, v0, v1⟩ := ST.out.facts
                          have ne1 := FB.out; have ne2 : wq.heap.size ≠ bb := fun e => FB.out e.symm
                          go_wp2_with fail
                          clear ne1 ne2
                          have ST2 := Lib.hid (ST.out.put2 FB.out (.int .i64 V))
                          have BB9 := Lib.hid (BB8.out.setCell (p := ⟨wq.heap.size, 2, none⟩) FL.out (.int .i64 V))
                          clear q0 q1 q2 q3 g0 g1 g2 g3 v0 v1
                          clear ST
                          have ST := ST2; clear ST2
                          obtain ⟨⟨q0, q1, q2, q3⟩, ⟨g0, g1, g2, g3⟩, v0, v1⟩ := ST.out.facts
                          refine (G3.out ((w8.alloc (.cells #[.bool false, .int .i64 V] 77)).setCell ⟨wq.heap.size, 2, none⟩ (.int .i64 V)) BB9.out).mono ?_; rintro _ wa ⟨rfl, hba⟩
                          clear q0 q1 q2 q3 g0 g1 g2 g3 v0 v1
                          have ST := Lib.hid (ST.out.below hba); have BBA := Lib.hid (bnext BB9.out hba)
                          clear hba
                          obtain ⟨⟨q0, q1, q2, q3⟩, ⟨g0, g1, g2, g3⟩, v0, v1⟩ := ST.out.facts
                          go_wp2_with fail
                          refine (D5.out wa).mono ?_; rintro _ wm ⟨rfl, hbm⟩
                          clear q0 q1 q2 q3 g0 g1 g2 g3 v0 v1
                          have ST := Lib.hid (ST.out.below hbm); have BBM := Lib.hid (bnext BBA.out hbm)
                          clear hbm
                          obtain ⟨⟨q0, q1, q2, q3⟩, ⟨g0, g1, g2, g3⟩, v0, v1⟩ := ST.out.facts
                          have BBN := Lib.hid (BBM.out.setCell (p := ⟨wq.heap.size, 3, none⟩) FL.out (.int .i64 M))
                          have BD := Lib.hid (alloc_below (wm.setCell ⟨wq.heap.size, 3, none⟩ (.int .i64 M)) (.cells #[.string NM, .string PT, .int .i64 V, .int .i64 M] 74))
                          have PU := Lib.hid (PUSH.out ((wm.setCell ⟨wq.heap.size, 3, none⟩ (.int .i64 M)).alloc (.cells #[.string NM, .string PT, .int .i64 V, .int .i64 M] 74)) (bnext BBN.out BD.out))
                          have NEWS := Lib.hid (row_newsd (wm.setCell ⟨wq.heap.size, 3, none⟩ (.int .i64 M)) [.string NM, .string PT, .int .i64 V, .int .i64 M] 74 wm.heap.size (by simp))
                          have HBS := Lib.hid (Nat.le_trans HBW.out.size (bnext BBN.out BD.out).size)
                          go_wp2_with (at_builtin; obtain ⟨xs, hrow, hfin⟩ := PU.out; refine wpList_append_lies _ rfl (.tmp 113) (.tmp 115) _ rfl w1.heap.size 74 i0 (.agg #[.string ⟨#[]⟩, .string ⟨#[]⟩, .int .i64 0, .int .i64 0]) 4 48 Tryz.underlying27 hi0 hz0 hz1 hz2 rfl (by decide) (.slice AO k cO) k xs rfl hrow ⟨wm.heap.size, 0, none⟩ 1 1 [.string NM, .string PT, .int .i64 V, .int .i64 M] rfl rfl NEWS.out (by simp [Value.oneCell']) (by decide) (by simp only [maxLen]; omega) (by omega) HBS.out _ rfl ?_; intro g9 cap9 w9 hown9 hg9 hat9 hlt9; have FN := Lib.hid (hfin g9 cap9 w9 hown9 hg9); clear hown9 hg9 hat9 hlt9 hfin hrow)
                          go_roundw
                          case rel => exact ⟨k + 1, by go_num, by omega, NEXT.out.1, FN.out.1, FN.out.2⟩
                          case measure => simp [intOf]; omega
                · have S5 := Lib.hid (show folV (nm, kv) = (Fol.none, E) from S4.out.trans (by rw [xff_err hV h0]; exact if_pos h0))
                  have F := Lib.hid (ERR.out E S5.out h0)
                  have h3 : (E != 0) = true := by simpa using h0
                  clear hV S4 S5 G3 M2
                  clear HSE HSO HOK ERR HST HZ
                  go_wp2_with fail
                  refine (G1.out wr (Below.refl _ _)).mono ?_; rintro _ w2 ⟨rfl, hb2⟩
                  have v0 := cellb hb2 c0; have v1 := cellb hb2 c1; have BB2 := Lib.hid hb2
                  clear hb2 c0 c1
                  go_wp2_with fail
                  refine (LST.out w2 BB2.out).mono ?_; rintro _ w4 ⟨rfl, hb4⟩
                  have hbq := bnext (alloc_below w2 (.cells #[.string ⟨#[112, 97, 116, 116, 101, 114, 110]⟩, .string ⟨#[120, 70, 105, 108, 101, 115, 70, 97, 99, 116, 111, 114]⟩, .string ⟨#[97, 103, 103, 114, 101, 103, 97, 116, 105, 111, 110, 77, 101, 116, 104, 111, 100]⟩] 9)) hb4
                  have v0 := cellb hbq v0; have v1 := cellb hbq v1; have BB4 := Lib.hid (bnext BB2.out hbq)
                  clear hb4 hbq
                  go_wp2_with fail
                  refine (C2.out w4).mono ?_; rintro _ w5 ⟨nv, rfl, hnv, -, -, hb5⟩
                  obtain ⟨s1, f1, A5, n5, c5, rfl⟩ := needle_form hnv
                  have hbq := bnext hb5 (alloc_below w5 (.cells #[.bool s1, .bool f1, .slice A5 n5 c5] 67))
                  have v0 := cellb hbq v0; have v1 := cellb hbq v1; have BB5 := Lib.hid (bnext BB4.out hbq)
                  clear hb5 hbq hnv
                  obtain ⟨wq, hwq⟩ : ∃ wq, w5.alloc (.cells #[.bool s1, .bool f1, .slice A5 n5 c5] 67) = wq := ⟨_, rfl⟩
                  rw [hwq] at v0 v1 BB5
                  have j0 := v0; have j1 := v1
                  obtain ⟨wf, hwf⟩ : ∃ wf, wq.alloc (.cells #[.string NM, .string PT, .int .i64 500000, .int .i64 1] 74) = wf := ⟨_, rfl⟩
                  have ST := Lib.hid (FrSt.new (W := wq) (f0 := .string NM) (f1 := .string PT) (f2 := .int .i64 500000) (f3 := .int .i64 1) v0 v1)
                  have BB6 := Lib.hid (bnext BB5.out (alloc_below wq (.cells #[.string NM, .string PT, .int .i64 500000, .int .i64 1] 74)))
                  have FB := Lib.hid (show bb ≠ wq.heap.size from by have := BBK.out; have := BB5.out.size; omega)
                  have FL := Lib.hid BB5.out.size
                  rw [hwf] at ST BB6
                  clear v0 v1
                  obtain ⟨⟨q0, q1, q2, q3⟩, ⟨g0, g1, g2, g3⟩, v0, v1⟩ := ST.out.facts
                  go_wp2_with fail
                  (try rw [hwq]); (try rw [hwf])
                  clear hwq hwf j0 j1
                  refine (G2.out wf BB6.out).mono ?_; rintro _ w7 ⟨rfl, hb7⟩
                  have ST := Lib.hid (ST.out.below hb7); have BB7 := Lib.hid (bnext BB6.out hb7)
                  clear hb7
                  clear q0 q1 q2 q3 g0 g1 g2 g3 v0 v1
                  obtain ⟨⟨q0, q1, q2, q3⟩, ⟨g0, g1, g2, g3⟩, v0, v1⟩ := ST.out.facts
                  go_wp2_with fail
                  refine (D3.out w7).mono ?_; rintro _ w8 ⟨rfl, hb8⟩
                  clear q0 q1 q2 q3 g0 g1 g2 g3 v0 v1
                  have hbq := bnext hb8 (alloc_below w8 (.cells #[.bool false, .int .i64 V] 77))
                  have ST := Lib.hid (ST.out.below hbq); have BB8 := Lib.hid (bnext BB7.out hbq)
                  clear hb8 hbq
                  obtain ⟨⟨q0, q1, q2, q3⟩, ⟨g0, g1, g2, g3⟩, v0, v1⟩ := ST.out.facts
                  go_wp2
                  go_ret2
                  exact ⟨_, ret_vi F.out.2.symm, by rw [F.out.1]; exact FoOut.nil _, bnext HW.out BB8.out⟩
            · have F := Lib.hid (ERR.out E1 (S3.out.trans (if_pos h1)) h1)
              have h3 : (E1 != 0) = true := by simpa using h1
              clear HSE HSO HOK ERR HST HZ S3 G2 G3 D2 M2
              go_wp2_with fail
              refine (G1.out wr (Below.refl _ _)).mono ?_; rintro _ w2 ⟨rfl, hb2⟩
              have v0 := cellb hb2 c0; have v1 := cellb hb2 c1; have BB2 := Lib.hid hb2
              clear hb2 c0 c1
              go_wp2_with fail
              refine (LST.out w2 BB2.out).mono ?_; rintro _ w4 ⟨rfl, hb4⟩
              have hbq := bnext (alloc_below w2 (.cells #[.string ⟨#[112, 97, 116, 116, 101, 114, 110]⟩, .string ⟨#[120, 70, 105, 108, 101, 115, 70, 97, 99, 116, 111, 114]⟩, .string ⟨#[97, 103, 103, 114, 101, 103, 97, 116, 105, 111, 110, 77, 101, 116, 104, 111, 100]⟩] 9)) hb4
              have v0 := cellb hbq v0; have v1 := cellb hbq v1; have BB4 := Lib.hid (bnext BB2.out hbq)
              clear hb4 hbq
              go_wp2_with fail
              refine (C2.out w4).mono ?_; rintro _ w5 ⟨nv, rfl, hnv, -, -, hb5⟩
              obtain ⟨s1, f1, A5, n5, c5, rfl⟩ := needle_form hnv
              have hbq := bnext hb5 (alloc_below w5 (.cells #[.bool s1, .bool f1, .slice A5 n5 c5] 67))
              have v0 := cellb hbq v0; have v1 := cellb hbq v1; have BB5 := Lib.hid (bnext BB4.out hbq)
              clear hb5 hbq hnv
              go_wp2
              go_ret2
              exact ⟨_, ret_vi F.out.2.symm, by rw [F.out.1]; exact FoOut.nil _, bnext HW.out BB5.out⟩
      · obtain rfl : n = k := by omega
        have HE := Lib.hid (HSO.out trivial (by rw [← HN.out, List.take_length] at HZ; exact HZ.out))
        have HS2 := Lib.hid (show FoNew w1.heap.size wr (.slice AO n cO) D from by
          have h := HST.out
          rw [← HN.out, List.take_length] at h
          rw [HN.out, show fosV L = D from (congrArg Prod.fst HE.out).symm] at h
          exact h)
        have e2 := congrArg Prod.snd HE.out
        simp only at e2
        have E2 := Lib.hid e2
        clear HSE HSO HOK HZ HST HE e2
        go_wp2
        go_ret2
        exact ⟨_, ret_vi E2.out.symm, HS2.out.out, HW.out⟩
  · have h1 : (E != 0) = true := by simpa using h0
    have SEV := Lib.hid (HSZ.out h0)
    clear HSO HSE HSZ
    go_wp2
    go_ret2
    injection SEV.out with e1 e2
    exact ⟨_, ret_vi e2.symm, by rw [e1]; exact FoOut.nil _, HB1.out⟩
end Go.Proofs.YtodlgbihdehmbaaGreatDoor.LR
/-
  Walks of layer 12's laws: any text (RulesParses).
-/
set_option linter.unusedSimpArgs false
set_option linter.unusedVariables false
namespace Go.Proofs.YtodlgbihdehmbaaGreatDoor
open Go.RowKit Cf Cf.KR Cf.KP
theorem parse_fit {l : List Nat} : (parseV l).1.length ≤ 4 := by
  by_cases h : (parseV l).2 = 0
  · obtain ⟨r, hr⟩ : ∃ r, (parseV l).1 = r := ⟨_, rfl⟩
    have e : parseV l = (r, 0) := by rw [← hr, ← h]
    rw [hr]
    exact ((tog_iff r).1 (parse_rows e)).1.2
  · rw [parse_none h]; exact Nat.zero_le _
theorem rulV_mem {α β : Type} (f : α → β × Int) : ∀ (l : List α) (y : β), y ∈ (rulV f l).1 → ∃ x ∈ l, y = (f x).1
  | [], y, h => by cases h
  | x :: t, y, h => by
    unfold rulV at h
    split at h
    · split at h
      · rcases List.mem_cons.1 h with rfl | h
        · exact ⟨x, List.mem_cons_self .., rfl⟩
        · obtain ⟨z, hz, e⟩ := rulV_mem f t y h
          exact ⟨z, List.mem_cons_of_mem _ hz, e⟩
      · cases h
    · cases h
theorem stoV_rungs (x : Sec) : (stoV x).1.2.2.length ≤ 4 := by
  unfold stoV
  split
  · split
    · exact Nat.zero_le _
    · split
      · exact Nat.zero_le _
      · exact parse_fit
  · exact Nat.zero_le _
theorem stores_fit (l : List Nat) : (storesV l).1.length ≤ 100000 ∧ ∀ s ∈ (storesV l).1, s.2.2.length ≤ 100000 := by
  have h := (conf_few l).secs
  unfold storesV
  split
  · exact ⟨Nat.zero_le _, fun s h => by cases h⟩
  · refine ⟨Nat.le_trans (rulV_length _ _) (by omega), fun s hs => ?_⟩
    obtain ⟨x, _, rfl⟩ := rulV_mem _ _ _ hs
    exact Nat.le_trans (stoV_rungs x) (by decide)
theorem folds_fit (l : List Nat) : (foldsV l).1.length ≤ 100000 := by
  have h := (conf_few l).secs
  unfold foldsV
  split
  · exact Nat.zero_le _
  · exact Nat.le_trans (rulV_length _ _) (by omega)
namespace LW
open LP
set_option maxRecDepth 100000 in
set_option maxHeartbeats 4000000 in
theorem rulesParses_c (s nm : ByteArray) (me : Int) (w : World) (g : G w) (gd : De.G w) (t : Mt w) : Calls Tryz.prog 3 #[.string s, .string nm, .int .i64 me] w fun e w' => e = .returned (.bool true) ∧ Below w.heap.size w w' := by
  have AL := Lib.hid (alive_c w g)
  by_cases h5 : 5000 < s.size
  · have h5i : (5000 : Int) < (s.size : Int) := by omega
    clear g gd t
    go_enter Tryz.func3, Tryz.ntmps3
    go_wp2_with (go_at_call 7; refine AL.out.mono ?_; rintro _ w1 ⟨rfl, hb1⟩)
    go_ret
    exact ⟨rfl, hb1⟩
  · have h5i : ¬ (5000 : Int) < (s.size : Int) := by omega
    have P1 := Lib.hid (fun (W : World) (h : Below w.heap.size w W) => stores_p s W (g.below h))
    have P2 := Lib.hid (fun (W : World) => LR.stores_c s (by omega) W)
    have P3 := Lib.hid (fun (W : World) (h : Below w.heap.size w W) => folds_p s W (gd.below h) (t.below h))
    have P4 := Lib.hid (fun (W : World) => LR.folds_c s (by omega) W)
    have P5 := Lib.hid (fun (W : World) (h : Below w.heap.size w W) => method_p nm W (t.below h))
    have P6 := Lib.hid (fun (W : World) => LR.method_c nm W)
    have P7 := Lib.hid (fun (W : World) (h : Below w.heap.size w W) => name_p me W (t.below h))
    have P8 := Lib.hid (fun (W : World) => LR.name_c me W)
    obtain ⟨f1, f2⟩ := stores_fit (bs s)
    have f3 := folds_fit (bs s)
    obtain ⟨⟨D, E⟩, hD⟩ : ∃ D, storesV (bs s) = D := ⟨_, rfl⟩
    obtain ⟨⟨F, E2⟩, hF⟩ : ∃ D, foldsV (bs s) = D := ⟨_, rfl⟩
    obtain ⟨⟨M, ok⟩, hM⟩ : ∃ D, mNum (bs nm) = D := ⟨_, rfl⟩
    obtain ⟨X, hX⟩ : ∃ X, str (mName me) = X := ⟨_, rfl⟩
    rw [hD] at P1 P2 f1 f2
    rw [hF] at P3 P4 f3
    rw [hM] at P5 P6
    rw [hX] at P7 P8
    simp only at P1 P2 P3 P4 P5 P6 f1 f2 f3
    have SS := Lib.hid (fun (v1 v2 : Value) (W : World) (h1 : StOut W v1 D) (h2 : StOut W v2 D) => LR.sameStores_c v1 v2 D f1 f2 W h1 h2)
    have SF := Lib.hid (fun (v1 v2 : Value) (W : World) (h1 : FoOut W v1 F) (h2 : FoOut W v2 F) => LR.sameFolds_c v1 v2 F f3 W h1 h2)
    have eE : (E == E) = true := by simp
    have eE2 : (E2 == E2) = true := by simp
    have eM : (M == M) = true := by simp
    have eK : (ok == ok) = true := by simp
    have eX : (X.toList == X.toList) = true := by simp
    clear hD hF hM hX g gd t f1 f2 f3
    go_enter Tryz.func3, Tryz.ntmps3
    go_wp2_with fail
    refine AL.out.mono ?_; rintro _ w1 ⟨rfl, hb1⟩
    go_wp2_with fail
    have B1 := Lib.hid hb1; clear hb1 AL
    refine (P1.out w1 B1.out).mono ?_; rintro _ w2 ⟨v2, rfl, h2, hb2⟩
    have H2 := Lib.hid h2; have B2 := Lib.hid (bnext B1.out hb2)
    clear h2 hb2
    go_wp2_with fail
    refine (P2.out w2).mono ?_; rintro _ w3 ⟨v3, rfl, h3, hb3⟩
    have H2 := Lib.hid (H2.out.below hb3); have H3 := Lib.hid h3; have B3 := Lib.hid (bnext B2.out hb3)
    clear h3 hb3
    go_wp2_with fail
    refine (P3.out w3 B3.out).mono ?_; rintro _ w4 ⟨v4, rfl, h4, hb4⟩
    have H2 := Lib.hid (H2.out.below hb4); have H3 := Lib.hid (H3.out.below hb4); have H4 := Lib.hid h4; have B4 := Lib.hid (bnext B3.out hb4)
    clear h4 hb4
    go_wp2_with fail
    refine (P4.out w4).mono ?_; rintro _ w5 ⟨v5, rfl, h5, hb5⟩
    have H2 := Lib.hid (H2.out.below hb5); have H3 := Lib.hid (H3.out.below hb5); have H4 := Lib.hid (H4.out.below hb5); have H5 := Lib.hid h5; have B5 := Lib.hid (bnext B4.out hb5)
    clear h5 hb5
    go_wp2_with fail
    refine (P5.out w5 B5.out).mono ?_; rintro _ w6 ⟨rfl, hb6⟩
    have H2 := Lib.hid (H2.out.below hb6); have H3 := Lib.hid (H3.out.below hb6); have H4 := Lib.hid (H4.out.below hb6); have H5 := Lib.hid (H5.out.below hb6); have B6 := Lib.hid (bnext B5.out hb6)
    clear hb6
    go_wp2_with fail
    refine (P6.out w6).mono ?_; rintro _ w7 ⟨rfl, hb7⟩
    have H2 := Lib.hid (H2.out.below hb7); have H3 := Lib.hid (H3.out.below hb7); have H4 := Lib.hid (H4.out.below hb7); have H5 := Lib.hid (H5.out.below hb7); have B7 := Lib.hid (bnext B6.out hb7)
    clear hb7
    have SS2 := Lib.hid (SS.out v2 v3 w7 H2.out H3.out)
    clear SS
    go_wp2_with (first
      | (go_at_call 14; refine SS2.out.mono ?_; rintro _ w8 ⟨rfl, hb8⟩; have B8 := Lib.hid (bnext B7.out hb8); have SF2 := Lib.hid (SF.out v4 v5 w8 (H4.out.below hb8) (H5.out.below hb8)))
      | (go_at_call 15; refine SF2.out.mono ?_; rintro _ w9 ⟨rfl, hb9⟩; have B9 := Lib.hid (bnext B8.out hb9))
      | (go_at_call 16; refine (P7.out w9 B9.out).mono ?_; rintro _ w10 ⟨rfl, rfl⟩)
      | (go_at_call 17; refine (P8.out _).mono ?_; rintro _ w11 ⟨rfl, rfl⟩))
    go_ret
    exact ⟨rfl, B9.out⟩
end LW
end Go.Proofs.YtodlgbihdehmbaaGreatDoor
