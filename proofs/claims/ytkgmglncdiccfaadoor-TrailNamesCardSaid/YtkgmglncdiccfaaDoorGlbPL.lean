/-
  Contracts of the program's functions of layer 15: piece.lead.
-/
import Derived.Test.YtkgmglncdiccfaaDoorGlbBo
import Derived.Test.YtkgmglncdiccfaaDoorGlbPK
import Derived.Test.YtkgmglncdiccfaaDoorGlbPG
import Derived.BigRegion
import Derived.Deep.RegionWith
import Derived.Deep.RegionHeld3
set_option linter.unusedSimpArgs false
set_option linter.unusedVariables false
namespace Go.Proofs.YtkgmglncdiccfaaDoor.GP
open Go.RowKit
/-- lead keeps its word. -/
def LdC (l : Tr) : Prop := Good false l → (gStr l).length ≤ 900 → ∀ (v : Value) (N : ByteArray) (g c : Nat) (f : Nat → Bool) (w : World), N.size ≤ 900 → N.size + 1 ≤ c → TrR w v l → BRow w g (N.size + 1) f →
    Calls Tryd.prog 32 #[.slice (some ⟨g, 0, none⟩) (N.size + 1) c, v, .string N] w fun e w' => ∃ g' c', e = .returned (.slice (some ⟨g', 0, none⟩) (N.size + 1) c') ∧ N.size + 1 ≤ c' ∧ (g' = g ∨ w.heap.size ≤ g') ∧ BRow w' g' (N.size + 1) (gLd (bs N) l f) ∧ Below w.heap.size w w'
theorem below_own {w w' : World} {g o : Nat} {u : Value} (h : Below w.heap.size w w') (hg : w.heap.size < g) : Below w.heap.size w (w'.setCell ⟨g, o, none⟩ u) := h.setCell (p := ⟨g, o, none⟩) (Nat.le_of_lt hg) u
set_option maxRecDepth 100000 in
set_option maxHeartbeats 4000000 in
theorem lead_star (s : ByteArray) (A1 A2 : Option Addr) (n1 c1 n2 c2 : Nat) (N : ByteArray) (n g c : Nat) (f : Nat → Bool) (w : World) (hn : N.size = n) (hs : n ≤ 900) (hc : n + 1 ≤ c) (h : BRow w g (n + 1) f) :
    Calls Tryd.prog 41 #[.agg #[.int .i64 2, .string s, .slice A1 n1 c1, .slice A2 n2 c2], .slice (some ⟨g, 0, none⟩) (n + 1) c, .string N] w fun e w' => ∃ g' c', e = .returned (.slice (some ⟨g', 0, none⟩) (n + 1) c') ∧ n + 1 ≤ c' ∧ w.heap.size ≤ g' ∧ BRow w' g' (n + 1) (gAd (bs N) .star f) ∧ Below w.heap.size w w' := by
  obtain ⟨i0, hi0, hz0, hzz1, hzz2⟩ := info_parts bool_info
  have HB0 := Lib.hid (alloc_below w (.cells #[.int .i64 2, .string s, .slice A1 n1 c1, .slice A2 n2 c2] 70))
  have HH0 := Lib.hid (holds_alloc w [.int .i64 2, .string s, .slice A1 n1 c1, .slice A2 n2 c2] 70)
  have HR0 := Lib.hid h
  have hgl := h.lt
  clear h
  go_enter Tryd.func41, Tryd.ntmps41
  go_upto_region 2 with (at_make; refine wpList_make_full _ rfl _ _ 43 rfl 0 4 i0 (.bool false) 1 Tryd.underlying43 hi0 hz0 hzz1 .i64 .i64 _ _ (n + 1) rfl rfl (by omega) (by omega) (by rw [hzz2]; omega) (by unfold maxLen; omega) (Nat.zero_le _) ?_; intro w2 hown2 hg2)
  have hbl := below_none hg2
  have hx2 := BRow.made hown2 (Nat.succ_pos n)
  have hsz : (w.alloc (.cells #[.int .i64 2, .string s, .slice A1 n1 c1, .slice A2 n2 c2] 70)).heap.size = w.heap.size + 1 := by simp
  rw [hsz] at hx2
  have HX2 := Lib.hid hx2
  have HB2 := Lib.hid (bnext HB0.out hbl)
  have HR2 := Lib.hid (HR0.out.below HB2.out)
  obtain ⟨b0, b1, b2, b3⟩ := (Holds.below HH0.out hbl).four
  obtain ⟨gx, hgx⟩ : ∃ gx, w.heap.size + 1 = gx := ⟨_, rfl⟩
  have hgw : w.heap.size < gx := by omega
  have hgne : ¬ gx = g := by omega
  rw [hgx] at HX2 ⊢
  clear hown2 hg2 hbl hx2 hsz hgx HB0 HH0 HR0
  go_wp2_with fail
  go_loopw [8, 9, 10, 49] (fun v8 _ _ v49 wr => ∃ k : Nat, v49 = .int .i64 (k : Nat) ∧ k ≤ n + 1 ∧ v8 = .bool (reachd f k) ∧ Hid (BRow wr g (n + 1) f) ∧ Hid (BRow wr gx (n + 1) (fun j => if j < k then gAd (bs N) .star f j else false)) ∧ Hid (Below w.heap.size w wr)) (fun _ _ _ v49 _ => n + 1 - (intOf v49).toNat)
  case atStart => exact ⟨0, rfl, Nat.zero_le _, rfl, HR2.out, HX2.out.congr (fun j _ => (if_neg (Nat.not_lt_zero j)).symm), HB2.out⟩
  case round =>
    as_aux_lemma =>
      obtain ⟨k, rfl, hk, rfl, HR, HX, HB⟩ := hrel
      by_cases hlt : k ≤ n
      · as_aux_lemma =>
          have cE := HR.out.c k (by omega)
          obtain ⟨x, hx⟩ : ∃ x, f k = x := ⟨_, rfl⟩
          rw [hx] at cE
          have ck := HX.out.c k (by omega)
          have fk := HX.out.fz k (by omega)
          obtain ⟨xo, hxo⟩ : ∃ x, (if k < k then gAd (bs N) .star f k else false) = x := ⟨_, rfl⟩
          have ck2 : wr.cell? ⟨gx, k, none⟩ = some (.bool xo) := by rw [← hxo]; exact ck
          obtain ⟨rk, hrk⟩ : ∃ rk, reachd f k = rk := ⟨_, rfl⟩
          have hnx : reachd f (k + 1) = (rk || x) := by rw [reachd_succ, hrk, hx]
          have HNX := Lib.hid hnx
          have HRX := Lib.hid (HX.out.step (x := rk || x) (k := k) (by omega) (by rw [gAd_star]; exact hnx))
          have hbI : (0 : Int) ≤ (k : Int) := by omega
          have hbJ : (k : Int) < (n : Int) + 1 := by omega
          have hbN : k < n + 1 := by omega
          rw [hrk]
          clear ck hxo hrk hnx hx
          cases rk with
          | true =>
            go_wp2
            go_roundw
            case rel => exact ⟨k + 1, by go_num, by omega, by rw [HNX.out]; rfl, HR.out.other hgne, HRX.out, below_own HB.out hgw⟩
            case measure => simp [intOf]; omega
          | false =>
            rw [Bool.false_or] at HRX
            go_wp2
            go_roundw
            case rel => exact ⟨k + 1, by go_num, by omega, by rw [HNX.out]; rfl, HR.out.other hgne, HRX.out, below_own HB.out hgw⟩
            case measure => simp [intOf]; omega
      · as_aux_lemma =>
          obtain rfl : k = n + 1 := by omega
          have HRE := Lib.hid (HX.out.congr (h := gAd (bs N) .star f) (fun j hj => if_pos hj))
          have hbJ : ¬ ((n + 1 : Nat) : Int) < (n : Int) + 1 := by omega
          clear HX
          go_wp2
          go_ret
          exact ⟨gx, n + 1, rfl, Nat.le_refl _, Nat.le_of_lt hgw, HRE.out, HB.out⟩
end Go.Proofs.YtkgmglncdiccfaaDoor.GP
