/-
  Contracts of the program's functions of layer 5: Update, Sum.
-/
import Derived.Test.YtabbpgnenmpacaaDoorCrcRef
import Derived.Test.YtabbpgnenmpacaaDoorCrcG
set_option linter.unusedSimpArgs false
set_option linter.unusedVariables false
namespace Go.Proofs.YtabbpgnenmpacaaDoor.CP
open Go.RowKit
theorem and_15 (s : Nat) (h : s < 4294967296) : bits .and .u32 (s : Int) 15 = ((s % 16 : Nat) : Int) := by
  have e := u32_and_nat s 15 h (by decide)
  refine e.trans ?_
  congr 1
  exact Nat.and_two_pow_sub_one_eq_mod s 4
set_option maxRecDepth 100000 in
set_option maxHeartbeats 4000000 in
theorem upd_q (s : Nat) (hs : s < 4294967296) (v : Value) (l : List Nat) (hl : l.length ≤ 100000) (hb : Bytes l) (w : World) (g : G w) (h : ByOut w v l) :
    Calls Tryd.prog 52 #[.int .u32 (s : Nat), v] w fun e w' => e = .returned (.int .u32 (cNot (cRun (cNot s) l) : Nat)) ∧ w = w' := by
  obtain ⟨A, c, rfl, hc, hx⟩ := h
  obtain ⟨n, hln⟩ : ∃ n, l.length = n := ⟨_, rfl⟩
  rw [hln] at hl hc ⊢
  have hnot : bits .xor .u32 IntKind.u32.max (s : Int) = ((cNot s : Nat) : Int) := u32_xor_nat 4294967295 s (by decide) hs
  have hns := cNot_lt hs
  generalize cNot s = s0 at *
  have GN := Lib.hid g.nib
  have HX := Lib.hid hx; have HL := Lib.hid hln; have HB := Lib.hid hb
  clear hx hln hb g
  go_enter Tryd.func52, Tryd.ntmps52
  go_wp2
  try simp only [hnot]
  go_loop [5, 7, 12] (fun s x i => ∃ k r : Nat, k ≤ n ∧ r < 4294967296 ∧ s = .int .u32 r ∧ i = .int .i64 k ∧ Hid (r = cRun s0 (l.take k))) (fun _ _ i => n - (intOf i).toNat)
  case atStart => exact ⟨0, s0, Nat.zero_le _, hns, rfl, rfl, rfl⟩
  case round =>
    obtain ⟨k, r, hk, hr, rfl, rfl, HI⟩ := hrel
    by_cases hlt : k < n
    · have hkl : k < l.length := by rw [HL.out]; exact hlt
      obtain ⟨b, off, rfl, ha⟩ := HX.out (by intro h; rw [h] at hkl; exact absurd hkl (Nat.not_lt_zero _))
      have hx0 := List.getElem?_eq_getElem hkl
      have hbx : l[k] < 256 := HB.out _ (List.getElem_mem hkl)
      have hstep : cRun s0 (l.take (k + 1)) = cBits 8 (r ^^^ l[k]) := by
        rw [List.take_add_one, hx0, cRun_app, ← HI.out]; rfl
      have c0 := ha k _ hx0
      generalize l[k] = x at *
      have hxor : bits .xor .u32 (r : Int) (x : Int) = ((r ^^^ x : Nat) : Int) := u32_xor_nat r x hr (by omega)
      have ht : r ^^^ x < 4294967296 := Nat.xor_lt_two_pow (n := 32) hr (by omega)
      generalize r ^^^ x = t at *
      have hx1 : (0 : Int) ≤ (x : Int) := by omega
      have hx2 : (x : Int) < 256 := by omega
      have HST := Lib.hid hstep; have HC := Lib.hid ha
      clear hstep ha hx0 HI
      go_wp2
      go_loop [5, 20] (fun s j => ∃ m u : Nat, m ≤ 2 ∧ u < 4294967296 ∧ s = .int .u32 u ∧ j = .int .i64 m ∧ Hid (cBits (8 - 4 * m) u = cBits 8 t)) (fun _ j => 2 - (intOf j).toNat)
      case atStart => exact ⟨0, t, Nat.zero_le _, ht, rfl, rfl, rfl⟩
      case round =>
        obtain ⟨m, u, hm, hu, rfl, rfl, HJ⟩ := hrel
        by_cases hlt2 : m < 2
        · have ha1 := and_15 u hu
          have hj2 : cBits (8 - 4 * (m + 1)) (cBits 4 u) = cBits 8 t := by
            rw [← HJ.out, ← cBits_add]
            congr 1
            omega
          have hcl := cBits_lt 4 hu
          have hcell := GN.out (u % 16) (by omega)
          have hmod : u % 16 < 16 := by omega
          have hx3 : bits .xor .u32 ((u : Int) / 16) ((cBits 4 (u % 16) : Nat) : Int) = ((cBits 4 u : Nat) : Int) := by
            have e : (u : Int) / 16 = ((u / 16 : Nat) : Int) := by omega
            rw [e, cBits_four u]
            exact u32_xor_nat (u / 16) _ (by omega) (cBits_lt 4 (by omega))
          generalize cBits 4 (u % 16) = y at *
          generalize u % 16 = q at *
          generalize cBits 4 u = z at *
          have HJ2 := Lib.hid hj2
          clear hj2 HJ
          go_wp2
          go_round
          case rel => exact ⟨m + 1, z, by omega, hcl, rfl, by go_num, HJ2⟩
          case measure => simp [intOf]; omega
        · obtain rfl : m = 2 := by omega
          have hue : u = cBits 8 t := HJ.out
          have HU := Lib.hid hue
          clear hue
          go_wp2
          go_round
          case rel => exact ⟨k + 1, u, by omega, hu, rfl, by go_num, by rw [HST.out]; exact HU.out⟩
          case measure => simp [intOf]; omega
    · obtain rfl : k = n := by omega
      have hs2 : bits .xor .u32 IntKind.u32.max (r : Int) = ((cNot (cRun s0 l) : Nat) : Int) := by
        have e := u32_xor_nat 4294967295 r (by decide) hr
        refine e.trans ?_
        congr 1
        rw [HI.out, List.take_of_length_le (by rw [HL.out]; exact Nat.le_refl _)]
        rfl
      have HS := Lib.hid hs2
      clear hs2
      go_wp2
      go_ret
      exact ⟨congrArg (fun z => Ending.returned (.int .u32 z)) HS.out, rfl⟩
theorem sum_q (v : Value) (l : List Nat) (hl : l.length ≤ 100000) (hb : Bytes l) (w : World) (g : G w) (h : ByOut w v l) :
    Calls Tryd.prog 48 #[v] w fun e w' => e = .returned (.int .u32 (cSum l : Nat)) ∧ w = w' := by
  have U := Lib.hid (upd_q 0 (by decide) v l hl hb w g h)
  obtain ⟨A, c, rfl, hc, hx⟩ := h
  clear hx
  go_enter Tryd.func48, Tryd.ntmps48
  go_wp2_with fail
  refine U.out.mono ?_; rintro _ w1 ⟨rfl, rfl⟩
  go_wp2
  go_ret
  exact ⟨rfl, rfl⟩
end Go.Proofs.YtabbpgnenmpacaaDoor.CP
