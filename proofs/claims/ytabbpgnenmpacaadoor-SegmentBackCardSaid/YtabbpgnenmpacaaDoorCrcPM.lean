/-
  Contracts of the program's functions of layer 5: Update, Sum.
-/
import Derived.Test.YtabbpgnenmpacaaDoorCrcRefM
import Derived.Test.YtabbpgnenmpacaaDoorCrcGM
import Derived.Laws.IdiomStrings
import Derived.Laws.BytesArg
import Derived.Laws.Strings
set_option linter.unusedSimpArgs false
set_option linter.unusedVariables false
namespace Go.Proofs.YtabbpgnenmpacaaDoor.CP
open Go.RowKit
theorem and_15 (s : Nat) (h : s < 4294967296) : bits .and .u32 (s : Int) 15 = ((s % 16 : Nat) : Int) := by
  have e := u32_and_nat s 15 h (by decide)
  refine e.trans ?_
  congr 1
  exact Nat.and_two_pow_sub_one_eq_mod s 4
set_option maxRecDepth 100000 in
set_option maxHeartbeats 4000000 in
theorem upd_q (s : Nat) (hs : s < 4294967296) (v : Value) (l : List Nat) (hl : l.length ≤ 100000) (hb : Bytes l) (w : World) (g : G w) (h : ByOut w v l) :
    Calls Tryd.prog 52 #[.int .u32 (s : Nat), v] w fun e w' => e = .returned (.int .u32 (cNot (cRun (cNot s) l) : Nat)) ∧ w = w' := by
  obtain ⟨A, c, rfl, hc, hx⟩ := h
  obtain ⟨n, hln⟩ : ∃ n, l.length = n := ⟨_, rfl⟩
  rw [hln] at hl hc ⊢
  have hnot : bits .xor .u32 IntKind.u32.max (s : Int) = ((cNot s : Nat) : Int) := u32_xor_nat 4294967295 s (by decide) hs
  have hns := cNot_lt hs
  generalize cNot s = s0 at *
  have GN := Lib.hid g.nib
  have HX := Lib.hid hx; have HL := Lib.hid hln; have HB := Lib.hid hb
  clear hx hln hb g
  go_enter Tryd.func52, Tryd.ntmps52
  go_wp2
  try simp only [hnot]
  go_loop [5, 7, 12] (fun s x i => ∃ k r : Nat, k ≤ n ∧ r < 4294967296 ∧ s = .int .u32 r ∧ i = .int .i64 k ∧ Hid (r = cRun s0 (l.take k))) (fun _ _ i => n - (intOf i).toNat)
  case atStart => exact ⟨0, s0, Nat.zero_le _, hns, rfl, rfl, rfl⟩
  case round =>
    obtain ⟨k, r, hk, hr, rfl, rfl, HI⟩ := hrel
    by_cases hlt : k < n
    · have hkl : k < l.length := by rw [HL.out]; exact hlt
      obtain ⟨b, off, rfl, ha⟩ := HX.out (by intro h; rw [h] at hkl; exact absurd hkl (Nat.not_lt_zero _))
      have hx0 := List.getElem?_eq_getElem hkl
      have hbx : l[k] < 256 := HB.out _ (List.getElem_mem hkl)
      have hstep : cRun s0 (l.take (k + 1)) = cBits 8 (r ^^^ l[k]) := by
        rw [List.take_add_one, hx0, cRun_app, ← HI.out]; rfl
      have c0 := ha k _ hx0
      generalize l[k] = x at *
      have hxor : bits .xor .u32 (r : Int) (x : Int) = ((r ^^^ x : Nat) : Int) := u32_xor_nat r x hr (by omega)
      have ht : r ^^^ x < 4294967296 := Nat.xor_lt_two_pow (n := 32) hr (by omega)
      generalize r ^^^ x = t at *
      have hx1 : (0 : Int) ≤ (x : Int) := by omega
      have hx2 : (x : Int) < 256 := by omega
      have HST := Lib.hid hstep; have HC := Lib.hid ha
      clear hstep ha hx0 HI
      go_wp2
      go_loop [5, 20] (fun s j => ∃ m u : Nat, m ≤ 2 ∧ u < 4294967296 ∧ s = .int .u32 u ∧ j = .int .i64 m ∧ Hid (cBits (8 - 4 * m) u = cBits 8 t)) (fun _ j => 2 - (intOf j).toNat)
      case atStart => exact ⟨0, t, Nat.zero_le _, ht, rfl, rfl, rfl⟩
      case round =>
        obtain ⟨m, u, hm, hu, rfl, rfl, HJ⟩ := hrel
        by_cases hlt2 : m < 2
        · have ha1 := and_15 u hu
          have hj2 : cBits (8 - 4 * (m + 1)) (cBits 4 u) = cBits 8 t := by
            rw [← HJ.out, ← cBits_add]
            congr 1
            omega
          have hcl := cBits_lt 4 hu
          have hcell := GN.out (u % 16) (by omega)
          have hmod : u % 16 < 16 := by omega
          have hx3 : bits .xor .u32 ((u : Int) / 16) ((cBits 4 (u % 16) : Nat) : Int) = ((cBits 4 u : Nat) : Int) := by
            have e : (u : Int) / 16 = ((u / 16 : Nat) : Int) := by omega
            rw [e, cBits_four u]
            exact u32_xor_nat (u / 16) _ (by omega) (cBits_lt 4 (by omega))
          generalize cBits 4 (u % 16) = y at *
          generalize u % 16 = q at *
          generalize cBits 4 u = z at *
          have HJ2 := Lib.hid hj2
          clear hj2 HJ
          go_wp2
          go_round
          case rel => exact ⟨m + 1, z, by omega, hcl, rfl, by go_num, HJ2⟩
          case measure => simp [intOf]; omega
        · obtain rfl : m = 2 := by omega
          have hue : u = cBits 8 t := HJ.out
          have HU := Lib.hid hue
          clear hue
          go_wp2
          go_round
          case rel => exact ⟨k + 1, u, by omega, hu, rfl, by go_num, by rw [HST.out]; exact HU.out⟩
          case measure => simp [intOf]; omega
    · obtain rfl : k = n := by omega
      have hs2 : bits .xor .u32 IntKind.u32.max (r : Int) = ((cNot (cRun s0 l) : Nat) : Int) := by
        have e := u32_xor_nat 4294967295 r (by decide) hr
        refine e.trans ?_
        congr 1
        rw [HI.out, List.take_of_length_le (by rw [HL.out]; exact Nat.le_refl _)]
        rfl
      have HS := Lib.hid hs2
      clear hs2
      go_wp2
      go_ret
      exact ⟨congrArg (fun z => Ending.returned (.int .u32 z)) HS.out, rfl⟩
theorem sum_q (v : Value) (l : List Nat) (hl : l.length ≤ 100000) (hb : Bytes l) (w : World) (g : G w) (h : ByOut w v l) :
    Calls Tryd.prog 48 #[v] w fun e w' => e = .returned (.int .u32 (cSum l : Nat)) ∧ w = w' := by
  have U := Lib.hid (upd_q 0 (by decide) v l hl hb w g h)
  obtain ⟨A, c, rfl, hc, hx⟩ := h
  clear hx
  go_enter Tryd.func48, Tryd.ntmps48
  go_wp2_with fail
  refine U.out.mono ?_; rintro _ w1 ⟨rfl, rfl⟩
  go_wp2
  go_ret
  exact ⟨rfl, rfl⟩
end Go.Proofs.YtabbpgnenmpacaaDoor.CP
/-
  Contracts of the program's functions of layer 5: Put.
-/
set_option linter.unusedSimpArgs false
set_option linter.unusedVariables false
namespace Go.Proofs.YtabbpgnenmpacaaDoor.CP
open Go.RowKit
open CR (below_next own_ge u8_wrap)
set_option maxRecDepth 100000 in
set_option maxHeartbeats 4000000 in
theorem put_c (v : Value) (l : List Nat) (hl : l.length ≤ 99000) (hb : Bytes l) (w : World) (g : G w) (h : ByOut w v l) :
    Calls Tryd.prog 40 #[v] w fun e w' => ∃ v', e = .returned v' ∧ ByNew w.heap.size w' v' (cPut l) ∧ Below w.heap.size w w' := by
  have S := fun w k h => sum_q v l (by omega) hb w k h
  have hs := cSum_lt hb
  obtain ⟨q, hq⟩ : ∃ q, bys (le4 (cSum l)) = q := ⟨_, rfl⟩
  have hN : ∀ (w' : World) (v' : Value), w'.ownsRow w.heap.size 5 1 v' (l.length + 4) (bys l ++ q) → ByNew w.heap.size w' v' (cPut l) := by
    intro w' v' h
    unfold ByNew cPut
    rw [List.length_append, le4_length, bys_app, hq]
    exact h
  have hb4 : bys (le4 (cSum l)) = [.int .u8 ((cSum l % 256 : Nat) : Int), .int .u8 ((cSum l / 256 % 256 : Nat) : Int), .int .u8 ((cSum l / 65536 % 256 : Nat) : Int), .int .u8 ((cSum l / 16777216 % 256 : Nat) : Int)] := rfl
  have k0 : IntKind.u8.wrap ((cSum l : Nat) : Int) = ((cSum l % 256 : Nat) : Int) := by rw [u8_wrap]; omega
  have k1 : IntKind.u8.wrap (((cSum l : Nat) : Int) / 256) = ((cSum l / 256 % 256 : Nat) : Int) := by rw [u8_wrap]; omega
  have k2 : IntKind.u8.wrap (((cSum l : Nat) : Int) / 65536) = ((cSum l / 65536 % 256 : Nat) : Int) := by rw [u8_wrap]; omega
  have k3 : IntKind.u8.wrap (((cSum l : Nat) : Int) / 16777216) = ((cSum l / 16777216 % 256 : Nat) : Int) := by rw [u8_wrap]; omega
  obtain ⟨s, hsE⟩ : ∃ s : Int, ((cSum l : Nat) : Int) = s := ⟨_, rfl⟩
  have hs0 : 0 ≤ s := by omega
  have hs1 : s < 4294967296 := by omega
  rw [hsE] at k0 k1 k2 k3 S
  generalize ((cSum l % 256 : Nat) : Int) = b0 at *
  generalize ((cSum l / 256 % 256 : Nat) : Int) = b1 at *
  generalize ((cSum l / 65536 % 256 : Nat) : Int) = b2 at *
  generalize ((cSum l / 16777216 % 256 : Nat) : Int) = b3 at *
  rw [hb4] at hq
  have hq0 : q.take 0 ++ [.int .u8 b0] = q.take 1 := by rw [← hq]; rfl
  have hq1 : q.take 1 ++ [.int .u8 b1] = q.take 2 := by rw [← hq]; rfl
  have hq2 : q.take 2 ++ [.int .u8 b2] = q.take 3 := by rw [← hq]; rfl
  have hq3 : q.take 3 ++ [.int .u8 b3] = q.take 4 := by rw [← hq]; rfl
  have hq4 : q.take 4 = q := by rw [← hq]; rfl
  have HQ0 := Lib.hid hq0; have HQ1 := Lib.hid hq1; have HQ2 := Lib.hid hq2; have HQ3 := Lib.hid hq3; have HQ4 := Lib.hid hq4
  clear hq0 hq1 hq2 hq3 hq4 hq hb4 hsE hs
  have HF := Lib.hid h
  obtain ⟨A, c, rfl, hc, hx⟩ := h
  obtain ⟨n, hln⟩ : ∃ n, l.length = n := ⟨_, rfl⟩
  have hR := reads_by hx
  rw [hln] at hl hc hR HF S hN ⊢
  have HR := Lib.hid hR; have HN := Lib.hid hN; have HG := Lib.hid g; have HS := Lib.hid S
  clear hx hln hR hN hb g S
  obtain ⟨i0, hi0, hz0, hz1, hz2⟩ := info_parts (P := Tryd.prog) (e := 5) (z := .int .u8 0) (size := 1) (bytes := 1) (by kernel_rfl)
  go_enter Tryd.func40, Tryd.ntmps40
  go_wp2_with
    first
    | (at_make; refine wpList_make_own _ rfl _ _ 27 rfl w.heap.size 5 i0 (.int .u8 0) 1 Tryd.underlying27 hi0 hz0 hz1 .i64 .i64 _ (n + 4) rfl rfl (by omega) (by rw [hz2]; omega) (by unfold maxLen; omega) (Nat.le_refl _) ?_; intro w0 hown0 hgrow0; generalize (Value.slice (some (⟨w.heap.size, 0, none⟩ : Addr)) 0 (n + 4)) = v0 at hown0 ⊢)
    | (at_builtin; refine wpList_append_any _ rfl (.tmp 10) (.tmp 11) _ rfl w.heap.size 5 i0 (.int .u8 0) 1 1 Tryd.underlying27 hi0 hz0 hz1 hz2 rfl (by decide) v0 0 [] rfl hown0 w.heap.size A n c (bys l) rfl (HR.out.grown hgrow0 (Nat.le_refl _) (by intro g hg; cases hg)) (bys_one _) (by simp only [maxLen]; omega) (by omega) (Below.grown (Below.refl _ _) hgrow0 (Nat.le_refl _) (by intro g hg; cases hg)).size ?_; intro v3 w3 hown3 hg3 hat3)
  have hb0 : Below w.heap.size w w0 := Below.grown (Below.refl _ _) hgrow0 (Nat.le_refl _) (by intro g hg; cases hg)
  have hb3 : Below w.heap.size w w3 := Below.grown hb0 hg3 hb0.size (own_ge hown0)
  rw [Nat.zero_add, List.nil_append] at hown3
  have OWN3 := Lib.hid hown3; have B3 := Lib.hid hb3
  clear hown3 hg3 hat3 hb3 hown0 hb0 hgrow0 HR
  refine (HS.out _ (HG.out.below B3.out) (HF.out.below B3.out)).mono ?_; rintro _ w4 ⟨rfl, rfl⟩
  go_wp2
  go_loopw [3, 5, 15] (fun o x i wr => ∃ (k : Nat) (vr : Value), k ≤ 4 ∧ o = vr ∧ i = .int .i64 k ∧ Hid (wr.ownsRow w.heap.size 5 1 vr (n + k) (bys l ++ q.take k)) ∧ Hid (Below w.heap.size w wr)) (fun _ _ i _ => 4 - (intOf i).toNat)
  case atStart => exact ⟨0, v3, by omega, rfl, rfl, by rw [List.take_zero, List.append_nil]; exact OWN3.out, B3⟩
  case round =>
    obtain ⟨k, vr, hk, rfl, rfl, OWN, BR⟩ := hrel
    clear OWN3 B3
    have hk4 : k = 0 ∨ k = 1 ∨ k = 2 ∨ k = 3 ∨ k = 4 := by omega
    rcases hk4 with rfl | rfl | rfl | rfl | rfl
    · have hKB : IntKind.u8.wrap (s) = b0 := k0
      go_wp2_with (at_builtin; refine wpList_append_any _ rfl (.tmp 18) (.tmp 24) _ rfl w.heap.size 5 i0 (.int .u8 0) 1 1 Tryd.underlying27 hi0 hz0 hz1 hz2 rfl (by decide) u3 (n + 0) (bys l ++ q.take 0) rfl (World.ownsRow.alloc OWN.out _) _ (some ⟨wr.heap.size, 0, none⟩) 1 1 [.int .u8 b0] rfl (Reads.of_own (World.ownsRow_lit (base := 0) (e := 5) (size := 1) wr #[.int .u8 b0] 1 (Nat.zero_le _) (by decide) rfl)) (by simp [Value.oneCell']) (by simp only [maxLen]; omega) (by omega) (by have := BR.out.size; simp; omega) ?_; intro v4 w4 hown4 hg4 hat4)
      have hb4 : Below w.heap.size w w4 := Below.grown (BR.out.alloc BR.out.size _) hg4 (by have := BR.out.size; simp; omega) (own_ge OWN.out)
      rw [List.append_assoc, HQ0.out] at hown4
      have OWN4 := Lib.hid hown4; have B4 := Lib.hid hb4
      clear hown4 hg4 hat4 hb4
      go_round
      case rel => exact ⟨1, v4, by omega, rfl, by go_num, OWN4, B4⟩
      case measure => simp [intOf]
    · have hKB : IntKind.u8.wrap (s / 256) = b1 := k1
      go_wp2_with (at_builtin; refine wpList_append_any _ rfl (.tmp 18) (.tmp 24) _ rfl w.heap.size 5 i0 (.int .u8 0) 1 1 Tryd.underlying27 hi0 hz0 hz1 hz2 rfl (by decide) u3 (n + 1) (bys l ++ q.take 1) rfl (World.ownsRow.alloc OWN.out _) _ (some ⟨wr.heap.size, 0, none⟩) 1 1 [.int .u8 b1] rfl (Reads.of_own (World.ownsRow_lit (base := 0) (e := 5) (size := 1) wr #[.int .u8 b1] 1 (Nat.zero_le _) (by decide) rfl)) (by simp [Value.oneCell']) (by simp only [maxLen]; omega) (by omega) (by have := BR.out.size; simp; omega) ?_; intro v4 w4 hown4 hg4 hat4)
      have hb4 : Below w.heap.size w w4 := Below.grown (BR.out.alloc BR.out.size _) hg4 (by have := BR.out.size; simp; omega) (own_ge OWN.out)
      rw [List.append_assoc, HQ1.out] at hown4
      have OWN4 := Lib.hid hown4; have B4 := Lib.hid hb4
      clear hown4 hg4 hat4 hb4
      go_round
      case rel => exact ⟨2, v4, by omega, rfl, by go_num, OWN4, B4⟩
      case measure => simp [intOf]
    · have hKB : IntKind.u8.wrap (s / 65536) = b2 := k2
      go_wp2_with (at_builtin; refine wpList_append_any _ rfl (.tmp 18) (.tmp 24) _ rfl w.heap.size 5 i0 (.int .u8 0) 1 1 Tryd.underlying27 hi0 hz0 hz1 hz2 rfl (by decide) u3 (n + 2) (bys l ++ q.take 2) rfl (World.ownsRow.alloc OWN.out _) _ (some ⟨wr.heap.size, 0, none⟩) 1 1 [.int .u8 b2] rfl (Reads.of_own (World.ownsRow_lit (base := 0) (e := 5) (size := 1) wr #[.int .u8 b2] 1 (Nat.zero_le _) (by decide) rfl)) (by simp [Value.oneCell']) (by simp only [maxLen]; omega) (by omega) (by have := BR.out.size; simp; omega) ?_; intro v4 w4 hown4 hg4 hat4)
      have hb4 : Below w.heap.size w w4 := Below.grown (BR.out.alloc BR.out.size _) hg4 (by have := BR.out.size; simp; omega) (own_ge OWN.out)
      rw [List.append_assoc, HQ2.out] at hown4
      have OWN4 := Lib.hid hown4; have B4 := Lib.hid hb4
      clear hown4 hg4 hat4 hb4
      go_round
      case rel => exact ⟨3, v4, by omega, rfl, by go_num, OWN4, B4⟩
      case measure => simp [intOf]
    · have hKB : IntKind.u8.wrap (s / 16777216) = b3 := k3
      go_wp2_with (at_builtin; refine wpList_append_any _ rfl (.tmp 18) (.tmp 24) _ rfl w.heap.size 5 i0 (.int .u8 0) 1 1 Tryd.underlying27 hi0 hz0 hz1 hz2 rfl (by decide) u3 (n + 3) (bys l ++ q.take 3) rfl (World.ownsRow.alloc OWN.out _) _ (some ⟨wr.heap.size, 0, none⟩) 1 1 [.int .u8 b3] rfl (Reads.of_own (World.ownsRow_lit (base := 0) (e := 5) (size := 1) wr #[.int .u8 b3] 1 (Nat.zero_le _) (by decide) rfl)) (by simp [Value.oneCell']) (by simp only [maxLen]; omega) (by omega) (by have := BR.out.size; simp; omega) ?_; intro v4 w4 hown4 hg4 hat4)
      have hb4 : Below w.heap.size w w4 := Below.grown (BR.out.alloc BR.out.size _) hg4 (by have := BR.out.size; simp; omega) (own_ge OWN.out)
      rw [List.append_assoc, HQ3.out] at hown4
      have OWN4 := Lib.hid hown4; have B4 := Lib.hid hb4
      clear hown4 hg4 hat4 hb4
      go_round
      case rel => exact ⟨4, v4, by omega, rfl, by go_num, OWN4, B4⟩
      case measure => simp [intOf]
    · have hfin := HN.out _ _ (by rw [← HQ4.out]; exact OWN.out)
      have HF := Lib.hid hfin
      clear hfin
      go_wp2
      go_ret
      exact ⟨_, rfl, HF.out, BR.out⟩
end Go.Proofs.YtabbpgnenmpacaaDoor.CP
/-
  Contracts of the program's functions of layer 5: Check, with the library's bytes.Equal.
-/
set_option linter.unusedSimpArgs false
set_option linter.unusedVariables false
namespace Go.Proofs.YtabbpgnenmpacaaDoor.CP
open Go.RowKit
open CR (below_next own_ge u8_wrap)
theorem nilOut (w : World) : ByOut w (.slice none 0 0) [] := ⟨none, 0, rfl, Nat.le_refl _, fun h => absurd rfl h⟩
/-- A row of bytes as the text that a conversion makes of it. -/
def strB (l : List Nat) : ByteArray := ⟨(l.map UInt8.ofNat).toArray⟩
theorem map_ofNat_inj {a b : List Nat} (ha : Bytes a) (hb : Bytes b) (h : a.map UInt8.ofNat = b.map UInt8.ofNat) : a = b := by
  have e : ∀ l : List Nat, Bytes l → (l.map UInt8.ofNat).map UInt8.toNat = l := by
    intro l hl
    rw [List.map_map]
    refine (List.map_congr_left fun x hx => ?_).trans (List.map_id l)
    have := hl x hx
    show (UInt8.ofNat x).toNat = x
    rw [UInt8.toNat_ofNat']
    omega
  rw [← e a ha, ← e b hb, h]
theorem cPut_bytes {l : List Nat} (h : Bytes l) : Bytes (cPut l) := fun b hb => (List.mem_append.1 (by unfold cPut at hb; exact hb)).elim (h b) (le4_bytes _ b)
theorem conv_by {w : World} {A : Option Addr} {n c : Nat} {l : List Nat} (hb : Bytes l) (h : ByOut w (.slice A n c) l) : (convert 27 9 (.slice A n c)).run Tryd.prog w = .ok (.string (strB l)) w := by
  obtain ⟨A', c', hv, hc, hx⟩ := h
  injection hv with h1 h2 h3
  subst h1 h2 h3
  rcases Nat.eq_zero_or_pos l.length with h0 | h0
  · obtain rfl : l = [] := List.eq_nil_of_length_eq_zero h0
    rw [run_convert_bytes_string w 27 9 5 _ _ c Tryd.underlying27 Tryd.underlying5 Tryd.underlying9]
    cases A <;> simp [Conv.bytesToString, loadCells]
    all_goals rfl
  · obtain ⟨b, off, rfl, hf⟩ := hx (List.length_pos_iff.1 h0)
    have e := run_convert_bytes_back (P := Tryd.prog) w 27 9 5 ⟨b, off, none⟩ c (l.map UInt8.ofNat) Tryd.underlying27 Tryd.underlying5 Tryd.underlying9 (fun j hj => by
      have ea : (⟨b, off, none⟩ : Addr).add j = ⟨b, off + j, none⟩ := by unfold Addr.add; split <;> simp_all
      rw [List.length_map] at hj
      rw [ea, hf j _ (List.getElem?_eq_getElem hj), List.getElem_map]
      have := hb _ (List.getElem_mem hj)
      rw [UInt8.toNat_ofNat']
      congr 3
      omega)
    rw [List.length_map] at e
    exact e
set_option maxRecDepth 100000 in
set_option maxHeartbeats 1000000 in
theorem equal_c (v1 v2 : Value) (a b : List Nat) (ha : Bytes a) (hb : Bytes b) (w : World) (h1 : ByOut w v1 a) (h2 : ByOut w v2 b) :
    Calls Tryd.prog 39 #[v1, v2] w fun e w' => e = .returned (.bool (decide (a = b))) ∧ w = w' := by
  obtain ⟨A1, c1, rfl, _, _⟩ := id h1
  obtain ⟨A2, c2, rfl, _, _⟩ := id h2
  have k1 := conv_by ha h1
  have k2 := conv_by hb h2
  have hd : ((strB a).toList == (strB b).toList) = decide (a = b) := by
    rw [ByteArray.toList_eq, ByteArray.toList_eq]
    by_cases h : a = b
    · rw [h, decide_eq_true rfl]; exact beq_self_eq_true _
    · rw [decide_eq_false h, beq_eq_false_iff_ne]
      intro h9
      apply h
      unfold strB at h9
      simp only [List.toList_toArray] at h9
      exact map_ofNat_inj ha hb h9
  generalize strB a = s1 at *
  generalize strB b = s2 at *
  have HD := Lib.hid hd
  clear hd h1 h2
  go_enter Tryd.func39, Tryd.ntmps39
  go_wp2
  go_ret
  exact ⟨congrArg (fun z => Ending.returned (.bool z)) HD.out, rfl⟩
set_option maxRecDepth 100000 in
set_option maxHeartbeats 4000000 in
theorem check_c (v : Value) (l : List Nat) (hl : l.length ≤ 90000) (hb : Bytes l) (w : World) (g : G w) (h : ByOut w v l) :
    Calls Tryd.prog 50 #[v] w fun e w' => ∃ v', e = .returned (.tuple #[v', .int .i64 (cChk l).2]) ∧ ByOut w' v' (cChk l).1 ∧ Below w.heap.size w w' := by
  have hF := h
  obtain ⟨A, c, rfl, hc, hx⟩ := h
  obtain ⟨n, hln⟩ : ∃ n, l.length = n := ⟨_, rfl⟩
  rw [hln] at hl hc hF ⊢
  by_cases h4 : n < 4
  · have hk : cChk l = ([], 9) := by unfold cChk; rw [if_pos (by rw [hln]; exact h4)]
    rw [hk]
    have h4i : (n : Int) < 4 := by omega
    clear hk hx hF
    go_enter Tryd.func50, Tryd.ntmps50
    go_wp2
    exact bodyPost_ret (v := .tuple #[.slice none 0 0, .int .i64 9]) (by simp [results, Tryd.results50, go_sem]) rfl ⟨.slice none 0 0, rfl, nilOut _, Below.refl _ _⟩
  · obtain ⟨m, hm⟩ : ∃ m, n - 4 = m := ⟨_, rfl⟩
    have hnm : (n : Int) - 4 = (m : Int) := by omega
    have hmn : m ≤ n := by omega
    have hmc : (m : Int) ≤ (c : Int) := by omega
    have h4i : ¬ (n : Int) < 4 := by omega
    have ht : (l.take m).length = m := by rw [List.length_take]; omega
    have hput : (cPut (l.take m)).length = m + 4 := by unfold cPut; rw [List.length_append, le4_length, ht]
    have hbt := CR.Bytes.take hb m
    have PT := Lib.hid (put_c (.slice A m c) (l.take m) (by rw [ht]; omega) hbt w g (CR.ByOut.take hF hmn))
    have EQ := Lib.hid (fun (v1 : Value) (w1 : World) (h1 : ByOut w1 v1 (cPut (l.take m))) (h2 : ByOut w1 (.slice A n c) l) => equal_c v1 (.slice A n c) (cPut (l.take m)) l (cPut_bytes hbt) hb w1 h1 h2)
    have hk : cChk l = if cPut (l.take m) = l then (l.take m, 0) else ([], 8) := by unfold cChk; rw [if_neg (by rw [hln]; omega), hln, hm]
    have hcut : ∀ (w' : World) (A1 : Option Addr) (c1 : Nat), ByOut w' (.slice A1 (m + 4) c1) (cPut (l.take m)) → ByOut w' (.slice A1 m m) (l.take m) := by
      intro w' A1 c1 h
      have h2 := CR.ByOut.take h (m := m) (by omega)
      have e : (cPut (l.take m)).take m = l.take m := by unfold cPut; rw [List.take_append_of_le_length (by omega), List.take_of_length_le (by omega)]
      rw [e] at h2
      obtain ⟨A', c', hv, _, hx⟩ := h2
      injection hv with q1 q2 q3
      subst q1
      exact ⟨A1, m, by rw [ht], by omega, hx⟩
    have HK := Lib.hid hk; have HF := Lib.hid hF; have HP := Lib.hid hput; have HC := Lib.hid hcut
    clear hk hF hx hput ht hln hm g hcut hbt
    by_cases hq : cPut (l.take m) = l
    · have hk2 : cChk l = (l.take m, 0) := by rw [HK.out, if_pos hq]
      rw [hk2]
      rw [decide_eq_true hq] at EQ
      clear hk2 hq
      generalize l.take m = a at *
      go_enter Tryd.func50, Tryd.ntmps50
      go_wp2_with fail
      refine PT.out.mono ?_; rintro _ w1 ⟨v1, rfl, hn1, hb1⟩
      obtain ⟨A1, c1, hv1, hc1, _⟩ := hn1.out
      rw [HP.out] at hv1 hc1
      subst hv1
      have hc1i : (m : Int) + 4 ≤ (c1 : Int) := by omega
      have O1 := Lib.hid hn1.out; have B1 := Lib.hid hb1
      clear hn1 hb1
      go_wp2_with fail
      refine (EQ.out _ _ O1.out (HF.out.below B1.out)).mono ?_; rintro _ w2 ⟨rfl, rfl⟩
      have O2 := Lib.hid (HC.out _ _ _ O1.out)
      go_wp2
      exact bodyPost_ret (v := .tuple #[.slice A1 m m, .int .i64 0]) (by simp [results, Tryd.results50, go_sem]) rfl ⟨.slice A1 m m, rfl, O2.out, B1.out⟩
    · have hk2 : cChk l = ([], 8) := by rw [HK.out, if_neg hq]
      rw [hk2]
      rw [decide_eq_false hq] at EQ
      clear hk2 hq
      generalize l.take m = a at *
      go_enter Tryd.func50, Tryd.ntmps50
      go_wp2_with fail
      refine PT.out.mono ?_; rintro _ w1 ⟨v1, rfl, hn1, hb1⟩
      have O1 := Lib.hid hn1.out; have B1 := Lib.hid hb1
      clear hn1 hb1
      go_wp2_with fail
      refine (EQ.out _ _ O1.out (HF.out.below B1.out)).mono ?_; rintro _ w2 ⟨rfl, rfl⟩
      go_wp2
      exact bodyPost_ret (v := .tuple #[.slice none 0 0, .int .i64 8]) (by simp [results, Tryd.results50, go_sem]) rfl ⟨.slice none 0 0, rfl, nilOut _, B1.out⟩
end Go.Proofs.YtabbpgnenmpacaaDoor.CP
/-
  Contracts of the program's functions of layer 5: Sum, Update (Put: PB; Check: PC).
-/
set_option linter.unusedSimpArgs false
set_option linter.unusedVariables false
namespace Go.Proofs.YtabbpgnenmpacaaDoor.CP
open Go.RowKit
open CR (below_next own_ge u8_wrap)
theorem sum_c (v : Value) (l : List Nat) (hl : l.length ≤ 100000) (hb : Bytes l) (w : World) (g : G w) (h : ByOut w v l) :
    Calls Tryd.prog 48 #[v] w fun e w' => e = .returned (.int .u32 (cSum l : Nat)) ∧ Below w.heap.size w w' :=
  (sum_q v l hl hb w g h).mono fun e w' ⟨he, hw⟩ => ⟨he, hw ▸ Below.refl _ _⟩
theorem upd_c (s : Nat) (hs : s < 4294967296) (v : Value) (l : List Nat) (hl : l.length ≤ 100000) (hb : Bytes l) (w : World) (g : G w) (h : ByOut w v l) :
    Calls Tryd.prog 52 #[.int .u32 (s : Nat), v] w fun e w' => e = .returned (.int .u32 (cNot (cRun (cNot s) l) : Nat)) ∧ Below w.heap.size w w' :=
  (upd_q s hs v l hl hb w g h).mono fun e w' ⟨he, hw⟩ => ⟨he, hw ▸ Below.refl _ _⟩
end Go.Proofs.YtabbpgnenmpacaaDoor.CP
