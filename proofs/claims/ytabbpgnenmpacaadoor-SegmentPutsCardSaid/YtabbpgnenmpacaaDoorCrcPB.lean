/-
  Contracts of the program's functions of layer 5: Put.
-/
import Derived.Test.YtabbpgnenmpacaaDoorCrcPA
set_option linter.unusedSimpArgs false
set_option linter.unusedVariables false
namespace Go.Proofs.YtabbpgnenmpacaaDoor.CP
open Go.RowKit
open CR (below_next own_ge u8_wrap)
set_option maxRecDepth 100000 in
set_option maxHeartbeats 4000000 in
theorem put_c (v : Value) (l : List Nat) (hl : l.length ≤ 99000) (hb : Bytes l) (w : World) (g : G w) (h : ByOut w v l) :
    Calls Tryd.prog 40 #[v] w fun e w' => ∃ v', e = .returned v' ∧ ByNew w.heap.size w' v' (cPut l) ∧ Below w.heap.size w w' := by
  have S := fun w k h => sum_q v l (by omega) hb w k h
  have hs := cSum_lt hb
  obtain ⟨q, hq⟩ : ∃ q, bys (le4 (cSum l)) = q := ⟨_, rfl⟩
  have hN : ∀ (w' : World) (v' : Value), w'.ownsRow w.heap.size 5 1 v' (l.length + 4) (bys l ++ q) → ByNew w.heap.size w' v' (cPut l) := by
    intro w' v' h
    unfold ByNew cPut
    rw [List.length_append, le4_length, bys_app, hq]
    exact h
  have hb4 : bys (le4 (cSum l)) = [.int .u8 ((cSum l % 256 : Nat) : Int), .int .u8 ((cSum l / 256 % 256 : Nat) : Int), .int .u8 ((cSum l / 65536 % 256 : Nat) : Int), .int .u8 ((cSum l / 16777216 % 256 : Nat) : Int)] := rfl
  have k0 : IntKind.u8.wrap ((cSum l : Nat) : Int) = ((cSum l % 256 : Nat) : Int) := by rw [u8_wrap]; omega
  have k1 : IntKind.u8.wrap (((cSum l : Nat) : Int) / 256) = ((cSum l / 256 % 256 : Nat) : Int) := by rw [u8_wrap]; omega
  have k2 : IntKind.u8.wrap (((cSum l : Nat) : Int) / 65536) = ((cSum l / 65536 % 256 : Nat) : Int) := by rw [u8_wrap]; omega
  have k3 : IntKind.u8.wrap (((cSum l : Nat) : Int) / 16777216) = ((cSum l / 16777216 % 256 : Nat) : Int) := by rw [u8_wrap]; omega
  obtain ⟨s, hsE⟩ : ∃ s : Int, ((cSum l : Nat) : Int) = s := ⟨_, rfl⟩
  have hs0 : 0 ≤ s := by omega
  have hs1 : s < 4294967296 := by omega
  rw [hsE] at k0 k1 k2 k3 S
  generalize ((cSum l % 256 : Nat) : Int) = b0 at *
  generalize ((cSum l / 256 % 256 : Nat) : Int) = b1 at *
  generalize ((cSum l / 65536 % 256 : Nat) : Int) = b2 at *
  generalize ((cSum l / 16777216 % 256 : Nat) : Int) = b3 at *
  rw [hb4] at hq
  have hq0 : q.take 0 ++ [.int .u8 b0] = q.take 1 := by rw [← hq]; rfl
  have hq1 : q.take 1 ++ [.int .u8 b1] = q.take 2 := by rw [← hq]; rfl
  have hq2 : q.take 2 ++ [.int .u8 b2] = q.take 3 := by rw [← hq]; rfl
  have hq3 : q.take 3 ++ [.int .u8 b3] = q.take 4 := by rw [← hq]; rfl
  have hq4 : q.take 4 = q := by rw [← hq]; rfl
  have HQ0 := Lib.hid hq0; have HQ1 := Lib.hid hq1; have HQ2 := Lib.hid hq2; have HQ3 := Lib.hid hq3; have HQ4 := Lib.hid hq4
  clear hq0 hq1 hq2 hq3 hq4 hq hb4 hsE hs
  have HF := Lib.hid h
  obtain ⟨A, c, rfl, hc, hx⟩ := h
  obtain ⟨n, hln⟩ : ∃ n, l.length = n := ⟨_, rfl⟩
  have hR := reads_by hx
  rw [hln] at hl hc hR HF S hN ⊢
  have HR := Lib.hid hR; have HN := Lib.hid hN; have HG := Lib.hid g; have HS := Lib.hid S
  clear hx hln hR hN hb g S
  obtain ⟨i0, hi0, hz0, hz1, hz2⟩ := info_parts (P := Tryd.prog) (e := 5) (z := .int .u8 0) (size := 1) (bytes := 1) (by kernel_rfl)
  go_enter Tryd.func40, Tryd.ntmps40
  go_wp2_with
    first
    | (at_make; refine wpList_make_own _ rfl _ _ 27 rfl w.heap.size 5 i0 (.int .u8 0) 1 Tryd.underlying27 hi0 hz0 hz1 .i64 .i64 _ (n + 4) rfl rfl (by omega) (by rw [hz2]; omega) (by unfold maxLen; omega) (Nat.le_refl _) ?_; intro w0 hown0 hgrow0; generalize (Value.slice (some (⟨w.heap.size, 0, none⟩ : Addr)) 0 (n + 4)) = v0 at hown0 ⊢)
    | (at_builtin; refine wpList_append_any _ rfl (.tmp 10) (.tmp 11) _ rfl w.heap.size 5 i0 (.int .u8 0) 1 1 Tryd.underlying27 hi0 hz0 hz1 hz2 rfl (by decide) v0 0 [] rfl hown0 w.heap.size A n c (bys l) rfl (HR.out.grown hgrow0 (Nat.le_refl _) (by intro g hg; cases hg)) (bys_one _) (by simp only [maxLen]; omega) (by omega) (Below.grown (Below.refl _ _) hgrow0 (Nat.le_refl _) (by intro g hg; cases hg)).size ?_; intro v3 w3 hown3 hg3 hat3)
  have hb0 : Below w.heap.size w w0 := Below.grown (Below.refl _ _) hgrow0 (Nat.le_refl _) (by intro g hg; cases hg)
  have hb3 : Below w.heap.size w w3 := Below.grown hb0 hg3 hb0.size (own_ge hown0)
  rw [Nat.zero_add, List.nil_append] at hown3
  have OWN3 := Lib.hid hown3; have B3 := Lib.hid hb3
  clear hown3 hg3 hat3 hb3 hown0 hb0 hgrow0 HR
  refine (HS.out _ (HG.out.below B3.out) (HF.out.below B3.out)).mono ?_; rintro _ w4 ⟨rfl, rfl⟩
  go_wp2
  go_loopw [3, 5, 15] (fun o x i wr => ∃ (k : Nat) (vr : Value), k ≤ 4 ∧ o = vr ∧ i = .int .i64 k ∧ Hid (wr.ownsRow w.heap.size 5 1 vr (n + k) (bys l ++ q.take k)) ∧ Hid (Below w.heap.size w wr)) (fun _ _ i _ => 4 - (intOf i).toNat)
  case atStart => exact ⟨0, v3, by omega, rfl, rfl, by rw [List.take_zero, List.append_nil]; exact OWN3.out, B3⟩
  case round =>
    obtain ⟨k, vr, hk, rfl, rfl, OWN, BR⟩ := hrel
    clear OWN3 B3
    have hk4 : k = 0 ∨ k = 1 ∨ k = 2 ∨ k = 3 ∨ k = 4 := by omega
    rcases hk4 with rfl | rfl | rfl | rfl | rfl
    · have hKB : IntKind.u8.wrap (s) = b0 := k0
      go_wp2_with (at_builtin; refine wpList_append_any _ rfl (.tmp 18) (.tmp 24) _ rfl w.heap.size 5 i0 (.int .u8 0) 1 1 Tryd.underlying27 hi0 hz0 hz1 hz2 rfl (by decide) u3 (n + 0) (bys l ++ q.take 0) rfl (World.ownsRow.alloc OWN.out _) _ (some ⟨wr.heap.size, 0, none⟩) 1 1 [.int .u8 b0] rfl (Reads.of_own (World.ownsRow_lit (base := 0) (e := 5) (size := 1) wr #[.int .u8 b0] 1 (Nat.zero_le _) (by decide) rfl)) (by simp [Value.oneCell']) (by simp only [maxLen]; omega) (by omega) (by have := BR.out.size; simp; omega) ?_; intro v4 w4 hown4 hg4 hat4)
      have hb4 : Below w.heap.size w w4 := Below.grown (BR.out.alloc BR.out.size _) hg4 (by have := BR.out.size; simp; omega) (own_ge OWN.out)
      rw [List.append_assoc, HQ0.out] at hown4
      have OWN4 := Lib.hid hown4; have B4 := Lib.hid hb4
      clear hown4 hg4 hat4 hb4
      go_round
      case rel => exact ⟨1, v4, by omega, rfl, by go_num, OWN4, B4⟩
      case measure => simp [intOf]
    · have hKB : IntKind.u8.wrap (s / 256) = b1 := k1
      go_wp2_with (at_builtin; refine wpList_append_any _ rfl (.tmp 18) (.tmp 24) _ rfl w.heap.size 5 i0 (.int .u8 0) 1 1 Tryd.underlying27 hi0 hz0 hz1 hz2 rfl (by decide) u3 (n + 1) (bys l ++ q.take 1) rfl (World.ownsRow.alloc OWN.out _) _ (some ⟨wr.heap.size, 0, none⟩) 1 1 [.int .u8 b1] rfl (Reads.of_own (World.ownsRow_lit (base := 0) (e := 5) (size := 1) wr #[.int .u8 b1] 1 (Nat.zero_le _) (by decide) rfl)) (by simp [Value.oneCell']) (by simp only [maxLen]; omega) (by omega) (by have := BR.out.size; simp; omega) ?_; intro v4 w4 hown4 hg4 hat4)
      have hb4 : Below w.heap.size w w4 := Below.grown (BR.out.alloc BR.out.size _) hg4 (by have := BR.out.size; simp; omega) (own_ge OWN.out)
      rw [List.append_assoc, HQ1.out] at hown4
      have OWN4 := Lib.hid hown4; have B4 := Lib.hid hb4
      clear hown4 hg4 hat4 hb4
      go_round
      case rel => exact ⟨2, v4, by omega, rfl, by go_num, OWN4, B4⟩
      case measure => simp [intOf]
    · have hKB : IntKind.u8.wrap (s / 65536) = b2 := k2
      go_wp2_with (at_builtin; refine wpList_append_any _ rfl (.tmp 18) (.tmp 24) _ rfl w.heap.size 5 i0 (.int .u8 0) 1 1 Tryd.underlying27 hi0 hz0 hz1 hz2 rfl (by decide) u3 (n + 2) (bys l ++ q.take 2) rfl (World.ownsRow.alloc OWN.out _) _ (some ⟨wr.heap.size, 0, none⟩) 1 1 [.int .u8 b2] rfl (Reads.of_own (World.ownsRow_lit (base := 0) (e := 5) (size := 1) wr #[.int .u8 b2] 1 (Nat.zero_le _) (by decide) rfl)) (by simp [Value.oneCell']) (by simp only [maxLen]; omega) (by omega) (by have := BR.out.size; simp; omega) ?_; intro v4 w4 hown4 hg4 hat4)
      have hb4 : Below w.heap.size w w4 := Below.grown (BR.out.alloc BR.out.size _) hg4 (by have := BR.out.size; simp; omega) (own_ge OWN.out)
      rw [List.append_assoc, HQ2.out] at hown4
      have OWN4 := Lib.hid hown4; have B4 := Lib.hid hb4
      clear hown4 hg4 hat4 hb4
      go_round
      case rel => exact ⟨3, v4, by omega, rfl, by go_num, OWN4, B4⟩
      case measure => simp [intOf]
    · have hKB : IntKind.u8.wrap (s / 16777216) = b3 := k3
      go_wp2_with (at_builtin; refine wpList_append_any _ rfl (.tmp 18) (.tmp 24) _ rfl w.heap.size 5 i0 (.int .u8 0) 1 1 Tryd.underlying27 hi0 hz0 hz1 hz2 rfl (by decide) u3 (n + 3) (bys l ++ q.take 3) rfl (World.ownsRow.alloc OWN.out _) _ (some ⟨wr.heap.size, 0, none⟩) 1 1 [.int .u8 b3] rfl (Reads.of_own (World.ownsRow_lit (base := 0) (e := 5) (size := 1) wr #[.int .u8 b3] 1 (Nat.zero_le _) (by decide) rfl)) (by simp [Value.oneCell']) (by simp only [maxLen]; omega) (by omega) (by have := BR.out.size; simp; omega) ?_; intro v4 w4 hown4 hg4 hat4)
      have hb4 : Below w.heap.size w w4 := Below.grown (BR.out.alloc BR.out.size _) hg4 (by have := BR.out.size; simp; omega) (own_ge OWN.out)
      rw [List.append_assoc, HQ3.out] at hown4
      have OWN4 := Lib.hid hown4; have B4 := Lib.hid hb4
      clear hown4 hg4 hat4 hb4
      go_round
      case rel => exact ⟨4, v4, by omega, rfl, by go_num, OWN4, B4⟩
      case measure => simp [intOf]
    · have hfin := HN.out _ _ (by rw [← HQ4.out]; exact OWN.out)
      have HF := Lib.hid hfin
      clear hfin
      go_wp2
      go_ret
      exact ⟨_, rfl, HF.out, BR.out⟩
end Go.Proofs.YtabbpgnenmpacaaDoor.CP
