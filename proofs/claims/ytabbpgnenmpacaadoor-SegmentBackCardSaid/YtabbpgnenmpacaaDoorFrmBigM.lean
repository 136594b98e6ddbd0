/-
  Copy and Same of the document's own (layer 5), for rows of any length that memory bears.
-/
import Derived.Test.YtabbpgnenmpacaaDoorCrcRefM
set_option linter.unusedSimpArgs false
set_option linter.unusedVariables false
namespace Go.Proofs.YtabbpgnenmpacaaDoor.CR
open Go.RowKit
set_option maxRecDepth 100000 in
set_option maxHeartbeats 400000 in
theorem copy_big (v : Value) (l : List Nat) (hl : l.length ≤ 140737488351232) (w : World) (h : ByOut w v l) (B : Nat) (hB : B ≤ w.heap.size) :
    Calls Tryd.prog 15 #[v] w fun e w' => ∃ v', e = .returned v' ∧ ByNew w.heap.size w' v' l ∧ Below w.heap.size w w' := by
  obtain ⟨A, c, rfl, hc, hx⟩ := h
  obtain ⟨n, hln⟩ : ∃ n, l.length = n := ⟨_, rfl⟩
  have hR := reads_by hx
  rw [hln] at hl hc hR ⊢
  have HL := Lib.hid hln
  clear hx hln
  obtain ⟨i0, hi0, hz0, hz1, hz2⟩ := info_parts (P := Tryd.prog) (e := 5) (z := .int .u8 0) (size := 1) (bytes := 1) (by kernel_rfl)
  have HR := Lib.hid hR
  clear hR
  go_enter Tryd.func15, Tryd.ntmps15
  go_wp2_with (at_builtin; refine wpList_append_any _ rfl (.tmp 3) (.tmp 4) _ rfl w.heap.size 5 i0 (.int .u8 0) 1 1 Tryd.underlying27 hi0 hz0 hz1 hz2 rfl (by decide) (.slice (some ⟨w.heap.size, 0, none⟩) 0 0) 0 [] rfl (World.ownsRow_made _ _ _ (Nat.le_refl _) (by decide) rfl) w.heap.size A n c (bys l) rfl (HR.out.alloc (Nat.le_refl _) _) (bys_one _) (by simp only [maxLen]; omega) (by omega) (by simp) ?_; intro v1 w3 hown1 hg1 hat1)
  go_ret
  refine ⟨v1, rfl, ?_, Below.grown ((Below.refl _ _).alloc (Nat.le_refl _) _) hg1 (by simp) (by intro g hg; simp [Value.ownBlock] at hg; omega)⟩
  unfold ByNew
  rw [HL.out]
  simpa using hown1
set_option maxRecDepth 100000 in
set_option maxHeartbeats 400000 in
theorem same_big (v1 v2 : Value) (l1 l2 : List Nat) (h1 : l1.length ≤ 140737488351232) (h2 : l2.length ≤ 140737488351232) (w : World) (f1 : ByOut w v1 l1) (f2 : ByOut w v2 l2) :
    Calls Tryd.prog 14 #[v1, v2] w fun e w' => e = .returned (.bool (decide (l1 = l2))) ∧ Below w.heap.size w w' := by
  obtain ⟨A1, c1, rfl, hc1, x1⟩ := f1
  obtain ⟨A2, c2, rfl, hc2, x2⟩ := f2
  obtain ⟨n1, hn1⟩ : ∃ n, l1.length = n := ⟨_, rfl⟩
  obtain ⟨n2, hn2⟩ : ∃ n, l2.length = n := ⟨_, rfl⟩
  rw [hn1] at h1 hc1 ⊢
  rw [hn2] at h2 hc2 ⊢
  by_cases hne : n1 = n2
  · subst hne
    have X1 := Lib.hid x1; have X2 := Lib.hid x2; have N1 := Lib.hid hn1; have N2 := Lib.hid hn2
    clear x1 x2 hn1 hn2
    go_enter Tryd.func14, Tryd.ntmps14
    go_wp2
    go_loopw [5] (fun i wr => ∃ k : Nat, k ≤ n1 ∧ i = .int .i64 k ∧ Hid ((∀ j, j < k → l1[j]? = l2[j]?) ∧ Below w.heap.size w wr)) (fun i _ => n1 - (intOf i).toNat)
    case atStart => exact ⟨0, Nat.zero_le _, rfl, fun j h => absurd h (Nat.not_lt_zero j), Below.refl _ _⟩
    case round =>
      obtain ⟨k, hk, rfl, HI⟩ := hrel
      by_cases hlt : k < n1
      · have hl1 : k < l1.length := by rw [N1.out]; exact hlt
        have hl2 : k < l2.length := by rw [N2.out]; exact hlt
        obtain ⟨b1, o1, rfl, a1⟩ := X1.out (by intro h; rw [h] at hl1; exact absurd hl1 (Nat.not_lt_zero _))
        obtain ⟨b2, o2, rfl, a2⟩ := X2.out (by intro h; rw [h] at hl2; exact absurd hl2 (Nat.not_lt_zero _))
        have y1 := (a1.below HI.out.2) k _ (List.getElem?_eq_getElem hl1)
        have y2 := (a2.below HI.out.2) k _ (List.getElem?_eq_getElem hl2)
        have e1 : l1[k]? = some l1[k] := List.getElem?_eq_getElem hl1
        have e2 : l2[k]? = some l2[k] := List.getElem?_eq_getElem hl2
        generalize l1[k] = p at *
        generalize l2[k] = q at *
        have E1 := Lib.hid e1; have E2 := Lib.hid e2
        clear e1 e2 a1 a2
        go_wp2
        go_region
        by_cases hpq : p = q
        · have ht : ((p : Int) != (q : Int)) = false := by rw [hpq]; simp
          have HPQ := Lib.hid hpq
          clear hpq
          go_wp2
          go_roundw
          case rel =>
            refine ⟨k + 1, by omega, by go_num, fun j hj => ?_, (Below.drew HI.out.2)⟩
            by_cases he : j = k
            · rw [he, E1.out, E2.out, HPQ.out]
            · exact HI.out.1 j (by omega)
          case measure => simp [intOf]; omega
        · have ht : ((p : Int) != (q : Int)) = true := by rw [bne_iff_ne]; omega
          have hd : decide (l1 = l2) = false := by
            rw [decide_eq_false_iff_not]
            intro h
            have h3 := E1.out
            rw [h, E2.out] at h3
            exact hpq (Option.some.inj h3).symm
          have HD := Lib.hid hd
          clear hpq hd
          go_wp2
          go_ret
          exact ⟨congrArg (fun z => Ending.returned (.bool z)) HD.out.symm, (Below.drew HI.out.2)⟩
      · obtain rfl : k = n1 := by omega
        have hd : decide (l1 = l2) = true := by
          rw [decide_eq_true_eq]
          refine List.ext_getElem? fun j => ?_
          rcases Nat.lt_or_ge j k with hj | hj
          · exact HI.out.1 j hj
          · rw [List.getElem?_eq_none (by rw [N1.out]; exact hj), List.getElem?_eq_none (by rw [N2.out]; exact hj)]
        have HD := Lib.hid hd
        clear hd
        go_wp2
        go_ret
        exact ⟨congrArg (fun z => Ending.returned (.bool z)) HD.out.symm, HI.out.2⟩
  · have hd : decide (l1 = l2) = false := by
      rw [decide_eq_false_iff_not]
      intro h
      rw [h, hn2] at hn1
      exact hne hn1.symm
    have hni : ¬ (n1 : Int) = (n2 : Int) := by omega
    have HD := Lib.hid hd
    clear hd hne x1 x2 hn1 hn2
    go_enter Tryd.func14, Tryd.ntmps14
    go_wp2
    go_ret
    exact ⟨congrArg (fun z => Ending.returned (.bool z)) HD.out.symm, Below.refl _ _⟩
end Go.Proofs.YtabbpgnenmpacaaDoor.CR
