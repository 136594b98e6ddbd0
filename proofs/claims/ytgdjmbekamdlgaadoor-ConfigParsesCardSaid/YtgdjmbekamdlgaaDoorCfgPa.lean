/-
  Contracts of the program's functions of layer 11: Lines.
-/
import Derived.Test.YtgdjmbekamdlgaaDoorCfgIt
import Derived.Test.YtgdjmbekamdlgaaDoorCfgGk
import Derived.RangeFuncOwn
set_option linter.unusedSimpArgs false
set_option linter.unusedVariables false
namespace Go.Proofs.YtgdjmbekamdlgaaDoor.KP
open Go.RowKit Go.Shelf KR
theorem own_turn {S : Nat → Prop} {B n : Nat} {e : TypeId} {size : Nat} {w w' : World} {v : Value} {xs : List Value} (h : w.ownsRow B e size v n xs) (t : Turns S w w') (hS : ∀ k, S k → k < B) : w'.ownsRow B e size v n xs :=
  own_keep h fun g hg hl _ => t.block g hl (fun hs => by have := hS g hs; omega)
attribute [local go_sem] Oper.semAt_some
set_option maxRecDepth 100000 in
set_option maxHeartbeats 2000000 in
theorem appendSeq_in (s : ByteArray) (hs : s.size ≤ 100000) (T : Nat) (w : World) (h0 : w.cell? ⟨T, 0, none⟩ = some (.string s)) :
    CallsIn Fence.wide 6 Tryd.prog 32 #[.slice none 0 0, .func (.func 20) #[] #[.pointer (some ⟨T, 0, none⟩)]] w fun e w' => ∃ v, e = .returned v ∧ TxNew w.heap.size w' v (linesV (bs s)) ∧ Below w.heap.size w w' := by
  have hT : T < w.heap.size := World.block_lt_of_cell? w _ h0
  obtain ⟨i0, hi0, hz0, hz1, hz2⟩ := info_parts text_info
  have c0 := cellb (alloc_below w (.cells #[.slice none 0 0] 29)) h0
  have hb0 := alloc_below w (.cells #[.slice none 0 0] 29)
  have hnew := heap_alloc_new w (.cells #[.slice none 0 0] 29)
  have hsz : (w.alloc (.cells #[.slice none 0 0] 29)).heap.size = w.heap.size + 1 := by simp
  refine callsIn_of_wp_marks Tryd.func32 rfl trivial ?_ rfl
  simp only [Tryd.ntmps32, List.size_toArray, List.length_cons, List.length_nil, Nat.reduceAdd, Nat.reduceSub, Array.replicate_succ, Array.replicate_zero, List.push_toArray, List.append_toArray, List.nil_append, List.cons_append]
  gi_wp2
  obtain ⟨W0, hW0⟩ : ∃ W0, w.alloc (.cells #[.slice none 0 0] 29) = W0 := ⟨_, rfl⟩
  rw [hW0] at c0 hb0 hnew hsz ⊢
  clear hW0
  have it := lines_iter 5 T (by decide) s hs W0 c0
  have LEN := linesV_count (bs s)
  rw [bs_length] at LEN
  have P0 : ∃ v, W0.cell? ⟨w.heap.size, 0, none⟩ = some v ∧ W0.frozen? ⟨w.heap.size, 0, none⟩ = false ∧ TxNew (w.heap.size + 9) W0 v [] ∧ Below w.heap.size w W0 :=
    ⟨_, cell_of_row _ _ 0 _ _ (0, 0) hnew, frozen_of_row _ _ 0 _ _ hnew, ⟨rfl, .inl ⟨rfl, rfl⟩⟩, hb0⟩
  clear c0 hb0 hnew
  refine wp_range (w0 := W0) (K := (· = T)) (c := 6) (xs := linesV (bs s)) (enc := fun p : List Nat => .string (str p)) rfl (by decide) (gf := 20) (lb := #[.pointer (some ⟨T, 0, none⟩)]) rfl trivial (enters_of Tryd.func20 (by kernel_rfl) rfl)
    it (fun _ h => h.elim) (KeepB.refl _ _) (fun k hk => by omega) rfl
    (fun pre A => ∃ v, A.cell? ⟨w.heap.size, 0, none⟩ = some v ∧ A.frozen? ⟨w.heap.size, 0, none⟩ = false ∧ TxNew (w.heap.size + 9) A v pre ∧ Below w.heap.size w A)
    (fun _ _ _ => False)
    ?hI ?hIx P0
    (fun x => { tmps := #[.slice none 0 0, .func (.func 20) #[] #[.pointer (some ⟨T, 0, none⟩)], .pointer (some ⟨w.heap.size, 0, none⟩), undef, .slice none 0 0, .string (str x), .func (.func 20) #[] #[.pointer (some ⟨T, 0, none⟩)], .string (str x), undef, undef, undef, undef, undef], defers := [] }) ?assign ?body ?done ?stop
  case hI =>
    rintro pre A A' ⟨v, h1, h2, h3, h4⟩ t
    have no : ∀ k, k ≤ w.heap.size → ¬ OwnB (fun _ => False) W0.heap.size (6 + 2) k := fun k hk h => by rcases h with h | h <;> omega
    have hl := World.block_lt_of_cell? A _ h1
    exact ⟨v, t.cell h1 (no _ (Nat.le_refl _)), (t.frozen (no _ (Nat.le_refl _)) hl).trans h2, own_keep h3 (fun g hg hl _ => t.block g hl (fun hs => by rcases hs with h | h <;> omega)),
      h4.trans ⟨t.os, t.tape, t.output, t.size, fun k hk => t.block k (Nat.lt_of_lt_of_le hk h4.size) (no _ (Nat.le_of_lt hk))⟩⟩
  case hIx => exact fun _ _ _ _ h _ => h
  case assign =>
    intro l' x A G hG
    gi_wp2
    exact hG
  case body =>
    rintro l' pre x A ⟨v, h1, h2, h3, h4⟩ hz hpre
    rw [hsz] at hz
    have hlen : pre.length ≤ s.size + 1 := by
      have := hpre.length_le
      rw [List.length_append, List.length_singleton] at this
      omega
    obtain ⟨AL, cl, rfl, hcl, _⟩ := own_form h3
    obtain ⟨m, hm⟩ : ∃ m, pre.length = m := ⟨_, rfl⟩
    have hbx : some w.heap.size ≠ Value.ownBlock (.slice AL pre.length cl) := fun e => by have := (own_lt h3 e.symm).1; omega
    have APP := Lib.hid (show ∀ (v3 : Value) (w3 : World), w3.ownsRow (w.heap.size + 9) 9 1 v3 (m + 1) (txC pre ++ [.string (str x)]) → (A.alloc (.cells #[.string (str x)] 9)).grownBy w3 (Value.ownBlock (.slice AL m cl)) →
        ∃ A3 c3, v3 = .slice A3 (m + 1) c3 ∧ w3.cell? ⟨w.heap.size, 0, none⟩ = some (.slice AL m cl) ∧ w3.frozen? ⟨w.heap.size, 0, none⟩ = false ∧
          Hid (KeepB (OwnB (· = T) W0.heap.size (6 + 2)) A (w3.setCell ⟨w.heap.size, 0, none⟩ (.slice A3 (m + 1) c3)) ∧ A.heap.size ≤ (w3.setCell ⟨w.heap.size, 0, none⟩ (.slice A3 (m + 1) c3)).heap.size ∧
          ∃ v, (w3.setCell ⟨w.heap.size, 0, none⟩ (.slice A3 (m + 1) c3)).cell? ⟨w.heap.size, 0, none⟩ = some v ∧ (w3.setCell ⟨w.heap.size, 0, none⟩ (.slice A3 (m + 1) c3)).frozen? ⟨w.heap.size, 0, none⟩ = false ∧ TxNew (w.heap.size + 9) (w3.setCell ⟨w.heap.size, 0, none⟩ (.slice A3 (m + 1) c3)) v (pre ++ [x]) ∧ Below w.heap.size w (w3.setCell ⟨w.heap.size, 0, none⟩ (.slice A3 (m + 1) c3))) from fun v3 w3 ho hg => by
      rw [← hm] at ho hg ⊢
      obtain ⟨A3, c3, rfl, _, _⟩ := own_form ho
      have hal : w.heap.size < A.heap.size := by omega
      have hk : w3.heap[w.heap.size]? = A.heap[w.heap.size]? := (hg.block _ (by simp; omega) hbx).trans (Below.heap_alloc _ _ _ hal)
      have hc := (World.cell?_of_block hk).trans h1
      have hf := (World.frozen?_of_block hk).trans h2
      have oth : ∀ k, k < A.heap.size → k ≠ w.heap.size → some k ≠ Value.ownBlock (.slice AL pre.length cl) → (w3.setCell ⟨w.heap.size, 0, none⟩ (.slice A3 (pre.length + 1) c3)).heap[k]? = A.heap[k]? := fun k hk h1 h2 =>
        (Below.heap_setCell _ _ _ k h1).trans ((hg.block k (by simp; omega) h2).trans (Below.heap_alloc _ _ _ hk))
      have low : ∀ k, k < w.heap.size + 9 → some k ≠ Value.ownBlock (.slice AL pre.length cl) := fun k hk e => by have := (own_lt h3 e.symm).1; omega
      refine ⟨A3, c3, rfl, hc, hf, ⟨fun k hk => ?_, ?_, _, World.cell?_setCell_same _ _ _ hc, by rw [World.frozen?_setCell]; exact hf, ?_, ?_⟩⟩
      · rcases hk with hk | hk
        · exact oth k (by omega) (by omega) (low k (by omega))
        · exact oth k (by omega) (by omega) (low k (by omega))
      · have := hg.size
        simp at this ⊢
        omega
      · exact own_keep (TxNew.push ho) fun g hg2 hl _ => Below.heap_setCell _ _ _ g (by simp only; omega)
      · exact ((h4.alloc h4.size _).grown hg (by simp; omega) (fun j ej => by have := (own_lt h3 ej).1; omega)).setCell (p := ⟨w.heap.size, 0, none⟩) (Nat.le_refl _) _)
    rw [hm] at h1 h3 hcl
    have ROW := Lib.hid (show A.ownsRow (w.heap.size + 9) 9 1 (.slice AL m cl) m (txC pre) from by
      unfold TxNew at h3
      rw [hm] at h3; exact h3)
    have B63 := Lib.hid (show m + 1 ≤ maxLen by simp only [maxLen]; omega)
    have B48 := Lib.hid (show (m + 1) * 16 ≤ 140737488355328 by omega)
    have HZ := Lib.hid (show w.heap.size + 9 ≤ (A.alloc (.cells #[.string (str x)] 9)).heap.size by simp; omega)
    have CN := Lib.hid (cell_one_new A (.string (str x)) 9)
    generalize str x = XS at *
    clear h3 h4 hpre hbx hm it P0 hz
    gi_wp2_with (gi_at_builtin; refine wpListIn_append_own _ rfl (.tmp 8) (.tmp 10) _ rfl (w.heap.size + 9) 9 i0 (.string ⟨#[]⟩) 1 16 Tryd.underlying29 hi0 hz0 hz1 hz2 rfl (by decide) (.slice AL m cl) m (txC pre) rfl (World.ownsRow.alloc ROW.out _) ⟨A.heap.size, 0, none⟩ 1 1 [.string XS] rfl rfl CN.out (by simp [Value.oneCell']) B63.out B48.out HZ.out ?_; intro v3 w3 hown3 hg3 hnil3; obtain ⟨A3, c3, hv3, l3, lf3, HP3⟩ := APP.out _ _ hown3 hg3; subst hv3; clear hown3 hg3 hnil3)
    exact HP3.out
  case done =>
    rintro A ⟨v, h1, h2, h3, h4⟩ hD
    rw [hsz] at hD ⊢
    obtain ⟨AL, cl, rfl, hcl, _⟩ := own_form h3
    have t := Turns.putObj A (w.heap.size + 1) (.deferred none)
    have FIN := Lib.hid (show TxNew w.heap.size (A.putObj (w.heap.size + 1) (.deferred none)) (.slice AL (linesV (bs s)).length cl) (linesV (bs s)) ∧ Below w.heap.size w (A.putObj (w.heap.size + 1) (.deferred none)) from
      ⟨(show TxNew (w.heap.size + 9) _ _ _ from own_keep h3 (fun g hg hl _ => t.block g hl (by omega))).mono (by omega), t.low h4 h4.size (fun k hk => by omega)⟩)
    clear h2 h3 h4
    gi_wp2
    refine ⟨by simp, .inl ⟨_, _, rfl, run_takeDeferred hD, ?_⟩⟩
    exact ⟨.slice AL (linesV (bs s)).length cl, (by simp [results, Tryd.results32, go_sem]), _, rfl, FIN.out.1, FIN.out.2⟩
  case stop =>
    rintro c' pre A h _
    exact h.elim
set_option maxRecDepth 100000 in
set_option maxHeartbeats 1000000 in
theorem lines_p (s : ByteArray) (hs : s.size ≤ 100000) (w : World) : Calls Tryd.prog 10 #[.string s] w fun e w' => ∃ v, e = .returned v ∧ TxNew w.heap.size w' v (linesV (bs s)) ∧ Below w.heap.size w w' := by
  have LC := Lib.hid (lines_c0 s w)
  have hc := cell_of_row _ _ 0 _ _ (0, 0) (heap_alloc_new w (.cells #[.string s] 9))
  have hsz : (w.alloc (.cells #[.string s] 9)).heap.size = w.heap.size + 1 := by simp
  have AS := callsIn_wide.1 (appendSeq_in s hs w.heap.size (w.alloc (.cells #[.string s] 9)) hc)
  have CO : Calls Tryd.prog 18 #[.func (.func 20) #[] #[.pointer (some ⟨w.heap.size, 0, none⟩)]] (w.alloc (.cells #[.string s] 9)) fun e w' => ∃ v, e = .returned v ∧ TxNew w.heap.size w' v (linesV (bs s)) ∧ Below w.heap.size w w' := by
    have HA := Lib.hid AS
    have LOW := Lib.hid (alloc_below w (.cells #[.string s] 9))
    generalize w.alloc (.cells #[.string s] 9) = W at *
    clear AS hc LC
    go_enter Tryd.func18, Tryd.ntmps18
    go_wp2_with fail
    refine HA.out.mono ?_; rintro _ w1 ⟨v, rfl, ht, hb⟩
    obtain ⟨A, c, rfl, _, _⟩ := own_form ht
    have HT := Lib.hid ht; have HB := Lib.hid hb
    clear ht hb
    go_wp2
    go_ret
    exact ⟨.slice A (linesV (bs s)).length c, rfl, (show TxNew W.heap.size w1 _ _ from HT.out).mono LOW.out.size, bnext LOW.out HB.out⟩
  have HC := Lib.hid CO
  clear AS CO hc hsz
  go_enter Tryd.func10, Tryd.ntmps10
  go_wp2_with (first
    | (go_at_call 12; refine LC.out.mono ?_; rintro _ w1 ⟨rfl, rfl⟩)
    | (go_at_call 18; refine HC.out.mono ?_; rintro _ w2 ⟨v, rfl, ht, hb⟩; obtain ⟨A, c, rfl, _, _⟩ := own_form ht; have HT := Lib.hid ht; have HB := Lib.hid hb; clear ht hb))
  go_ret
  exact ⟨.slice A (linesV (bs s)).length c, rfl, HT.out, HB.out⟩
end Go.Proofs.YtgdjmbekamdlgaaDoor.KP
