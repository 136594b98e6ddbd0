/-
  The program's own iterator over a text's lines that are not idle (layer 11): what it owes.
-/
import Derived.Test.YtgdjmbekamdlgaaDoorCfgSeq
import Derived.Test.YtgdjmbekamdlgaaDoorCfgTr
set_option linter.unusedSimpArgs false
set_option linter.unusedVariables false
namespace Go.Proofs.YtgdjmbekamdlgaaDoor.KP
open Go.RowKit Go.Shelf KR
theorem splitSeq_c (s sep : ByteArray) (w : World) : Calls Tryd.prog 34 #[.string s, .string sep, .int .i64 0] w fun e w' => e = .returned (.func (.func 52) #[] #[.pointer (some ⟨w.heap.size + 1, 0, none⟩), .pointer (some ⟨w.heap.size, 0, none⟩), .pointer (some ⟨w.heap.size + 2, 0, none⟩)]) ∧ w' = ((w.alloc (.cells #[.string s] 9)).alloc (.cells #[.string sep] 9)).alloc (.cells #[.int .i64 0] 3) := by
  go_enter Tryd.func34, Tryd.ntmps34
  go_wp2
  go_ret
  exact ⟨rfl, rfl⟩
theorem seq_c (s sep : ByteArray) (w : World) : Calls Tryd.prog 21 #[.string s, .string sep] w fun e w' => e = .returned (.func (.func 52) #[] #[.pointer (some ⟨w.heap.size + 1, 0, none⟩), .pointer (some ⟨w.heap.size, 0, none⟩), .pointer (some ⟨w.heap.size + 2, 0, none⟩)]) ∧ w' = ((w.alloc (.cells #[.string s] 9)).alloc (.cells #[.string sep] 9)).alloc (.cells #[.int .i64 0] 3) := by
  have h := Lib.hid (splitSeq_c s sep w)
  go_enter Tryd.func21, Tryd.ntmps21
  go_wp2_with fail
  refine h.out.mono ?_; rintro _ w1 ⟨rfl, rfl⟩
  go_wp2
  go_ret
  exact ⟨rfl, rfl⟩
theorem lines_c0 (s : ByteArray) (w : World) : Calls Tryd.prog 12 #[.string s] w fun e w' => e = .returned (.func (.func 20) #[] #[.pointer (some ⟨w.heap.size, 0, none⟩)]) ∧ w' = w.alloc (.cells #[.string s] 9) := by
  go_enter Tryd.func12, Tryd.ntmps12
  go_wp2
  go_ret
  exact ⟨rfl, rfl⟩
theorem chain4 (w : World) (o0 o1 o2 o3 : Obj) :
    ((((w.alloc o0).alloc o1).alloc o2).alloc o3).heap.size = w.heap.size + 4 ∧ Below w.heap.size w ((((w.alloc o0).alloc o1).alloc o2).alloc o3) ∧
    ((((w.alloc o0).alloc o1).alloc o2).alloc o3).heap[w.heap.size]? = some o0 ∧ ((((w.alloc o0).alloc o1).alloc o2).alloc o3).heap[w.heap.size + 1]? = some o1 ∧
    ((((w.alloc o0).alloc o1).alloc o2).alloc o3).heap[w.heap.size + 2]? = some o2 ∧ ((((w.alloc o0).alloc o1).alloc o2).alloc o3).heap[w.heap.size + 3]? = some o3 := by
  have n : ∀ (v : World) (o : Obj), (v.alloc o).heap[v.heap.size]? = some o := fun v o => World.alloc_heap_new v o
  have k : ∀ (v : World) (o : Obj) (i : Nat), i < v.heap.size → (v.alloc o).heap[i]? = v.heap[i]? := fun v o i h => Below.heap_alloc v o i h
  refine ⟨by simp, bnext (bnext (bnext (alloc_below _ _) (alloc_below _ _)) (alloc_below _ _)) (alloc_below _ _), ?_, ?_, ?_, ?_⟩
  · rw [k _ _ _ (by simp only [World.size_alloc]; omega), k _ _ _ (by simp only [World.size_alloc]; omega), k _ _ _ (by simp)]; exact n w o0
  · rw [k _ _ _ (by simp only [World.size_alloc]; omega), k _ _ _ (by simp)]; have := n (w.alloc o0) o1; simpa using this
  · rw [k _ _ _ (by simp)]; have := n ((w.alloc o0).alloc o1) o2; simpa using this
  · have := n (((w.alloc o0).alloc o1).alloc o2) o3; simpa using this
theorem keep_prefix {l : List Nat} {pre : List (List Nat)} {x : List Nat} (h : pre ++ [x] <+: spl 10 l) : keepV (pre ++ [x]) <+: linesV l := by
  obtain ⟨r, hr⟩ := h
  unfold linesV
  rw [← hr, keepV_app (pre ++ [x]) r]
  exact List.prefix_append _ _
attribute [local go_sem] Oper.semAt_some
set_option maxRecDepth 100000 in
set_option maxHeartbeats 2000000 in
theorem lines_iter (n T : Nat) (hn : 3 ≤ n) (s : ByteArray) (hs : s.size ≤ 100000) (w : World) (h0 : w.cell? ⟨T, 0, none⟩ = some (.string s)) :
    Iter Fence.wide n Tryd.prog 20 #[.pointer (some ⟨T, 0, none⟩)] (fun p : List Nat => .string (str p)) (· = T) (fun _ => False) 6 (linesV (bs s)) w := by
  intro l J Jx W hK hB hJ hJx hY hJ0
  have hn1 : 1 ≤ n := by omega
  have hn2 : 1 ≤ n - 1 := by omega
  have hn3 : 1 ≤ n - 1 - 1 := by omega
  have c0 := (cell_keepB hK (o := 0) (b := T) rfl).trans h0
  have hT : T < W.heap.size := hB T rfl
  have HJ := Lib.hid hJ; have HJx := Lib.hid hJx; have HY := Lib.hid hY; have HJ0 := Lib.hid hJ0; have HT := Lib.hid hT
  clear hK hB hJ hJx hY hJ0 h0 hT
  refine callsIn_of_wp_marks Tryd.func20 rfl trivial ?_ rfl
  simp only [Tryd.ntmps20, List.size_toArray, List.length_cons, List.length_nil, Nat.reduceAdd, Nat.reduceSub, Array.replicate_succ, Array.replicate_zero, List.push_toArray, List.append_toArray, List.nil_append, List.cons_append]
  have c1 := cellb (alloc_below W (.cells #[.func (.yield l) #[] #[]] 31)) c0
  gi_wp2_with (refine ⟨trivial, ?_⟩; gi_at_call 21; refine (callsIn_wide.2 (seq_c s ⟨#[10]⟩ _)).mono ?_; rintro _ w1 ⟨rfl, rfl⟩)
  obtain ⟨z0, zb, q0, q1, q2, q3⟩ := chain4 W (.cells #[.func (.yield l) #[] #[]] 31) (.cells #[.string s] 9) (.cells #[.string ⟨#[10]⟩] 9) (.cells #[.int .i64 0] 3)
  (try simp only [World.size_alloc, Nat.add_assoc, Nat.reduceAdd])
  obtain ⟨W0, hW0⟩ : ∃ W0, ((((W.alloc (.cells #[.func (.yield l) #[] #[]] 31)).alloc (.cells #[.string s] 9)).alloc (.cells #[.string ⟨#[10]⟩] 9)).alloc (.cells #[.int .i64 0] 3)) = W0 := ⟨_, rfl⟩
  rw [hW0] at z0 zb q0 q1 q2 q3 ⊢
  clear hW0
  have cof : ∀ {k : Nat} {u : Value} {t : TypeId}, W0.heap[k]? = some (.cells #[u] t) → W0.cell? ⟨k, 0, none⟩ = some u ∧ W0.frozen? ⟨k, 0, none⟩ = false := fun h => ⟨cell_of_row _ _ 0 _ _ (0, 0) h, frozen_of_row _ _ 0 _ _ h⟩
  have it := seq_iter (n - 1) (W.heap.size + 1) (by omega) s (by omega) W0 (cof q1).1 (cof q1).2 (cof q2).1 (cof q3).1
  have yb := (cof q0).1
  have OW : ∀ k, OwnB (Own3 (W.heap.size + 1)) W0.heap.size (0 + 2) k → OwnB (· = T) W.heap.size 6 k := fun k hk => by
    rw [z0] at hk
    rcases hk with hk | hk
    · unfold Own3 at hk; exact .inr (by omega)
    · exact .inr (by omega)
  have OM : ∀ k, OwnB (Own3 (W.heap.size + 1)) W0.heap.size (0 + 2) k → OwnB (fun _ => False) W.heap.size 6 k := fun k hk => by
    rw [z0] at hk
    rcases hk with hk | hk
    · unfold Own3 at hk; exact .inr (by omega)
    · exact .inr (by omega)
  have NY : ∀ k, OwnB (Own3 (W.heap.size + 1)) W0.heap.size (0 + 2) k → k ≠ W.heap.size := fun k hk => by
    rw [z0] at hk
    rcases hk with hk | hk
    · unfold Own3 at hk; omega
    · omega
  have J0 : J [] W0 := HJ.out _ _ _ HJ0.out ((Turns.of_below (S := fun _ => False) zb).mono fun _ e => e.elim)
  clear q0 q1 q2 q3 cof c0 c1
  refine wp_range (w0 := W0) (K := Own3 (W.heap.size + 1)) (c := 0) (xs := spl 10 (bs s)) (enc := fun p : List Nat => .string (str p)) rfl hn1 (gf := 52) (lb := #[.pointer (some ⟨W.heap.size + 1 + 1, 0, none⟩), .pointer (some ⟨W.heap.size + 1, 0, none⟩), .pointer (some ⟨W.heap.size + 1 + 2, 0, none⟩)]) rfl trivial (enters_of Tryd.func52 (by kernel_rfl) rfl)
    it (fun _ h => h) (KeepB.refl _ _) (fun k hk => by unfold Own3 at hk; omega) rfl
    (fun pre A => J (keepV pre) A ∧ A.cell? ⟨W.heap.size, 0, none⟩ = some (.func (.yield l) #[] #[]))
    (fun c' _ A => c' = .ret ∧ ∃ q, Jx q A)
    ?hI ?hIx ⟨J0, yb⟩
    (fun x => { tmps := #[.func (.yield l) #[] #[], .pointer (some ⟨T, 0, none⟩), .pointer (some ⟨W.heap.size, 0, none⟩), .string (str x), undef, .string s, .func (.func 52) #[] #[.pointer (some ⟨W.heap.size + 2, 0, none⟩), .pointer (some ⟨W.heap.size + 1, 0, none⟩), .pointer (some ⟨W.heap.size + 3, 0, none⟩)], .string (str x), undef, undef, undef, undef, undef, undef, undef, undef, undef, undef, undef, undef], defers := [] }) ?assign ?body ?done ?stop
  case hI =>
    rintro pre A A' ⟨h1, h2⟩ t
    exact ⟨HJ.out _ _ _ h1 (t.mono OM), t.cell h2 (fun h => NY _ h rfl)⟩
  case hIx =>
    rintro c' pre A A' ⟨hc, q, hq⟩ t
    exact ⟨hc, q, HJx.out _ _ _ hq (t.mono OM)⟩
  case assign =>
    intro l' x A G hG
    gi_wp2
    exact hG
  case body =>
    rintro l' pre x A ⟨h1, h2⟩ hz hpre
    rw [z0] at hz
    have hx : x ∈ spl 10 (bs s) := hpre.subset (by simp)
    have x8 : Byt x := fun c hc => bs_small s c (spl_mem 10 _ x hx c hc)
    have x5 : x.length ≤ 100000 := by have := spl_part_length 10 _ x hx; rw [bs_length] at this; omega
    have ts := fun X => trimSuffix_c (str x) (by rw [str_size]; omega) X
    rw [bs_str x8] at ts
    have m1 : Byt (crV x) := fun c hc => x8 c (crV_mem hc)
    have tr := fun X => trim_c (str (crV x)) (by rw [str_size]; have := crV_length x; omega) X
    rw [bs_str m1, show blB (crV x) = lnV x from rfl] at tr
    have m2 : Byt (lnV x) := fun c hc => x8 c (lnV_mem hc)
    have idl := fun X => isIdle_c (str (lnV x)) X
    rw [bs_str m2] at idl
    have KS := keepV_snoc pre x
    have KP := keep_prefix hpre
    have OA : ∀ k, OwnB (· = T) W.heap.size 6 k → k < A.heap.size := fun k hk => by
      have := HT.out
      rcases hk with hk | hk <;> omega
    obtain ⟨XS, hXS⟩ : ∃ XS, str x = XS := ⟨_, rfl⟩
    obtain ⟨CS, hCS⟩ : ∃ CS, str (crV x) = CS := ⟨_, rfl⟩
    obtain ⟨LS, hLS⟩ : ∃ LS, str (lnV x) = LS := ⟨_, rfl⟩
    rw [hXS] at ts ⊢
    rw [hCS] at ts tr
    rw [hLS] at tr idl
    have TS := Lib.hid ts; have TR := Lib.hid tr; have ID := Lib.hid idl; have H1 := Lib.hid h1; have HOA := Lib.hid OA
    cases hk : kept (lnV x) with
    | false =>
      rw [hk, if_neg (by decide)] at KS
      rw [hk] at ID
      have FIN := Lib.hid (show ∀ A2, Below A.heap.size A A2 → KeepB (OwnB (Own3 (W.heap.size + 1)) W0.heap.size (0 + 2)) A A2 ∧ A.heap.size ≤ A2.heap.size ∧ J (keepV (pre ++ [x])) A2 ∧ A2.cell? ⟨W.heap.size, 0, none⟩ = some (.func (.yield l) #[] #[]) from fun A2 hb =>
        ⟨KeepB.below hb (fun k hk => OA k (OW k hk)), hb.size, by rw [KS]; exact HJ.out _ _ _ h1 ((Turns.of_below (S := fun _ => False) hb).mono fun _ e => e.elim), cellb hb h2⟩)
      clear ts tr idl hx x8 x5 m1 m2 KS KP hXS hCS hLS hk h1 OA it J0 OW OM NY yb zb
      gi_wp2_with (first
        | (refine ⟨trivial, ?_⟩; gi_at_call 23; refine (CallsIn.inRound l' (callsIn_wide.2 (TS.out _))).mono ?_; rintro _ w1 ⟨rfl, rfl⟩)
        | (refine ⟨trivial, ?_⟩; gi_at_call 22; refine (CallsIn.inRound l' (callsIn_wide.2 (TR.out _))).mono ?_; rintro _ w2 ⟨rfl, hb2⟩; have y2 := cellb hb2 h2)
        | (refine ⟨trivial, ?_⟩; gi_at_call 24; refine (CallsIn.inRound l' (callsIn_wide.2 (ID.out _))).mono ?_; rintro _ w3 ⟨rfl, rfl⟩))
      refine ⟨fun _ h => (by cases h), ?_⟩
      gi_wp2
      exact FIN.out _ hb2
    | true =>
      rw [hk, if_pos rfl] at KS
      rw [hk] at ID
      rw [KS] at KP
      have HYB := Lib.hid (show ∀ A2, Below A.heap.size A A2 → YieldAt Fence.wide (n - 1) Tryd.prog l #[.string LS] A2 fun e A' => (e = .returned (.bool true) ∧ J (keepV pre ++ [lnV x]) A' ∧ KeepB (OwnB (· = T) W.heap.size 6) A2 A' ∧ A2.heap.size ≤ A'.heap.size) ∨ (e = .returned (.bool false) ∧ Jx (keepV pre ++ [lnV x]) A' ∧ KeepB (OwnB (· = T) W.heap.size 6) A2 A' ∧ A2.heap.size ≤ A'.heap.size) from fun A2 hb => by
        have h3 := HY.out (keepV pre) (lnV x) A2 (HJ.out _ _ _ h1 ((Turns.of_below (S := fun _ => False) hb).mono fun _ e => e.elim)) (by have := hb.size; omega) KP
        rw [hLS] at h3
        exact h3)
      have FIN := Lib.hid (show ∀ A2 A3, Below A.heap.size A A2 → KeepB (OwnB (· = T) W.heap.size 6) A2 A3 → A2.heap.size ≤ A3.heap.size → KeepB (OwnB (Own3 (W.heap.size + 1)) W0.heap.size (0 + 2)) A A3 ∧ A.heap.size ≤ A3.heap.size ∧ A3.cell? ⟨W.heap.size, 0, none⟩ = some (.func (.yield l) #[] #[]) from fun A2 A3 hb hkb hz3 =>
        ⟨(KeepB.below hb (fun k hk => OA k (OW k hk))).trans (hkb.mono OW), Nat.le_trans hb.size hz3, (cell_keepB hkb (b := W.heap.size) (o := 0) (.inr (by omega))).trans (cellb hb h2)⟩)
      have HKS := Lib.hid KS
      clear ts tr idl hx x8 x5 m1 m2 KS KP hXS hCS hLS hk h1 OA it J0 OW OM NY yb zb
      gi_wp2_with (first
        | (refine ⟨trivial, ?_⟩; gi_at_call 23; refine (CallsIn.inRound l' (callsIn_wide.2 (TS.out _))).mono ?_; rintro _ w1 ⟨rfl, rfl⟩)
        | (refine ⟨trivial, ?_⟩; gi_at_call 22; refine (CallsIn.inRound l' (callsIn_wide.2 (TR.out _))).mono ?_; rintro _ w2 ⟨rfl, hb2⟩; have y2 := cellb hb2 h2; obtain ⟨fn, tmps, assign, body, hyy, hR⟩ := HYB.out w2 hb2; have HRR := Lib.hid hR; clear hR)
        | (refine ⟨trivial, ?_⟩; gi_at_call 24; refine (CallsIn.inRound l' (callsIn_wide.2 (ID.out _))).mono ?_; rintro _ w3 ⟨rfl, rfl⟩))
      refine (RoundIn.any rfl l' _ HRR.out).mono ?_
      rintro e A3 (⟨rfl, hJ3, hk3, hz3⟩ | ⟨rfl, hJx3, hk3, hz3⟩)
      · have F3 := Lib.hid (FIN.out _ _ hb2 hk3 hz3)
        gi_wp2
        exact ⟨F3.out.1, F3.out.2.1, by rw [HKS.out]; exact hJ3, F3.out.2.2⟩
      · have F3 := Lib.hid (FIN.out _ _ hb2 hk3 hz3)
        gi_wp2
        exact ⟨F3.out.1, F3.out.2.1, rfl, _, hJx3⟩
  case done =>
    rintro A ⟨h1, h2⟩ hD
    have J1 := Lib.hid (HJ.out _ _ _ h1 ((Turns.putObj A W0.heap.size (.deferred none)).mono fun k e => .inr (by omega)))
    gi_wp2
    refine ⟨by simp, .inl ⟨_, _, rfl, run_takeDeferred hD, ?_⟩⟩
    exact ⟨_, results_none rfl _ _ _, ⟨_, rfl⟩, .inl J1.out⟩
  case stop =>
    rintro c' pre A ⟨rfl, q, hq⟩ hD
    have J1 := Lib.hid (HJx.out _ _ _ hq ((Turns.putObj A W0.heap.size (.deferred none)).mono fun k e => .inr (by omega)))
    gi_wp2
    refine ⟨by simp, .inl ⟨_, _, rfl, run_takeDeferred hD, ?_⟩⟩
    exact ⟨_, results_none rfl _ _ _, ⟨_, rfl⟩, .inr ⟨q, J1.out⟩⟩
end Go.Proofs.YtgdjmbekamdlgaaDoor.KP
