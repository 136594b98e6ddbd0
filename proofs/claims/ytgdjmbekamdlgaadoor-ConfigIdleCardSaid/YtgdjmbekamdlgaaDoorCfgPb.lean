/-
  Contracts of the program's functions of layer 11: Parse.
-/
import Derived.Test.YtgdjmbekamdlgaaDoorCfgPa
set_option linter.unusedSimpArgs false
set_option linter.unusedVariables false
namespace Go.Proofs.YtgdjmbekamdlgaaDoor.KP
open Go.RowKit Go.Shelf KR
theorem grown_c (B : Nat) (A : Option Addr) (nu c : Nat) (us : List (Value × Sec)) (s : ByteArray) (hs : s.size ≤ 100000) (w : World) (hB : B ≤ w.heap.size) (HU : ScUs B w (.slice A nu c) us) (hnu : us.length = nu) (hfew : Few (us.map Prod.snd)) (hbyt : SecB (us.map Prod.snd)) :
    Calls Tryd.prog 13 #[.slice A nu c, .string s] w (Grew B w (us.map Prod.snd) (bs s)) := by
  have h16 : nu ≤ 16 := by have := hfew.secs; rw [List.length_map] at this; omega
  cases hh : headV (bs s) with
  | some n => exact grown_head B A nu c us s hs n hh w hB HU hnu h16 hbyt
  | none =>
    cases hc : (cutC (bs s)).2 with
    | false => exact grown_wrong B A nu c (us.map Prod.snd) (by rw [List.length_map, hnu]) s hs hh (.inl hc) h16 w hB
    | true =>
      rcases List.eq_nil_or_concat us with rfl | ⟨ui, z, rfl⟩
      · exact grown_wrong B A nu c _ (by rw [List.length_map, hnu]) s hs hh (.inr hnu.symm) h16 w hB
      · rw [List.concat_eq_append] at *
        obtain ⟨u, nm, kl⟩ := z
        have hmem : ((u, nm, kl) : Value × Sec) ∈ ui ++ [(u, nm, kl)] := List.mem_append_right _ (List.mem_singleton.2 rfl)
        obtain ⟨A', c', hv, _, hx⟩ := HU.form
        injection hv with e1 e2 e3
        obtain ⟨gs, hgs, _, _⟩ := hx (by simp)
        obtain rfl := e1.trans hgs
        have hkv : KvNew B w u kl := HU.kv _ hmem
        obtain ⟨Au, cu, hu, _, _⟩ := own_form hkv
        subst hu
        have hm2 : ((nm, kl) : Sec) ∈ (ui ++ [((.slice Au kl.length cu : Value), ((nm, kl) : Sec))]).map Prod.snd := List.mem_map.2 ⟨_, hmem, rfl⟩
        rw [List.length_append, List.length_singleton] at hnu
        exact grown_key B gs nu c ui.length ui Au kl.length cu nm kl s hs hh hc w hB HU rfl hnu h16 rfl (hfew.keys _ hm2) (fun p hp => ((hbyt _ hm2).2 p hp).1)
/-- While the lines are gone through. -/
structure PI (w : World) (pre : List (List Nat)) (v : Value) (us : List (Value × Sec)) (W : World) : Prop where
  low : Below w.heap.size w W
  r0 : W.cell? ⟨w.heap.size, 0, none⟩ = some (.slice none 0 0) ∧ W.frozen? ⟨w.heap.size, 0, none⟩ = false
  r1 : W.cell? ⟨w.heap.size + 1, 0, none⟩ = some (.int .i64 0) ∧ W.frozen? ⟨w.heap.size + 1, 0, none⟩ = false
  l : W.cell? ⟨w.heap.size + 2, 0, none⟩ = some v ∧ W.frozen? ⟨w.heap.size + 2, 0, none⟩ = false
  row : ScUs (w.heap.size + 12) W v us
  run : us.map Prod.snd = (runV [] pre).1 ∧ (runV [] pre).2 = 0
theorem PI.turn {w W W' : World} {pre : List (List Nat)} {v : Value} {us : List (Value × Sec)} {S : Nat → Prop} (h : PI w pre v us W) (t : Turns S W W') (hS : ∀ k, S k → w.heap.size + 3 ≤ k ∧ k < w.heap.size + 12) : PI w pre v us W' := by
  have no : ∀ k, k < w.heap.size + 3 → ¬ S k := fun k hk hs => by have := hS k hs; omega
  have cf : ∀ {k : Nat} {u : Value}, k < w.heap.size + 3 → W.cell? ⟨k, 0, none⟩ = some u ∧ W.frozen? ⟨k, 0, none⟩ = false → W'.cell? ⟨k, 0, none⟩ = some u ∧ W'.frozen? ⟨k, 0, none⟩ = false := fun hk h => ⟨t.cell h.1 (no _ hk), (t.frozen (no _ hk) (World.block_lt_of_cell? W _ h.1)).trans h.2⟩
  have hz : w.heap.size ≤ W.heap.size := h.low.size
  exact ⟨t.low h.low hz (fun k hs => by have := hS k hs; omega), cf (by omega) h.r0, cf (by omega) h.r1, cf (by omega) h.l, h.row.keep (fun g hg hl => t.block g hl (fun hs => by have := hS g hs; omega)), h.run⟩
/-- Behind a call that grows the sections, and the store of what it answers. -/
theorem PI.put {w W W1 : World} {pre : List (List Nat)} {v v' : Value} {us : List (Value × Sec)} (h : PI w pre v us W) (hb : Below (w.heap.size + 12) W W1) (hz : w.heap.size + 12 ≤ W.heap.size) :
    (W1.cell? ⟨w.heap.size + 2, 0, none⟩ = some v ∧ W1.frozen? ⟨w.heap.size + 2, 0, none⟩ = false) ∧
    Below w.heap.size w (W1.setCell ⟨w.heap.size + 2, 0, none⟩ v') ∧
    ((W1.setCell ⟨w.heap.size + 2, 0, none⟩ v').cell? ⟨w.heap.size, 0, none⟩ = some (.slice none 0 0) ∧ (W1.setCell ⟨w.heap.size + 2, 0, none⟩ v').frozen? ⟨w.heap.size, 0, none⟩ = false) ∧
    ((W1.setCell ⟨w.heap.size + 2, 0, none⟩ v').cell? ⟨w.heap.size + 1, 0, none⟩ = some (.int .i64 0) ∧ (W1.setCell ⟨w.heap.size + 2, 0, none⟩ v').frozen? ⟨w.heap.size + 1, 0, none⟩ = false) ∧
    ((W1.setCell ⟨w.heap.size + 2, 0, none⟩ v').cell? ⟨w.heap.size + 2, 0, none⟩ = some v' ∧ (W1.setCell ⟨w.heap.size + 2, 0, none⟩ v').frozen? ⟨w.heap.size + 2, 0, none⟩ = false) ∧
    (∀ k, w.heap.size + 3 ≤ k → k < w.heap.size + 12 → (W1.setCell ⟨w.heap.size + 2, 0, none⟩ v').heap[k]? = W.heap[k]?) ∧
    (∀ g, w.heap.size + 12 ≤ g → (W1.setCell ⟨w.heap.size + 2, 0, none⟩ v').heap[g]? = W1.heap[g]?) ∧ W.heap.size ≤ (W1.setCell ⟨w.heap.size + 2, 0, none⟩ v').heap.size := by
  have cf : ∀ {k : Nat} {u : Value}, k < w.heap.size + 12 → W.cell? ⟨k, 0, none⟩ = some u ∧ W.frozen? ⟨k, 0, none⟩ = false → W1.cell? ⟨k, 0, none⟩ = some u ∧ W1.frozen? ⟨k, 0, none⟩ = false := fun {k} {u} hk h => ⟨(hb.cell (p := ⟨k, 0, none⟩) hk).trans h.1, (hb.frozen (p := ⟨k, 0, none⟩) hk).trans h.2⟩
  have l := cf (by omega) h.l
  have cs : ∀ {k : Nat} {u : Value}, k ≠ w.heap.size + 2 → W1.cell? ⟨k, 0, none⟩ = some u ∧ W1.frozen? ⟨k, 0, none⟩ = false → (W1.setCell ⟨w.heap.size + 2, 0, none⟩ v').cell? ⟨k, 0, none⟩ = some u ∧ (W1.setCell ⟨w.heap.size + 2, 0, none⟩ v').frozen? ⟨k, 0, none⟩ = false := fun {k} {u} hk h =>
    ⟨(World.cell?_setCell_other _ _ _ _ (fun e => hk (by injection e with e1; exact e1.symm))).trans h.1, by rw [World.frozen?_setCell]; exact h.2⟩
  refine ⟨l, (h.low.trans (hb.mono (by omega))).setCell (p := ⟨w.heap.size + 2, 0, none⟩) (by simp only; omega) _, cs (by omega) (cf (by omega) h.r0), cs (by omega) (cf (by omega) h.r1), ⟨World.cell?_setCell_same _ _ _ l.1, by rw [World.frozen?_setCell]; exact l.2⟩, fun k h1 h2 => ?_, fun g hg => Below.heap_setCell _ _ _ g (by simp only; omega), ?_⟩
  · exact (Below.heap_setCell _ _ _ k (by simp only; omega)).trans (hb.block k h2)
  · have := hb.size
    simp; omega
/-- Behind the stores of what is answered, and the last step of the loop's own block. -/
theorem last_cells {N D : Nat} {w W : World} {v0 u : Value} {a0 a1 : Value} {o : Obj} (hb : Below N w W) (hN : N ≤ W.heap.size) (h0 : W.cell? ⟨N, 0, none⟩ = some a0) (h1 : W.cell? ⟨N + 1, 0, none⟩ = some a1) (hD : N + 2 ≤ D) (hK : W.heap[D]? = some (.deferred (some []))) :
    ((W.setCell ⟨N, 0, none⟩ v0).setCell ⟨N + 1, 0, none⟩ u).heap[D]? = some (.deferred (some [])) ∧
    Turns (fun k => k = N ∨ k = N + 1 ∨ k = D) W (((W.setCell ⟨N, 0, none⟩ v0).setCell ⟨N + 1, 0, none⟩ u).putObj D o) ∧
    Below N w (((W.setCell ⟨N, 0, none⟩ v0).setCell ⟨N + 1, 0, none⟩ u).putObj D o) ∧
    (((W.setCell ⟨N, 0, none⟩ v0).setCell ⟨N + 1, 0, none⟩ u).putObj D o).cell? ⟨N, 0, none⟩ = some v0 ∧
    (((W.setCell ⟨N, 0, none⟩ v0).setCell ⟨N + 1, 0, none⟩ u).putObj D o).cell? ⟨N + 1, 0, none⟩ = some u := by
  have t1 := Turns.setCell W N 0 v0
  have t2 := Turns.setCell (W.setCell ⟨N, 0, none⟩ v0) (N + 1) 0 u
  have t3 := Turns.putObj ((W.setCell ⟨N, 0, none⟩ v0).setCell ⟨N + 1, 0, none⟩ u) D o
  have T : Turns (fun k => k = N ∨ k = N + 1 ∨ k = D) W (((W.setCell ⟨N, 0, none⟩ v0).setCell ⟨N + 1, 0, none⟩ u).putObj D o) :=
    (t1.mono fun k e => .inl e).trans ((t2.mono fun k e => .inr (.inl e)).trans (t3.mono fun k e => .inr (.inr e)))
  have hlt := (Array.getElem?_eq_some_iff.1 hK).1
  refine ⟨(t2.block D (Nat.lt_of_lt_of_le hlt t1.size) (by omega)).trans ((t1.block D hlt (by omega)).trans hK), T, T.low hb hN (fun k hk => by rcases hk with e | e | e <;> omega), ?_, ?_⟩
  · refine t3.cell ?_ (by omega)
    exact (World.cell?_setCell_other _ _ _ _ (by simp)).trans (World.cell?_setCell_same _ _ _ h0)
  · refine t3.cell ?_ (by omega)
    exact World.cell?_setCell_same _ _ _ ((World.cell?_setCell_other _ _ _ _ (by simp)).trans h1)
theorem last2 {N : Nat} {w W : World} {v0 u : Value} {a0 a1 : Value} (hb : Below N w W) (h0 : W.cell? ⟨N, 0, none⟩ = some a0) (h1 : W.cell? ⟨N + 1, 0, none⟩ = some a1) :
    Below N w ((W.setCell ⟨N, 0, none⟩ v0).setCell ⟨N + 1, 0, none⟩ u) ∧ ((W.setCell ⟨N, 0, none⟩ v0).setCell ⟨N + 1, 0, none⟩ u).cell? ⟨N, 0, none⟩ = some v0 ∧ ((W.setCell ⟨N, 0, none⟩ v0).setCell ⟨N + 1, 0, none⟩ u).cell? ⟨N + 1, 0, none⟩ = some u ∧
    (∀ k, N + 2 ≤ k → ((W.setCell ⟨N, 0, none⟩ v0).setCell ⟨N + 1, 0, none⟩ u).heap[k]? = W.heap[k]?) ∧ ((W.setCell ⟨N, 0, none⟩ v0).setCell ⟨N + 1, 0, none⟩ u).heap.size = W.heap.size := by
  refine ⟨(hb.setCell (p := ⟨N, 0, none⟩) (Nat.le_refl _) v0).setCell (p := ⟨N + 1, 0, none⟩) (Nat.le_succ _) u, ?_, ?_, fun k hk => ?_, by simp⟩
  · exact (World.cell?_setCell_other _ _ _ _ (by simp)).trans (World.cell?_setCell_same _ _ _ h0)
  · exact World.cell?_setCell_same _ _ _ ((World.cell?_setCell_other _ _ _ _ (by simp)).trans h1)
  · exact (Below.heap_setCell _ _ _ k (by simp only; omega)).trans (Below.heap_setCell _ _ _ k (by simp only; omega))
theorem run_pre0 {pre : List (List Nat)} {x : List Nat} (h0 : (runV [] pre).2 = 0) (hs : (stepV (runV [] pre).1 x).2 = 0) : (runV [] (pre ++ [x])).1 = (stepV (runV [] pre).1 x).1 ∧ (runV [] (pre ++ [x])).2 = 0 := by
  rw [runV_snoc]
  unfold nextV
  rw [if_pos h0, if_pos hs]
  exact ⟨rfl, rfl⟩
theorem run_pre1 {pre xs : List (List Nat)} {x : List Nat} (hp : pre ++ [x] <+: xs) (h0 : (runV [] pre).2 = 0) (hs : (stepV (runV [] pre).1 x).2 ≠ 0) : runV [] xs = ([], (stepV (runV [] pre).1 x).2) := by
  obtain ⟨r, rfl⟩ := hp
  have e : runV [] (pre ++ [x]) = ([], (stepV (runV [] pre).1 x).2) := by
    rw [runV_snoc]
    unfold nextV
    rw [if_pos h0, if_neg hs]
  rw [runV_app, e, if_neg hs]
attribute [local go_sem] Oper.semAt_some
set_option maxRecDepth 100000 in
set_option maxHeartbeats 2000000 in
theorem parse_in (s : ByteArray) (w : World) :
    CallsIn Fence.wide 6 Tryd.prog 6 #[.string s] w fun e w' => ∃ v, e = .returned (.tuple #[v, .int .i64 (confV (bs s)).2]) ∧ SecOut w' v (confV (bs s)).1 ∧ Below w.heap.size w w' := by
  refine callsIn_of_wp_marks Tryd.func6 rfl trivial ?_ rfl
  simp only [Tryd.ntmps6, List.size_toArray, List.length_cons, List.length_nil, Nat.reduceAdd, Nat.reduceSub, Array.replicate_succ, Array.replicate_zero, List.push_toArray, List.append_toArray, List.nil_append, List.cons_append]
  by_cases h4 : 4096 < s.size
  · have HE := Lib.hid (show confV (bs s) = ([], 12) by unfold confV; rw [bs_length, if_pos h4])
    have h4i : (4096 : Int) < (s.size : Int) := by omega
    gi_wp2
    obtain ⟨WX, hWX⟩ : ∃ WX, (w.alloc (.cells #[.slice none 0 0] 23)).alloc (.cells #[.int .i64 12] 24) = WX := ⟨_, rfl⟩
    have x0 : WX.cell? ⟨w.heap.size, 0, none⟩ = some (.slice none 0 0) := by
      rw [← hWX]
      exact cellb (alloc_below _ _) (cell_of_row _ _ 0 _ _ (0, 0) (heap_alloc_new w (.cells #[.slice none 0 0] 23)))
    have x1 : WX.cell? ⟨w.heap.size + 1, 0, none⟩ = some (.int .i64 12) := by
      rw [← hWX]
      have h := cell_of_row _ _ 0 _ _ (0, 0) (heap_alloc_new (w.alloc (.cells #[.slice none 0 0] 23)) (.cells #[.int .i64 12] 24))
      rw [World.size_alloc] at h
      exact h
    have hb : Below w.heap.size w WX := by rw [← hWX]; exact bnext (alloc_below _ _) (alloc_below _ _)
    (try rw [hWX])
    refine ⟨.tuple #[.slice none 0 0, .int .i64 12], ?_, ⟨_, by rw [HE.out], by rw [HE.out]; exact SecOut.nil _, hb⟩⟩
    simp [results, Tryd.results6, go_sem, x0, x1]
  · have h4' : s.size ≤ 4096 := by omega
    have hs : s.size ≤ 100000 := by omega
    have h4i : (s.size : Int) ≤ 4096 := by omega
    have HE := Lib.hid (show confV (bs s) = runV [] (linesV (bs s)) by unfold confV; rw [bs_length, if_neg h4])
    gi_wp2_with (refine ⟨trivial, ?_⟩; gi_at_call 12; refine (callsIn_wide.2 (lines_c0 s _)).mono ?_; rintro _ w1 ⟨rfl, rfl⟩)
    obtain ⟨z0, zb, q0, q1, q2, q3⟩ := chain4 w (.cells #[.slice none 0 0] 23) (.cells #[.int .i64 0] 24) (.cells #[.slice none 0 0] 23) (.cells #[.string s] 9)
    (try simp only [World.size_alloc, Nat.add_assoc, Nat.reduceAdd])
    obtain ⟨W0, hW0⟩ : ∃ W0, ((((w.alloc (.cells #[.slice none 0 0] 23)).alloc (.cells #[.int .i64 0] 24)).alloc (.cells #[.slice none 0 0] 23)).alloc (.cells #[.string s] 9)) = W0 := ⟨_, rfl⟩
    rw [hW0] at z0 zb q0 q1 q2 q3 ⊢
    clear hW0
    have cof : ∀ {k : Nat} {u : Value} {t : TypeId}, W0.heap[k]? = some (.cells #[u] t) → W0.cell? ⟨k, 0, none⟩ = some u ∧ W0.frozen? ⟨k, 0, none⟩ = false := fun h => ⟨cell_of_row _ _ 0 _ _ (0, 0) h, frozen_of_row _ _ 0 _ _ h⟩
    have P0 : PI w [] (.slice none 0 0) [] W0 := ⟨zb, cof q0, cof q1, cof q2, ScUs.nil _ _, rfl, rfl⟩
    have it := lines_iter 5 (w.heap.size + 3) (by decide) s hs W0 (cof q3).1
    have LBY := Lib.hid (lines_byt (byt_bs s))
    have LLN := Lib.hid (fun (t : List Nat) (ht : t ∈ linesV (bs s)) => Nat.le_trans (linesV_length ht) (show (bs s).length ≤ 4096 by rw [bs_length]; exact h4'))
    clear q0 q1 q2 q3 cof zb
    refine wp_range (w0 := W0) (K := (· = w.heap.size + 3)) (c := 6) (xs := linesV (bs s)) (enc := fun p : List Nat => .string (str p)) rfl (by decide) (gf := 20) (lb := #[.pointer (some ⟨w.heap.size + 3, 0, none⟩)]) rfl trivial (enters_of Tryd.func20 (by kernel_rfl) rfl)
      it (fun _ h => h.elim) (KeepB.refl _ _) (fun k hk => by omega) rfl
      (fun pre A => (∃ v us, PI w pre v us A) ∧ ∀ t ∈ pre, Byt t)
      (fun c' _ A => c' = .ret ∧ ∃ e : Int, Below w.heap.size w A ∧ A.cell? ⟨w.heap.size, 0, none⟩ = some (.slice none 0 0) ∧ A.cell? ⟨w.heap.size + 1, 0, none⟩ = some (.int .i64 e) ∧ confV (bs s) = ([], e))
      ?hI ?hIx ⟨⟨_, _, P0⟩, fun t h => nomatch h⟩
      (fun x => { tmps := #[.string s, undef, .pointer (some ⟨w.heap.size, 0, none⟩), .pointer (some ⟨w.heap.size + 1, 0, none⟩), .pointer (some ⟨w.heap.size + 2, 0, none⟩), .string (str x), undef, .string s, .int .i64 (s.size : Int), .bool (decide ((4096 : Int) < (s.size : Int))), .string s, .func (.func 20) #[] #[.pointer (some ⟨w.heap.size + 3, 0, none⟩)], .string (str x), undef, undef, undef, undef, undef, undef, undef, undef, undef, undef], defers := [] }) ?assign ?body ?done ?stop
    case hI =>
      rintro pre A A' ⟨⟨v, us, h⟩, hb⟩ t
      exact ⟨⟨v, us, h.turn t (fun k hk => hk.elim (fun e => False.elim e) (fun e => by omega))⟩, hb⟩
    case hIx =>
      rintro c' pre A A' ⟨hc, e, hb, h0, h1, hp⟩ t
      have hl := World.block_lt_of_cell? A _ h1
      simp only at hl
      exact ⟨hc, e, t.low hb (by omega) (fun k hk => hk.elim (fun e => False.elim e) (fun e => by omega)), t.cell h0 (fun h => h.elim (fun e => False.elim e) (fun e => by omega)), t.cell h1 (fun h => h.elim (fun e => False.elim e) (fun e => by omega)), hp⟩
    case assign =>
      intro l' x A G hG
      gi_wp2
      exact hG
    case body =>
      rintro l' pre x A ⟨⟨v, us, hP⟩, hby⟩ hz hpre
      rw [z0] at hz
      have hx : x ∈ linesV (bs s) := hpre.subset (by simp)
      have x8 := LBY.out x hx
      have x5 := LLN.out x hx
      obtain ⟨Av, cv, rfl, hcv, _⟩ := hP.row.form
      have hbp : ∀ t ∈ pre, Byt t := hby
      have few : Few (us.map Prod.snd) := by rw [hP.run.1]; exact run_few _ ⟨Nat.zero_le _, fun x hx => nomatch hx⟩
      have byt : SecB (us.map Prod.snd) := by rw [hP.run.1]; exact run_byt _ (fun x hx => nomatch hx) hbp
      have GC0 := grown_c (w.heap.size + 12) Av us.length cv us (str x) (by rw [str_size]; omega) A (by omega) hP.row rfl few byt
      rw [bs_str x8] at GC0
      have HP := Lib.hid hP
      obtain ⟨l0, lf0⟩ := hP.l
      obtain ⟨e', he'⟩ : ∃ e', (stepV (us.map Prod.snd) x).2 = e' := ⟨_, rfl⟩
      have GC := Lib.hid (GC0.mono fun e w' ⟨A2, n2, c2, h1, h2, h3⟩ => (show ∃ A2 n2 c2, e = Ending.returned (.tuple #[.slice A2 n2 c2, .int .i64 e']) ∧ Hid ((stepV (us.map Prod.snd) x).2 = 0 → ∃ us' : List (Value × Sec), us'.map Prod.snd = (stepV (us.map Prod.snd) x).1 ∧ ScUs (w.heap.size + 12) w' (.slice A2 n2 c2) us') ∧ Hid (Below (w.heap.size + 12) A w') from ⟨A2, n2, c2, by rw [h1, he'], h2, h3⟩))
      have GO := Lib.hid (show ∀ (A1 : World) (A2 : Option Addr) (n2 c2 : Nat), ((stepV (us.map Prod.snd) x).2 = 0 → ∃ us', us'.map Prod.snd = (stepV (us.map Prod.snd) x).1 ∧ ScUs (w.heap.size + 12) A1 (.slice A2 n2 c2) us') → Below (w.heap.size + 12) A A1 → e' = 0 →
          KeepB (OwnB (· = w.heap.size + 3) W0.heap.size (6 + 2)) A (A1.setCell ⟨w.heap.size + 2, 0, none⟩ (.slice A2 n2 c2)) ∧ A.heap.size ≤ (A1.setCell ⟨w.heap.size + 2, 0, none⟩ (.slice A2 n2 c2)).heap.size ∧ (∃ v us, PI w (pre ++ [x]) v us (A1.setCell ⟨w.heap.size + 2, 0, none⟩ (.slice A2 n2 c2))) ∧ ∀ t ∈ pre ++ [x], Byt t from fun A1 A2 n2 c2 hu hb h0 => by
        obtain ⟨m0, m1, m2, m3, m4, m5, m6, m7⟩ := hP.put (v' := .slice A2 n2 c2) hb (by omega)
        obtain ⟨us', hm', hU'⟩ := hu (he'.trans h0)
        refine ⟨fun k hk => m5 k (by rcases hk with e | e <;> omega) (by rcases hk with e | e <;> omega), m7, ⟨_, us', m1, m2, m3, m4, hU'.keep (fun g hg _ => m6 g hg), ?_⟩, fun t ht => ?_⟩
        · have hr := run_pre0 (x := x) hP.run.2 (by rw [← hP.run.1]; exact he'.trans h0)
          rw [← hP.run.1] at hr
          exact ⟨hm'.trans hr.1.symm, hr.2⟩
        · rcases List.mem_append.1 ht with ht | ht
          · exact hby t ht
          · obtain rfl := List.mem_singleton.1 ht
            exact x8)
      have NO := Lib.hid (show e' ≠ 0 → confV (bs s) = ([], e') from fun h => by
        rw [HE.out, run_pre1 hpre hP.run.2 (by rw [← hP.run.1, he']; exact h), ← hP.run.1, he'])
      have PUT := Lib.hid (fun (A1 : World) (A2 : Option Addr) (n2 c2 : Nat) (hb : Below (w.heap.size + 12) A A1) => hP.put (v' := .slice A2 n2 c2) hb (by omega))
      have HEE := Lib.hid he'
      generalize str x = XS at *
      obtain ⟨nu, hnu⟩ : ∃ nu, us.length = nu := ⟨_, rfl⟩
      rw [hnu] at l0 GC hcv
      clear GC0 hP hby hx x8 x5 few byt hbp hpre he' it P0
      by_cases h0 : e' = 0
      · subst h0
        gi_wp2_with (refine ⟨trivial, ?_⟩; gi_at_call 13; refine (CallsIn.inRound l' (callsIn_wide.2 GC.out)).mono ?_; rintro _ A1 ⟨A2, n2, c2, rfl, HU, HB⟩; obtain ⟨⟨m0, mf0⟩, -⟩ := PUT.out A1 A2 n2 c2 HB.out; rw [hnu] at m0)
        exact GO.out A1 A2 n2 c2 HU.out HB.out (by first | rfl | trivial)
      · have i1 : (e' != 0) = true := by rw [bne_iff_ne]; exact h0
        gi_wp2_with (refine ⟨trivial, ?_⟩; gi_at_call 13; refine (CallsIn.inRound l' (callsIn_wide.2 GC.out)).mono ?_; rintro _ A1 ⟨A2, n2, c2, rfl, HU, HB⟩; obtain ⟨⟨m0, mf0⟩, k1, ⟨k2, kf2⟩, ⟨k3, kf3⟩, -, k5, k6, k7⟩ := PUT.out A1 A2 n2 c2 HB.out; have K1 := Lib.hid k1; have K5 := Lib.hid k5; have K7 := Lib.hid k7; clear k1 k5 k6 k7; rw [hnu] at m0)
        obtain ⟨d1, d2, d3, d4, d5⟩ := last2 (v0 := .slice none 0 0) (u := .int .i64 e') K1.out k2 k3
        exact ⟨fun k hk => (d4 k (by rcases hk with e | e <;> omega)).trans (K5.out k (by rcases hk with e | e <;> omega) (by rcases hk with e | e <;> omega)), by rw [d5]; exact K7.out, rfl, e', d1, d2, d3, NO.out h0⟩
    case done =>
      rintro A ⟨⟨v, us, hP⟩, -⟩ hD
      rw [z0] at hD ⊢
      obtain ⟨AL, cl, rfl, hlc, _⟩ := hP.row.form
      obtain ⟨q, hq⟩ : ∃ q, us.length = q := ⟨_, rfl⟩
      have SEV := Lib.hid (show confV (bs s) = (us.map Prod.snd, 0) by
        have e := hP.run
        rw [HE.out]
        exact Prod.ext e.1.symm e.2)
      have ROW := Lib.hid hP.row
      rw [hq] at hP ROW
      obtain ⟨r0, rf0⟩ := hP.r0
      obtain ⟨r1, rf1⟩ := hP.r1
      obtain ⟨l0, -⟩ := hP.l
      have lt : w.heap.size + 4 < A.heap.size := (Array.getElem?_eq_some_iff.1 hD).1
      have FIN := Lib.hid (last_cells (v0 := .slice AL q cl) (u := .int .i64 0) (D := w.heap.size + 4) (o := .deferred none) hP.low (by omega) r0 r1 (by omega) hD)
      clear hP it P0 hq
      gi_wp2
      obtain ⟨d1, d2, d3, d4, d5⟩ := FIN.out
      refine ⟨by simp, .inl ⟨_, _, rfl, run_takeDeferred d1, ?_⟩⟩
      refine ⟨.tuple #[.slice AL q cl, .int .i64 0], ?_, ⟨_, by rw [SEV.out], by rw [SEV.out]; exact (ROW.out.keep (fun g hg hl => d2.block g hl (by omega))).out, d3⟩⟩
      simp [results, Tryd.results6, go_sem, d4, d5]
    case stop =>
      rintro c' pre A ⟨rfl, e, hb, h0, h1, hp⟩ hD
      rw [z0] at hD ⊢
      gi_wp2
      refine ⟨by simp, .inl ⟨_, _, rfl, run_takeDeferred hD, ?_⟩⟩
      have hl := World.block_lt_of_cell? A _ h1
      simp only at hl
      have t := Turns.putObj A (w.heap.size + 4) (.deferred none)
      have d4 := t.cell h0 (by omega)
      have d5 := t.cell h1 (by omega)
      refine ⟨.tuple #[.slice none 0 0, .int .i64 e], ?_, ⟨_, by rw [hp], by rw [hp]; exact SecOut.nil _, t.low hb (by omega) (fun k hk => by omega)⟩⟩
      simp [results, Tryd.results6, go_sem, d4, d5]
theorem parse_p (s : ByteArray) (w : World) : Calls Tryd.prog 6 #[.string s] w fun e w' => ∃ v, e = .returned (.tuple #[v, .int .i64 (confV (bs s)).2]) ∧ SecOut w' v (confV (bs s)).1 ∧ Below w.heap.size w w' := callsIn_wide.1 (parse_in s w)
end Go.Proofs.YtgdjmbekamdlgaaDoor.KP
