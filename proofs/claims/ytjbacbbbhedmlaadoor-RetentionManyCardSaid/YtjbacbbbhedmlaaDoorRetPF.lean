/-
  Contracts of the program's functions of layer 10: Parse, what its walk wants.
-/
import Derived.Test.YtjbacbbbhedmlaaDoorRngSeq
import Derived.Test.YtjbacbbbhedmlaaDoorRetPE
set_option linter.unusedSimpArgs false
set_option linter.unusedVariables false
namespace Go.Proofs.YtjbacbbbhedmlaaDoor.RP
open Go.RowKit Go.Shelf RR
theorem splitSeq_c (s sep : ByteArray) (w : World) : Calls Tryd.prog 33 #[.string s, .string sep, .int .i64 0] w fun e w' => e = .returned (.func (.func 48) #[] #[.pointer (some ⟨w.heap.size + 1, 0, none⟩), .pointer (some ⟨w.heap.size, 0, none⟩), .pointer (some ⟨w.heap.size + 2, 0, none⟩)]) ∧ w' = ((w.alloc (.cells #[.string s] 9)).alloc (.cells #[.string sep] 9)).alloc (.cells #[.int .i64 0] 3) := by
  go_enter Tryd.func33, Tryd.ntmps33
  go_wp2
  go_ret
  exact ⟨rfl, rfl⟩
theorem seq_c (s sep : ByteArray) (w : World) : Calls Tryd.prog 19 #[.string s, .string sep] w fun e w' => e = .returned (.func (.func 48) #[] #[.pointer (some ⟨w.heap.size + 1, 0, none⟩), .pointer (some ⟨w.heap.size, 0, none⟩), .pointer (some ⟨w.heap.size + 2, 0, none⟩)]) ∧ w' = ((w.alloc (.cells #[.string s] 9)).alloc (.cells #[.string sep] 9)).alloc (.cells #[.int .i64 0] 3) := by
  have h := Lib.hid (splitSeq_c s sep w)
  go_enter Tryd.func19, Tryd.ntmps19
  go_wp2_with fail
  refine h.out.mono ?_; rintro _ w1 ⟨rfl, rfl⟩
  go_wp2
  go_ret
  exact ⟨rfl, rfl⟩
theorem trim_c (s : ByteArray) (hs : s.size ≤ 100000) (w : World) : Calls Tryd.prog 21 #[.string s, .string ⟨#[32]⟩] w fun e w' => e = .returned (.string (str (trimB (bs s)))) ∧ Below w.heap.size w w' := by
  refine (Tryd.strings_Trim_one s 32 (by decide) w (by omega)).mono ?_
  rintro e w' ⟨rfl, h⟩
  refine ⟨by rw [trim_text], ?_⟩
  rcases h with rfl | rfl
  · exact Below.refl _ _
  · exact (Below.refl _ _).drew
/-- The blocks that a round may turn: the call's own variables, and what is laid behind the loop's own. -/
def Free (N k : Nat) : Prop := (N ≤ k ∧ k < N + 4) ∨ N + 9 ≤ k
/-- While the parts are gone through. -/
structure PI (w : World) (pre : List (List Nat)) (v : Value) (L : List (Int × Int)) (ok : Bool) (W : World) : Prop where
  low : Below w.heap.size w W
  r0 : W.cell? ⟨w.heap.size, 0, none⟩ = some (.slice none 0 0) ∧ W.frozen? ⟨w.heap.size, 0, none⟩ = false
  r1 : W.cell? ⟨w.heap.size + 1, 0, none⟩ = some (.int .i64 0) ∧ W.frozen? ⟨w.heap.size + 1, 0, none⟩ = false
  l : W.cell? ⟨w.heap.size + 2, 0, none⟩ = some v ∧ W.frozen? ⟨w.heap.size + 2, 0, none⟩ = false
  k : W.cell? ⟨w.heap.size + 3, 0, none⟩ = some (.bool ok) ∧ W.frozen? ⟨w.heap.size + 3, 0, none⟩ = false
  row : RgNew (w.heap.size + 9) W v L
  sev : ∀ r ∈ rsV pre, r.2 ≠ 7
  ran : ok = decide (worstV (rsV pre) = 0)
  lst : L = ((rsV pre).map (·.1)).take 5
theorem PI.turn {w W W' : World} {pre : List (List Nat)} {v : Value} {L : List (Int × Int)} {ok : Bool} {S : Nat → Prop} (h : PI w pre v L ok W) (t : Turns S W W') (hS : ∀ k, S k → w.heap.size + 4 ≤ k ∧ k < w.heap.size + 9) (hz : w.heap.size ≤ W.heap.size) : PI w pre v L ok W' := by
  have no : ∀ k, k < w.heap.size + 4 → ¬ S k := fun k hk hs => by have := hS k hs; omega
  have cf : ∀ {k : Nat} {u : Value}, k < w.heap.size + 4 → W.cell? ⟨k, 0, none⟩ = some u ∧ W.frozen? ⟨k, 0, none⟩ = false → W'.cell? ⟨k, 0, none⟩ = some u ∧ W'.frozen? ⟨k, 0, none⟩ = false := fun hk h => ⟨t.cell h.1 (no _ hk), (t.frozen (no _ hk) (World.block_lt_of_cell? W _ h.1)).trans h.2⟩
  exact ⟨t.low h.low hz (fun k hs => by have := hS k hs; omega), cf (by omega) h.r0, cf (by omega) h.r1, cf (by omega) h.l, cf (by omega) h.k, h.row.keep (fun g hg hl _ => t.block g hl (fun hs => by have := hS g hs; omega)), h.sev, h.ran, h.lst⟩
theorem PI.lt {w W : World} {pre : List (List Nat)} {v : Value} {L : List (Int × Int)} {ok : Bool} (h : PI w pre v L ok W) : w.heap.size + 4 ≤ W.heap.size := by
  have := World.block_lt_of_cell? W _ h.k.1
  simp only at this
  omega
theorem worst_pre (pre : List (List Nat)) (x : List Nat) : worstV (rsV (pre ++ [x])) = if (rgV (trimB x)).2 = 3 then 3 else worstV (rsV pre) := by
  unfold rsV
  rw [List.map_append]
  exact worst_snoc _ _
theorem rsV_pre (pre : List (List Nat)) (x : List Nat) : rsV (pre ++ [x]) = rsV pre ++ [rgV (trimB x)] := by unfold rsV; rw [List.map_append]; rfl
theorem chain7 (w : World) (o0 o1 o2 o3 o4 o5 o6 : Obj) :
    (((((((w.alloc o0).alloc o1).alloc o2).alloc o3).alloc o4).alloc o5).alloc o6).heap.size = w.heap.size + 7 ∧
    Below w.heap.size w (((((((w.alloc o0).alloc o1).alloc o2).alloc o3).alloc o4).alloc o5).alloc o6) ∧
    (((((((w.alloc o0).alloc o1).alloc o2).alloc o3).alloc o4).alloc o5).alloc o6).heap[w.heap.size]? = some o0 ∧
    (((((((w.alloc o0).alloc o1).alloc o2).alloc o3).alloc o4).alloc o5).alloc o6).heap[w.heap.size + 1]? = some o1 ∧
    (((((((w.alloc o0).alloc o1).alloc o2).alloc o3).alloc o4).alloc o5).alloc o6).heap[w.heap.size + 2]? = some o2 ∧
    (((((((w.alloc o0).alloc o1).alloc o2).alloc o3).alloc o4).alloc o5).alloc o6).heap[w.heap.size + 3]? = some o3 ∧
    (((((((w.alloc o0).alloc o1).alloc o2).alloc o3).alloc o4).alloc o5).alloc o6).heap[w.heap.size + 4]? = some o4 ∧
    (((((((w.alloc o0).alloc o1).alloc o2).alloc o3).alloc o4).alloc o5).alloc o6).heap[w.heap.size + 5]? = some o5 ∧
    (((((((w.alloc o0).alloc o1).alloc o2).alloc o3).alloc o4).alloc o5).alloc o6).heap[w.heap.size + 6]? = some o6 := by
  have n : ∀ (v : World) (o : Obj), (v.alloc o).heap[v.heap.size]? = some o := fun v o => World.alloc_heap_new v o
  have k : ∀ (v : World) (o : Obj) (i : Nat), i < v.heap.size → (v.alloc o).heap[i]? = v.heap[i]? := fun v o i h => Below.heap_alloc v o i h
  refine ⟨by simp, ?_, ?_, ?_, ?_, ?_, ?_, ?_, ?_⟩
  · exact bnext (bnext (bnext (bnext (bnext (bnext (alloc_below _ _) (alloc_below _ _)) (alloc_below _ _)) (alloc_below _ _)) (alloc_below _ _)) (alloc_below _ _)) (alloc_below _ _)
  · rw [k _ _ _ (by simp only [World.size_alloc]; omega), k _ _ _ (by simp only [World.size_alloc]; omega), k _ _ _ (by simp only [World.size_alloc]; omega), k _ _ _ (by simp only [World.size_alloc]; omega), k _ _ _ (by simp only [World.size_alloc]; omega), k _ _ _ (by simp)]; exact n w o0
  · rw [k _ _ _ (by simp only [World.size_alloc]; omega), k _ _ _ (by simp only [World.size_alloc]; omega), k _ _ _ (by simp only [World.size_alloc]; omega), k _ _ _ (by simp only [World.size_alloc]; omega), k _ _ _ (by simp)]; have := n (w.alloc o0) o1; simpa using this
  · rw [k _ _ _ (by simp only [World.size_alloc]; omega), k _ _ _ (by simp only [World.size_alloc]; omega), k _ _ _ (by simp only [World.size_alloc]; omega), k _ _ _ (by simp)]; have := n ((w.alloc o0).alloc o1) o2; simpa using this
  · rw [k _ _ _ (by simp only [World.size_alloc]; omega), k _ _ _ (by simp only [World.size_alloc]; omega), k _ _ _ (by simp)]; have := n (((w.alloc o0).alloc o1).alloc o2) o3; simpa using this
  · rw [k _ _ _ (by simp only [World.size_alloc]; omega), k _ _ _ (by simp)]; have := n ((((w.alloc o0).alloc o1).alloc o2).alloc o3) o4; simpa using this
  · rw [k _ _ _ (by simp)]; have := n (((((w.alloc o0).alloc o1).alloc o2).alloc o3).alloc o4) o5; simpa using this
  · have := n ((((((w.alloc o0).alloc o1).alloc o2).alloc o3).alloc o4).alloc o5) o6; simpa using this
theorem Turns.of_grown {W W' : World} {row : Option Nat} (hg : W.grownBy W' row) : Turns (fun k => some k = row) W W' := ⟨hg.os, hg.tape, hg.output, hg.size, fun k hk hn => hg.block k hk hn⟩
/-- A round of a part without an error, as far as its archive's own variable. -/
theorem take5_push {m : List (Int × Int)} {g : Int × Int} {L : List (Int × Int)} (h : L = m.take 5) (hl : L.length ≤ 4) : L ++ [g] = (m ++ [g]).take 5 := by
  have : m.length ≤ 4 := by rw [h, List.length_take] at hl; omega
  rw [h, List.take_of_length_le (by omega), List.take_of_length_le (by simp; omega)]
theorem take5_full {m : List (Int × Int)} {g : Int × Int} {L : List (Int × Int)} (h : L = m.take 5) (hl : ¬ L.length ≤ 4) : L = (m ++ [g]).take 5 := by
  have : 5 ≤ m.length := by rw [h, List.length_take] at hl; omega
  rw [h, List.take_append_of_le_length this]
theorem cells_two (w : World) (x y : Value) (t : TypeId) : ∀ (j : Nat) (u : Value), [x, y][j]? = some u → (w.alloc (.cells #[x, y] t)).cell? ((⟨w.heap.size, 0, none⟩ : Addr).add j) = some u := fun j u hj => by
  have e : (⟨w.heap.size, 0, none⟩ : Addr).add j = ⟨w.heap.size, j, none⟩ := by unfold Addr.add; split <;> simp_all
  rw [e]
  refine (cell_of_row _ _ j _ _ (0, 0) (heap_alloc_new w _)).trans ?_
  simpa using hj
theorem par_end {ps : List (List Nat)} (h7 : ∀ r ∈ rsV ps, r.2 ≠ 7) {L : List (Int × Int)} (hL : L = ((rsV ps).map (·.1)).take 5) :
    (worstV (rsV ps) ≠ 0 → lstV (rsV ps) = ([], 3)) ∧ (worstV (rsV ps) = 0 → lstV (rsV ps) = if 4 < L.length then ([], 11) else if tog L then (L, 0) else ([], 1)) := by
  obtain ⟨f1, f2⟩ := lst_end (rs := rsV ps) (fun r hr => by
    unfold rsV at hr
    obtain ⟨p, _, rfl⟩ := List.mem_map.1 hr
    exact rgV_err _) h7
  refine ⟨fun h => (f1 h).2, fun h => ?_⟩
  have h0 : ∀ r ∈ rsV ps, r.2 = 0 := fun r hr => by
    have hr2 := hr
    unfold rsV at hr2
    obtain ⟨p, _, rfl⟩ := List.mem_map.1 hr2
    rcases rgV_err (trimB p) with e | e | e
    · exact absurd e (h7 _ hr)
    · exfalso
      unfold worstV at h
      rw [if_pos (by rw [List.any_eq_true]; exact ⟨_, hr, by rw [e]; rfl⟩)] at h
      cases h
    · exact e
  rw [f2 h, okV_all h0]
  generalize (rsV ps).map (·.1) = M at *
  by_cases h4 : 4 < M.length
  · rw [if_pos h4, if_pos (by rw [hL, List.length_take]; omega)]
  · rw [List.take_of_length_le (by omega)] at hL
    rw [hL]
/-- Behind the stores of what is answered, and the last step of the loop's own block. -/
theorem last_cells {N D : Nat} {w W : World} {v0 u : Value} {a0 a1 : Value} {o : Obj} (hb : Below N w W) (hN : N ≤ W.heap.size) (h0 : W.cell? ⟨N, 0, none⟩ = some a0) (h1 : W.cell? ⟨N + 1, 0, none⟩ = some a1) (hD : N + 2 ≤ D) (hK : W.heap[D]? = some (.deferred (some []))) :
    ((W.setCell ⟨N, 0, none⟩ v0).setCell ⟨N + 1, 0, none⟩ u).heap[D]? = some (.deferred (some [])) ∧
    Turns (fun k => k = N ∨ k = N + 1 ∨ k = D) W (((W.setCell ⟨N, 0, none⟩ v0).setCell ⟨N + 1, 0, none⟩ u).putObj D o) ∧
    Below N w (((W.setCell ⟨N, 0, none⟩ v0).setCell ⟨N + 1, 0, none⟩ u).putObj D o) ∧
    (((W.setCell ⟨N, 0, none⟩ v0).setCell ⟨N + 1, 0, none⟩ u).putObj D o).cell? ⟨N, 0, none⟩ = some v0 ∧
    (((W.setCell ⟨N, 0, none⟩ v0).setCell ⟨N + 1, 0, none⟩ u).putObj D o).cell? ⟨N + 1, 0, none⟩ = some u := by
  have t1 := Turns.setCell W N 0 v0
  have t2 := Turns.setCell (W.setCell ⟨N, 0, none⟩ v0) (N + 1) 0 u
  have t3 := Turns.putObj ((W.setCell ⟨N, 0, none⟩ v0).setCell ⟨N + 1, 0, none⟩ u) D o
  have T : Turns (fun k => k = N ∨ k = N + 1 ∨ k = D) W (((W.setCell ⟨N, 0, none⟩ v0).setCell ⟨N + 1, 0, none⟩ u).putObj D o) :=
    (t1.mono fun k e => .inl e).trans ((t2.mono fun k e => .inr (.inl e)).trans (t3.mono fun k e => .inr (.inr e)))
  have hlt := (Array.getElem?_eq_some_iff.1 hK).1
  refine ⟨(t2.block D (Nat.lt_of_lt_of_le hlt t1.size) (by omega)).trans ((t1.block D hlt (by omega)).trans hK), T, T.low hb hN (fun k hk => by rcases hk with e | e | e <;> omega), ?_, ?_⟩
  · refine t3.cell ?_ (by omega)
    exact (World.cell?_setCell_other _ _ _ _ (by simp)).trans (World.cell?_setCell_same _ _ _ h0)
  · refine t3.cell ?_ (by omega)
    exact World.cell?_setCell_same _ _ _ ((World.cell?_setCell_other _ _ _ _ (by simp)).trans h1)
theorem rsV_facts {pre : List (List Nat)} {x : List Nat} {p q e : Int} (hR : rgV (trimB x) = ((p, q), e)) (h7 : e ≠ 7) {L : List (Int × Int)} {ok ok' : Bool} (hs : ∀ r ∈ rsV pre, r.2 ≠ 7) (hr : ok = decide (worstV (rsV pre) = 0)) (ho : ok' = (ok && decide (e = 0))) :
    (∀ r ∈ rsV (pre ++ [x]), r.2 ≠ 7) ∧ ok' = decide (worstV (rsV (pre ++ [x])) = 0) ∧ (rsV (pre ++ [x])).map (·.1) = (rsV pre).map (·.1) ++ [(p, q)] := by
  have he : e = 3 ∨ e = 0 := by
    have := rgV_err (trimB x)
    rw [hR] at this
    rcases this with h | h | h
    · exact absurd h h7
    · exact .inl h
    · exact .inr h
  refine ⟨fun r h => ?_, ?_, ?_⟩
  · rw [rsV_pre, List.mem_append] at h
    rcases h with h | h
    · exact hs r h
    · rw [List.mem_singleton] at h
      rw [h, hR]; exact h7
  · rw [worst_pre, hR, ho, hr]
    rcases he with rfl | rfl
    · simp
    · simp
  · rw [rsV_pre, List.map_append, hR]; rfl
/-- Behind the archive's variable and the store of whether all may be told. -/
theorem PI.mid {w W w2 : World} {pre : List (List Nat)} {v : Value} {L : List (Int × Int)} {ok : Bool} (h : PI w pre v L ok W) (hz : w.heap.size + 9 ≤ W.heap.size) (hb : Below W.heap.size W w2) (o : Obj) (b : Bool) :
    Turns (Free w.heap.size) W ((w2.alloc o).setCell ⟨w.heap.size + 3, 0, none⟩ (.bool b)) ∧ Below w.heap.size w ((w2.alloc o).setCell ⟨w.heap.size + 3, 0, none⟩ (.bool b)) ∧
    (((w2.alloc o).setCell ⟨w.heap.size + 3, 0, none⟩ (.bool b)).cell? ⟨w.heap.size, 0, none⟩ = some (.slice none 0 0) ∧ ((w2.alloc o).setCell ⟨w.heap.size + 3, 0, none⟩ (.bool b)).frozen? ⟨w.heap.size, 0, none⟩ = false) ∧
    (((w2.alloc o).setCell ⟨w.heap.size + 3, 0, none⟩ (.bool b)).cell? ⟨w.heap.size + 1, 0, none⟩ = some (.int .i64 0) ∧ ((w2.alloc o).setCell ⟨w.heap.size + 3, 0, none⟩ (.bool b)).frozen? ⟨w.heap.size + 1, 0, none⟩ = false) ∧
    (((w2.alloc o).setCell ⟨w.heap.size + 3, 0, none⟩ (.bool b)).cell? ⟨w.heap.size + 2, 0, none⟩ = some v ∧ ((w2.alloc o).setCell ⟨w.heap.size + 3, 0, none⟩ (.bool b)).frozen? ⟨w.heap.size + 2, 0, none⟩ = false) ∧
    (((w2.alloc o).setCell ⟨w.heap.size + 3, 0, none⟩ (.bool b)).cell? ⟨w.heap.size + 3, 0, none⟩ = some (.bool b) ∧ ((w2.alloc o).setCell ⟨w.heap.size + 3, 0, none⟩ (.bool b)).frozen? ⟨w.heap.size + 3, 0, none⟩ = false) ∧
    RgNew (w.heap.size + 9) ((w2.alloc o).setCell ⟨w.heap.size + 3, 0, none⟩ (.bool b)) v L := by
  have t : Turns (fun k => k = w.heap.size + 3) W ((w2.alloc o).setCell ⟨w.heap.size + 3, 0, none⟩ (.bool b)) :=
    (Turns.of_below hb).trans ((Turns.alloc _ _ _).trans (Turns.setCell _ _ _ _))
  have cf : ∀ {k : Nat} {u : Value}, k < w.heap.size + 3 → W.cell? ⟨k, 0, none⟩ = some u ∧ W.frozen? ⟨k, 0, none⟩ = false → ((w2.alloc o).setCell ⟨w.heap.size + 3, 0, none⟩ (.bool b)).cell? ⟨k, 0, none⟩ = some u ∧ ((w2.alloc o).setCell ⟨w.heap.size + 3, 0, none⟩ (.bool b)).frozen? ⟨k, 0, none⟩ = false := fun {k} {u} hk h => ⟨t.cell h.1 (by omega), (t.frozen (b := k) (by omega) (World.block_lt_of_cell? W _ h.1)).trans h.2⟩
  refine ⟨t.mono fun k e => .inl (by omega), t.low h.low (by omega) (fun k e => by omega), cf (by omega) h.r0, cf (by omega) h.r1, cf (by omega) h.l, ⟨?_, ?_⟩, h.row.keep (fun g hg hl _ => t.block g hl (by omega))⟩
  · exact World.cell?_setCell_same _ _ _ (cellb (bnext hb (alloc_below _ _)) h.k.1)
  · rw [World.frozen?_setCell]
    exact ((bnext hb (alloc_below _ _)).frozen (p := ⟨w.heap.size + 3, 0, none⟩) (by simp only; omega)).trans h.k.2
theorem PI.skip {w W w2 : World} {pre : List (List Nat)} {x : List Nat} {v : Value} {L : List (Int × Int)} {ok ok' : Bool} {p q e : Int} (h : PI w pre v L ok W) (hz : w.heap.size + 9 ≤ W.heap.size) (hb : Below W.heap.size W w2) (o : Obj)
    (hR : rgV (trimB x) = ((p, q), e)) (h7 : e ≠ 7) (ho : ok' = (ok && decide (e = 0))) (hl : ¬ L.length ≤ 4) : PI w (pre ++ [x]) v L ok' ((w2.alloc o).setCell ⟨w.heap.size + 3, 0, none⟩ (.bool ok')) := by
  obtain ⟨_, m1, m2, m3, m4, m5, m6⟩ := h.mid hz hb o ok'
  obtain ⟨s1, s2, s3⟩ := rsV_facts (L := L) hR h7 h.sev h.ran ho
  exact ⟨m1, m2, m3, m4, m5, m6, s1, s2, by rw [s3]; exact take5_full h.lst hl⟩
theorem PI.app {w W w2 w3 : World} {pre : List (List Nat)} {x : List Nat} {v v' : Value} {L : List (Int × Int)} {ok ok' : Bool} {p q e : Int} {o o2 : Obj} (h : PI w pre v L ok W) (hz : w.heap.size + 9 ≤ W.heap.size) (hb : Below W.heap.size W w2)
    (hR : rgV (trimB x) = ((p, q), e)) (h7 : e ≠ 7) (ho : ok' = (ok && decide (e = 0))) (hl : L.length ≤ 4)
    (hown : w3.ownsRow (w.heap.size + 9) 32 2 v' (L.length + 1) (rgC L ++ [.int .i64 p, .int .i64 q])) (hg : (((w2.alloc o).setCell ⟨w.heap.size + 3, 0, none⟩ (.bool ok')).alloc o2).grownBy w3 v.ownBlock) :
    (w3.cell? ⟨w.heap.size + 2, 0, none⟩ = some v ∧ w3.frozen? ⟨w.heap.size + 2, 0, none⟩ = false) ∧
    PI w (pre ++ [x]) v' (L ++ [(p, q)]) ok' (w3.setCell ⟨w.heap.size + 2, 0, none⟩ v') ∧ Turns (Free w.heap.size) W (w3.setCell ⟨w.heap.size + 2, 0, none⟩ v') := by
  obtain ⟨m0, m1, m2, m3, m4, m5, m6⟩ := h.mid hz hb o ok'
  obtain ⟨s1, s2, s3⟩ := rsV_facts (L := L) hR h7 h.sev h.ran ho
  generalize ((w2.alloc o).setCell ⟨w.heap.size + 3, 0, none⟩ (.bool ok')) = M at *
  have hv : ∀ g, v.ownBlock = some g → w.heap.size + 9 ≤ g := fun g hg => (World.ownsRow.lt m6 g hg).1
  have t : Turns (fun k => w.heap.size + 9 ≤ k) M w3 := (Turns.alloc _ _ _).trans ((Turns.of_grown hg).mono fun k e => hv k e.symm)
  have cf : ∀ {k : Nat} {u : Value}, k < w.heap.size + 4 → M.cell? ⟨k, 0, none⟩ = some u ∧ M.frozen? ⟨k, 0, none⟩ = false → w3.cell? ⟨k, 0, none⟩ = some u ∧ w3.frozen? ⟨k, 0, none⟩ = false := fun {k} {u} hk h => ⟨t.cell h.1 (by omega), (t.frozen (b := k) (by omega) (World.block_lt_of_cell? M _ h.1)).trans h.2⟩
  have hl3 := cf (by omega) m4
  have ts := Turns.setCell w3 (w.heap.size + 2) 0 v'
  have t2 : Turns (Free w.heap.size) M (w3.setCell ⟨w.heap.size + 2, 0, none⟩ v') := (t.mono fun k e => .inr e).trans (ts.mono fun k e => .inl (by omega))
  have cs : ∀ {k : Nat} {u : Value}, k < w.heap.size + 4 → k ≠ w.heap.size + 2 → w3.cell? ⟨k, 0, none⟩ = some u ∧ w3.frozen? ⟨k, 0, none⟩ = false → (w3.setCell ⟨w.heap.size + 2, 0, none⟩ v').cell? ⟨k, 0, none⟩ = some u ∧ (w3.setCell ⟨w.heap.size + 2, 0, none⟩ v').frozen? ⟨k, 0, none⟩ = false := fun hk hn h => ⟨ts.cell h.1 (fun e => hn e), by rw [World.frozen?_setCell]; exact h.2⟩
  have hzM : w.heap.size ≤ M.heap.size := m1.size
  refine ⟨hl3, ⟨t2.low m1 hzM (fun k hk => by rcases hk with e | e <;> omega), cs (by omega) (by omega) (cf (by omega) m2), cs (by omega) (by omega) (cf (by omega) m3), ⟨World.cell?_setCell_same _ _ _ hl3.1, by rw [World.frozen?_setCell]; exact hl3.2⟩, cs (by omega) (by omega) (cf (by omega) m5), (RgNew.push (g := (p, q)) hown).keep (fun g hg hl _ => ts.block g hl (by omega)), s1, s2, by rw [s3]; exact take5_push h.lst hl⟩, m0.trans t2⟩
attribute [local go_sem] Oper.semAt_some
set_option maxRecDepth 100000 in
set_option maxHeartbeats 4000000 in
theorem parse_in (s : ByteArray) (hs : s.size ≤ 500) (w : World) (g : G w) :
    CallsIn Fence.wide 3 Tryd.prog 8 #[.string s] w fun e w' => ∃ v, e = .returned (.tuple #[v, .int .i64 (parseV (bs s)).2]) ∧ RgOut w' v (parseV (bs s)).1 ∧ Below w.heap.size w w' := by
  refine callsIn_of_wp_marks Tryd.func8 rfl trivial ?_ rfl
  simp only [Tryd.ntmps8, List.size_toArray, List.length_cons, List.length_nil, Nat.reduceAdd, Nat.reduceSub, Array.replicate_succ, Array.replicate_zero, List.push_toArray, List.append_toArray, List.nil_append, List.cons_append]
  gi_wp2_with (refine ⟨trivial, ?_⟩; gi_at_call 19; refine (callsIn_wide.2 (seq_c s ⟨#[44]⟩ _)).mono ?_; rintro _ w1 ⟨rfl, rfl⟩)
  simp only [Nat.add_assoc, Nat.reduceAdd]
  obtain ⟨z0, zb, q0, q1, q2, q3, q4, q5, q6⟩ := chain7 w (.cells #[.slice none 0 0] 23) (.cells #[.int .i64 0] 24) (.cells #[.slice none 0 0] 23) (.cells #[.bool true] 4) (.cells #[.string s] 9) (.cells #[.string ⟨#[44]⟩] 9) (.cells #[.int .i64 0] 3)
  obtain ⟨W0, hW0⟩ : ∃ W0, (((((((w.alloc (.cells #[.slice none 0 0] 23)).alloc (.cells #[.int .i64 0] 24)).alloc (.cells #[.slice none 0 0] 23)).alloc (.cells #[.bool true] 4)).alloc (.cells #[.string s] 9)).alloc (.cells #[.string ⟨#[44]⟩] 9)).alloc (.cells #[.int .i64 0] 3)) = W0 := ⟨_, rfl⟩
  rw [hW0] at z0 zb q0 q1 q2 q3 q4 q5 q6 ⊢
  clear hW0
  have cof : ∀ {k : Nat} {u : Value} {t : TypeId}, W0.heap[k]? = some (.cells #[u] t) → W0.cell? ⟨k, 0, none⟩ = some u ∧ W0.frozen? ⟨k, 0, none⟩ = false := fun h => ⟨cell_of_row _ _ 0 _ _ (0, 0) h, frozen_of_row _ _ 0 _ _ h⟩
  have P0 : PI w [] (.slice none 0 0) [] true W0 := ⟨zb, cof q0, cof q1, cof q2, cof q3, RgNew.nil _ _, fun r h => (by cases h), rfl, rfl⟩
  have it := seq_iter 2 (w.heap.size + 4) (by decide) s (by omega) W0 (cof q4).1 (cof q4).2 (cof q5).1 (cof q6).1
  clear q0 q1 q2 q3 q4 q5 q6 cof zb
  refine wp_range (w0 := W0) (B := w.heap.size + 4) (xs := spl 44 (bs s)) (enc := fun p : List Nat => .string (str p)) rfl (by decide) (gf := 48) (lb := #[.pointer (some ⟨w.heap.size + 5, 0, none⟩), .pointer (some ⟨w.heap.size + 4, 0, none⟩), .pointer (some ⟨w.heap.size + 6, 0, none⟩)]) rfl trivial (enters_of Tryd.func48 (by kernel_rfl) rfl)
    it (KeepB.refl _ _) (by omega) rfl
    (fun pre A => ∃ v L ok, PI w pre v L ok A)
    (fun c _ A => c = .ret ∧ Below w.heap.size w A ∧ A.cell? ⟨w.heap.size, 0, none⟩ = some (.slice none 0 0) ∧ A.cell? ⟨w.heap.size + 1, 0, none⟩ = some (.int .i64 7) ∧ parseV (bs s) = ([], 7))
    ?hI ?hIx ⟨_, _, _, P0⟩
    (fun x => { tmps := #[.string s, undef, .pointer (some ⟨w.heap.size, 0, none⟩), .pointer (some ⟨w.heap.size + 1, 0, none⟩), .pointer (some ⟨w.heap.size + 2, 0, none⟩), .pointer (some ⟨w.heap.size + 3, 0, none⟩), .string (str x), undef, undef, .string s, .func (.func 48) #[] #[.pointer (some ⟨w.heap.size + 5, 0, none⟩), .pointer (some ⟨w.heap.size + 4, 0, none⟩), .pointer (some ⟨w.heap.size + 6, 0, none⟩)], .string (str x), undef, undef, undef, undef, undef, undef, undef, undef, undef, undef, undef, undef, undef, undef, undef, undef, undef, undef, undef, undef, undef, undef, undef, undef, undef, undef, undef, undef, undef, undef, undef, undef, undef], defers := [] }) ?assign ?body ?done ?stop
  case hI =>
    rintro pre A A' ⟨v, L, ok, h⟩ t
    exact ⟨v, L, ok, h.turn t (fun k hk => by rcases hk with e | e | e <;> omega) (by have := h.lt; omega)⟩
  case hIx =>
    rintro c pre A A' ⟨hc, hb, h0, h1, hp⟩ t
    have hl := World.block_lt_of_cell? A _ h1
    simp only at hl
    exact ⟨hc, t.low hb (by omega) (fun k hk => by omega), t.cell h0 (by omega), t.cell h1 (by omega), hp⟩
  case assign =>
    intro l x W K hK
    gi_wp2
    exact hK
  case body =>
    rintro l pre x W ⟨v, L, ok, hP⟩ hz hpre
    rw [z0] at hz
    have hx : x ∈ spl 44 (bs s) := hpre.subset (by simp)
    have x8 : ∀ c ∈ x, c < 256 := fun c hc => bs_small s c (spl_mem 44 _ x hx c hc)
    have x5 : x.length ≤ 500 := by have := spl_part_length 44 _ x hx; rw [bs_length] at this; omega
    have t8 : ∀ c ∈ trimB x, c < 256 := fun c hc => x8 c (trimB_mem hc)
    have t5 : (trimB x).length ≤ 500 := Nat.le_trans (trimB_length x) x5
    have tr := trim_c (str x) (by rw [str_size]; omega) W
    rw [bs_str x8] at tr
    have ru := fun (X : World) (gX : G X) => rung_c (str (trimB x)) (by rw [str_size]; omega) X gX
    rw [bs_str t8] at ru
    obtain ⟨⟨⟨p, q⟩, e⟩, hR⟩ : ∃ R, rgV (trimB x) = R := ⟨_, rfl⟩
    rw [hR] at ru
    have he : e = 7 ∨ e = 3 ∨ e = 0 := by have := rgV_err (trimB x); rw [hR] at this; exact this
    have NEXT := Lib.hid (rsV_pre pre x)
    rw [hR] at NEXT
    have BAD := Lib.hid (show e = 7 → parseV (bs s) = ([], 7) from fun h => by
      obtain ⟨k, hk⟩ := List.getElem?_of_mem hx
      exact lst_seven hk (by rw [hR]; exact h))
    obtain ⟨T, hT⟩ : ∃ T, str x = T := ⟨_, rfl⟩
    obtain ⟨V, hV⟩ : ∃ V, str (trimB x) = V := ⟨_, rfl⟩
    rw [hT, hV] at tr
    rw [hV] at ru
    simp only [hT] at *
    have gW := g.below hP.low
    have TR := Lib.hid tr; have RU := Lib.hid ru; have GW := Lib.hid gW
    obtain ⟨AL, cl, rfl, hlc⟩ := hP.row.form
    obtain ⟨n, hn⟩ : ∃ n, L.length = n := ⟨_, rfl⟩
    have hn5 : n ≤ 5 := by rw [← hn, hP.lst, List.length_take]; omega
    rw [hn] at hP hlc
    have HN := Lib.hid hn
    have HP := Lib.hid hP
    have HR := Lib.hid hR
    clear tr ru gW hT hV hx x8 x5 t8 t5 hR it P0 hP g hn NEXT
    obtain ⟨i0, hi0, hz0, hz1, hz2⟩ := info_parts rung_info
    rcases he with rfl | rfl | rfl
    · gi_wp2_with (first
        | (refine ⟨trivial, ?_⟩; gi_at_call 21; refine (CallsIn.inRound l (callsIn_wide.2 TR.out)).mono ?_; rintro _ w1 ⟨rfl, hb1⟩)
        | (refine ⟨trivial, ?_⟩; gi_at_call 20; refine (CallsIn.inRound l (callsIn_wide.2 (RU.out _ (GW.out.below hb1)))).mono ?_; rintro _ w2 ⟨rfl, hb2⟩; have HB2 := Lib.hid (bnext hb1 hb2); clear hb1 hb2; have P2 := HP.out.turn ((Turns.of_below (S := fun _ => False) HB2.out).trans (Turns.alloc (fun _ => False) w2 (.cells #[.int .i64 p, .int .i64 q] 32))) (fun k h => h.elim) (by omega); obtain ⟨r0, rf0⟩ := P2.r0; obtain ⟨r1, rf1⟩ := P2.r1; obtain ⟨l0, lf0⟩ := P2.l; obtain ⟨k0, kf0⟩ := P2.k; have lt2 : w.heap.size + 9 ≤ w2.heap.size := Nat.le_trans hz HB2.out.size; have P2' := Lib.hid P2; clear P2))
      have t : Turns (Free w.heap.size) W (((w2.alloc (.cells #[.int .i64 p, .int .i64 q] 32)).setCell ⟨w.heap.size, 0, none⟩ (.slice none 0 0)).setCell ⟨w.heap.size + 1, 0, none⟩ (.int .i64 7)) :=
        (Turns.of_below HB2.out).trans ((Turns.alloc _ _ _).trans (((Turns.setCell _ _ _ _).mono fun k e => .inl (by omega)).trans ((Turns.setCell _ _ _ _).mono fun k e => .inl (by omega))))
      refine ⟨(t.keep (fun k hk => by rw [z0] at hk; unfold Own3 at hk; unfold Free; omega)), t.size, rfl, t.low HP.out.low (by omega) (fun k hk => by unfold Free at hk; omega), ?_, ?_, BAD.out (by first | rfl | trivial)⟩
      · exact (World.cell?_setCell_other _ _ _ _ (by simp)).trans (World.cell?_setCell_same _ _ _ r0)
      · exact World.cell?_setCell_same _ _ _ ((World.cell?_setCell_other _ _ _ _ (by simp)).trans r1)
    · cases ok
      · by_cases h4 : n ≤ 4
        · have hni : (n : Int) ≤ 4 := by omega
          have B63 := Lib.hid (show n + 1 ≤ maxLen by simp only [maxLen]; omega)
          have B48 := Lib.hid (show (n + 1) * 16 ≤ 140737488355328 by omega)
          have MID := Lib.hid (fun (w2 : World) (hb : Below W.heap.size W w2) => HP.out.mid hz hb (.cells #[.int .i64 p, .int .i64 q] 32) false)
          have APP := Lib.hid (fun (w2 w3 : World) (v' : Value) (hb : Below W.heap.size W w2) => @PI.app w W w2 w3 pre x (.slice AL n cl) v' L false false p q 3 (.cells #[.int .i64 p, .int .i64 q] 32) (.cells #[.int .i64 p, .int .i64 q] 32) HP.out hz hb HR.out (by decide) rfl (by rw [HN.out]; exact h4))
          rw [HN.out] at APP
          have FORM := Lib.hid (show ∀ (W' : World) (v' : Value), W'.ownsRow (w.heap.size + 9) 32 2 v' (n + 1) (rgC L ++ [.int .i64 p, .int .i64 q]) → ∃ A c, v' = .slice A (n + 1) c from fun W' v' h => by
            rcases h.2 with ⟨_, h0⟩ | ⟨g', cap, cur, rfl, _⟩
            · omega
            · exact ⟨_, _, rfl⟩)
          gi_wp2_with (first
            | (refine ⟨trivial, ?_⟩; gi_at_call 21; refine (CallsIn.inRound l (callsIn_wide.2 TR.out)).mono ?_; rintro _ w1 ⟨rfl, hb1⟩)
            | (refine ⟨trivial, ?_⟩; gi_at_call 20; refine (CallsIn.inRound l (callsIn_wide.2 (RU.out _ (GW.out.below hb1)))).mono ?_; rintro _ w2 ⟨rfl, hb2⟩; have HB2 := Lib.hid (bnext hb1 hb2); clear hb1 hb2; have P2 := HP.out.turn ((Turns.of_below (S := fun _ => False) HB2.out).trans (Turns.alloc (fun _ => False) w2 (.cells #[.int .i64 p, .int .i64 q] 32))) (fun k h => h.elim) (by omega); obtain ⟨r0, rf0⟩ := P2.r0; obtain ⟨r1, rf1⟩ := P2.r1; obtain ⟨l0, lf0⟩ := P2.l; obtain ⟨k0, kf0⟩ := P2.k; have lt2 : w.heap.size + 9 ≤ w2.heap.size := Nat.le_trans hz HB2.out.size; have P2' := Lib.hid P2; clear P2)
            | (gi_at_builtin; refine wpListIn_append_own _ rfl (.tmp 29) (.tmp 31) _ rfl (w.heap.size + 9) 32 i0 (.agg #[.int .i64 0, .int .i64 0]) 2 16 Tryd.underlying23 hi0 hz0 hz1 hz2 rfl (by decide) (.slice AL n cl) n (rgC L) rfl (World.ownsRow.alloc (by have h9 := (MID.out w2 HB2.out).2.2.2.2.2.2; unfold RgNew at h9; rw [HN.out] at h9; exact h9) _) ⟨w2.heap.size + 1, 0, none⟩ 1 1 [.int .i64 p, .int .i64 q] rfl rfl (by have h9 := cells_two ((w2.alloc (.cells #[.int .i64 p, .int .i64 q] 32)).setCell ⟨w.heap.size + 3, 0, none⟩ (.bool false)) (.int .i64 p) (.int .i64 q) 32; simpa using h9) (by simp [Value.oneCell']) B63.out B48.out (by have := lt2; simp; omega) ?_; intro v3 w3 hown3 hg3 hnil3; obtain ⟨A3, c3, hv3⟩ := FORM.out _ _ hown3; subst hv3; obtain ⟨⟨l3, lf3⟩, HP3, HT3⟩ := APP.out w2 w3 _ HB2.out hown3 hg3; have HP4 := Lib.hid HP3; have HT4 := Lib.hid HT3; clear hown3 hg3 hnil3 HP3 HT3))
          have t := HT4.out
          exact ⟨(t.keep (fun k hk => by rw [z0] at hk; unfold Own3 at hk; unfold Free; omega)), t.size, _, _, _, HP4.out⟩
        · have hni : ¬ (n : Int) ≤ 4 := by omega
          have SK := Lib.hid (fun (w2 : World) (hb : Below W.heap.size W w2) => @PI.skip w W w2 pre x (.slice AL n cl) L false false p q 3 HP.out hz hb (.cells #[.int .i64 p, .int .i64 q] 32) HR.out (by decide) rfl (by rw [HN.out]; exact h4))
          have MID := Lib.hid (fun (w2 : World) (hb : Below W.heap.size W w2) => (HP.out.mid hz hb (.cells #[.int .i64 p, .int .i64 q] 32) false).1)
          gi_wp2_with (first
            | (refine ⟨trivial, ?_⟩; gi_at_call 21; refine (CallsIn.inRound l (callsIn_wide.2 TR.out)).mono ?_; rintro _ w1 ⟨rfl, hb1⟩)
            | (refine ⟨trivial, ?_⟩; gi_at_call 20; refine (CallsIn.inRound l (callsIn_wide.2 (RU.out _ (GW.out.below hb1)))).mono ?_; rintro _ w2 ⟨rfl, hb2⟩; have HB2 := Lib.hid (bnext hb1 hb2); clear hb1 hb2; have P2 := HP.out.turn ((Turns.of_below (S := fun _ => False) HB2.out).trans (Turns.alloc (fun _ => False) w2 (.cells #[.int .i64 p, .int .i64 q] 32))) (fun k h => h.elim) (by omega); obtain ⟨r0, rf0⟩ := P2.r0; obtain ⟨r1, rf1⟩ := P2.r1; obtain ⟨l0, lf0⟩ := P2.l; obtain ⟨k0, kf0⟩ := P2.k; have lt2 : w.heap.size + 9 ≤ w2.heap.size := Nat.le_trans hz HB2.out.size; have P2' := Lib.hid P2; clear P2))
          have t := MID.out w2 HB2.out
          exact ⟨(t.keep (fun k hk => by rw [z0] at hk; unfold Own3 at hk; unfold Free; omega)), t.size, _, _, _, SK.out w2 HB2.out⟩
      · by_cases h4 : n ≤ 4
        · have hni : (n : Int) ≤ 4 := by omega
          have B63 := Lib.hid (show n + 1 ≤ maxLen by simp only [maxLen]; omega)
          have B48 := Lib.hid (show (n + 1) * 16 ≤ 140737488355328 by omega)
          have MID := Lib.hid (fun (w2 : World) (hb : Below W.heap.size W w2) => HP.out.mid hz hb (.cells #[.int .i64 p, .int .i64 q] 32) false)
          have APP := Lib.hid (fun (w2 w3 : World) (v' : Value) (hb : Below W.heap.size W w2) => @PI.app w W w2 w3 pre x (.slice AL n cl) v' L true false p q 3 (.cells #[.int .i64 p, .int .i64 q] 32) (.cells #[.int .i64 p, .int .i64 q] 32) HP.out hz hb HR.out (by decide) rfl (by rw [HN.out]; exact h4))
          rw [HN.out] at APP
          have FORM := Lib.hid (show ∀ (W' : World) (v' : Value), W'.ownsRow (w.heap.size + 9) 32 2 v' (n + 1) (rgC L ++ [.int .i64 p, .int .i64 q]) → ∃ A c, v' = .slice A (n + 1) c from fun W' v' h => by
            rcases h.2 with ⟨_, h0⟩ | ⟨g', cap, cur, rfl, _⟩
            · omega
            · exact ⟨_, _, rfl⟩)
          gi_wp2_with (first
            | (refine ⟨trivial, ?_⟩; gi_at_call 21; refine (CallsIn.inRound l (callsIn_wide.2 TR.out)).mono ?_; rintro _ w1 ⟨rfl, hb1⟩)
            | (refine ⟨trivial, ?_⟩; gi_at_call 20; refine (CallsIn.inRound l (callsIn_wide.2 (RU.out _ (GW.out.below hb1)))).mono ?_; rintro _ w2 ⟨rfl, hb2⟩; have HB2 := Lib.hid (bnext hb1 hb2); clear hb1 hb2; have P2 := HP.out.turn ((Turns.of_below (S := fun _ => False) HB2.out).trans (Turns.alloc (fun _ => False) w2 (.cells #[.int .i64 p, .int .i64 q] 32))) (fun k h => h.elim) (by omega); obtain ⟨r0, rf0⟩ := P2.r0; obtain ⟨r1, rf1⟩ := P2.r1; obtain ⟨l0, lf0⟩ := P2.l; obtain ⟨k0, kf0⟩ := P2.k; have lt2 : w.heap.size + 9 ≤ w2.heap.size := Nat.le_trans hz HB2.out.size; have P2' := Lib.hid P2; clear P2)
            | (gi_at_builtin; refine wpListIn_append_own _ rfl (.tmp 29) (.tmp 31) _ rfl (w.heap.size + 9) 32 i0 (.agg #[.int .i64 0, .int .i64 0]) 2 16 Tryd.underlying23 hi0 hz0 hz1 hz2 rfl (by decide) (.slice AL n cl) n (rgC L) rfl (World.ownsRow.alloc (by have h9 := (MID.out w2 HB2.out).2.2.2.2.2.2; unfold RgNew at h9; rw [HN.out] at h9; exact h9) _) ⟨w2.heap.size + 1, 0, none⟩ 1 1 [.int .i64 p, .int .i64 q] rfl rfl (by have h9 := cells_two ((w2.alloc (.cells #[.int .i64 p, .int .i64 q] 32)).setCell ⟨w.heap.size + 3, 0, none⟩ (.bool false)) (.int .i64 p) (.int .i64 q) 32; simpa using h9) (by simp [Value.oneCell']) B63.out B48.out (by have := lt2; simp; omega) ?_; intro v3 w3 hown3 hg3 hnil3; obtain ⟨A3, c3, hv3⟩ := FORM.out _ _ hown3; subst hv3; obtain ⟨⟨l3, lf3⟩, HP3, HT3⟩ := APP.out w2 w3 _ HB2.out hown3 hg3; have HP4 := Lib.hid HP3; have HT4 := Lib.hid HT3; clear hown3 hg3 hnil3 HP3 HT3))
          have t := HT4.out
          exact ⟨(t.keep (fun k hk => by rw [z0] at hk; unfold Own3 at hk; unfold Free; omega)), t.size, _, _, _, HP4.out⟩
        · have hni : ¬ (n : Int) ≤ 4 := by omega
          have SK := Lib.hid (fun (w2 : World) (hb : Below W.heap.size W w2) => @PI.skip w W w2 pre x (.slice AL n cl) L true false p q 3 HP.out hz hb (.cells #[.int .i64 p, .int .i64 q] 32) HR.out (by decide) rfl (by rw [HN.out]; exact h4))
          have MID := Lib.hid (fun (w2 : World) (hb : Below W.heap.size W w2) => (HP.out.mid hz hb (.cells #[.int .i64 p, .int .i64 q] 32) false).1)
          gi_wp2_with (first
            | (refine ⟨trivial, ?_⟩; gi_at_call 21; refine (CallsIn.inRound l (callsIn_wide.2 TR.out)).mono ?_; rintro _ w1 ⟨rfl, hb1⟩)
            | (refine ⟨trivial, ?_⟩; gi_at_call 20; refine (CallsIn.inRound l (callsIn_wide.2 (RU.out _ (GW.out.below hb1)))).mono ?_; rintro _ w2 ⟨rfl, hb2⟩; have HB2 := Lib.hid (bnext hb1 hb2); clear hb1 hb2; have P2 := HP.out.turn ((Turns.of_below (S := fun _ => False) HB2.out).trans (Turns.alloc (fun _ => False) w2 (.cells #[.int .i64 p, .int .i64 q] 32))) (fun k h => h.elim) (by omega); obtain ⟨r0, rf0⟩ := P2.r0; obtain ⟨r1, rf1⟩ := P2.r1; obtain ⟨l0, lf0⟩ := P2.l; obtain ⟨k0, kf0⟩ := P2.k; have lt2 : w.heap.size + 9 ≤ w2.heap.size := Nat.le_trans hz HB2.out.size; have P2' := Lib.hid P2; clear P2))
          have t := MID.out w2 HB2.out
          exact ⟨(t.keep (fun k hk => by rw [z0] at hk; unfold Own3 at hk; unfold Free; omega)), t.size, _, _, _, SK.out w2 HB2.out⟩
    · cases ok
      · by_cases h4 : n ≤ 4
        · have hni : (n : Int) ≤ 4 := by omega
          have B63 := Lib.hid (show n + 1 ≤ maxLen by simp only [maxLen]; omega)
          have B48 := Lib.hid (show (n + 1) * 16 ≤ 140737488355328 by omega)
          have MID := Lib.hid (fun (w2 : World) (hb : Below W.heap.size W w2) => HP.out.mid hz hb (.cells #[.int .i64 p, .int .i64 q] 32) false)
          have APP := Lib.hid (fun (w2 w3 : World) (v' : Value) (hb : Below W.heap.size W w2) => @PI.app w W w2 w3 pre x (.slice AL n cl) v' L false false p q 0 (.cells #[.int .i64 p, .int .i64 q] 32) (.cells #[.int .i64 p, .int .i64 q] 32) HP.out hz hb HR.out (by decide) rfl (by rw [HN.out]; exact h4))
          rw [HN.out] at APP
          have FORM := Lib.hid (show ∀ (W' : World) (v' : Value), W'.ownsRow (w.heap.size + 9) 32 2 v' (n + 1) (rgC L ++ [.int .i64 p, .int .i64 q]) → ∃ A c, v' = .slice A (n + 1) c from fun W' v' h => by
            rcases h.2 with ⟨_, h0⟩ | ⟨g', cap, cur, rfl, _⟩
            · omega
            · exact ⟨_, _, rfl⟩)
          gi_wp2_with (first
            | (refine ⟨trivial, ?_⟩; gi_at_call 21; refine (CallsIn.inRound l (callsIn_wide.2 TR.out)).mono ?_; rintro _ w1 ⟨rfl, hb1⟩)
            | (refine ⟨trivial, ?_⟩; gi_at_call 20; refine (CallsIn.inRound l (callsIn_wide.2 (RU.out _ (GW.out.below hb1)))).mono ?_; rintro _ w2 ⟨rfl, hb2⟩; have HB2 := Lib.hid (bnext hb1 hb2); clear hb1 hb2; have P2 := HP.out.turn ((Turns.of_below (S := fun _ => False) HB2.out).trans (Turns.alloc (fun _ => False) w2 (.cells #[.int .i64 p, .int .i64 q] 32))) (fun k h => h.elim) (by omega); obtain ⟨r0, rf0⟩ := P2.r0; obtain ⟨r1, rf1⟩ := P2.r1; obtain ⟨l0, lf0⟩ := P2.l; obtain ⟨k0, kf0⟩ := P2.k; have lt2 : w.heap.size + 9 ≤ w2.heap.size := Nat.le_trans hz HB2.out.size; have P2' := Lib.hid P2; clear P2)
            | (gi_at_builtin; refine wpListIn_append_own _ rfl (.tmp 29) (.tmp 31) _ rfl (w.heap.size + 9) 32 i0 (.agg #[.int .i64 0, .int .i64 0]) 2 16 Tryd.underlying23 hi0 hz0 hz1 hz2 rfl (by decide) (.slice AL n cl) n (rgC L) rfl (World.ownsRow.alloc (by have h9 := (MID.out w2 HB2.out).2.2.2.2.2.2; unfold RgNew at h9; rw [HN.out] at h9; exact h9) _) ⟨w2.heap.size + 1, 0, none⟩ 1 1 [.int .i64 p, .int .i64 q] rfl rfl (by have h9 := cells_two ((w2.alloc (.cells #[.int .i64 p, .int .i64 q] 32)).setCell ⟨w.heap.size + 3, 0, none⟩ (.bool false)) (.int .i64 p) (.int .i64 q) 32; simpa using h9) (by simp [Value.oneCell']) B63.out B48.out (by have := lt2; simp; omega) ?_; intro v3 w3 hown3 hg3 hnil3; obtain ⟨A3, c3, hv3⟩ := FORM.out _ _ hown3; subst hv3; obtain ⟨⟨l3, lf3⟩, HP3, HT3⟩ := APP.out w2 w3 _ HB2.out hown3 hg3; have HP4 := Lib.hid HP3; have HT4 := Lib.hid HT3; clear hown3 hg3 hnil3 HP3 HT3))
          have t := HT4.out
          exact ⟨(t.keep (fun k hk => by rw [z0] at hk; unfold Own3 at hk; unfold Free; omega)), t.size, _, _, _, HP4.out⟩
        · have hni : ¬ (n : Int) ≤ 4 := by omega
          have SK := Lib.hid (fun (w2 : World) (hb : Below W.heap.size W w2) => @PI.skip w W w2 pre x (.slice AL n cl) L false false p q 0 HP.out hz hb (.cells #[.int .i64 p, .int .i64 q] 32) HR.out (by decide) rfl (by rw [HN.out]; exact h4))
          have MID := Lib.hid (fun (w2 : World) (hb : Below W.heap.size W w2) => (HP.out.mid hz hb (.cells #[.int .i64 p, .int .i64 q] 32) false).1)
          gi_wp2_with (first
            | (refine ⟨trivial, ?_⟩; gi_at_call 21; refine (CallsIn.inRound l (callsIn_wide.2 TR.out)).mono ?_; rintro _ w1 ⟨rfl, hb1⟩)
            | (refine ⟨trivial, ?_⟩; gi_at_call 20; refine (CallsIn.inRound l (callsIn_wide.2 (RU.out _ (GW.out.below hb1)))).mono ?_; rintro _ w2 ⟨rfl, hb2⟩; have HB2 := Lib.hid (bnext hb1 hb2); clear hb1 hb2; have P2 := HP.out.turn ((Turns.of_below (S := fun _ => False) HB2.out).trans (Turns.alloc (fun _ => False) w2 (.cells #[.int .i64 p, .int .i64 q] 32))) (fun k h => h.elim) (by omega); obtain ⟨r0, rf0⟩ := P2.r0; obtain ⟨r1, rf1⟩ := P2.r1; obtain ⟨l0, lf0⟩ := P2.l; obtain ⟨k0, kf0⟩ := P2.k; have lt2 : w.heap.size + 9 ≤ w2.heap.size := Nat.le_trans hz HB2.out.size; have P2' := Lib.hid P2; clear P2))
          have t := MID.out w2 HB2.out
          exact ⟨(t.keep (fun k hk => by rw [z0] at hk; unfold Own3 at hk; unfold Free; omega)), t.size, _, _, _, SK.out w2 HB2.out⟩
      · by_cases h4 : n ≤ 4
        · have hni : (n : Int) ≤ 4 := by omega
          have B63 := Lib.hid (show n + 1 ≤ maxLen by simp only [maxLen]; omega)
          have B48 := Lib.hid (show (n + 1) * 16 ≤ 140737488355328 by omega)
          have MID := Lib.hid (fun (w2 : World) (hb : Below W.heap.size W w2) => HP.out.mid hz hb (.cells #[.int .i64 p, .int .i64 q] 32) true)
          have APP := Lib.hid (fun (w2 w3 : World) (v' : Value) (hb : Below W.heap.size W w2) => @PI.app w W w2 w3 pre x (.slice AL n cl) v' L true true p q 0 (.cells #[.int .i64 p, .int .i64 q] 32) (.cells #[.int .i64 p, .int .i64 q] 32) HP.out hz hb HR.out (by decide) rfl (by rw [HN.out]; exact h4))
          rw [HN.out] at APP
          have FORM := Lib.hid (show ∀ (W' : World) (v' : Value), W'.ownsRow (w.heap.size + 9) 32 2 v' (n + 1) (rgC L ++ [.int .i64 p, .int .i64 q]) → ∃ A c, v' = .slice A (n + 1) c from fun W' v' h => by
            rcases h.2 with ⟨_, h0⟩ | ⟨g', cap, cur, rfl, _⟩
            · omega
            · exact ⟨_, _, rfl⟩)
          gi_wp2_with (first
            | (refine ⟨trivial, ?_⟩; gi_at_call 21; refine (CallsIn.inRound l (callsIn_wide.2 TR.out)).mono ?_; rintro _ w1 ⟨rfl, hb1⟩)
            | (refine ⟨trivial, ?_⟩; gi_at_call 20; refine (CallsIn.inRound l (callsIn_wide.2 (RU.out _ (GW.out.below hb1)))).mono ?_; rintro _ w2 ⟨rfl, hb2⟩; have HB2 := Lib.hid (bnext hb1 hb2); clear hb1 hb2; have P2 := HP.out.turn ((Turns.of_below (S := fun _ => False) HB2.out).trans (Turns.alloc (fun _ => False) w2 (.cells #[.int .i64 p, .int .i64 q] 32))) (fun k h => h.elim) (by omega); obtain ⟨r0, rf0⟩ := P2.r0; obtain ⟨r1, rf1⟩ := P2.r1; obtain ⟨l0, lf0⟩ := P2.l; obtain ⟨k0, kf0⟩ := P2.k; have lt2 : w.heap.size + 9 ≤ w2.heap.size := Nat.le_trans hz HB2.out.size; have P2' := Lib.hid P2; clear P2)
            | (gi_at_builtin; refine wpListIn_append_own _ rfl (.tmp 29) (.tmp 31) _ rfl (w.heap.size + 9) 32 i0 (.agg #[.int .i64 0, .int .i64 0]) 2 16 Tryd.underlying23 hi0 hz0 hz1 hz2 rfl (by decide) (.slice AL n cl) n (rgC L) rfl (World.ownsRow.alloc (by have h9 := (MID.out w2 HB2.out).2.2.2.2.2.2; unfold RgNew at h9; rw [HN.out] at h9; exact h9) _) ⟨w2.heap.size + 1, 0, none⟩ 1 1 [.int .i64 p, .int .i64 q] rfl rfl (by have h9 := cells_two ((w2.alloc (.cells #[.int .i64 p, .int .i64 q] 32)).setCell ⟨w.heap.size + 3, 0, none⟩ (.bool true)) (.int .i64 p) (.int .i64 q) 32; simpa using h9) (by simp [Value.oneCell']) B63.out B48.out (by have := lt2; simp; omega) ?_; intro v3 w3 hown3 hg3 hnil3; obtain ⟨A3, c3, hv3⟩ := FORM.out _ _ hown3; subst hv3; obtain ⟨⟨l3, lf3⟩, HP3, HT3⟩ := APP.out w2 w3 _ HB2.out hown3 hg3; have HP4 := Lib.hid HP3; have HT4 := Lib.hid HT3; clear hown3 hg3 hnil3 HP3 HT3))
          have t := HT4.out
          exact ⟨(t.keep (fun k hk => by rw [z0] at hk; unfold Own3 at hk; unfold Free; omega)), t.size, _, _, _, HP4.out⟩
        · have hni : ¬ (n : Int) ≤ 4 := by omega
          have SK := Lib.hid (fun (w2 : World) (hb : Below W.heap.size W w2) => @PI.skip w W w2 pre x (.slice AL n cl) L true true p q 0 HP.out hz hb (.cells #[.int .i64 p, .int .i64 q] 32) HR.out (by decide) rfl (by rw [HN.out]; exact h4))
          have MID := Lib.hid (fun (w2 : World) (hb : Below W.heap.size W w2) => (HP.out.mid hz hb (.cells #[.int .i64 p, .int .i64 q] 32) true).1)
          gi_wp2_with (first
            | (refine ⟨trivial, ?_⟩; gi_at_call 21; refine (CallsIn.inRound l (callsIn_wide.2 TR.out)).mono ?_; rintro _ w1 ⟨rfl, hb1⟩)
            | (refine ⟨trivial, ?_⟩; gi_at_call 20; refine (CallsIn.inRound l (callsIn_wide.2 (RU.out _ (GW.out.below hb1)))).mono ?_; rintro _ w2 ⟨rfl, hb2⟩; have HB2 := Lib.hid (bnext hb1 hb2); clear hb1 hb2; have P2 := HP.out.turn ((Turns.of_below (S := fun _ => False) HB2.out).trans (Turns.alloc (fun _ => False) w2 (.cells #[.int .i64 p, .int .i64 q] 32))) (fun k h => h.elim) (by omega); obtain ⟨r0, rf0⟩ := P2.r0; obtain ⟨r1, rf1⟩ := P2.r1; obtain ⟨l0, lf0⟩ := P2.l; obtain ⟨k0, kf0⟩ := P2.k; have lt2 : w.heap.size + 9 ≤ w2.heap.size := Nat.le_trans hz HB2.out.size; have P2' := Lib.hid P2; clear P2))
          have t := MID.out w2 HB2.out
          exact ⟨(t.keep (fun k hk => by rw [z0] at hk; unfold Own3 at hk; unfold Free; omega)), t.size, _, _, _, SK.out w2 HB2.out⟩
  case done =>
    rintro W ⟨v, L, ok, hP⟩ hK
    rw [z0] at hK ⊢
    obtain ⟨f1, f2⟩ := par_end hP.sev hP.lst
    have hps : lstV (rsV (spl 44 (bs s))) = parseV (bs s) := rfl
    rw [hps] at f1 f2
    have hok := hP.ran
    generalize spl 44 (bs s) = ps at *
    obtain ⟨AL, cl, rfl, hlc⟩ := hP.row.form
    obtain ⟨q, hq⟩ : ∃ q, L.length = q := ⟨_, rfl⟩
    have TG := Lib.hid (together_c (.slice AL q cl) L (by rw [hP.lst, List.length_take]; omega) W (by rw [← hq]; exact hP.row.out))
    rw [hq] at f2 hP hlc
    obtain ⟨r0, rf0⟩ := hP.r0
    obtain ⟨r1, rf1⟩ := hP.r1
    obtain ⟨l0, -⟩ := hP.l
    obtain ⟨k0, -⟩ := hP.k
    have lt := hP.lt
    have FIN := Lib.hid (fun (X : World) (hX : Below W.heap.size W X) (v0 u : Value) (hb : Below w.heap.size w X) => last_cells (v0 := v0) (u := u) (D := w.heap.size + 7) (o := .deferred none) hb (by have := hX.size; omega) (cellb hX r0) (cellb hX r1) (by omega) ((hX.block _ (Array.getElem?_eq_some_iff.1 hK).1).trans hK))
    have LOW := Lib.hid hP.low
    have ROW := Lib.hid hP.row
    have F1 := Lib.hid f1; have F2 := Lib.hid f2
    clear f1 f2 hps hP it P0 hK hq
    cases ok
    · have hw : worstV (rsV ps) ≠ 0 := of_decide_eq_false hok.symm
      have SEV := Lib.hid (F1.out hw)
      clear hw hok F1 F2 TG
      gi_wp2
      obtain ⟨d1, d2, d3, d4, d5⟩ := FIN.out W (Below.refl _ _) (.slice none 0 0) (.int .i64 3) LOW.out
      refine ⟨by simp, .inl ⟨_, _, rfl, run_takeDeferred d1, ?_⟩⟩
      refine ⟨.tuple #[.slice none 0 0, .int .i64 3], ?_, ⟨_, by rw [SEV.out], by rw [SEV.out]; exact RgOut.nil _, d3⟩⟩
      simp [results, Tryd.results8, go_sem, d4, d5]
    · have hw : worstV (rsV ps) = 0 := of_decide_eq_true hok.symm
      have FF := Lib.hid (F2.out hw)
      clear hw hok F1 F2
      by_cases h4 : 4 < q
      · have SEV := Lib.hid (FF.out.trans (if_pos h4))
        have h4i : (4 : Int) < (q : Int) := by omega
        clear TG
        gi_wp2
        obtain ⟨d1, d2, d3, d4, d5⟩ := FIN.out W (Below.refl _ _) (.slice none 0 0) (.int .i64 11) LOW.out
        refine ⟨by simp, .inl ⟨_, _, rfl, run_takeDeferred d1, ?_⟩⟩
        refine ⟨.tuple #[.slice none 0 0, .int .i64 11], ?_, ⟨_, by rw [SEV.out], by rw [SEV.out]; exact RgOut.nil _, d3⟩⟩
        simp [results, Tryd.results8, go_sem, d4, d5]
      · have h4i : (q : Int) ≤ 4 := by omega
        cases ht : tog L
        · have SEV := Lib.hid (FF.out.trans ((if_neg h4).trans (by rw [ht]; rfl) : _ = (([] : List (Int × Int)), (1 : Int))))
          rw [ht] at TG
          clear ht h4
          gi_wp2_with (refine ⟨trivial, ?_⟩; gi_at_call 15; refine (callsIn_wide.2 TG.out).mono ?_; rintro _ w3 ⟨rfl, hb3⟩; have r0' := cellb hb3 r0; have r1' := cellb hb3 r1; have rf0' := (hb3.frozen (p := ⟨w.heap.size, 0, none⟩) (by simp only; omega)).trans rf0; have rf1' := (hb3.frozen (p := ⟨w.heap.size + 1, 0, none⟩) (by simp only; omega)).trans rf1)
          obtain ⟨d1, d2, d3, d4, d5⟩ := FIN.out w3 hb3 (.slice none 0 0) (.int .i64 1) (LOW.out.trans (hb3.mono (by omega)))
          refine ⟨by simp, .inl ⟨_, _, rfl, run_takeDeferred d1, ?_⟩⟩
          refine ⟨.tuple #[.slice none 0 0, .int .i64 1], ?_, ⟨_, by rw [SEV.out], by rw [SEV.out]; exact RgOut.nil _, d3⟩⟩
          simp [results, Tryd.results8, go_sem, d4, d5]
        · have SEV := Lib.hid (FF.out.trans ((if_neg h4).trans (by rw [ht]; rfl) : _ = (L, (0 : Int))))
          rw [ht] at TG
          clear ht h4
          gi_wp2_with (refine ⟨trivial, ?_⟩; gi_at_call 15; refine (callsIn_wide.2 TG.out).mono ?_; rintro _ w3 ⟨rfl, hb3⟩; have r0' := cellb hb3 r0; have r1' := cellb hb3 r1; have l0' := cellb hb3 l0; have rf0' := (hb3.frozen (p := ⟨w.heap.size, 0, none⟩) (by simp only; omega)).trans rf0; have rf1' := (hb3.frozen (p := ⟨w.heap.size + 1, 0, none⟩) (by simp only; omega)).trans rf1)
          obtain ⟨d1, d2, d3, d4, d5⟩ := FIN.out w3 hb3 (.slice AL q cl) (.int .i64 0) (LOW.out.trans (hb3.mono (by omega)))
          refine ⟨by simp, .inl ⟨_, _, rfl, run_takeDeferred d1, ?_⟩⟩
          refine ⟨.tuple #[.slice AL q cl, .int .i64 0], ?_, ⟨_, by rw [SEV.out], by rw [SEV.out]; exact ((ROW.out.below hb3).keep (fun g hg hl _ => d2.block g hl (by omega))).out, d3⟩⟩
          simp [results, Tryd.results8, go_sem, d4, d5]
  case stop =>
    rintro c pre W ⟨rfl, hb, h0, h1, hp⟩ hK
    rw [z0] at hK ⊢
    gi_wp2
    refine ⟨by simp, .inl ⟨_, _, rfl, run_takeDeferred hK, ?_⟩⟩
    have hl := World.block_lt_of_cell? W _ h1
    simp only at hl
    have t := Turns.putObj W (w.heap.size + 7) (.deferred none)
    have d4 := t.cell h0 (by omega)
    have d5 := t.cell h1 (by omega)
    refine ⟨.tuple #[.slice none 0 0, .int .i64 7], ?_, ⟨_, by rw [hp], by rw [hp]; exact RgOut.nil _, t.low hb (by omega) (fun k hk => by omega)⟩⟩
    simp [results, Tryd.results8, go_sem, d4, d5]
end Go.Proofs.YtjbacbbbhedmlaaDoor.RP
