/-
  Contracts of the program's functions of layer 10: Parse, what its walk wants.
-/
import Derived.Test.YtodlgbihdehmbaaGreatDoorRngSeqZ
import Derived.Test.YtodlgbihdehmbaaGreatDoorRetPEZ
import Derived.Test.YtodlgbihdehmbaaGreatDoorRulPBZ
set_option linter.unusedSimpArgs false
set_option linter.unusedVariables false
namespace Go.Proofs.YtodlgbihdehmbaaGreatDoor.RP
open Go.RowKit Go.Shelf RR
theorem splitSeq_c (s sep : ByteArray) (w : World) : Calls Tryz.prog 106 #[.string s, .string sep, .int .i64 0] w fun e w' => e = .returned (.func (.func 137) #[] #[.pointer (some ⟨w.heap.size + 1, 0, none⟩), .pointer (some ⟨w.heap.size, 0, none⟩), .pointer (some ⟨w.heap.size + 2, 0, none⟩)]) ∧ w' = ((w.alloc (.cells #[.string s] 9)).alloc (.cells #[.string sep] 9)).alloc (.cells #[.int .i64 0] 3) := by
  go_enter Tryz.func106, Tryz.ntmps106
  go_wp2
  go_ret
  exact ⟨rfl, rfl⟩
theorem seq_c (s sep : ByteArray) (w : World) : Calls Tryz.prog 78 #[.string s, .string sep] w fun e w' => e = .returned (.func (.func 137) #[] #[.pointer (some ⟨w.heap.size + 1, 0, none⟩), .pointer (some ⟨w.heap.size, 0, none⟩), .pointer (some ⟨w.heap.size + 2, 0, none⟩)]) ∧ w' = ((w.alloc (.cells #[.string s] 9)).alloc (.cells #[.string sep] 9)).alloc (.cells #[.int .i64 0] 3) := by
  have h := Lib.hid (splitSeq_c s sep w)
  go_enter Tryz.func78, Tryz.ntmps78
  go_wp2_with fail
  refine h.out.mono ?_; rintro _ w1 ⟨rfl, rfl⟩
  go_wp2
  go_ret
  exact ⟨rfl, rfl⟩
theorem trim_c (s : ByteArray) (hs : s.size ≤ 100000) (w : World) : Calls Tryz.prog 80 #[.string s, .string ⟨#[32]⟩] w fun e w' => e = .returned (.string (str (trimB (bs s)))) ∧ Below w.heap.size w w' := by
  refine (Tryz.strings_Trim_one s 32 (by decide) w (by omega)).mono ?_
  rintro e w' ⟨rfl, h⟩
  refine ⟨by rw [trim_text], ?_⟩
  rcases h with rfl | rfl
  · exact Below.refl _ _
  · exact (Below.refl _ _).drew
/-- The blocks that a round may turn: the call's own variables, and what is laid behind the loop's own. -/
def Free (N k : Nat) : Prop := (N ≤ k ∧ k < N + 4) ∨ N + 9 ≤ k
/-- While the parts are gone through. -/
structure PI (w : World) (pre : List (List Nat)) (v : Value) (L : List (Int × Int)) (ok : Bool) (W : World) : Prop where
  low : Below w.heap.size w W
  r0 : W.cell? ⟨w.heap.size, 0, none⟩ = some (.slice none 0 0) ∧ W.frozen? ⟨w.heap.size, 0, none⟩ = false
  r1 : W.cell? ⟨w.heap.size + 1, 0, none⟩ = some (.int .i64 0) ∧ W.frozen? ⟨w.heap.size + 1, 0, none⟩ = false
  l : W.cell? ⟨w.heap.size + 2, 0, none⟩ = some v ∧ W.frozen? ⟨w.heap.size + 2, 0, none⟩ = false
  k : W.cell? ⟨w.heap.size + 3, 0, none⟩ = some (.bool ok) ∧ W.frozen? ⟨w.heap.size + 3, 0, none⟩ = false
  row : RgNew (w.heap.size + 9) W v L
  sev : ∀ r ∈ rsV pre, r.2 ≠ 7
  ran : ok = decide (worstV (rsV pre) = 0)
  lst : L = ((rsV pre).map (·.1)).take 5
theorem PI.turn {w W W' : World} {pre : List (List Nat)} {v : Value} {L : List (Int × Int)} {ok : Bool} {S : Nat → Prop} (h : PI w pre v L ok W) (t : Turns S W W') (hS : ∀ k, S k → w.heap.size + 4 ≤ k ∧ k < w.heap.size + 9) (hz : w.heap.size ≤ W.heap.size) : PI w pre v L ok W' := by
  have no : ∀ k, k < w.heap.size + 4 → ¬ S k := fun k hk hs => by have := hS k hs; omega
  have cf : ∀ {k : Nat} {u : Value}, k < w.heap.size + 4 → W.cell? ⟨k, 0, none⟩ = some u ∧ W.frozen? ⟨k, 0, none⟩ = false → W'.cell? ⟨k, 0, none⟩ = some u ∧ W'.frozen? ⟨k, 0, none⟩ = false := fun hk h => ⟨t.cell h.1 (no _ hk), (t.frozen (no _ hk) (World.block_lt_of_cell? W _ h.1)).trans h.2⟩
  exact ⟨t.low h.low hz (fun k hs => by have := hS k hs; omega), cf (by omega) h.r0, cf (by omega) h.r1, cf (by omega) h.l, cf (by omega) h.k, h.row.keep (fun g hg hl _ => t.block g hl (fun hs => by have := hS g hs; omega)), h.sev, h.ran, h.lst⟩
theorem PI.lt {w W : World} {pre : List (List Nat)} {v : Value} {L : List (Int × Int)} {ok : Bool} (h : PI w pre v L ok W) : w.heap.size + 4 ≤ W.heap.size := by
  have := World.block_lt_of_cell? W _ h.k.1
  simp only at this
  omega
theorem worst_pre (pre : List (List Nat)) (x : List Nat) : worstV (rsV (pre ++ [x])) = if (rgV (trimB x)).2 = 3 then 3 else worstV (rsV pre) := by
  unfold rsV
  rw [List.map_append]
  exact worst_snoc _ _
theorem rsV_pre (pre : List (List Nat)) (x : List Nat) : rsV (pre ++ [x]) = rsV pre ++ [rgV (trimB x)] := by unfold rsV; rw [List.map_append]; rfl
theorem chain7 (w : World) (o0 o1 o2 o3 o4 o5 o6 : Obj) :
    (((((((w.alloc o0).alloc o1).alloc o2).alloc o3).alloc o4).alloc o5).alloc o6).heap.size = w.heap.size + 7 ∧
    Below w.heap.size w (((((((w.alloc o0).alloc o1).alloc o2).alloc o3).alloc o4).alloc o5).alloc o6) ∧
    (((((((w.alloc o0).alloc o1).alloc o2).alloc o3).alloc o4).alloc o5).alloc o6).heap[w.heap.size]? = some o0 ∧
    (((((((w.alloc o0).alloc o1).alloc o2).alloc o3).alloc o4).alloc o5).alloc o6).heap[w.heap.size + 1]? = some o1 ∧
    (((((((w.alloc o0).alloc o1).alloc o2).alloc o3).alloc o4).alloc o5).alloc o6).heap[w.heap.size + 2]? = some o2 ∧
    (((((((w.alloc o0).alloc o1).alloc o2).alloc o3).alloc o4).alloc o5).alloc o6).heap[w.heap.size + 3]? = some o3 ∧
    (((((((w.alloc o0).alloc o1).alloc o2).alloc o3).alloc o4).alloc o5).alloc o6).heap[w.heap.size + 4]? = some o4 ∧
    (((((((w.alloc o0).alloc o1).alloc o2).alloc o3).alloc o4).alloc o5).alloc o6).heap[w.heap.size + 5]? = some o5 ∧
    (((((((w.alloc o0).alloc o1).alloc o2).alloc o3).alloc o4).alloc o5).alloc o6).heap[w.heap.size + 6]? = some o6 := by
  have n : ∀ (v : World) (o : Obj), (v.alloc o).heap[v.heap.size]? = some o := fun v o => World.alloc_heap_new v o
  have k : ∀ (v : World) (o : Obj) (i : Nat), i < v.heap.size → (v.alloc o).heap[i]? = v.heap[i]? := fun v o i h => Below.heap_alloc v o i h
  refine ⟨by simp, ?_, ?_, ?_, ?_, ?_, ?_, ?_, ?_⟩
  · exact bnext (bnext (bnext (bnext (bnext (bnext (alloc_below _ _) (alloc_below _ _)) (alloc_below _ _)) (alloc_below _ _)) (alloc_below _ _)) (alloc_below _ _)) (alloc_below _ _)
  · rw [k _ _ _ (by simp only [World.size_alloc]; omega), k _ _ _ (by simp only [World.size_alloc]; omega), k _ _ _ (by simp only [World.size_alloc]; omega), k _ _ _ (by simp only [World.size_alloc]; omega), k _ _ _ (by simp only [World.size_alloc]; omega), k _ _ _ (by simp)]; exact n w o0
  · rw [k _ _ _ (by simp only [World.size_alloc]; omega), k _ _ _ (by simp only [World.size_alloc]; omega), k _ _ _ (by simp only [World.size_alloc]; omega), k _ _ _ (by simp only [World.size_alloc]; omega), k _ _ _ (by simp)]; have := n (w.alloc o0) o1; simpa using this
  · rw [k _ _ _ (by simp only [World.size_alloc]; omega), k _ _ _ (by simp only [World.size_alloc]; omega), k _ _ _ (by simp only [World.size_alloc]; omega), k _ _ _ (by simp)]; have := n ((w.alloc o0).alloc o1) o2; simpa using this
  · rw [k _ _ _ (by simp only [World.size_alloc]; omega), k _ _ _ (by simp only [World.size_alloc]; omega), k _ _ _ (by simp)]; have := n (((w.alloc o0).alloc o1).alloc o2) o3; simpa using this
  · rw [k _ _ _ (by simp only [World.size_alloc]; omega), k _ _ _ (by simp)]; have := n ((((w.alloc o0).alloc o1).alloc o2).alloc o3) o4; simpa using this
  · rw [k _ _ _ (by simp)]; have := n (((((w.alloc o0).alloc o1).alloc o2).alloc o3).alloc o4) o5; simpa using this
  · have := n ((((((w.alloc o0).alloc o1).alloc o2).alloc o3).alloc o4).alloc o5) o6; simpa using this
theorem Turns.of_grown {W W' : World} {row : Option Nat} (hg : W.grownBy W' row) : Turns (fun k => some k = row) W W' := ⟨hg.os, hg.tape, hg.output, hg.size, fun k hk hn => hg.block k hk hn⟩
/-- A round of a part without an error, as far as its archive's own variable. -/
theorem take5_push {m : List (Int × Int)} {g : Int × Int} {L : List (Int × Int)} (h : L = m.take 5) (hl : L.length ≤ 4) : L ++ [g] = (m ++ [g]).take 5 := by
  have : m.length ≤ 4 := by rw [h, List.length_take] at hl; omega
  rw [h, List.take_of_length_le (by omega), List.take_of_length_le (by simp; omega)]
theorem take5_full {m : List (Int × Int)} {g : Int × Int} {L : List (Int × Int)} (h : L = m.take 5) (hl : ¬ L.length ≤ 4) : L = (m ++ [g]).take 5 := by
  have : 5 ≤ m.length := by rw [h, List.length_take] at hl; omega
  rw [h, List.take_append_of_le_length this]
theorem cells_two (w : World) (x y : Value) (t : TypeId) : ∀ (j : Nat) (u : Value), [x, y][j]? = some u → (w.alloc (.cells #[x, y] t)).cell? ((⟨w.heap.size, 0, none⟩ : Addr).add j) = some u := fun j u hj => by
  have e : (⟨w.heap.size, 0, none⟩ : Addr).add j = ⟨w.heap.size, j, none⟩ := by unfold Addr.add; split <;> simp_all
  rw [e]
  refine (cell_of_row _ _ j _ _ (0, 0) (heap_alloc_new w _)).trans ?_
  simpa using hj
theorem par_end {ps : List (List Nat)} (h7 : ∀ r ∈ rsV ps, r.2 ≠ 7) {L : List (Int × Int)} (hL : L = ((rsV ps).map (·.1)).take 5) :
    (worstV (rsV ps) ≠ 0 → lstV (rsV ps) = ([], 3)) ∧ (worstV (rsV ps) = 0 → lstV (rsV ps) = if 4 < L.length then ([], 11) else if tog L then (L, 0) else ([], 1)) := by
  obtain ⟨f1, f2⟩ := lst_end (rs := rsV ps) (fun r hr => by
    unfold rsV at hr
    obtain ⟨p, _, rfl⟩ := List.mem_map.1 hr
    exact rgV_err _) h7
  refine ⟨fun h => (f1 h).2, fun h => ?_⟩
  have h0 : ∀ r ∈ rsV ps, r.2 = 0 := fun r hr => by
    have hr2 := hr
    unfold rsV at hr2
    obtain ⟨p, _, rfl⟩ := List.mem_map.1 hr2
    rcases rgV_err (trimB p) with e | e | e
    · exact absurd e (h7 _ hr)
    · exfalso
      unfold worstV at h
      rw [if_pos (by rw [List.any_eq_true]; exact ⟨_, hr, by rw [e]; rfl⟩)] at h
      cases h
    · exact e
  rw [f2 h, okV_all h0]
  generalize (rsV ps).map (·.1) = M at *
  by_cases h4 : 4 < M.length
  · rw [if_pos h4, if_pos (by rw [hL, List.length_take]; omega)]
  · rw [List.take_of_length_le (by omega)] at hL
    rw [hL]
/-- Behind the stores of what is answered, and the last step of the loop's own block. -/
theorem last_cells {N D : Nat} {w W : World} {v0 u : Value} {a0 a1 : Value} {o : Obj} (hb : Below N w W) (hN : N ≤ W.heap.size) (h0 : W.cell? ⟨N, 0, none⟩ = some a0) (h1 : W.cell? ⟨N + 1, 0, none⟩ = some a1) (hD : N + 2 ≤ D) (hK : W.heap[D]? = some (.deferred (some []))) :
    ((W.setCell ⟨N, 0, none⟩ v0).setCell ⟨N + 1, 0, none⟩ u).heap[D]? = some (.deferred (some [])) ∧
    Turns (fun k => k = N ∨ k = N + 1 ∨ k = D) W (((W.setCell ⟨N, 0, none⟩ v0).setCell ⟨N + 1, 0, none⟩ u).putObj D o) ∧
    Below N w (((W.setCell ⟨N, 0, none⟩ v0).setCell ⟨N + 1, 0, none⟩ u).putObj D o) ∧
    (((W.setCell ⟨N, 0, none⟩ v0).setCell ⟨N + 1, 0, none⟩ u).putObj D o).cell? ⟨N, 0, none⟩ = some v0 ∧
    (((W.setCell ⟨N, 0, none⟩ v0).setCell ⟨N + 1, 0, none⟩ u).putObj D o).cell? ⟨N + 1, 0, none⟩ = some u := by
  have t1 := Turns.setCell W N 0 v0
  have t2 := Turns.setCell (W.setCell ⟨N, 0, none⟩ v0) (N + 1) 0 u
  have t3 := Turns.putObj ((W.setCell ⟨N, 0, none⟩ v0).setCell ⟨N + 1, 0, none⟩ u) D o
  have T : Turns (fun k => k = N ∨ k = N + 1 ∨ k = D) W (((W.setCell ⟨N, 0, none⟩ v0).setCell ⟨N + 1, 0, none⟩ u).putObj D o) :=
    (t1.mono fun k e => .inl e).trans ((t2.mono fun k e => .inr (.inl e)).trans (t3.mono fun k e => .inr (.inr e)))
  have hlt := (Array.getElem?_eq_some_iff.1 hK).1
  refine ⟨(t2.block D (Nat.lt_of_lt_of_le hlt t1.size) (by omega)).trans ((t1.block D hlt (by omega)).trans hK), T, T.low hb hN (fun k hk => by rcases hk with e | e | e <;> omega), ?_, ?_⟩
  · refine t3.cell ?_ (by omega)
    exact (World.cell?_setCell_other _ _ _ _ (by simp)).trans (World.cell?_setCell_same _ _ _ h0)
  · refine t3.cell ?_ (by omega)
    exact World.cell?_setCell_same _ _ _ ((World.cell?_setCell_other _ _ _ _ (by simp)).trans h1)
theorem rsV_facts {pre : List (List Nat)} {x : List Nat} {p q e : Int} (hR : rgV (trimB x) = ((p, q), e)) (h7 : e ≠ 7) {L : List (Int × Int)} {ok ok' : Bool} (hs : ∀ r ∈ rsV pre, r.2 ≠ 7) (hr : ok = decide (worstV (rsV pre) = 0)) (ho : ok' = (ok && decide (e = 0))) :
    (∀ r ∈ rsV (pre ++ [x]), r.2 ≠ 7) ∧ ok' = decide (worstV (rsV (pre ++ [x])) = 0) ∧ (rsV (pre ++ [x])).map (·.1) = (rsV pre).map (·.1) ++ [(p, q)] := by
  have he : e = 3 ∨ e = 0 := by
    have := rgV_err (trimB x)
    rw [hR] at this
    rcases this with h | h | h
    · exact absurd h h7
    · exact .inl h
    · exact .inr h
  refine ⟨fun r h => ?_, ?_, ?_⟩
  · rw [rsV_pre, List.mem_append] at h
    rcases h with h | h
    · exact hs r h
    · rw [List.mem_singleton] at h
      rw [h, hR]; exact h7
  · rw [worst_pre, hR, ho, hr]
    rcases he with rfl | rfl
    · simp
    · simp
  · rw [rsV_pre, List.map_append, hR]; rfl
/-- Behind the archive's variable and the store of whether all may be told. -/
theorem PI.mid {w W w2 : World} {pre : List (List Nat)} {v : Value} {L : List (Int × Int)} {ok : Bool} (h : PI w pre v L ok W) (hz : w.heap.size + 9 ≤ W.heap.size) (hb : Below W.heap.size W w2) (o : Obj) (b : Bool) :
    Turns (Free w.heap.size) W ((w2.alloc o).setCell ⟨w.heap.size + 3, 0, none⟩ (.bool b)) ∧ Below w.heap.size w ((w2.alloc o).setCell ⟨w.heap.size + 3, 0, none⟩ (.bool b)) ∧
    (((w2.alloc o).setCell ⟨w.heap.size + 3, 0, none⟩ (.bool b)).cell? ⟨w.heap.size, 0, none⟩ = some (.slice none 0 0) ∧ ((w2.alloc o).setCell ⟨w.heap.size + 3, 0, none⟩ (.bool b)).frozen? ⟨w.heap.size, 0, none⟩ = false) ∧
    (((w2.alloc o).setCell ⟨w.heap.size + 3, 0, none⟩ (.bool b)).cell? ⟨w.heap.size + 1, 0, none⟩ = some (.int .i64 0) ∧ ((w2.alloc o).setCell ⟨w.heap.size + 3, 0, none⟩ (.bool b)).frozen? ⟨w.heap.size + 1, 0, none⟩ = false) ∧
    (((w2.alloc o).setCell ⟨w.heap.size + 3, 0, none⟩ (.bool b)).cell? ⟨w.heap.size + 2, 0, none⟩ = some v ∧ ((w2.alloc o).setCell ⟨w.heap.size + 3, 0, none⟩ (.bool b)).frozen? ⟨w.heap.size + 2, 0, none⟩ = false) ∧
    (((w2.alloc o).setCell ⟨w.heap.size + 3, 0, none⟩ (.bool b)).cell? ⟨w.heap.size + 3, 0, none⟩ = some (.bool b) ∧ ((w2.alloc o).setCell ⟨w.heap.size + 3, 0, none⟩ (.bool b)).frozen? ⟨w.heap.size + 3, 0, none⟩ = false) ∧
    RgNew (w.heap.size + 9) ((w2.alloc o).setCell ⟨w.heap.size + 3, 0, none⟩ (.bool b)) v L := by
  have t : Turns (fun k => k = w.heap.size + 3) W ((w2.alloc o).setCell ⟨w.heap.size + 3, 0, none⟩ (.bool b)) :=
    (Turns.of_below hb).trans ((Turns.alloc _ _ _).trans (Turns.setCell _ _ _ _))
  have cf : ∀ {k : Nat} {u : Value}, k < w.heap.size + 3 → W.cell? ⟨k, 0, none⟩ = some u ∧ W.frozen? ⟨k, 0, none⟩ = false → ((w2.alloc o).setCell ⟨w.heap.size + 3, 0, none⟩ (.bool b)).cell? ⟨k, 0, none⟩ = some u ∧ ((w2.alloc o).setCell ⟨w.heap.size + 3, 0, none⟩ (.bool b)).frozen? ⟨k, 0, none⟩ = false := fun {k} {u} hk h => ⟨t.cell h.1 (by omega), (t.frozen (b := k) (by omega) (World.block_lt_of_cell? W _ h.1)).trans h.2⟩
  refine ⟨t.mono fun k e => .inl (by omega), t.low h.low (by omega) (fun k e => by omega), cf (by omega) h.r0, cf (by omega) h.r1, cf (by omega) h.l, ⟨?_, ?_⟩, h.row.keep (fun g hg hl _ => t.block g hl (by omega))⟩
  · exact World.cell?_setCell_same _ _ _ (cellb (bnext hb (alloc_below _ _)) h.k.1)
  · rw [World.frozen?_setCell]
    exact ((bnext hb (alloc_below _ _)).frozen (p := ⟨w.heap.size + 3, 0, none⟩) (by simp only; omega)).trans h.k.2
theorem PI.skip {w W w2 : World} {pre : List (List Nat)} {x : List Nat} {v : Value} {L : List (Int × Int)} {ok ok' : Bool} {p q e : Int} (h : PI w pre v L ok W) (hz : w.heap.size + 9 ≤ W.heap.size) (hb : Below W.heap.size W w2) (o : Obj)
    (hR : rgV (trimB x) = ((p, q), e)) (h7 : e ≠ 7) (ho : ok' = (ok && decide (e = 0))) (hl : ¬ L.length ≤ 4) : PI w (pre ++ [x]) v L ok' ((w2.alloc o).setCell ⟨w.heap.size + 3, 0, none⟩ (.bool ok')) := by
  obtain ⟨_, m1, m2, m3, m4, m5, m6⟩ := h.mid hz hb o ok'
  obtain ⟨s1, s2, s3⟩ := rsV_facts (L := L) hR h7 h.sev h.ran ho
  exact ⟨m1, m2, m3, m4, m5, m6, s1, s2, by rw [s3]; exact take5_full h.lst hl⟩
theorem PI.app {w W w2 w3 : World} {pre : List (List Nat)} {x : List Nat} {v v' : Value} {L : List (Int × Int)} {ok ok' : Bool} {p q e : Int} {o o2 : Obj} (h : PI w pre v L ok W) (hz : w.heap.size + 9 ≤ W.heap.size) (hb : Below W.heap.size W w2)
    (hR : rgV (trimB x) = ((p, q), e)) (h7 : e ≠ 7) (ho : ok' = (ok && decide (e = 0))) (hl : L.length ≤ 4)
    (hown : w3.ownsRow (w.heap.size + 9) 49 2 v' (L.length + 1) (rgC L ++ [.int .i64 p, .int .i64 q])) (hg : (((w2.alloc o).setCell ⟨w.heap.size + 3, 0, none⟩ (.bool ok')).alloc o2).grownBy w3 v.ownBlock) :
    (w3.cell? ⟨w.heap.size + 2, 0, none⟩ = some v ∧ w3.frozen? ⟨w.heap.size + 2, 0, none⟩ = false) ∧
    PI w (pre ++ [x]) v' (L ++ [(p, q)]) ok' (w3.setCell ⟨w.heap.size + 2, 0, none⟩ v') ∧ Turns (Free w.heap.size) W (w3.setCell ⟨w.heap.size + 2, 0, none⟩ v') := by
  obtain ⟨m0, m1, m2, m3, m4, m5, m6⟩ := h.mid hz hb o ok'
  obtain ⟨s1, s2, s3⟩ := rsV_facts (L := L) hR h7 h.sev h.ran ho
  generalize ((w2.alloc o).setCell ⟨w.heap.size + 3, 0, none⟩ (.bool ok')) = M at *
  have hv : ∀ g, v.ownBlock = some g → w.heap.size + 9 ≤ g := fun g hg => (World.ownsRow.lt m6 g hg).1
  have t : Turns (fun k => w.heap.size + 9 ≤ k) M w3 := (Turns.alloc _ _ _).trans ((Turns.of_grown hg).mono fun k e => hv k e.symm)
  have cf : ∀ {k : Nat} {u : Value}, k < w.heap.size + 4 → M.cell? ⟨k, 0, none⟩ = some u ∧ M.frozen? ⟨k, 0, none⟩ = false → w3.cell? ⟨k, 0, none⟩ = some u ∧ w3.frozen? ⟨k, 0, none⟩ = false := fun {k} {u} hk h => ⟨t.cell h.1 (by omega), (t.frozen (b := k) (by omega) (World.block_lt_of_cell? M _ h.1)).trans h.2⟩
  have hl3 := cf (by omega) m4
  have ts := Turns.setCell w3 (w.heap.size + 2) 0 v'
  have t2 : Turns (Free w.heap.size) M (w3.setCell ⟨w.heap.size + 2, 0, none⟩ v') := (t.mono fun k e => .inr e).trans (ts.mono fun k e => .inl (by omega))
  have cs : ∀ {k : Nat} {u : Value}, k < w.heap.size + 4 → k ≠ w.heap.size + 2 → w3.cell? ⟨k, 0, none⟩ = some u ∧ w3.frozen? ⟨k, 0, none⟩ = false → (w3.setCell ⟨w.heap.size + 2, 0, none⟩ v').cell? ⟨k, 0, none⟩ = some u ∧ (w3.setCell ⟨w.heap.size + 2, 0, none⟩ v').frozen? ⟨k, 0, none⟩ = false := fun hk hn h => ⟨ts.cell h.1 (fun e => hn e), by rw [World.frozen?_setCell]; exact h.2⟩
  have hzM : w.heap.size ≤ M.heap.size := m1.size
  refine ⟨hl3, ⟨t2.low m1 hzM (fun k hk => by rcases hk with e | e <;> omega), cs (by omega) (by omega) (cf (by omega) m2), cs (by omega) (by omega) (cf (by omega) m3), ⟨World.cell?_setCell_same _ _ _ hl3.1, by rw [World.frozen?_setCell]; exact hl3.2⟩, cs (by omega) (by omega) (cf (by omega) m5), (RgNew.push (g := (p, q)) hown).keep (fun g hg hl _ => ts.block g hl (by omega)), s1, s2, by rw [s3]; exact take5_push h.lst hl⟩, m0.trans t2⟩
attribute [local go_sem] Oper.semAt_some
set_option maxRecDepth 100000 in
set_option maxHeartbeats 4000000 in
theorem parse_in (s : ByteArray) (hs : s.size ≤ 5000) (w : World) (g : G w) :
    CallsIn Fence.wide 3 Tryz.prog 53 #[.string s] w fun e w' => ∃ v, e = .returned (.tuple #[v, .int .i64 (parseV (bs s)).2]) ∧ RgNew w.heap.size w' v (parseV (bs s)).1 ∧ Below w.heap.size w w' := by
  refine callsIn_of_wp_marks Tryz.func53 rfl trivial ?_ rfl
  simp only [Tryz.ntmps53, List.size_toArray, List.length_cons, List.length_nil, Nat.reduceAdd, Nat.reduceSub, Array.replicate_succ, Array.replicate_zero, List.push_toArray, List.append_toArray, List.nil_append, List.cons_append]
  gi_wp2_with (refine ⟨trivial, ?_⟩; gi_at_call 78; refine (callsIn_wide.2 (seq_c s ⟨#[44]⟩ _)).mono ?_; rintro _ w1 ⟨rfl, rfl⟩)
  simp only [Nat.add_assoc, Nat.reduceAdd]
  obtain ⟨z0, zb, q0, q1, q2, q3, q4, q5, q6⟩ := chain7 w (.cells #[.slice none 0 0] 39) (.cells #[.int .i64 0] 24) (.cells #[.slice none 0 0] 39) (.cells #[.bool true] 4) (.cells #[.string s] 9) (.cells #[.string ⟨#[44]⟩] 9) (.cells #[.int .i64 0] 3)
  obtain ⟨W0, hW0⟩ : ∃ W0, (((((((w.alloc (.cells #[.slice none 0 0] 39)).alloc (.cells #[.int .i64 0] 24)).alloc (.cells #[.slice none 0 0] 39)).alloc (.cells #[.bool true] 4)).alloc (.cells #[.string s] 9)).alloc (.cells #[.string ⟨#[44]⟩] 9)).alloc (.cells #[.int .i64 0] 3)) = W0 := ⟨_, rfl⟩
  rw [hW0] at z0 zb q0 q1 q2 q3 q4 q5 q6 ⊢
  clear hW0
  have cof : ∀ {k : Nat} {u : Value} {t : TypeId}, W0.heap[k]? = some (.cells #[u] t) → W0.cell? ⟨k, 0, none⟩ = some u ∧ W0.frozen? ⟨k, 0, none⟩ = false := fun h => ⟨cell_of_row _ _ 0 _ _ (0, 0) h, frozen_of_row _ _ 0 _ _ h⟩
  have P0 : PI w [] (.slice none 0 0) [] true W0 := ⟨zb, cof q0, cof q1, cof q2, cof q3, RgNew.nil _ _, fun r h => (by cases h), rfl, rfl⟩
  have it := seq_iter 2 (w.heap.size + 4) (by decide) s (by omega) W0 (cof q4).1 (cof q4).2 (cof q5).1 (cof q6).1
  clear q0 q1 q2 q3 q4 q5 q6 cof zb
  refine wp_range (w0 := W0) (B := w.heap.size + 4) (xs := spl 44 (bs s)) (enc := fun p : List Nat => .string (str p)) rfl (by decide) (gf := 137) (lb := #[.pointer (some ⟨w.heap.size + 5, 0, none⟩), .pointer (some ⟨w.heap.size + 4, 0, none⟩), .pointer (some ⟨w.heap.size + 6, 0, none⟩)]) rfl trivial (enters_of Tryz.func137 (by kernel_rfl) rfl)
    it (KeepB.refl _ _) (by omega) rfl
    (fun pre A => ∃ v L ok, PI w pre v L ok A)
    (fun c _ A => c = .ret ∧ Below w.heap.size w A ∧ A.cell? ⟨w.heap.size, 0, none⟩ = some (.slice none 0 0) ∧ A.cell? ⟨w.heap.size + 1, 0, none⟩ = some (.int .i64 7) ∧ parseV (bs s) = ([], 7))
    ?hI ?hIx ⟨_, _, _, P0⟩
    (fun x => { tmps := #[.string s, undef, .pointer (some ⟨w.heap.size, 0, none⟩), .pointer (some ⟨w.heap.size + 1, 0, none⟩), .pointer (some ⟨w.heap.size + 2, 0, none⟩), .pointer (some ⟨w.heap.size + 3, 0, none⟩), .string (str x), undef, undef, .string s, .func (.func 137) #[] #[.pointer (some ⟨w.heap.size + 5, 0, none⟩), .pointer (some ⟨w.heap.size + 4, 0, none⟩), .pointer (some ⟨w.heap.size + 6, 0, none⟩)], .string (str x), undef, undef, undef, undef, undef, undef, undef, undef, undef, undef, undef, undef, undef, undef, undef, undef, undef, undef, undef, undef, undef, undef, undef, undef, undef, undef, undef, undef, undef, undef, undef, undef, undef], defers := [] }) ?assign ?body ?done ?stop
  case hI =>
    rintro pre A A' ⟨v, L, ok, h⟩ t
    exact ⟨v, L, ok, h.turn t (fun k hk => by rcases hk with e | e | e <;> omega) (by have := h.lt; omega)⟩
  case hIx =>
    rintro c pre A A' ⟨hc, hb, h0, h1, hp⟩ t
    have hl := World.block_lt_of_cell? A _ h1
    simp only at hl
    exact ⟨hc, t.low hb (by omega) (fun k hk => by omega), t.cell h0 (by omega), t.cell h1 (by omega), hp⟩
  case assign =>
    intro l x W K hK
    gi_wp2
    exact hK
  case body =>
    rintro l pre x W ⟨v, L, ok, hP⟩ hz hpre
    rw [z0] at hz
    have hx : x ∈ spl 44 (bs s) := hpre.subset (by simp)
    have x8 : ∀ c ∈ x, c < 256 := fun c hc => bs_small s c (spl_mem 44 _ x hx c hc)
    have x5 : x.length ≤ 5000 := by have := spl_part_length 44 _ x hx; rw [bs_length] at this; omega
    have t8 : ∀ c ∈ trimB x, c < 256 := fun c hc => x8 c (trimB_mem hc)
    have t5 : (trimB x).length ≤ 5000 := Nat.le_trans (trimB_length x) x5
    have tr := trim_c (str x) (by rw [str_size]; omega) W
    rw [bs_str x8] at tr
    have ru := fun (X : World) (gX : G X) => rung_c (str (trimB x)) (by rw [str_size]; omega) X gX
    rw [bs_str t8] at ru
    obtain ⟨⟨⟨p, q⟩, e⟩, hR⟩ : ∃ R, rgV (trimB x) = R := ⟨_, rfl⟩
    rw [hR] at ru
    have he : e = 7 ∨ e = 3 ∨ e = 0 := by have := rgV_err (trimB x); rw [hR] at this; exact this
    have NEXT := Lib.hid (rsV_pre pre x)
    rw [hR] at NEXT
    have BAD := Lib.hid (show e = 7 → parseV (bs s) = ([], 7) from fun h => by
      obtain ⟨k, hk⟩ := List.getElem?_of_mem hx
      exact lst_seven hk (by rw [hR]; exact h))
    obtain ⟨T, hT⟩ : ∃ T, str x = T := ⟨_, rfl⟩
    obtain ⟨V, hV⟩ : ∃ V, str (trimB x) = V := ⟨_, rfl⟩
    rw [hT, hV] at tr
    rw [hV] at ru
    simp only [hT] at *
    have gW := g.below hP.low
    have TR := Lib.hid tr; have RU := Lib.hid ru; have GW := Lib.hid gW
    obtain ⟨AL, cl, rfl, hlc⟩ := hP.row.form
    obtain ⟨n, hn⟩ : ∃ n, L.length = n := ⟨_, rfl⟩
    have hn5 : n ≤ 5 := by rw [← hn, hP.lst, List.length_take]; omega
    rw [hn] at hP hlc
    have HN := Lib.hid hn
    have HP := Lib.hid hP
    have HR := Lib.hid hR
    clear tr ru gW hT hV hx x8 x5 t8 t5 hR it P0 hP g hn NEXT
    obtain ⟨i0, hi0, hz0, hz1, hz2⟩ := info_parts rung_info
    rcases he with rfl | rfl | rfl
    · gi_wp2_with (first
        | (refine ⟨trivial, ?_⟩; gi_at_call 80; refine (CallsIn.inRound l (callsIn_wide.2 TR.out)).mono ?_; rintro _ w1 ⟨rfl, hb1⟩)
        | (refine ⟨trivial, ?_⟩; gi_at_call 79; refine (CallsIn.inRound l (callsIn_wide.2 (RU.out _ (GW.out.below hb1)))).mono ?_; rintro _ w2 ⟨rfl, hb2⟩; have HB2 := Lib.hid (bnext hb1 hb2); clear hb1 hb2; have P2 := HP.out.turn ((Turns.of_below (S := fun _ => False) HB2.out).trans (Turns.alloc (fun _ => False) w2 (.cells #[.int .i64 p, .int .i64 q] 49))) (fun k h => h.elim) (by omega); obtain ⟨r0, rf0⟩ := P2.r0; obtain ⟨r1, rf1⟩ := P2.r1; obtain ⟨l0, lf0⟩ := P2.l; obtain ⟨k0, kf0⟩ := P2.k; have lt2 : w.heap.size + 9 ≤ w2.heap.size := Nat.le_trans hz HB2.out.size; have P2' := Lib.hid P2; clear P2))
      have t : Turns (Free w.heap.size) W (((w2.alloc (.cells #[.int .i64 p, .int .i64 q] 49)).setCell ⟨w.heap.size, 0, none⟩ (.slice none 0 0)).setCell ⟨w.heap.size + 1, 0, none⟩ (.int .i64 7)) :=
        (Turns.of_below HB2.out).trans ((Turns.alloc _ _ _).trans (((Turns.setCell _ _ _ _).mono fun k e => .inl (by omega)).trans ((Turns.setCell _ _ _ _).mono fun k e => .inl (by omega))))
      refine ⟨(t.keep (fun k hk => by rw [z0] at hk; unfold Own3 at hk; unfold Free; omega)), t.size, rfl, t.low HP.out.low (by omega) (fun k hk => by unfold Free at hk; omega), ?_, ?_, BAD.out (by first | rfl | trivial)⟩
      · exact (World.cell?_setCell_other _ _ _ _ (by simp)).trans (World.cell?_setCell_same _ _ _ r0)
      · exact World.cell?_setCell_same _ _ _ ((World.cell?_setCell_other _ _ _ _ (by simp)).trans r1)
    · cases ok
      · by_cases h4 : n ≤ 4
        · have hni : (n : Int) ≤ 4 := by omega
          have B63 := Lib.hid (show n + 1 ≤ maxLen by simp only [maxLen]; omega)
          have B48 := Lib.hid (show (n + 1) * 16 ≤ 140737488355328 by omega)
          have MID := Lib.hid (fun (w2 : World) (hb : Below W.heap.size W w2) => HP.out.mid hz hb (.cells #[.int .i64 p, .int .i64 q] 49) false)
          have APP := Lib.hid (fun (w2 w3 : World) (v' : Value) (hb : Below W.heap.size W w2) => @PI.app w W w2 w3 pre x (.slice AL n cl) v' L false false p q 3 (.cells #[.int .i64 p, .int .i64 q] 49) (.cells #[.int .i64 p, .int .i64 q] 49) HP.out hz hb HR.out (by decide) rfl (by rw [HN.out]; exact h4))
          rw [HN.out] at APP
          have FORM := Lib.hid (show ∀ (W' : World) (v' : Value), W'.ownsRow (w.heap.size + 9) 49 2 v' (n + 1) (rgC L ++ [.int .i64 p, .int .i64 q]) → ∃ A c, v' = .slice A (n + 1) c from fun W' v' h => by
            rcases h.2 with ⟨_, h0⟩ | ⟨g', cap, cur, rfl, _⟩
            · omega
            · exact ⟨_, _, rfl⟩)
          gi_wp2_with (first
            | (refine ⟨trivial, ?_⟩; gi_at_call 80; refine (CallsIn.inRound l (callsIn_wide.2 TR.out)).mono ?_; rintro _ w1 ⟨rfl, hb1⟩)
            | (refine ⟨trivial, ?_⟩; gi_at_call 79; refine (CallsIn.inRound l (callsIn_wide.2 (RU.out _ (GW.out.below hb1)))).mono ?_; rintro _ w2 ⟨rfl, hb2⟩; have HB2 := Lib.hid (bnext hb1 hb2); clear hb1 hb2; have P2 := HP.out.turn ((Turns.of_below (S := fun _ => False) HB2.out).trans (Turns.alloc (fun _ => False) w2 (.cells #[.int .i64 p, .int .i64 q] 49))) (fun k h => h.elim) (by omega); obtain ⟨r0, rf0⟩ := P2.r0; obtain ⟨r1, rf1⟩ := P2.r1; obtain ⟨l0, lf0⟩ := P2.l; obtain ⟨k0, kf0⟩ := P2.k; have lt2 : w.heap.size + 9 ≤ w2.heap.size := Nat.le_trans hz HB2.out.size; have P2' := Lib.hid P2; clear P2)
            | (gi_at_builtin; refine wpListIn_append_own _ rfl (.tmp 29) (.tmp 31) _ rfl (w.heap.size + 9) 49 i0 (.agg #[.int .i64 0, .int .i64 0]) 2 16 Tryz.underlying39 hi0 hz0 hz1 hz2 rfl (by decide) (.slice AL n cl) n (rgC L) rfl (World.ownsRow.alloc (by have h9 := (MID.out w2 HB2.out).2.2.2.2.2.2; unfold RgNew at h9; rw [HN.out] at h9; exact h9) _) ⟨w2.heap.size + 1, 0, none⟩ 1 1 [.int .i64 p, .int .i64 q] rfl rfl (by have h9 := cells_two ((w2.alloc (.cells #[.int .i64 p, .int .i64 q] 49)).setCell ⟨w.heap.size + 3, 0, none⟩ (.bool false)) (.int .i64 p) (.int .i64 q) 49; simpa using h9) (by simp [Value.oneCell']) B63.out B48.out (by have := lt2; simp; omega) ?_; intro v3 w3 hown3 hg3 hnil3; obtain ⟨A3, c3, hv3⟩ := FORM.out _ _ hown3; subst hv3; obtain ⟨⟨l3, lf3⟩, HP3, HT3⟩ := APP.out w2 w3 _ HB2.out hown3 hg3; have HP4 := Lib.hid HP3; have HT4 := Lib.hid HT3; clear hown3 hg3 hnil3 HP3 HT3))
          have t := HT4.out
          exact ⟨(t.keep (fun k hk => by rw [z0] at hk; unfold Own3 at hk; unfold Free; omega)), t.size, _, _, _, HP4.out⟩
        · have hni : ¬ (n : Int) ≤ 4 := by omega
          have SK := Lib.hid (fun (w2 : World) (hb : Below W.heap.size W w2) => @PI.skip w W w2 pre x (.slice AL n cl) L false false p q 3 HP.out hz hb (.cells #[.int .i64 p, .int .i64 q] 49) HR.out (by decide) rfl (by rw [HN.out]; exact h4))
          have MID := Lib.hid (fun (w2 : World) (hb : Below W.heap.size W w2) => (HP.out.mid hz hb (.cells #[.int .i64 p, .int .i64 q] 49) false).1)
          gi_wp2_with (first
            | (refine ⟨trivial, ?_⟩; gi_at_call 80; refine (CallsIn.inRound l (callsIn_wide.2 TR.out)).mono ?_; rintro _ w1 ⟨rfl, hb1⟩)
            | (refine ⟨trivial, ?_⟩; gi_at_call 79; refine (CallsIn.inRound l (callsIn_wide.2 (RU.out _ (GW.out.below hb1)))).mono ?_; rintro _ w2 ⟨rfl, hb2⟩; have HB2 := Lib.hid (bnext hb1 hb2); clear hb1 hb2; have P2 := HP.out.turn ((Turns.of_below (S := fun _ => False) HB2.out).trans (Turns.alloc (fun _ => False) w2 (.cells #[.int .i64 p, .int .i64 q] 49))) (fun k h => h.elim) (by omega); obtain ⟨r0, rf0⟩ := P2.r0; obtain ⟨r1, rf1⟩ := P2.r1; obtain ⟨l0, lf0⟩ := P2.l; obtain ⟨k0, kf0⟩ := P2.k; have lt2 : w.heap.size + 9 ≤ w2.heap.size := Nat.le_trans hz HB2.out.size; have P2' := Lib.hid P2; clear P2))
          have t := MID.out w2 HB2.out
          exact ⟨(t.keep (fun k hk => by rw [z0] at hk; unfold Own3 at hk; unfold Free; omega)), t.size, _, _, _, SK.out w2 HB2.out⟩
      · by_cases h4 : n ≤ 4
        · have hni : (n : Int) ≤ 4 := by omega
          have B63 := Lib.hid (show n + 1 ≤ maxLen by simp only [maxLen]; omega)
          have B48 := Lib.hid (show (n + 1) * 16 ≤ 140737488355328 by omega)
          have MID := Lib.hid (fun (w2 : World) (hb : Below W.heap.size W w2) => HP.out.mid hz hb (.cells #[.int .i64 p, .int .i64 q] 49) false)
          have APP := Lib.hid (fun (w2 w3 : World) (v' : Value) (hb : Below W.heap.size W w2) => @PI.app w W w2 w3 pre x (.slice AL n cl) v' L true false p q 3 (.cells #[.int .i64 p, .int .i64 q] 49) (.cells #[.int .i64 p, .int .i64 q] 49) HP.out hz hb HR.out (by decide) rfl (by rw [HN.out]; exact h4))
          rw [HN.out] at APP
          have FORM := Lib.hid (show ∀ (W' : World) (v' : Value), W'.ownsRow (w.heap.size + 9) 49 2 v' (n + 1) (rgC L ++ [.int .i64 p, .int .i64 q]) → ∃ A c, v' = .slice A (n + 1) c from fun W' v' h => by
            rcases h.2 with ⟨_, h0⟩ | ⟨g', cap, cur, rfl, _⟩
            · omega
            · exact ⟨_, _, rfl⟩)
          gi_wp2_with (first
            | (refine ⟨trivial, ?_⟩; gi_at_call 80; refine (CallsIn.inRound l (callsIn_wide.2 TR.out)).mono ?_; rintro _ w1 ⟨rfl, hb1⟩)
            | (refine ⟨trivial, ?_⟩; gi_at_call 79; refine (CallsIn.inRound l (callsIn_wide.2 (RU.out _ (GW.out.below hb1)))).mono ?_; rintro _ w2 ⟨rfl, hb2⟩; have HB2 := Lib.hid (bnext hb1 hb2); clear hb1 hb2; have P2 := HP.out.turn ((Turns.of_below (S := fun _ => False) HB2.out).trans (Turns.alloc (fun _ => False) w2 (.cells #[.int .i64 p, .int .i64 q] 49))) (fun k h => h.elim) (by omega); obtain ⟨r0, rf0⟩ := P2.r0; obtain ⟨r1, rf1⟩ := P2.r1; obtain ⟨l0, lf0⟩ := P2.l; obtain ⟨k0, kf0⟩ := P2.k; have lt2 : w.heap.size + 9 ≤ w2.heap.size := Nat.le_trans hz HB2.out.size; have P2' := Lib.hid P2; clear P2)
            | (gi_at_builtin; refine wpListIn_append_own _ rfl (.tmp 29) (.tmp 31) _ rfl (w.heap.size + 9) 49 i0 (.agg #[.int .i64 0, .int .i64 0]) 2 16 Tryz.underlying39 hi0 hz0 hz1 hz2 rfl (by decide) (.slice AL n cl) n (rgC L) rfl (World.ownsRow.alloc (by have h9 := (MID.out w2 HB2.out).2.2.2.2.2.2; unfold RgNew at h9; rw [HN.out] at h9; exact h9) _) ⟨w2.heap.size + 1, 0, none⟩ 1 1 [.int .i64 p, .int .i64 q] rfl rfl (by have h9 := cells_two ((w2.alloc (.cells #[.int .i64 p, .int .i64 q] 49)).setCell ⟨w.heap.size + 3, 0, none⟩ (.bool false)) (.int .i64 p) (.int .i64 q) 49; simpa using h9) (by simp [Value.oneCell']) B63.out B48.out (by have := lt2; simp; omega) ?_; intro v3 w3 hown3 hg3 hnil3; obtain ⟨A3, c3, hv3⟩ := FORM.out _ _ hown3; subst hv3; obtain ⟨⟨l3, lf3⟩, HP3, HT3⟩ := APP.out w2 w3 _ HB2.out hown3 hg3; have HP4 := Lib.hid HP3; have HT4 := Lib.hid HT3; clear hown3 hg3 hnil3 HP3 HT3))
          have t := HT4.out
          exact ⟨(t.keep (fun k hk => by rw [z0] at hk; unfold Own3 at hk; unfold Free; omega)), t.size, _, _, _, HP4.out⟩
        · have hni : ¬ (n : Int) ≤ 4 := by omega
          have SK := Lib.hid (fun (w2 : World) (hb : Below W.heap.size W w2) => @PI.skip w W w2 pre x (.slice AL n cl) L true false p q 3 HP.out hz hb (.cells #[.int .i64 p, .int .i64 q] 49) HR.out (by decide) rfl (by rw [HN.out]; exact h4))
          have MID := Lib.hid (fun (w2 : World) (hb : Below W.heap.size W w2) => (HP.out.mid hz hb (.cells #[.int .i64 p, .int .i64 q] 49) false).1)
          gi_wp2_with (first
            | (refine ⟨trivial, ?_⟩; gi_at_call 80; refine (CallsIn.inRound l (callsIn_wide.2 TR.out)).mono ?_; rintro _ w1 ⟨rfl, hb1⟩)
            | (refine ⟨trivial, ?_⟩; gi_at_call 79; refine (CallsIn.inRound l (callsIn_wide.2 (RU.out _ (GW.out.below hb1)))).mono ?_; rintro _ w2 ⟨rfl, hb2⟩; have HB2 := Lib.hid (bnext hb1 hb2); clear hb1 hb2; have P2 := HP.out.turn ((Turns.of_below (S := fun _ => False) HB2.out).trans (Turns.alloc (fun _ => False) w2 (.cells #[.int .i64 p, .int .i64 q] 49))) (fun k h => h.elim) (by omega); obtain ⟨r0, rf0⟩ := P2.r0; obtain ⟨r1, rf1⟩ := P2.r1; obtain ⟨l0, lf0⟩ := P2.l; obtain ⟨k0, kf0⟩ := P2.k; have lt2 : w.heap.size + 9 ≤ w2.heap.size := Nat.le_trans hz HB2.out.size; have P2' := Lib.hid P2; clear P2))
          have t := MID.out w2 HB2.out
          exact ⟨(t.keep (fun k hk => by rw [z0] at hk; unfold Own3 at hk; unfold Free; omega)), t.size, _, _, _, SK.out w2 HB2.out⟩
    · cases ok
      · by_cases h4 : n ≤ 4
        · have hni : (n : Int) ≤ 4 := by omega
          have B63 := Lib.hid (show n + 1 ≤ maxLen by simp only [maxLen]; omega)
          have B48 := Lib.hid (show (n + 1) * 16 ≤ 140737488355328 by omega)
          have MID := Lib.hid (fun (w2 : World) (hb : Below W.heap.size W w2) => HP.out.mid hz hb (.cells #[.int .i64 p, .int .i64 q] 49) false)
          have APP := Lib.hid (fun (w2 w3 : World) (v' : Value) (hb : Below W.heap.size W w2) => @PI.app w W w2 w3 pre x (.slice AL n cl) v' L false false p q 0 (.cells #[.int .i64 p, .int .i64 q] 49) (.cells #[.int .i64 p, .int .i64 q] 49) HP.out hz hb HR.out (by decide) rfl (by rw [HN.out]; exact h4))
          rw [HN.out] at APP
          have FORM := Lib.hid (show ∀ (W' : World) (v' : Value), W'.ownsRow (w.heap.size + 9) 49 2 v' (n + 1) (rgC L ++ [.int .i64 p, .int .i64 q]) → ∃ A c, v' = .slice A (n + 1) c from fun W' v' h => by
            rcases h.2 with ⟨_, h0⟩ | ⟨g', cap, cur, rfl, _⟩
            · omega
            · exact ⟨_, _, rfl⟩)
          gi_wp2_with (first
            | (refine ⟨trivial, ?_⟩; gi_at_call 80; refine (CallsIn.inRound l (callsIn_wide.2 TR.out)).mono ?_; rintro _ w1 ⟨rfl, hb1⟩)
            | (refine ⟨trivial, ?_⟩; gi_at_call 79; refine (CallsIn.inRound l (callsIn_wide.2 (RU.out _ (GW.out.below hb1)))).mono ?_; rintro _ w2 ⟨rfl, hb2⟩; have HB2 := Lib.hid (bnext hb1 hb2); clear hb1 hb2; have P2 := HP.out.turn ((Turns.of_below (S := fun _ => False) HB2.out).trans (Turns.alloc (fun _ => False) w2 (.cells #[.int .i64 p, .int .i64 q] 49))) (fun k h => h.elim) (by omega); obtain ⟨r0, rf0⟩ := P2.r0; obtain ⟨r1, rf1⟩ := P2.r1; obtain ⟨l0, lf0⟩ := P2.l; obtain ⟨k0, kf0⟩ := P2.k; have lt2 : w.heap.size + 9 ≤ w2.heap.size := Nat.le_trans hz HB2.out.size; have P2' := Lib.hid P2; clear P2)
            | (gi_at_builtin; refine wpListIn_append_own _ rfl (.tmp 29) (.tmp 31) _ rfl (w.heap.size + 9) 49 i0 (.agg #[.int .i64 0, .int .i64 0]) 2 16 Tryz.underlying39 hi0 hz0 hz1 hz2 rfl (by decide) (.slice AL n cl) n (rgC L) rfl (World.ownsRow.alloc (by have h9 := (MID.out w2 HB2.out).2.2.2.2.2.2; unfold RgNew at h9; rw [HN.out] at h9; exact h9) _) ⟨w2.heap.size + 1, 0, none⟩ 1 1 [.int .i64 p, .int .i64 q] rfl rfl (by have h9 := cells_two ((w2.alloc (.cells #[.int .i64 p, .int .i64 q] 49)).setCell ⟨w.heap.size + 3, 0, none⟩ (.bool false)) (.int .i64 p) (.int .i64 q) 49; simpa using h9) (by simp [Value.oneCell']) B63.out B48.out (by have := lt2; simp; omega) ?_; intro v3 w3 hown3 hg3 hnil3; obtain ⟨A3, c3, hv3⟩ := FORM.out _ _ hown3; subst hv3; obtain ⟨⟨l3, lf3⟩, HP3, HT3⟩ := APP.out w2 w3 _ HB2.out hown3 hg3; have HP4 := Lib.hid HP3; have HT4 := Lib.hid HT3; clear hown3 hg3 hnil3 HP3 HT3))
          have t := HT4.out
          exact ⟨(t.keep (fun k hk => by rw [z0] at hk; unfold Own3 at hk; unfold Free; omega)), t.size, _, _, _, HP4.out⟩
        · have hni : ¬ (n : Int) ≤ 4 := by omega
          have SK := Lib.hid (fun (w2 : World) (hb : Below W.heap.size W w2) => @PI.skip w W w2 pre x (.slice AL n cl) L false false p q 0 HP.out hz hb (.cells #[.int .i64 p, .int .i64 q] 49) HR.out (by decide) rfl (by rw [HN.out]; exact h4))
          have MID := Lib.hid (fun (w2 : World) (hb : Below W.heap.size W w2) => (HP.out.mid hz hb (.cells #[.int .i64 p, .int .i64 q] 49) false).1)
          gi_wp2_with (first
            | (refine ⟨trivial, ?_⟩; gi_at_call 80; refine (CallsIn.inRound l (callsIn_wide.2 TR.out)).mono ?_; rintro _ w1 ⟨rfl, hb1⟩)
            | (refine ⟨trivial, ?_⟩; gi_at_call 79; refine (CallsIn.inRound l (callsIn_wide.2 (RU.out _ (GW.out.below hb1)))).mono ?_; rintro _ w2 ⟨rfl, hb2⟩; have HB2 := Lib.hid (bnext hb1 hb2); clear hb1 hb2; have P2 := HP.out.turn ((Turns.of_below (S := fun _ => False) HB2.out).trans (Turns.alloc (fun _ => False) w2 (.cells #[.int .i64 p, .int .i64 q] 49))) (fun k h => h.elim) (by omega); obtain ⟨r0, rf0⟩ := P2.r0; obtain ⟨r1, rf1⟩ := P2.r1; obtain ⟨l0, lf0⟩ := P2.l; obtain ⟨k0, kf0⟩ := P2.k; have lt2 : w.heap.size + 9 ≤ w2.heap.size := Nat.le_trans hz HB2.out.size; have P2' := Lib.hid P2; clear P2))
          have t := MID.out w2 HB2.out
          exact ⟨(t.keep (fun k hk => by rw [z0] at hk; unfold Own3 at hk; unfold Free; omega)), t.size, _, _, _, SK.out w2 HB2.out⟩
      · by_cases h4 : n ≤ 4
        · have hni : (n : Int) ≤ 4 := by omega
          have B63 := Lib.hid (show n + 1 ≤ maxLen by simp only [maxLen]; omega)
          have B48 := Lib.hid (show (n + 1) * 16 ≤ 140737488355328 by omega)
          have MID := Lib.hid (fun (w2 : World) (hb : Below W.heap.size W w2) => HP.out.mid hz hb (.cells #[.int .i64 p, .int .i64 q] 49) true)
          have APP := Lib.hid (fun (w2 w3 : World) (v' : Value) (hb : Below W.heap.size W w2) => @PI.app w W w2 w3 pre x (.slice AL n cl) v' L true true p q 0 (.cells #[.int .i64 p, .int .i64 q] 49) (.cells #[.int .i64 p, .int .i64 q] 49) HP.out hz hb HR.out (by decide) rfl (by rw [HN.out]; exact h4))
          rw [HN.out] at APP
          have FORM := Lib.hid (show ∀ (W' : World) (v' : Value), W'.ownsRow (w.heap.size + 9) 49 2 v' (n + 1) (rgC L ++ [.int .i64 p, .int .i64 q]) → ∃ A c, v' = .slice A (n + 1) c from fun W' v' h => by
            rcases h.2 with ⟨_, h0⟩ | ⟨g', cap, cur, rfl, _⟩
            · omega
            · exact ⟨_, _, rfl⟩)
          gi_wp2_with (first
            | (refine ⟨trivial, ?_⟩; gi_at_call 80; refine (CallsIn.inRound l (callsIn_wide.2 TR.out)).mono ?_; rintro _ w1 ⟨rfl, hb1⟩)
            | (refine ⟨trivial, ?_⟩; gi_at_call 79; refine (CallsIn.inRound l (callsIn_wide.2 (RU.out _ (GW.out.below hb1)))).mono ?_; rintro _ w2 ⟨rfl, hb2⟩; have HB2 := Lib.hid (bnext hb1 hb2); clear hb1 hb2; have P2 := HP.out.turn ((Turns.of_below (S := fun _ => False) HB2.out).trans (Turns.alloc (fun _ => False) w2 (.cells #[.int .i64 p, .int .i64 q] 49))) (fun k h => h.elim) (by omega); obtain ⟨r0, rf0⟩ := P2.r0; obtain ⟨r1, rf1⟩ := P2.r1; obtain ⟨l0, lf0⟩ := P2.l; obtain ⟨k0, kf0⟩ := P2.k; have lt2 : w.heap.size + 9 ≤ w2.heap.size := Nat.le_trans hz HB2.out.size; have P2' := Lib.hid P2; clear P2)
            | (gi_at_builtin; refine wpListIn_append_own _ rfl (.tmp 29) (.tmp 31) _ rfl (w.heap.size + 9) 49 i0 (.agg #[.int .i64 0, .int .i64 0]) 2 16 Tryz.underlying39 hi0 hz0 hz1 hz2 rfl (by decide) (.slice AL n cl) n (rgC L) rfl (World.ownsRow.alloc (by have h9 := (MID.out w2 HB2.out).2.2.2.2.2.2; unfold RgNew at h9; rw [HN.out] at h9; exact h9) _) ⟨w2.heap.size + 1, 0, none⟩ 1 1 [.int .i64 p, .int .i64 q] rfl rfl (by have h9 := cells_two ((w2.alloc (.cells #[.int .i64 p, .int .i64 q] 49)).setCell ⟨w.heap.size + 3, 0, none⟩ (.bool true)) (.int .i64 p) (.int .i64 q) 49; simpa using h9) (by simp [Value.oneCell']) B63.out B48.out (by have := lt2; simp; omega) ?_; intro v3 w3 hown3 hg3 hnil3; obtain ⟨A3, c3, hv3⟩ := FORM.out _ _ hown3; subst hv3; obtain ⟨⟨l3, lf3⟩, HP3, HT3⟩ := APP.out w2 w3 _ HB2.out hown3 hg3; have HP4 := Lib.hid HP3; have HT4 := Lib.hid HT3; clear hown3 hg3 hnil3 HP3 HT3))
          have t := HT4.out
          exact ⟨(t.keep (fun k hk => by rw [z0] at hk; unfold Own3 at hk; unfold Free; omega)), t.size, _, _, _, HP4.out⟩
        · have hni : ¬ (n : Int) ≤ 4 := by omega
          have SK := Lib.hid (fun (w2 : World) (hb : Below W.heap.size W w2) => @PI.skip w W w2 pre x (.slice AL n cl) L true true p q 0 HP.out hz hb (.cells #[.int .i64 p, .int .i64 q] 49) HR.out (by decide) rfl (by rw [HN.out]; exact h4))
          have MID := Lib.hid (fun (w2 : World) (hb : Below W.heap.size W w2) => (HP.out.mid hz hb (.cells #[.int .i64 p, .int .i64 q] 49) true).1)
          gi_wp2_with (first
            | (refine ⟨trivial, ?_⟩; gi_at_call 80; refine (CallsIn.inRound l (callsIn_wide.2 TR.out)).mono ?_; rintro _ w1 ⟨rfl, hb1⟩)
            | (refine ⟨trivial, ?_⟩; gi_at_call 79; refine (CallsIn.inRound l (callsIn_wide.2 (RU.out _ (GW.out.below hb1)))).mono ?_; rintro _ w2 ⟨rfl, hb2⟩; have HB2 := Lib.hid (bnext hb1 hb2); clear hb1 hb2; have P2 := HP.out.turn ((Turns.of_below (S := fun _ => False) HB2.out).trans (Turns.alloc (fun _ => False) w2 (.cells #[.int .i64 p, .int .i64 q] 49))) (fun k h => h.elim) (by omega); obtain ⟨r0, rf0⟩ := P2.r0; obtain ⟨r1, rf1⟩ := P2.r1; obtain ⟨l0, lf0⟩ := P2.l; obtain ⟨k0, kf0⟩ := P2.k; have lt2 : w.heap.size + 9 ≤ w2.heap.size := Nat.le_trans hz HB2.out.size; have P2' := Lib.hid P2; clear P2))
          have t := MID.out w2 HB2.out
          exact ⟨(t.keep (fun k hk => by rw [z0] at hk; unfold Own3 at hk; unfold Free; omega)), t.size, _, _, _, SK.out w2 HB2.out⟩
  case done =>
    rintro W ⟨v, L, ok, hP⟩ hK
    rw [z0] at hK ⊢
    obtain ⟨f1, f2⟩ := par_end hP.sev hP.lst
    have hps : lstV (rsV (spl 44 (bs s))) = parseV (bs s) := rfl
    rw [hps] at f1 f2
    have hok := hP.ran
    generalize spl 44 (bs s) = ps at *
    obtain ⟨AL, cl, rfl, hlc⟩ := hP.row.form
    obtain ⟨q, hq⟩ : ∃ q, L.length = q := ⟨_, rfl⟩
    have TG := Lib.hid (together_c (.slice AL q cl) L (by rw [hP.lst, List.length_take]; omega) W (by rw [← hq]; exact hP.row.out))
    rw [hq] at f2 hP hlc
    obtain ⟨r0, rf0⟩ := hP.r0
    obtain ⟨r1, rf1⟩ := hP.r1
    obtain ⟨l0, -⟩ := hP.l
    obtain ⟨k0, -⟩ := hP.k
    have lt := hP.lt
    have FIN := Lib.hid (fun (X : World) (hX : Below W.heap.size W X) (v0 u : Value) (hb : Below w.heap.size w X) => last_cells (v0 := v0) (u := u) (D := w.heap.size + 7) (o := .deferred none) hb (by have := hX.size; omega) (cellb hX r0) (cellb hX r1) (by omega) ((hX.block _ (Array.getElem?_eq_some_iff.1 hK).1).trans hK))
    have LOW := Lib.hid hP.low
    have ROW := Lib.hid hP.row
    have F1 := Lib.hid f1; have F2 := Lib.hid f2
    clear f1 f2 hps hP it P0 hK hq
    cases ok
    · have hw : worstV (rsV ps) ≠ 0 := of_decide_eq_false hok.symm
      have SEV := Lib.hid (F1.out hw)
      clear hw hok F1 F2 TG
      gi_wp2
      obtain ⟨d1, d2, d3, d4, d5⟩ := FIN.out W (Below.refl _ _) (.slice none 0 0) (.int .i64 3) LOW.out
      refine ⟨by simp, .inl ⟨_, _, rfl, run_takeDeferred d1, ?_⟩⟩
      refine ⟨.tuple #[.slice none 0 0, .int .i64 3], ?_, ⟨_, by rw [SEV.out], by rw [SEV.out]; exact RgNew.nil _ _, d3⟩⟩
      simp [results, Tryz.results53, go_sem, d4, d5]
    · have hw : worstV (rsV ps) = 0 := of_decide_eq_true hok.symm
      have FF := Lib.hid (F2.out hw)
      clear hw hok F1 F2
      by_cases h4 : 4 < q
      · have SEV := Lib.hid (FF.out.trans (if_pos h4))
        have h4i : (4 : Int) < (q : Int) := by omega
        clear TG
        gi_wp2
        obtain ⟨d1, d2, d3, d4, d5⟩ := FIN.out W (Below.refl _ _) (.slice none 0 0) (.int .i64 11) LOW.out
        refine ⟨by simp, .inl ⟨_, _, rfl, run_takeDeferred d1, ?_⟩⟩
        refine ⟨.tuple #[.slice none 0 0, .int .i64 11], ?_, ⟨_, by rw [SEV.out], by rw [SEV.out]; exact RgNew.nil _ _, d3⟩⟩
        simp [results, Tryz.results53, go_sem, d4, d5]
      · have h4i : (q : Int) ≤ 4 := by omega
        cases ht : tog L
        · have SEV := Lib.hid (FF.out.trans ((if_neg h4).trans (by rw [ht]; rfl) : _ = (([] : List (Int × Int)), (1 : Int))))
          rw [ht] at TG
          clear ht h4
          gi_wp2_with (refine ⟨trivial, ?_⟩; gi_at_call 45; refine (callsIn_wide.2 TG.out).mono ?_; rintro _ w3 ⟨rfl, hb3⟩; have r0' := cellb hb3 r0; have r1' := cellb hb3 r1; have rf0' := (hb3.frozen (p := ⟨w.heap.size, 0, none⟩) (by simp only; omega)).trans rf0; have rf1' := (hb3.frozen (p := ⟨w.heap.size + 1, 0, none⟩) (by simp only; omega)).trans rf1)
          obtain ⟨d1, d2, d3, d4, d5⟩ := FIN.out w3 hb3 (.slice none 0 0) (.int .i64 1) (LOW.out.trans (hb3.mono (by omega)))
          refine ⟨by simp, .inl ⟨_, _, rfl, run_takeDeferred d1, ?_⟩⟩
          refine ⟨.tuple #[.slice none 0 0, .int .i64 1], ?_, ⟨_, by rw [SEV.out], by rw [SEV.out]; exact RgNew.nil _ _, d3⟩⟩
          simp [results, Tryz.results53, go_sem, d4, d5]
        · have SEV := Lib.hid (FF.out.trans ((if_neg h4).trans (by rw [ht]; rfl) : _ = (L, (0 : Int))))
          rw [ht] at TG
          clear ht h4
          gi_wp2_with (refine ⟨trivial, ?_⟩; gi_at_call 45; refine (callsIn_wide.2 TG.out).mono ?_; rintro _ w3 ⟨rfl, hb3⟩; have r0' := cellb hb3 r0; have r1' := cellb hb3 r1; have l0' := cellb hb3 l0; have rf0' := (hb3.frozen (p := ⟨w.heap.size, 0, none⟩) (by simp only; omega)).trans rf0; have rf1' := (hb3.frozen (p := ⟨w.heap.size + 1, 0, none⟩) (by simp only; omega)).trans rf1)
          obtain ⟨d1, d2, d3, d4, d5⟩ := FIN.out w3 hb3 (.slice AL q cl) (.int .i64 0) (LOW.out.trans (hb3.mono (by omega)))
          refine ⟨by simp, .inl ⟨_, _, rfl, run_takeDeferred d1, ?_⟩⟩
          refine ⟨.tuple #[.slice AL q cl, .int .i64 0], ?_, ⟨_, by rw [SEV.out], by rw [SEV.out]; exact ((ROW.out.below hb3).keep (fun g hg hl _ => d2.block g hl (by omega))).mono (by omega), d3⟩⟩
          simp [results, Tryz.results53, go_sem, d4, d5]
  case stop =>
    rintro c pre W ⟨rfl, hb, h0, h1, hp⟩ hK
    rw [z0] at hK ⊢
    gi_wp2
    refine ⟨by simp, .inl ⟨_, _, rfl, run_takeDeferred hK, ?_⟩⟩
    have hl := World.block_lt_of_cell? W _ h1
    simp only at hl
    have t := Turns.putObj W (w.heap.size + 7) (.deferred none)
    have d4 := t.cell h0 (by omega)
    have d5 := t.cell h1 (by omega)
    refine ⟨.tuple #[.slice none 0 0, .int .i64 7], ?_, ⟨_, by rw [hp], by rw [hp]; exact RgNew.nil _ _, t.low hb (by omega) (fun k hk => by omega)⟩⟩
    simp [results, Tryz.results53, go_sem, d4, d5]
end Go.Proofs.YtodlgbihdehmbaaGreatDoor.RP
/-
  Contracts of the program's functions of layer 12: a store of a section.
-/
set_option linter.unusedSimpArgs false
set_option linter.unusedVariables false
namespace Go.Proofs.YtodlgbihdehmbaaGreatDoor.LP
open Go.RowKit Cf Cf.KR Cf.KP
theorem RgNew.puts3 {B b : Nat} {w : World} {v : Value} {l : List (Int × Int)} (h : RgNew B w v l) (hb : b < B) (x y z : Value) : RgNew B (((w.setCell ⟨b, 0, none⟩ x).setCell ⟨b, 1, none⟩ y).setCell ⟨b, 2, none⟩ z) v l :=
  h.keep fun g hg hl _ => (Below.heap_setCell _ _ _ g (by simp only; omega)).trans ((Below.heap_setCell _ _ _ g (by simp only; omega)).trans (Below.heap_setCell _ _ _ g (by simp only; omega)))
theorem below_puts3 {B b : Nat} {a w : World} (h : Below B a w) (hB : B ≤ b) (x y z : Value) : Below B a (((w.setCell ⟨b, 0, none⟩ x).setCell ⟨b, 1, none⟩ y).setCell ⟨b, 2, none⟩ z) :=
  ((h.setCell (p := ⟨b, 0, none⟩) hB x).setCell (p := ⟨b, 1, none⟩) hB y).setCell (p := ⟨b, 2, none⟩) hB z
/-- What store answers. -/
def StAns (w : World) (nm pat : ByteArray) (R : List (Int × Int) × Int) (e : Ending) (w' : World) : Prop :=
  ∃ (a b : ByteArray) (A : Option Addr) (n c : Nat), e = .returned (.tuple #[.agg #[.string a, .string b, .slice A n c], .int .i64 R.2]) ∧ (R.2 = 0 → a = nm ∧ b = pat ∧ RgNew w.heap.size w' (.slice A n c) R.1) ∧ Below w.heap.size w w'
set_option maxRecDepth 100000 in
set_option maxHeartbeats 2000000 in
theorem store_p (nm pat : ByteArray) (v : Value) (L : List KV) (hl : L.length ≤ 100000) (hL : ∀ x ∈ L, Byt x.1 ∧ Byt x.2 ∧ x.2.length ≤ 5000) (w : World) (g : G w) (f : KvOut w v L) :
    Calls Tryz.prog 26 #[.agg #[.string nm, v], .string pat] w (StAns w nm pat (parseV ((getV L retB).getD []))) := by
  have hT : Byt ((getV L retB).getD []) ∧ ((getV L retB).getD []).length ≤ 5000 := by
    unfold getV
    cases hf : L.find? (fun p => p.1 == retB) with
    | none => exact ⟨fun c h => (by cases h), Nat.zero_le _⟩
    | some x => exact ⟨(hL x (List.mem_of_find?_eq_some hf)).2.1, (hL x (List.mem_of_find?_eq_some hf)).2.2⟩
  have GET := (fun (W : World) (h : Below w.heap.size w W) => get_p nm v L hl (fun x hx => (hL x hx).1) (str retB) W (f.below h))
  rw [bs_str (by unfold Byt retB; decide : Byt retB)] at GET
  obtain ⟨T, hTT⟩ : ∃ T, (getV L retB).getD [] = T := ⟨_, rfl⟩
  obtain ⟨gd, hgd⟩ : ∃ gd, (getV L retB).isSome = gd := ⟨_, rfl⟩
  rw [hTT, hgd] at GET
  rw [hTT] at hT ⊢
  have PRS := (fun (W : World) (h : G W) => callsIn_wide.1 (RP.parse_in (str T) (by rw [str_size]; exact hT.2) W h))
  rw [bs_str hT.1] at PRS
  obtain ⟨⟨R, E⟩, hR⟩ : ∃ R, parseV T = R := ⟨_, rfl⟩
  rw [hR] at PRS ⊢
  simp only at PRS
  obtain ⟨A, c, rfl, hc, -⟩ := f
  generalize L.length = n at *
  obtain ⟨S, hS⟩ : ∃ S, str T = S := ⟨_, rfl⟩
  rw [hS] at GET PRS
  obtain ⟨k0, k1, -, -⟩ := two_new w (.string nm) (.slice A n c) 63
  obtain ⟨wb, hwb⟩ : ∃ wb, w.alloc (.cells #[.string nm, .slice A n c] 63) = wb := ⟨_, rfl⟩
  have hbw := alloc_below w (.cells #[.string nm, .slice A n c] 63)
  have hsz : wb.heap.size = w.heap.size + 1 := by rw [← hwb]; simp
  rw [hwb] at k0 k1 hbw
  have hb2 := alloc_below wb (.cells #[.string ⟨#[]⟩, .string ⟨#[]⟩, .slice none 0 0] 47)
  have hw2s : (wb.alloc (.cells #[.string ⟨#[]⟩, .string ⟨#[]⟩, .slice none 0 0] 47)).heap.size = w.heap.size + 2 := by simp [hsz]
  have d3 : DVar (wb.alloc (.cells #[.string ⟨#[]⟩, .string ⟨#[]⟩, .slice none 0 0] 47)) wb.heap.size 3 := DVar.alloc _ _
  obtain ⟨w2, hw2⟩ : ∃ w2, wb.alloc (.cells #[.string ⟨#[]⟩, .string ⟨#[]⟩, .slice none 0 0] 47) = w2 := ⟨_, rfl⟩
  rw [hw2] at hb2 hw2s d3
  have k0 := cellb hb2 k0
  have k1 := cellb hb2 k1
  have HB := Lib.hid (bnext hbw hb2)
  have GW := Lib.hid (g.below HB.out)
  have GET2 := Lib.hid (GET w2 HB.out)
  have PRS2 := Lib.hid PRS
  have HS := Lib.hid hw2s
  have HSB := Lib.hid hsz
  have D3 := Lib.hid d3
  clear GET PRS hT hTT hgd hR hS g hbw hb2 hw2s d3 hL hl hsz
  go_enter Tryz.func26, Tryz.ntmps26
  go_wp2_with fail
  (try rw [hwb]); (try rw [hw2])
  refine GET2.out.mono ?_; rintro _ w3 ⟨rfl, hb3⟩
  have k0 := cellb hb3 k0
  have k1 := cellb hb3 k1
  go_wp2_with fail
  refine (PRS2.out w3 (GW.out.below hb3)).mono ?_; rintro _ w4 ⟨u, rfl, hu, hb4⟩
  have k0 := cellb hb4 k0
  have k1 := cellb hb4 k1
  have HB4 := Lib.hid (bnext HB.out (bnext hb3 hb4))
  have hs3 := hb3.size
  have HU := Lib.hid hu
  have D4 := D3.out.below (bnext hb3 hb4)
  obtain ⟨Au, cu, rfl, hcu⟩ := hu.form
  clear hu hcu
  generalize R.length = m at *
  have ne1 : wb.heap.size ≠ w.heap.size := by rw [HSB.out]; omega
  have lt4 : wb.heap.size < w3.heap.size := by have := HS.out; have := HSB.out; omega
  obtain ⟨x0, p0⟩ := D4.c 0 (by decide); obtain ⟨x1, p1⟩ := D4.c 1 (by decide); obtain ⟨x2, p2⟩ := D4.c 2 (by decide)
  have f0 := D4.f 0 (by decide); have f1 := D4.f 1 (by decide); have f2 := D4.f 2 (by decide)
  have PUT := Lib.hid (fun x y z => below_puts3 HB4.out (by rw [HSB.out]; omega : w.heap.size ≤ wb.heap.size) x y z)
  have RGP := Lib.hid (fun x y z => (RgNew.puts3 HU.out lt4 x y z).mono (by have := HS.out; omega : w.heap.size ≤ w3.heap.size))
  clear D4 lt4
  by_cases h0 : E = 0
  · subst h0
    go_wp2
    have q0 : ((((w4.setCell ⟨wb.heap.size, 0, none⟩ (.string nm)).setCell ⟨wb.heap.size, 1, none⟩ (.string pat)).setCell ⟨wb.heap.size, 2, none⟩ (.slice Au m cu))).cell? ⟨wb.heap.size, 0, none⟩ = some (.string nm) := by go_simp
    have q1 : ((((w4.setCell ⟨wb.heap.size, 0, none⟩ (.string nm)).setCell ⟨wb.heap.size, 1, none⟩ (.string pat)).setCell ⟨wb.heap.size, 2, none⟩ (.slice Au m cu))).cell? ⟨wb.heap.size, 1, none⟩ = some (.string pat) := by go_simp
    have q2 : ((((w4.setCell ⟨wb.heap.size, 0, none⟩ (.string nm)).setCell ⟨wb.heap.size, 1, none⟩ (.string pat)).setCell ⟨wb.heap.size, 2, none⟩ (.slice Au m cu))).cell? ⟨wb.heap.size, 2, none⟩ = some (.slice Au m cu) := by go_simp
    exact bodyPost_ret (v := .tuple #[.agg #[.string nm, .string pat, .slice Au m cu], .int .i64 0]) (by simp [results, Tryz.results26, go_sem, q0, q1, q2]) rfl ⟨nm, pat, Au, m, cu, rfl, fun _ => ⟨rfl, rfl, RGP.out _ _ _⟩, PUT.out _ _ _⟩
  · have h1 : (E == 0) = false := beq_false_of_ne h0
    go_wp2
    have q0 : ((((w4.setCell ⟨wb.heap.size, 0, none⟩ (.string ⟨#[]⟩)).setCell ⟨wb.heap.size, 1, none⟩ (.string ⟨#[]⟩)).setCell ⟨wb.heap.size, 2, none⟩ (.slice none 0 0))).cell? ⟨wb.heap.size, 0, none⟩ = some (.string ⟨#[]⟩) := by go_simp
    have q1 : ((((w4.setCell ⟨wb.heap.size, 0, none⟩ (.string ⟨#[]⟩)).setCell ⟨wb.heap.size, 1, none⟩ (.string ⟨#[]⟩)).setCell ⟨wb.heap.size, 2, none⟩ (.slice none 0 0))).cell? ⟨wb.heap.size, 1, none⟩ = some (.string ⟨#[]⟩) := by go_simp
    have q2 : ((((w4.setCell ⟨wb.heap.size, 0, none⟩ (.string ⟨#[]⟩)).setCell ⟨wb.heap.size, 1, none⟩ (.string ⟨#[]⟩)).setCell ⟨wb.heap.size, 2, none⟩ (.slice none 0 0))).cell? ⟨wb.heap.size, 2, none⟩ = some (.slice none 0 0) := by go_simp
    exact bodyPost_ret (v := .tuple #[.agg #[.string ⟨#[]⟩, .string ⟨#[]⟩, .slice none 0 0], .int .i64 E]) (by simp [results, Tryz.results26, go_sem, q0, q1, q2]) rfl ⟨_, _, _, _, _, rfl, fun h => absurd h h0, PUT.out _ _ _⟩
end Go.Proofs.YtodlgbihdehmbaaGreatDoor.LP
/-
  Contracts of the program's functions of layer 12: the stores of a configuration.
-/
set_option linter.unusedSimpArgs false
set_option linter.unusedVariables false
namespace Go.Proofs.YtodlgbihdehmbaaGreatDoor
open Cf
def SecL (M : Nat) (L : List Sec) : Prop := ∀ x ∈ L, ∀ p ∈ x.2, p.2.length ≤ M
theorem cutC_len (t : List Nat) : (cutC t).1.2.length ≤ t.length := by
  unfold cutC
  split
  · exact Nat.zero_le _
  · exact Nat.zero_le _
  · refine Nat.le_trans (blB_length _) ?_
    rw [List.length_drop]; omega
theorem step_len {M : Nat} {out : List Sec} {t : List Nat} (ho : SecL M out) (ht : t.length ≤ M) : SecL M (stepV out t).1 := by
  have h0 : SecL M [] := fun x hx => nomatch hx
  cases hh : headV t with
  | some n =>
    rw [step_head hh]
    split
    · exact h0
    · split
      · exact h0
      · intro x hx
        rcases List.mem_append.1 hx with hx | hx
        · exact ho x hx
        · obtain rfl := List.mem_singleton.1 hx
          exact fun p hp => nomatch hp
  | none =>
    rcases List.eq_nil_or_concat out with rfl | ⟨m, x, rfl⟩
    · rw [step_none hh]; exact h0
    · rw [List.concat_eq_append] at ho ⊢
      rw [step_key hh]
      split
      · exact h0
      · split
        · exact h0
        · split
          · exact h0
          · intro y hy
            rcases List.mem_append.1 hy with hy | hy
            · exact ho y (List.mem_append_left _ hy)
            · obtain rfl := List.mem_singleton.1 hy
              have hx := ho x (List.mem_append_right _ (List.mem_singleton.2 rfl))
              intro p hp
              rcases List.mem_append.1 hp with hp | hp
              · exact hx p hp
              · obtain rfl := List.mem_singleton.1 hp
                exact Nat.le_trans (cutC_len t) ht
theorem run_len {M : Nat} : ∀ (L : List (List Nat)) {out : List Sec}, SecL M out → (∀ t ∈ L, t.length ≤ M) → SecL M (runV out L).1
  | [], out, h, _ => h
  | s :: L, out, h, hL => by
    unfold runV
    split
    · exact run_len L (step_len h (hL s List.mem_cons_self)) fun t ht => hL t (List.mem_cons_of_mem _ ht)
    · exact fun x hx => nomatch hx
theorem conf_len (l : List Nat) : SecL 4096 (confV l).1 := by
  unfold confV
  split
  · exact fun x hx => nomatch hx
  · refine run_len _ (fun x hx => nomatch hx) fun t ht => ?_
    unfold linesV keepV at ht
    obtain ⟨h1, _⟩ := List.mem_filter.1 ht
    obtain ⟨p, hp, rfl⟩ := List.mem_map.1 h1
    have h2 := spl_part_length 10 l p hp
    have h3 := lnV_length p
    omega
theorem conf_byt {l : List Nat} (h : Byt l) : SecB (confV l).1 := by
  unfold confV
  split
  · exact fun x hx => nomatch hx
  · exact run_byt _ (fun x hx => nomatch hx) (lines_byt h)
/-- What is asked of a section of a configuration, all at once. -/
structure SecOk (x : Sec) : Prop where
  nm : Byt x.1
  few : x.2.length ≤ 16
  kv : ∀ p ∈ x.2, Byt p.1 ∧ Byt p.2 ∧ p.2.length ≤ 5000
theorem conf_ok {l : List Nat} (h : Byt l) : ∀ x ∈ (confV l).1, SecOk x := fun x hx => by
  have h1 := conf_byt h x hx
  have h2 := conf_len l x hx
  have h3 := (conf_few l).keys x hx
  exact ⟨h1.1, h3, fun p hp => ⟨(h1.2 p hp).1, (h1.2 p hp).2, Nat.le_trans (h2 p hp) (by decide)⟩⟩
theorem SecOk.val {x : Sec} (h : SecOk x) (k : List Nat) : Byt ((getV x.2 k).getD []) ∧ ((getV x.2 k).getD []).length ≤ 5000 := by
  unfold getV
  cases hf : x.2.find? (fun p => p.1 == k) with
  | none => exact ⟨fun c h => (by cases h), Nat.zero_le _⟩
  | some y => exact ⟨(h.kv y (List.mem_of_find?_eq_some hf)).2.1, (h.kv y (List.mem_of_find?_eq_some hf)).2.2⟩
namespace LP
open Go.RowKit Cf.KR Cf.KP
theorem stoV_no {x : Sec} (h : keysV [patB, retB] [] x.2 = false) : stoV x = (Sto.none, 7) := by
  unfold stoV
  refine if_neg fun ⟨h1, h2, h3⟩ => ?_
  have : keysV [patB, retB] [] x.2 = true := by
    unfold keysV
    rw [Bool.and_eq_true]
    refine ⟨by simp [h1, h2], ?_⟩
    unfold onlyV at h3
    rw [List.all_eq_true] at h3 ⊢
    intro p hp
    have := h3 p hp
    rw [List.any_eq_true] at this
    obtain ⟨k, hk, e⟩ := this
    rw [Bool.or_eq_true, List.any_eq_true]
    exact .inl ⟨k, hk, by rw [beq_iff_eq] at e ⊢; exact e.symm⟩
  rw [h] at this; cases this
theorem stoV_yes {x : Sec} (h : keysV [patB, retB] [] x.2 = true) : stoV x = if (Nd.ndComp ((getV x.2 patB).getD [])).2 ≠ 0 then (Sto.none, (Nd.ndComp ((getV x.2 patB).getD [])).2)
    else if (parseV ((getV x.2 retB).getD [])).2 ≠ 0 then (Sto.none, (parseV ((getV x.2 retB).getD [])).2)
    else ((x.1, (getV x.2 patB).getD [], (parseV ((getV x.2 retB).getD [])).1), 0) := by
  unfold stoV
  refine if_pos ?_
  unfold keysV at h
  rw [Bool.and_eq_true] at h
  obtain ⟨h1, h2⟩ := h
  simp only [List.all_cons, List.all_nil, Bool.and_true, Bool.and_eq_true] at h1
  refine ⟨h1.1, h1.2, ?_⟩
  unfold onlyV
  rw [List.all_eq_true] at h2 ⊢
  intro p hp
  have := h2 p hp
  rw [Bool.or_eq_true] at this
  rcases this with e | e
  · rw [List.any_eq_true] at e ⊢
    obtain ⟨k, hk, e⟩ := e
    exact ⟨k, hk, by rw [beq_iff_eq] at e ⊢; exact e.symm⟩
  · simp at e
/-- The stores so far. -/
def stsV (L : List Sec) : List Sto := L.map fun x => (stoV x).1
theorem stores_err {l : List Nat} {k : Nat} {x : Sec} (hc : (confV l).2 = 0) (hk : (confV l).1[k]? = some x) (h : ∀ y ∈ (confV l).1.take k, (stoV y).2 = 0) (hx : (stoV x).2 ≠ 0) : storesV l = ([], (stoV x).2) := by
  unfold storesV
  rw [if_neg (fun e => e hc)]
  exact rulV_take stoV _ k x hk h hx
theorem stores_ok {l : List Nat} (hc : (confV l).2 = 0) (h : ∀ y ∈ (confV l).1, (stoV y).2 = 0) : storesV l = (stsV (confV l).1, 0) := by
  unfold storesV
  rw [if_neg (fun e => e hc)]
  exact rulV_all stoV _ h
theorem eg_store : ∀ args w, (callFunc 26 args).run Tryz.prog w = .ok (.enter 26 args) w := enters_of Tryz.func26 (by kernel_rfl) rfl
end LP
end Go.Proofs.YtodlgbihdehmbaaGreatDoor
/-
  Contracts of the program's functions of layer 12: the stores of a configuration, read.
-/
set_option linter.unusedSimpArgs false
set_option linter.unusedVariables false
namespace Go.Proofs.YtodlgbihdehmbaaGreatDoor.LP
open Go.RowKit Cf Cf.KR Cf.KP
theorem ret_vi {v : Value} {a b : Int} (h : a = b) : Ending.returned (.tuple #[v, .int .i64 a]) = .returned (.tuple #[v, .int .i64 b]) := by rw [h]
set_option maxRecDepth 100000 in
set_option maxHeartbeats 4000000 in
theorem readS_p (s : ByteArray) (w : World) (vm : Value) (g : G w) (fm : TxOut w vm [patB, retB]) :
    Calls Tryz.prog 25 #[.string s, vm, .slice none 0 0, .func (.func 26) #[] #[]] w fun e w' => ∃ v, e = .returned (.tuple #[v, .int .i64 (storesV (bs s)).2]) ∧ StOut w' v (storesV (bs s)).1 ∧ Below w.heap.size w w' := by
  have eg := eg_store
  have PC := parse_p s w
  have OKS := conf_ok (l := bs s) (bs_small s)
  have SE := fun (k : Nat) (x : Sec) => @stores_err (bs s) k x
  have SO := @stores_ok (bs s)
  have SZ : (confV (bs s)).2 ≠ 0 → storesV (bs s) = ([], (confV (bs s)).2) := fun h => by unfold storesV; rw [if_pos h]
  have FEW := (conf_few (bs s)).secs
  obtain ⟨⟨L, E⟩, hC⟩ : ∃ C, confV (bs s) = C := ⟨_, rfl⟩
  rw [hC] at PC OKS SE SO SZ FEW
  obtain ⟨⟨D, Z⟩, hD⟩ : ∃ D, storesV (bs s) = D := ⟨_, rfl⟩
  rw [hD] at SE SO SZ ⊢
  simp only at PC OKS SE SO SZ FEW ⊢
  clear hC hD
  obtain ⟨n, hn⟩ : ∃ n, L.length = n := ⟨_, rfl⟩
  rw [hn] at FEW
  obtain ⟨Am, cm, rfl, hcm, hxm⟩ := id fm
  have FM := Lib.hid fm
  simp only [List.length_cons, List.length_nil, Nat.zero_add, Nat.reduceAdd] at FM ⊢
  obtain ⟨i0, hi0, hz0, hz1, hz2⟩ := info_parts store_info
  have PCC := Lib.hid PC; have HOK := Lib.hid OKS; have HSE := Lib.hid SE; have HSO := Lib.hid SO; have HSZ := Lib.hid SZ; have HN := Lib.hid hn; have GG := Lib.hid g
  clear PC OKS SE SO SZ hn g fm hcm hxm
  go_enter Tryz.func25, Tryz.ntmps25
  go_wp2_with fail
  refine PCC.out.mono ?_; rintro _ w1 ⟨v, rfl, hv, hb1⟩
  obtain ⟨AL, cL, rfl, hcL, hxL⟩ := id hv
  have HV := Lib.hid hv; have HXL := Lib.hid hxL; have HB1 := Lib.hid hb1
  rw [HN.out] at hcL HV ⊢
  clear hv hxL hb1 PCC
  by_cases h0 : E = 0
  · subst h0
    clear HSZ
    go_wp2
    go_loopw [31, 12] (fun i o wr => ∃ k : Nat, i = .int .i64 (k : Nat) ∧ k ≤ n ∧ ((∀ y ∈ L.take k, (stoV y).2 = 0) ∧ StNew w1.heap.size wr o (stsV (L.take k)) ∧ Below w1.heap.size w1 wr)) (fun i _ _ => n - (intOf i).toNat)
    case atStart => exact ⟨0, rfl, Nat.zero_le _, fun y hy => (by simp at hy), StNew.nil _ _, Below.refl _ _⟩
    case round =>
      obtain ⟨k, rfl, hk, hz, hst, hbw⟩ := hrel
      have hlen : (stsV (L.take k)).length = k := by unfold stsV; rw [List.length_map, List.length_take, HN.out]; omega
      obtain ⟨AO, cO, rfl, hcO, hown⟩ := hst.form
      rw [hlen] at hcO hst hown ⊢
      have HZ := Lib.hid hz; have HST := Lib.hid hst; have HBW := Lib.hid hbw; have HOW := Lib.hid hown; have HLEN := Lib.hid hlen
      have HW := Lib.hid (bnext HB1.out hbw)
      clear hz hst hown hlen
      by_cases hlt : k < n
      · have hkl : k < L.length := by rw [HN.out]; exact hlt
        obtain ⟨bb, rfl, ha⟩ := HXL.out (by intro e; rw [e] at hkl; exact absurd hkl (Nat.not_lt_zero _))
        have hp := List.getElem?_eq_getElem hkl
        obtain ⟨⟨nm, kv⟩, hxx⟩ : ∃ x, L[k] = x := ⟨_, rfl⟩
        rw [hxx] at hp
        obtain ⟨u, c0, c1, hkv⟩ := (ha.below hbw) k (nm, kv) hp
        have OK := HOK.out (nm, kv) (List.mem_of_getElem? hp)
        have few := OK.few
        simp only at few c0 hkv
        have HP := Lib.hid hp
        have KEYS := fun (W : World) (h : Below wr.heap.size wr W) => keys_p (str nm) u (.slice Am 2 cm) (.slice none 0 0) kv [patB, retB] [] (by omega) (fun x hx => (OK.kv x hx).1) (by decide) (by decide) (by unfold Byt patB retB; decide) (fun m hm => nomatch hm) W (hkv.below h) (FM.out.below (bnext HW.out h)) ⟨none, 0, rfl, Nat.le_refl _, fun h => absurd rfl h⟩
        have GET := fun (W : World) (h : Below wr.heap.size wr W) => get_p (str nm) u kv (by omega) (fun x hx => (OK.kv x hx).1) (str patB) W (hkv.below h)
        rw [bs_str (by unfold Byt patB; decide : Byt patB)] at GET
        have COMP := fun (W : World) => Nd.NP.compile_c (str ((getV kv patB).getD [])) (by rw [str_size]; have := (OK.val patB).2; simp only at this; omega) W
        rw [bs_str (OK.val patB).1] at COMP
        have STO := fun (W : World) (h : Below wr.heap.size wr W) => store_p (str nm) (str ((getV kv patB).getD [])) u kv (by omega) OK.kv W (GG.out.below (bnext HW.out h)) (hkv.below h)
        have SNO := @stoV_no (nm, kv)
        have SYES := @stoV_yes (nm, kv)
        have BYT : Byt nm ∧ Byt ((getV kv patB).getD []) := ⟨OK.nm, (OK.val patB).1⟩
        simp only at SNO SYES
        obtain ⟨A1, c1', rfl, -, -⟩ := id hkv
        generalize kv.length = m at *
        obtain ⟨pt, hpt⟩ : ∃ pt, (getV kv patB).getD [] = pt := ⟨_, rfl⟩
        obtain ⟨PT, hPT⟩ : ∃ PT, str pt = PT := ⟨_, rfl⟩
        obtain ⟨NM, hNM⟩ : ∃ NM, str nm = NM := ⟨_, rfl⟩
        obtain ⟨⟨R, E2⟩, hR⟩ : ∃ R, parseV ((getV kv retB).getD []) = R := ⟨_, rfl⟩
        obtain ⟨kd, hkd⟩ : ∃ kd, keysV [patB, retB] [] kv = kd := ⟨_, rfl⟩
        obtain ⟨gd, hgd⟩ : ∃ gd, (getV kv patB).isSome = gd := ⟨_, rfl⟩
        rw [hpt] at GET COMP STO SYES BYT
        obtain ⟨E1, hE1⟩ : ∃ E1, (Nd.ndComp pt).2 = E1 := ⟨_, rfl⟩
        rw [hE1] at COMP SYES
        rw [hR] at STO SYES
        rw [hkd] at KEYS SNO SYES
        rw [hgd] at GET
        rw [hPT] at GET COMP STO
        rw [hNM] at KEYS GET STO c0
        have K2 := Lib.hid KEYS; have G2 := Lib.hid GET; have C2 := Lib.hid COMP; have S2 := Lib.hid STO; have N2 := Lib.hid SNO; have Y2 := Lib.hid SYES; have B2 := Lib.hid BYT
        have HPT := Lib.hid hPT; have HNM := Lib.hid hNM
        clear KEYS GET COMP STO SNO SYES BYT hPT hNM hpt hR hkd hgd hE1 hp hxx ha hkl hkv few OK
        have ERR := Lib.hid (fun (e : Int) (h : stoV (nm, kv) = (Sto.none, e)) (he : e ≠ 0) => (show D = [] ∧ Z = e from by
          have := HSE.out k (nm, kv) trivial HP.out HZ.out (by rw [h]; exact he)
          rw [h] at this
          exact ⟨congrArg Prod.fst this, congrArg Prod.snd this⟩))
        have BOX := Lib.hid (alloc_below wr (.cells #[.string NM, .slice A1 m c1'] 63))
        cases kd
        · have F := Lib.hid (ERR.out 7 (N2.out rfl) (by decide))
          clear HSE HSO HOK N2 Y2 ERR G2 C2 S2 HST HZ
          go_wp2_with (go_at_call 50; refine (K2.out _ BOX.out).mono ?_; rintro _ w2 ⟨rfl, hb2⟩)
          go_ret2
          exact ⟨_, ret_vi F.out.2.symm, by rw [F.out.1]; exact StOut.nil _, bnext (bnext HW.out BOX.out) hb2⟩
        · have Y3 := Lib.hid (Y2.out rfl)
          clear Y2 N2
          by_cases h1 : E1 = 0
          · subst h1
            by_cases h2 : E2 = 0
            · subst h2
              have HV2 := Lib.hid (show stoV (nm, kv) = ((nm, pt, R), 0) from Y3.out.trans ((if_neg (fun h => h rfl)).trans (if_neg (fun h => h rfl))))
              have NEXT := Lib.hid (show (∀ y ∈ L.take (k + 1), (stoV y).2 = 0) ∧ stsV (L.take (k + 1)) = stsV (L.take k) ++ [(nm, pt, R)] from by
                rw [List.take_add_one, HP.out]
                simp only [Option.toList_some]
                refine ⟨fun y hy => ?_, ?_⟩
                · rcases List.mem_append.1 hy with hy | hy
                  · exact HZ.out y hy
                  · rw [List.mem_singleton.1 hy, HV2.out]
                · unfold stsV
                  rw [List.map_append, List.map_cons, List.map_nil, HV2.out])
              have PUSH := Lib.hid (fun (W1 : World) (N : Nat) (A4 : Option Addr) (n4 c4 : Nat) (h : Below wr.heap.size wr W1) (hN : wr.heap.size ≤ N) (hu : RgNew N W1 (.slice A4 n4 c4) R) =>
                (show ∃ xs, W1.ownsRow w1.heap.size 47 3 (.slice AO k cO) k xs ∧ ∀ (g cap : Nat) (w2 : World), w2.ownsRow w1.heap.size 47 3 (.slice (some ⟨g, 0, none⟩) (k + 1) cap) (k + 1) (xs ++ [.string NM, .string PT, .slice A4 n4 c4]) → W1.grownBy w2 (Value.ownBlock (.slice AO k cO)) → (Value.ownBlock (.slice AO k cO) = some g ∨ g = W1.heap.size) → StNew w1.heap.size w2 (.slice (some ⟨g, 0, none⟩) (k + 1) cap) (stsV (L.take (k + 1))) ∧ Below w1.heap.size w1 w2 from by
                  have hz := StNew.push (w1 := W1) (w2 := W1) (u := .slice A4 n4 c4) (s := (nm, pt, R)) HST.out h B2.out (hu.far fun g hg => Nat.lt_of_lt_of_le (HOW.out g hg).2 hN)
                  rw [HLEN.out] at hz
                  obtain ⟨xs, hr, hf⟩ := hz
                  refine ⟨xs, hr, fun g cap w2 ho hg hat => ⟨?_, ?_⟩⟩
                  · rw [NEXT.out.2]
                    exact hf g cap w2 (by rw [HNM.out, HPT.out]; exact ho) hg (hat.imp id fun e => Nat.le_of_eq e.symm)
                  · exact (HBW.out.trans (h.mono HBW.out.size)).grown hg (Nat.le_trans HBW.out.size h.size) (fun j ej => (HOW.out j ej).1)))
              clear HSE HSO HOK Y3 ERR HST HZ
              go_wp2_with (first
                | (go_at_call 50; refine (K2.out _ BOX.out).mono ?_; rintro _ w2 ⟨rfl, hb2⟩; have BB2 := Lib.hid (bnext BOX.out hb2); have v0 := cellb hb2 (two_new wr (.string NM) (.slice A1 m c1') 63).1; have v1 := cellb hb2 (two_new wr (.string NM) (.slice A1 m c1') 63).2.1)
                | (go_at_call 51; refine (G2.out _ BB2.out).mono ?_; rintro _ w3 ⟨rfl, hb3⟩; have BB3 := Lib.hid (bnext BB2.out hb3); have v0 := cellb hb3 v0; have v1 := cellb hb3 v1)
                | (go_at_call 52; refine (C2.out _).mono ?_; rintro _ w4 ⟨nv, rfl, hnv, -, -, hb4⟩; obtain ⟨s1, f1, A5, n5, c5, rfl⟩ := needle_form hnv; clear hnv; have BB4 := Lib.hid (bnext (bnext BB3.out hb4) (alloc_below _ (.cells #[.bool s1, .bool f1, .slice A5 n5 c5] 67))); have v0 := cellb (bnext hb4 (alloc_below w4 (.cells #[.bool s1, .bool f1, .slice A5 n5 c5] 67))) v0; have v1 := cellb (bnext hb4 (alloc_below w4 (.cells #[.bool s1, .bool f1, .slice A5 n5 c5] 67))) v1)
                | (go_at_fn 26; refine (S2.out _ BB4.out).mono ?_; rintro _ w5 ⟨a5, b5, A6, n6, c6, rfl, hs5, hb5⟩; obtain ⟨rfl, rfl, hR5⟩ := hs5 rfl; have BD := Lib.hid (bnext (alloc_below w5 (.cells #[.string a5, .string b5, .slice A6 n6 c6] 47)) (alloc_below (w5.alloc (.cells #[.string a5, .string b5, .slice A6 n6 c6] 47)) (.cells #[.string a5, .string b5, .slice A6 n6 c6] 47))); have PU := Lib.hid (PUSH.out ((w5.alloc (.cells #[.string a5, .string b5, .slice A6 n6 c6] 47)).alloc (.cells #[.string a5, .string b5, .slice A6 n6 c6] 47)) _ A6 n6 c6 (bnext (bnext BB4.out hb5) BD.out) BB4.out.size (hR5.below BD.out)); have NEWS := Lib.hid (row_newsd (w5.alloc (.cells #[.string a5, .string b5, .slice A6 n6 c6] 47)) [.string a5, .string b5, .slice A6 n6 c6] 47 (w5.heap.size + 1) (by simp)); have HBS := Lib.hid (Nat.le_trans HBW.out.size (bnext (bnext BB4.out hb5) BD.out).size); clear hs5 hR5)
                | (at_builtin; obtain ⟨xs, hrow, hfin⟩ := PU.out; refine wpList_append_lies _ rfl (.tmp 63) (.tmp 65) _ rfl w1.heap.size 47 i0 (.agg #[.string ⟨#[]⟩, .string ⟨#[]⟩, .slice none 0 0]) 3 56 Tryz.underlying23 hi0 hz0 hz1 hz2 rfl (by decide) (.slice AO k cO) k xs rfl hrow ⟨w5.heap.size + 1, 0, none⟩ 1 1 [.string a5, .string b5, .slice A6 n6 c6] rfl rfl NEWS.out (by simp [Value.oneCell']) (by decide) (by simp only [maxLen]; omega) (by omega) HBS.out _ rfl ?_; intro g9 cap9 w9 hown9 hg9 hat9 hlt9; have FN := Lib.hid (hfin g9 cap9 w9 hown9 hg9 hat9); clear hown9 hg9 hat9 hlt9 hfin hrow))
              go_roundw
              case rel => exact ⟨k + 1, by go_num, by omega, NEXT.out.1, FN.out.1, FN.out.2⟩
              case measure => simp [intOf]; omega
            · have F := Lib.hid (ERR.out E2 (Y3.out.trans ((if_neg (by decide)).trans (if_pos h2))) h2)
              have h3 : (E2 != 0) = true := by simpa using h2
              clear HSE HSO HOK Y3 ERR HST HZ
              go_wp2_with (first
                | (go_at_call 50; refine (K2.out _ BOX.out).mono ?_; rintro _ w2 ⟨rfl, hb2⟩; have BB2 := Lib.hid (bnext BOX.out hb2); have v0 := cellb hb2 (two_new wr (.string NM) (.slice A1 m c1') 63).1; have v1 := cellb hb2 (two_new wr (.string NM) (.slice A1 m c1') 63).2.1)
                | (go_at_call 51; refine (G2.out _ BB2.out).mono ?_; rintro _ w3 ⟨rfl, hb3⟩; have BB3 := Lib.hid (bnext BB2.out hb3); have v0 := cellb hb3 v0; have v1 := cellb hb3 v1)
                | (go_at_call 52; refine (C2.out _).mono ?_; rintro _ w4 ⟨nv, rfl, hnv, -, -, hb4⟩; obtain ⟨s1, f1, A5, n5, c5, rfl⟩ := needle_form hnv; clear hnv; have BB4 := Lib.hid (bnext (bnext BB3.out hb4) (alloc_below _ (.cells #[.bool s1, .bool f1, .slice A5 n5 c5] 67))); have v0 := cellb (bnext hb4 (alloc_below w4 (.cells #[.bool s1, .bool f1, .slice A5 n5 c5] 67))) v0; have v1 := cellb (bnext hb4 (alloc_below w4 (.cells #[.bool s1, .bool f1, .slice A5 n5 c5] 67))) v1)
                | (go_at_fn 26; refine (S2.out _ BB4.out).mono ?_; rintro _ w5 ⟨a5, b5, A6, n6, c6, rfl, -, hb5⟩))
              go_ret2
              exact ⟨_, ret_vi F.out.2.symm, by rw [F.out.1]; exact StOut.nil _, bnext (bnext HW.out (bnext BB4.out hb5)) (alloc_below _ _)⟩
          · have F := Lib.hid (ERR.out E1 (Y3.out.trans (if_pos h1)) h1)
            have h3 : (E1 != 0) = true := by simpa using h1
            clear HSE HSO HOK Y3 ERR HST HZ S2
            go_wp2_with (first
              | (go_at_call 50; refine (K2.out _ BOX.out).mono ?_; rintro _ w2 ⟨rfl, hb2⟩; have BB2 := Lib.hid (bnext BOX.out hb2); have v0 := cellb hb2 (two_new wr (.string NM) (.slice A1 m c1') 63).1; have v1 := cellb hb2 (two_new wr (.string NM) (.slice A1 m c1') 63).2.1)
              | (go_at_call 51; refine (G2.out _ BB2.out).mono ?_; rintro _ w3 ⟨rfl, hb3⟩; have BB3 := Lib.hid (bnext BB2.out hb3); have v0 := cellb hb3 v0; have v1 := cellb hb3 v1)
              | (go_at_call 52; refine (C2.out _).mono ?_; rintro _ w4 ⟨nv, rfl, hnv, -, -, hb4⟩; obtain ⟨s1, f1, A5, n5, c5, rfl⟩ := needle_form hnv; clear hnv))
            go_ret2
            exact ⟨_, ret_vi F.out.2.symm, by rw [F.out.1]; exact StOut.nil _, bnext (bnext HW.out (bnext BB3.out hb4)) (alloc_below _ _)⟩
      · obtain rfl : n = k := by omega
        have HE := Lib.hid (HSO.out trivial (by rw [← HN.out, List.take_length] at HZ; exact HZ.out))
        have HS2 := Lib.hid (show StNew w1.heap.size wr (.slice AO n cO) D from by
          have h := HST.out
          rw [← HN.out, List.take_length] at h
          rw [HN.out, show stsV L = D from (congrArg Prod.fst HE.out).symm] at h
          exact h)
        have e2 := congrArg Prod.snd HE.out
        simp only at e2
        have E2 := Lib.hid e2
        clear HSE HSO HOK HZ HST HE e2
        go_wp2
        go_ret2
        exact ⟨_, ret_vi E2.out.symm, HS2.out.out, HW.out⟩
  · have h1 : (E != 0) = true := by simpa using h0
    have SEV := Lib.hid (HSZ.out h0)
    clear HSO HSE HSZ
    go_wp2
    go_ret2
    injection SEV.out with e1 e2
    exact ⟨_, ret_vi e2.symm, by rw [e1]; exact StOut.nil _, HB1.out⟩
end Go.Proofs.YtodlgbihdehmbaaGreatDoor.LP
