/-
  The library's Insert of one name into a row of names that the call owns.
-/
import Derived.Test.YtmkjjcogheidmaaDskPN
set_option linter.unusedSimpArgs false
set_option linter.unusedVariables false
namespace Go.Proofs.Ytmkjjcogheidmaa.DP
open Go.RowKit
/-- What an insert leaves. -/
def Inserted (base j : Nat) (xs : List Value) (w : World) (v : Value) (e : Ending) (w' : World) : Prop := ∃ v', e = .returned v' ∧ w'.ownsRow base 79 2 v' j xs ∧ w.grownBy w' v.ownBlock ∧ Lies w v v'
theorem lit_cells {w : World} {vb : Nat} {nm : ByteArray} {id : Int} (hlit : w.heap[vb]? = some (.cells #[.string nm, .int .i64 id] 79 (0, 0))) : ∀ j u, [Value.string nm, .int .i64 id][j]? = some u → w.cell? ((⟨vb, 0, none⟩ : Addr).add j) = some u := cells_of_row hlit 0 (by rfl)
set_option maxRecDepth 100000 in
set_option maxHeartbeats 4000000 in
theorem insertEnd_c {base n : Nat} {xs : List Value} {v : Value} {w : World} {vb : Nat} {nm : ByteArray} {id : Int} (hown : w.ownsRow base 79 2 v n xs)
    (hlit : w.heap[vb]? = some (.cells #[.string nm, .int .i64 id] 79 (0, 0))) (hn : n ≤ 1000000) (hb : base ≤ w.heap.size) :
    Calls Try.prog 49 #[v, .int .i64 (n : Nat), .slice (some ⟨vb, 0, none⟩) 1 1] w (Inserted base (n + 1) (xs ++ [.string nm, .int .i64 id]) w v) := by
  obtain ⟨i0, hi0, hz0, hz1, hz2⟩ := info_parts (P := Try.prog) (e := 79) (z := .agg #[.string ByteArray.empty, .int .i64 0]) (size := 2) (bytes := 24) (by kernel_rfl)
  obtain ⟨v', w', hr, ho, hg, _, hat⟩ := run_append_own_at (P := Try.prog) w base 26 26 79 i0 _ 2 24 Try.underlying26 hi0 hz0 hz1 hz2 rfl (by decide) v n xs hown ⟨vb, 0, none⟩ 1 1 [.string nm, .int .i64 id] rfl (lit_cells hlit) (by intro u hu; simp at hu; rcases hu with rfl | rfl <;> rfl) (by simp only [maxLen]; omega) (by omega) hb
  have HR : Hid (Inserted base (n + 1) (xs ++ [.string nm, .int .i64 id]) w v (.returned v') w') := ⟨v', rfl, ho, hg, hat.imp (fun h => h) fun h => ⟨_, h, Nat.le_refl _⟩⟩
  clear ho hg hat hz0 hz1 hz2 hi0 hlit
  rcases hown.2 with ⟨rfl, rfl⟩ | ⟨g, cap, cur, rfl, hbg, _, hnc, hcm, _, _⟩
  · clear hown
    go_enter Try.func49, Try.ntmps49
    go_wp2_with (at_builtin; refine wpList_append_eq rfl (.tmp 23) (.tmp 24) 26 26 rfl _ _ rfl rfl hr ?_)
    go_ret
    exact HR.out
  · clear hown
    unfold maxLen at hcm
    go_enter Try.func49, Try.ntmps49
    go_wp2_with (at_builtin; refine wpList_append_eq rfl (.tmp 23) (.tmp 24) 26 26 rfl _ _ rfl rfl hr ?_)
    all_goals (go_ret; exact HR.out)
set_option maxRecDepth 100000 in
set_option maxHeartbeats 4000000 in
theorem insertRoom_c {base n i cap g : Nat} {xs : List Value} {w : World} {vb : Nat} {nm : ByteArray} {id : Int} (hown : w.ownsRow base 79 2 (.slice (some ⟨g, 0, none⟩) n cap) n xs) (h1 : ∀ u ∈ xs, u.oneCell' = true)
    (hlit : w.heap[vb]? = some (.cells #[.string nm, .int .i64 id] 79 (0, 0))) (hvb : vb ≠ g) (hroom : n + 1 ≤ cap) (hi : i < n) (hn : n ≤ 1000000) :
    Calls Try.prog 49 #[.slice (some ⟨g, 0, none⟩) n cap, .int .i64 (i : Nat), .slice (some ⟨vb, 0, none⟩) 1 1] w (Inserted base (n + 1) (xs.take (i * 2) ++ ([.string nm, .int .i64 id] ++ xs.drop (i * 2))) w (.slice (some ⟨g, 0, none⟩) n cap)) := by
  rcases hown.2 with ⟨h, _⟩ | ⟨g', cap', cur, h, hbg, hg, hnc, hcm, hcs, htake⟩
  · simp at h
  simp only [Value.slice.injEq, Option.some.injEq, Addr.mk.injEq, and_true, true_and] at h
  obtain ⟨rfl, rfl⟩ := h
  have hxl := hown.1
  have hcl : cur.toList.length = cap * 2 := by rw [Array.length_toList, hcs]
  obtain ⟨i0, hi0, hz0, hz1, hz2⟩ := info_parts (P := Try.prog) (e := 79) (z := .agg #[.string ByteArray.empty, .int .i64 0]) (size := 2) (bytes := 24) (by kernel_rfl)
  have hsz : (Try.prog.info? 79).map (·.size) = some 2 := by rw [hi0]; simp [hz1]
  have hov : ∀ lb cb, (callFunc 58 #[.slice (some ⟨vb, 0, none⟩) 1 1, .slice (some ⟨g, (i + 1) * 2, none⟩) lb cb]).run Try.prog w = .ok (.value (.bool false)) w := fun lb cb => by
    rw [run_callFunc_extern Try.func58 (by kernel_rfl) (by kernel_rfl) (by kernel_rfl) (e := Extern.SlicesOverlaps.overlaps #[26, 26] #[4]) (by kernel_rfl),
      Lib.run_overlaps_apart w 26 4 79 Try.underlying26 2 Try.sizeOf79 ⟨vb, 0, none⟩ ⟨g, (i + 1) * 2, none⟩ 1 1 lb cb hvb 79 79 2 cur.size (by simp [World.shape?, hlit]) (by simp [World.shape?, hg]) (by rw [hcs]; omega) (frozen_of_row _ _ _ _ _ hlit) (frozen_of_row _ _ _ _ _ hlit)]
    rfl
  obtain ⟨cs, hcseq⟩ : ∃ cs, cs = xs.drop (i * 2) := ⟨_, rfl⟩
  have hcsl : cs.length = (n - i) * 2 := by rw [hcseq, List.length_drop, hxl]; omega
  obtain ⟨cur1, hc1⟩ : ∃ cur1 : Array Value, cur1 = (cur.toList.take ((i + 1) * 2) ++ cs ++ cur.toList.drop ((i + 1) * 2 + cs.length)).toArray := ⟨_, rfl⟩
  have hc1l : cur1.toList.length = cap * 2 := by rw [hc1]; simp only [List.length_append, List.length_take, List.length_drop, hcl, hcsl]; omega
  obtain ⟨W1, hW1⟩ : ∃ W1, W1 = w.drew.setRow g cur1 := ⟨_, rfl⟩
  have hg1 : W1.heap[g]? = some (.cells cur1 79 (0, 0)) := by rw [hW1]; exact setRow_heap w.drew g cur _ 79 _ hg
  have hl1 : W1.heap[vb]? = some (.cells #[.string nm, .int .i64 id] 79 (0, 0)) := by rw [hW1]; exact (setRow_other w.drew g vb cur1 hvb).trans hlit
  have hcp1 : ∀ ty dc sc, (Builtin.copy_ #[26, 26] ty #[.slice (some ⟨g, (i + 1) * 2, none⟩) (n + 1 - (i + 1)) dc, .slice (some ⟨g, i * 2, none⟩) (n + 1 - i) sc]).run Try.prog w.drew = .ok (goInt (Nat.min (n + 1 - i) (n + 1 - (i + 1)) : Nat)) W1 := fun ty dc sc => by
    rw [hW1, hc1]
    exact run_copyK w.drew 26 26 ty 79 2 g ((i + 1) * 2) _ dc ⟨g, i * 2, none⟩ _ sc cur 79 cs Try.underlying26 hsz hg (by rw [hcsl, show Nat.min (n + 1 - i) (n + 1 - (i + 1)) = n - i from by simp only [Nat.min_def]; split <;> omega])
      (cells_of_row hg (i * 2) (by rw [hcseq, ← htake, List.drop_take, List.length_take, List.length_drop, hcl]; congr 1; omega)) (by rw [hcsl, hcs]; omega) (fun u hu => h1 u (by rw [hcseq] at hu; exact List.mem_of_mem_drop hu))
  obtain ⟨cur2, hc2⟩ : ∃ cur2 : Array Value, cur2 = (cur1.toList.take (i * 2) ++ ([.string nm, .int .i64 id] : List Value) ++ cur1.toList.drop (i * 2 + 2)).toArray := ⟨_, rfl⟩
  obtain ⟨W2, hW2⟩ : ∃ W2, W2 = W1.setRow g cur2 := ⟨_, rfl⟩
  have hcp2 : ∀ ty dc, (Builtin.copy_ #[26, 26] ty #[.slice (some ⟨g, i * 2, none⟩) (n + 1 - i) dc, .slice (some ⟨vb, 0, none⟩) 1 1]).run Try.prog W1 = .ok (goInt (Nat.min 1 (n + 1 - i) : Nat)) W2 := fun ty dc => by
    rw [hW2, hc2]
    exact run_copyK W1 26 26 ty 79 2 g (i * 2) _ dc ⟨vb, 0, none⟩ 1 1 cur1 79 [.string nm, .int .i64 id] Try.underlying26 hsz hg1 (by rw [show Nat.min 1 (n + 1 - i) = 1 from by simp only [Nat.min_def]; split <;> omega]; rfl)
      (lit_cells hl1) (by rw [← Array.length_toList, hc1l]; show i * 2 + 2 ≤ _; omega) (by intro u hu; simp at hu; rcases hu with rfl | rfl <;> rfl)
  have HR : Hid (Inserted base (n + 1) (xs.take (i * 2) ++ ([.string nm, .int .i64 id] ++ xs.drop (i * 2))) w (.slice (some ⟨g, 0, none⟩) n cap) (.returned (.slice (some ⟨g, 0, none⟩) (n + 1) cap)) W2) := Lib.hid (by
    refine ⟨_, rfl, ⟨?_, .inr ⟨g, cap, cur2, rfl, hbg, by rw [hW2]; exact setRow_heap W1 g cur1 _ 79 _ hg1, hroom, hcm, ?_, ?_⟩⟩, ?_, .inl rfl⟩
    · simp only [List.length_append, List.length_take, List.length_drop, hxl, List.length_cons, List.length_nil]; omega
    · rw [← Array.length_toList, hc2]; simp only [List.length_append, List.length_take, List.length_drop, hc1l, List.length_cons, List.length_nil]; omega
    · rw [hc2]
      show (cur1.toList.take (i * 2) ++ ([.string nm, .int .i64 id] : List Value) ++ cur1.toList.drop (i * 2 + 2)).take ((n + 1) * 2) = _
      have e1 : cur1.toList.take (i * 2) = xs.take (i * 2) := by
        rw [hc1]
        show (cur.toList.take ((i + 1) * 2) ++ cs ++ _).take (i * 2) = _
        rw [List.append_assoc, List.take_append_of_le_length (by rw [List.length_take, hcl]; omega), List.take_take, ← htake, List.take_take]
        congr 1
        omega
      have e2 : (cur1.toList.drop (i * 2 + 2)).take (cs.length) = cs := by
        rw [hc1]
        show ((cur.toList.take ((i + 1) * 2) ++ cs ++ _).drop (i * 2 + 2)).take cs.length = cs
        have e3 : (cur.toList.take ((i + 1) * 2)).length = i * 2 + 2 := by rw [List.length_take, hcl]; omega
        rw [List.append_assoc, ← e3, List.drop_left, List.take_left]
      rw [e1, List.append_assoc, List.take_append, List.take_append, List.length_take, hxl]
      have e4 : (n + 1) * 2 - min (i * 2) (n * 2) - [Value.string nm, .int .i64 id].length = cs.length := by rw [hcsl]; show _ - _ - 2 = _; omega
      rw [e4, e2, hcseq, List.take_of_length_le (l := xs.take (i * 2)) (by rw [List.length_take]; omega), List.take_of_length_le (l := [Value.string nm, .int .i64 id]) (by show 2 ≤ _; omega)]
    · rw [hW2, hW1]
      exact ((grown_drew w _).trans (grown_setRow _ g _)).trans (grown_setRow _ g _))
  have hw1 : IntKind.i64.wrap ((i : Int) + 1) = (i : Int) + 1 := by rw [IntKind.wrap_i64]; omega
  have hb1 : (0 : Int) ≤ (i : Int) + 1 := by omega
  have hin : i ≤ n := by omega
  have htn : ((i : Int) + 1).toNat = i + 1 := by omega
  have hb2 : ¬ (cap = i + 1) := by omega
  have hb3 : (i : Int) ≤ (n : Int) + 1 := by omega
  have hb4 : ¬ (cap = i) := by omega
  have hz2 : ¬ ((i : Int) = (n : Int)) := by omega
  unfold maxLen at hcm
  clear hW2 hW1 hc1 hc2 hc1l hg1 hl1 hcsl hcseq hsz hi0 hz0 hz1 hcl hxl hown h1 htake hcs hg hlit
  go_enter Try.func49, Try.ntmps49
  go_wp2_with (simp only [hov])
  go_region_law (refine step_copy_eq rfl (.tmp 73) (.tmp 76) 26 26 rfl _ _ (by simp [Act.eval, Act.put]) (by simp [Act.eval, Act.put]) (hcp1 _ (cap - (i + 1)) (cap - i)) ?_)
  go_wp2_with (at_builtin; refine wpList_copy_eq rfl _ _ 26 26 rfl _ _ rfl rfl (hcp2 _ _) ?_)
  go_ret
  exact HR.out
theorem zeros_len (k : Nat) : (Builtin.zeroCells (Value.agg #[.string ByteArray.empty, .int .i64 0]).cells k).toList.length = k * 2 := by rw [Array.length_toList, size_zeroCells]; rfl
set_option maxRecDepth 100000 in
set_option maxHeartbeats 4000000 in
theorem insertGrow_c {base n i cap g : Nat} {xs : List Value} {w : World} {vb : Nat} {nm : ByteArray} {id : Int} (hown : w.ownsRow base 79 2 (.slice (some ⟨g, 0, none⟩) n cap) n xs) (h1 : ∀ u ∈ xs, u.oneCell' = true)
    (hlit : w.heap[vb]? = some (.cells #[.string nm, .int .i64 id] 79 (0, 0))) (hroom : cap < n + 1) (hi : i < n) (hn : n ≤ 1000000) (hb : base ≤ w.heap.size) :
    Calls Try.prog 49 #[.slice (some ⟨g, 0, none⟩) n cap, .int .i64 (i : Nat), .slice (some ⟨vb, 0, none⟩) 1 1] w (Inserted base (n + 1) (xs.take (i * 2) ++ ([.string nm, .int .i64 id] ++ xs.drop (i * 2))) w (.slice (some ⟨g, 0, none⟩) n cap)) := by
  rcases hown.2 with ⟨h, _⟩ | ⟨g', cap', cur, h, hbg, hg, hnc, hcm, hcs, htake⟩
  · simp at h
  simp only [Value.slice.injEq, Option.some.injEq, Addr.mk.injEq, and_true, true_and] at h
  obtain ⟨rfl, rfl⟩ := h
  obtain rfl : cap = n := by omega
  have hxl := hown.1
  have hxs : cur.toList = xs := by rw [← htake, List.take_of_length_le (by rw [Array.length_toList, hcs]; exact Nat.le_refl _)]
  have hgl : g < w.heap.size := (Array.getElem?_eq_some_iff.1 hg).1
  have hvl : vb < w.heap.size := (Array.getElem?_eq_some_iff.1 hlit).1
  obtain ⟨i0, hi0, hz0, hz1, hz2⟩ := info_parts (P := Try.prog) (e := 79) (z := .agg #[.string ByteArray.empty, .int .i64 0]) (size := 2) (bytes := 24) (by kernel_rfl)
  have hsz : (Try.prog.info? 79).map (·.size) = some 2 := by rw [hi0]; simp [hz1]
  have hold : (Builtin.firstCells i0.size i (.slice (some ⟨g, 0, none⟩) i cap)).run Try.prog w.drew = .ok (xs.take (i * 2)).toArray w.drew := by
    rw [hz1]
    exact run_firstCells_some w.drew 2 i ⟨g, 0, none⟩ i cap (xs.take (i * 2)) (by rw [List.length_take]; omega) (cells_of_row (w := w.drew) hg 0 (by rw [hxs, List.drop_zero, List.length_take, hxl, Nat.min_eq_left (by omega)]))
  obtain ⟨G, hG⟩ : ∃ G, G = grownCap w (cap + 1) cap 79 := ⟨_, rfl⟩
  obtain ⟨ROW, hROW⟩ : ∃ ROW : Array Value, ROW = (xs.take (i * 2)).toArray ++ Builtin.zeroCells (Value.agg #[.string ByteArray.empty, .int .i64 0]).cells (cap + 1 - i) ++ Builtin.zeroCells (Value.agg #[.string ByteArray.empty, .int .i64 0]).cells (G - (cap + 1)) := ⟨_, rfl⟩
  obtain ⟨W1, hW1⟩ : ∃ W1, W1 = w.drew.alloc (.cells ROW 79) := ⟨_, rfl⟩
  have hGn : cap + 1 ≤ G := by rw [hG]; exact grownCap_ge w _ _ _
  have hGm : G ≤ maxLen := by rw [hG]; exact grownCap_le_maxLen w (cap + 1) cap 79 (by unfold maxLen; omega)
  have hRl : ROW.toList.length = G * 2 := by
    rw [hROW]
    simp only [Array.toList_append, List.length_append, zeros_len, List.length_take, hxl]
    omega
  have hkk : (cap : Int) + 1 - (i : Int) = ((cap + 1 - i : Nat) : Int) := by omega
  have hik : i + (cap + 1 - i) = cap + 1 := by omega
  have hrz : ∀ ty, (Builtin.append_ #[26, 3] ty #[.slice (some ⟨g, 0, none⟩) i cap, .int .i64 ((cap : Int) + 1 - (i : Int))]).run Try.prog w = .ok (.slice (some ⟨w.heap.size, 0, none⟩) (cap + 1) G) W1 := fun ty => by
    have h := Lib.run_append_grow_zeros w 26 3 ty 79 i0 _ .i64 .i64 Try.underlying26 Try.underlying3 hi0 hz0 (some ⟨g, 0, none⟩) i cap (xs.take (i * 2)) hold (cap + 1 - i) (by omega) (by omega) (by omega) (by omega) (by rw [hz2]; omega) (by rw [hz2, hik]; exact growslice_fits (by omega) (by omega))
    rw [hik, ← hG, ← hROW, ← hW1] at h
    rw [hkk]
    exact h
  have hg1 : W1.heap[w.heap.size]? = some (.cells ROW 79 (0, 0)) := by rw [hW1]; exact heap_alloc_new w.drew _
  have hl1 : W1.heap[vb]? = some (.cells #[.string nm, .int .i64 id] 79 (0, 0)) := by rw [hW1]; exact (heap_alloc_old w.drew _ hvl).trans hlit
  have ho1 : W1.heap[g]? = some (.cells cur 79 (0, 0)) := by rw [hW1]; exact (heap_alloc_old w.drew _ hgl).trans hg
  obtain ⟨r2, hr2⟩ : ∃ r2 : Array Value, r2 = (ROW.toList.take (i * 2) ++ ([.string nm, .int .i64 id] : List Value) ++ ROW.toList.drop (i * 2 + 2)).toArray := ⟨_, rfl⟩
  have hr2l : r2.toList.length = G * 2 := by rw [hr2]; simp only [List.length_append, List.length_take, List.length_drop, hRl, List.length_cons, List.length_nil]; omega
  obtain ⟨W2, hW2⟩ : ∃ W2, W2 = W1.setRow w.heap.size r2 := ⟨_, rfl⟩
  have hcpA : ∀ ty dc, (Builtin.copy_ #[26, 26] ty #[.slice (some ⟨w.heap.size, i * 2, none⟩) (cap + 1 - i) dc, .slice (some ⟨vb, 0, none⟩) 1 1]).run Try.prog W1 = .ok (goInt (Nat.min 1 (cap + 1 - i) : Nat)) W2 := fun ty dc => by
    rw [hW2, hr2]
    exact run_copyK W1 26 26 ty 79 2 w.heap.size (i * 2) _ dc ⟨vb, 0, none⟩ 1 1 ROW 79 [.string nm, .int .i64 id] Try.underlying26 hsz hg1 (by rw [show Nat.min 1 (cap + 1 - i) = 1 from by simp only [Nat.min_def]; split <;> omega]; rfl)
      (lit_cells hl1) (by rw [← Array.length_toList, hRl]; show i * 2 + 2 ≤ _; omega) (by intro u hu; simp at hu; rcases hu with rfl | rfl <;> rfl)
  have hg2 : W2.heap[w.heap.size]? = some (.cells r2 79 (0, 0)) := by rw [hW2]; exact setRow_heap W1 _ ROW _ 79 _ hg1
  have ho2 : W2.heap[g]? = some (.cells cur 79 (0, 0)) := by rw [hW2]; exact (setRow_other W1 _ g r2 (by omega)).trans ho1
  obtain ⟨cs, hcseq⟩ : ∃ cs, cs = xs.drop (i * 2) := ⟨_, rfl⟩
  have hcsl : cs.length = (cap - i) * 2 := by rw [hcseq, List.length_drop, hxl]; omega
  obtain ⟨r3, hr3⟩ : ∃ r3 : Array Value, r3 = (r2.toList.take ((i + 1) * 2) ++ cs ++ r2.toList.drop ((i + 1) * 2 + cs.length)).toArray := ⟨_, rfl⟩
  have hr3l : r3.toList.length = G * 2 := by rw [hr3]; simp only [List.length_append, List.length_take, List.length_drop, hr2l, hcsl]; omega
  obtain ⟨W3, hW3⟩ : ∃ W3, W3 = W2.drew.setRow w.heap.size r3 := ⟨_, rfl⟩
  have hcpB : ∀ ty dc sc, (Builtin.copy_ #[26, 26] ty #[.slice (some ⟨w.heap.size, (i + 1) * 2, none⟩) (cap + 1 - (i + 1)) dc, .slice (some ⟨g, i * 2, none⟩) (cap - i) sc]).run Try.prog W2.drew = .ok (goInt (Nat.min (cap - i) (cap + 1 - (i + 1)) : Nat)) W3 := fun ty dc sc => by
    rw [hW3, hr3]
    exact run_copyK W2.drew 26 26 ty 79 2 w.heap.size ((i + 1) * 2) _ dc ⟨g, i * 2, none⟩ _ sc r2 79 cs Try.underlying26 hsz hg2 (by rw [hcsl, show Nat.min (cap - i) (cap + 1 - (i + 1)) = cap - i from by simp only [Nat.min_def]; split <;> omega])
      (cells_of_row (w := W2.drew) ho2 (i * 2) (by rw [hcseq, hxs, List.take_of_length_le (Nat.le_refl _)])) (by rw [← Array.length_toList, hr2l, hcsl]; omega) (fun u hu => h1 u (by rw [hcseq] at hu; exact List.mem_of_mem_drop hu))
  have HR : Hid (Inserted base (cap + 1) (xs.take (i * 2) ++ ([.string nm, .int .i64 id] ++ xs.drop (i * 2))) w (.slice (some ⟨g, 0, none⟩) cap cap) (.returned (.slice (some ⟨w.heap.size, 0, none⟩) (cap + 1) G)) W3) := Lib.hid (by
    refine ⟨_, rfl, ⟨?_, .inr ⟨w.heap.size, G, r3, rfl, hb, by rw [hW3]; exact setRow_heap W2.drew _ r2 _ 79 _ hg2, hGn, hGm, by rw [← Array.length_toList, hr3l], ?_⟩⟩, ?_, .inr ⟨_, rfl, Nat.le_refl _⟩⟩
    · simp only [List.length_append, List.length_take, List.length_drop, hxl, List.length_cons, List.length_nil]; omega
    · have e1 : r2.toList.take ((i + 1) * 2) = xs.take (i * 2) ++ ([.string nm, .int .i64 id] : List Value) := by
        have e2 : ROW.toList.take (i * 2) = xs.take (i * 2) := by
          rw [hROW]
          simp only [Array.toList_append, List.append_assoc]
          rw [List.take_append_of_le_length (by show _ ≤ (xs.take (i * 2)).length; rw [List.length_take]; omega)]
          show (xs.take (i * 2)).take (i * 2) = _
          rw [List.take_take, Nat.min_self]
        rw [hr2, e2]
        show (xs.take (i * 2) ++ ([.string nm, .int .i64 id] : List Value) ++ _).take ((i + 1) * 2) = _
        have e3 : (xs.take (i * 2) ++ ([.string nm, .int .i64 id] : List Value)).length = (i + 1) * 2 := by simp only [List.length_append, List.length_take, hxl, List.length_cons, List.length_nil]; omega
        rw [← e3, List.take_left]
      rw [hr3, e1]
      show (xs.take (i * 2) ++ ([.string nm, .int .i64 id] : List Value) ++ cs ++ _).take ((cap + 1) * 2) = _
      have e4 : (xs.take (i * 2) ++ ([.string nm, .int .i64 id] : List Value) ++ cs).length = (cap + 1) * 2 := by simp only [List.length_append, List.length_take, hxl, hcsl, List.length_cons, List.length_nil]; omega
      rw [← e4, List.take_left, hcseq, List.append_assoc]
    · rw [hW3, hW2, hW1]
      refine ⟨rfl, rfl, rfl, by simp, fun k hk _ => ?_⟩
      rw [setRow_other _ _ _ _ (by omega : k ≠ w.heap.size)]
      show ((w.drew.alloc _).setRow _ _).heap[k]? = _
      rw [setRow_other _ _ _ _ (by omega : k ≠ w.heap.size)]
      exact heap_alloc_old w.drew _ hk)
  have hw1 : IntKind.i64.wrap ((i : Int) + 1) = (i : Int) + 1 := by rw [IntKind.wrap_i64]; omega
  have hb1 : (0 : Int) ≤ (i : Int) + 1 := by omega
  have hin : i ≤ cap := by omega
  have htn : ((i : Int) + 1).toNat = i + 1 := by omega
  have hb3 : (i : Int) ≤ (cap : Int) := by omega
  have hz2' : ¬ ((i : Int) = (cap : Int)) := by omega
  have hz3 : (cap : Int) < (cap : Int) + 1 := by omega
  have hGi : ¬ (G = i) := by omega
  have hGim : ¬ (G = i + 1) := by omega
  have hci : ¬ (cap = i) := by omega
  unfold maxLen at hcm hGm
  obtain ⟨N, hN⟩ : ∃ N, w.heap.size = N := ⟨_, rfl⟩
  rw [hN] at hrz hcpA hcpB HR
  clear hN hW3 hW2 hW1 hr3 hr2 hr3l hr2l hcsl hcseq hg1 hg2 hl1 ho1 ho2 hRl hROW hG hold hsz hi0 hz0 hz1 hz2 hxl hown h1 htake hcs hg hlit hkk hik hxs
  go_enter Try.func49, Try.ntmps49
  go_wp2_with (first
    | (at_builtin; refine wpList_append_eq rfl _ _ _ _ rfl _ _ rfl rfl (hrz _) ?_)
    | (at_builtin; refine wpList_copy_eq rfl _ _ 26 26 rfl _ _ rfl rfl (hcpA _ _) ?_))
  go_region_law (refine step_copy_eq rfl (.tmp 50) (.tmp 53) 26 26 rfl _ _ (by simp [Act.eval, Act.put]) (by simp [Act.eval, Act.put]) (hcpB _ (G - (i + 1)) (cap - i)) ?_)
  go_wp2
  go_ret
  exact HR.out
/-- Any place, room or none. -/
theorem insert_c {base n i : Nat} {xs : List Value} {v : Value} {w : World} {vb : Nat} {nm : ByteArray} {id : Int} (hown : w.ownsRow base 79 2 v n xs) (h1 : ∀ u ∈ xs, u.oneCell' = true)
    (hlit : w.heap[vb]? = some (.cells #[.string nm, .int .i64 id] 79 (0, 0))) (hvb : v.ownBlock ≠ some vb) (hi : i ≤ n) (hn : n ≤ 1000000) (hb : base ≤ w.heap.size) :
    Calls Try.prog 49 #[v, .int .i64 (i : Nat), .slice (some ⟨vb, 0, none⟩) 1 1] w (Inserted base (n + 1) (xs.take (i * 2) ++ ([.string nm, .int .i64 id] ++ xs.drop (i * 2))) w v) := by
  have hxl := hown.1
  rcases Nat.lt_or_ge i n with h | h
  · rcases hown.2 with ⟨rfl, h0⟩ | ⟨g, cap, cur, rfl, _, _, hnc, _⟩
    · omega
    · by_cases hr : n + 1 ≤ cap
      · exact insertRoom_c hown h1 hlit (fun e => hvb (by rw [e]; rfl)) hr h hn
      · exact insertGrow_c hown h1 hlit (by omega) h hn hb
  · obtain rfl : i = n := by omega
    rw [List.take_of_length_le (by omega), List.drop_eq_nil_of_le (by omega), List.append_nil]
    exact insertEnd_c hown hlit hn hb
end Go.Proofs.Ytmkjjcogheidmaa.DP
