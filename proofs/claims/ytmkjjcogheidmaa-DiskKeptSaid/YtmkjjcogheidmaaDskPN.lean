/-
  The library's Delete and Insert at rows of names that the call owns.
-/
import Derived.Test.YtmkjjcogheidmaaDskPL
import Derived.Test.YtmkjjcogheidmaaDskOwn
import Derived.Deep.RegionLaw
import Derived.WalkKit
import Derived.Maps.AppendAt
set_option linter.unusedSimpArgs false
set_option linter.unusedVariables false
namespace Go.Proofs.Ytmkjjcogheidmaa.DP
open Go.RowKit
set_option maxRecDepth 100000 in
set_option maxHeartbeats 4000000 in
theorem delete_c {base n i m j : Nat} {xs : List Value} {v : Value} {w : World} (hown : w.ownsRow base 79 2 v n xs) (h1 : ∀ u ∈ xs, u.oneCell' = true) (hm : n = m + 1) (hj : j = i + 1) (hi : i < n) (hn : n ≤ 1000000) :
    Calls Try.prog 50 #[v, .int .i64 (i : Nat), .int .i64 (j : Nat)] w fun e w' => ∃ v', e = .returned v' ∧ w'.ownsRow base 79 2 v' m (xs.take (i * 2) ++ xs.drop (j * 2)) ∧ w.grownBy w' v.ownBlock ∧ v'.ownBlock = v.ownBlock := by
  rcases hown.2 with ⟨rfl, h0⟩ | ⟨g, cap, cur, rfl, hbg, hg, hnc, hcm, hcs, htake⟩
  · omega
  have hxl := hown.1
  obtain ⟨i0, hi0, hz0, hz1, hz2⟩ := info_parts (P := Try.prog) (e := 79) (z := .agg #[.string ByteArray.empty, .int .i64 0]) (size := 2) (bytes := 24) (by kernel_rfl)
  have hcl : cur.toList.length = cap * 2 := by rw [Array.length_toList, hcs]
  obtain ⟨news, hnews⟩ : ∃ news, news = xs.drop (j * 2) := ⟨_, rfl⟩
  have hnl : news.length = (n - j) * 2 := by rw [hnews, List.length_drop, hxl]; omega
  have hsrc : ∀ W : World, W.heap[g]? = some (.cells cur 79 (0, 0)) → ∀ t u, news[t]? = some u → W.cell? ((⟨g, j * 2, none⟩ : Addr).add t) = some u := fun W hW =>
    cells_of_row hW (j * 2) (by
      rw [hnews, ← htake]
      rw [List.drop_take, List.length_take, List.length_drop, hcl]
      congr 1
      omega)
  -- the row behind the append, and behind the clear
  obtain ⟨cur1, hc1⟩ : ∃ cur1 : Array Value, cur1 = (cur.toList.take (i * 2) ++ news ++ cur.toList.drop (i * 2 + news.length)).toArray := ⟨_, rfl⟩
  have hc1s : cur1.size = cap * 2 := by rw [hc1]; simp only [List.size_toArray, List.length_append, List.length_take, List.length_drop, hcl, hnl]; omega
  obtain ⟨W1, hW1⟩ : ∃ W1, W1 = w.drew.setRow g cur1 := ⟨_, rfl⟩
  have hg1 : W1.heap[g]? = some (.cells cur1 79 (0, 0)) := by rw [hW1]; exact setRow_heap w.drew g cur _ 79 _ hg
  have hrun : ∀ ty c A, (A = some (⟨g, j * 2, none⟩ : Addr) ∨ news.length = 0 ∧ A = some ⟨g, 0, none⟩) → (Builtin.append_ #[26, 26] ty #[.slice (some ⟨g, 0, none⟩) i cap, .slice A (n - j) c]).run Try.prog w.drew = .ok (.slice (some ⟨g, 0, none⟩) m cap) W1 := fun ty c A hA => by
    have e : i + (n - j) = m := by omega
    rcases hA with rfl | ⟨h0, rfl⟩
    · have := run_append_room (P := Try.prog) w.drew 26 ty 79 i0 Try.underlying26 hi0 g i cap cur hg ⟨g, j * 2, none⟩ (n - j) c news (by rw [hnl, hz1]) (hsrc w.drew hg) (fun u hu => h1 u (by rw [hnews] at hu; exact List.mem_of_mem_drop hu)) (by omega) (by rw [hz1, hnl, hcs]; omega)
      rw [this, hz1, e, hW1, hc1]
    · have := run_append_room (P := Try.prog) w.drew 26 ty 79 i0 Try.underlying26 hi0 g i cap cur hg ⟨g, 0, none⟩ (n - j) c news (by rw [hnl, hz1]) (fun t u hu => by rw [List.eq_nil_of_length_eq_zero h0] at hu; simp at hu) (fun u hu => h1 u (by rw [hnews] at hu; exact List.mem_of_mem_drop hu)) (by omega) (by rw [hz1, hnl, hcs]; omega)
      rw [this, hz1, e, hW1, hc1]
  obtain ⟨cur2, hc2⟩ : ∃ cur2 : Array Value, cur2 = (cur1.toList.take (m * 2) ++ (Builtin.zeroCells (Value.agg #[.string ByteArray.empty, .int .i64 0]).cells 1).toList ++ cur1.toList.drop (m * 2 + 1 * 2)).toArray := ⟨_, rfl⟩
  have hclr : ∀ ty c, (Builtin.clear_ #[26] ty #[.slice (some ⟨g, m * 2, none⟩) 1 c]).run Try.prog W1 = .ok (.tuple #[]) (W1.setRow g cur2) := fun ty c => by
    rw [hc2]
    exact run_clearK W1 26 79 ty _ 2 Try.underlying26 Try.zeroValue79 rfl (by intro v hv; simp [Value.cells] at hv; rcases hv with rfl | rfl <;> rfl) g (m * 2) 1 c (by decide) cur1 _ hg1 (by rw [hc1s]; omega)
  have hown2 : (W1.setRow g cur2).ownsRow base 79 2 (.slice (some ⟨g, 0, none⟩) m cap) m (xs.take (i * 2) ++ xs.drop (j * 2)) := by
    have hc1l : cur1.toList.length = cap * 2 := by rw [Array.length_toList, hc1s]
    refine ⟨by rw [List.length_append, List.length_take, List.length_drop, hxl]; omega, .inr ⟨g, cap, cur2, rfl, hbg, setRow_heap W1 g cur1 _ 79 _ hg1, by omega, hcm, ?_, ?_⟩⟩
    · rw [hc2]
      simp only [List.size_toArray, List.length_append, List.length_take, List.length_drop, hc1l, Array.length_toList, size_zeroCells]
      show min (m * 2) (cap * 2) + 1 * 2 + _ = _
      omega
    · rw [hc2]
      have e1 : ((cur1.toList.take (m * 2) ++ (Builtin.zeroCells (Value.agg #[.string ByteArray.empty, .int .i64 0]).cells 1).toList ++ cur1.toList.drop (m * 2 + 1 * 2)).toArray.toList.take (m * 2)) = cur1.toList.take (m * 2) := by
        rw [List.append_assoc, List.take_append_of_le_length (by rw [List.length_take, hc1l]; omega), List.take_take, Nat.min_self]
      rw [e1, hc1]
      have e2 : (cur.toList.take (i * 2) ++ news).length = m * 2 := by rw [List.length_append, List.length_take, hcl, hnl]; omega
      show (cur.toList.take (i * 2) ++ news ++ cur.toList.drop (i * 2 + news.length)).take (m * 2) = _
      rw [← e2, List.take_left, hnews, ← htake, List.take_take]
      congr 2
      omega
  have hgr : w.grownBy (W1.setRow g cur2) (some g) := by
    rw [hW1]
    exact ((grown_drew w _).trans (grown_setRow _ g _)).trans (grown_setRow _ g _)
  obtain ⟨W2, hW2⟩ : ∃ W2, W2 = W1.setRow g cur2 := ⟨_, rfl⟩
  rw [← hW2] at hclr hown2 hgr
  have HO := Lib.hid hown2
  have HG := Lib.hid hgr
  have hnm : ¬ cap = m := by omega
  have hms : n - m = 1 := by omega
  have hji : ¬ ((i : Nat) : Int) = ((j : Nat) : Int) := by omega
  have HM := Lib.hid hm
  have HJ := Lib.hid hj
  have HE : Hid (cap = j → W1 = w.drew) := Lib.hid fun e => by
    have e0 : news = [] := List.eq_nil_of_length_eq_zero (by rw [hnl]; omega)
    have e1 : cur1 = cur := by
      rw [hc1, e0]
      simp
    rw [hW1, e1]
    exact setRow_self w.drew g cur _ _ hg
  have HR : Hid (∀ ty c A, (A = some (⟨g, j * 2, none⟩ : Addr) ∨ news.length = 0 ∧ A = some ⟨g, 0, none⟩) → (Builtin.append_ #[26, 26] ty #[.slice (some ⟨g, 0, none⟩) i cap, .slice A (n - j) c]).run Try.prog w.drew = .ok (.slice (some ⟨g, 0, none⟩) m cap) W1) := Lib.hid hrun
  have HN : Hid (news.length = (n - j) * 2) := Lib.hid hnl
  have b1 : j ≤ n := by omega
  have b2 : i ≤ j := by omega
  have b3 : i ≤ cap := by omega
  have b4 : j ≤ cap := by omega
  have b5 : m ≤ n := by omega
  have b6 : m ≤ cap := by omega
  clear hrun hnl hown2 hgr hW2 hc2 hc1 hW1 hc1s hg1 hsrc hnews hcl hz0 hz1 hz2 hi0 hxl htake hcs hg hown h1 hcm hm hj
  by_cases hcj : cap = j
  · rw [HE.out hcj] at hclr
    obtain rfl : n = j := by omega
    obtain rfl : m = i := by have := HM.out; have := HJ.out; omega
    subst hcj
    have hclr2 : ∀ ty c, (Builtin.clear_ #[26] ty #[.slice (some ⟨g, m * 2, none⟩) (cap - m) c]).run Try.prog w.drew = .ok (.tuple #[]) W2 := fun ty c => by rw [hms]; exact hclr ty c
    clear hclr hms
    go_enter Try.func50, Try.ntmps50
    go_wp2_with fail
    go_region
    go_wp2
    go_ret
    exact ⟨_, rfl, HO.out, HG.out, rfl⟩
  · go_enter Try.func50, Try.ntmps50
    go_wp2_with fail
    go_region_law (refine step_append_eq rfl (.tmp 22) (.tmp 25) 26 26 rfl _ _ (by simp [Act.eval, Act.put]) (by simp [Act.eval, Act.put]) (HR.out _ (cap - j) _ (.inl rfl)) ?_)
    go_wp2_with (refine wpList_clear_eq rfl (.tmp 31) 26 rfl _ rfl (hclr _ _) ?_)
    go_ret
    exact ⟨_, rfl, HO.out, HG.out, rfl⟩
end Go.Proofs.Ytmkjjcogheidmaa.DP
