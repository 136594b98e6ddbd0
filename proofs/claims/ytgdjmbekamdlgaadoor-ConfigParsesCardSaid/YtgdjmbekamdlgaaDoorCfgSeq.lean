/-
  strings.SplitSeq at a line feed: what it hands back goes through a text's parts, one by one, and keeps its place in a variable of its own.
-/
import Derived.Test.YtgdjmbekamdlgaaDoorCfgRng
import Derived.Test.YtgdjmbekamdlgaaDoorCfgLib
import Derived.Shelf.Abstract
import Derived.Shelf.RegionOpen
import Derived.OwnWalkIn
import Derived.TacticsInMore
import Derived.LoopNIn
import Derived.LoopIn
set_option linter.unusedSimpArgs false
set_option linter.unusedVariables false
namespace Go.Proofs.YtgdjmbekamdlgaaDoor.KP
open Go.RowKit Go.Shelf KR
/-- The three variables of the iterator. -/
def Own3 (B k : Nat) : Prop := B ≤ k ∧ k < B + 3
/-- How much is left. -/
def leftAt (B : Nat) (w : World) : Nat := match w.cell? ⟨B, 0, none⟩ with
  | some (.string r) => r.size
  | _ => 0
theorem leftAt_eq {B : Nat} {w : World} {r : ByteArray} (h : w.cell? ⟨B, 0, none⟩ = some (.string r)) : leftAt B w = r.size := by unfold leftAt; rw [h]
theorem cell_keepB {S : Nat → Prop} {w w' : World} (h : KeepB S w w') {b o : Nat} (hb : S b) : w'.cell? ⟨b, o, none⟩ = w.cell? ⟨b, o, none⟩ := World.cell?_of_block (h b hb)
theorem frozen_keepB {S : Nat → Prop} {w w' : World} (h : KeepB S w w') {b o : Nat} (hb : S b) : w'.frozen? ⟨b, o, none⟩ = w.frozen? ⟨b, o, none⟩ := World.frozen?_of_block (h b hb)
theorem yield_str {F : Fence} {m : Nat} {P : Program} {l : Nat} {v v' : Value} {W : World} {R : Ending → World → Prop} (h : YieldAt F m P l #[v] W R) (he : v = v') : YieldAt F m P l #[v'] W R := he ▸ h
attribute [local go_sem] Oper.semAt_some
set_option maxRecDepth 100000 in
set_option maxHeartbeats 2000000 in
theorem seq_iter (n B : Nat) (hn : 1 ≤ n) (s : ByteArray) (hs : s.size ≤ 100000) (w : World)
    (h0 : w.cell? ⟨B, 0, none⟩ = some (.string s)) (f0 : w.frozen? ⟨B, 0, none⟩ = false) (h1 : w.cell? ⟨B + 1, 0, none⟩ = some (.string ⟨#[10]⟩)) (h2 : w.cell? ⟨B + 2, 0, none⟩ = some (.int .i64 0)) :
    Iter Fence.wide n Tryd.prog 52 #[.pointer (some ⟨B + 1, 0, none⟩), .pointer (some ⟨B, 0, none⟩), .pointer (some ⟨B + 2, 0, none⟩)] (fun p : List Nat => .string (str p)) (Own3 B) (Own3 B) 0 (spl 10 (bs s)) w := by
  intro l J Jx W hK hBs hJ hJx hY hJ0
  have c0 := (cell_keepB hK (o := 0) (b := B) ⟨Nat.le_refl _, by omega⟩).trans h0
  have c1 := (cell_keepB hK (o := 0) (b := B + 1) ⟨by omega, by omega⟩).trans h1
  have c2 := (cell_keepB hK (o := 0) (b := B + 2) ⟨by omega, by omega⟩).trans h2
  have g0 := (frozen_keepB hK (o := 0) (b := B) ⟨Nat.le_refl _, by omega⟩).trans f0
  obtain ⟨xs, hxs⟩ : ∃ xs, spl 10 (bs s) = xs := ⟨_, rfl⟩
  rw [hxs] at hY ⊢
  have HJ := Lib.hid hJ; have HY := Lib.hid hY
  have ST := Lib.hid (show (xs = [] ++ spl 10 (bs s)) ∧ W.cell? ⟨B, 0, none⟩ = some (.string s) ∧ s.size ≤ 100000 ∧ W.frozen? ⟨B, 0, none⟩ = false ∧ W.cell? ⟨B + 1, 0, none⟩ = some (.string ⟨#[10]⟩) ∧ W.cell? ⟨B + 2, 0, none⟩ = some (.int .i64 0) ∧ (J [] W ∧ W.heap.size ≤ W.heap.size) from ⟨hxs.symm, c0, hs, g0, c1, c2, hJ0, Nat.le_refl _⟩)
  obtain ⟨C, hC⟩ : ∃ C, (ByteArray.mk #[10]) = C := ⟨_, rfl⟩
  have hCs : C.size = 1 := by rw [← hC]; rfl
  rw [hC] at c1
  have HC := Lib.hid hC
  clear hJ hY hK h0 f0 h1 h2 hs hxs hC hBs hJ0 hJx
  refine callsIn_of_wp Tryd.func52 rfl trivial ?_ rfl
  simp only [Tryd.ntmps52, List.size_toArray, List.length_cons, List.length_nil, Nat.reduceAdd, Nat.reduceSub, Array.replicate_succ, Array.replicate_zero, List.push_toArray, List.append_toArray, List.nil_append, List.cons_append]
  gi_wp2_with fail
  gi_loopw [7] (fun _ wr => ∃ (pre : List (List Nat)) (r : ByteArray), Hid (xs = pre ++ spl 10 (bs r)) ∧ wr.cell? ⟨B, 0, none⟩ = some (.string r) ∧ r.size ≤ 100000 ∧ wr.frozen? ⟨B, 0, none⟩ = false ∧ wr.cell? ⟨B + 1, 0, none⟩ = some (.string C) ∧ wr.cell? ⟨B + 2, 0, none⟩ = some (.int .i64 0) ∧ Hid (J pre wr ∧ W.heap.size ≤ wr.heap.size)) (fun _ wr => leftAt B wr)
  case atStart =>
    obtain ⟨q1, q2, q3, q4, q5, q6, q7⟩ := ST.out
    exact ⟨[], s, Lib.hid q1, q2, q3, q4, by rw [← HC.out]; exact q5, q6, Lib.hid q7⟩
  case round =>
    clear ST c0 c1 c2 g0
    obtain ⟨pre, r, HX, r0, hr, rf, r1, r2, HJ0⟩ := hrel
    have ix := fun X => index_c r 10 X
    rw [HC.out] at ix
    have LE := leftAt_eq r0
    rcases index_part r 10 with ⟨hi, hno⟩ | ⟨o, hi, ho, hsp, hno⟩
    · have hx1 : spl 10 (bs r) = [bs r] := spl_no hno
      have hX2 : xs = pre ++ [bs r] := by rw [HX.out, hx1]
      have hy := yield_str (HY.out pre (bs r) wr HJ0.out.1 HJ0.out.2 (by rw [hX2]; exact List.prefix_rfl)) (v' := .string r) (by show Value.string (str (bs r)) = _; rw [str_bs])
      obtain ⟨fn, tmps, assign, body, hyy, hR⟩ := hy
      rw [hi] at ix
      have IX := Lib.hid ix; have HX2 := Lib.hid hX2; have HRR := Lib.hid hR
      clear ix hx1 hX2 hi hno hR HY HX
      gi_wp2_with (refine ⟨trivial, ?_⟩; gi_at_call 54; refine (callsIn_wide.2 (IX.out _)).mono ?_; rintro _ w1 ⟨rfl, rfl⟩)
      refine HRR.out.mono ?_
      rintro e W3 (⟨rfl, hJ3, hk3, hz3⟩ | ⟨rfl, hJx3, -, -⟩)
      · gi_wp2
        go_end0
        exact ⟨⟨_, rfl⟩, .inl (by rw [HX2.out]; exact hJ3)⟩
      · gi_wp2
        go_end0
        exact ⟨⟨_, rfl⟩, .inr ⟨_, hJx3⟩⟩
    · obtain ⟨x, hxd⟩ : ∃ x, (bs r).take o = x := ⟨_, rfl⟩
      have hso : spl 10 (bs r) = x :: spl 10 ((bs r).drop (o + 1)) := by
        conv => lhs; rw [hsp]
        rw [hxd] at hno ⊢
        exact spl_at _ hno
      have hbr : bs (str ((bs r).drop (o + 1))) = (bs r).drop (o + 1) := bs_str (fun c hc => bs_small r c (List.mem_of_mem_drop hc))
      have hst : r.extract 0 o = str x := by
        have e : r = str (bs r) := (str_bs r).symm
        have h1 : (str (bs r)).extract 0 o = str x := by rw [str_extract, List.drop_zero, Nat.sub_zero, hxd]
        rwa [← e] at h1
      have hst2 : r.extract (o + 1) r.size = str ((bs r).drop (o + 1)) := by
        have e : r = str (bs r) := (str_bs r).symm
        have h1 : (str (bs r)).extract (o + 1) r.size = str ((bs r).drop (o + 1)) := by
          rw [str_extract, List.take_of_length_le (by rw [List.length_drop, bs_length]; exact Nat.le_refl _)]
        rwa [← e] at h1
      have hts : (str ((bs r).drop (o + 1))).size = r.size - (o + 1) := by rw [str_size, List.length_drop, bs_length]
      rw [← hbr] at hso
      generalize str ((bs r).drop (o + 1)) = T at *
      have hX2 : xs = (pre ++ [x]) ++ spl 10 (bs T) := by rw [HX.out, hso, List.append_assoc]; rfl
      have hy := HY.out pre x wr HJ0.out.1 HJ0.out.2 (by rw [hX2]; exact List.prefix_append _ _)
      obtain ⟨fn, tmps, assign, body, hyy, hR⟩ := hy
      generalize hXS : str x = XS at *
      rw [hi] at ix
      have IX := Lib.hid ix; have HX2 := Lib.hid hX2; have HRR := Lib.hid hR
      have oi0 : (0 : Int) ≤ (o : Int) := by omega
      clear ix hX2 hi hno hR HX hso hbr hsp hxd
      gi_wp2_with (refine ⟨trivial, ?_⟩; gi_at_call 54; refine (callsIn_wide.2 (IX.out _)).mono ?_; rintro _ w1 ⟨rfl, rfl⟩)
      refine HRR.out.mono ?_
      rintro e W3 (⟨rfl, hJ3, hk3, hz3⟩ | ⟨rfl, hJx3, -, -⟩)
      · have k0 := (cell_keepB hk3 (o := 0) (b := B) (.inl ⟨Nat.le_refl _, by omega⟩)).trans r0
        have k1 := (cell_keepB hk3 (o := 0) (b := B + 1) (.inl ⟨by omega, by omega⟩)).trans r1
        have k2 := (cell_keepB hk3 (o := 0) (b := B + 2) (.inl ⟨by omega, by omega⟩)).trans r2
        have kf := (frozen_keepB hk3 (o := 0) (b := B) (.inl ⟨Nat.le_refl _, by omega⟩)).trans rf
        have J3 := Lib.hid (show J (pre ++ [x]) W3 ∧ W.heap.size ≤ W3.heap.size from ⟨hJ3, Nat.le_trans HJ0.out.2 hz3⟩)
        clear hk3 hJ3
        gi_wp2
        have e0 := World.cell?_setCell_same W3 ⟨B, 0, none⟩ (.string T) k0
        refine ⟨⟨pre ++ [x], T, HX2, e0, by omega, by rw [World.frozen?_setCell]; exact kf, (World.cell?_setCell_other _ _ _ _ (by simp)).trans k1, (World.cell?_setCell_other _ _ _ _ (by simp)).trans k2, Lib.hid ⟨HJ.out _ _ _ J3.out.1 ((Turns.setCell W3 B 0 (.string T)).mono fun k e => .inl (by subst e; exact ⟨Nat.le_refl _, by omega⟩)), by simp; exact J3.out.2⟩⟩, ?_⟩
        rw [leftAt_eq e0, LE]
        omega
      · gi_wp2
        refine bodyPost_ret (results_none rfl _ _ _) rfl ?_
        exact ⟨⟨_, rfl⟩, .inr ⟨_, hJx3⟩⟩
end Go.Proofs.YtgdjmbekamdlgaaDoor.KP
