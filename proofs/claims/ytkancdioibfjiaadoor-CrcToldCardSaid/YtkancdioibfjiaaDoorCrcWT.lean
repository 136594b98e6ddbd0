/-
  The statements of layer 5, walked, the second part: what was changed is told.
-/
import Derived.Test.YtkancdioibfjiaaDoorCrcW

import Derived.BigRegion
set_option linter.unusedSimpArgs false
set_option linter.unusedVariables false
namespace Go.Proofs.YtkancdioibfjiaaDoor.CW
open Go.RowKit
open CR (below_next)
/-- A row of which so many bytes, from one on, had others put on them. -/
def tAt (p y : List Nat) (f i : Nat) : List Nat := p.mapIdx fun j x => if f ≤ j ∧ j < f + i then x ^^^ y.getD (j - f) 0 else x
theorem tAt_length (p y : List Nat) (f i : Nat) : (tAt p y f i).length = p.length := by simp [tAt]
theorem tAt_get (p y : List Nat) (f i j : Nat) : (tAt p y f i)[j]? = (p[j]?).map fun x => if f ≤ j ∧ j < f + i then x ^^^ y.getD (j - f) 0 else x := by simp [tAt]
theorem tAt_zero (p y : List Nat) (f : Nat) : tAt p y f 0 = p := by
  apply List.ext_getElem?
  intro j
  rw [tAt_get]
  cases p[j]? with
  | none => rfl
  | some x => simp; intro h1 h2; omega
theorem tAt_parts (p y : List Nat) (f m : Nat) (hm : f + m ≤ p.length) (hy : m ≤ y.length) : tAt p y f m = p.take f ++ (List.zipWith (· ^^^ ·) ((p.drop f).take m) (y.take m) ++ p.drop (f + m)) := by
  apply List.ext_getElem?
  intro j
  rw [tAt_get, List.getElem?_append, List.length_take]
  by_cases h1 : j < f
  · rw [if_pos (by omega), List.getElem?_take, if_pos h1]
    cases p[j]? with
    | none => rfl
    | some x => simp; intro h2 h3; omega
  · rw [if_neg (by omega), List.getElem?_append, List.length_zipWith, List.length_take, List.length_take, List.length_drop]
    have e1 : j - min f p.length = j - f := by omega
    rw [e1]
    by_cases h2 : j < f + m
    · rw [if_pos (by omega), List.getElem?_zipWith, List.getElem?_take, if_pos (by omega), List.getElem?_take, if_pos (by omega), List.getElem?_drop, show f + (j - f) = j from by omega]
      have hj : j < p.length := by omega
      have hjy : j - f < y.length := by omega
      rw [List.getElem?_eq_getElem hj, List.getElem?_eq_getElem hjy]
      simp [show f ≤ j from by omega, h2, List.getD_eq_getElem?_getD, List.getElem?_eq_getElem hjy]
    · rw [if_neg (by omega), List.getElem?_drop]
      have e2 : f + m + (j - f - min (min m (p.length - f)) (min m y.length)) = j := by omega
      rw [e2]
      cases p[j]? with
      | none => rfl
      | some x => simp; intro h3 h4; omega
theorem tAt_bytes {p y : List Nat} (hp : Bytes p) (hy : Bytes y) (f i : Nat) : Bytes (tAt p y f i) := by
  intro x hx
  obtain ⟨j, hj⟩ := List.getElem?_of_mem hx
  rw [tAt_get] at hj
  cases hpj : p[j]? with
  | none => rw [hpj] at hj; cases hj
  | some z =>
    rw [hpj] at hj
    have hz : z < 256 := hp z (List.mem_of_getElem? hpj)
    simp only [Option.map_some, Option.some.injEq] at hj
    rw [← hj]
    split
    · refine Nat.xor_lt_two_pow (n := 8) hz ?_
      rw [List.getD_eq_getElem?_getD]
      cases hyj : y[j - f]? with
      | none => decide
      | some u => exact hy u (List.mem_of_getElem? hyj)
    · exact hz
/-- Whether anything was changed. -/
def chg (y : List Nat) (i : Nat) : Bool := (y.take i).any (· != 0)
theorem chg_succ {y : List Nat} {i : Nat} (h : i < y.length) : chg y (i + 1) = (chg y i || y.getD i 0 != 0) := by
  unfold chg
  rw [List.take_add_one, List.getElem?_eq_getElem h]
  simp only [List.any_append, Option.toList_some, List.any_cons, List.any_nil, Bool.or_false, List.getD_eq_getElem?_getD, List.getElem?_eq_getElem h, Option.getD_some]
theorem tAt_same {p y : List Nat} {f m : Nat} (h : chg y m = false) : tAt p y f m = p := by
  apply List.ext_getElem?
  intro j
  rw [tAt_get]
  cases p[j]? with
  | none => rfl
  | some x =>
    simp only [Option.map_some, Option.some.injEq]
    split
    · rename_i hj
      have : y.getD (j - f) 0 = 0 := by
        rw [List.getD_eq_getElem?_getD]
        cases hyj : y[j - f]? with
        | none => rfl
        | some u =>
          unfold chg at h
          rw [List.any_eq_false] at h
          have := h u (List.mem_of_getElem? (i := j - f) (by rw [List.getElem?_take, if_pos (by omega)]; exact hyj))
          simpa using this
      rw [this, Nat.xor_zero]
    · rfl
/-- What is told of a row with its sum of which bytes were changed. -/
theorem chk_changed {b y : List Nat} {f m : Nat} (hb : Bytes b) (hy : Bytes y) (hy4 : y.length = 4) (hm : m ≤ 4) (hf : f + m ≤ (cPut b).length) (h : chg y m = true) : cChk (tAt (cPut b) y f m) = ([], 8) := by
  have hpl : (cPut b).length = b.length + 4 := by unfold cPut; rw [List.length_append, le4_length]
  have hpb : Bytes (cPut b) := by unfold cPut; exact Bytes.app hb (le4_bytes _)
  unfold cChk
  rw [if_neg (by rw [tAt_length]; omega), if_neg ?_]
  have hne : ∃ z ∈ y.take m, z ≠ 0 := by
    unfold chg at h
    rw [List.any_eq_true] at h
    obtain ⟨z, hz, h0⟩ := h
    exact ⟨z, hz, by simpa using h0⟩
  have ht : ∀ (l : List Nat) (k : Nat), Bytes l → Bytes (l.take k) := fun l k h x hx => h x (List.mem_of_mem_take hx)
  have hd : ∀ (l : List Nat) (k : Nat), Bytes l → Bytes (l.drop k) := fun l k h x hx => h x (List.mem_of_mem_drop hx)
  have hself : (cPut b).take f ++ (((cPut b).drop f).take m ++ (cPut b).drop (f + m)) = cPut b := by
    rw [← List.drop_drop, List.take_append_drop, List.take_append_drop]
  have hbt := tAt_bytes hpb hy f m
  have := told (a := (tAt (cPut b) y f m).take ((tAt (cPut b) y f m).length - 4)) (ht _ f hpb) (ht _ m (hd _ f hpb)) (hd _ (f + m) hpb) (ht _ m hy) (by rw [List.length_take, List.length_take, List.length_drop]; omega) (by rw [List.length_take]; omega) hne ⟨b, hb, hself⟩ (ht _ _ hbt)
  rw [← tAt_parts (cPut b) y f m hf (by omega)] at this
  exact this
/-- The row while it is changed. -/
def TInv (w0 w : World) (g : Nat) (l : List Nat) : Prop := Below w0.heap.size w0 w ∧ w0.heap.size ≤ g ∧ g < w.heap.size ∧ (∀ i, w.frozen? ⟨g, i, none⟩ = false) ∧ ByAt w g 0 l
theorem tinv_step {w0 w : World} {g : Nat} {p y : List Nat} {f i : Nat} {x z : Nat} (h : TInv w0 w g (tAt p y f i)) (hx : p[f + i]? = some x) (hz : y.getD i 0 = z) : TInv w0 (w.setCell ⟨g, f + i, none⟩ (.int .u8 ((x ^^^ z : Nat) : Int))) g (tAt p y f (i + 1)) := by
  obtain ⟨h1, h2, h3, h4, h5⟩ := h
  have hu : w.cell? ⟨g, f + i, none⟩ = some (.int .u8 (x : Int)) := by
    have := h5 (f + i) x (by rw [tAt_get, hx]; simp)
    rwa [Nat.zero_add] at this
  refine ⟨h1.setCell (p := ⟨g, f + i, none⟩) h2 _, h2, by simpa using h3, fun j => by rw [World.frozen?_setCell]; exact h4 j, fun j u hj => ?_⟩
  rw [Nat.zero_add]
  rw [tAt_get] at hj
  by_cases e : j = f + i
  · subst e
    rw [hx] at hj
    simp only [Option.map_some, Option.some.injEq] at hj
    rw [if_pos ⟨by omega, by omega⟩, show f + i - f = i from by omega, hz] at hj
    rw [← hj]
    exact World.cell?_setCell_same _ _ _ hu
  · refine (World.cell?_setCell_other _ _ _ _ (by intro e'; simp only [Addr.mk.injEq] at e'; omega)).trans ?_
    have := h5 j u (by
      rw [tAt_get, ← hj]
      congr 1
      funext a
      by_cases h6 : f ≤ j ∧ j < f + i
      · rw [if_pos h6, if_pos ⟨h6.1, by omega⟩]
      · rw [if_neg h6, if_neg (fun h7 => h6 ⟨h7.1, by omega⟩)])
    rwa [Nat.zero_add] at this
theorem TInv.drew {w0 w : World} {g : Nat} {l : List Nat} (h : TInv w0 w g l) : TInv w0 w.drew g l := ⟨h.1.drew, h.2.1, h.2.2.1, h.2.2.2.1, h.2.2.2.2⟩
theorem TInv.out {w0 w : World} {g c n : Nat} {l : List Nat} (h : TInv w0 w g l) (hn : l.length = n) (hc : n ≤ c) : ByOut w (.slice (some ⟨g, 0, none⟩) n c) l := by
  subst hn
  exact ⟨_, c, rfl, hc, fun _ => ⟨g, 0, rfl, h.2.2.2.2⟩⟩
theorem u8_xor (x z : Nat) (hx : x < 256) (hz : z < 256) : bits .xor .u8 (x : Int) (z : Int) = ((x ^^^ z : Nat) : Int) := u8_xor_nat x z hx hz
set_option maxRecDepth 100000 in
set_option maxHeartbeats 4000000 in
theorem crcTold_c (v : Value) (b : List Nat) (hb : Bytes b) (t y0 y1 y2 y3 : Nat) (ht : t < 65536) (h0 : y0 < 256) (h1 : y1 < 256) (h2 : y2 < 256) (h3 : y3 < 256) (w : World) (hG : G w) (g : ByOut w v b) :
    Calls Tryd.prog 5 #[v, .int .u16 (t : Nat), .agg #[.int .u8 (y0 : Nat), .int .u8 (y1 : Nat), .int .u8 (y2 : Nat), .int .u8 (y3 : Nat)]] w fun e w' => e = .returned (.bool true) ∧ Below w.heap.size w w' := by
  have HG := Lib.hid hG
  clear hG
  have G := Lib.hid g
  obtain ⟨A, c, rfl, hc, x⟩ := g
  obtain ⟨n, hn⟩ : ∃ n, b.length = n := ⟨_, rfl⟩
  rw [hn] at hc G ⊢
  have AL := Lib.hid alive_c
  have GR := great_c A n c
  by_cases hbig : 5000 < n
  · rw [decide_eq_true (show (5000 : Int) < (n : Int) by omega)] at GR
    have G1 := Lib.hid GR
    clear GR x
    go_enter Tryd.func5, Tryd.ntmps5
    go_wp2_with fail
    refine (AL.out _ (HG.out.alloc _)).mono ?_; rintro _ w1 ⟨rfl, hb1⟩
    go_wp2_with fail
    refine (G1.out _).mono ?_; rintro _ w2 ⟨rfl, rfl⟩
    go_wp2
    go_ret
    exact ⟨rfl, Below.trans ((Below.refl _ _).alloc (Nat.le_refl _) _) (hb1.mono (by simp))⟩
  · rw [decide_eq_false (show ¬ (5000 : Int) < (n : Int) by omega)] at GR
    have G1 := Lib.hid GR
    obtain ⟨N, hNn⟩ : ∃ N, n + 4 = N := ⟨_, rfl⟩
    have hpl : (cPut b).length = N := by unfold cPut; rw [List.length_append, le4_length, hn]; exact hNn
    have hNi : (n : Int) + 4 = (N : Int) := by omega
    have hN0 : 0 < (N : Int) := by omega
    have hN1 : (N : Int) ≤ 5004 := by omega
    obtain ⟨f, hf⟩ : ∃ f : Nat, t % N = f := ⟨_, rfl⟩
    have hfN : f < N := by rw [← hf]; exact Nat.mod_lt _ (by omega)
    have hfi : (t : Int) % (N : Int) = (f : Int) := by rw [← hf]; omega
    have hpb : Bytes (cPut b) := by unfold cPut; exact Bytes.app hb (le4_bytes _)
    have PP := Lib.hid (fun w k h => CP.put_c (.slice A n c) b (by omega) hb w k h)
    have K1 := fun v w k h => CP.check_c v (cPut b) (by omega) hpb w k h
    rw [cChk_put] at K1
    have KK := Lib.hid K1
    have S3 := fun v1 w f1 f2 => CR.same_c v1 (.slice A n c) b b (by omega) (by omega) w f1 f2
    rw [decide_eq_true rfl] at S3
    have SS := Lib.hid S3
    have HPL := Lib.hid hpl; have HPB := Lib.hid hpb; have HBB := Lib.hid hb; have HN := Lib.hid hn
    have HNN := Lib.hid hNn
    clear GR x K1 S3 hpl hpb hb hn hNn hf
    go_enter Tryd.func5, Tryd.ntmps5
    go_wp2_with fail
    refine (AL.out _ (HG.out.alloc _)).mono ?_; rintro _ w1 ⟨rfl, hb1⟩
    have B1 := Lib.hid (show Below w.heap.size w w1 from Below.trans ((Below.refl _ _).alloc (Nat.le_refl _) _) (hb1.mono (by simp)))
    have Y0 : ∀ j u, [y0, y1, y2, y3][j]? = some u → w1.cell? ⟨w.heap.size, j, none⟩ = some (.int .u8 ((u : Nat) : Int)) := by
      intro j u hj
      refine (hb1.cell (p := ⟨w.heap.size, j, none⟩) (by simp)).trans ?_
      rcases j with _ | _ | _ | _ | j
      all_goals simp at hj
      all_goals subst hj
      all_goals go_simp
    have hsz : w.heap.size < w1.heap.size := (by have := hb1.size; simp at this; omega)
    have YY := Lib.hid Y0
    clear Y0 hb1
    go_wp2_with fail
    refine (G1.out _).mono ?_; rintro _ w2 ⟨rfl, rfl⟩
    go_wp2_with fail
    refine (PP.out _ (HG.out.below B1.out) (G.out.below B1.out)).mono ?_; rintro _ w3 ⟨v3, rfl, hn3, hb3⟩
    obtain ⟨A3, c3, hv3, hc3, hx3⟩ := hn3.form
    rw [HPL.out] at hv3 hc3
    have O3 := Lib.hid hn3.out; have B3 := Lib.hid (below_next B1.out hb3); have C3 := Lib.hid hb3
    have YY3 := Lib.hid (fun j u hj => (hb3.cell (p := ⟨w.heap.size, j, none⟩) hsz).trans (YY.out j u hj))
    have HX3 := Lib.hid hx3
    subst hv3
    clear hn3 hb3 hx3
    go_wp2_with fail
    refine (KK.out _ _ (HG.out.below B3.out) O3.out).mono ?_; rintro _ w4 ⟨v4, rfl, hn4, hb4⟩
    have O4 := Lib.hid hn4; have B4 := Lib.hid hb4; have B34 := Lib.hid (below_next B3.out hb4)
    clear hn4 hb4
    go_wp2_with fail
    refine (SS.out _ _ O4.out (G.out.below B34.out)).mono ?_; rintro _ w5 ⟨rfl, hb5⟩
    have B5 := Lib.hid (below_next B4.out hb5); have B35 := Lib.hid (below_next B34.out hb5)
    clear hb5
    go_wp2_with fail
    have hp0 : cPut b ≠ [] := by intro h; have := HPL.out; rw [h] at this; simp at this; omega
    obtain ⟨g3, rfl, hg1, hg2, hg3, hg4⟩ := HX3.out hp0
    have B15 : Below w1.heap.size w1 w5 := below_next C3.out B5.out
    have T5 : TInv w1 w5 g3 (tAt (cPut b) [y0, y1, y2, y3] f 0) := by
      rw [tAt_zero]
      exact ⟨B15, hg1, Nat.lt_of_lt_of_le hg2 B5.out.size, fun i => (B5.out.frozen (p := ⟨g3, i, none⟩) hg2).trans (hg4 i), hg3.below B5.out⟩
    have TT := Lib.hid T5
    clear hp0 hg1 hg2 hg3 hg4 T5
    simp only [hfi]
    have HFI := Lib.hid hfi
    clear hfi
    go_loopw [10, 12] (fun e u wr => ∃ i : Nat, i ≤ 4 ∧ f + i ≤ N ∧ e = .bool (chg [y0, y1, y2, y3] i) ∧ u = .int .i64 i ∧ Hid (TInv w1 wr g3 (tAt (cPut b) [y0, y1, y2, y3] f i))) (fun _ u _ => 4 - (intOf u).toNat)
    case atStart => exact ⟨0, by omega, by omega, rfl, rfl, TT.out⟩
    case round =>
      obtain ⟨i, hi4, hfi4, rfl, rfl, HT⟩ := hrel
      by_cases hlt : i < 4 ∧ f + i < N
      · obtain ⟨hl1, hl2⟩ := hlt
        obtain ⟨xx, hxx⟩ : ∃ xx, (cPut b)[f + i]? = some xx := ⟨_, List.getElem?_eq_getElem (by rw [HPL.out]; exact hl2)⟩
        obtain ⟨z, hz⟩ : ∃ z, [y0, y1, y2, y3].getD i 0 = z := ⟨_, rfl⟩
        have hyi : [y0, y1, y2, y3][i]? = some z := by
          have hl : i < [y0, y1, y2, y3].length := by simpa using hl1
          rw [← hz, List.getD_eq_getElem?_getD, List.getElem?_eq_getElem hl]; rfl
        have hzl : z < 256 := by
          have hm := List.mem_of_getElem? hyi
          simp only [List.mem_cons, List.not_mem_nil, or_false] at hm
          rcases hm with rfl | rfl | rfl | rfl <;> assumption
        have hxl : xx < 256 := HPB.out xx (List.mem_of_getElem? hxx)
        have c0 : wr.cell? ⟨w.heap.size, i, none⟩ = some (.int .u8 ((z : Nat) : Int)) := (HT.out.1.cell (p := ⟨w.heap.size, i, none⟩) hsz).trans (YY.out i z hyi)
        obtain ⟨iN, hiN⟩ : ∃ q, q = f + i := ⟨_, rfl⟩
        have c1 : wr.cell? ⟨g3, iN, none⟩ = some (.int .u8 ((xx : Nat) : Int)) := by
          have := HT.out.2.2.2.2 (f + i) xx (by rw [tAt_get, hxx]; simp)
          rw [Nat.zero_add] at this
          rw [hiN]; exact this
        have f1 : wr.frozen? ⟨g3, iN, none⟩ = false := HT.out.2.2.2.1 iN
        have st := tinv_step HT.out hxx hz
        rw [← hiN] at st
        have STP := Lib.hid st
        have hxo := u8_xor xx z hxl hzl
        have hcs := chg_succ (y := [y0, y1, y2, y3]) (i := i) (by simpa using hl1)
        rw [hz] at hcs
        have ea : ((f : Int) + (i : Int)).toNat = iN := by omega
        have pa : (0 : Int) ≤ (f : Int) + (i : Int) := by omega
        have ba : (f : Int) + (i : Int) < (N : Int) := by omega
        have ra : IntKind.i64.wrap ((f : Int) + (i : Int)) = (f : Int) + (i : Int) := by rw [IntKind.wrap_i64]; omega
        have hi1 : (i : Int) < 4 := by omega
        have hi2 : (i : Int) < (N : Int) - (f : Int) := by omega
        have hi3 : (0 : Int) ≤ (i : Int) := by omega
        have c9 : ∀ w2, TInv w1 w2 g3 (tAt (cPut b) [y0, y1, y2, y3] f (i + 1)) → w2.cell? ⟨w.heap.size, i, none⟩ = some (.int .u8 ((z : Nat) : Int)) := fun w2 h => (h.1.cell (p := ⟨w.heap.size, i, none⟩) hsz).trans (YY.out i z hyi)
        have C9 := Lib.hid c9; have HCS := Lib.hid hcs
        clear c9 hcs st hxx hz hyi HT hiN
        go_wp2_with fail
        go_region
        have T6 := Lib.hid STP.out.drew
        clear STP
        generalize (wr.setCell ⟨g3, iN, none⟩ (.int .u8 ((xx ^^^ z : Nat) : Int))).drew = w6 at T6 ⊢
        have c2 := C9.out _ T6.out
        clear c0 c1 f1 ea ra hxo
        cases hch : chg [y0, y1, y2, y3] i with
        | true =>
          have hc2 : chg [y0, y1, y2, y3] (i + 1) = true := by rw [HCS.out, hch]; rfl
          have HC2 := Lib.hid hc2
          clear hc2 hch HCS
          go_wp2
          go_roundw
          case rel => exact ⟨i + 1, by omega, by omega, congrArg Value.bool HC2.out.symm, by go_num, T6.out⟩
          case measure => simp [intOf]; omega
        | false =>
          by_cases hz0 : z = 0
          · have hc2 : chg [y0, y1, y2, y3] (i + 1) = false := by rw [HCS.out, hch, hz0]; rfl
            have ht0 : ((z : Int) != 0) = false := by rw [hz0]; rfl
            have HC2 := Lib.hid hc2
            clear hc2 hch HCS hz0
            go_wp2
            go_roundw
            case rel => exact ⟨i + 1, by omega, by omega, congrArg Value.bool HC2.out.symm, by go_num, T6.out⟩
            case measure => simp [intOf]; omega
          · have hc2 : chg [y0, y1, y2, y3] (i + 1) = true := by rw [HCS.out, hch, Bool.false_or, bne_iff_ne]; exact hz0
            have ht0 : ((z : Int) != 0) = true := by rw [bne_iff_ne]; omega
            have HC2 := Lib.hid hc2
            clear hc2 hch HCS hz0
            go_wp2
            go_roundw
            case rel => exact ⟨i + 1, by omega, by omega, congrArg Value.bool HC2.out.symm, by go_num, T6.out⟩
            case measure => simp [intOf]; omega
      · have hyb : Bytes [y0, y1, y2, y3] := by
          intro q hq
          simp only [List.mem_cons, List.not_mem_nil, or_false] at hq
          rcases hq with rfl | rfl | rfl | rfl <;> assumption
        have htl : (tAt (cPut b) [y0, y1, y2, y3] f i).length = N := by rw [tAt_length]; exact HPL.out
        have OO := Lib.hid (TInv.out HT.out htl hc3)
        have KF := fun v w k h => CP.check_c v (tAt (cPut b) [y0, y1, y2, y3] f i) (by rw [htl]; omega) (tAt_bytes HPB.out hyb f i) w k h
        have BW := Lib.hid (B1.out.trans (HT.out.1.mono B1.out.size))
        have hend : (¬ i < 4) ∨ (i < 4 ∧ ¬ (i : Int) < (N : Int) - (f : Int)) := by omega
        cases hch : chg [y0, y1, y2, y3] i with
        | true =>
          rw [chk_changed HBB.out hyb rfl hi4 (by rw [HPL.out]; exact hfi4) hch] at KF
          have KH := Lib.hid KF
          clear KF hyb htl hch HT
          rcases hend with he | ⟨he1, he2⟩
          · have he' : ¬ (i : Int) < 4 := by omega
            go_wp2_with fail
            refine (KH.out _ _ (HG.out.below BW.out) OO.out).mono ?_; rintro _ w7 ⟨v7, rfl, hv7, hb7⟩
            obtain ⟨A7, c7, rfl, _, _⟩ := hv7
            simp only [List.length_nil]
            go_wp2
            go_ret
            exact ⟨rfl, below_next BW.out hb7⟩
          · have he1' : (i : Int) < 4 := by omega
            go_wp2_with fail
            refine (KH.out _ _ (HG.out.below BW.out) OO.out).mono ?_; rintro _ w7 ⟨v7, rfl, hv7, hb7⟩
            obtain ⟨A7, c7, rfl, _, _⟩ := hv7
            simp only [List.length_nil]
            go_wp2
            go_ret
            exact ⟨rfl, below_next BW.out hb7⟩
        | false =>
          rw [tAt_same hch, cChk_put] at KF
          rw [tAt_same hch] at OO
          have KH := Lib.hid KF
          clear KF hyb htl hch HT
          rcases hend with he | ⟨he1, he2⟩
          · have he' : ¬ (i : Int) < 4 := by omega
            go_wp2_with fail
            refine (KH.out _ _ (HG.out.below BW.out) OO.out).mono ?_; rintro _ w7 ⟨v7, rfl, hv7, hb7⟩
            have V7 := Lib.hid hv7; have B7 := Lib.hid (below_next BW.out hb7)
            clear hv7 hb7
            go_wp2_with fail
            refine (SS.out _ _ V7.out (G.out.below B7.out)).mono ?_; rintro _ w8 ⟨rfl, hb8⟩
            go_wp2
            go_ret
            exact ⟨rfl, below_next B7.out hb8⟩
          · have he1' : (i : Int) < 4 := by omega
            go_wp2_with fail
            refine (KH.out _ _ (HG.out.below BW.out) OO.out).mono ?_; rintro _ w7 ⟨v7, rfl, hv7, hb7⟩
            have V7 := Lib.hid hv7; have B7 := Lib.hid (below_next BW.out hb7)
            clear hv7 hb7
            go_wp2_with fail
            refine (SS.out _ _ V7.out (G.out.below B7.out)).mono ?_; rintro _ w8 ⟨rfl, hb8⟩
            go_wp2
            go_ret
            exact ⟨rfl, below_next B7.out hb8⟩
end Go.Proofs.YtkancdioibfjiaaDoor.CW
