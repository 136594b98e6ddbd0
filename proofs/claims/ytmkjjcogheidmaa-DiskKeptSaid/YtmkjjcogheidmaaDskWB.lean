/-
  The statements of layer 6, walked, the second part: steps of a play.
-/
import Derived.Test.YtmkjjcogheidmaaDskW
import Derived.BigRegion
import Derived.Deep.RegionWith
import Derived.Deep.QuietTactic
import Derived.Deep.RegionHeld3
import Derived.BigQuiet
set_option linter.unusedSimpArgs false
set_option linter.unusedVariables false
namespace Go.Proofs.Ytmkjjcogheidmaa.DW
open Go.RowKit
structure PSt where
  kind : Nat
  name : Nat
  to : Nat
  data : List Nat
def nmOf (n : Nat) : ByteArray := if n % 4 = 0 then ⟨#[97]⟩ else if n % 4 = 1 then ⟨#[98]⟩ else if n % 4 = 2 then ⟨#[99]⟩ else ⟨#[100]⟩
theorem okNm (n : Nat) : okN (nmOf n) := by
  unfold nmOf
  split
  · exact ⟨by decide, by decide⟩
  split
  · exact ⟨by decide, by decide⟩
  split
  · exact ⟨by decide, by decide⟩
  · exact ⟨by decide, by decide⟩
def pPlay (D : PD) (s : PSt) : PD × Int :=
  if s.kind % 7 = 0 then pCreate D (nmOf s.name) else if s.kind % 7 = 1 ∨ s.kind % 7 = 2 then pAppend D (nmOf s.name) s.data else if s.kind % 7 = 3 then pSync D (nmOf s.name)
  else if s.kind % 7 = 4 then pRename D (nmOf s.name) (nmOf s.to) else if s.kind % 7 = 5 then pRemove D (nmOf s.name) else (pSyncDir D, 0)
/-- A row of steps. -/
def StOk (s : PSt) : Prop := s.kind < 256 ∧ s.name < 256 ∧ s.to < 256 ∧ Bytes s.data
def StAt (l : List PSt) (w : World) (b o k : Nat) : Prop :=
  ∃ f, l[k]? = some f ∧ w.cell? ⟨b, o, none⟩ = some (.int .u8 (f.kind : Nat)) ∧ w.cell? ⟨b, o + 1, none⟩ = some (.int .u8 (f.name : Nat)) ∧ w.cell? ⟨b, o + 2, none⟩ = some (.int .u8 (f.to : Nat)) ∧ ∃ u, w.cell? ⟨b, o + 3, none⟩ = some u ∧ ByOut w u f.data
def StOut (w : World) (v : Value) (l : List PSt) : Prop := SlOut (fun _ => True) w v l.length 4 (StAt l)
theorem StAt.below {l : List PSt} {w w' : World} (hb : Below w.heap.size w w') {b o k : Nat} (h : StAt l w b o k) : StAt l w' b o k := by
  obtain ⟨f, hf, h1, h2, h3, u, h4, hu⟩ := h
  exact ⟨f, hf, cell_below hb h1, cell_below hb h2, cell_below hb h3, u, cell_below hb h4, hu.below hb⟩
theorem StOut.below {l : List PSt} {w w' : World} {v : Value} (h : StOut w v l) (hb : Below w.heap.size w w') : StOut w' v l := SlOut.imp h fun _ _ _ hS h => ⟨hS, StAt.below hb h⟩
set_option maxHeartbeats 1000000 in
theorem name_c (n : Nat) (h : n < 256) (w : World) : Calls Try.prog 25 #[.int .u8 (n : Nat)] w fun e w' => e = .returned (.string (nmOf n)) ∧ w = w' := by
  have h0 : n % 4 = 0 ∨ n % 4 = 1 ∨ n % 4 = 2 ∨ n % 4 = 3 := by omega
  have hn0 : (0 : Int) ≤ (n : Int) := by omega
  have hn1 : (n : Int) < 256 := by omega
  rcases h0 with h0 | h0 | h0 | h0
  all_goals
    have hi : (n : Int) % 4 = ((n % 4 : Nat) : Int) := by omega
    rw [h0] at hi
    have hr : nmOf n = nmOf (n % 4) := by unfold nmOf; rw [Nat.mod_mod]
    rw [h0] at hr
    rw [hr]
    clear hr h0
    go_enter Try.func25, Try.ntmps25
    go_wp2
    go_ret
    exact ⟨rfl, rfl⟩
/-- The boxes of a play: what comes in, and the answer's place. -/
structure Box (w w2 : World) (q : Int) (v1 v2 v3 v4 : Value) (x : Int) (k n t : Int) (u : Value) : Prop where
  below : Below w.heap.size w w2
  size : w2.heap.size = w.heap.size + 3
  d : Holds w2 w.heap.size [.int .i64 q, v1, v2, v3, v4, .int .i64 x]
  s : Holds w2 (w.heap.size + 1) [.int .u8 k, .int .u8 n, .int .u8 t, u]
  r : DVar w2 (w.heap.size + 2) 6
theorem holds_alloc (w : World) (cs : Array Value) (t : TypeId) : Holds (w.alloc (.cells cs t)) w.heap.size cs.toList := by
  have hh : (w.alloc (.cells cs t)).heap[w.heap.size]? = some (.cells cs t) := by
    show (w.heap.push (.cells cs t))[w.heap.size]? = _
    exact Array.getElem?_push_size
  intro j v hv
  rw [cell_of_row _ _ _ _ _ _ hh, ← Array.getElem?_toList]
  exact hv
theorem box_of0 (w : World) (q : Int) (v1 v2 v3 v4 : Value) (x : Int) (k n t : Int) (u : Value) (t1 t2 t3 : TypeId) (z0 z1 z2 z3 z4 z5 : Value) :
    Box w (((w.alloc (.cells #[.int .i64 q, v1, v2, v3, v4, .int .i64 x] t1)).alloc (.cells #[.int .u8 k, .int .u8 n, .int .u8 t, u] t2)).alloc (.cells #[z0, z1, z2, z3, z4, z5] t3)) q v1 v2 v3 v4 x k n t u := by
  have a1 := alloc_below w (.cells #[.int .i64 q, v1, v2, v3, v4, .int .i64 x] t1)
  have h1 := holds_alloc w #[.int .i64 q, v1, v2, v3, v4, .int .i64 x] t1
  have s1 : (w.alloc (.cells #[.int .i64 q, v1, v2, v3, v4, .int .i64 x] t1)).heap.size = w.heap.size + 1 := by simp
  generalize w.alloc (.cells #[.int .i64 q, v1, v2, v3, v4, .int .i64 x] t1) = w1 at *
  have a2 := alloc_below w1 (.cells #[.int .u8 k, .int .u8 n, .int .u8 t, u] t2)
  have h2 := holds_alloc w1 #[.int .u8 k, .int .u8 n, .int .u8 t, u] t2
  have s2 : (w1.alloc (.cells #[.int .u8 k, .int .u8 n, .int .u8 t, u] t2)).heap.size = w1.heap.size + 1 := by simp
  generalize w1.alloc (.cells #[.int .u8 k, .int .u8 n, .int .u8 t, u] t2) = w2 at *
  have a3 := alloc_below w2 (.cells #[z0, z1, z2, z3, z4, z5] t3)
  have h3 := DVar.alloc (w := w2) #[z0, z1, z2, z3, z4, z5] t3
  have s3 : (w2.alloc (.cells #[z0, z1, z2, z3, z4, z5] t3)).heap.size = w2.heap.size + 1 := by simp
  generalize w2.alloc (.cells #[z0, z1, z2, z3, z4, z5] t3) = w3 at *
  refine ⟨bnext (bnext a1 a2) a3, by rw [s3, s2, s1], ?_, ?_, ?_⟩
  · exact fun j v hv => ((h1.below a2).below a3) j v hv
  · rw [← s1]; exact fun j v hv => (h2.below a3) j v hv
  · rw [show w.heap.size + 2 = w2.heap.size from by rw [s2, s1]]
    exact ⟨h3.lt, h3.c, h3.f⟩
theorem Box.drew {w w2 : World} {q : Int} {v1 v2 v3 v4 : Value} {x : Int} {k n t : Int} {u : Value} (h : Box w w2 q v1 v2 v3 v4 x k n t u) : Box w w2.drew q v1 v2 v3 v4 x k n t u :=
  ⟨h.below.drew, h.size, h.d, h.s, ⟨h.r.lt, h.r.c, h.r.f⟩⟩
theorem held9 {w w' : World} {b0 o0 b1 o1 b2 o2 b3 o3 b4 o4 b5 o5 b6 o6 b7 o7 b8 o8 : Nat} {v0 v1 v2 v3 v4 v5 v6 v7 v8 : Value} (h : w.cell? ⟨b0, o0, none⟩ = some v0 ∧ w.cell? ⟨b1, o1, none⟩ = some v1 ∧ w.cell? ⟨b2, o2, none⟩ = some v2 ∧ w.cell? ⟨b3, o3, none⟩ = some v3 ∧ w.cell? ⟨b4, o4, none⟩ = some v4 ∧ w.cell? ⟨b5, o5, none⟩ = some v5 ∧ w.cell? ⟨b6, o6, none⟩ = some v6 ∧ w.cell? ⟨b7, o7, none⟩ = some v7 ∧ w.cell? ⟨b8, o8, none⟩ = some v8) (hb : Below w.heap.size w w') :
    w'.cell? ⟨b0, o0, none⟩ = some v0 ∧ w'.cell? ⟨b1, o1, none⟩ = some v1 ∧ w'.cell? ⟨b2, o2, none⟩ = some v2 ∧ w'.cell? ⟨b3, o3, none⟩ = some v3 ∧ w'.cell? ⟨b4, o4, none⟩ = some v4 ∧ w'.cell? ⟨b5, o5, none⟩ = some v5 ∧ w'.cell? ⟨b6, o6, none⟩ = some v6 ∧ w'.cell? ⟨b7, o7, none⟩ = some v7 ∧ w'.cell? ⟨b8, o8, none⟩ = some v8 := ⟨cell_below hb h.1, cell_below hb h.2.1, cell_below hb h.2.2.1, cell_below hb h.2.2.2.1, cell_below hb h.2.2.2.2.1, cell_below hb h.2.2.2.2.2.1, cell_below hb h.2.2.2.2.2.2.1, cell_below hb h.2.2.2.2.2.2.2.1, cell_below hb h.2.2.2.2.2.2.2.2⟩
theorem held9k {B : Nat} {w w' : World} {b0 o0 b1 o1 b2 o2 b3 o3 b4 o4 b5 o5 b6 o6 b7 o7 b8 o8 : Nat} {v0 v1 v2 v3 v4 v5 v6 v7 v8 : Value} (h : w.cell? ⟨b0, o0, none⟩ = some v0 ∧ w.cell? ⟨b1, o1, none⟩ = some v1 ∧ w.cell? ⟨b2, o2, none⟩ = some v2 ∧ w.cell? ⟨b3, o3, none⟩ = some v3 ∧ w.cell? ⟨b4, o4, none⟩ = some v4 ∧ w.cell? ⟨b5, o5, none⟩ = some v5 ∧ w.cell? ⟨b6, o6, none⟩ = some v6 ∧ w.cell? ⟨b7, o7, none⟩ = some v7 ∧ w.cell? ⟨b8, o8, none⟩ = some v8) (hk : KeepS (fun g => g ≠ B) w w') (s0 : b0 ≠ B) (s1 : b1 ≠ B) (s2 : b2 ≠ B) (s3 : b3 ≠ B) (s4 : b4 ≠ B) (s5 : b5 ≠ B) (s6 : b6 ≠ B) (s7 : b7 ≠ B) (s8 : b8 ≠ B) :
    w'.cell? ⟨b0, o0, none⟩ = some v0 ∧ w'.cell? ⟨b1, o1, none⟩ = some v1 ∧ w'.cell? ⟨b2, o2, none⟩ = some v2 ∧ w'.cell? ⟨b3, o3, none⟩ = some v3 ∧ w'.cell? ⟨b4, o4, none⟩ = some v4 ∧ w'.cell? ⟨b5, o5, none⟩ = some v5 ∧ w'.cell? ⟨b6, o6, none⟩ = some v6 ∧ w'.cell? ⟨b7, o7, none⟩ = some v7 ∧ w'.cell? ⟨b8, o8, none⟩ = some v8 := ⟨(hk _ _ s0).trans h.1, (hk _ _ s1).trans h.2.1, (hk _ _ s2).trans h.2.2.1, (hk _ _ s3).trans h.2.2.2.1, (hk _ _ s4).trans h.2.2.2.2.1, (hk _ _ s5).trans h.2.2.2.2.2.1, (hk _ _ s6).trans h.2.2.2.2.2.2.1, (hk _ _ s7).trans h.2.2.2.2.2.2.2.1, (hk _ _ s8).trans h.2.2.2.2.2.2.2.2⟩
/-- A store of a whole variable as a step of a region that draws its order. -/
theorem step_put {P : Program} {ops : Array Oper} {op : Oper} {a : Act} {w : World} {K : Act → World → Prop} {Q : Exit → Act → World → Prop} {E : Prop} (hgd : op.guard = none) (ty : TypeId) (x y : Operand) (ho : op.op = .store ty x y)
    (b : Nat) (cs : List Value) (hx : a.eval x = .pointer (some ⟨b, 0, none⟩)) (hy : a.eval y = .agg cs.toArray) (hv : DVar w b cs.length)
    (hi : (P.info? ty).map (·.size) = some cs.length) (h1 : ∀ v ∈ cs, v.oneCell' = true)
    (h : ∀ w', Put w w' b cs → K (a.put op.dst undef) w') : if Region.wanted op (yielded ops a.tmps) = true then Oper.wp P op a w K Q else E := by
  have hw : Region.wanted op (yielded ops a.tmps) = true := by simp [Region.wanted, hgd]
  rw [if_pos hw]
  have ht : w.there b 0 cs.length := fun j hj => by
    rw [Nat.zero_add]
    obtain ⟨u, hu⟩ := hv.c j hj
    exact ⟨by rw [hu]; rfl, hv.f j hj⟩
  refine wp_store_mid ty x y ho b 0 cs.toArray hx hy (by simpa using ht) (by simpa using hi) (all_oneCell_toArray h1) ?_
  have e : cs.toArray.toList = cs := by simp
  rw [e]
  refine h _ ⟨var_sets cs 0 hv, fun j v hj => ?_, keep_sets cs 0 w, fun hB hb => below_sets hB cs 0 hb, size_sets cs 0 w, fun b' o' => World.frozen?_setCells b cs 0 w _, grown_sets cs 0 w⟩
  have := World.rangeAt_setCells_same w b 0 cs ht j v hj
  rw [Nat.zero_add] at this
  exact this
theorem play_in {S : Nat → Prop} {w w2 : World} {q : Int} {v v1 v2 v3 v4 : Value} {x : Int} {k n t : Int} {u : Value} {D : PD} (h : DkIn S w v D) (b : Box w w2 q v1 v2 v3 v4 x k n t u) : DkIn (fun g => S g ∧ g < w.heap.size) w2 v D :=
  ⟨(h.at_.mono fun g hg hS => ⟨hS, hg⟩).below b.below, h.inv, h.few⟩
theorem play_out {S : Nat → Prop} {w w2 w3 : World} {q : Int} {v v1 v2 v3 v4 : Value} {x : Int} {k n t : Int} {u : Value} {D : PD} (b : Box w w2 q v1 v2 v3 v4 x k n t u) (h : DkOut (fun g => (S g ∧ g < w.heap.size) ∨ w2.heap.size ≤ g) w3 v D) : DkOut (fun g => (S g ∨ w.heap.size ≤ g) ∧ g ≠ w.heap.size + 2) w3 v D :=
  h.mono fun g _ hS => by
    have := b.size
    rcases hS with ⟨h1, h2⟩ | h2
    · exact ⟨.inl h1, by omega⟩
    · exact ⟨.inr (by omega), by omega⟩
theorem he0 (X : PD × Int) : X = (X.1, X.2) := rfl
set_option maxRecDepth 100000 in
set_option maxHeartbeats 2000000 in
theorem play_c {S : Nat → Prop} {D : PD} {v u : Value} {w : World} (h : DkIn S w v D) (s : PSt) (hs : StOk s) (hl : s.data.length ≤ 100000) (hu : ByOut w u s.data) :
    Calls Try.prog 10 #[v, .agg #[.int .u8 (s.kind : Nat), .int .u8 (s.name : Nat), .int .u8 (s.to : Nat), u]] w (DkRet S (pPlay D s).1 (pPlay D s).2 w) := by
  obtain ⟨q, A1, n1, c1, A2, n2, c2, A3, n3, c3, A4, n4, c4, x, rfl⟩ := h.at_.form
  obtain ⟨B1, m1, rfl, hm1, hm2⟩ := id hu
  obtain ⟨hk, hn, ht, hd⟩ := hs
  have hk2 : ((s.kind : Nat) : Int) % 7 = ((s.kind % 7 : Nat) : Int) := by omega
  have hP : pPlay D s = pPlay D s := rfl
  have h7 : s.kind % 7 < 7 := Nat.mod_lt _ (by decide)
  have hk3 : (0 : Int) ≤ ((s.kind : Nat) : Int) ∧ ((s.kind : Nat) : Int) < 256 := by omega
  obtain ⟨kk, hkk⟩ : ∃ kk : Int, ((s.kind : Nat) : Int) = kk := ⟨_, rfl⟩
  rw [hkk] at hk2 hk3 ⊢
  obtain ⟨j, hj⟩ : ∃ j, s.kind % 7 = j := ⟨_, rfl⟩
  rw [hj] at hk2 h7
  have HJ := Lib.hid hj; have HU := Lib.hid hu; have HI := Lib.hid h; have HD := Lib.hid hd
  have N1 := Lib.hid (name_c s.name hn); have N2 := Lib.hid (name_c s.to ht)
  clear hj hu h hd hm1 hm2 hP hkk hn ht hk
  obtain ⟨k0, k1⟩ := hk3
  have hj7 : j = 0 ∨ j = 1 ∨ j = 2 ∨ j = 3 ∨ j = 4 ∨ j = 5 ∨ j = 6 := by omega
  clear h7
  rcases hj7 with rfl | rfl | rfl | rfl | rfl | rfl | rfl
  · have hq : kk % 7 = 0 := hk2
    have he : pPlay D s = pCreate D (nmOf s.name) := by unfold pPlay; rw [HJ.out]; rfl
    rw [he]
    clear hk2 he
    go_enter Try.func10, Try.ntmps10
    go_wp2_with fail
    obtain ⟨W, hw2⟩ : ∃ w2, (((w.alloc (.cells #[.int .i64 q, .slice A1 n1 c1, .slice A2 n2 c2, .slice A3 n3 c3, .slice A4 n4 c4, .int .i64 x] 29)).alloc (.cells #[.int .u8 kk, .int .u8 ((s.name : Nat) : Int), .int .u8 ((s.to : Nat) : Int), .slice B1 s.data.length m1] 36)).alloc (.cells #[.int .i64 0, .slice none 0 0, .slice none 0 0, .slice none 0 0, .slice none 0 0, .int .i64 0] 29)) = w2 := ⟨_, rfl⟩
    have BX := Lib.hid (show Box w W q (.slice A1 n1 c1) (.slice A2 n2 c2) (.slice A3 n3 c3) (.slice A4 n4 c4) x kk ((s.name : Nat) : Int) ((s.to : Nat) : Int) (.slice B1 s.data.length m1) from by rw [← hw2]; exact box_of0 _ _ _ _ _ _ _ _ _ _ _ _ _ _ _ _ _ _ _ _)
    rw [hw2]
    clear hw2
    have HI2 := Lib.hid (play_in HI.out BX.out.drew)
    have hS0 := BX.out.d.six
    have e1 := BX.out.s 1 _ rfl; have e2 := BX.out.s 2 _ rfl; have e3 := BX.out.s 3 _ rfl
    refine wp_region_held_drew (S := fun y => y.cell? ⟨w.heap.size, 0, none⟩ = some (.int .i64 q) ∧ y.cell? ⟨w.heap.size, 1, none⟩ = some (.slice A1 n1 c1) ∧ y.cell? ⟨w.heap.size, 2, none⟩ = some (.slice A2 n2 c2) ∧ y.cell? ⟨w.heap.size, 3, none⟩ = some (.slice A3 n3 c3) ∧ y.cell? ⟨w.heap.size, 4, none⟩ = some (.slice A4 n4 c4) ∧ y.cell? ⟨w.heap.size, 5, none⟩ = some (.int .i64 x) ∧ y.cell? ⟨w.heap.size + 1, 1, none⟩ = some (.int .u8 ((s.name : Nat) : Int)) ∧ y.cell? ⟨w.heap.size + 1, 2, none⟩ = some (.int .u8 ((s.to : Nat) : Int)) ∧ y.cell? ⟨w.heap.size + 1, 3, none⟩ = some (.slice B1 s.data.length m1)) (by kernel_rfl) ?hs (fun hHeld => ?hr)
    case hs => exact ⟨hS0.1, hS0.2.1, hS0.2.2.1, hS0.2.2.2.1, hS0.2.2.2.2.1, hS0.2.2.2.2.2, e1, e2, e3⟩
    case hr =>
      clear hS0 e1 e2 e3
      refine wpAnyH_take (i := 0) (v := .agg #[.int .i64 q, .slice A1 n1 c1, .slice A2 n2 c2, .slice A3 n3 c3, .slice A4 n4 c4, .int .i64 x]) rfl (by kernel_rfl) (by kernel_rfl) (by kernel_rfl) (fun _ _ _ h => h) (Or.inl ⟨by rfl, fun w hSw => ?_⟩) (by assumption) ?_
      · ((try dsimp only at hSw); go_simp)
      change wpAnyH _ _ _ _ _ _ _ (Act.put _ (some 11) (.agg #[.int .i64 q, .slice A1 n1 c1, .slice A2 n2 c2, .slice A3 n3 c3, .slice A4 n4 c4, .int .i64 x])) _
      simp only [Act.put, List.setIfInBounds_toArray, List.set_cons_zero, List.set_cons_succ]
      refine wpAnyH_take (i := 1) (v := .pointer (some ⟨w.heap.size + 1, 1, none⟩)) rfl (by kernel_rfl) (by kernel_rfl) (by kernel_rfl) (fun _ _ _ h => h) (Or.inl ⟨by rfl, fun w hSw => ?_⟩) (by assumption) ?_
      · ((try dsimp only at hSw); go_simp)
      change wpAnyH _ _ _ _ _ _ _ (Act.put _ (some 12) (.pointer (some ⟨w.heap.size + 1, 1, none⟩))) _
      simp only [Act.put, List.setIfInBounds_toArray, List.set_cons_zero, List.set_cons_succ]
      refine wpAnyH_take (i := 2) (v := .int .u8 ((s.name : Nat) : Int)) rfl (by kernel_rfl) (by kernel_rfl) (by kernel_rfl) (fun _ _ _ h => h) (Or.inl ⟨by rfl, fun w hSw => ?_⟩) (by assumption) ?_
      · ((try dsimp only at hSw); go_simp)
      change wpAnyH _ _ _ _ _ _ _ (Act.put _ (some 13) (.int .u8 ((s.name : Nat) : Int))) _
      simp only [Act.put, List.setIfInBounds_toArray, List.set_cons_zero, List.set_cons_succ]
      refine wpAnyH_ready (rs := [3]) (by kernel_rfl) (by simp) ?_
      refine AllReadyH.cons rfl (fun K hK => ?_) AllReadyH.nil
      go_simp
      refine (N1.out _).mono ?_; rintro e w1 ⟨rfl, rfl⟩
      (try go_wp2_with fail)
      refine hK.out _ _ ?_ (fun hHeld => ?_)
      · exact hHeld
      clear hK K
      try simp only [Act.put, List.setIfInBounds_toArray, List.set_cons_zero, List.set_cons_succ]
      refine wpAnyH_ready (rs := [4]) (by kernel_rfl) (by simp) ?_
      refine AllReadyH.cons rfl (fun K hK => ?_) AllReadyH.nil
      go_simp
      refine (DP.create_c (he0 _) (okNm _) HI2.out).mono ?_; rintro _ w3 ⟨v3, rfl, hd, hb⟩; obtain ⟨q5, E1, i1, j1, E2, i2, j2, E3, i3, j3, E4, i4, j4, x5, rfl⟩ := hd.form; have V3 := Lib.hid (DVar.below hb BX.out.drew.r); have B3 := Lib.hid (bnext BX.out.drew.below hb); have D3 := Lib.hid (play_out BX.out.drew hd); have KP := Lib.hid (held9 hHeld hb); clear hd hb
      (try go_wp2_with fail)
      refine hK.out _ _ ?_ (fun hHeld => ?_)
      · exact KP.out
      clear hK K
      try simp only [Act.put, List.setIfInBounds_toArray, List.set_cons_zero, List.set_cons_succ]
      refine wpAnyH_take (i := 5) (v := .agg #[.int .i64 q5, .slice E1 i1 j1, .slice E2 i2 j2, .slice E3 i3 j3, .slice E4 i4 j4, .int .i64 x5]) rfl (by kernel_rfl) (by kernel_rfl) (by kernel_rfl) (fun _ _ _ h => h) (Or.inl ⟨by rfl, fun w hSw => ?_⟩) (by assumption) ?_
      · ((try dsimp only at hSw); go_simp)
      change wpAnyH _ _ _ _ _ _ _ (Act.put _ (some 16) (.agg #[.int .i64 q5, .slice E1 i1 j1, .slice E2 i2 j2, .slice E3 i3 j3, .slice E4 i4 j4, .int .i64 x5])) _
      simp only [Act.put, List.setIfInBounds_toArray, List.set_cons_zero, List.set_cons_succ]
      refine wpAnyH_take (i := 6) (v := .int .i64 (pCreate D (nmOf s.name)).2) rfl (by kernel_rfl) (by kernel_rfl) (by kernel_rfl) (fun _ _ _ h => h) (Or.inl ⟨by rfl, fun w hSw => ?_⟩) (by assumption) ?_
      · ((try dsimp only at hSw); go_simp)
      change wpAnyH _ _ _ _ _ _ _ (Act.put _ (some 17) (.int .i64 (pCreate D (nmOf s.name)).2)) _
      simp only [Act.put, List.setIfInBounds_toArray, List.set_cons_zero, List.set_cons_succ]
      clear KP
      refine wpAnyH_ready (rs := [7]) (by kernel_rfl) (by simp) ?_
      refine AllReadyH.cons rfl (fun K hK => ?_) AllReadyH.nil
      refine step_put rfl 29 _ _ rfl (w.heap.size + 2) [.int .i64 q5, .slice E1 i1 j1, .slice E2 i2 j2, .slice E3 i3 j3, .slice E4 i4 j4, .int .i64 x5] rfl rfl V3.out (by kernel_rfl) (by simp [Value.oneCell']) ?_
      intro y hp
      refine hK.out _ _ ?_ (fun hHeld => ?_)
      · exact held9k (B := w.heap.size + 2) hHeld hp.keep (by omega) (by omega) (by omega) (by omega) (by omega) (by omega) (by omega) (by omega) (by omega)
      clear hK K
      try simp only [Act.put, List.setIfInBounds_toArray, List.set_cons_zero, List.set_cons_succ]
      refine wpAnyH_take (i := 8) (v := .int .i64 (pCreate D (nmOf s.name)).2) rfl (by kernel_rfl) (by kernel_rfl) (by kernel_rfl) (fun _ _ _ h => h) (Or.inl ⟨by rfl, fun w hSw => ?_⟩) (by assumption) ?_
      · ((try dsimp only at hSw); go_simp)
      change wpAnyH _ _ _ _ _ _ _ (Act.put _ (some 5) (.int .i64 (pCreate D (nmOf s.name)).2)) _
      simp only [Act.put, List.setIfInBounds_toArray, List.set_cons_zero, List.set_cons_succ]
      refine wpAnyH_done (by kernel_rfl) ?_ _
      obtain ⟨c0, c1, c2, c3, c4, c5⟩ := hp.at_.six
      go_wp2
      exact bodyPost_ret (v := .tuple #[.agg #[.int .i64 q5, .slice E1 i1 j1, .slice E2 i2 j2, .slice E3 i3 j3, .slice E4 i4 j4, .int .i64 x5], .int .i64 (pCreate D (nmOf s.name)).2]) (by simp [results, Try.results10, go_sem, c0, c1, c2, c3, c4, c5]) rfl ⟨_, rfl, (D3.out.keep fun a b h => hp.keep a b h.2).mono fun _ _ h => h.1, hp.below (Nat.le_add_right _ 2) B3.out⟩
  · have hq : kk % 7 = 1 := hk2
    have he : pPlay D s = pAppend D (nmOf s.name) s.data := by unfold pPlay; rw [HJ.out]; rfl
    rw [he]
    clear hk2 he
    go_enter Try.func10, Try.ntmps10
    go_wp2_with fail
    obtain ⟨W, hw2⟩ : ∃ w2, (((w.alloc (.cells #[.int .i64 q, .slice A1 n1 c1, .slice A2 n2 c2, .slice A3 n3 c3, .slice A4 n4 c4, .int .i64 x] 29)).alloc (.cells #[.int .u8 kk, .int .u8 ((s.name : Nat) : Int), .int .u8 ((s.to : Nat) : Int), .slice B1 s.data.length m1] 36)).alloc (.cells #[.int .i64 0, .slice none 0 0, .slice none 0 0, .slice none 0 0, .slice none 0 0, .int .i64 0] 29)) = w2 := ⟨_, rfl⟩
    have BX := Lib.hid (show Box w W q (.slice A1 n1 c1) (.slice A2 n2 c2) (.slice A3 n3 c3) (.slice A4 n4 c4) x kk ((s.name : Nat) : Int) ((s.to : Nat) : Int) (.slice B1 s.data.length m1) from by rw [← hw2]; exact box_of0 _ _ _ _ _ _ _ _ _ _ _ _ _ _ _ _ _ _ _ _)
    rw [hw2]
    clear hw2
    have HI2 := Lib.hid (play_in HI.out BX.out.drew)
    have hS0 := BX.out.d.six
    have e1 := BX.out.s 1 _ rfl; have e2 := BX.out.s 2 _ rfl; have e3 := BX.out.s 3 _ rfl
    refine wp_region_held_drew (S := fun y => y.cell? ⟨w.heap.size, 0, none⟩ = some (.int .i64 q) ∧ y.cell? ⟨w.heap.size, 1, none⟩ = some (.slice A1 n1 c1) ∧ y.cell? ⟨w.heap.size, 2, none⟩ = some (.slice A2 n2 c2) ∧ y.cell? ⟨w.heap.size, 3, none⟩ = some (.slice A3 n3 c3) ∧ y.cell? ⟨w.heap.size, 4, none⟩ = some (.slice A4 n4 c4) ∧ y.cell? ⟨w.heap.size, 5, none⟩ = some (.int .i64 x) ∧ y.cell? ⟨w.heap.size + 1, 1, none⟩ = some (.int .u8 ((s.name : Nat) : Int)) ∧ y.cell? ⟨w.heap.size + 1, 2, none⟩ = some (.int .u8 ((s.to : Nat) : Int)) ∧ y.cell? ⟨w.heap.size + 1, 3, none⟩ = some (.slice B1 s.data.length m1)) (by kernel_rfl) ?hs (fun hHeld => ?hr)
    case hs => exact ⟨hS0.1, hS0.2.1, hS0.2.2.1, hS0.2.2.2.1, hS0.2.2.2.2.1, hS0.2.2.2.2.2, e1, e2, e3⟩
    case hr =>
      clear hS0 e1 e2 e3
      refine wpAnyH_take (i := 0) (v := .agg #[.int .i64 q, .slice A1 n1 c1, .slice A2 n2 c2, .slice A3 n3 c3, .slice A4 n4 c4, .int .i64 x]) rfl (by kernel_rfl) (by kernel_rfl) (by kernel_rfl) (fun _ _ _ h => h) (Or.inl ⟨by rfl, fun w hSw => ?_⟩) (by assumption) ?_
      · ((try dsimp only at hSw); go_simp)
      change wpAnyH _ _ _ _ _ _ _ (Act.put _ (some 21) (.agg #[.int .i64 q, .slice A1 n1 c1, .slice A2 n2 c2, .slice A3 n3 c3, .slice A4 n4 c4, .int .i64 x])) _
      simp only [Act.put, List.setIfInBounds_toArray, List.set_cons_zero, List.set_cons_succ]
      refine wpAnyH_take (i := 1) (v := .pointer (some ⟨w.heap.size + 1, 1, none⟩)) rfl (by kernel_rfl) (by kernel_rfl) (by kernel_rfl) (fun _ _ _ h => h) (Or.inl ⟨by rfl, fun w hSw => ?_⟩) (by assumption) ?_
      · ((try dsimp only at hSw); go_simp)
      change wpAnyH _ _ _ _ _ _ _ (Act.put _ (some 22) (.pointer (some ⟨w.heap.size + 1, 1, none⟩))) _
      simp only [Act.put, List.setIfInBounds_toArray, List.set_cons_zero, List.set_cons_succ]
      refine wpAnyH_take (i := 2) (v := .int .u8 ((s.name : Nat) : Int)) rfl (by kernel_rfl) (by kernel_rfl) (by kernel_rfl) (fun _ _ _ h => h) (Or.inl ⟨by rfl, fun w hSw => ?_⟩) (by assumption) ?_
      · ((try dsimp only at hSw); go_simp)
      change wpAnyH _ _ _ _ _ _ _ (Act.put _ (some 23) (.int .u8 ((s.name : Nat) : Int))) _
      simp only [Act.put, List.setIfInBounds_toArray, List.set_cons_zero, List.set_cons_succ]
      refine wpAnyH_take (i := 4) (v := .pointer (some ⟨w.heap.size + 1, 3, none⟩)) rfl (by kernel_rfl) (by kernel_rfl) (by kernel_rfl) (fun _ _ _ h => h) (Or.inl ⟨by rfl, fun w hSw => ?_⟩) (by assumption) ?_
      · ((try dsimp only at hSw); go_simp)
      change wpAnyH _ _ _ _ _ _ _ (Act.put _ (some 25) (.pointer (some ⟨w.heap.size + 1, 3, none⟩))) _
      simp only [Act.put, List.setIfInBounds_toArray, List.set_cons_zero, List.set_cons_succ]
      refine wpAnyH_take (i := 5) (v := .slice B1 s.data.length m1) rfl (by kernel_rfl) (by kernel_rfl) (by kernel_rfl) (fun _ _ _ h => h) (Or.inl ⟨by rfl, fun w hSw => ?_⟩) (by assumption) ?_
      · ((try dsimp only at hSw); go_simp)
      change wpAnyH _ _ _ _ _ _ _ (Act.put _ (some 26) (.slice B1 s.data.length m1)) _
      simp only [Act.put, List.setIfInBounds_toArray, List.set_cons_zero, List.set_cons_succ]
      refine wpAnyH_ready (rs := [3]) (by kernel_rfl) (by simp) ?_
      refine AllReadyH.cons rfl (fun K hK => ?_) AllReadyH.nil
      go_simp
      refine (N1.out _).mono ?_; rintro e w1 ⟨rfl, rfl⟩
      (try go_wp2_with fail)
      refine hK.out _ _ ?_ (fun hHeld => ?_)
      · exact hHeld
      clear hK K
      try simp only [Act.put, List.setIfInBounds_toArray, List.set_cons_zero, List.set_cons_succ]
      refine wpAnyH_ready (rs := [6]) (by kernel_rfl) (by simp) ?_
      refine AllReadyH.cons rfl (fun K hK => ?_) AllReadyH.nil
      go_simp
      refine (DP.append_c (he0 _) (okNm _) HD.out hl HI2.out (HU.out.below BX.out.drew.below)).mono ?_; rintro _ w3 ⟨v3, rfl, hd, hb⟩; obtain ⟨q5, E1, i1, j1, E2, i2, j2, E3, i3, j3, E4, i4, j4, x5, rfl⟩ := hd.form; have V3 := Lib.hid (DVar.below hb BX.out.drew.r); have B3 := Lib.hid (bnext BX.out.drew.below hb); have D3 := Lib.hid (play_out BX.out.drew hd); have KP := Lib.hid (held9 hHeld hb); clear hd hb
      (try go_wp2_with fail)
      refine hK.out _ _ ?_ (fun hHeld => ?_)
      · exact KP.out
      clear hK K
      try simp only [Act.put, List.setIfInBounds_toArray, List.set_cons_zero, List.set_cons_succ]
      refine wpAnyH_take (i := 7) (v := .agg #[.int .i64 q5, .slice E1 i1 j1, .slice E2 i2 j2, .slice E3 i3 j3, .slice E4 i4 j4, .int .i64 x5]) rfl (by kernel_rfl) (by kernel_rfl) (by kernel_rfl) (fun _ _ _ h => h) (Or.inl ⟨by rfl, fun w hSw => ?_⟩) (by assumption) ?_
      · ((try dsimp only at hSw); go_simp)
      change wpAnyH _ _ _ _ _ _ _ (Act.put _ (some 28) (.agg #[.int .i64 q5, .slice E1 i1 j1, .slice E2 i2 j2, .slice E3 i3 j3, .slice E4 i4 j4, .int .i64 x5])) _
      simp only [Act.put, List.setIfInBounds_toArray, List.set_cons_zero, List.set_cons_succ]
      refine wpAnyH_take (i := 8) (v := .int .i64 (pAppend D (nmOf s.name) s.data).2) rfl (by kernel_rfl) (by kernel_rfl) (by kernel_rfl) (fun _ _ _ h => h) (Or.inl ⟨by rfl, fun w hSw => ?_⟩) (by assumption) ?_
      · ((try dsimp only at hSw); go_simp)
      change wpAnyH _ _ _ _ _ _ _ (Act.put _ (some 29) (.int .i64 (pAppend D (nmOf s.name) s.data).2)) _
      simp only [Act.put, List.setIfInBounds_toArray, List.set_cons_zero, List.set_cons_succ]
      clear KP
      refine wpAnyH_ready (rs := [9]) (by kernel_rfl) (by simp) ?_
      refine AllReadyH.cons rfl (fun K hK => ?_) AllReadyH.nil
      refine step_put rfl 29 _ _ rfl (w.heap.size + 2) [.int .i64 q5, .slice E1 i1 j1, .slice E2 i2 j2, .slice E3 i3 j3, .slice E4 i4 j4, .int .i64 x5] rfl rfl V3.out (by kernel_rfl) (by simp [Value.oneCell']) ?_
      intro y hp
      refine hK.out _ _ ?_ (fun hHeld => ?_)
      · exact held9k (B := w.heap.size + 2) hHeld hp.keep (by omega) (by omega) (by omega) (by omega) (by omega) (by omega) (by omega) (by omega) (by omega)
      clear hK K
      try simp only [Act.put, List.setIfInBounds_toArray, List.set_cons_zero, List.set_cons_succ]
      refine wpAnyH_take (i := 10) (v := .int .i64 (pAppend D (nmOf s.name) s.data).2) rfl (by kernel_rfl) (by kernel_rfl) (by kernel_rfl) (fun _ _ _ h => h) (Or.inl ⟨by rfl, fun w hSw => ?_⟩) (by assumption) ?_
      · ((try dsimp only at hSw); go_simp)
      change wpAnyH _ _ _ _ _ _ _ (Act.put _ (some 5) (.int .i64 (pAppend D (nmOf s.name) s.data).2)) _
      simp only [Act.put, List.setIfInBounds_toArray, List.set_cons_zero, List.set_cons_succ]
      refine wpAnyH_done (by kernel_rfl) ?_ _
      obtain ⟨c0, c1, c2, c3, c4, c5⟩ := hp.at_.six
      go_wp2
      exact bodyPost_ret (v := .tuple #[.agg #[.int .i64 q5, .slice E1 i1 j1, .slice E2 i2 j2, .slice E3 i3 j3, .slice E4 i4 j4, .int .i64 x5], .int .i64 (pAppend D (nmOf s.name) s.data).2]) (by simp [results, Try.results10, go_sem, c0, c1, c2, c3, c4, c5]) rfl ⟨_, rfl, (D3.out.keep fun a b h => hp.keep a b h.2).mono fun _ _ h => h.1, hp.below (Nat.le_add_right _ 2) B3.out⟩
  · have hq : kk % 7 = 2 := hk2
    have he : pPlay D s = pAppend D (nmOf s.name) s.data := by unfold pPlay; rw [HJ.out]; rfl
    rw [he]
    clear hk2 he
    go_enter Try.func10, Try.ntmps10
    go_wp2_with fail
    obtain ⟨W, hw2⟩ : ∃ w2, (((w.alloc (.cells #[.int .i64 q, .slice A1 n1 c1, .slice A2 n2 c2, .slice A3 n3 c3, .slice A4 n4 c4, .int .i64 x] 29)).alloc (.cells #[.int .u8 kk, .int .u8 ((s.name : Nat) : Int), .int .u8 ((s.to : Nat) : Int), .slice B1 s.data.length m1] 36)).alloc (.cells #[.int .i64 0, .slice none 0 0, .slice none 0 0, .slice none 0 0, .slice none 0 0, .int .i64 0] 29)) = w2 := ⟨_, rfl⟩
    have BX := Lib.hid (show Box w W q (.slice A1 n1 c1) (.slice A2 n2 c2) (.slice A3 n3 c3) (.slice A4 n4 c4) x kk ((s.name : Nat) : Int) ((s.to : Nat) : Int) (.slice B1 s.data.length m1) from by rw [← hw2]; exact box_of0 _ _ _ _ _ _ _ _ _ _ _ _ _ _ _ _ _ _ _ _)
    rw [hw2]
    clear hw2
    have HI2 := Lib.hid (play_in HI.out BX.out.drew)
    have hS0 := BX.out.d.six
    have e1 := BX.out.s 1 _ rfl; have e2 := BX.out.s 2 _ rfl; have e3 := BX.out.s 3 _ rfl
    refine wp_region_held_drew (S := fun y => y.cell? ⟨w.heap.size, 0, none⟩ = some (.int .i64 q) ∧ y.cell? ⟨w.heap.size, 1, none⟩ = some (.slice A1 n1 c1) ∧ y.cell? ⟨w.heap.size, 2, none⟩ = some (.slice A2 n2 c2) ∧ y.cell? ⟨w.heap.size, 3, none⟩ = some (.slice A3 n3 c3) ∧ y.cell? ⟨w.heap.size, 4, none⟩ = some (.slice A4 n4 c4) ∧ y.cell? ⟨w.heap.size, 5, none⟩ = some (.int .i64 x) ∧ y.cell? ⟨w.heap.size + 1, 1, none⟩ = some (.int .u8 ((s.name : Nat) : Int)) ∧ y.cell? ⟨w.heap.size + 1, 2, none⟩ = some (.int .u8 ((s.to : Nat) : Int)) ∧ y.cell? ⟨w.heap.size + 1, 3, none⟩ = some (.slice B1 s.data.length m1)) (by kernel_rfl) ?hs (fun hHeld => ?hr)
    case hs => exact ⟨hS0.1, hS0.2.1, hS0.2.2.1, hS0.2.2.2.1, hS0.2.2.2.2.1, hS0.2.2.2.2.2, e1, e2, e3⟩
    case hr =>
      clear hS0 e1 e2 e3
      refine wpAnyH_take (i := 0) (v := .agg #[.int .i64 q, .slice A1 n1 c1, .slice A2 n2 c2, .slice A3 n3 c3, .slice A4 n4 c4, .int .i64 x]) rfl (by kernel_rfl) (by kernel_rfl) (by kernel_rfl) (fun _ _ _ h => h) (Or.inl ⟨by rfl, fun w hSw => ?_⟩) (by assumption) ?_
      · ((try dsimp only at hSw); go_simp)
      change wpAnyH _ _ _ _ _ _ _ (Act.put _ (some 21) (.agg #[.int .i64 q, .slice A1 n1 c1, .slice A2 n2 c2, .slice A3 n3 c3, .slice A4 n4 c4, .int .i64 x])) _
      simp only [Act.put, List.setIfInBounds_toArray, List.set_cons_zero, List.set_cons_succ]
      refine wpAnyH_take (i := 1) (v := .pointer (some ⟨w.heap.size + 1, 1, none⟩)) rfl (by kernel_rfl) (by kernel_rfl) (by kernel_rfl) (fun _ _ _ h => h) (Or.inl ⟨by rfl, fun w hSw => ?_⟩) (by assumption) ?_
      · ((try dsimp only at hSw); go_simp)
      change wpAnyH _ _ _ _ _ _ _ (Act.put _ (some 22) (.pointer (some ⟨w.heap.size + 1, 1, none⟩))) _
      simp only [Act.put, List.setIfInBounds_toArray, List.set_cons_zero, List.set_cons_succ]
      refine wpAnyH_take (i := 2) (v := .int .u8 ((s.name : Nat) : Int)) rfl (by kernel_rfl) (by kernel_rfl) (by kernel_rfl) (fun _ _ _ h => h) (Or.inl ⟨by rfl, fun w hSw => ?_⟩) (by assumption) ?_
      · ((try dsimp only at hSw); go_simp)
      change wpAnyH _ _ _ _ _ _ _ (Act.put _ (some 23) (.int .u8 ((s.name : Nat) : Int))) _
      simp only [Act.put, List.setIfInBounds_toArray, List.set_cons_zero, List.set_cons_succ]
      refine wpAnyH_take (i := 4) (v := .pointer (some ⟨w.heap.size + 1, 3, none⟩)) rfl (by kernel_rfl) (by kernel_rfl) (by kernel_rfl) (fun _ _ _ h => h) (Or.inl ⟨by rfl, fun w hSw => ?_⟩) (by assumption) ?_
      · ((try dsimp only at hSw); go_simp)
      change wpAnyH _ _ _ _ _ _ _ (Act.put _ (some 25) (.pointer (some ⟨w.heap.size + 1, 3, none⟩))) _
      simp only [Act.put, List.setIfInBounds_toArray, List.set_cons_zero, List.set_cons_succ]
      refine wpAnyH_take (i := 5) (v := .slice B1 s.data.length m1) rfl (by kernel_rfl) (by kernel_rfl) (by kernel_rfl) (fun _ _ _ h => h) (Or.inl ⟨by rfl, fun w hSw => ?_⟩) (by assumption) ?_
      · ((try dsimp only at hSw); go_simp)
      change wpAnyH _ _ _ _ _ _ _ (Act.put _ (some 26) (.slice B1 s.data.length m1)) _
      simp only [Act.put, List.setIfInBounds_toArray, List.set_cons_zero, List.set_cons_succ]
      refine wpAnyH_ready (rs := [3]) (by kernel_rfl) (by simp) ?_
      refine AllReadyH.cons rfl (fun K hK => ?_) AllReadyH.nil
      go_simp
      refine (N1.out _).mono ?_; rintro e w1 ⟨rfl, rfl⟩
      (try go_wp2_with fail)
      refine hK.out _ _ ?_ (fun hHeld => ?_)
      · exact hHeld
      clear hK K
      try simp only [Act.put, List.setIfInBounds_toArray, List.set_cons_zero, List.set_cons_succ]
      refine wpAnyH_ready (rs := [6]) (by kernel_rfl) (by simp) ?_
      refine AllReadyH.cons rfl (fun K hK => ?_) AllReadyH.nil
      go_simp
      refine (DP.append_c (he0 _) (okNm _) HD.out hl HI2.out (HU.out.below BX.out.drew.below)).mono ?_; rintro _ w3 ⟨v3, rfl, hd, hb⟩; obtain ⟨q5, E1, i1, j1, E2, i2, j2, E3, i3, j3, E4, i4, j4, x5, rfl⟩ := hd.form; have V3 := Lib.hid (DVar.below hb BX.out.drew.r); have B3 := Lib.hid (bnext BX.out.drew.below hb); have D3 := Lib.hid (play_out BX.out.drew hd); have KP := Lib.hid (held9 hHeld hb); clear hd hb
      (try go_wp2_with fail)
      refine hK.out _ _ ?_ (fun hHeld => ?_)
      · exact KP.out
      clear hK K
      try simp only [Act.put, List.setIfInBounds_toArray, List.set_cons_zero, List.set_cons_succ]
      refine wpAnyH_take (i := 7) (v := .agg #[.int .i64 q5, .slice E1 i1 j1, .slice E2 i2 j2, .slice E3 i3 j3, .slice E4 i4 j4, .int .i64 x5]) rfl (by kernel_rfl) (by kernel_rfl) (by kernel_rfl) (fun _ _ _ h => h) (Or.inl ⟨by rfl, fun w hSw => ?_⟩) (by assumption) ?_
      · ((try dsimp only at hSw); go_simp)
      change wpAnyH _ _ _ _ _ _ _ (Act.put _ (some 28) (.agg #[.int .i64 q5, .slice E1 i1 j1, .slice E2 i2 j2, .slice E3 i3 j3, .slice E4 i4 j4, .int .i64 x5])) _
      simp only [Act.put, List.setIfInBounds_toArray, List.set_cons_zero, List.set_cons_succ]
      refine wpAnyH_take (i := 8) (v := .int .i64 (pAppend D (nmOf s.name) s.data).2) rfl (by kernel_rfl) (by kernel_rfl) (by kernel_rfl) (fun _ _ _ h => h) (Or.inl ⟨by rfl, fun w hSw => ?_⟩) (by assumption) ?_
      · ((try dsimp only at hSw); go_simp)
      change wpAnyH _ _ _ _ _ _ _ (Act.put _ (some 29) (.int .i64 (pAppend D (nmOf s.name) s.data).2)) _
      simp only [Act.put, List.setIfInBounds_toArray, List.set_cons_zero, List.set_cons_succ]
      clear KP
      refine wpAnyH_ready (rs := [9]) (by kernel_rfl) (by simp) ?_
      refine AllReadyH.cons rfl (fun K hK => ?_) AllReadyH.nil
      refine step_put rfl 29 _ _ rfl (w.heap.size + 2) [.int .i64 q5, .slice E1 i1 j1, .slice E2 i2 j2, .slice E3 i3 j3, .slice E4 i4 j4, .int .i64 x5] rfl rfl V3.out (by kernel_rfl) (by simp [Value.oneCell']) ?_
      intro y hp
      refine hK.out _ _ ?_ (fun hHeld => ?_)
      · exact held9k (B := w.heap.size + 2) hHeld hp.keep (by omega) (by omega) (by omega) (by omega) (by omega) (by omega) (by omega) (by omega) (by omega)
      clear hK K
      try simp only [Act.put, List.setIfInBounds_toArray, List.set_cons_zero, List.set_cons_succ]
      refine wpAnyH_take (i := 10) (v := .int .i64 (pAppend D (nmOf s.name) s.data).2) rfl (by kernel_rfl) (by kernel_rfl) (by kernel_rfl) (fun _ _ _ h => h) (Or.inl ⟨by rfl, fun w hSw => ?_⟩) (by assumption) ?_
      · ((try dsimp only at hSw); go_simp)
      change wpAnyH _ _ _ _ _ _ _ (Act.put _ (some 5) (.int .i64 (pAppend D (nmOf s.name) s.data).2)) _
      simp only [Act.put, List.setIfInBounds_toArray, List.set_cons_zero, List.set_cons_succ]
      refine wpAnyH_done (by kernel_rfl) ?_ _
      obtain ⟨c0, c1, c2, c3, c4, c5⟩ := hp.at_.six
      go_wp2
      exact bodyPost_ret (v := .tuple #[.agg #[.int .i64 q5, .slice E1 i1 j1, .slice E2 i2 j2, .slice E3 i3 j3, .slice E4 i4 j4, .int .i64 x5], .int .i64 (pAppend D (nmOf s.name) s.data).2]) (by simp [results, Try.results10, go_sem, c0, c1, c2, c3, c4, c5]) rfl ⟨_, rfl, (D3.out.keep fun a b h => hp.keep a b h.2).mono fun _ _ h => h.1, hp.below (Nat.le_add_right _ 2) B3.out⟩
  · have hq : kk % 7 = 3 := hk2
    have he : pPlay D s = pSync D (nmOf s.name) := by unfold pPlay; rw [HJ.out]; rfl
    rw [he]
    clear hk2 he
    go_enter Try.func10, Try.ntmps10
    go_wp2_with fail
    obtain ⟨W, hw2⟩ : ∃ w2, (((w.alloc (.cells #[.int .i64 q, .slice A1 n1 c1, .slice A2 n2 c2, .slice A3 n3 c3, .slice A4 n4 c4, .int .i64 x] 29)).alloc (.cells #[.int .u8 kk, .int .u8 ((s.name : Nat) : Int), .int .u8 ((s.to : Nat) : Int), .slice B1 s.data.length m1] 36)).alloc (.cells #[.int .i64 0, .slice none 0 0, .slice none 0 0, .slice none 0 0, .slice none 0 0, .int .i64 0] 29)) = w2 := ⟨_, rfl⟩
    have BX := Lib.hid (show Box w W q (.slice A1 n1 c1) (.slice A2 n2 c2) (.slice A3 n3 c3) (.slice A4 n4 c4) x kk ((s.name : Nat) : Int) ((s.to : Nat) : Int) (.slice B1 s.data.length m1) from by rw [← hw2]; exact box_of0 _ _ _ _ _ _ _ _ _ _ _ _ _ _ _ _ _ _ _ _)
    rw [hw2]
    clear hw2
    have HI2 := Lib.hid (play_in HI.out BX.out.drew)
    have hS0 := BX.out.d.six
    have e1 := BX.out.s 1 _ rfl; have e2 := BX.out.s 2 _ rfl; have e3 := BX.out.s 3 _ rfl
    refine wp_region_held_drew (S := fun y => y.cell? ⟨w.heap.size, 0, none⟩ = some (.int .i64 q) ∧ y.cell? ⟨w.heap.size, 1, none⟩ = some (.slice A1 n1 c1) ∧ y.cell? ⟨w.heap.size, 2, none⟩ = some (.slice A2 n2 c2) ∧ y.cell? ⟨w.heap.size, 3, none⟩ = some (.slice A3 n3 c3) ∧ y.cell? ⟨w.heap.size, 4, none⟩ = some (.slice A4 n4 c4) ∧ y.cell? ⟨w.heap.size, 5, none⟩ = some (.int .i64 x) ∧ y.cell? ⟨w.heap.size + 1, 1, none⟩ = some (.int .u8 ((s.name : Nat) : Int)) ∧ y.cell? ⟨w.heap.size + 1, 2, none⟩ = some (.int .u8 ((s.to : Nat) : Int)) ∧ y.cell? ⟨w.heap.size + 1, 3, none⟩ = some (.slice B1 s.data.length m1)) (by kernel_rfl) ?hs (fun hHeld => ?hr)
    case hs => exact ⟨hS0.1, hS0.2.1, hS0.2.2.1, hS0.2.2.2.1, hS0.2.2.2.2.1, hS0.2.2.2.2.2, e1, e2, e3⟩
    case hr =>
      clear hS0 e1 e2 e3
      refine wpAnyH_take (i := 0) (v := .agg #[.int .i64 q, .slice A1 n1 c1, .slice A2 n2 c2, .slice A3 n3 c3, .slice A4 n4 c4, .int .i64 x]) rfl (by kernel_rfl) (by kernel_rfl) (by kernel_rfl) (fun _ _ _ h => h) (Or.inl ⟨by rfl, fun w hSw => ?_⟩) (by assumption) ?_
      · ((try dsimp only at hSw); go_simp)
      change wpAnyH _ _ _ _ _ _ _ (Act.put _ (some 32) (.agg #[.int .i64 q, .slice A1 n1 c1, .slice A2 n2 c2, .slice A3 n3 c3, .slice A4 n4 c4, .int .i64 x])) _
      simp only [Act.put, List.setIfInBounds_toArray, List.set_cons_zero, List.set_cons_succ]
      refine wpAnyH_take (i := 1) (v := .pointer (some ⟨w.heap.size + 1, 1, none⟩)) rfl (by kernel_rfl) (by kernel_rfl) (by kernel_rfl) (fun _ _ _ h => h) (Or.inl ⟨by rfl, fun w hSw => ?_⟩) (by assumption) ?_
      · ((try dsimp only at hSw); go_simp)
      change wpAnyH _ _ _ _ _ _ _ (Act.put _ (some 33) (.pointer (some ⟨w.heap.size + 1, 1, none⟩))) _
      simp only [Act.put, List.setIfInBounds_toArray, List.set_cons_zero, List.set_cons_succ]
      refine wpAnyH_take (i := 2) (v := .int .u8 ((s.name : Nat) : Int)) rfl (by kernel_rfl) (by kernel_rfl) (by kernel_rfl) (fun _ _ _ h => h) (Or.inl ⟨by rfl, fun w hSw => ?_⟩) (by assumption) ?_
      · ((try dsimp only at hSw); go_simp)
      change wpAnyH _ _ _ _ _ _ _ (Act.put _ (some 34) (.int .u8 ((s.name : Nat) : Int))) _
      simp only [Act.put, List.setIfInBounds_toArray, List.set_cons_zero, List.set_cons_succ]
      refine wpAnyH_ready (rs := [3]) (by kernel_rfl) (by simp) ?_
      refine AllReadyH.cons rfl (fun K hK => ?_) AllReadyH.nil
      go_simp
      refine (N1.out _).mono ?_; rintro e w1 ⟨rfl, rfl⟩
      (try go_wp2_with fail)
      refine hK.out _ _ ?_ (fun hHeld => ?_)
      · exact hHeld
      clear hK K
      try simp only [Act.put, List.setIfInBounds_toArray, List.set_cons_zero, List.set_cons_succ]
      refine wpAnyH_ready (rs := [4]) (by kernel_rfl) (by simp) ?_
      refine AllReadyH.cons rfl (fun K hK => ?_) AllReadyH.nil
      go_simp
      refine (DP.sync_c (he0 _) (okNm _) HI2.out).mono ?_; rintro _ w3 ⟨v3, rfl, hd, hb⟩; obtain ⟨q5, E1, i1, j1, E2, i2, j2, E3, i3, j3, E4, i4, j4, x5, rfl⟩ := hd.form; have V3 := Lib.hid (DVar.below hb BX.out.drew.r); have B3 := Lib.hid (bnext BX.out.drew.below hb); have D3 := Lib.hid (play_out BX.out.drew hd); have KP := Lib.hid (held9 hHeld hb); clear hd hb
      (try go_wp2_with fail)
      refine hK.out _ _ ?_ (fun hHeld => ?_)
      · exact KP.out
      clear hK K
      try simp only [Act.put, List.setIfInBounds_toArray, List.set_cons_zero, List.set_cons_succ]
      refine wpAnyH_take (i := 5) (v := .agg #[.int .i64 q5, .slice E1 i1 j1, .slice E2 i2 j2, .slice E3 i3 j3, .slice E4 i4 j4, .int .i64 x5]) rfl (by kernel_rfl) (by kernel_rfl) (by kernel_rfl) (fun _ _ _ h => h) (Or.inl ⟨by rfl, fun w hSw => ?_⟩) (by assumption) ?_
      · ((try dsimp only at hSw); go_simp)
      change wpAnyH _ _ _ _ _ _ _ (Act.put _ (some 37) (.agg #[.int .i64 q5, .slice E1 i1 j1, .slice E2 i2 j2, .slice E3 i3 j3, .slice E4 i4 j4, .int .i64 x5])) _
      simp only [Act.put, List.setIfInBounds_toArray, List.set_cons_zero, List.set_cons_succ]
      refine wpAnyH_take (i := 6) (v := .int .i64 (pSync D (nmOf s.name)).2) rfl (by kernel_rfl) (by kernel_rfl) (by kernel_rfl) (fun _ _ _ h => h) (Or.inl ⟨by rfl, fun w hSw => ?_⟩) (by assumption) ?_
      · ((try dsimp only at hSw); go_simp)
      change wpAnyH _ _ _ _ _ _ _ (Act.put _ (some 38) (.int .i64 (pSync D (nmOf s.name)).2)) _
      simp only [Act.put, List.setIfInBounds_toArray, List.set_cons_zero, List.set_cons_succ]
      clear KP
      refine wpAnyH_ready (rs := [7]) (by kernel_rfl) (by simp) ?_
      refine AllReadyH.cons rfl (fun K hK => ?_) AllReadyH.nil
      refine step_put rfl 29 _ _ rfl (w.heap.size + 2) [.int .i64 q5, .slice E1 i1 j1, .slice E2 i2 j2, .slice E3 i3 j3, .slice E4 i4 j4, .int .i64 x5] rfl rfl V3.out (by kernel_rfl) (by simp [Value.oneCell']) ?_
      intro y hp
      refine hK.out _ _ ?_ (fun hHeld => ?_)
      · exact held9k (B := w.heap.size + 2) hHeld hp.keep (by omega) (by omega) (by omega) (by omega) (by omega) (by omega) (by omega) (by omega) (by omega)
      clear hK K
      try simp only [Act.put, List.setIfInBounds_toArray, List.set_cons_zero, List.set_cons_succ]
      refine wpAnyH_take (i := 8) (v := .int .i64 (pSync D (nmOf s.name)).2) rfl (by kernel_rfl) (by kernel_rfl) (by kernel_rfl) (fun _ _ _ h => h) (Or.inl ⟨by rfl, fun w hSw => ?_⟩) (by assumption) ?_
      · ((try dsimp only at hSw); go_simp)
      change wpAnyH _ _ _ _ _ _ _ (Act.put _ (some 5) (.int .i64 (pSync D (nmOf s.name)).2)) _
      simp only [Act.put, List.setIfInBounds_toArray, List.set_cons_zero, List.set_cons_succ]
      refine wpAnyH_done (by kernel_rfl) ?_ _
      obtain ⟨c0, c1, c2, c3, c4, c5⟩ := hp.at_.six
      go_wp2
      exact bodyPost_ret (v := .tuple #[.agg #[.int .i64 q5, .slice E1 i1 j1, .slice E2 i2 j2, .slice E3 i3 j3, .slice E4 i4 j4, .int .i64 x5], .int .i64 (pSync D (nmOf s.name)).2]) (by simp [results, Try.results10, go_sem, c0, c1, c2, c3, c4, c5]) rfl ⟨_, rfl, (D3.out.keep fun a b h => hp.keep a b h.2).mono fun _ _ h => h.1, hp.below (Nat.le_add_right _ 2) B3.out⟩
  · have hq : kk % 7 = 4 := hk2
    have he : pPlay D s = pRename D (nmOf s.name) (nmOf s.to) := by unfold pPlay; rw [HJ.out]; rfl
    rw [he]
    clear hk2 he
    go_enter Try.func10, Try.ntmps10
    go_wp2_with fail
    obtain ⟨W, hw2⟩ : ∃ w2, (((w.alloc (.cells #[.int .i64 q, .slice A1 n1 c1, .slice A2 n2 c2, .slice A3 n3 c3, .slice A4 n4 c4, .int .i64 x] 29)).alloc (.cells #[.int .u8 kk, .int .u8 ((s.name : Nat) : Int), .int .u8 ((s.to : Nat) : Int), .slice B1 s.data.length m1] 36)).alloc (.cells #[.int .i64 0, .slice none 0 0, .slice none 0 0, .slice none 0 0, .slice none 0 0, .int .i64 0] 29)) = w2 := ⟨_, rfl⟩
    have BX := Lib.hid (show Box w W q (.slice A1 n1 c1) (.slice A2 n2 c2) (.slice A3 n3 c3) (.slice A4 n4 c4) x kk ((s.name : Nat) : Int) ((s.to : Nat) : Int) (.slice B1 s.data.length m1) from by rw [← hw2]; exact box_of0 _ _ _ _ _ _ _ _ _ _ _ _ _ _ _ _ _ _ _ _)
    rw [hw2]
    clear hw2
    have HI2 := Lib.hid (play_in HI.out BX.out.drew)
    have hS0 := BX.out.d.six
    have e1 := BX.out.s 1 _ rfl; have e2 := BX.out.s 2 _ rfl; have e3 := BX.out.s 3 _ rfl
    refine wp_region_held_drew (S := fun y => y.cell? ⟨w.heap.size, 0, none⟩ = some (.int .i64 q) ∧ y.cell? ⟨w.heap.size, 1, none⟩ = some (.slice A1 n1 c1) ∧ y.cell? ⟨w.heap.size, 2, none⟩ = some (.slice A2 n2 c2) ∧ y.cell? ⟨w.heap.size, 3, none⟩ = some (.slice A3 n3 c3) ∧ y.cell? ⟨w.heap.size, 4, none⟩ = some (.slice A4 n4 c4) ∧ y.cell? ⟨w.heap.size, 5, none⟩ = some (.int .i64 x) ∧ y.cell? ⟨w.heap.size + 1, 1, none⟩ = some (.int .u8 ((s.name : Nat) : Int)) ∧ y.cell? ⟨w.heap.size + 1, 2, none⟩ = some (.int .u8 ((s.to : Nat) : Int)) ∧ y.cell? ⟨w.heap.size + 1, 3, none⟩ = some (.slice B1 s.data.length m1)) (by kernel_rfl) ?hs (fun hHeld => ?hr)
    case hs => exact ⟨hS0.1, hS0.2.1, hS0.2.2.1, hS0.2.2.2.1, hS0.2.2.2.2.1, hS0.2.2.2.2.2, e1, e2, e3⟩
    case hr =>
      clear hS0 e1 e2 e3
      refine wpAnyH_take (i := 0) (v := .agg #[.int .i64 q, .slice A1 n1 c1, .slice A2 n2 c2, .slice A3 n3 c3, .slice A4 n4 c4, .int .i64 x]) rfl (by kernel_rfl) (by kernel_rfl) (by kernel_rfl) (fun _ _ _ h => h) (Or.inl ⟨by rfl, fun w hSw => ?_⟩) (by assumption) ?_
      · ((try dsimp only at hSw); go_simp)
      change wpAnyH _ _ _ _ _ _ _ (Act.put _ (some 41) (.agg #[.int .i64 q, .slice A1 n1 c1, .slice A2 n2 c2, .slice A3 n3 c3, .slice A4 n4 c4, .int .i64 x])) _
      simp only [Act.put, List.setIfInBounds_toArray, List.set_cons_zero, List.set_cons_succ]
      refine wpAnyH_take (i := 1) (v := .pointer (some ⟨w.heap.size + 1, 1, none⟩)) rfl (by kernel_rfl) (by kernel_rfl) (by kernel_rfl) (fun _ _ _ h => h) (Or.inl ⟨by rfl, fun w hSw => ?_⟩) (by assumption) ?_
      · ((try dsimp only at hSw); go_simp)
      change wpAnyH _ _ _ _ _ _ _ (Act.put _ (some 42) (.pointer (some ⟨w.heap.size + 1, 1, none⟩))) _
      simp only [Act.put, List.setIfInBounds_toArray, List.set_cons_zero, List.set_cons_succ]
      refine wpAnyH_take (i := 2) (v := .int .u8 ((s.name : Nat) : Int)) rfl (by kernel_rfl) (by kernel_rfl) (by kernel_rfl) (fun _ _ _ h => h) (Or.inl ⟨by rfl, fun w hSw => ?_⟩) (by assumption) ?_
      · ((try dsimp only at hSw); go_simp)
      change wpAnyH _ _ _ _ _ _ _ (Act.put _ (some 43) (.int .u8 ((s.name : Nat) : Int))) _
      simp only [Act.put, List.setIfInBounds_toArray, List.set_cons_zero, List.set_cons_succ]
      refine wpAnyH_take (i := 4) (v := .pointer (some ⟨w.heap.size + 1, 2, none⟩)) rfl (by kernel_rfl) (by kernel_rfl) (by kernel_rfl) (fun _ _ _ h => h) (Or.inl ⟨by rfl, fun w hSw => ?_⟩) (by assumption) ?_
      · ((try dsimp only at hSw); go_simp)
      change wpAnyH _ _ _ _ _ _ _ (Act.put _ (some 45) (.pointer (some ⟨w.heap.size + 1, 2, none⟩))) _
      simp only [Act.put, List.setIfInBounds_toArray, List.set_cons_zero, List.set_cons_succ]
      refine wpAnyH_take (i := 5) (v := .int .u8 ((s.to : Nat) : Int)) rfl (by kernel_rfl) (by kernel_rfl) (by kernel_rfl) (fun _ _ _ h => h) (Or.inl ⟨by rfl, fun w hSw => ?_⟩) (by assumption) ?_
      · ((try dsimp only at hSw); go_simp)
      change wpAnyH _ _ _ _ _ _ _ (Act.put _ (some 46) (.int .u8 ((s.to : Nat) : Int))) _
      simp only [Act.put, List.setIfInBounds_toArray, List.set_cons_zero, List.set_cons_succ]
      refine wpAnyH_ready (rs := [3]) (by kernel_rfl) (by simp) ?_
      refine AllReadyH.cons rfl (fun K hK => ?_) AllReadyH.nil
      go_simp
      refine (N1.out _).mono ?_; rintro e w1 ⟨rfl, rfl⟩
      (try go_wp2_with fail)
      refine hK.out _ _ ?_ (fun hHeld => ?_)
      · exact hHeld
      clear hK K
      try simp only [Act.put, List.setIfInBounds_toArray, List.set_cons_zero, List.set_cons_succ]
      refine wpAnyH_ready (rs := [6]) (by kernel_rfl) (by simp) ?_
      refine AllReadyH.cons rfl (fun K hK => ?_) AllReadyH.nil
      go_simp
      refine (N2.out _).mono ?_; rintro e w1 ⟨rfl, rfl⟩
      (try go_wp2_with fail)
      refine hK.out _ _ ?_ (fun hHeld => ?_)
      · exact hHeld
      clear hK K
      try simp only [Act.put, List.setIfInBounds_toArray, List.set_cons_zero, List.set_cons_succ]
      refine wpAnyH_ready (rs := [7]) (by kernel_rfl) (by simp) ?_
      refine AllReadyH.cons rfl (fun K hK => ?_) AllReadyH.nil
      go_simp
      refine (DP.rename_c (he0 _) (okNm _) (okNm _) HI2.out).mono ?_; rintro _ w3 ⟨v3, rfl, hd, hb⟩; obtain ⟨q5, E1, i1, j1, E2, i2, j2, E3, i3, j3, E4, i4, j4, x5, rfl⟩ := hd.form; have V3 := Lib.hid (DVar.below hb BX.out.drew.r); have B3 := Lib.hid (bnext BX.out.drew.below hb); have D3 := Lib.hid (play_out BX.out.drew hd); have KP := Lib.hid (held9 hHeld hb); clear hd hb
      (try go_wp2_with fail)
      refine hK.out _ _ ?_ (fun hHeld => ?_)
      · exact KP.out
      clear hK K
      try simp only [Act.put, List.setIfInBounds_toArray, List.set_cons_zero, List.set_cons_succ]
      refine wpAnyH_take (i := 8) (v := .agg #[.int .i64 q5, .slice E1 i1 j1, .slice E2 i2 j2, .slice E3 i3 j3, .slice E4 i4 j4, .int .i64 x5]) rfl (by kernel_rfl) (by kernel_rfl) (by kernel_rfl) (fun _ _ _ h => h) (Or.inl ⟨by rfl, fun w hSw => ?_⟩) (by assumption) ?_
      · ((try dsimp only at hSw); go_simp)
      change wpAnyH _ _ _ _ _ _ _ (Act.put _ (some 49) (.agg #[.int .i64 q5, .slice E1 i1 j1, .slice E2 i2 j2, .slice E3 i3 j3, .slice E4 i4 j4, .int .i64 x5])) _
      simp only [Act.put, List.setIfInBounds_toArray, List.set_cons_zero, List.set_cons_succ]
      refine wpAnyH_take (i := 9) (v := .int .i64 (pRename D (nmOf s.name) (nmOf s.to)).2) rfl (by kernel_rfl) (by kernel_rfl) (by kernel_rfl) (fun _ _ _ h => h) (Or.inl ⟨by rfl, fun w hSw => ?_⟩) (by assumption) ?_
      · ((try dsimp only at hSw); go_simp)
      change wpAnyH _ _ _ _ _ _ _ (Act.put _ (some 50) (.int .i64 (pRename D (nmOf s.name) (nmOf s.to)).2)) _
      simp only [Act.put, List.setIfInBounds_toArray, List.set_cons_zero, List.set_cons_succ]
      clear KP
      refine wpAnyH_ready (rs := [10]) (by kernel_rfl) (by simp) ?_
      refine AllReadyH.cons rfl (fun K hK => ?_) AllReadyH.nil
      refine step_put rfl 29 _ _ rfl (w.heap.size + 2) [.int .i64 q5, .slice E1 i1 j1, .slice E2 i2 j2, .slice E3 i3 j3, .slice E4 i4 j4, .int .i64 x5] rfl rfl V3.out (by kernel_rfl) (by simp [Value.oneCell']) ?_
      intro y hp
      refine hK.out _ _ ?_ (fun hHeld => ?_)
      · exact held9k (B := w.heap.size + 2) hHeld hp.keep (by omega) (by omega) (by omega) (by omega) (by omega) (by omega) (by omega) (by omega) (by omega)
      clear hK K
      try simp only [Act.put, List.setIfInBounds_toArray, List.set_cons_zero, List.set_cons_succ]
      refine wpAnyH_take (i := 11) (v := .int .i64 (pRename D (nmOf s.name) (nmOf s.to)).2) rfl (by kernel_rfl) (by kernel_rfl) (by kernel_rfl) (fun _ _ _ h => h) (Or.inl ⟨by rfl, fun w hSw => ?_⟩) (by assumption) ?_
      · ((try dsimp only at hSw); go_simp)
      change wpAnyH _ _ _ _ _ _ _ (Act.put _ (some 5) (.int .i64 (pRename D (nmOf s.name) (nmOf s.to)).2)) _
      simp only [Act.put, List.setIfInBounds_toArray, List.set_cons_zero, List.set_cons_succ]
      refine wpAnyH_done (by kernel_rfl) ?_ _
      obtain ⟨c0, c1, c2, c3, c4, c5⟩ := hp.at_.six
      go_wp2
      exact bodyPost_ret (v := .tuple #[.agg #[.int .i64 q5, .slice E1 i1 j1, .slice E2 i2 j2, .slice E3 i3 j3, .slice E4 i4 j4, .int .i64 x5], .int .i64 (pRename D (nmOf s.name) (nmOf s.to)).2]) (by simp [results, Try.results10, go_sem, c0, c1, c2, c3, c4, c5]) rfl ⟨_, rfl, (D3.out.keep fun a b h => hp.keep a b h.2).mono fun _ _ h => h.1, hp.below (Nat.le_add_right _ 2) B3.out⟩
  · have hq : kk % 7 = 5 := hk2
    have he : pPlay D s = pRemove D (nmOf s.name) := by unfold pPlay; rw [HJ.out]; rfl
    rw [he]
    clear hk2 he
    go_enter Try.func10, Try.ntmps10
    go_wp2_with fail
    obtain ⟨W, hw2⟩ : ∃ w2, (((w.alloc (.cells #[.int .i64 q, .slice A1 n1 c1, .slice A2 n2 c2, .slice A3 n3 c3, .slice A4 n4 c4, .int .i64 x] 29)).alloc (.cells #[.int .u8 kk, .int .u8 ((s.name : Nat) : Int), .int .u8 ((s.to : Nat) : Int), .slice B1 s.data.length m1] 36)).alloc (.cells #[.int .i64 0, .slice none 0 0, .slice none 0 0, .slice none 0 0, .slice none 0 0, .int .i64 0] 29)) = w2 := ⟨_, rfl⟩
    have BX := Lib.hid (show Box w W q (.slice A1 n1 c1) (.slice A2 n2 c2) (.slice A3 n3 c3) (.slice A4 n4 c4) x kk ((s.name : Nat) : Int) ((s.to : Nat) : Int) (.slice B1 s.data.length m1) from by rw [← hw2]; exact box_of0 _ _ _ _ _ _ _ _ _ _ _ _ _ _ _ _ _ _ _ _)
    rw [hw2]
    clear hw2
    have HI2 := Lib.hid (play_in HI.out BX.out.drew)
    have hS0 := BX.out.d.six
    have e1 := BX.out.s 1 _ rfl; have e2 := BX.out.s 2 _ rfl; have e3 := BX.out.s 3 _ rfl
    refine wp_region_held_drew (S := fun y => y.cell? ⟨w.heap.size, 0, none⟩ = some (.int .i64 q) ∧ y.cell? ⟨w.heap.size, 1, none⟩ = some (.slice A1 n1 c1) ∧ y.cell? ⟨w.heap.size, 2, none⟩ = some (.slice A2 n2 c2) ∧ y.cell? ⟨w.heap.size, 3, none⟩ = some (.slice A3 n3 c3) ∧ y.cell? ⟨w.heap.size, 4, none⟩ = some (.slice A4 n4 c4) ∧ y.cell? ⟨w.heap.size, 5, none⟩ = some (.int .i64 x) ∧ y.cell? ⟨w.heap.size + 1, 1, none⟩ = some (.int .u8 ((s.name : Nat) : Int)) ∧ y.cell? ⟨w.heap.size + 1, 2, none⟩ = some (.int .u8 ((s.to : Nat) : Int)) ∧ y.cell? ⟨w.heap.size + 1, 3, none⟩ = some (.slice B1 s.data.length m1)) (by kernel_rfl) ?hs (fun hHeld => ?hr)
    case hs => exact ⟨hS0.1, hS0.2.1, hS0.2.2.1, hS0.2.2.2.1, hS0.2.2.2.2.1, hS0.2.2.2.2.2, e1, e2, e3⟩
    case hr =>
      clear hS0 e1 e2 e3
      refine wpAnyH_take (i := 0) (v := .agg #[.int .i64 q, .slice A1 n1 c1, .slice A2 n2 c2, .slice A3 n3 c3, .slice A4 n4 c4, .int .i64 x]) rfl (by kernel_rfl) (by kernel_rfl) (by kernel_rfl) (fun _ _ _ h => h) (Or.inl ⟨by rfl, fun w hSw => ?_⟩) (by assumption) ?_
      · ((try dsimp only at hSw); go_simp)
      change wpAnyH _ _ _ _ _ _ _ (Act.put _ (some 53) (.agg #[.int .i64 q, .slice A1 n1 c1, .slice A2 n2 c2, .slice A3 n3 c3, .slice A4 n4 c4, .int .i64 x])) _
      simp only [Act.put, List.setIfInBounds_toArray, List.set_cons_zero, List.set_cons_succ]
      refine wpAnyH_take (i := 1) (v := .pointer (some ⟨w.heap.size + 1, 1, none⟩)) rfl (by kernel_rfl) (by kernel_rfl) (by kernel_rfl) (fun _ _ _ h => h) (Or.inl ⟨by rfl, fun w hSw => ?_⟩) (by assumption) ?_
      · ((try dsimp only at hSw); go_simp)
      change wpAnyH _ _ _ _ _ _ _ (Act.put _ (some 54) (.pointer (some ⟨w.heap.size + 1, 1, none⟩))) _
      simp only [Act.put, List.setIfInBounds_toArray, List.set_cons_zero, List.set_cons_succ]
      refine wpAnyH_take (i := 2) (v := .int .u8 ((s.name : Nat) : Int)) rfl (by kernel_rfl) (by kernel_rfl) (by kernel_rfl) (fun _ _ _ h => h) (Or.inl ⟨by rfl, fun w hSw => ?_⟩) (by assumption) ?_
      · ((try dsimp only at hSw); go_simp)
      change wpAnyH _ _ _ _ _ _ _ (Act.put _ (some 55) (.int .u8 ((s.name : Nat) : Int))) _
      simp only [Act.put, List.setIfInBounds_toArray, List.set_cons_zero, List.set_cons_succ]
      refine wpAnyH_ready (rs := [3]) (by kernel_rfl) (by simp) ?_
      refine AllReadyH.cons rfl (fun K hK => ?_) AllReadyH.nil
      go_simp
      refine (N1.out _).mono ?_; rintro e w1 ⟨rfl, rfl⟩
      (try go_wp2_with fail)
      refine hK.out _ _ ?_ (fun hHeld => ?_)
      · exact hHeld
      clear hK K
      try simp only [Act.put, List.setIfInBounds_toArray, List.set_cons_zero, List.set_cons_succ]
      refine wpAnyH_ready (rs := [4]) (by kernel_rfl) (by simp) ?_
      refine AllReadyH.cons rfl (fun K hK => ?_) AllReadyH.nil
      go_simp
      refine (DP.remove_c (he0 _) (okNm _) HI2.out).mono ?_; rintro _ w3 ⟨v3, rfl, hd, hb⟩; obtain ⟨q5, E1, i1, j1, E2, i2, j2, E3, i3, j3, E4, i4, j4, x5, rfl⟩ := hd.form; have V3 := Lib.hid (DVar.below hb BX.out.drew.r); have B3 := Lib.hid (bnext BX.out.drew.below hb); have D3 := Lib.hid (play_out BX.out.drew hd); have KP := Lib.hid (held9 hHeld hb); clear hd hb
      (try go_wp2_with fail)
      refine hK.out _ _ ?_ (fun hHeld => ?_)
      · exact KP.out
      clear hK K
      try simp only [Act.put, List.setIfInBounds_toArray, List.set_cons_zero, List.set_cons_succ]
      refine wpAnyH_take (i := 5) (v := .agg #[.int .i64 q5, .slice E1 i1 j1, .slice E2 i2 j2, .slice E3 i3 j3, .slice E4 i4 j4, .int .i64 x5]) rfl (by kernel_rfl) (by kernel_rfl) (by kernel_rfl) (fun _ _ _ h => h) (Or.inl ⟨by rfl, fun w hSw => ?_⟩) (by assumption) ?_
      · ((try dsimp only at hSw); go_simp)
      change wpAnyH _ _ _ _ _ _ _ (Act.put _ (some 58) (.agg #[.int .i64 q5, .slice E1 i1 j1, .slice E2 i2 j2, .slice E3 i3 j3, .slice E4 i4 j4, .int .i64 x5])) _
      simp only [Act.put, List.setIfInBounds_toArray, List.set_cons_zero, List.set_cons_succ]
      refine wpAnyH_take (i := 6) (v := .int .i64 (pRemove D (nmOf s.name)).2) rfl (by kernel_rfl) (by kernel_rfl) (by kernel_rfl) (fun _ _ _ h => h) (Or.inl ⟨by rfl, fun w hSw => ?_⟩) (by assumption) ?_
      · ((try dsimp only at hSw); go_simp)
      change wpAnyH _ _ _ _ _ _ _ (Act.put _ (some 59) (.int .i64 (pRemove D (nmOf s.name)).2)) _
      simp only [Act.put, List.setIfInBounds_toArray, List.set_cons_zero, List.set_cons_succ]
      clear KP
      refine wpAnyH_ready (rs := [7]) (by kernel_rfl) (by simp) ?_
      refine AllReadyH.cons rfl (fun K hK => ?_) AllReadyH.nil
      refine step_put rfl 29 _ _ rfl (w.heap.size + 2) [.int .i64 q5, .slice E1 i1 j1, .slice E2 i2 j2, .slice E3 i3 j3, .slice E4 i4 j4, .int .i64 x5] rfl rfl V3.out (by kernel_rfl) (by simp [Value.oneCell']) ?_
      intro y hp
      refine hK.out _ _ ?_ (fun hHeld => ?_)
      · exact held9k (B := w.heap.size + 2) hHeld hp.keep (by omega) (by omega) (by omega) (by omega) (by omega) (by omega) (by omega) (by omega) (by omega)
      clear hK K
      try simp only [Act.put, List.setIfInBounds_toArray, List.set_cons_zero, List.set_cons_succ]
      refine wpAnyH_take (i := 8) (v := .int .i64 (pRemove D (nmOf s.name)).2) rfl (by kernel_rfl) (by kernel_rfl) (by kernel_rfl) (fun _ _ _ h => h) (Or.inl ⟨by rfl, fun w hSw => ?_⟩) (by assumption) ?_
      · ((try dsimp only at hSw); go_simp)
      change wpAnyH _ _ _ _ _ _ _ (Act.put _ (some 5) (.int .i64 (pRemove D (nmOf s.name)).2)) _
      simp only [Act.put, List.setIfInBounds_toArray, List.set_cons_zero, List.set_cons_succ]
      refine wpAnyH_done (by kernel_rfl) ?_ _
      obtain ⟨c0, c1, c2, c3, c4, c5⟩ := hp.at_.six
      go_wp2
      exact bodyPost_ret (v := .tuple #[.agg #[.int .i64 q5, .slice E1 i1 j1, .slice E2 i2 j2, .slice E3 i3 j3, .slice E4 i4 j4, .int .i64 x5], .int .i64 (pRemove D (nmOf s.name)).2]) (by simp [results, Try.results10, go_sem, c0, c1, c2, c3, c4, c5]) rfl ⟨_, rfl, (D3.out.keep fun a b h => hp.keep a b h.2).mono fun _ _ h => h.1, hp.below (Nat.le_add_right _ 2) B3.out⟩
  · have hq : kk % 7 = 6 := hk2
    have he : pPlay D s = (pSyncDir D, 0) := by unfold pPlay; rw [HJ.out]; rfl
    rw [he]
    clear hk2 he
    go_enter Try.func10, Try.ntmps10
    go_wp2_with fail
    obtain ⟨W, hw2⟩ : ∃ w2, (((w.alloc (.cells #[.int .i64 q, .slice A1 n1 c1, .slice A2 n2 c2, .slice A3 n3 c3, .slice A4 n4 c4, .int .i64 x] 29)).alloc (.cells #[.int .u8 kk, .int .u8 ((s.name : Nat) : Int), .int .u8 ((s.to : Nat) : Int), .slice B1 s.data.length m1] 36)).alloc (.cells #[.int .i64 0, .slice none 0 0, .slice none 0 0, .slice none 0 0, .slice none 0 0, .int .i64 0] 29)) = w2 := ⟨_, rfl⟩
    have BX := Lib.hid (show Box w W q (.slice A1 n1 c1) (.slice A2 n2 c2) (.slice A3 n3 c3) (.slice A4 n4 c4) x kk ((s.name : Nat) : Int) ((s.to : Nat) : Int) (.slice B1 s.data.length m1) from by rw [← hw2]; exact box_of0 _ _ _ _ _ _ _ _ _ _ _ _ _ _ _ _ _ _ _ _)
    rw [hw2]
    clear hw2
    have HI2 := Lib.hid (play_in HI.out BX.out)
    obtain ⟨d0, d1, d2, d3, d4, d5⟩ := BX.out.d.six
    go_wp2_with fail
    refine (DP.syncDir_c HI2.out).mono ?_; rintro _ w3 ⟨v3, rfl, hd, hb⟩
    obtain ⟨q5, E1, i1, j1, E2, i2, j2, E3, i3, j3, E4, i4, j4, x5, rfl⟩ := hd.form
    have V3 := Lib.hid (DVar.below hb BX.out.r); have B3 := Lib.hid (bnext BX.out.below hb); have D3 := Lib.hid (play_out BX.out hd)
    clear hd hb d0 d1 d2 d3 d4 d5
    go_wp2_with (refine wpList_put rfl 29 _ _ rfl (w.heap.size + 2) _ rfl rfl V3.out (by kernel_rfl) (by simp [Value.oneCell']) ?_; intro y hp; obtain ⟨c0, c1, c2, c3, c4, c5⟩ := hp.at_.six)
    exact bodyPost_ret (v := .tuple #[.agg #[.int .i64 q5, .slice E1 i1 j1, .slice E2 i2 j2, .slice E3 i3 j3, .slice E4 i4 j4, .int .i64 x5], .int .i64 0]) (by simp [results, Try.results10, go_sem, c0, c1, c2, c3, c4, c5]) rfl ⟨_, rfl, (D3.out.keep fun a b h => hp.keep a b h.2).mono fun _ _ h => h.1, hp.below (Nat.le_add_right _ 2) B3.out⟩
end Go.Proofs.Ytmkjjcogheidmaa.DW
