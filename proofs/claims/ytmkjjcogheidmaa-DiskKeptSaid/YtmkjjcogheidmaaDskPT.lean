/-
  moved: a disk behind one more move.
-/
import Derived.Test.YtmkjjcogheidmaaDskOE
import Derived.Test.YtmkjjcogheidmaaDskPP
set_option linter.unusedSimpArgs false
set_option linter.unusedVariables false
namespace Go.Proofs.Ytmkjjcogheidmaa.DP
open Go.RowKit
/-- A disk of one's own as a value, with the letters of its slices. -/
def OwnRet (base : Nat) (D : PD) (w : World) (q x : Int) (e : Ending) (w' : World) : Prop := ∃ vf vn vk vm us, e = .returned (.agg #[.int .i64 q, vf, vn, vk, vm, .int .i64 x]) ∧ DkOwn base w' vf vn vk vm us D ∧ Below base w w'
theorem cM_app (l : List PM) (m : PM) : l.flatMap cM ++ cM m = (l ++ [m]).flatMap cM := by simp
structure Box3 (B : Nat) (w W : World) (cs ms : List Value) : Prop where
  d : Holds W w.heap.size cs
  m : Holds W (w.heap.size + 1) ms
  dv : DVar W w.heap.size cs.length
  rv : DVar W (w.heap.size + 2) 6
  below : Below B w W
  size : w.heap.size + 3 ≤ W.heap.size
theorem box3_of {B : Nat} (w : World) (hB : B ≤ w.heap.size) (cs ms : Array Value) (t1 t2 : TypeId) : Box3 B w (((w.alloc (.cells cs t1)).alloc (.cells ms t2)).alloc (.cells #[.int .i64 0, .slice none 0 0, .slice none 0 0, .slice none 0 0, .slice none 0 0, .int .i64 0] 29)) cs.toList ms.toList := by
  have a1 := alloc_below w (.cells cs t1)
  have h1 := holds_box w cs t1
  have d1 := DVar.alloc (w := w) cs t1
  have s1 : (w.alloc (.cells cs t1)).heap.size = w.heap.size + 1 := by simp
  generalize w.alloc (.cells cs t1) = w1 at *
  have a2 := alloc_below w1 (.cells ms t2)
  have h2 := holds_box w1 ms t2
  have s2 : (w1.alloc (.cells ms t2)).heap.size = w1.heap.size + 1 := by simp
  rw [s1] at h2
  generalize w1.alloc (.cells ms t2) = w2 at *
  have a3 := alloc_below w2 (.cells #[.int .i64 0, .slice none 0 0, .slice none 0 0, .slice none 0 0, .slice none 0 0, .int .i64 0] 29)
  have d3 := DVar.alloc (w := w2) #[.int .i64 0, .slice none 0 0, .slice none 0 0, .slice none 0 0, .slice none 0 0, .int .i64 0] 29
  have s3 : (w2.alloc (.cells #[.int .i64 0, .slice none 0 0, .slice none 0 0, .slice none 0 0, .slice none 0 0, .int .i64 0] 29)).heap.size = w2.heap.size + 1 := by simp
  rw [show w2.heap.size = w.heap.size + 2 from by omega] at d3
  refine ⟨(h1.below a2).below a3, h2.below a3, ?_, d3, (bnext (bnext a1 a2) a3).mono hB, by omega⟩
  rw [Array.length_toList]
  exact (d1.below a2).below a3
theorem DVar.grown {w w' : World} {row : Option Nat} {b n : Nat} (h : DVar w b n) (hg : w.grownBy w' row) (hb : some b ≠ row) : DVar w' b n := by
  obtain ⟨c1, c2⟩ := grown_cells hg h.lt hb
  exact ⟨Nat.lt_of_lt_of_le h.lt hg.size, fun i hi => by obtain ⟨u, hu⟩ := h.c i hi; exact ⟨u, (c1 i).trans hu⟩, fun i hi => (c2 i).trans (h.f i hi)⟩
theorem Box3.grown {B : Nat} {w W W' : World} {cs ms : List Value} {row : Option Nat} (h : Box3 B w W cs ms) (hg : W.grownBy W' row) (hB : B ≤ w.heap.size) (hr : ∀ g, row = some g → B ≤ g ∧ (g < w.heap.size ∨ w.heap.size + 3 ≤ g)) (hc : cs ≠ []) (hm : ms ≠ []) : Box3 B w W' cs ms := by
  have ne : ∀ b, w.heap.size ≤ b → b < w.heap.size + 3 → some b ≠ row := fun b h1 h2 e => by
    rcases (hr b e.symm).2 with h | h <;> omega
  have hs := h.size
  exact ⟨h.d.grown hg (ne _ (by omega) (by omega)) hc, h.m.grown hg (ne _ (by omega) (by omega)) hm, DVar.grown h.dv hg (ne _ (by omega) (by omega)), DVar.grown h.rv hg (ne _ (by omega) (by omega)), h.below.grown hg (by omega) fun k e => (hr k e).1, Nat.le_trans h.size hg.size⟩
theorem holds_set {w : World} {b i : Nat} {cs : List Value} (h : Holds w b cs) (hi : i < cs.length) (u : Value) : Holds (w.setCell ⟨b, i, none⟩ u) b (cs.set i u) := by
  intro j v hj
  by_cases e : i = j
  · subst e
    rw [List.getElem?_set_self hi] at hj
    rw [← Option.some.inj hj]
    exact World.cell?_setCell_same w _ u (h i _ (List.getElem?_eq_getElem hi))
  · rw [List.getElem?_set_ne e] at hj
    exact (World.cell?_setCell_other w _ _ u (fun e2 => by injection e2 with _ e2; exact e e2)).trans (h j v hj)
theorem holds_other {w : World} {b b' i : Nat} {cs : List Value} (h : Holds w b cs) (hb : b' ≠ b) (u : Value) : Holds (w.setCell ⟨b', i, none⟩ u) b cs := fun j v hj => (World.cell?_setCell_other w _ _ u (fun e => by injection e with e; exact hb e)).trans (h j v hj)
theorem Box3.store {B i : Nat} {w W : World} {cs ms : List Value} (h : Box3 B w W cs ms) (hB : B ≤ w.heap.size) (hi : i < cs.length) (u : Value) : Box3 B w (W.setCell ⟨w.heap.size, i, none⟩ u) (cs.set i u) ms := by
  have hs := h.size
  refine ⟨holds_set h.d hi u, holds_other h.m (by omega) u, ?_, h.rv.set u, h.below.setCell (show B ≤ w.heap.size from hB) u, by simp; exact h.size⟩
  rw [List.length_set]
  exact h.dv.set u
theorem info_move : (Try.prog.info? 66).map (fun i => (i.zero, i.size, i.bytes)) = some (some (.agg #[.int .i64 0, .string ByteArray.empty, .string ByteArray.empty, .int .i64 0]), 4, 48) := by kernel_rfl
set_option maxRecDepth 100000 in
set_option maxHeartbeats 1000000 in
theorem moved_c {base : Nat} {w : World} {D : PD} {q x kz : Int} {A1 A2 A3 A4 : Option Addr} {n1 c1 n2 c2 n3 c3 n4 c4 : Nat} {us : List Value} {m : PM} {ids : List Nat} (h : DkOwn base w (.slice A1 n1 c1) (.slice A2 n2 c2) (.slice A3 n3 c3) (.slice A4 n4 c4) us D) (hb : base ≤ w.heap.size) (hs : NS D.names) (hm : mOk D.names ids m) (hl : D.names.length ≤ 900000) (hlm : D.moves.length ≤ 900000) (hkz : ((m.kind : Nat) : Int) = kz) :
    Calls Try.prog 32 #[.agg #[.int .i64 q, .slice A1 n1 c1, .slice A2 n2 c2, .slice A3 n3 c3, .slice A4 n4 c4, .int .i64 x], .agg #[.int .i64 kz, .string m.name, .string m.to, .int .i64 (m.id : Nat)]] w (OwnRet base ⟨D.quota, D.files, mv D.names m, D.kept, D.moves ++ [m], D.next⟩ w q x) := by
  go_enter Try.func32, Try.ntmps32
  go_wp2_with fail
  obtain ⟨W0, hW0⟩ : ∃ y, ((w.alloc (.cells #[.int .i64 q, .slice A1 n1 c1, .slice A2 n2 c2, .slice A3 n3 c3, .slice A4 n4 c4, .int .i64 x] 29)).alloc (.cells #[.int .i64 kz, .string m.name, .string m.to, .int .i64 (m.id : Nat)] 66)).alloc (.cells #[.int .i64 0, .slice none 0 0, .slice none 0 0, .slice none 0 0, .slice none 0 0, .int .i64 0] 29) = y := ⟨_, rfl⟩
  have hB0 := box3_of w hb #[.int .i64 q, .slice A1 n1 c1, .slice A2 n2 c2, .slice A3 n3 c3, .slice A4 n4 c4, .int .i64 x] #[.int .i64 kz, .string m.name, .string m.to, .int .i64 (m.id : Nat)] 29 66
  have h00 : Below w.heap.size w W0 := by rw [← hW0]; exact (box3_of w (Nat.le_refl _) #[.int .i64 q, .slice A1 n1 c1, .slice A2 n2 c2, .slice A3 n3 c3, .slice A4 n4 c4, .int .i64 x] #[.int .i64 kz, .string m.name, .string m.to, .int .i64 (m.id : Nat)] 29 66).below
  rw [hW0] at hB0 ⊢
  clear hW0
  have hs0 := hB0.size
  have h0 : DkOwn base W0 (.slice A1 n1 c1) (.slice A2 n2 c2) (.slice A3 n3 c3) (.slice A4 n4 c4) us D := h.below h00
  have hdc := done_c h0.n hs hm hl (by omega)
  rw [hkz] at hdc
  refine hdc.mono ?_
  rintro _ w1 ⟨vn', rfl, ho, hg, hL⟩
  have hB1 := hB0.grown hg hb (fun g e => ⟨(h.n.lt g e).1, .inl (h.n.lt g e).2⟩) (by simp) (by simp)
  have own1 := h0.names hg ho hL
  have hs1 := hB1.size
  have off : ∀ b, w.heap.size ≤ b → b < w.heap.size + 3 → Off b (vn' :: .slice A3 n3 c3 :: .slice A4 n4 c4 :: .slice A1 n1 c1 :: us) := fun b h1 h2 y hy => by
    rcases List.mem_cons.1 hy with rfl | hy
    · exact off_lies (h.off h1 _ (by simp)) hL (by omega)
    · exact h.off h1 y (List.mem_cons_of_mem _ hy)
  obtain ⟨A2', c2', rfl, _, _⟩ := own_form ho
  obtain ⟨X1, hX1⟩ : ∃ y, w1.setCell ⟨w.heap.size, 2, none⟩ (.slice A2' (mv D.names m).length c2') = y := ⟨_, rfl⟩
  have hB2 := hB1.store hb (i := 2) (by simp) (.slice A2' (mv D.names m).length c2')
  have own2 := own1.far (grown_set1 w1 w.heap.size 2 (.slice A2' (mv D.names m).length c2')) (off _ (Nat.le_refl _) (by omega))
  rw [hX1] at hB2 own2
  have ha := alloc_below X1 (.cells #[.int .i64 kz, .string m.name, .string m.to, .int .i64 (m.id : Nat)] 66)
  have own3 := own2.below ha
  have hlit := heap_alloc_new X1 (.cells #[.int .i64 kz, .string m.name, .string m.to, .int .i64 (m.id : Nat)] 66)
  have hB3 := hB2.grown (World.grownBy_alloc X1 (.cells #[.int .i64 kz, .string m.name, .string m.to, .int .i64 (m.id : Nat)] 66) none) hb (fun g e => by cases e) (by simp) (by simp)
  have hs3 := hB3.size
  obtain ⟨i0, hi0, hz0, hz1, hz2⟩ := info_parts (P := Try.prog) info_move
  obtain ⟨vm', w2, hr, ho2, hg2, _, hat⟩ := run_append_own_at (P := Try.prog) _ base 27 27 66 i0 _ 4 48 Try.underlying27 hi0 hz0 hz1 hz2 rfl (by decide) (.slice A4 n4 c4) D.moves.length _ own3.m ⟨X1.heap.size, 0, none⟩ 1 1 (cM m) rfl (cells_of_row hlit 0 (by rw [← hkz]; rfl)) (by intro u hu; simp [cM] at hu; rcases hu with rfl | rfl | rfl | rfl <;> rfl) (by simp only [maxLen]; omega) (by omega) (by omega)
  rw [cM_app] at ho2
  have hL2 : Lies (X1.alloc (.cells #[.int .i64 kz, .string m.name, .string m.to, .int .i64 (m.id : Nat)] 66)) (.slice A4 n4 c4) vm' := hat.imp (fun h => h) fun h => ⟨_, h, Nat.le_refl _⟩
  have own4 := own3.movesT hg2 (by rw [List.length_append]; exact ho2) hL2
  have hB4 := hB3.grown hg2 hb (fun g e => ⟨(h.m.lt g e).1, .inl (h.m.lt g e).2⟩) (by simp) (by simp)
  have off2 : ∀ b, w.heap.size ≤ b → b < w.heap.size + 3 → Off b (.slice A2' (mv D.names m).length c2' :: .slice A3 n3 c3 :: vm' :: .slice A1 n1 c1 :: us) := fun b h1 h2 y hy => by
    rcases List.mem_cons.1 hy with rfl | hy
    · exact off b h1 h2 _ (by simp)
    rcases List.mem_cons.1 hy with rfl | hy
    · exact off b h1 h2 _ (by simp)
    rcases List.mem_cons.1 hy with rfl | hy
    · exact off_lies (off b h1 h2 (.slice A4 n4 c4) (by simp)) hL2 (by omega)
    · exact off b h1 h2 y (by simp at hy ⊢; exact .inr (.inr (.inr hy)))
  obtain ⟨A4', c4', rfl, _, _⟩ := own_form ho2
  have hB5 := hB4.store hb (i := 4) (by simp) (.slice A4' (D.moves.length + 1) c4')
  have own5 := own4.far (grown_set1 w2 w.heap.size 4 (.slice A4' (D.moves.length + 1) c4')) (off2 _ (Nat.le_refl _) (by omega))
  obtain ⟨d0, d1, d2, d3, d4, d5⟩ := Holds.six hB1.d
  have e0 := hB1.m 0 _ rfl; have e1 := hB1.m 1 _ rfl; have e2 := hB1.m 2 _ rfl; have e3 := hB1.m 3 _ rfl
  have f2 := hB1.dv.f 2 (by simp)
  obtain ⟨g0, g1, g2, g3, g4, g5⟩ := Holds.six hB4.d
  have f4 := hB4.dv.f 4 (by simp)
  have hl1 : w.heap.size < w1.heap.size := by omega
  have hl2 : w.heap.size + 1 < w1.heap.size := by omega
  have HB5 := Lib.hid hB5
  have OW5 := Lib.hid own5
  have OFF := Lib.hid (off2 (w.heap.size + 1 + 1) (by omega) (by omega))
  have hsx : X1.heap.size = w1.heap.size := by rw [← hX1]; simp
  rw [hsx] at hr
  rw [← hX1] at hr
  have HR := Lib.hid hr
  clear hsx hr hB0 h00 h0 hdc hB1 own1 off hX1 hB2 own2 ha own3 hlit hB3 hz0 hz1 hz2 hi0 hat hL2 own4 hB4 off2 hB5 own5 ho hg hL ho2 hg2 hs hm h
  clear hkz hl hlm hs0 hs1 hs3
  go_wp2_with (first
    | (at_builtin; refine wpList_append_eq rfl _ _ _ _ rfl _ _ rfl rfl HR.out ?_)
    | (refine wpList_put rfl 29 _ _ rfl (w.heap.size + 1 + 1) _ rfl rfl HB5.out.rv (by kernel_rfl) (by simp [Value.oneCell']) ?_; intro y1 hp; obtain ⟨t0, t1, t2, t3, t4, t5⟩ := hp.at_.six))
  refine bodyPost_ret (v := .agg #[.int .i64 q, .slice A1 n1 c1, .slice A2' (mv D.names m).length c2', .slice A3 n3 c3, .slice A4' (D.moves.length + 1) c4', .int .i64 x]) (by simp [results, Try.results32, go_sem, t0, t1, t2, t3, t4, t5]) rfl ⟨_, _, _, _, us, rfl, OW5.out.far hp.grown OFF.out, HB5.out.below.grown hp.grown (by have := HB5.out.size; omega) (fun y e => by have := Option.some.inj e; omega)⟩
end Go.Proofs.Ytmkjjcogheidmaa.DP
