/-
  The program's done: what a move makes of a list of names that the call owns.
-/
import Derived.Test.YtmkjjcogheidmaaDskPM
import Derived.Test.YtmkjjcogheidmaaDskPB
set_option linter.unusedSimpArgs false
set_option linter.unusedVariables false
namespace Go.Proofs.Ytmkjjcogheidmaa.DP
open Go.RowKit
def Done (base : Nat) (l : List PN) (w : World) (v : Value) (e : Ending) (w' : World) : Prop := ∃ v', e = .returned v' ∧ w'.ownsRow base 79 2 v' l.length (l.flatMap cN) ∧ w.grownBy w' v.ownBlock ∧ Lies w v v'
theorem ins_cells {l : List PN} {n : PN} (h : NS l) (hn : ¬ nHas n.name l) : (l.flatMap cN).take (nAt n.name l * 2) ++ ([.string n.name, .int .i64 (n.id : Nat)] ++ (l.flatMap cN).drop (nAt n.name l * 2)) = (nIns n l).flatMap cN ∧ (nIns n l).length = l.length + 1 := by
  rw [nIns_at h hn, cN_take, cN_drop, List.flatMap_append, List.flatMap_cons]
  refine ⟨rfl, ?_⟩
  rw [List.length_append, List.length_cons, List.length_take, List.length_drop]
  have := nAt_le n.name l
  omega
theorem del_cells {s : ByteArray} {l : List PN} {m j : Nat} (h : NS l) (hn : nHas s l) (hj : j = nAt s l + 1) (hm : l.length = m + 1) : (l.flatMap cN).take (nAt s l * 2) ++ (l.flatMap cN).drop (j * 2) = (nDel s l).flatMap cN ∧ (nDel s l).length = m ∧ nAt s l < l.length := by
  obtain ⟨x, hx, _⟩ := (nHas_iff h).1 hn
  have hlt := (List.getElem?_eq_some_iff.1 hx).1
  rw [nDel_at h hn, hj, cN_take, cN_drop, List.flatMap_append]
  refine ⟨rfl, ?_, hlt⟩
  rw [List.length_append, List.length_take, List.length_drop]
  omega
theorem put_cells {t : ByteArray} {i : Nat} {l : List PN} (h : NS l) (hn : nHas t l) : (l.flatMap cN).set (nAt t l * 2 + 1) (.int .i64 (i : Nat)) = (nIns ⟨t, i⟩ (nDel t l)).flatMap cN ∧ (nIns ⟨t, i⟩ (nDel t l)).length = l.length ∧ nAt t l < l.length := by
  obtain ⟨x, hx, ex⟩ := (nHas_iff h).1 hn
  have hlt := (List.getElem?_eq_some_iff.1 hx).1
  rw [put_at h hn]
  refine ⟨?_, ?_, hlt⟩
  · have e : l = l.take (nAt t l) ++ x :: l.drop (nAt t l + 1) := by
      have := List.take_append_drop (nAt t l) l
      rw [List.drop_eq_getElem_cons hlt, (List.getElem?_eq_some_iff.1 hx).2] at this
      exact this.symm
    have hl : ((l.take (nAt t l)).flatMap cN).length = nAt t l * 2 := by rw [flat_length cN 2 (fun _ => rfl), List.length_take, Nat.min_eq_left (by omega)]
    generalize l.take (nAt t l) = a at e hl
    generalize l.drop (nAt t l + 1) = b at e
    generalize nAt t l = p at hl
    subst e
    rw [List.flatMap_append, List.flatMap_append, List.flatMap_cons, List.flatMap_cons, ← hl, List.set_append_right _ _ (by omega), Nat.add_sub_cancel_left, ← ex]
    rfl
  · rw [List.length_append, List.length_cons, List.length_take, List.length_drop]
    omega
set_option maxRecDepth 100000 in
set_option maxHeartbeats 4000000 in
theorem doneAdd_c {base : Nat} {l : List PN} {v : Value} {w : World} {s t : ByteArray} {i : Nat} (hown : w.ownsRow base 79 2 v l.length (l.flatMap cN)) (hs : NS l) (hn : ¬ nHas s l) (hl : l.length ≤ 900000) (hb : base ≤ w.heap.size) :
    Calls Try.prog 35 #[v, .agg #[.int .i64 1, .string s, .string t, .int .i64 (i : Nat)]] w (Done base (nIns ⟨s, i⟩ l) w v) := by
  obtain ⟨A, c, rfl, _, _⟩ := own_form hown
  have hfc := fun W (h : Below w.heap.size w W) => find_c (s := s) (names_own (own_below hown h)) (by omega) hs false ⟨fun h => absurd h (by decide), fun h => absurd h hn⟩
  obtain ⟨e1, e2⟩ := ins_cells (n := ⟨s, i⟩) hs hn
  have hic := fun W vb (h : Below w.heap.size w W) (hlit : W.heap[vb]? = some (.cells #[.string s, .int .i64 (i : Nat)] 79 (0, 0))) (hvb : w.heap.size ≤ vb) => insert_c (i := nAt s l) (own_below hown h) (cN_one l) hlit (own_lt hown hvb) (nAt_le s l) (by omega) (Nat.le_trans hb h.size)
  dsimp only at e1
  rw [e1] at hic
  have E2 := Lib.hid e2
  clear hown hs hn e1 e2
  generalize nAt s l = p at hfc hic
  generalize l.length = n at hfc hic hl E2
  go_enter Try.func35, Try.ntmps35
  go_wp2_with (first
    | (go_at_call 46; refine (hfc _ (alloc_below _ _)).mono ?_; rintro e w1 ⟨rfl, hb1⟩; obtain ⟨y1, y2⟩ := bcl hb1; have HB1 := Lib.hid ((alloc_below w _).trans (hb1.mono (by simp))))
    | (go_at_call 49; refine (hic _ _ (HB1.out.trans ((alloc_below _ _).mono HB1.out.size)) (heap_alloc_new _ _) HB1.out.size).mono ?_; rintro e w2 ⟨v', rfl, ho, hg, hL⟩))
  go_ret
  refine ⟨_, rfl, by rw [E2.out]; exact ho, ?_, hL.of (by simp; exact Nat.le_succ_of_le HB1.out.size)⟩
  exact (grown_of_below (HB1.out.trans ((alloc_below _ _).mono HB1.out.size)) _).trans hg
/-- The cell of a name's number in a row of one's own. -/
theorem own_id {w : World} {base : Nat} {e : TypeId} {A : Option Addr} {c : Nat} {l : List PN} (h : w.ownsRow base e 2 (.slice A l.length c) l.length (l.flatMap cN)) {p : Nat} {x : PN} (hx : l[p]? = some x) : ∃ g, A = some ⟨g, 0, none⟩ ∧ g < w.heap.size ∧ w.cell? ⟨g, p * 2 + 1, none⟩ = some (.int .i64 (x.id : Nat)) ∧ w.frozen? ⟨g, p * 2 + 1, none⟩ = false := by
  rcases id h.2 with ⟨h0, h1⟩ | ⟨g, cap, cur, hv, hbg, hg, hnc, hcm, hcs, htake⟩
  · rw [List.eq_nil_of_length_eq_zero h1] at hx; simp at hx
  · injection hv with h1 _ h2
    subst h1 h2
    refine ⟨g, rfl, (Array.getElem?_eq_some_iff.1 hg).1, ?_, frozen_of_row _ _ _ _ _ hg⟩
    have := h.cells (g := g) rfl (p * 2 + 1) (.int .i64 (x.id : Nat)) (by rw [flat_at cN 2 (fun _ => rfl) l p x hx 1 (by decide)]; rfl)
    rwa [Addr.add_mid, Nat.zero_add] at this
set_option maxRecDepth 100000 in
set_option maxHeartbeats 4000000 in
theorem doneDrop_c {base : Nat} {l : List PN} {v : Value} {w : World} {s t : ByteArray} {i : Nat} (hown : w.ownsRow base 79 2 v l.length (l.flatMap cN)) (hs : NS l) (hn : nHas s l) (hl : l.length ≤ 900000) (hb : base ≤ w.heap.size) :
    Calls Try.prog 35 #[v, .agg #[.int .i64 2, .string s, .string t, .int .i64 (i : Nat)]] w (Done base (nDel s l) w v) := by
  obtain ⟨A, c, rfl, hlc, hcm⟩ := own_form hown
  have hfc := fun W (h : Below w.heap.size w W) => find_c (s := s) (names_own (own_below hown h)) (by omega) hs true ⟨fun _ => hn, fun _ => rfl⟩
  obtain ⟨m, hm⟩ : ∃ m, l.length = m + 1 := by obtain ⟨x, hx, _⟩ := hn; exact ⟨l.length - 1, by have := List.length_pos_of_mem hx; omega⟩
  obtain ⟨j, hj⟩ : ∃ j, j = nAt s l + 1 := ⟨_, rfl⟩
  obtain ⟨e1, e2, hlt⟩ := del_cells hs hn hj hm
  obtain ⟨x, hx, ex⟩ := (nHas_iff hs).1 hn
  have hci := fun W (h : Below w.heap.size w W) => own_id (own_below hown h) hx
  obtain ⟨g, rfl, hgl, _⟩ := hci w (Below.refl _ _)
  have hc1 : ∀ W, Below w.heap.size w W → W.cell? ⟨g, nAt s l * 2 + 1, none⟩ = some (.int .i64 (x.id : Nat)) := fun W h => by
    obtain ⟨g', e, _, h1, _⟩ := hci W h
    injection e with e; injection e with e
    rw [e]; exact h1
  have hdc := fun W (h : Below w.heap.size w W) => delete_c (i := nAt s l) (own_below hown h) (cN_one l) hm hj hlt (by omega)
  rw [e1, show ((j : Nat) : Int) = ((nAt s l : Nat) : Int) + 1 from by omega] at hdc
  have hc0 := hc1 w (Below.refl _ _)
  have E2 := Lib.hid e2
  clear hown hs hn e1 e2 hci hc1 hx ex hj
  generalize nAt s l = p at hfc hdc hc0 hlt
  generalize l.length = n at hfc hdc hl hm hlt hlc
  have hne : some w.heap.size ≠ (Value.slice (some ⟨g, 0, none⟩) n c).ownBlock := fun e => by
    have e2 : w.heap.size = g := Option.some.inj e
    omega
  unfold maxLen at hcm
  have HM := Lib.hid hm
  clear hm
  go_enter Try.func35, Try.ntmps35
  go_wp2_with (first
    | (go_at_call 46; refine (hfc _ (alloc_below _ _)).mono ?_; rintro e w1 ⟨rfl, hb1⟩; obtain ⟨y1, y2⟩ := bcl hb1; have HB1 := Lib.hid ((alloc_below w _).trans (hb1.mono (by simp))))
    | (go_at_call 50; refine (hdc _ HB1.out).mono ?_; rintro e w2 ⟨v', rfl, ho, hg, hat⟩; obtain ⟨z1, z2⟩ := grown_cells hg (b := w.heap.size) (Nat.lt_of_lt_of_le (by simp) hb1.size) hne))
  go_ret
  exact ⟨_, rfl, by rw [E2.out]; exact ho, (grown_of_below HB1.out _).trans hg, .inl hat⟩
theorem own_blk {w : World} {base : Nat} {e : TypeId} {A : Option Addr} {k n c : Nat} {xs : List Value} {g : Nat} (h : w.ownsRow base e k (.slice A n c) n xs) (hA : (Value.slice A n c).ownBlock = some g) : A = some ⟨g, 0, none⟩ := by
  rcases h.2 with ⟨h0, _⟩ | ⟨g', cap, cur, hv, _⟩
  · injection h0 with h0 _ _
    rw [h0] at hA
    cases hA
  · injection hv with h1 _ _
    rw [h1] at hA
    injection hA with e
    rw [h1]
    have e2 : g' = g := e
    rw [e2]
set_option maxRecDepth 100000 in
set_option maxHeartbeats 4000000 in
theorem doneMoveNew_c {base : Nat} {l : List PN} {v : Value} {w : World} {s t : ByteArray} {i : Nat} (hown : w.ownsRow base 79 2 v l.length (l.flatMap cN)) (hs : NS l) (hn : nHas s l) (ht : ¬ nHas t (nDel s l)) (hl : l.length ≤ 900000) (hb : base ≤ w.heap.size) :
    Calls Try.prog 35 #[v, .agg #[.int .i64 3, .string s, .string t, .int .i64 (i : Nat)]] w (Done base (nIns ⟨t, nId s l⟩ (nDel s l)) w v) := by
  obtain ⟨A, c, rfl, hlc, hcm⟩ := own_form hown
  have hfc := fun W (h : Below w.heap.size w W) => find_c (s := s) (names_own (own_below hown h)) (by omega) hs true ⟨fun _ => hn, fun _ => rfl⟩
  obtain ⟨m, hm⟩ : ∃ m, l.length = m + 1 := by obtain ⟨x, hx, _⟩ := hn; exact ⟨l.length - 1, by have := List.length_pos_of_mem hx; omega⟩
  obtain ⟨j, hj⟩ : ∃ j, j = nAt s l + 1 := ⟨_, rfl⟩
  obtain ⟨e1, e2, hlt⟩ := del_cells hs hn hj hm
  obtain ⟨x, hx, ex⟩ := (nHas_iff hs).1 hn
  obtain ⟨g, rfl, hgl, hc0, _⟩ := own_id hown hx
  have hdc := fun W (h : Below w.heap.size w W) => delete_c (i := nAt s l) (own_below hown h) (cN_one l) hm hj hlt (by omega)
  rw [e1, show ((j : Nat) : Int) = ((nAt s l : Nat) : Int) + 1 from by omega] at hdc
  rw [nId_at hs hx ex]
  have hs2 := hs.nDel s
  obtain ⟨l1, hl1⟩ : ∃ l1, l1 = nDel s l := ⟨_, rfl⟩
  rw [← hl1] at e2 ht hs2 hdc ⊢
  have HF2 : Hid (∀ W v1, W.ownsRow base 79 2 v1 m (l1.flatMap cN) → Calls Try.prog 46 #[v1, .string t] W fun e w' => e = .returned (.tuple #[.int .i64 (nAt t l1 : Nat), .bool false]) ∧ Below W.heap.size W w') := Lib.hid fun W v1 h => by
    obtain ⟨A1, c1, rfl, _, _⟩ := own_form h
    rw [← e2] at h ⊢
    exact find_c (names_own h) (by omega) hs2 false ⟨fun h => absurd h (by decide), fun h => absurd h ht⟩
  obtain ⟨f1, f2⟩ := ins_cells (n := ⟨t, x.id⟩) hs2 ht
  dsimp only at f1
  have HI2 : Hid (∀ W v1 vb, W.ownsRow base 79 2 v1 m (l1.flatMap cN) → W.heap[vb]? = some (.cells #[.string t, .int .i64 (x.id : Nat)] 79 (0, 0)) → v1.ownBlock ≠ some vb → base ≤ W.heap.size → Calls Try.prog 49 #[v1, .int .i64 (nAt t l1 : Nat), .slice (some ⟨vb, 0, none⟩) 1 1] W (Inserted base (m + 1) ((nIns ⟨t, x.id⟩ l1).flatMap cN) W v1)) := Lib.hid fun W v1 vb h hv hne hbs => by
    rw [← f1]
    exact insert_c h (cN_one l1) hv hne (by rw [← e2]; exact nAt_le t l1) (by omega) hbs
  have F2 : Hid ((nIns ⟨t, x.id⟩ l1).length = m + 1) := Lib.hid (by rw [f2, e2])
  clear hown hs hn e1 e2 hx ex hj f1 f2 hl1 ht hs2
  generalize nAt s l = p at hfc hdc hc0 hlt
  generalize nAt t l1 = p2 at HF2 HI2
  generalize x.id = xi at hc0 HI2 F2 ⊢
  generalize l.length = n at hfc hdc hl hm hlt hlc
  have hne : some w.heap.size ≠ (Value.slice (some ⟨g, 0, none⟩) n c).ownBlock := fun e => by
    have e2 : w.heap.size = g := Option.some.inj e
    omega
  unfold maxLen at hcm
  have HM := Lib.hid hm
  clear hm
  go_enter Try.func35, Try.ntmps35
  go_wp2_with (first
    | (go_at_call 46; (with_reducible refine (hfc _ (alloc_below _ _)).mono ?_); rintro e w1 ⟨rfl, hb1⟩; obtain ⟨y1, y2⟩ := bcl hb1; have HB1 := Lib.hid ((alloc_below w _).trans (hb1.mono (by simp))); have hz1 : w.heap.size < w1.heap.size := Nat.lt_of_lt_of_le (by simp) hb1.size)
    | (go_at_call 50; refine (hdc _ HB1.out).mono ?_; rintro e w2 ⟨v', rfl, ho, hg, hat⟩; obtain ⟨z1, z2⟩ := grown_cells hg hz1 hne; have HO := Lib.hid ho; have HG := Lib.hid hg; have HA := Lib.hid hat; have hz2 : w.heap.size < w2.heap.size := Nat.lt_of_lt_of_le hz1 hg.size; clear ho hg hat)
    | (go_at_call 46; refine (HF2.out _ _ HO.out).mono ?_; rintro e w3 ⟨rfl, hb3⟩; obtain ⟨x1, x2⟩ := bcl hb3; have HB3 := Lib.hid hb3; have hz3 : w.heap.size < w3.heap.size := Nat.lt_of_lt_of_le hz2 hb3.size; clear hb3)
    | (go_at_call 49; refine (HI2.out _ _ _ (own_below HO.out (HB3.out.trans ((alloc_below _ _).mono HB3.out.size))) (heap_alloc_new _ _) (own_lt (own_below HO.out HB3.out) (Nat.le_refl _)) (by simp; omega)).mono ?_; rintro e w4 ⟨v2, rfl, ho2, hg2, hL2⟩))
  go_ret
  have hs4 : w2.heap.size ≤ w3.heap.size := HB3.out.size
  refine ⟨_, rfl, by rw [F2.out]; exact ho2, ?_, ?_⟩
  · have g1 : w.grownBy w2 (Value.slice (some ⟨g, 0, none⟩) n c).ownBlock := (grown_of_below HB1.out _).trans HG.out
    refine grown_two g1 (.inl HA.out) ?_
    exact (grown_of_below (HB3.out.trans ((alloc_below _ _).mono HB3.out.size)) _).trans hg2
  · have h1 : Lies w (Value.slice (some ⟨g, 0, none⟩) n c) v' := .inl HA.out
    exact h1.trans hL2 (by simp; omega)
set_option maxRecDepth 100000 in
set_option maxHeartbeats 4000000 in
theorem doneMoveOld_c {base : Nat} {l : List PN} {v : Value} {w : World} {s t : ByteArray} {i : Nat} (hown : w.ownsRow base 79 2 v l.length (l.flatMap cN)) (hs : NS l) (hn : nHas s l) (ht : nHas t (nDel s l)) (hl : l.length ≤ 900000) (hb : base ≤ w.heap.size) :
    Calls Try.prog 35 #[v, .agg #[.int .i64 3, .string s, .string t, .int .i64 (i : Nat)]] w (Done base (nIns ⟨t, nId s l⟩ (nDel t (nDel s l))) w v) := by
  obtain ⟨A, c, rfl, hlc, hcm⟩ := own_form hown
  have hfc := fun W (h : Below w.heap.size w W) => find_c (s := s) (names_own (own_below hown h)) (by omega) hs true ⟨fun _ => hn, fun _ => rfl⟩
  obtain ⟨m, hm⟩ : ∃ m, l.length = m + 1 := by obtain ⟨x, hx, _⟩ := hn; exact ⟨l.length - 1, by have := List.length_pos_of_mem hx; omega⟩
  obtain ⟨j, hj⟩ : ∃ j, j = nAt s l + 1 := ⟨_, rfl⟩
  obtain ⟨e1, e2, hlt⟩ := del_cells hs hn hj hm
  obtain ⟨x, hx, ex⟩ := (nHas_iff hs).1 hn
  obtain ⟨g, rfl, hgl, hc0, _⟩ := own_id hown hx
  have hdc := fun W (h : Below w.heap.size w W) => delete_c (i := nAt s l) (own_below hown h) (cN_one l) hm hj hlt (by omega)
  rw [e1, show ((j : Nat) : Int) = ((nAt s l : Nat) : Int) + 1 from by omega] at hdc
  rw [nId_at hs hx ex]
  have hs2 := hs.nDel s
  obtain ⟨l1, hl1⟩ : ∃ l1, l1 = nDel s l := ⟨_, rfl⟩
  rw [← hl1] at e2 ht hs2 hdc ⊢
  have HF2 : Hid (∀ W v1, W.ownsRow base 79 2 v1 m (l1.flatMap cN) → Calls Try.prog 46 #[v1, .string t] W fun e w' => e = .returned (.tuple #[.int .i64 (nAt t l1 : Nat), .bool true]) ∧ Below W.heap.size W w') := Lib.hid fun W v1 h => by
    obtain ⟨A1, c1, rfl, _, _⟩ := own_form h
    rw [← e2] at h ⊢
    exact find_c (names_own h) (by omega) hs2 true ⟨fun _ => ht, fun _ => rfl⟩
  obtain ⟨f1, f2, hlt2⟩ := put_cells (i := x.id) hs2 ht
  obtain ⟨y, hy, _⟩ := (nHas_iff hs2).1 ht
  have HC2 : Hid (∀ (W : World) (c1 : Nat), W.ownsRow base 79 2 (.slice (some ⟨g, 0, none⟩) m c1) m (l1.flatMap cN) → W.cell? ⟨g, nAt t l1 * 2 + 1, none⟩ = some (.int .i64 (y.id : Nat)) ∧ W.frozen? ⟨g, nAt t l1 * 2 + 1, none⟩ = false ∧
      (W.setCell ⟨g, nAt t l1 * 2 + 1, none⟩ (.int .i64 (x.id : Nat))).ownsRow base 79 2 (.slice (some ⟨g, 0, none⟩) m c1) m ((nIns ⟨t, x.id⟩ (nDel t l1)).flatMap cN) ∧ W.grownBy (W.setCell ⟨g, nAt t l1 * 2 + 1, none⟩ (.int .i64 (x.id : Nat))) (some g)) := Lib.hid fun W c1 h => by
    rw [← f1]
    obtain ⟨s1, s2⟩ := h.stored (nAt t l1 * 2 + 1) (.int .i64 (x.id : Nat))
    rw [← e2] at h
    obtain ⟨g', e, _, h1, h2⟩ := own_id h hy
    injection e with e; injection e with e
    rw [e]
    rw [e] at s1 s2
    exact ⟨h1, h2, s1, s2⟩
  have F2 : Hid ((nIns ⟨t, x.id⟩ (nDel t l1)).length = m) := Lib.hid (by rw [f2, e2])
  rw [e2] at hlt2
  clear hown hs hn e1 e2 hx ex hj f1 f2 hl1 ht hs2 hy
  generalize nAt s l = p at hfc hdc hc0 hlt
  generalize nAt t l1 = p2 at HF2 HC2 hlt2
  generalize x.id = xi at hc0 HC2 F2 ⊢
  generalize y.id = yi at HC2
  generalize l.length = n at hfc hdc hl hm hlt hlc
  have hne : some w.heap.size ≠ (Value.slice (some ⟨g, 0, none⟩) n c).ownBlock := fun e => by
    have e2 : w.heap.size = g := Option.some.inj e
    omega
  unfold maxLen at hcm
  have HM := Lib.hid hm
  have hmn : m < n := by omega
  clear hm
  go_enter Try.func35, Try.ntmps35
  go_wp2_with (first
    | (go_at_call 46; (with_reducible refine (hfc _ (alloc_below _ _)).mono ?_); rintro e w1 ⟨rfl, hb1⟩; obtain ⟨y1, y2⟩ := bcl hb1; have HB1 := Lib.hid ((alloc_below w _).trans (hb1.mono (by simp))); have hz1 : w.heap.size < w1.heap.size := Nat.lt_of_lt_of_le (by simp) hb1.size)
    | (go_at_call 50; go_loud (refine (hdc _ HB1.out).mono ?_; rintro e w2 ⟨v', rfl, ho, hg, hat⟩; obtain ⟨A1, c1, rfl, hlc1, hcm1⟩ := own_form ho; obtain rfl := own_blk (g := g) ho hat; unfold maxLen at hcm1; obtain ⟨z1, z2⟩ := grown_cells hg hz1 hne; have HO := Lib.hid ho; have HG := Lib.hid hg; have hz2 : w.heap.size < w2.heap.size := Nat.lt_of_lt_of_le hz1 hg.size; have hgl2 : g < w2.heap.size := by omega; try clear hat; try clear hg; try clear ho))
    | (go_at_call 46; refine (HF2.out _ _ HO.out).mono ?_; rintro e w3 ⟨rfl, hb3⟩; obtain ⟨q1, q2, _⟩ := HC2.out _ _ HO.out; obtain ⟨x1, x2⟩ := bcl hb3; have HB3 := Lib.hid hb3; have hz3 : w.heap.size < w3.heap.size := Nat.lt_of_lt_of_le hz2 hb3.size; clear hb3))
  go_ret
  obtain ⟨_, _, q3, q4⟩ := HC2.out _ _ (own_below HO.out HB3.out)
  refine ⟨_, rfl, by rw [F2.out]; exact q3, ?_, .inl rfl⟩
  exact (((grown_of_below HB1.out _).trans HG.out).trans (grown_of_below HB3.out _)).trans q4
end Go.Proofs.Ytmkjjcogheidmaa.DP
