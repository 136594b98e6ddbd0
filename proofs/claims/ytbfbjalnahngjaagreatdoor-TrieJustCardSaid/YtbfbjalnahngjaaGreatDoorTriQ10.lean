/-
  Texts of the trie's proofs, merged: TriSh, TriPB, TriPC, TriVis.
-/
import Derived.Test.YtbfbjalnahngjaaGreatDoorTriQ9
import Derived.Test.YtbfbjalnahngjaaGreatDoorShelfB
import Derived.Deep.RegionHeldLaw
import Derived.Shelf.Abstract
import Derived.WalkSpells
import Derived.Maps.RangeWalk
set_option linter.unusedSimpArgs false
set_option linter.unusedVariables false
namespace Go.Proofs.YtbfbjalnahngjaaGreatDoor
open Go.RowKit Go.Maps Go.WideMaps GR
/-- A node, what hangs at one of its names left open. -/
structure Shell (N d : Nat) (w : World) (b m : Nat) (F : Nat → Prop) (S : Pset) (n : List Nat) (c : Nat) (Fc : Nat → Prop) (D : DataW Unit) (Fs : List Nat → Nat → Prop) : Prop where
  cells : NdC w b (S []) (some m)
  own : w.ownsMap Tryz.prog 9 ptrElem m N D
  ne : m ≠ b
  fb : F b
  fm : F m
  nm : tName n = true
  at_ : ∀ z, D.atKey (klOf n) z = blk c
  keys : ∀ kl, has D kl = true → kl = klOf n ∨ ∃ n', kl = klOf n' ∧ Some_ (tAt S n')
  kid : ∀ n', n' ≠ n → Some_ (tAt S n') → tName n' = true ∧ ∃ c', (∀ z, D.atKey (klOf n') z = blk c') ∧ NdAt N w d c' (Fs n') (tAt S n')
  sub : ∀ n' x, n' ≠ n → Fs n' x → F x ∧ x ≠ b ∧ x ≠ m
  off : ∀ n' n'' x, n' ≠ n → n'' ≠ n → n' ≠ n'' → Fs n' x → ¬ Fs n'' x
  subc : ∀ x, Fc x → F x ∧ x ≠ b ∧ x ≠ m
  offc : ∀ n' x, n' ≠ n → Fs n' x → ¬ Fc x
theorem Kids.open_ {N d : Nat} {w : World} {b m : Nat} {F : Nat → Prop} {S : Pset} {D : DataW Unit} {Fs : List Nat → Nat → Prop} (K : Kids (NdAt N w d) N w b m F S D Fs) (hc : NdC w b (S []) (some m)) {n : List Nat} (hn : Some_ (tAt S n)) :
    ∃ c, Shell N d w b m F S n c (Fs n) D Fs ∧ NdAt N w d c (Fs n) (tAt S n) := by
  obtain ⟨a, c, a1, a2⟩ := K.kid n hn
  exact ⟨c, ⟨hc, K.own, K.ne, K.fb, K.fm, a, a1, fun kl h => .inr (K.keys kl h), fun n' _ h => K.kid n' h, fun n' x _ h => K.sub n' x h, fun n' n'' x _ _ h => K.off n' n'' x h, fun x h => K.sub n x h, fun n' x h hx => K.off n' n x h hx⟩, a2⟩
/-- Closed again: what hangs there now is something. -/
theorem Shell.close {N N' d : Nat} {w w' : World} {b m : Nat} {F F' : Nat → Prop} {S T S'' : Pset} {n : List Nat} {c : Nat} {Fc Fc' : Nat → Prop} {D : DataW Unit} {Fs : List Nat → Nat → Prop} (H : Shell N d w b m F S n c Fc D Fs)
    (hF : ∀ x, F x → x < w.heap.size) (hw : ∀ x, x < w.heap.size → ¬ Fc x → w'.heap[x]? = w.heap[x]?) (hN : N ≤ N') (hc : NdAt N' w' d c Fc' S'') (hs : Some_ S'') (hF1 : ∀ x, F x → F' x) (hF2 : ∀ x, Fc' x → F' x) (hF3 : ∀ x, Fc' x → Fc x ∨ w.heap.size ≤ x)
    (h0 : T [] = S []) (h1 : tAt T n = S'') (h2 : ∀ n', n' ≠ n → tAt T n' = tAt S n') : NdAt N' w' (d + 1) b F' T := by
  have nb : ¬ Fc b := fun h => (H.subc b h).2.1 rfl
  have nm : ¬ Fc m := fun h => (H.subc m h).2.2 rfl
  have eb := hw b (hF b H.fb) nb
  have em := hw m (hF m H.fm) nm
  have nfs : ∀ n' x, n' ≠ n → Fs n' x → ¬ Fc' x := fun n' x hn hx h => by
    rcases hF3 x h with h | h
    · exact H.offc n' x hn hx h
    · have := hF x (H.sub n' x hn hx).1; omega
  rw [ndAt_eq]
  refine ⟨some m, by rw [h0]; exact H.cells.same eb, hF1 b H.fb, .inr ⟨m, D, fun n' => if n' = n then Fc' else Fs n', rfl, (own_same H.own em).mono hN, H.ne, hF1 b H.fb, hF1 m H.fm, fun kl hk => ?_, fun n' hn' => ?_, fun n' x hx => ?_, fun n' n'' x hne hx => ?_⟩⟩
  · rcases H.keys kl hk with rfl | ⟨n', rfl, hs'⟩
    · exact ⟨n, rfl, by rw [h1]; exact hs⟩
    · by_cases e : n' = n
      · subst e; exact ⟨n', rfl, by rw [h1]; exact hs⟩
      · exact ⟨n', rfl, by rw [h2 n' e]; exact hs'⟩
  · by_cases e : n' = n
    · subst e
      refine ⟨H.nm, c, H.at_, ?_⟩
      simp only [if_true]
      rw [h1]
      exact hc
    · rw [h2 n' e] at hn' ⊢
      obtain ⟨a, c', a1, a2⟩ := H.kid n' e hn'
      refine ⟨a, c', a1, ?_⟩
      simp only [if_neg e]
      exact a2.keep hN fun x hx => hw x (hF x (H.sub n' x e hx).1) (H.offc n' x e hx)
  · by_cases e : n' = n
    · simp only [if_pos e] at hx
      refine ⟨hF2 x hx, fun e2 => ?_, fun e2 => ?_⟩
      · subst e2
        rcases hF3 x hx with h | h
        · exact nb h
        · have := hF x H.fb; omega
      · subst e2
        rcases hF3 x hx with h | h
        · exact nm h
        · have := hF x H.fm; omega
    · simp only [if_neg e] at hx
      obtain ⟨a, b1⟩ := H.sub n' x e hx
      exact ⟨hF1 x a, b1⟩
  · by_cases e : n' = n
    · have e' : n'' ≠ n := fun h => hne (e.trans h.symm)
      simp only [if_pos e] at hx
      simp only [if_neg e']
      exact fun h => nfs n'' x e' h hx
    · simp only [if_neg e] at hx
      by_cases e' : n'' = n
      · simp only [if_pos e']
        exact nfs n' x e hx
      · simp only [if_neg e']
        exact H.off n' n'' x e e' hne hx
/-- One more name, beneath which nothing is yet. -/
theorem Kids.new {N d : Nat} {w w2 w3 : World} {b m c : Nat} {F : Nat → Prop} {S : Pset} {D : DataW Unit} {Fs : List Nat → Nat → Prop} (K : Kids (NdAt N w d) N w b m F S D Fs) (hc : NdC w b (S []) (some m)) (hF : ∀ x, F x → x < w.heap.size) {n : List Nat} (hn : tName n = true) (hno : ¬ Some_ (tAt S n))
    (h2 : Below w.heap.size w w2) (hcc : w.heap.size ≤ c) (h3 : w2.grownBy w3 (some m)) (hcl : NdC w2 c false none) (ho : w3.ownsMap Tryz.prog 9 ptrElem m (N + 1) (D.put (klOf n) (blk c))) :
    Shell (N + 1) d w3 b m (fun x => F x ∨ x = c) S n c (fun x => x = c) (D.put (klOf n) (blk c)) Fs ∧ NdAt N w3 d c (fun x => x = c) (tAt S n) := by
  have hml : m < w.heap.size := hF m K.fm
  have hk : WideAt.IsKeyLit (klOf n) := trivial
  have e3 : ∀ x, x < w.heap.size → x ≠ m → w3.heap[x]? = w.heap[x]? := fun x hx hne => (h3.block x (Nat.lt_of_lt_of_le hx h2.size) (fun e => hne (Option.some.inj e))).trans (h2.block x hx)
  have ec : w3.heap[c]? = w2.heap[c]? := h3.block c hcl.lt (fun e => by have := Option.some.inj e; omega)
  refine ⟨⟨hc.same (e3 b (hF b K.fb) (fun e => K.ne e.symm)), ho, K.ne, .inl K.fb, .inl K.fm, hn, fun z => atKey_put_same K.own.isMap hk _ z, fun kl h => ?_, fun n' hne hs => ?_, fun n' x _ hx => ?_, fun n' n'' x _ _ h => K.off n' n'' x h, fun x hx => ?_, fun n' x _ hx e => ?_⟩, ?_⟩
  · by_cases e : kl = klOf n
    · exact .inl e
    · rw [has_put_other e] at h
      exact .inr (K.keys kl h)
  · obtain ⟨a, c', a1, a2⟩ := K.kid n' hs
    refine ⟨a, c', fun z => ?_, a2.keep (by omega) fun x hx => e3 x (hF x (K.sub n' x hx).1) (K.sub n' x hx).2.2⟩
    rw [atKey_put_other (fun e => hne (klOf_inj (tName_bytes a).1 (tName_bytes hn).1 e))]
    exact a1 z
  · exact ⟨.inl (K.sub n' x hx).1, (K.sub n' x hx).2⟩
  · subst hx
    exact ⟨.inr rfl, fun e => by have := hF b K.fb; omega, fun e => by omega⟩
  · have := hF x (K.sub n' x hx).1
    omega
  · rw [none_at hno]
    exact NdAt.empty (hcl.same ec) rfl
/-- A map is made. -/
theorem NdAt.made {N d : Nat} {w : World} {b : Nat} {F : Nat → Prop} {S : Pset} (hc : NdC w b (S []) none) (hb : F b) (hk : ∀ n, ¬ Some_ (tAt S n)) :
    NdC ((w.alloc (.map #[] 0)).setCell ⟨b, 1, none⟩ (.map (some w.heap.size))) b (S []) (some w.heap.size) ∧
    Kids (KidAt N ((w.alloc (.map #[] 0)).setCell ⟨b, 1, none⟩ (.map (some w.heap.size))) d) N ((w.alloc (.map #[] 0)).setCell ⟨b, 1, none⟩ (.map (some w.heap.size))) b w.heap.size (fun x => F x ∨ x = w.heap.size) S (.map []) (fun _ _ => False) := by
  have hbl := hc.lt
  have ha : (w.alloc (.map #[] 0)).heap[b]? = w.heap[b]? := Below.heap_alloc w _ b hbl
  have hc1 := hc.same ha
  refine ⟨⟨?_, ?_, ?_, ?_⟩, ⟨?_, by omega, .inl hb, .inr rfl, fun kl h => ?_, fun n hn => absurd hn (hk n), fun _ _ h => h.elim, fun _ _ _ _ h => h.elim⟩⟩
  · exact (World.cell?_setCell_other _ _ _ _ (by intro e; simp at e)).trans hc1.c0
  · exact World.cell?_setCell_same _ _ _ hc1.c1
  · rw [World.frozen?_setCell]; exact hc1.f0
  · rw [World.frozen?_setCell]; exact hc1.f1
  · exact ((World.ownsMap_made w Tryz.prog 9 ptrElem).mono (Nat.zero_le _)).setCell (by show w.heap.size ≠ b; omega) _
  · simp [has] at h
/-- The leaf is set. -/
theorem NdAt.leaf {N d : Nat} {w : World} {b : Nat} {F : Nat → Prop} {S T : Pset} (h : NdAt N w d b F S) (x : Bool) (h0 : T [] = x) (h1 : ∀ n, tAt T n = tAt S n) : NdAt N (w.setCell ⟨b, 0, none⟩ (.bool x)) d b F T := by
  rw [ndAt_eq] at h ⊢
  obtain ⟨mv, hc, hb, hk⟩ := h
  refine ⟨mv, ⟨?_, ?_, ?_, ?_⟩, hb, ?_⟩
  · rw [h0]; exact World.cell?_setCell_same _ _ _ hc.c0
  · exact (World.cell?_setCell_other _ _ _ _ (by intro e; simp at e)).trans hc.c1
  · rw [World.frozen?_setCell]; exact hc.f0
  · rw [World.frozen?_setCell]; exact hc.f1
  · have es : ∀ y, y ≠ b → (w.setCell ⟨b, 0, none⟩ (.bool x)).heap[y]? = w.heap[y]? := fun y hy => Below.heap_setCell _ _ _ _ hy
    rcases hk with ⟨e, hk⟩ | ⟨m, D, Fs, e, K⟩
    · exact .inl ⟨e, fun n => by rw [h1]; exact hk n⟩
    · refine .inr ⟨m, D, Fs, e, own_same K.own (es m K.ne), K.ne, K.fb, K.fm, fun kl hkl => ?_, fun n hn => ?_, K.sub, K.off⟩
      · obtain ⟨n, e1, e2⟩ := K.keys kl hkl
        exact ⟨n, e1, by rw [h1]; exact e2⟩
      · rw [h1] at hn ⊢
        obtain ⟨a, c, a1, a2⟩ := K.kid n hn
        refine ⟨a, c, a1, ?_⟩
        cases d with
        | zero => exact a2
        | succ d => exact NdAt.keep (d := d) a2 (Nat.le_refl _) fun y hy => es y (K.sub n y hy).2.1
/-- What is owed to the whole tree, once one more row is held beneath a node. -/
def Wnd (N d0 b0 : Nat) (F0 : Nat → Prop) (B0 : Nat) (S0 : Pset) (L0 : List (List Nat)) (wr : World) (d c : Nat) (Fc : Nat → Prop) (Sc : Pset) (rest : List (List Nat)) : Prop :=
  ∀ (w' : World) (Fc' : Nat → Prop), (∀ x, x < wr.heap.size → ¬ Fc x → w'.heap[x]? = wr.heap[x]?) → NdAt (N + 1) w' d c Fc' (tAdd Sc rest) → (∀ x, Fc' x → Fc x ∨ wr.heap.size ≤ x) → NdAt (N + 1) w' d0 b0 (fun x => F0 x ∨ B0 ≤ x) (tAdd S0 L0)
theorem Wnd.start (N d b : Nat) (F : Nat → Prop) (S : Pset) (L : List (List Nat)) (w : World) : Wnd N d b F w.heap.size S L w d b F S L := fun w' Fc' _ h hF => h.more hF
theorem Wnd.step {N d0 b0 : Nat} {F0 : Nat → Prop} {B0 : Nat} {S0 : Pset} {L0 : List (List Nat)} {wr w3 : World} {d c m : Nat} {Fc F3 : Nat → Prop} {Sc : Pset} {n : List Nat} {rest : List (List Nat)} (W : Wnd N d0 b0 F0 B0 S0 L0 wr (d + 1) c Fc Sc (n :: rest))
    {N3 c2 : Nat} {Fc2 : Nat → Prop} {D : DataW Unit} {Fs : List Nat → Nat → Prop} (hN : N3 ≤ N + 1) (H : Shell N3 d w3 c m F3 Sc n c2 Fc2 D Fs) (hF3 : ∀ x, F3 x → x < w3.heap.size) (hs : ∀ x, F3 x → Fc x ∨ wr.heap.size ≤ x) (hf : Frm Fc wr w3) :
    Wnd N d0 b0 F0 B0 S0 L0 w3 d c2 Fc2 (tAt Sc n) rest := by
  intro w' Fc' hw hc hF
  have hcl := H.close (T := tAdd Sc (n :: rest)) (F' := fun x => F3 x ∨ w3.heap.size ≤ x) hF3 hw hN hc (some_add _ _) (fun x h => .inl h) (fun x h => by
    rcases hF x h with h | h
    · exact .inl (H.subc x h).1
    · exact .inr h) hF (tAdd_cons_nil _ _ _) (tAt_add_same _ _ _) (fun n' hne => tAt_add_other _ hne _)
  refine W w' _ (fun x hx hn => ?_) hcl (fun x h => ?_)
  · refine (hw x (Nat.lt_of_lt_of_le hx hf.size) (fun h => ?_)).trans (hf.block x hx hn)
    rcases hs x (H.subc x h).1 with h | h
    · exact hn h
    · omega
  · rcases h with h | h
    · exact hs x h
    · exact .inr (Nat.le_trans hf.size h)
end Go.Proofs.YtbfbjalnahngjaaGreatDoor
namespace Go.Proofs.YtbfbjalnahngjaaGreatDoor.IP
open Go.RowKit Go.Maps Go.WideMaps GR
/-- A call of a function at a step of a region that draws. -/
theorem step_call {ops : Array Oper} {o : Oper} {a : Act} {K : Act → World → Prop} {Q : Exit → Act → World → Prop} {E : Prop} {W : World} {f : FuncId} (he : Enters Tryz.prog f)
    (hgd : o.guard = none) (args : Array Operand) (T : Array TypeId) (ho : o.op = .call { callee := .value (.func f), args := args, argTypes := T })
    (vs : Array Value) (hv' : args.toList.map a.eval = vs.toList) {Φ : Ending → World → Prop} (hc : Calls Tryz.prog f vs W Φ)
    (h : ∀ e w', Φ e w' → ∃ z, e = .returned z ∧ K (a.put o.dst z) w') :
    if Region.wanted o (yielded ops a.tmps) = true then Oper.wp Tryz.prog o a W K Q else E := by
  have hv : args.map a.eval = vs := by rw [← Array.toList_inj, Array.toList_map]; exact hv'
  have hw : Region.wanted o (yielded ops a.tmps) = true := by simp [Region.wanted, hgd]
  rw [if_pos hw]
  have e : (execOp a.eval o).run Tryz.prog W = .ok (.enter f vs) W := by
    have hf : a.eval (.func f) = .func (.func f) #[] #[] := rfl
    have he' := he vs W
    subst hv
    unfold execOp
    simp [ho, resolve, Deferred.ofValue, invoke, hf, go_sem, he']
  unfold Oper.wp
  rw [e, Oper.upon_enter]
  refine hc.mono fun e' w' h2 => ?_
  obtain ⟨z, rfl, hk⟩ := h e' w' h2
  exact hk
theorem enters_clone : Enters Tryz.prog 51 := enters_of Tryz.func51 (by kernel_rfl) rfl
set_option maxRecDepth 100000 in
theorem clone_c (X : ByteArray) (hX : X.size ≤ 100000) (w : World) : Calls Tryz.prog 51 #[.string X] w fun e w' => e = .returned (.string X) ∧ Below w.heap.size w w' := by
  have C := Lib.hid (Tryz.stringslite_Clone X w (by omega))
  go_enter Tryz.func51, Tryz.ntmps51
  go_wp2_with fail
  refine C.out.mono ?_; rintro _ w1 ⟨rfl, hb⟩
  go_wp2
  go_ret
  exact ⟨rfl, hb⟩
/-- A map is made, and stored. -/
theorem map_made (w : World) : (Instr.makeMap 54 none).run Tryz.prog w = .ok (.map (some w.heap.size)) (w.alloc (.map #[] 0)) := run_makeMap ..
/-- Where an add stands behind k names. -/
def AddI (N d b : Nat) (F : Nat → Prop) (S : Pset) (L : List (List Nat)) (w : World) (k : Nat) (wr : World) (c : Nat) : Prop :=
  ∃ (d' : Nat) (Fc : Nat → Prop) (Sc : Pset), NdAt N wr d' c Fc Sc ∧ Wnd N d b F w.heap.size S L wr d' c Fc Sc (L.drop k) ∧ (∀ x, Fc x → x < wr.heap.size) ∧ (∀ x, Fc x → F x ∨ w.heap.size ≤ x) ∧ Frm F w wr ∧ (L.drop k).length ≤ d'
/-- One more name, beneath which nothing is yet. -/
theorem AddI.fresh {N d b : Nat} {F : Nat → Prop} {S : Pset} {L : List (List Nat)} {w : World} {k : Nat} {wr w1 w2 w3 : World} {c m c2 d1 : Nat} {Fc F1 : Nat → Prop} {Sc : Pset} {n : List Nat} {D : DataW Unit} {Fs : List Nat → Nat → Prop} (hw : Wnd N d b F w.heap.size S L wr (d1 + 1) c Fc Sc (L.drop k)) (hd : L.drop k = n :: L.drop (k + 1)) (hl : (L.drop k).length ≤ d1 + 1)
    (hs : ∀ x, Fc x → F x ∨ w.heap.size ≤ x) (hf : Frm F w wr) (h1 : Frm Fc wr w1) (hF1 : ∀ x, F1 x → x < w1.heap.size) (hF2 : ∀ x, F1 x → Fc x ∨ wr.heap.size ≤ x) (K : Kids (NdAt N w1 d1) N w1 c m F1 Sc D Fs) (hc : NdC w1 c (Sc []) (some m)) (hn : tName n = true) (hno : ¬ Some_ (tAt Sc n))
    (h2 : Below w1.heap.size w1 w2) (hcc : w1.heap.size ≤ c2) (h3 : w2.grownBy w3 (some m)) (hcl : NdC w2 c2 false none) (ho : w3.ownsMap Tryz.prog 9 ptrElem m (N + 1) (D.put (klOf n) (blk c2))) : AddI N d b F S L w (k + 1) w3 c2 := by
  obtain ⟨SH, NE⟩ := K.new hc hF1 hn hno h2 hcc h3 hcl ho
  have f3 : Frm Fc wr w3 := (h1.next h2).trans (G' := fun x => x = m) (Frm.grown h3 (fun x e => .inl (Option.some.inj e).symm)) (fun x e => by subst e; exact hF2 x K.fm)
  rw [hd] at hw hl
  refine ⟨d1, _, _, NE, hw.step (Nat.le_refl _) SH (fun x h => ?_) (fun x h => ?_) f3, fun x h => ?_, fun x h => ?_, hf.trans f3 hs, by rw [List.length_cons] at hl; omega⟩
  · rcases h with h | h
    · have := hF1 x h; have := h2.size; have := h3.size; omega
    · have := hcl.lt; have := h3.size; omega
  · rcases h with h | h
    · exact hF2 x h
    · have := h1.size; exact .inr (by omega)
  · have := hcl.lt; have := h3.size; omega
  · have := hf.size; have := h1.size; exact .inr (by omega)
/-- A name that is there. -/
theorem AddI.old {N d b : Nat} {F : Nat → Prop} {S : Pset} {L : List (List Nat)} {w : World} {k : Nat} {wr : World} {c m d1 : Nat} {Fc : Nat → Prop} {Sc : Pset} {n : List Nat} {D : DataW Unit} {Fs : List Nat → Nat → Prop} (hw : Wnd N d b F w.heap.size S L wr (d1 + 1) c Fc Sc (L.drop k)) (hd : L.drop k = n :: L.drop (k + 1)) (hl : (L.drop k).length ≤ d1 + 1)
    (hi : ∀ x, Fc x → x < wr.heap.size) (hs : ∀ x, Fc x → F x ∨ w.heap.size ≤ x) (hf : Frm F w wr) (K : Kids (NdAt N wr d1) N wr c m Fc Sc D Fs) (hc : NdC wr c (Sc []) (some m)) (hn : Some_ (tAt Sc n)) : ∃ c2, (∀ z, D.atKey (klOf n) z = blk c2) ∧ AddI N d b F S L w (k + 1) wr c2 := by
  obtain ⟨c2, SH, NE⟩ := K.open_ hc hn
  rw [hd] at hw hl
  exact ⟨c2, SH.at_, d1, _, _, NE, hw.step (by omega) SH hi (fun x h => .inl h) (Frm.refl _ _), fun x h => hi x (SH.subc x h).1, fun x h => hs x (SH.subc x h).1, hf, by rw [List.length_cons] at hl; omega⟩
theorem AddI.start {N d b : Nat} {F : Nat → Prop} {S : Pset} {L : List (List Nat)} {w : World} (h : NdAt N w d b F S) (hF : ∀ x, F x → x < w.heap.size) (hl : L.length ≤ d) : AddI N d b F S L w 0 w b :=
  ⟨d, F, S, h, Wnd.start N d b F S L w, hF, fun x h => .inl h, Frm.refl _ _, hl⟩
theorem AddI.ends {N d b : Nat} {F : Nat → Prop} {S : Pset} {L : List (List Nat)} {w : World} {wr : World} {c : Nat} (h : AddI N d b F S L w L.length wr c) : (∃ x, wr.cell? ⟨c, 0, none⟩ = some (.bool x)) ∧ wr.frozen? ⟨c, 0, none⟩ = false ∧
    NdAt (N + 1) (wr.setCell ⟨c, 0, none⟩ (.bool true)) d b (fun x => F x ∨ w.heap.size ≤ x) (tAdd S L) ∧ Frm F w (wr.setCell ⟨c, 0, none⟩ (.bool true)) := by
  obtain ⟨d', Fc, Sc, hn, hw, hi, hs, hf, hl⟩ := h
  obtain ⟨mv, hc⟩ := hn.cells
  rw [List.drop_length] at hw
  have h1 := (hn.leaf (T := tAdd Sc []) true rfl (fun n => tAt_add_nil Sc n)).keep (N' := N + 1) (by omega) (fun _ _ => rfl)
  exact ⟨⟨_, hc.c0⟩, hc.f0, hw _ Fc (fun x hx hnx => Below.heap_setCell _ _ _ _ (fun e => hnx (by rw [e]; exact hn.fb))) h1 (fun x h => .inl h), hf.trans (Frm.set wr hn.fb _) hs⟩
end Go.Proofs.YtbfbjalnahngjaaGreatDoor.IP
namespace Go.Proofs.YtbfbjalnahngjaaGreatDoor.IP
open Go.RowKit Go.Maps Go.WideMaps GR
/-- A store of one more name. -/
theorem put_own {w : World} {m N : Nat} {D : DataW Unit} (h : w.ownsMap Tryz.prog 9 ptrElem m N D) (hN : N < 1000000) {X : ByteArray} (hX : X.size ≤ 100000) (c : Nat) :
    ∃ w', (Instr.mapUpdate 54 (.map (some m)) (.string X) (.pointer (some ⟨c, 0, none⟩))).run Tryz.prog w = .ok () w' ∧ w'.ownsMap Tryz.prog 9 ptrElem m (N + 1) (D.put (klOf (bs X)) (blk c)) ∧ w.grownBy w' (some m) :=
  h.update lawS Tryz.underlying54 (by unfold maxLen; omega) (keyS hX) (ptrElem_mk c)
set_option maxRecDepth 100000 in
set_option maxHeartbeats 4000000 in
theorem add_c (d N b : Nat) (F : Nat → Prop) (S : Pset) (L : List (List Nat)) (hL : Byts L) (hn0 : L ≠ []) (hnm : ∀ n ∈ L, tName n = true) (hd : L.length ≤ d) (hl : L.length ≤ 100000) (hN : N < 100000) (g cap : Nat) (w : World) (hc : L.length ≤ cap) (hn : NdAt N w d b F S) (hF : ∀ x, F x → x < w.heap.size) (ta : TxAt w g L) (hg : ¬ F g) :
    Calls Tryz.prog 31 #[.pointer (some ⟨b, 0, none⟩), .slice (some ⟨g, 0, none⟩) L.length cap] w fun e w' => e = .returned (.tuple #[]) ∧ NdAt (N + 1) w' d b (fun x => F x ∨ w.heap.size ≤ x) (tAdd S L) ∧ Frm F w w' := by
  obtain ⟨n, hnn⟩ : ∃ n, L.length = n := ⟨_, rfl⟩
  have HT := Lib.hid ta; have HN := Lib.hid hnn; have HL := Lib.hid hL; have HNM := Lib.hid hnm
  have HS := Lib.hid (AddI.start (L := L) hn hF hd)
  have HG := Lib.hid hg
  have HN6 := Lib.hid (show N < 1000000 by omega)
  have CL := Lib.hid clone_c
  have hmm := map_made
  have qT : ∀ (w : World) (r : Option Nat), (binOp .eql 54 (.map r) (.map none)).run Tryz.prog w = .ok (.bool r.isNone) w := fun w r => run_eql_map_nil w _ _ _ r Tryz.underlying54
  rw [hnn] at hc hl ⊢
  clear ta hnn hL hn hF hg hn0 hnm hd
  go_enter Tryz.func31, Tryz.ntmps31
  go_wp2
  go_loopw [0, 5, 6, 9] (fun v0 _ _ v9 wr => ∃ (k c : Nat), v0 = .pointer (some ⟨c, 0, none⟩) ∧ v9 = .int .i64 (k : Nat) ∧ k ≤ n ∧ Hid (AddI N d b F S L w k wr c)) (fun _ _ _ v9 _ => n - (intOf v9).toNat)
  case atStart => exact ⟨0, b, rfl, rfl, Nat.zero_le _, HS.out⟩
  case round =>
    obtain ⟨k, c, rfl, rfl, hk, HI⟩ := hrel
    by_cases hlt : k < n
    · have hki : (k : Int) < (n : Int) := by omega
      have hkl : k < L.length := by rw [HN.out]; exact hlt
      have hp := List.getElem?_eq_getElem hkl
      have hdr := List.drop_eq_getElem_cons hkl
      obtain ⟨m, hm⟩ : ∃ m, L[k] = m := ⟨_, rfl⟩
      rw [hm] at hp hdr
      obtain ⟨hm1, hm2⟩ := HL.out m (List.mem_of_getElem? hp)
      have hmn := HNM.out m (List.mem_of_getElem? hp)
      obtain ⟨X, hX⟩ : ∃ X, str m = X := ⟨_, rfl⟩
      have hbX : bs X = m := by rw [← hX, bs_str hm1]
      have hXs : X.size ≤ 100000 := by rw [← hX, str_size]; exact hm2
      have z1 : wr.cell? ⟨g, k, none⟩ = some (.string X) := by
        obtain ⟨d', Fc, Sc, hnd, hw, hi, hs, hf, hle⟩ := HI.out
        rw [← hX]
        exact hf.cell HG.out (HT.out k m hp)
      have HMN := Lib.hid (show tName (bs X) = true by rw [hbX]; exact hmn); have HDR := Lib.hid (show L.drop k = bs X :: L.drop (k + 1) by rw [hbX]; exact hdr); have HXS := Lib.hid hXs
      clear hX hbX hmn hdr hm hm1 hm2 hp
      obtain ⟨d', Fc, Sc, hnd, hw, hi, hs, hf, hle⟩ := HI.out
      cases d' with
      | zero => rw [HDR.out] at hle; simp at hle
      | succ d1 =>
        rw [ndAt_eq] at hnd
        obtain ⟨mv, hc0, hfc, hkk⟩ := hnd
        have HW := Lib.hid hw; have HII := Lib.hid hi; have HSS := Lib.hid hs; have HF := Lib.hid hf; have HLE := Lib.hid hle
        clear hw hi hs hf hle
        obtain ⟨k0, k1, kf0, kf1⟩ := id hc0
        rcases hkk with ⟨rfl, hnk⟩ | ⟨mb, D, Fs, rfl, K⟩
        · obtain ⟨hc1, K1⟩ := NdAt.made (N := N) (d := d1 + 1) hc0 hfc hnk
          have hmc := hc1.c1
          have hca := hc0.same (Below.heap_alloc wr (.map #[] 0) c hc0.lt)
          have ha1 := hca.c1
          have ha2 := hca.f1
          obtain ⟨A, hrun, hA⟩ := look_own K1.own hXs
          rcases hA with ⟨rfl, hA⟩ | ⟨c3, rfl, hA⟩
          · as_aux_lemma =>
              have e : ¬ Some_ (tAt Sc (bs X)) := hnk _
              have FR := Lib.hid (fun (w2 w3 : World) (c2 : Nat) h2 hcc h3 hcl ho => AddI.fresh (w2 := w2) (w3 := w3) (c2 := c2) HW.out HDR.out HLE.out HSS.out HF.out ((Frm.alloc Fc wr (.map #[] 0)).trans (G' := Fc) (Frm.set _ hfc _) (fun x h => .inl h)) (fun x h => h.elim (fun h => Nat.lt_of_lt_of_le (HII.out x h) (by simp)) (fun h => by rw [h]; simp)) (fun x h => h.elim .inl (fun h => .inr (Nat.le_of_eq h.symm))) K1 hc1 HMN.out e h2 hcc h3 hcl ho)
              have NE := Lib.hid K1.ne
              have hnw := node_new ((wr.alloc (.map #[] 0)).setCell ⟨c, 1, none⟩ (.map (some wr.heap.size)))
              have hbw := alloc_below ((wr.alloc (.map #[] 0)).setCell ⟨c, 1, none⟩ (.map (some wr.heap.size))) (.cells #[.bool false, .map none] 56)
              have hk1 := (hc1.same (hbw.block c hc1.lt)).c1
              have how := own_same K1.own (hbw.block wr.heap.size K1.own.lt)
              have HO := Lib.hid how; have HNW := Lib.hid hnw; have HBW := Lib.hid hbw
              clear hA e how hnw hbw hca hc0 hnk hfc K1 hc1
              go_wp2_with fail
              obtain ⟨w1, hw1⟩ : ∃ w1, (wr.alloc (.map #[] 0)).setCell ⟨c, 1, none⟩ (.map (some wr.heap.size)) = w1 := ⟨_, rfl⟩
              have hsz : w1.heap.size = wr.heap.size + 1 := by rw [← hw1]; simp
              rw [hw1] at FR HO HNW HBW hk1 ⊢
              clear hw1
              obtain ⟨mb, hmb⟩ : ∃ mb, wr.heap.size = mb := ⟨_, rfl⟩
              rw [hmb] at HO hk1 FR hsz NE ⊢
              clear hmb
              obtain ⟨w2, hw2⟩ : ∃ w2, w1.alloc (.cells #[.bool false, .map none] 56) = w2 := ⟨_, rfl⟩
              rw [hw2] at HO HNW HBW hk1 ⊢
              clear hw2
              obtain ⟨c2, hcc2⟩ : ∃ c2, mb + 1 = c2 := ⟨_, rfl⟩
              rw [hcc2] at hsz ⊢
              have HCC := Lib.hid hsz
              rw [hsz] at HNW
              clear hcc2 hsz
              have hz := Below.drew (Below.refl w2.heap.size w2)
              go_region_held_law (fun y => y.cell? ⟨c, 1, none⟩ = some (.map (some mb))) (first | exact hk10 | exact cellb hz hk1)
                (first | (refine step_call enters_clone (by rfl) _ _ (by rfl) #[.string X] (by rfl) (CL.out X HXS.out _) ?_; rintro e w9 ⟨rfl, hb9⟩; refine ⟨_, rfl, ?_⟩; have hz := bnext hz hb9; obtain ⟨w10, hr10, ho10, hg10⟩ := put_own (own_same HO.out (hz.block mb HO.out.lt)) HN6.out HXS.out c2; have hk10 : w10.cell? ⟨c, 1, none⟩ = some (.map (some mb)) := (World.cell?_of_block (w := w9) (hg10.block c (World.block_lt_of_cell? w9 _ (cellb hz hk1)) (fun e => NE.out (Option.some.inj e).symm))).trans (cellb hz hk1); have H10 := Lib.hid (FR.out w9 w10 c2 (bnext HBW.out hz) (by rw [HCC.out]; exact Nat.le_refl _) hg10 (HNW.out.same (hz.block c2 HNW.out.lt)) ho10); clear ho10 hg10))
              go_wp2
              go_roundw
              case rel => exact ⟨k + 1, c2, rfl, by go_num, by omega, H10.out⟩
              case measure => simp [intOf]; omega
          · have hz2 : DataW.atKey (DataW.map [] : DataW Unit) (klOf (bs X)) DataW.nil = DataW.nil := rfl
            rw [hz2] at hA
            exact absurd hA.symm blk_nil
        · obtain ⟨A, hrun, hA⟩ := look_own K.own hXs
          rcases Classical.em (Some_ (tAt Sc (bs X))) with e | e
          · obtain ⟨c2, hat, HI2⟩ := AddI.old HW.out HDR.out HLE.out HII.out HSS.out HF.out K hc0 e
            rcases hA with ⟨rfl, hA⟩ | ⟨c3, rfl, hA⟩
            · rw [hat] at hA; exact absurd hA blk_nil
            · rw [hat] at hA
              obtain rfl := blk_inj hA
              have H2 := Lib.hid HI2
              clear hA hat e K HI2 hc0
              as_aux_lemma =>
                go_wp2
                go_roundw
                case rel => exact ⟨k + 1, c2, rfl, by go_num, by omega, H2.out⟩
                case measure => simp [intOf]; omega
          · have hno := K.no (bs_mem X) e
            rcases hA with ⟨rfl, hA⟩ | ⟨c3, rfl, hA⟩
            · as_aux_lemma =>
                have FR := Lib.hid (fun (w2 w3 : World) (c2 : Nat) h2 hcc h3 hcl ho => AddI.fresh (w2 := w2) (w3 := w3) (c2 := c2) HW.out HDR.out HLE.out HSS.out HF.out (Frm.refl _ _) HII.out (fun x h => .inl h) K hc0 HMN.out e h2 hcc h3 hcl ho)
                have NE := Lib.hid K.ne
                have hnw := node_new wr
                have hbw := alloc_below wr (.cells #[.bool false, .map none] 56)
                have hk1 := (hc0.same (hbw.block c hc0.lt)).c1
                have how := own_same K.own (hbw.block mb K.own.lt)
                have HO := Lib.hid how; have HNW := Lib.hid hnw; have HBW := Lib.hid hbw
                clear hA e how hnw hbw hc0 K hno
                go_wp2_with fail
                skip
                obtain ⟨w2, hw2⟩ : ∃ w2, wr.alloc (.cells #[.bool false, .map none] 56) = w2 := ⟨_, rfl⟩
                rw [hw2] at HO HNW HBW hk1 ⊢
                clear hw2
                obtain ⟨c2, hcc2⟩ : ∃ c2, wr.heap.size = c2 := ⟨_, rfl⟩
                have HCC := Lib.hid hcc2
                rw [hcc2] at HNW ⊢
                clear hcc2
                have hz := Below.drew (Below.refl w2.heap.size w2)
                go_region_held_law (fun y => y.cell? ⟨c, 1, none⟩ = some (.map (some mb))) (first | exact hk10 | exact cellb hz hk1)
                  (first | (refine step_call enters_clone (by rfl) _ _ (by rfl) #[.string X] (by rfl) (CL.out X HXS.out _) ?_; rintro e w9 ⟨rfl, hb9⟩; refine ⟨_, rfl, ?_⟩; have hz := bnext hz hb9; obtain ⟨w10, hr10, ho10, hg10⟩ := put_own (own_same HO.out (hz.block mb HO.out.lt)) HN6.out HXS.out c2; have hk10 : w10.cell? ⟨c, 1, none⟩ = some (.map (some mb)) := (World.cell?_of_block (w := w9) (hg10.block c (World.block_lt_of_cell? w9 _ (cellb hz hk1)) (fun e => NE.out (Option.some.inj e).symm))).trans (cellb hz hk1); have H10 := Lib.hid (FR.out w9 w10 c2 (bnext HBW.out hz) (by rw [HCC.out]; exact Nat.le_refl _) hg10 (HNW.out.same (hz.block c2 HNW.out.lt)) ho10); clear ho10 hg10))
                go_wp2
                go_roundw
                case rel => exact ⟨k + 1, c2, rfl, by go_num, by omega, H10.out⟩
                case measure => simp [intOf]; omega
            · rw [atKey_of_not_has hno] at hA; exact absurd hA.symm blk_nil
    · obtain rfl : k = n := by omega
      have hE := HI.out
      rw [← HN.out] at hE
      obtain ⟨⟨x, h0⟩, h1, h2, h3⟩ := hE.ends
      have H2 := Lib.hid h2; have H3 := Lib.hid h3
      clear h2 h3 hE
      as_aux_lemma =>
        go_wp2
        go_end0
        exact ⟨rfl, H2.out, H3.out⟩
end Go.Proofs.YtbfbjalnahngjaaGreatDoor.IP
namespace Go.Proofs.YtbfbjalnahngjaaGreatDoor
open Go.RowKit Go.Maps Go.WideMaps GR
/-- What a range over the kids has visited. -/
structure LvD (S : Pset) (left : Lit → Bool) (ss : List (List (List Nat))) : Prop where
  nd : ss.Nodup
  mem : ∀ s, s ∈ ss ↔ S s = true ∧ ∃ n r, s = n :: r ∧ left (klOf n) = false
/-- The kids that a map tells. -/
structure KidD (S : Pset) (D : DataW Unit) : Prop where
  keys : ∀ kl, has D kl = true → ∃ n, kl = klOf n ∧ Some_ (tAt S n)
  kid : ∀ n, Some_ (tAt S n) → tName n = true ∧ ∃ c, ∀ z, D.atKey (klOf n) z = blk c
theorem Kids.kidD {C : Nat → (Nat → Prop) → Pset → Prop} {N : Nat} {w : World} {b m : Nat} {F : Nat → Prop} {S : Pset} {D : DataW Unit} {Fs : List Nat → Nat → Prop} (K : Kids C N w b m F S D Fs) : KidD S D :=
  ⟨K.keys, fun n hn => by obtain ⟨a, c, a1, _⟩ := K.kid n hn; exact ⟨a, c, a1⟩⟩
theorem KidD.has {S : Pset} {D : DataW Unit} (h : KidD S D) {n : List Nat} (hn : Some_ (tAt S n)) : has D (klOf n) = true := by
  obtain ⟨_, c, hc⟩ := h.kid n hn
  exact has_true_of_atKey hc
theorem KidD.names {S : Pset} {D : DataW Unit} (h : KidD S D) {n : List Nat} {r : List (List Nat)} (hs : S (n :: r) = true) : tName n = true := (h.kid n (some_at hs)).1
theorem LvD.start {S : Pset} {D : DataW Unit} (h : KidD S D) : LvD S (has D) [] :=
  ⟨List.nodup_nil, fun s => ⟨fun h => absurd h (by simp), fun ⟨hs, n, r, e, hl⟩ => by subst e; rw [h.has (some_at hs)] at hl; cases hl⟩⟩
theorem nodup_app {α : Type} {l m : List α} (h1 : l.Nodup) (h2 : m.Nodup) (h : ∀ x ∈ l, x ∉ m) : (l ++ m).Nodup := List.nodup_append.2 ⟨h1, h2, fun a ha b hb e => h a ha (e ▸ hb)⟩
theorem nodup_cons_map {n : List Nat} {ss : List (List (List Nat))} (h : ss.Nodup) : (ss.map (n :: ·)).Nodup := by
  rw [List.Nodup, List.pairwise_map]
  exact List.Pairwise.imp (fun hne e => hne (List.cons.inj e).2) h
theorem LvD.step {S : Pset} {D : DataW Unit} (K : KidD S D) {left : Lit → Bool} {ss ss' : List (List (List Nat))} (h : LvD S left ss) {n : List Nat} (hn : tName n = true) (hl : left (klOf n) = true) (h1 : ss'.Nodup) (h2 : ∀ r, r ∈ ss' ↔ tAt S n r = true) : LvD S (fun z => left z && !z.sameKey (klOf n)) (ss ++ ss'.map (n :: ·)) := by
  refine ⟨nodup_app h.nd (nodup_cons_map h1) fun x hx hm => ?_, fun s => ?_⟩
  · obtain ⟨r, _, rfl⟩ := List.mem_map.1 hm
    obtain ⟨_, n', r', e, hl'⟩ := (h.mem _).1 hx
    obtain ⟨rfl, _⟩ := List.cons.inj e
    rw [hl] at hl'
    cases hl'
  · rw [List.mem_append]
    constructor
    · rintro (hs | hs)
      · obtain ⟨a, n', r, e, hl'⟩ := (h.mem s).1 hs
        exact ⟨a, n', r, e, by rw [hl']; rfl⟩
      · obtain ⟨r, hr, rfl⟩ := List.mem_map.1 hs
        refine ⟨(h2 r).1 hr, n, r, rfl, ?_⟩
        rw [hl, WideAt.sameKey_self (by trivial)]
        rfl
    · rintro ⟨hs, n', r, rfl, hl'⟩
      by_cases e : n' = n
      · subst e
        exact .inr (List.mem_map.2 ⟨r, (h2 r).2 hs, rfl⟩)
      · refine .inl ((h.mem _).2 ⟨hs, n', r, rfl, ?_⟩)
        cases h3 : left (klOf n') with
        | false => rfl
        | true =>
          rw [h3, sameKey_ne (fun e2 => e (klOf_inj (tName_bytes (K.names hs)).1 (tName_bytes hn).1 e2))] at hl'
          cases hl'
/-- All that is held: the node's own row, and those of its kids. -/
def tOwn (S : Pset) : List (List (List Nat)) := if S [] = true then [[]] else []
theorem LvD.ends {S : Pset} {left : Lit → Bool} {ss : List (List (List Nat))} (h : LvD S left ss) (hl : ∀ kl, left kl = false) : (tOwn S ++ ss).Nodup ∧ ∀ s, s ∈ tOwn S ++ ss ↔ S s = true := by
  have hno : [] ∉ ss := fun hm => by
    obtain ⟨_, n, r, e, _⟩ := (h.mem _).1 hm
    cases e
  unfold tOwn
  by_cases hS : S [] = true
  · rw [if_pos hS]
    refine ⟨nodup_app (by simp) h.nd fun x hx => ?_, fun s => ?_⟩
    · obtain rfl := List.mem_singleton.1 hx
      exact hno
    · rw [List.mem_append, List.mem_singleton]
      constructor
      · rintro (rfl | hs)
        · exact hS
        · exact ((h.mem s).1 hs).1
      · intro hs
        cases s with
        | nil => exact .inl rfl
        | cons n r => exact .inr ((h.mem _).2 ⟨hs, n, r, rfl, hl _⟩)
  · rw [if_neg hS, List.nil_append]
    refine ⟨h.nd, fun s => ⟨fun hs => ((h.mem s).1 hs).1, fun hs => ?_⟩⟩
    cases s with
    | nil => exact absurd hs hS
    | cons n r => exact (h.mem _).2 ⟨hs, n, r, rfl, hl _⟩
theorem own_only {S : Pset} (h : ∀ n, ¬ Some_ (tAt S n)) : (tOwn S).Nodup ∧ ∀ s, s ∈ tOwn S ↔ S s = true := by
  have := LvD.ends (S := S) (left := fun _ => false) (ss := []) ⟨List.nodup_nil, fun s => ⟨fun h => absurd h (by simp), fun ⟨hs, n, r, e, _⟩ => by subst e; exact absurd (some_at hs) (h n)⟩⟩ (fun _ => rfl)
  rw [List.append_nil] at this
  exact this
/-- Few are held. -/
def Few (S : Pset) : Prop := ∃ m : List (List (List Nat)), m.length ≤ 64 ∧ ∀ s, S s = true → s ∈ m
theorem Few.at_ {S : Pset} (h : Few S) (n : List Nat) : Few (tAt S n) := by
  obtain ⟨m, hm, hs⟩ := h
  refine ⟨(m.map List.tail), by rw [List.length_map]; exact hm, fun s h => List.mem_map.2 ⟨n :: s, hs _ h, rfl⟩⟩
theorem Few.le {S : Pset} (h : Few S) {ss : List (List (List Nat))} (h1 : ss.Nodup) (h2 : ∀ s ∈ ss, S s = true) : ss.length ≤ 64 := by
  obtain ⟨m, hm, hs⟩ := h
  exact Nat.le_trans (nodup_le h1 fun s h => hs s (h2 s h)) hm
theorem few_sof {l : List (List Nat)} (h : l.length ≤ 64) : Few (Sof l) := ⟨l.map (tCut · 8), by rw [List.length_map]; exact h, fun s hs => by
  obtain ⟨t, ht, e⟩ := sof_iff.1 hs
  exact List.mem_map.2 ⟨t, ht, e⟩⟩
theorem few_none : Few tNone := ⟨[], by simp, fun _ h => by cases h⟩
/-! ### The range -/
theorem ranges_same {w w' : World} {m r N cnt : Nat} {D : DataW Unit} {left : Lit → Bool} (h : w.ranges Tryz.prog 9 ptrElem m r N D left cnt) (em : w'.heap[m]? = w.heap[m]?) (er : w'.heap[r]? = w.heap[r]?) : w'.ranges Tryz.prog 9 ptrElem m r N D left cnt := by
  obtain ⟨es, clock, since, seen, c0, hb, a1, a2, a3, hr, rest⟩ := h
  exact ⟨es, clock, since, seen, c0, em.trans hb, a1, a2, a3, er.trans hr, rest⟩
/-- The step of a range over the kids. -/
theorem wpList_next_kid {w : World} {ops : Array Oper} {rest : List Oper} {o : Oper} {a : Act} {Q : Exit → Act → World → Prop}
    (hg : o.guard = none) (it : Operand) (hop : o.op = Op.next it false) (m r N : Nat) {S : Pset} (D : DataW Unit) (K : KidD S D) (left : Lit → Bool) (cnt : Nat)
    (hit : a.eval it = .pointer (some ⟨r, 0, none⟩)) (h : w.ranges Tryz.prog 9 ptrElem m r N D left cnt)
    (hDone : (∀ kl, left kl = false) → wpList Tryz.prog ops Q rest (a.put o.dst (.tuple #[.bool false])) w)
    (hMore : ∀ (X : ByteArray) (n : List Nat) (c : Nat) (w' : World) (cnt' : Nat), str n = X → tName n = true → Some_ (tAt S n) → left (klOf n) = true → (∀ z, D.atKey (klOf n) z = blk c) → w'.ranges Tryz.prog 9 ptrElem m r N D (fun z => left z && !z.sameKey (klOf n)) cnt' → cnt' < cnt →
      w.grownBy w' (some r) → w'.heap.size = w.heap.size → (Instr.entry (.pointer (some ⟨r, 0, none⟩))).run Tryz.prog w' = .ok (.tuple #[.string X, .pointer (some ⟨c, 0, none⟩)]) w' → wpList Tryz.prog ops Q rest (a.put o.dst (.tuple #[.bool true, .string X, .pointer (some ⟨c, 0, none⟩)])) w') :
    wpList Tryz.prog ops Q (o :: rest) a w := by
  refine wpList_next_ranges w hg it hop 9 lawS ptrElem Value.string Value.pointer (fun key kl hk => by obtain ⟨s, rfl, _⟩ := string_of_keyOf Tryz.underlying9 hk; exact ⟨s, rfl⟩) (fun v y hv => by obtain ⟨A, rfl, _⟩ := ptrElem_inv hv; exact ⟨A, rfl⟩) m r N D left cnt hit h (fun _ hl => hDone hl) ?_
  intro X A kl y w' cnt' hkey hl hR hat hrg hlt hgr hsz hen
  obtain ⟨s, e1, rfl, _⟩ := string_of_keyOf Tryz.underlying9 hkey
  obtain rfl : X = s := by injection e1
  obtain ⟨n, e2, hs⟩ := K.keys _ (has_true_of_atKey hat)
  obtain ⟨hn, c, hc⟩ := K.kid n hs
  rw [e2] at hat hl hrg
  have hX : str n = X := by
    have h2 := e2
    rw [← klOf_bs] at h2
    rw [← klOf_inj (bs_mem X) (tName_bytes hn).1 h2, str_bs]
  have hA : A = some ⟨c, 0, none⟩ := by
    have h3 := hat .nil
    rw [hc] at h3
    obtain ⟨A', e4, h4⟩ := ptrElem_inv hR
    obtain rfl : A = A' := by injection e4
    rcases h4 with ⟨_, h4⟩ | ⟨b, rfl, h4⟩
    · rw [h4] at h3; exact absurd h3 blk_nil
    · rw [h4] at h3; rw [blk_inj h3]
  subst hA
  exact hMore X n c w' cnt' hX hn hs hl hc hrg hlt hgr hsz hen
theorem KidAt.keep {d N : Nat} {w w' : World} {b : Nat} {F : Nat → Prop} {S : Pset} (h : KidAt N w d b F S) (hF : ∀ x, F x → w'.heap[x]? = w.heap[x]?) : KidAt N w' d b F S := by
  cases d with
  | zero => exact h
  | succ d => exact NdAt.keep (d := d) h (Nat.le_refl _) hF
end Go.Proofs.YtbfbjalnahngjaaGreatDoor
