/-
  Texts of the trie's proofs, merged: TriPD, TriPF, TriSort, TriPG, TrlPB.
-/
import Derived.Test.YtbfbjalnahngjaaGreatDoorTriQ10
import Derived.Sort.OwnSorted
import Derived.Test.YtbfbjalnahngjaaGreatDoorTriQ9
set_option linter.unusedSimpArgs false
set_option linter.unusedVariables false
namespace Go.Proofs.YtbfbjalnahngjaaGreatDoor.IP
open Go.RowKit Go.Maps Go.WideMaps GR
/-- A visitor of paths: what it has met so far, and in which blocks that lies. -/
structure Vis (g bx : Nat) (St : List (List Nat) → World → (Nat → Prop) → Prop) : Prop where
  enters : ∀ args w, (callFunc g args).run Tryz.prog w = .ok (.enter g args) w
  keep : ∀ {l w w' G}, St l w G → (∀ i, G i → w'.heap[i]? = w.heap[i]?) → w.heap.size ≤ w'.heap.size → St l w' G
  lt : ∀ {l w G}, St l w G → ∀ i, G i → i < w.heap.size
  call : ∀ (l : List (List Nat)) (x : List Nat) (w : World) (G : Nat → Prop), St l w G → l.length ≤ 4096 → x.length ≤ 5000 → (∀ c ∈ x, c < 256) → Calls Tryz.prog g #[.string (str x), .pointer (some ⟨bx, 0, none⟩)] w fun e w' => e = .returned (.tuple #[]) ∧ ∃ G', St (l ++ [x]) w' G' ∧ Frm G w w' ∧ ∀ i, G' i → G i ∨ w.heap.size ≤ i
/-- What a visit of all that is held from a node on does. -/
def LvC (g bx : Nat) (St : List (List Nat) → World → (Nat → Prop) → Prop) (e : Nat) (C : World → Nat → (Nat → Prop) → Pset → Prop) : Prop :=
  ∀ (b : Nat) (F : Nat → Prop) (S : Pset) (a : List Nat) (l : List (List Nat)) (G : Nat → Prop) (w : World), C w b F S → St l w G → (∀ x, F x → ¬ G x) → Few S → (∀ c ∈ a, c < 256) → a.length + 40 * e ≤ 4000 → l.length + 64 * e ≤ 4000 →
    Calls Tryz.prog 35 #[.pointer (some ⟨b, 0, none⟩), .string (str a), .func (.func g) #[] #[.pointer (some ⟨bx, 0, none⟩)]] w fun e w' => e = .returned (.tuple #[]) ∧ ∃ (ss : List (List (List Nat))) (G' : Nat → Prop), ss.Nodup ∧ (∀ s, s ∈ ss ↔ S s = true) ∧ St (l ++ ss.map (tPath a)) w' G' ∧ Frm G w w' ∧ ∀ i, G' i → G i ∨ w.heap.size ≤ i
theorem own_map (S : Pset) (a : List Nat) : (tOwn S).map (tPath a) = if S [] = true then [a] else [] := by
  unfold tOwn
  split <;> rfl
/-- Where a range stands. -/
structure LvR (St : List (List Nat) → World → (Nat → Prop) → Prop) (S : Pset) (a : List Nat) (l : List (List Nat)) (G : Nat → Prop) (w : World) (m r N : Nat) (D : DataW Unit) (left : Lit → Bool) (cnt : Nat) (ss : List (List (List Nat))) (Gr : Nat → Prop) (wr : World) : Prop where
  rg : wr.ranges Tryz.prog 9 ptrElem m r N D left cnt
  st : St (l ++ (tOwn S ++ ss).map (tPath a)) wr Gr
  fr : Frm G w wr
  gr : ∀ i, Gr i → G i ∨ w.heap.size ≤ i
  nr : ¬ Gr r
  rw : w.heap.size ≤ r
  ml : m < w.heap.size
  nm : ¬ G m
  dn : LvD S left ss
theorem LvR.gm {St : List (List Nat) → World → (Nat → Prop) → Prop} {S : Pset} {a : List Nat} {l : List (List Nat)} {G : Nat → Prop} {w : World} {m r N : Nat} {D : DataW Unit} {left : Lit → Bool} {cnt : Nat} {ss : List (List (List Nat))} {Gr : Nat → Prop} {wr : World} (h : LvR St S a l G w m r N D left cnt ss Gr wr) : ¬ Gr m := fun e => by
  rcases h.gr m e with e | e
  · exact h.nm e
  · have := h.ml; omega
theorem tUnder_bytes {a n : List Nat} (ha : ∀ c ∈ a, c < 256) (hn : ∀ c ∈ n, c < 256) : ∀ c ∈ tUnder a n, c < 256 := fun c hc => by
  unfold tUnder at hc
  split at hc
  · exact hn c hc
  · rcases List.mem_append.1 hc with h | h
    · exact ha c h
    · rcases List.mem_cons.1 h with h | h
      · omega
      · exact hn c h
theorem tUnder_len (a n : List Nat) : (tUnder a n).length ≤ a.length + 1 + n.length := by
  unfold tUnder
  split
  · omega
  · rw [List.length_append, List.length_cons]; omega
set_option maxRecDepth 100000 in
set_option maxHeartbeats 4000000 in
theorem leaves_node {g bx : Nat} {St : List (List Nat) → World → (Nat → Prop) → Prop} (V : Vis g bx St) (N d : Nat) (IH : LvC g bx St d (fun w => KidAt N w d)) : LvC g bx St (d + 1) (fun w => NdAt N w d) := by
  intro b F S a l G w hn hst hFG hfew ha hal hll
  replace hn := NdAt.cut (show NdAt N w d b F S from hn)
  rw [ndAt_eq] at hn
  obtain ⟨mv, hc0, hfb, hkk⟩ := hn
  have eg := V.enters
  have VC := Lib.hid V.call
  have HV := Lib.hid V
  have UC := Lib.hid under_c
  have HIH := Lib.hid IH
  have HST := Lib.hid hst; have HFG := Lib.hid hFG; have HFEW := Lib.hid hfew; have HA := Lib.hid ha
  obtain ⟨Y, hY⟩ : ∃ Y, str a = Y := ⟨_, rfl⟩
  have HY := Lib.hid hY
  rw [hY]
  have HC := Lib.hid hc0
  obtain ⟨B, hB⟩ : ∃ B, S [] = B := ⟨_, rfl⟩
  have HSB := Lib.hid hB
  obtain ⟨k0, k1, -, -⟩ := hc0
  rw [hB] at k0
  have nGb := Lib.hid (hFG b hfb.1)
  clear hst hFG hfew ha IH V hB hY
  have HOM := own_map S a
  cases B with
  | true =>
    have V1 := Lib.hid (VC.out l a w G HST.out (by omega) (by omega) HA.out)
    rw [HY.out] at V1
    rw [HSB.out, if_pos rfl] at HOM
    have HO := Lib.hid HOM
    clear HOM
    go_enter Tryz.func35, Tryz.ntmps35
    go_wp2_with fail
    refine V1.out.mono ?_
    rintro _ w1 ⟨rfl, G1, hst1, hf1, hg1⟩
    rw [← HO.out] at hst1
    have ST1 := Lib.hid hst1; have FR1 := Lib.hid hf1; have GR1 := Lib.hid hg1; have k2 := hf1.cell nGb.out k1
    clear hst1 hf1 hg1 k1 k0 V1
    rcases hkk with ⟨rfl, hnk⟩ | ⟨m, D, Fs, rfl, K⟩
    · have HOW := Lib.hid (own_only hnk)
      have hrg := run_range_nilMap (P := Tryz.prog) w1 _ _ _ Tryz.underlying54
      have hnx : ∀ ty, (Instr.next (.pointer (some ⟨w1.heap.size, 0, none⟩)) false ty).run Tryz.prog (w1.alloc (.mapIter none 0 #[] 0)) = _ := fun ty => run_next_nilMap w1 ty 0 0 #[]
      have hba := alloc_below w1 (.mapIter none 0 #[] 0)
      have ST2 := Lib.hid (HV.out.keep ST1.out (fun i hi => hba.block i (HV.out.lt ST1.out i hi)) hba.size)
      have FR2 := Lib.hid (FR1.out.next hba)
      clear hnk hfb hba
      as_aux_lemma =>
        go_wp2
        refine wp_loop_rounds 1 ?_
        rw [rounds_succ]
        go_wp2
        go_end0
        exact ⟨rfl, tOwn S, G1, HOW.out.1, HOW.out.2, ST2.out, FR2.out, GR1.out⟩
    · have nGm := Lib.hid (HFG.out m K.fm.1)
      have own1 := own_same K.own (FR1.out.block m K.fm.2 nGm.out)
      have HK := Lib.hid K
      clear K hfb
      as_aux_lemma =>
        go_wp2_with (first
          | (at_range; refine wpList_range_own _ rfl _ 54 rfl 9 59 lawS Tryz.underlying54 _ m N D rfl own1 ?_; intro w2 hrg0 hg0 hs0)
          | go_in)
        have hb2 : Below w1.heap.size w1 w2 := ⟨hg0.os, hg0.tape, hg0.output, hg0.size, fun i hi => hg0.block i hi (by simp)⟩
        obtain ⟨r, hr⟩ : ∃ r, w1.heap.size = r := ⟨_, rfl⟩
        have R0 := Lib.hid (show LvR St S a l G w m r N D (has D) (Maps.size D) [] G1 w2 from ⟨by rw [← hr]; exact hrg0, by rw [List.append_nil]; exact HV.out.keep ST1.out (fun i hi => hb2.block i (HV.out.lt ST1.out i hi)) hb2.size, FR1.out.next hb2, GR1.out, fun e => by have := HV.out.lt ST1.out r e; omega, by rw [← hr]; exact FR1.out.size, HK.out.fm.2, nGm.out, LvD.start HK.out.kidD⟩)
        rw [hr]
        clear hrg0 hg0 hs0 hb2 own1 hr
        go_frame
        go_loopw [6, 7] (fun _ _ wr => ∃ left cnt ss Gr, Hid (LvR St S a l G w m r N D left cnt ss Gr wr)) (fun _ _ wr => wr.rangeLeft m r)
        case atStart => exact ⟨_, _, _, _, R0.out⟩
        case round =>
          obtain ⟨left, cnt, ss, Gr, HR⟩ := hrel
          go_wp2_with (first
            | (at_next; refine wpList_next_kid rfl _ rfl m r N D HK.out.kidD left cnt rfl HR.out.rg ?_ ?_)
            | go_in)
          · intro hl0
            have HE := Lib.hid (HR.out.dn.ends hl0)
            as_aux_lemma =>
              go_wp2
              go_end0
              exact ⟨rfl, tOwn S ++ ss, Gr, HE.out.1, HE.out.2, HR.out.st, HR.out.fr, HR.out.gr⟩
          · intro X n c w3 cnt3 hX hnm hsm hlf hat hrg3 hlt hg3 hs3 hen
            obtain ⟨-, c', hc', hkid⟩ := HK.out.kid n hsm
            have ecc : c = c' := blk_inj ((hat .nil).symm.trans (hc' .nil))
            subst ecc
            have fr3 : Frm G w w3 := HR.out.fr.trans (G' := fun i => i = r) (Frm.grown hg3 (fun x e => .inl (Option.some.inj e).symm)) (fun x e => .inr (by rw [e]; exact HR.out.rw))
            have st3 := HV.out.keep HR.out.st (w' := w3) (fun i hi => hg3.block i (HV.out.lt HR.out.st i hi) (fun e => HR.out.nr (by rw [← Option.some.inj e]; exact hi))) (by omega)
            have kid3 := hkid.keep (w' := w3) (fun x hx => fr3.block x (HK.out.sub n x hx).1.2 (HFG.out x (HK.out.sub n x hx).1.1))
            have hfs : ∀ x, Fs n x → ¬ Gr x := fun x hx e => by
              rcases HR.out.gr x e with e | e
              · exact HFG.out x (HK.out.sub n x hx).1.1 e
              · have := (HK.out.sub n x hx).1.2; omega
            have hnb := tName_bytes hnm
            have hln : (tOwn S ++ ss).length ≤ 64 := HFEW.out.le (by
              have h1 := HR.out.dn
              unfold tOwn
              split
              · exact nodup_app (by simp) h1.nd fun x hx hm => by
                  obtain rfl := List.mem_singleton.1 hx
                  obtain ⟨_, n', r', e, _⟩ := (h1.mem _).1 hm
                  cases e
              · exact h1.nd) (fun s hs => by
              rcases List.mem_append.1 hs with hs | hs
              · unfold tOwn at hs
                split at hs
                · rename_i h2
                  obtain rfl := List.mem_singleton.1 hs
                  exact h2
                · exact absurd hs (by simp)
              · exact ((HR.out.dn.mem s).1 hs).1)
            have U := Lib.hid (UC.out a n HA.out (by omega) (by omega) w3)
            rw [HY.out, hX] at U
            have hul := tUnder_len a n
            have I := Lib.hid (HIH.out c (Fs n) (tAt S n) (tUnder a n) (l ++ (tOwn S ++ ss).map (tPath a)) Gr w3 kid3 st3 hfs (HFEW.out.at_ n) (tUnder_bytes HA.out hnb.1) (by omega) (by rw [List.length_append, List.length_map]; omega))
            have KEEP := Lib.hid (fun (w4 : World) (G4 : Nat → Prop) (ss' : List (List (List Nat))) (h1 : ss'.Nodup) (h2 : ∀ s, s ∈ ss' ↔ tAt S n s = true) (h3 : St ((l ++ (tOwn S ++ ss).map (tPath a)) ++ ss'.map (tPath (tUnder a n))) w4 G4) (h4 : Frm Gr w3 w4) (h5 : ∀ i, G4 i → Gr i ∨ w3.heap.size ≤ i) => show LvR St S a l G w m r N D (fun z => left z && !z.sameKey (klOf n)) cnt3 (ss ++ ss'.map (n :: ·)) G4 w4 from
              ⟨ranges_same hrg3 (h4.block m hrg3.owns.lt HR.out.gm) (h4.block r hrg3.lt HR.out.nr), by
                rw [← List.append_assoc, List.map_append, ← List.append_assoc, List.map_map]; exact h3, fr3.trans h4 HR.out.gr, fun i hi => by
                rcases h5 i hi with h | h
                · exact HR.out.gr i h
                · exact .inr (by have := fr3.size; omega), fun e => by
                rcases h5 r e with h | h
                · exact HR.out.nr h
                · have := hrg3.lt; omega, HR.out.rw, HR.out.ml, HR.out.nm, HR.out.dn.step HK.out.kidD hnm hlf h1 h2⟩)
            have HLT := Lib.hid (show ∀ (y : World) (lf : Lit → Bool) (s9 : List (List (List Nat))) (G9 : Nat → Prop), LvR St S a l G w m r N D lf cnt3 s9 G9 y → y.rangeLeft m r < wr.rangeLeft m r from fun y lf s9 G9 h => by rw [h.rg.left_eq, HR.out.rg.left_eq]; exact hlt)
            clear hX hnm hsm hlf hat hrg3 hlt hg3 hs3 hc' hkid fr3 st3 kid3 hfs hnb hln hul
            as_aux_lemma =>
              go_wp2_with fail
              refine U.out.mono ?_; rintro _ w4 ⟨rfl, rfl⟩
              go_wp2_with fail
              refine I.out.mono ?_; rintro _ w5 ⟨rfl, ss', G4, h1, h2, h3, h4, h5⟩
              have NEW := Lib.hid (KEEP.out w5 G4 ss' h1 h2 h3 h4 h5)
              clear h1 h2 h3 h4 h5
              go_wp2
              go_roundw
              case rel => exact ⟨_, _, _, _, NEW.out⟩
              case measure => exact HLT.out _ _ _ _ NEW.out
  | false =>
    rw [HSB.out, if_neg (by decide)] at HOM
    have ST1 := Lib.hid (show St (l ++ (tOwn S).map (tPath a)) w G by rw [HOM, List.append_nil]; exact HST.out)
    have FR1 := Lib.hid (Frm.refl G w)
    have GR1 := Lib.hid (show ∀ i, G i → G i ∨ w.heap.size ≤ i from fun i h => .inl h)
    have k2 := k1
    clear HOM k1
    go_enter Tryz.func35, Tryz.ntmps35
    go_upto_region 2 with fail
    rcases hkk with ⟨rfl, hnk⟩ | ⟨m, D, Fs, rfl, K⟩
    · have HOW := Lib.hid (own_only hnk)
      have hrg := run_range_nilMap (P := Tryz.prog) w _ _ _ Tryz.underlying54
      have hnx : ∀ ty, (Instr.next (.pointer (some ⟨w.heap.size, 0, none⟩)) false ty).run Tryz.prog (w.alloc (.mapIter none 0 #[] 0)) = _ := fun ty => run_next_nilMap w ty 0 0 #[]
      have hba := alloc_below w (.mapIter none 0 #[] 0)
      have ST2 := Lib.hid (HV.out.keep ST1.out (fun i hi => hba.block i (HV.out.lt ST1.out i hi)) hba.size)
      have FR2 := Lib.hid (FR1.out.next hba)
      clear hnk hfb hba
      as_aux_lemma =>
        go_wp2
        refine wp_loop_rounds 1 ?_
        rw [rounds_succ]
        go_wp2
        go_end0
        exact ⟨rfl, tOwn S, G, HOW.out.1, HOW.out.2, ST2.out, FR2.out, GR1.out⟩
    · have nGm := Lib.hid (HFG.out m K.fm.1)
      have own1 := own_same K.own (FR1.out.block m K.fm.2 nGm.out)
      have HK := Lib.hid K
      clear K hfb
      as_aux_lemma =>
        go_wp2_with (first
          | (at_range; refine wpList_range_own _ rfl _ 54 rfl 9 59 lawS Tryz.underlying54 _ m N D rfl own1 ?_; intro w2 hrg0 hg0 hs0)
          | go_in)
        have hb2 : Below w.heap.size w w2 := ⟨hg0.os, hg0.tape, hg0.output, hg0.size, fun i hi => hg0.block i hi (by simp)⟩
        obtain ⟨r, hr⟩ : ∃ r, w.heap.size = r := ⟨_, rfl⟩
        have R0 := Lib.hid (show LvR St S a l G w m r N D (has D) (Maps.size D) [] G w2 from ⟨by rw [← hr]; exact hrg0, by rw [List.append_nil]; exact HV.out.keep ST1.out (fun i hi => hb2.block i (HV.out.lt ST1.out i hi)) hb2.size, FR1.out.next hb2, GR1.out, fun e => by have := HV.out.lt ST1.out r e; omega, by rw [← hr]; exact FR1.out.size, HK.out.fm.2, nGm.out, LvD.start HK.out.kidD⟩)
        rw [hr]
        clear hrg0 hg0 hs0 hb2 own1 hr
        go_frame
        go_loopw [6, 7] (fun _ _ wr => ∃ left cnt ss Gr, Hid (LvR St S a l G w m r N D left cnt ss Gr wr)) (fun _ _ wr => wr.rangeLeft m r)
        case atStart => exact ⟨_, _, _, _, R0.out⟩
        case round =>
          obtain ⟨left, cnt, ss, Gr, HR⟩ := hrel
          go_wp2_with (first
            | (at_next; refine wpList_next_kid rfl _ rfl m r N D HK.out.kidD left cnt rfl HR.out.rg ?_ ?_)
            | go_in)
          · intro hl0
            have HE := Lib.hid (HR.out.dn.ends hl0)
            as_aux_lemma =>
              go_wp2
              go_end0
              exact ⟨rfl, tOwn S ++ ss, Gr, HE.out.1, HE.out.2, HR.out.st, HR.out.fr, HR.out.gr⟩
          · intro X n c w3 cnt3 hX hnm hsm hlf hat hrg3 hlt hg3 hs3 hen
            obtain ⟨-, c', hc', hkid⟩ := HK.out.kid n hsm
            have ecc : c = c' := blk_inj ((hat .nil).symm.trans (hc' .nil))
            subst ecc
            have fr3 : Frm G w w3 := HR.out.fr.trans (G' := fun i => i = r) (Frm.grown hg3 (fun x e => .inl (Option.some.inj e).symm)) (fun x e => .inr (by rw [e]; exact HR.out.rw))
            have st3 := HV.out.keep HR.out.st (w' := w3) (fun i hi => hg3.block i (HV.out.lt HR.out.st i hi) (fun e => HR.out.nr (by rw [← Option.some.inj e]; exact hi))) (by omega)
            have kid3 := hkid.keep (w' := w3) (fun x hx => fr3.block x (HK.out.sub n x hx).1.2 (HFG.out x (HK.out.sub n x hx).1.1))
            have hfs : ∀ x, Fs n x → ¬ Gr x := fun x hx e => by
              rcases HR.out.gr x e with e | e
              · exact HFG.out x (HK.out.sub n x hx).1.1 e
              · have := (HK.out.sub n x hx).1.2; omega
            have hnb := tName_bytes hnm
            have hln : (tOwn S ++ ss).length ≤ 64 := HFEW.out.le (by
              have h1 := HR.out.dn
              unfold tOwn
              split
              · exact nodup_app (by simp) h1.nd fun x hx hm => by
                  obtain rfl := List.mem_singleton.1 hx
                  obtain ⟨_, n', r', e, _⟩ := (h1.mem _).1 hm
                  cases e
              · exact h1.nd) (fun s hs => by
              rcases List.mem_append.1 hs with hs | hs
              · unfold tOwn at hs
                split at hs
                · rename_i h2
                  obtain rfl := List.mem_singleton.1 hs
                  exact h2
                · exact absurd hs (by simp)
              · exact ((HR.out.dn.mem s).1 hs).1)
            have U := Lib.hid (UC.out a n HA.out (by omega) (by omega) w3)
            rw [HY.out, hX] at U
            have hul := tUnder_len a n
            have I := Lib.hid (HIH.out c (Fs n) (tAt S n) (tUnder a n) (l ++ (tOwn S ++ ss).map (tPath a)) Gr w3 kid3 st3 hfs (HFEW.out.at_ n) (tUnder_bytes HA.out hnb.1) (by omega) (by rw [List.length_append, List.length_map]; omega))
            have KEEP := Lib.hid (fun (w4 : World) (G4 : Nat → Prop) (ss' : List (List (List Nat))) (h1 : ss'.Nodup) (h2 : ∀ s, s ∈ ss' ↔ tAt S n s = true) (h3 : St ((l ++ (tOwn S ++ ss).map (tPath a)) ++ ss'.map (tPath (tUnder a n))) w4 G4) (h4 : Frm Gr w3 w4) (h5 : ∀ i, G4 i → Gr i ∨ w3.heap.size ≤ i) => show LvR St S a l G w m r N D (fun z => left z && !z.sameKey (klOf n)) cnt3 (ss ++ ss'.map (n :: ·)) G4 w4 from
              ⟨ranges_same hrg3 (h4.block m hrg3.owns.lt HR.out.gm) (h4.block r hrg3.lt HR.out.nr), by
                rw [← List.append_assoc, List.map_append, ← List.append_assoc, List.map_map]; exact h3, fr3.trans h4 HR.out.gr, fun i hi => by
                rcases h5 i hi with h | h
                · exact HR.out.gr i h
                · exact .inr (by have := fr3.size; omega), fun e => by
                rcases h5 r e with h | h
                · exact HR.out.nr h
                · have := hrg3.lt; omega, HR.out.rw, HR.out.ml, HR.out.nm, HR.out.dn.step HK.out.kidD hnm hlf h1 h2⟩)
            have HLT := Lib.hid (show ∀ (y : World) (lf : Lit → Bool) (s9 : List (List (List Nat))) (G9 : Nat → Prop), LvR St S a l G w m r N D lf cnt3 s9 G9 y → y.rangeLeft m r < wr.rangeLeft m r from fun y lf s9 G9 h => by rw [h.rg.left_eq, HR.out.rg.left_eq]; exact hlt)
            clear hX hnm hsm hlf hat hrg3 hlt hg3 hs3 hc' hkid fr3 st3 kid3 hfs hnb hln hul
            as_aux_lemma =>
              go_wp2_with fail
              refine U.out.mono ?_; rintro _ w4 ⟨rfl, rfl⟩
              go_wp2_with fail
              refine I.out.mono ?_; rintro _ w5 ⟨rfl, ss', G4, h1, h2, h3, h4, h5⟩
              have NEW := Lib.hid (KEEP.out w5 G4 ss' h1 h2 h3 h4 h5)
              clear h1 h2 h3 h4 h5
              go_wp2
              go_roundw
              case rel => exact ⟨_, _, _, _, NEW.out⟩
              case measure => exact HLT.out _ _ _ _ NEW.out
/-- .. of a whole tree. -/
theorem leaves_c {g bx : Nat} {St : List (List Nat) → World → (Nat → Prop) → Prop} (V : Vis g bx St) (N : Nat) : ∀ d, LvC g bx St (d + 1) (fun w => NdAt N w d)
  | 0 => leaves_node V N 0 (fun _ _ _ _ _ _ _ h => h.elim)
  | d + 1 => leaves_node V N (d + 1) (leaves_c V N d)
end Go.Proofs.YtbfbjalnahngjaaGreatDoor.IP
namespace Go.Proofs.YtbfbjalnahngjaaGreatDoor
open Go.RowKit Go.Maps Go.WideMaps GR
/-- A trie that holds the paths of a list: none at all, or one in the blocks of F. -/
def TrV (N : Nat) (w : World) (v : Value) (F : Nat → Prop) (l : List (List Nat)) : Prop :=
  (v = .pointer none ∧ l = []) ∨ ∃ t, v = .pointer (some ⟨t, 0, none⟩) ∧ NdAt N w 8 t F (Sof l) ∧ ∀ x, F x → x < w.heap.size
theorem TrV.below {N : Nat} {w w' : World} {v : Value} {F : Nat → Prop} {l : List (List Nat)} (h : TrV N w v F l) (hb : Below w.heap.size w w') : TrV N w' v F l := by
  rcases h with h | ⟨t, e, h1, h2⟩
  · exact .inl h
  · exact .inr ⟨t, e, h1.keep (Nat.le_refl _) (fun x hx => hb.block x (h2 x hx)), fun x hx => by have := h2 x hx; have := hb.size; omega⟩
namespace IP
set_option maxRecDepth 100000 in
/-- The root. -/
theorem top_c {N : Nat} {w : World} {v : Value} {F : Nat → Prop} {l : List (List Nat)} (h : TrV N w v F l) : Calls Tryz.prog 27 #[v] w fun e w' => ∃ (b : Nat) (F' : Nat → Prop), e = .returned (.pointer (some ⟨b, 0, none⟩)) ∧ NdAt N w' 8 b F' (Sof l) ∧ (∀ x, F' x → x < w'.heap.size) ∧ (∀ x, F' x → F x ∨ w.heap.size ≤ x) ∧ Below w.heap.size w w' := by
  rcases h with ⟨rfl, rfl⟩ | ⟨t, rfl, h1, h2⟩
  · refine (top_none w).mono ?_
    rintro _ w' ⟨rfl, rfl⟩
    refine ⟨w.heap.size, fun x => x = w.heap.size, rfl, NdAt.empty (node_new w) rfl, fun x hx => ?_, fun x hx => .inr (by omega), alloc_below _ _⟩
    have := (node_new w).lt
    rw [hx]; exact this
  · refine (top_some t w).mono ?_
    rintro _ w' ⟨rfl, rfl⟩
    exact ⟨t, F, rfl, h1, h2, fun x hx => .inl hx, Below.refl _ _⟩
/-- How many were met: in the variable at block c. -/
def LenS (c : Nat) (l : List (List Nat)) (w : World) (G : Nat → Prop) : Prop := (∀ i, G i ↔ i = c) ∧ w.cell? ⟨c, 0, none⟩ = some (.int .i64 (l.length : Nat)) ∧ w.frozen? ⟨c, 0, none⟩ = false
theorem enters_len1 : ∀ args w, (callFunc 40 args).run Tryz.prog w = .ok (.enter 40 args) w := enters_of Tryz.func40 (by kernel_rfl) rfl
set_option maxRecDepth 100000 in
theorem len1_c (c : Nat) (l : List (List Nat)) (X : ByteArray) (x : List Nat) (w : World) (G : Nat → Prop) (h : LenS c l w G) (hl : l.length ≤ 4096) : Calls Tryz.prog 40 #[.string X, .pointer (some ⟨c, 0, none⟩)] w fun e w' => e = .returned (.tuple #[]) ∧ ∃ G' : Nat → Prop, LenS c (l ++ [x]) w' G' ∧ Frm G w w' ∧ ∀ i, G' i → G i ∨ w.heap.size ≤ i := by
  obtain ⟨hG, c0, f0⟩ := h
  have HS := Lib.hid (show ∀ n : Int, n = ((l ++ [x]).length : Nat) → LenS c (l ++ [x]) (w.setCell ⟨c, 0, none⟩ (.int .i64 n)) G from fun n hn => ⟨hG, by rw [← hn]; exact World.cell?_setCell_same _ _ _ c0, by rw [World.frozen?_setCell]; exact f0⟩)
  have HF := Lib.hid (fun u => Frm.set (G := G) w (o := 0) ((hG c).2 rfl) u)
  obtain ⟨n, hn⟩ : ∃ n, l.length = n := ⟨_, rfl⟩
  have HN := Lib.hid (show ((n : Int) + 1) = ((l ++ [x]).length : Nat) by rw [List.length_append, hn]; rfl)
  rw [hn] at c0 hl
  have hwr : wrap64 ((n : Int) + 1) = (n : Int) + 1 := by unfold wrap64; omega
  clear hn hG
  go_enter Tryz.func40, Tryz.ntmps40
  go_wp2
  go_end0
  exact ⟨rfl, G, HS.out _ HN.out, HF.out _, fun i h => .inl h⟩
theorem len_vis (c : Nat) : Vis 40 c (LenS c) where
  enters := enters_len1
  keep h hk hs := by
    obtain ⟨hG, c0, f0⟩ := h
    have e := hk c ((hG c).2 rfl)
    exact ⟨hG, (World.cell?_of_block e).trans c0, (World.frozen?_of_block e).trans f0⟩
  lt h i hi := by
    obtain ⟨hG, c0, _⟩ := h
    rw [(hG i).1 hi]
    exact World.block_lt_of_cell? _ _ c0
  call l x w G h hl _ _ := len1_c c l (str x) x w G h hl
theorem path_root {l : List (List Nat)} (hr : ∀ t ∈ l, tRight t = true) {ss : List (List (List Nat))} (h1 : ss.Nodup) (h2 : ∀ s, s ∈ ss ↔ Sof l s = true) : (ss.map (tPath [])).Nodup ∧ ∀ t, t ∈ ss.map (tPath []) ↔ t ∈ l := by
  have hj : ∀ s ∈ ss, tPath [] s = tJoin s ∧ tJoin s ∈ l ∧ tCut (tJoin s) 8 = s := fun s hs => by
    obtain ⟨a, b, c, d, e⟩ := sof_names hr ((h2 s).1 hs)
    exact ⟨tPath_root s (fun n hn => (tName_bytes (c n hn)).2.1), d, e⟩
  constructor
  · rw [List.Nodup, List.pairwise_map]
    refine List.Pairwise.imp_of_mem ?_ h1
    intro a b ha hb hne e
    rw [(hj a ha).1, (hj b hb).1] at e
    exact hne (by rw [← (hj a ha).2.2, ← (hj b hb).2.2, e])
  · intro t
    rw [List.mem_map]
    constructor
    · rintro ⟨s, hs, rfl⟩
      rw [(hj s hs).1]
      exact (hj s hs).2.1
    · intro ht
      have hs : tCut t 8 ∈ ss := (h2 _).2 (sof_iff.2 ⟨t, ht, rfl⟩)
      exact ⟨_, hs, by rw [(hj _ hs).1, tJoin_cut]⟩
theorem root_len {l : List (List Nat)} (h : Pl l) {ss : List (List (List Nat))} (h1 : ss.Nodup) (h2 : ∀ s, s ∈ ss ↔ Sof l s = true) : (ss.map (tPath [])).length = l.length := by
  obtain ⟨a, b⟩ := path_root h.ri h1 h2
  exact Nat.le_antisymm (nodup_le a fun t ht => (b t).1 ht) (nodup_le h.up.nodup fun t ht => (b t).2 ht)
/-- A variable of one cell, made and set. -/
theorem box_new (w : World) (x y : Value) (t : TypeId) : ((w.alloc (.cells #[x] t)).setCell ⟨w.heap.size, 0, none⟩ y).cell? ⟨w.heap.size, 0, none⟩ = some y ∧ ((w.alloc (.cells #[x] t)).setCell ⟨w.heap.size, 0, none⟩ y).frozen? ⟨w.heap.size, 0, none⟩ = false ∧ Below w.heap.size w ((w.alloc (.cells #[x] t)).setCell ⟨w.heap.size, 0, none⟩ y) :=
  ⟨World.cell?_setCell_same _ _ _ (cell_of_row _ _ 0 _ _ (0, 0) (heap_alloc_new w (.cells #[x] t))), by rw [World.frozen?_setCell]; exact frozen_of_row _ _ 0 _ _ (heap_alloc_new _ _), (alloc_below w _).setCell (Nat.le_refl _) _⟩
set_option maxRecDepth 100000 in
set_option maxHeartbeats 1000000 in
theorem len_c {N : Nat} {w : World} {v : Value} {F : Nat → Prop} {l : List (List Nat)} (hp : Pl l) (h : TrV N w v F l) (hF : ∀ x, F x → x < w.heap.size) : Calls Tryz.prog 21 #[v] w fun e w' => e = .returned (.int .i64 (l.length : Nat)) ∧ Below w.heap.size w w' := by
  obtain ⟨hc0, hf0, hb0⟩ := box_new w (.int .i64 0) (.int .i64 0) 3
  obtain ⟨wb, hwb⟩ : ∃ wb, (w.alloc (.cells #[.int .i64 0] 3)).setCell ⟨w.heap.size, 0, none⟩ (.int .i64 0) = wb := ⟨_, rfl⟩
  have hsz : w.heap.size < wb.heap.size := by rw [← hwb]; simp
  rw [hwb] at hc0 hf0 hb0
  have HWB := Lib.hid hwb
  obtain ⟨c, hc⟩ : ∃ c, w.heap.size = c := ⟨_, rfl⟩
  have HCC := Lib.hid hc
  have T := Lib.hid (top_c (h.below hb0))
  have HS := Lib.hid (show LenS c [] wb (fun i => i = c) from ⟨fun i => Iff.rfl, by rw [← hc]; exact hc0, by rw [← hc]; exact hf0⟩)
  have HB := Lib.hid hb0; have HP := Lib.hid hp; have HF := Lib.hid hF; have HSZ := Lib.hid hsz
  have V := Lib.hid (len_vis c)
  have hv : v = .pointer none ∨ ∃ t, v = .pointer (some ⟨t, 0, none⟩) := by
    rcases h with ⟨h, _⟩ | ⟨t, h, _⟩
    · exact .inl h
    · exact .inr ⟨t, h⟩
  rw [hc] at hc0 hf0 hwb
  clear hsz hb0 hp hF h
  go_enter Tryz.func21, Tryz.ntmps21
  go_wp2_with fail
  try rw [hc]
  try rw [hwb]
  refine T.out.mono ?_
  rintro _ w1 ⟨b, F1, rfl, hn1, hl1, hs1, hb1⟩
  have HB1 := Lib.hid (bnext HB.out hb1)
  have st1 := V.out.keep HS.out (fun i hi => hb1.block i (V.out.lt HS.out i hi)) hb1.size
  have L1 := Lib.hid (leaves_c V.out N 8 b F1 (Sof l) [] [] (fun i => i = c) w1 hn1 st1 (fun x hx e => by
    rcases hs1 x hx with h | h
    · have := HF.out x h; have := HCC.out; omega
    · have := HSZ.out; have := HCC.out; omega) (few_sof HP.out.le) (fun _ h => absurd h (by simp)) (by simp) (by simp))
  clear hn1 hl1 hs1 hb1 st1 hwb
  go_wp2_with fail
  refine L1.out.mono ?_
  rintro _ w2 ⟨rfl, ss, G2, n1, n2, hst, hf, hg⟩
  have e1 := root_len HP.out n1 n2
  rw [List.nil_append] at hst
  obtain ⟨hG2, c2, _⟩ := hst
  rw [e1] at c2
  have HB2 := Lib.hid (HB1.out.trans (hf.to_below (B := w.heap.size) (by have := HB1.out.size; omega) (fun x hx => by have := HCC.out; omega)))
  clear n1 n2 hf hg e1 hG2 hc0 hf0
  go_wp2
  go_ret
  exact ⟨rfl, HB2.out⟩
end IP
end Go.Proofs.YtbfbjalnahngjaaGreatDoor
namespace Go.Proofs.YtbfbjalnahngjaaGreatDoor
open Go.RowKit Go.Maps Go.WideMaps GR
def u8 (t : List Nat) : List UInt8 := t.map UInt8.ofNat
def n8 (x : List UInt8) : List Nat := x.map UInt8.toNat
theorem n8_lt : ∀ (x y : List UInt8), x < y ↔ n8 x < n8 y
  | [], [] => by simp [n8]
  | [], b :: y => by simp [n8]
  | a :: x, [] => by simp [n8]
  | a :: x, b :: y => by
    have ih := n8_lt x y
    rw [List.cons_lt_cons_iff]
    show _ ↔ (a.toNat :: n8 x) < (b.toNat :: n8 y)
    rw [List.cons_lt_cons_iff, ih, UInt8.lt_iff_toNat_lt, UInt8.toNat_inj]
theorem u8_n8 (x : List UInt8) : u8 (n8 x) = x := by
  unfold u8 n8
  rw [List.map_map]
  conv => rhs; rw [← List.map_id x]
  apply List.map_congr_left
  intro c _
  simp
theorem n8_u8 {t : List Nat} (h : ∀ c ∈ t, c < 256) : n8 (u8 t) = t := by
  unfold u8 n8
  rw [List.map_map]
  conv => rhs; rw [← List.map_id t]
  apply List.map_congr_left
  intro c hc
  have := h c hc
  simp [Nat.mod_eq_of_lt this]
theorem n8_inj {x y : List UInt8} (h : n8 x = n8 y) : x = y := by rw [← u8_n8 x, h, u8_n8]
/-- Sorted, a list of texts, each once, is the list that rises and has them. -/
theorem sort_up {l ls : List (List Nat)} (hl : Up l) (hb : ∀ t ∈ l, ∀ c ∈ t, c < 256) (hn : ls.Nodup) (hm : ∀ t, t ∈ ls ↔ t ∈ l) : (ls.map u8).mergeSort (fun x y => decide (x ≤ y)) = l.map u8 := by
  obtain ⟨ts, hts⟩ : ∃ ts, (ls.map u8).mergeSort (fun x y => decide (x ≤ y)) = ts := ⟨_, rfl⟩
  have hp : ts.Perm (ls.map u8) := by rw [← hts]; exact List.mergeSort_perm _ _
  have hs : ts.Pairwise (fun x y => decide (x ≤ y) = true) := by
    rw [← hts]
    exact List.pairwise_mergeSort (fun a b c h1 h2 => by
      rw [decide_eq_true_eq] at *
      exact List.le_trans h1 h2) (fun a b => by
      rw [Bool.or_eq_true, decide_eq_true_eq, decide_eq_true_eq]
      exact List.le_total a b) _
  have hbl : ∀ t ∈ ls, n8 (u8 t) = t := fun t ht => n8_u8 (hb t ((hm t).1 ht))
  have hnd : (ls.map u8).Nodup := by
    rw [List.Nodup, List.pairwise_map]
    refine List.Pairwise.imp_of_mem ?_ hn
    intro a b ha hb2 hne e
    exact hne (by rw [← hbl a ha, ← hbl b hb2, e])
  have hnt : ts.Nodup := (hp.nodup_iff).2 hnd
  have hup : Up (ts.map n8) := by
    rw [Up, List.pairwise_map]
    refine List.Pairwise.imp ?_ (hs.and hnt)
    intro a b hab
    rw [← n8_lt]
    have h1 := of_decide_eq_true hab.1
    rcases Classical.em (a < b) with h | h
    · exact h
    · exact absurd (List.le_antisymm h1 (List.not_lt.1 h)) hab.2
  have hmem : ∀ t, t ∈ ts.map n8 ↔ t ∈ l := fun t => by
    rw [List.mem_map]
    constructor
    · rintro ⟨x, hx, rfl⟩
      obtain ⟨s, hs1, rfl⟩ := List.mem_map.1 (hp.mem_iff.1 hx)
      rw [hbl s hs1]
      exact (hm s).1 hs1
    · intro ht
      have h1 := (hm t).2 ht
      exact ⟨u8 t, hp.mem_iff.2 (List.mem_map.2 ⟨t, h1, rfl⟩), hbl t h1⟩
  rw [hts, ← up_unique hup hl hmem, List.map_map]
  conv => lhs; rw [← List.map_id ts]
  exact (List.map_congr_left fun x _ => by simp [u8_n8]).symm
theorem txC_u8 (ls : List (List Nat)) : txC ls = (ls.map u8).map encStr := by
  unfold txC
  rw [List.map_map]
  rfl
/-! ### A row in a variable -/
theorem own_block {B n : Nat} {e : TypeId} {size : Nat} {w w' : World} {v : Value} {xs : List Value} (h : w.ownsRow B e size v n xs) (hk : ∀ g, v.ownBlock = some g → w'.heap[g]? = w.heap[g]?) : w'.ownsRow B e size v n xs := by
  refine ⟨h.1, ?_⟩
  rcases h.2 with ⟨rfl, h0⟩ | ⟨g, cap, cur, rfl, hg, hh, hr⟩
  · exact Or.inl ⟨rfl, h0⟩
  · exact Or.inr ⟨g, cap, cur, rfl, hg, (hk g rfl).trans hh, hr⟩
/-- The variable at block c holds a row of one's own. -/
def RwS (e : TypeId) (size c n : Nat) (xs : List Value) (w : World) (G : Nat → Prop) : Prop :=
  ∃ v, w.cell? ⟨c, 0, none⟩ = some v ∧ w.frozen? ⟨c, 0, none⟩ = false ∧ w.ownsRow (c + 1) e size v n xs ∧ ∀ i, G i ↔ i = c ∨ v.ownBlock = some i
theorem RwS.keep {e : TypeId} {size c n : Nat} {xs : List Value} {w w' : World} {G : Nat → Prop} (h : RwS e size c n xs w G) (hk : ∀ i, G i → w'.heap[i]? = w.heap[i]?) : RwS e size c n xs w' G := by
  obtain ⟨v, c0, f0, ho, hG⟩ := h
  have ec := hk c ((hG c).2 (.inl rfl))
  exact ⟨v, (World.cell?_of_block ec).trans c0, (World.frozen?_of_block ec).trans f0, own_block ho (fun g hg => hk g ((hG g).2 (.inr hg))), hG⟩
theorem own_lt2 {B n : Nat} {e : TypeId} {size : Nat} {w : World} {v : Value} {xs : List Value} (h : w.ownsRow B e size v n xs) {g : Nat} (hg : v.ownBlock = some g) : B ≤ g ∧ g < w.heap.size := h.lt g hg
theorem RwS.lt {e : TypeId} {size c n : Nat} {xs : List Value} {w : World} {G : Nat → Prop} (h : RwS e size c n xs w G) : ∀ i, G i → i < w.heap.size := fun i hi => by
  obtain ⟨v, c0, f0, ho, hG⟩ := h
  rcases (hG i).1 hi with e1 | e1
  · rw [e1]; exact World.block_lt_of_cell? _ _ c0
  · exact (own_lt2 ho e1).2
/-- One more, behind an append and a store. -/
theorem RwS.push {e : TypeId} {size c n m : Nat} {xs ys : List Value} {w w1 w2 : World} {G : Nat → Prop} {v v' : Value} (h1 : w.cell? ⟨c, 0, none⟩ = some v) (h2 : w.frozen? ⟨c, 0, none⟩ = false) (ho : w.ownsRow (c + 1) e size v n xs) (hG : ∀ i, G i ↔ i = c ∨ v.ownBlock = some i)
    (hb : Below w.heap.size w w1) (ho' : w2.ownsRow (c + 1) e size v' m ys) (hg : w1.grownBy w2 v.ownBlock) (hat : v'.ownBlock = v.ownBlock ∨ v'.ownBlock = some w1.heap.size) :
    w2.cell? ⟨c, 0, none⟩ = some v ∧ w2.frozen? ⟨c, 0, none⟩ = false ∧ RwS e size c m ys (w2.setCell ⟨c, 0, none⟩ v') (fun i => i = c ∨ v'.ownBlock = some i) ∧ Frm G w (w2.setCell ⟨c, 0, none⟩ v') ∧ ∀ i, (i = c ∨ v'.ownBlock = some i) → G i ∨ w.heap.size ≤ i := by
  have hcl := World.block_lt_of_cell? _ _ h1
  have hnc : some c ≠ v.ownBlock := fun e1 => by have := (own_lt2 ho e1.symm).1; omega
  have ec : w2.heap[c]? = w.heap[c]? := (hg.block c (Nat.lt_of_lt_of_le hcl hb.size) hnc).trans (hb.block c hcl)
  have d1 := (World.cell?_of_block (a := ⟨c, 0, none⟩) ec).trans h1
  have d2 := (World.frozen?_of_block (a := ⟨c, 0, none⟩) ec).trans h2
  refine ⟨d1, d2, ⟨v', World.cell?_setCell_same _ _ _ d1, by rw [World.frozen?_setCell]; exact d2, own_block ho' (fun g hg2 => ?_), fun i => Iff.rfl⟩, ?_, fun i hi => ?_⟩
  · exact Below.heap_setCell _ _ _ _ (fun e2 => by have := (own_lt2 ho' hg2).1; simp only at e2; omega)
  · exact (((Frm.of_below (G := G) hb).trans (G' := G) (Frm.grown hg (fun x e2 => .inl ((hG x).2 (.inr e2)))) (fun x hx => .inl hx))).trans (G' := G) (Frm.set w2 ((hG c).2 (.inl rfl)) v') (fun x hx => .inl hx)
  · rcases hi with e2 | e2
    · exact .inl ((hG i).2 (.inl e2))
    · rcases hat with e3 | e3
      · exact .inl ((hG i).2 (.inr (e3.symm.trans e2)))
      · rw [e3] at e2
        have := Option.some.inj e2
        have := hb.size
        exact .inr (by omega)
end Go.Proofs.YtbfbjalnahngjaaGreatDoor
namespace Go.Proofs.YtbfbjalnahngjaaGreatDoor.IP
open Go.RowKit Go.Maps Go.WideMaps GR
/-- The texts that were met. -/
def PthS (c : Nat) (l : List (List Nat)) (w : World) (G : Nat → Prop) : Prop := RwS 9 1 c l.length (txC l) w G
theorem enters_paths1 : ∀ args w, (callFunc 36 args).run Tryz.prog w = .ok (.enter 36 args) w := enters_of Tryz.func36 (by kernel_rfl) rfl
set_option maxRecDepth 100000 in
set_option maxHeartbeats 1000000 in
theorem paths1_c (c : Nat) (l : List (List Nat)) (x : List Nat) (w : World) (G : Nat → Prop) (h : PthS c l w G) (hl : l.length ≤ 4096) : Calls Tryz.prog 36 #[.string (str x), .pointer (some ⟨c, 0, none⟩)] w fun e w' => e = .returned (.tuple #[]) ∧ ∃ G' : Nat → Prop, PthS c (l ++ [x]) w' G' ∧ Frm G w w' ∧ ∀ i, G' i → G i ∨ w.heap.size ≤ i := by
  obtain ⟨i0, hi0, hz0, hzz1, hzz2⟩ := info_parts tx_info
  obtain ⟨v, c0, f0, ho, hG⟩ := h
  have hcl := World.block_lt_of_cell? _ _ c0
  obtain ⟨n, hn⟩ : ∃ n, l.length = n := ⟨_, rfl⟩
  rw [hn] at ho hl
  obtain ⟨A, k, rfl, hk, _⟩ := own_form ho
  obtain ⟨X, hX⟩ : ∃ X, str x = X := ⟨_, rfl⟩
  have hbw := alloc_below w (.cells #[.string X] 9)
  have HP := Lib.hid (fun (w2 : World) (v' : Value) (h1 : w2.ownsRow (c + 1) 9 1 v' (n + 1) (txC l ++ [.string X])) (h2 : (w.alloc (.cells #[.string X] 9)).grownBy w2 (Value.slice A n k).ownBlock) h3 => by
    have h4 := RwS.push (m := n + 1) (ys := txC (l ++ [x])) c0 f0 ho hG hbw (by rw [txC_app]; unfold txC at h1 ⊢; simp only [List.map_cons, List.map_nil, hX]; exact h1) h2 h3
    rw [show n + 1 = (l ++ [x]).length by rw [List.length_append, hn]; rfl] at h4
    exact h4)
  rw [hX]
  have HS := Lib.hid (show c + 1 ≤ w.heap.size from hcl)
  have HOW := Lib.hid ho
  clear hn hX hbw hG ho hcl
  go_enter Tryz.func36, Tryz.ntmps36
  go_wp2_with (at_builtin; refine wpList_append_any _ rfl (.tmp 3) (.tmp 5) _ rfl (c + 1) 9 i0 (.string ⟨#[]⟩) 1 16 Tryz.underlying27 hi0 hz0 hzz1 hzz2 rfl (by decide) (.slice A n k) n (txC l) rfl (World.ownsRow.alloc HOW.out _) _ (some ⟨w.heap.size, 0, none⟩) 1 1 [.string X] rfl (Reads.of_own (World.ownsRow_lit (base := 0) (e := 9) (size := 1) w #[.string X] 1 (Nat.zero_le _) (by decide) rfl)) (by simp [Value.oneCell']) (by simp only [maxLen]; omega) (by omega) (by have := HS.out; simp; omega) ?_; intro v3 w3 hown3 hg3 hat3; obtain ⟨A3, k3, hv3, -, -⟩ := own_form hown3; subst hv3; obtain ⟨d1, d2, d3, d4, d5⟩ := HP.out w3 _ hown3 hg3 hat3; have H3 := Lib.hid d3; have H4 := Lib.hid d4; have H5 := Lib.hid d5; clear hown3 hg3 hat3 d3 d4 d5 c0 f0)
  go_end0
  exact ⟨rfl, _, H3.out, H4.out, H5.out⟩
theorem paths_vis (c : Nat) : Vis 36 c (PthS c) where
  enters := enters_paths1
  keep h hk _ := RwS.keep h hk
  lt h := RwS.lt h
  call l x w G h hl _ _ := paths1_c c l x w G h hl
/-- A row of texts of one's own, sorted. -/
theorem sort_c {B : Nat} (v : Value) (l ls : List (List Nat)) (hl : Up l) (hb : ∀ t ∈ l, ∀ c ∈ t, c < 256) (hn : ls.Nodup) (hm : ∀ t, t ∈ ls ↔ t ∈ l) (hz : ls.length ≤ 100000) (w : World) (h : w.ownsRow B 9 1 v ls.length (txC ls)) :
    Calls Tryz.prog 37 #[v] w fun e w' => e = .returned (.tuple #[]) ∧ TxNew B w' v l ∧ w.grownBy w' v.ownBlock := by
  have hlen : ls.length = l.length := Nat.le_antisymm (nodup_le hn fun t ht => (hm t).1 ht) (nodup_le hl.nodup fun t ht => (hm t).2 ht)
  rcases h.2 with ⟨rfl, h0⟩ | ⟨g, cap, cur, rfl, hbase, hbk, h1, h2, h3, h4⟩
  · have e1 : l = [] := List.eq_nil_of_length_eq_zero (by omega)
    refine (Tryz.slices_Sort_string_none none 0 w).mono ?_
    rintro _ w' ⟨rfl, rfl⟩
    subst e1
    exact ⟨rfl, TxNew.nil _ _, ⟨rfl, rfl, rfl, Nat.le_refl _, fun _ _ _ => rfl⟩⟩
  · have hss : (ls.map u8).length = ls.length := by simp
    have htk : cur.toList.take (ls.map u8).length = (ls.map u8).map encStr := by
      rw [hss, ← txC_u8]; simpa using h4
    have S := Tryz.slices_Sort_string g 0 cap (ls.map u8) w (holds_of_block hbk htk) (Array.getElem?_eq_some_iff.1 hbk).1 (by rw [hss]; omega)
    rw [hss, sort_up hl hb hn hm] at S
    refine S.mono ?_
    rintro e w' ⟨rfl, n, os, rfl⟩
    have R := ownsRow_sorted (w := w) (n := n) (os := os) (cap := cap) (base := B) (ss := ls.map u8) (ts := l.map u8) (by simp [hlen]) hbase hbk (by rw [hss]; exact h1) h2 h3
    rw [hss, ← txC_u8] at R
    refine ⟨rfl, ?_, grownBy_sorted _⟩
    unfold TxNew
    rw [← hlen]
    exact R
set_option maxRecDepth 100000 in
set_option maxHeartbeats 1000000 in
theorem paths_c {N : Nat} {w : World} {v : Value} {F : Nat → Prop} {l : List (List Nat)} (hp : Pl l) (hby : ∀ t ∈ l, ∀ c ∈ t, c < 256) (h : TrV N w v F l) (hF : ∀ x, F x → x < w.heap.size) : Calls Tryz.prog 18 #[v] w fun e w' => ∃ u, e = .returned u ∧ TxNew w.heap.size w' u l ∧ Below w.heap.size w w' := by
  have hbx := alloc_below w (.cells #[.slice none 0 0] 27)
  have hc0 : (w.alloc (.cells #[.slice none 0 0] 27)).cell? ⟨w.heap.size, 0, none⟩ = some (.slice none 0 0) := cell_of_row _ _ 0 _ _ (0, 0) (heap_alloc_new _ _)
  have hf0 : (w.alloc (.cells #[.slice none 0 0] 27)).frozen? ⟨w.heap.size, 0, none⟩ = false := frozen_of_row _ _ 0 _ _ (heap_alloc_new _ _)
  obtain ⟨wb, hwb⟩ : ∃ wb, w.alloc (.cells #[.slice none 0 0] 27) = wb := ⟨_, rfl⟩
  have hsz : w.heap.size < wb.heap.size := by rw [← hwb]; simp
  rw [hwb] at hbx hc0 hf0
  obtain ⟨c, hc⟩ : ∃ c, w.heap.size = c := ⟨_, rfl⟩
  have HCC := Lib.hid hc
  rw [hc] at hc0 hf0
  have T := Lib.hid (top_c (h.below hbx))
  have HS := Lib.hid (show PthS c [] wb (fun i => i = c) from ⟨_, hc0, hf0, ⟨by simp [txC], .inl ⟨rfl, rfl⟩⟩, fun i => by simp [Value.ownBlock]⟩)
  have HB := Lib.hid hbx; have HP := Lib.hid hp; have HF := Lib.hid hF; have HSZ := Lib.hid hsz; have HBY := Lib.hid hby
  have V := Lib.hid (paths_vis c)
  clear hsz hbx hp hF h hby
  go_enter Tryz.func18, Tryz.ntmps18
  go_wp2_with fail
  try rw [hc]
  try rw [hwb]
  refine T.out.mono ?_
  rintro _ w1 ⟨b, F1, rfl, hn1, hl1, hs1, hb1⟩
  have HB1 := Lib.hid (bnext HB.out hb1)
  have st1 := V.out.keep HS.out (fun i hi => hb1.block i (V.out.lt HS.out i hi)) hb1.size
  have L1 := Lib.hid (leaves_c V.out N 8 b F1 (Sof l) [] [] (fun i => i = c) w1 hn1 st1 (fun x hx e => by
    rcases hs1 x hx with h | h
    · have := HF.out x h; have := HCC.out; omega
    · have := HSZ.out; have := HCC.out; omega) (few_sof HP.out.le) (fun _ h => absurd h (by simp)) (by simp) (by simp))
  clear hn1 hl1 hs1 hb1 st1 hwb hc0 hf0
  go_wp2_with fail
  refine L1.out.mono ?_
  rintro _ w2 ⟨rfl, ss, G2, n1, n2, hst, hf, hg⟩
  obtain ⟨hnd, hmm⟩ := path_root HP.out.ri n1 n2
  have hle := root_len HP.out n1 n2
  rw [List.nil_append] at hst
  have HB2 := Lib.hid (HB1.out.trans (hf.to_below (B := w.heap.size) (by have := HB1.out.size; omega) (fun x hx => by have := HCC.out; omega)))
  obtain ⟨u, c2, -, ho2, hG2⟩ := hst
  obtain ⟨ls, hls⟩ : ∃ ls, ss.map (tPath []) = ls := ⟨_, rfl⟩
  rw [hls] at hnd hmm hle ho2
  have hcu : some c ≠ u.ownBlock := fun e => by have := (own_lt2 ho2 e.symm).1; omega
  have HSO := Lib.hid (sort_c u l ls HP.out.up HBY.out hnd hmm (by have := HP.out.le; omega) w2 ho2)
  have HCU := Lib.hid hcu; have HOL := Lib.hid (fun g hg => own_lt2 ho2 (g := g) hg)
  clear n1 n2 hf hg hG2 hls hnd hmm hle ho2 hcu
  go_wp2_with fail
  refine HSO.out.mono ?_
  rintro _ w3 ⟨rfl, hts, hg3⟩
  have c3 := (World.cell?_of_block (a := ⟨c, 0, none⟩) (hg3.block c (World.block_lt_of_cell? _ _ c2) HCU.out)).trans c2
  have HB3 := Lib.hid (HB2.out.grown hg3 HB2.out.size (fun k hk => by have := (HOL.out k hk).1; have := HCC.out; omega))
  have HTS := Lib.hid (hts.mono (B := w.heap.size) (by have := HCC.out; omega))
  clear hts hg3 c2
  go_wp2
  go_ret
  exact ⟨_, rfl, HTS.out, HB3.out⟩
end Go.Proofs.YtbfbjalnahngjaaGreatDoor.IP
namespace Go.Proofs.YtbfbjalnahngjaaGreatDoor.TP
open Go.RowKit GR
theorem tPErr_right {s : List Nat} (h : tRight s = true) : tPErr s = 0 := if_pos h
theorem tPErr_wrong {s : List Nat} (h : ¬ tRight s = true) : tPErr s = 13 := if_neg h
end Go.Proofs.YtbfbjalnahngjaaGreatDoor.TP
