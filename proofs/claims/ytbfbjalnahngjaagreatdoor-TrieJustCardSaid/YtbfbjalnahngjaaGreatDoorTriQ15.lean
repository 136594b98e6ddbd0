/-
  Texts of the trie's proofs, merged: TriLd, TriPE, TriPJ, TriHit.
-/
import Derived.Test.YtbfbjalnahngjaaGreatDoorTriQ10
import Derived.Test.YtbfbjalnahngjaaGreatDoorTriQ11
import Derived.Test.YtbfbjalnahngjaaGreatDoorTriQ7
import Derived.Test.YtbfbjalnahngjaaGreatDoorTriQ12
set_option linter.unusedSimpArgs false
set_option linter.unusedVariables false
namespace Go.Proofs.YtbfbjalnahngjaaGreatDoor
open Go.RowKit Go.Maps Go.WideMaps GR
/-- Do patterns fit names, one by one? -/
def tFits : List (List Nat) → List (List Nat) → Bool
  | [], [] => true
  | g :: gs, n :: s => gMatch g n && tFits gs s
  | _, _ => false
theorem tFits_len : ∀ {gs s : List (List Nat)}, tFits gs s = true → s.length = gs.length
  | [], [], _ => rfl
  | [], n :: s, h => by cases h
  | g :: gs, [], h => by cases h
  | g :: gs, n :: s, h => by
    unfold tFits at h
    rw [Bool.and_eq_true] at h
    rw [List.length_cons, List.length_cons, tFits_len h.2]
theorem tFits_fit : ∀ (gs s : List (List Nat)), tFits gs s = tFit gs s
  | [], [] => rfl
  | [], n :: s => by
    unfold tFit tFits
    rw [decide_eq_false (by simp)]
    rfl
  | g :: gs, [] => by
    unfold tFit tFits
    rw [decide_eq_false (by simp)]
    rfl
  | g :: gs, n :: s => by
    have ih := tFits_fit gs s
    unfold tFits
    rw [ih]
    unfold tFit tTo
    rw [List.length_cons, List.length_cons, List.range_succ_eq_map, List.all_cons, List.all_map]
    by_cases e : gs.length = s.length
    · rw [decide_eq_true e, decide_eq_true (by omega)]
      rfl
    · rw [decide_eq_false e, decide_eq_false (by omega), Bool.false_and, Bool.false_and, Bool.and_false]
/-- A node that was met: its names, whether longer paths go through it. -/
abbrev Met := List (List Nat) × Bool
def Branch (S : Pset) (p : Met) : Prop := p.2 = true ↔ ∃ n r, S (p.1 ++ n :: r) = true
/-- The nodes that were met are just those. -/
structure LdD (S : Pset) (gs : List (List Nat)) (left : Lit → Bool) (ss : List Met) : Prop where
  nd : (ss.map Prod.fst).Nodup
  mem : ∀ s, s ∈ ss.map Prod.fst ↔ tFits gs s = true ∧ Some_ (tSub S s) ∧ ∃ n r, s = n :: r ∧ left (klOf n) = false
  br : ∀ p ∈ ss, Branch S p
/-- All of them. -/
structure LdE (S : Pset) (gs : List (List Nat)) (ss : List Met) : Prop where
  nd : (ss.map Prod.fst).Nodup
  mem : ∀ s, s ∈ ss.map Prod.fst ↔ tFits gs s = true ∧ Some_ (tSub S s)
  br : ∀ p ∈ ss, Branch S p
theorem sub_at {S : Pset} {n : List Nat} {r : List (List Nat)} (h : Some_ (tSub S (n :: r))) : Some_ (tAt S n) := by
  obtain ⟨s, hs⟩ := h
  exact ⟨r ++ s, hs⟩
theorem sub_at_eq (S : Pset) (n : List Nat) (r : List (List Nat)) : tSub (tAt S n) r = tSub S (n :: r) := rfl
theorem LdD.start {S : Pset} {D : DataW Unit} (h : KidD S D) (gs : List (List Nat)) : LdD S gs (has D) [] :=
  ⟨List.nodup_nil, fun s => ⟨fun h => absurd h (by simp), fun ⟨_, hs, n, r, e, hl⟩ => by subst e; rw [h.has (sub_at hs)] at hl; cases hl⟩, fun _ h => absurd h (by simp)⟩
theorem KidD.name {S : Pset} {D : DataW Unit} (K : KidD S D) {n : List Nat} {r : List (List Nat)} (h : Some_ (tSub S (n :: r))) : tName n = true := (K.kid n (sub_at h)).1
/-- A name that the first pattern fits. -/
theorem LdD.step {S : Pset} {D : DataW Unit} (K : KidD S D) {g : List Nat} {gs : List (List Nat)} {left : Lit → Bool} {ss ss' : List Met} (h : LdD S (g :: gs) left ss) {n : List Nat} (hn : tName n = true) (hl : left (klOf n) = true) (hm : gMatch g n = true) (h' : LdE (tAt S n) gs ss') :
    LdD S (g :: gs) (fun z => left z && !z.sameKey (klOf n)) (ss ++ ss'.map fun p => (n :: p.1, p.2)) := by
  have em : (ss'.map fun p : Met => ((n :: p.1, p.2) : Met)).map Prod.fst = (ss'.map Prod.fst).map (n :: ·) := by rw [List.map_map, List.map_map]; rfl
  refine ⟨?_, fun s => ?_, fun p hp => ?_⟩
  · rw [List.map_append, em]
    refine nodup_app h.nd (nodup_cons_map h'.nd) fun x hx hm2 => ?_
    obtain ⟨r, _, rfl⟩ := List.mem_map.1 hm2
    obtain ⟨_, _, n', r', e, hl'⟩ := (h.mem _).1 hx
    obtain ⟨rfl, _⟩ := List.cons.inj e
    rw [hl] at hl'
    cases hl'
  · rw [List.map_append, em, List.mem_append]
    constructor
    · rintro (hs | hs)
      · obtain ⟨a, b, n', r, e, hl'⟩ := (h.mem s).1 hs
        exact ⟨a, b, n', r, e, by rw [hl']; rfl⟩
      · obtain ⟨r, hr, rfl⟩ := List.mem_map.1 hs
        obtain ⟨a, b⟩ := (h'.mem r).1 hr
        refine ⟨?_, b, n, r, rfl, ?_⟩
        · unfold tFits; rw [hm, a]; rfl
        · rw [hl, WideAt.sameKey_self (by trivial)]; rfl
    · rintro ⟨hf, hs, n', r, rfl, hl'⟩
      by_cases e : n' = n
      · subst e
        unfold tFits at hf
        rw [Bool.and_eq_true] at hf
        exact .inr (List.mem_map.2 ⟨r, (h'.mem r).2 ⟨hf.2, hs⟩, rfl⟩)
      · refine .inl ((h.mem _).2 ⟨hf, hs, n', r, rfl, ?_⟩)
        cases h3 : left (klOf n') with
        | false => rfl
        | true =>
          rw [h3, sameKey_ne (fun e2 => e (klOf_inj (tName_bytes (K.name hs)).1 (tName_bytes hn).1 e2))] at hl'
          cases hl'
  · rcases List.mem_append.1 hp with hp | hp
    · exact h.br p hp
    · obtain ⟨q, hq, rfl⟩ := List.mem_map.1 hp
      exact h'.br q hq
/-- A name that it doesn't fit. -/
theorem LdD.skip {S : Pset} {D : DataW Unit} (K : KidD S D) {g : List Nat} {gs : List (List Nat)} {left : Lit → Bool} {ss : List Met} (h : LdD S (g :: gs) left ss) {n : List Nat} (hn : tName n = true) (hm : gMatch g n = false) :
    LdD S (g :: gs) (fun z => left z && !z.sameKey (klOf n)) ss := by
  refine ⟨h.nd, fun s => ?_, h.br⟩
  rw [h.mem s]
  constructor
  · rintro ⟨a, b, n', r, e, hl'⟩
    exact ⟨a, b, n', r, e, by rw [hl']; rfl⟩
  · rintro ⟨hf, hs, n', r, rfl, hl'⟩
    refine ⟨hf, hs, n', r, rfl, ?_⟩
    by_cases e : n' = n
    · subst e
      unfold tFits at hf
      rw [hm] at hf
      cases hf
    · cases h3 : left (klOf n') with
      | false => rfl
      | true =>
        rw [h3, sameKey_ne (fun e2 => e (klOf_inj (tName_bytes (K.name hs)).1 (tName_bytes hn).1 e2))] at hl'
        cases hl'
theorem LdD.ends {S : Pset} {g : List Nat} {gs : List (List Nat)} {left : Lit → Bool} {ss : List Met} (h : LdD S (g :: gs) left ss) (hl : ∀ kl, left kl = false) : LdE S (g :: gs) ss := by
  refine ⟨h.nd, fun s => ?_, h.br⟩
  rw [h.mem s]
  refine ⟨fun h => ⟨h.1, h.2.1⟩, fun ⟨a, b⟩ => ⟨a, b, ?_⟩⟩
  cases s with
  | nil => cases a
  | cons n r => exact ⟨n, r, rfl, hl _⟩
theorem LdE.none {S : Pset} {g : List Nat} {gs : List (List Nat)} (h : ∀ n, ¬ Some_ (tAt S n)) : LdE S (g :: gs) [] := by
  refine ⟨List.nodup_nil, fun s => ⟨fun h => absurd h (by simp), fun ⟨a, b⟩ => ?_⟩, fun _ h => absurd h (by simp)⟩
  cases s with
  | nil => cases a
  | cons n r => exact absurd (sub_at b) (h n)
theorem LdE.one {S : Pset} (hs : Some_ S) {br : Bool} (hb : br = true ↔ ∃ n r, S (n :: r) = true) : LdE S [] [([], br)] := by
  refine ⟨by simp, fun s => ?_, fun p hp => ?_⟩
  · cases s with
    | nil => exact ⟨fun _ => ⟨rfl, hs⟩, fun _ => by simp⟩
    | cons n r => exact ⟨fun h => by simp at h, fun h => by cases h.1⟩
  · obtain rfl := List.mem_singleton.1 hp
    exact hb
theorem Few.meet {S : Pset} (h : Few S) {gs : List (List Nat)} {left : Lit → Bool} {ss : List Met} (hd : LdD S gs left ss) : ss.length ≤ 64 := by
  obtain ⟨m, hm, hs⟩ := h
  have := nodup_le (l := ss.map Prod.fst) (m := m.map (List.take gs.length)) hd.nd fun s hx => by
    obtain ⟨a, ⟨r, hr⟩, _⟩ := (hd.mem s).1 hx
    refine List.mem_map.2 ⟨s ++ r, hs _ hr, ?_⟩
    rw [← tFits_len a, List.take_left]
  rw [List.length_map, List.length_map] at this
  omega
/-- A row of texts from a place on. -/
def TxFrom (w : World) (b o : Nat) (gs : List (List Nat)) : Prop := ∀ (j : Nat) (t : List Nat), gs[j]? = some t → w.cell? ⟨b, o + j, none⟩ = some (.string (str t))
theorem TxFrom.tail {w : World} {b o : Nat} {g : List Nat} {gs : List (List Nat)} (h : TxFrom w b o (g :: gs)) : TxFrom w b (o + 1) gs := fun j t ht => by
  have := h (j + 1) t (by rw [List.getElem?_cons_succ]; exact ht)
  rw [show o + 1 + j = o + (j + 1) by omega]
  exact this
theorem TxFrom.head {w : World} {b o : Nat} {g : List Nat} {gs : List (List Nat)} (h : TxFrom w b o (g :: gs)) : w.cell? ⟨b, o, none⟩ = some (.string (str g)) := h 0 g rfl
theorem TxFrom.lt {w : World} {b o : Nat} {g : List Nat} {gs : List (List Nat)} (h : TxFrom w b o (g :: gs)) : b < w.heap.size := World.block_lt_of_cell? w _ h.head
end Go.Proofs.YtbfbjalnahngjaaGreatDoor
namespace Go.Proofs.YtbfbjalnahngjaaGreatDoor.IP
open Go.RowKit Go.Maps Go.WideMaps GR
/-- What a visitor of nodes is told. -/
abbrev Hit3 := List Nat × Bool × Bool
def hitOf (S : Pset) (a : List Nat) (p : Met) : Hit3 := (tPath a p.1, S p.1, p.2)
/-- A visitor of nodes. -/
structure VisN (N g bx : Nat) (St : List Hit3 → World → (Nat → Prop) → Prop) : Prop where
  enters : ∀ args w, (callFunc g args).run Tryz.prog w = .ok (.enter g args) w
  keep : ∀ {l w w' G}, St l w G → (∀ i, G i → w'.heap[i]? = w.heap[i]?) → w.heap.size ≤ w'.heap.size → St l w' G
  lt : ∀ {l w G}, St l w G → ∀ i, G i → i < w.heap.size
  call : ∀ (l : List Hit3) (x : List Nat) (w : World) (G : Nat → Prop) (d b : Nat) (F : Nat → Prop) (S : Pset), St l w G → NdAt N w d b F S → (∀ i, F i → ¬ G i) → l.length ≤ 4096 → x.length ≤ 5000 → (∀ c ∈ x, c < 256) → Calls Tryz.prog g #[.string (str x), .pointer (some ⟨b, 0, none⟩), .pointer (some ⟨bx, 0, none⟩)] w fun e w' => e = .returned (.tuple #[]) ∧ ∃ (br : Bool) (G' : Nat → Prop), (br = true ↔ ∃ n r, S (n :: r) = true) ∧ St (l ++ [(x, S [], br)]) w' G' ∧ Frm G w w' ∧ ∀ i, G' i → G i ∨ w.heap.size ≤ i
/-- What a visit of all nodes that patterns lead to does. -/
def LdC (N g bx : Nat) (St : List Hit3 → World → (Nat → Prop) → Prop) (gs : List (List Nat)) : Prop :=
  ∀ (d b : Nat) (F : Nat → Prop) (S : Pset) (a : List Nat) (l : List Hit3) (G : Nat → Prop) (w : World) (A : Option Addr) (cap : Nat), NdAt N w d b F S → St l w G → (∀ x, F x → ¬ G x) → Few S → (gs = [] → Some_ S) → (∀ c ∈ a, c < 256) → a.length + 40 * (gs.length + 1) ≤ 4000 → l.length + 64 * (gs.length + 1) ≤ 4000 →
    gs.length ≤ cap → cap ≤ 9223372036854775807 → (gs ≠ [] → ∃ gb o, A = some ⟨gb, o, none⟩ ∧ TxFrom w gb o gs ∧ ¬ G gb ∧ o + gs.length ≤ 100000) →
    Calls Tryz.prog 42 #[.pointer (some ⟨b, 0, none⟩), .string (str a), .slice A gs.length cap, .func (.func g) #[] #[.pointer (some ⟨bx, 0, none⟩)]] w fun e w' => e = .returned (.tuple #[]) ∧ ∃ (ss : List Met) (G' : Nat → Prop), LdE S gs ss ∧ St (l ++ ss.map (hitOf S a)) w' G' ∧ Frm G w w' ∧ ∀ i, G' i → G i ∨ w.heap.size ≤ i
set_option maxRecDepth 100000 in
set_option maxHeartbeats 1000000 in
theorem lead_nil {N g bx : Nat} {St : List Hit3 → World → (Nat → Prop) → Prop} (V : VisN N g bx St) : LdC N g bx St [] := by
  intro d b F S a l G w A cap hn hst hFG hfew hs ha hal hll hc hc2 hgs
  have eg := V.enters
  have VC := Lib.hid (V.call l a w G d b F S hst hn hFG (by omega) (by simp at hal; omega) ha)
  have HS := Lib.hid (hs rfl)
  generalize str a = Y at *
  clear hn hst hFG hfew hs ha hal hll hgs
  show Calls Tryz.prog 42 #[.pointer (some ⟨b, 0, none⟩), .string Y, .slice A 0 cap, .func (.func g) #[] #[.pointer (some ⟨bx, 0, none⟩)]] w _
  go_enter Tryz.func42, Tryz.ntmps42
  go_wp2_with fail
  refine VC.out.mono ?_
  rintro _ w1 ⟨rfl, br, G1, hbr, hst1, hf1, hg1⟩
  have H1 := Lib.hid hbr; have H2 := Lib.hid hst1; have H3 := Lib.hid hf1; have H4 := Lib.hid hg1
  clear hbr hst1 hf1 hg1
  go_wp2
  (first | go_end0 | (refine bodyPost_ret (results_none rfl _ _ _) rfl ?_) | ((try simp only [Exit.inBlock, Exit.then]); refine bodyPost_ret (results_none rfl _ _ _) rfl ?_))
  exact ⟨rfl, [([], br)], G1, LdE.one HS.out H1.out, H2.out, H3.out, H4.out⟩
/-- Where a range stands. -/
structure LdR (St : List Hit3 → World → (Nat → Prop) → Prop) (S : Pset) (gs : List (List Nat)) (a : List Nat) (l : List Hit3) (G : Nat → Prop) (w : World) (m r N : Nat) (D : DataW Unit) (left : Lit → Bool) (cnt : Nat) (ss : List Met) (Gr : Nat → Prop) (wr : World) : Prop where
  rg : wr.ranges Tryz.prog 9 ptrElem m r N D left cnt
  st : St (l ++ ss.map (hitOf S a)) wr Gr
  fr : Frm G w wr
  gr : ∀ i, Gr i → G i ∨ w.heap.size ≤ i
  nr : ¬ Gr r
  rw : w.heap.size ≤ r
  ml : m < w.heap.size
  nm : ¬ G m
  dn : LdD S gs left ss
theorem LdR.gm {St : List Hit3 → World → (Nat → Prop) → Prop} {S : Pset} {gs : List (List Nat)} {a : List Nat} {l : List Hit3} {G : Nat → Prop} {w : World} {m r N : Nat} {D : DataW Unit} {left : Lit → Bool} {cnt : Nat} {ss : List Met} {Gr : Nat → Prop} {wr : World} (h : LdR St S gs a l G w m r N D left cnt ss Gr wr) : ¬ Gr m := fun e => by
  rcases h.gr m e with e | e
  · exact h.nm e
  · have := h.ml; omega
theorem enters_under : Enters Tryz.prog 53 := enters_of Tryz.func53 (by kernel_rfl) rfl
theorem enters_lead : Enters Tryz.prog 42 := enters_of Tryz.func42 (by kernel_rfl) rfl
set_option maxRecDepth 100000 in
set_option maxHeartbeats 4000000 in
theorem lead_cons {N g bx : Nat} {St : List Hit3 → World → (Nat → Prop) → Prop} (V : VisN N g bx St) (q : List Nat) (gs : List (List Nat)) (hq : ∀ c ∈ q, c < 256) (hq2 : q.length ≤ 100000) (IH : LdC N g bx St gs) : LdC N g bx St (q :: gs) := by
  intro d b F S a l G w A cap hn hst hFG hfew _ ha hal hll hcap hcap2 hgs
  obtain ⟨gb, o, rfl, hta, hGg, ho⟩ := hgs (by simp)
  replace hn := NdAt.cut hn
  rw [ndAt_eq] at hn
  obtain ⟨mv, hc0, hfb, hkk⟩ := hn
  have HV := Lib.hid V
  have UC := Lib.hid under_c
  have MC := Lib.hid (fun (X : ByteArray) (hX : X.size ≤ 900) (W : World) => GP.match_c (str q) X (by rw [str_size]; omega) hX W)
  rw [bs_str hq] at MC
  have HIH := Lib.hid IH
  have HST := Lib.hid hst; have HFG := Lib.hid hFG; have HFEW := Lib.hid hfew; have HA := Lib.hid ha; have HTA := Lib.hid hta; have HGG := Lib.hid hGg
  have HGL := Lib.hid hta.lt
  have z1 := hta.head
  have Z1H := Lib.hid hta.head
  obtain ⟨Y, hY⟩ : ∃ Y, str a = Y := ⟨_, rfl⟩
  have HY := Lib.hid hY
  obtain ⟨Z, hZ⟩ : ∃ Z, str q = Z := ⟨_, rfl⟩
  rw [hZ] at MC z1 Z1H
  rw [hY]
  obtain ⟨n, hnn⟩ : ∃ n, (q :: gs).length = n := ⟨_, rfl⟩
  have hnn2 : gs.length + 1 = n := by rw [← hnn, List.length_cons]
  have HN := Lib.hid hnn2
  rw [hnn] at hal hll hcap ho ⊢
  have n0 : ¬ (n : Int) = 0 := by omega
  have n1 : (1 : Int) ≤ (n : Int) := by omega
  have nb0 : ((n : Int) == 0) = false := by simpa using n0
  obtain ⟨-, k1, -, -⟩ := hc0
  clear hst hFG hfew ha IH V hY hZ hta hGg hq hq2 hnn hnn2
  rcases hkk with ⟨rfl, hnk⟩ | ⟨m, D, Fs, rfl, K⟩
  · have HE := Lib.hid (LdE.none (S := S) (g := q) (gs := gs) hnk)
    have hrg := run_range_nilMap (P := Tryz.prog) w _ _ _ Tryz.underlying54
    have hnx : ∀ ty, (Instr.next (.pointer (some ⟨w.heap.size, 0, none⟩)) false ty).run Tryz.prog (w.alloc (.mapIter none 0 #[] 0)) = _ := fun ty => run_next_nilMap w ty 0 0 #[]
    have hba := alloc_below w (.mapIter none 0 #[] 0)
    have ST2 := Lib.hid (HV.out.keep HST.out (fun i hi => hba.block i (HV.out.lt HST.out i hi)) hba.size)
    have FR2 := Lib.hid (Frm.of_below (G := G) hba)
    clear hnk hfb hba z1
    as_aux_lemma =>
      go_enter Tryz.func42, Tryz.ntmps42
      go_wp2
      refine wp_loop_rounds 1 ?_
      rw [rounds_succ]
      go_wp2
      go_end0
      exact ⟨rfl, [], G, HE.out, by rw [List.map_nil, List.append_nil]; exact ST2.out, FR2.out, fun i h => .inl h⟩
  · have nGm := Lib.hid (HFG.out m K.fm.1)
    have own1 := K.own
    have HK := Lib.hid K
    clear K hfb
    as_aux_lemma =>
      go_enter Tryz.func42, Tryz.ntmps42
      go_wp2_with (first
        | (at_range; refine wpList_range_own _ rfl _ 54 rfl 9 59 lawS Tryz.underlying54 _ m N D rfl own1 ?_; intro w2 hrg0 hg0 hs0)
        | go_in)
      have hb2 : Below w.heap.size w w2 := ⟨hg0.os, hg0.tape, hg0.output, hg0.size, fun i hi => hg0.block i hi (by simp)⟩
      obtain ⟨r, hr⟩ : ∃ r, w.heap.size = r := ⟨_, rfl⟩
      have R0 := Lib.hid (show LdR St S (q :: gs) a l G w m r N D (has D) (Maps.size D) [] G w2 from ⟨by rw [← hr]; exact hrg0, by rw [List.map_nil, List.append_nil]; exact HV.out.keep HST.out (fun i hi => hb2.block i (HV.out.lt HST.out i hi)) hb2.size, Frm.of_below hb2, fun i h => .inl h, fun e => by have := HV.out.lt HST.out r e; omega, by rw [← hr]; exact Nat.le_refl _, HK.out.fm.2, nGm.out, LdD.start HK.out.kidD _⟩)
      rw [hr]
      clear hrg0 hg0 hs0 hb2 own1 hr z1 k1
      go_frame
      try simp only [nb0]
      go_loopw [8, 9, 10, 11] (fun _ _ _ _ wr => ∃ left cnt ss Gr, Hid (LdR St S (q :: gs) a l G w m r N D left cnt ss Gr wr)) (fun _ _ _ _ wr => wr.rangeLeft m r)
      case atStart => exact ⟨_, _, _, _, R0.out⟩
      case round =>
        obtain ⟨left, cnt, ss, Gr, HR⟩ := hrel
        go_wp2_with (first
          | (at_next; refine wpList_next_kid rfl _ rfl m r N D HK.out.kidD left cnt rfl HR.out.rg ?_ ?_)
          | go_in)
        · intro hl0
          have HE := Lib.hid (HR.out.dn.ends hl0)
          as_aux_lemma =>
            go_wp2
            go_end0
            exact ⟨rfl, ss, Gr, HE.out, HR.out.st, HR.out.fr, HR.out.gr⟩
        · intro X p c w3 cnt3 hX hnm hsm hlf hat hrg3 hlt hg3 hs3 hen
          obtain ⟨-, c', hc', hkid⟩ := HK.out.kid p hsm
          have ecc : c = c' := blk_inj ((hat .nil).symm.trans (hc' .nil))
          subst ecc
          have fr3 : Frm G w w3 := HR.out.fr.trans (G' := fun i => i = r) (Frm.grown hg3 (fun x e => .inl (Option.some.inj e).symm)) (fun x e => .inr (by rw [e]; exact HR.out.rw))
          have st3 := HV.out.keep HR.out.st (w' := w3) (fun i hi => hg3.block i (HV.out.lt HR.out.st i hi) (fun e => HR.out.nr (by rw [← Option.some.inj e]; exact hi))) (by omega)
          have kid3 := hkid.keep (w' := w3) (fun x hx => fr3.block x (HK.out.sub p x hx).1.2 (HFG.out x (HK.out.sub p x hx).1.1))
          have hnb := tName_bytes hnm
          have hbX : bs X = p := by rw [← hX, bs_str hnb.1]
          have hXs : X.size ≤ 32 := by rw [← hX, str_size]; exact hnb.2.2
          have hgr : ¬ Gr gb := fun e => by
            rcases HR.out.gr gb e with e | e
            · exact HGG.out e
            · have := HGL.out; omega
          have z3 : w3.cell? ⟨gb, o, none⟩ = some (.string Z) := fr3.cell HGG.out Z1H.out
          have HT3 := Lib.hid (show TxFrom w3 gb (o + 1) gs from fun j t hj => fr3.cell HGG.out (HTA.out.tail j t hj))
          have hfs : ∀ x, Fs p x → ¬ Gr x := fun x hx e => by
            rcases HR.out.gr x e with e | e
            · exact HFG.out x (HK.out.sub p x hx).1.1 e
            · have := (HK.out.sub p x hx).1.2; omega
          have hln := HFEW.out.meet HR.out.dn
          have M1 := MC.out X (by omega) w3
          rw [hbX] at M1
          have HLT := Lib.hid (show ∀ (y : World) (lf : Lit → Bool) (s9 : List Met) (G9 : Nat → Prop), LdR St S (q :: gs) a l G w m r N D lf cnt3 s9 G9 y → y.rangeLeft m r < wr.rangeLeft m r from fun y lf s9 G9 h => by rw [h.rg.left_eq, HR.out.rg.left_eq]; exact hlt)
          -- behind the match: of what was there nothing has turned
          have AFT := Lib.hid (fun (w4 : World) (h4 : Below w3.heap.size w3 w4) => show w4.ranges Tryz.prog 9 ptrElem m r N D (fun z => left z && !z.sameKey (klOf p)) cnt3 ∧ Frm G w w4 ∧ St (l ++ ss.map (hitOf S a)) w4 Gr ∧ KidAt N w4 d c (Fs p) (tAt S p) ∧ TxFrom w4 gb (o + 1) gs from
            ⟨ranges_same hrg3 (h4.block m hrg3.owns.lt) (h4.block r hrg3.lt), fr3.next h4, HV.out.keep st3 (fun i hi => h4.block i (HV.out.lt st3 i hi)) h4.size, kid3.keep (fun x hx => h4.block x (by have := (HK.out.sub p x hx).1.2; have := fr3.size; omega)), fun j t hj => cellb h4 (HT3.out j t hj)⟩)
          have LH := Lib.hid (show ∀ w4, Below w3.heap.size w3 w4 → w.heap.size ≤ w4.heap.size from fun w4 h => by have := fr3.size; have := h.size; omega)
          have HNM := Lib.hid hnm; have HSM := Lib.hid hsm; have HLF := Lib.hid hlf; have HFS := Lib.hid hfs; have HGR := Lib.hid hgr; have HNB := Lib.hid hnb; have HX := Lib.hid hX
          obtain ⟨b1, hb1⟩ : ∃ b1, gMatch q p = b1 := ⟨_, rfl⟩
          obtain ⟨e1, he1⟩ : ∃ e1, gErr q = e1 := ⟨_, rfl⟩
          rw [hb1, he1] at M1
          have HM1 := Lib.hid M1; have HB1 := Lib.hid hb1
          clear M1 hb1 he1 hnm hsm hlf hat hrg3 hlt hg3 hs3 hc' hkid fr3 st3 kid3 hfs hnb hX hbX hXs hgr
          cases b1 with
          | false =>
            as_aux_lemma =>
              go_wp2_with fail
              refine HM1.out.mono ?_; rintro _ w4 ⟨rfl, hb4⟩
              obtain ⟨a1, a2, a3, a4, a5⟩ := AFT.out w4 hb4
              have NEW := Lib.hid (show LdR St S (q :: gs) a l G w m r N D (fun z => left z && !z.sameKey (klOf p)) cnt3 ss Gr w4 from ⟨a1, a3, a2, HR.out.gr, HR.out.nr, HR.out.rw, HR.out.ml, HR.out.nm, HR.out.dn.skip HK.out.kidD HNM.out HB1.out⟩)
              clear a1 a2 a3 a4 a5 hb4
              go_wp2
              go_roundw
              case rel => exact ⟨_, _, _, _, NEW.out⟩
              case measure => exact HLT.out _ _ _ _ NEW.out
          | true =>
            have hul := tUnder_len a p
            have hub := HNB.out.2.2
            have U := Lib.hid (fun W => UC.out a p HA.out (by omega) (by omega) W)
            rw [HY.out, HX.out] at U
            have II := Lib.hid (fun (w4 : World) (h4 : Below w3.heap.size w3 w4) => show Calls Tryz.prog 42 #[.pointer (some ⟨c, 0, none⟩), .string (str (tUnder a p)), .slice (if cap = 1 then some ⟨gb, o, none⟩ else some ⟨gb, o + 1, none⟩) gs.length (cap - 1), .func (.func g) #[] #[.pointer (some ⟨bx, 0, none⟩)]] w4 fun e w' => e = .returned (.tuple #[]) ∧ ∃ (s9 : List Met) (G' : Nat → Prop), LdE (tAt S p) gs s9 ∧ St ((l ++ ss.map (hitOf S a)) ++ s9.map (hitOf (tAt S p) (tUnder a p))) w' G' ∧ Frm Gr w4 w' ∧ ∀ i, G' i → Gr i ∨ w4.heap.size ≤ i from by
              obtain ⟨a1, a2, a3, a4, a5⟩ := AFT.out w4 h4
              have hN := HN.out
              cases d with
              | zero => exact a4.elim
              | succ d => exact HIH.out d c (Fs p) (tAt S p) (tUnder a p) (l ++ ss.map (hitOf S a)) Gr w4 (if cap = 1 then some ⟨gb, o, none⟩ else some ⟨gb, o + 1, none⟩) (cap - 1) a4 a3 HFS.out (HFEW.out.at_ p) (fun _ => HSM.out) (tUnder_bytes HA.out HNB.out.1) (by omega) (by rw [List.length_append, List.length_map]; omega) (by omega) (by omega) (fun hne => ⟨gb, o + 1, if_neg (fun e => by have := List.length_pos_iff.2 hne; omega), a5, HGR.out, by omega⟩))
            have KEEP := Lib.hid (fun (w4 w5 : World) (G4 : Nat → Prop) (s9 : List Met) (h4 : Below w3.heap.size w3 w4) (h1 : LdE (tAt S p) gs s9) (h3 : St ((l ++ ss.map (hitOf S a)) ++ s9.map (hitOf (tAt S p) (tUnder a p))) w5 G4) (hf : Frm Gr w4 w5) (h5 : ∀ i, G4 i → Gr i ∨ w4.heap.size ≤ i) => show LdR St S (q :: gs) a l G w m r N D (fun z => left z && !z.sameKey (klOf p)) cnt3 (ss ++ s9.map fun x => (p :: x.1, x.2)) G4 w5 from by
              obtain ⟨a1, a2, a3, a4, a5⟩ := AFT.out w4 h4
              refine ⟨ranges_same a1 (hf.block m a1.owns.lt HR.out.gm) (hf.block r a1.lt HR.out.nr), ?_, a2.trans hf HR.out.gr, fun i hi => ?_, fun e => ?_, HR.out.rw, HR.out.ml, HR.out.nm, HR.out.dn.step HK.out.kidD HNM.out HLF.out HB1.out h1⟩
              · rw [List.map_append, ← List.append_assoc, List.map_map]; exact h3
              · rcases h5 i hi with h | h
                · exact HR.out.gr i h
                · exact .inr (by have := a2.size; omega)
              · rcases h5 r e with h | h
                · exact HR.out.nr h
                · have := a1.lt; omega)
            have hgl : gs.length = n - 1 := by have := HN.out; omega
            rw [hgl] at II
            obtain ⟨T, hT⟩ : ∃ T, str (tUnder a p) = T := ⟨_, rfl⟩
            rw [hT] at U II
            clear hul hub hgl hT
            as_aux_lemma =>
              go_wp2_with fail
              refine HM1.out.mono ?_; rintro _ w4 ⟨rfl, hb4⟩
              have HB4 := Lib.hid hb4
              clear hb4
              go_wp2_with fail
              have hz := Below.drew (Below.refl w4.heap.size w4)
              go_region_law (first
                | (refine step_call enters_under (by rfl) _ _ (by rfl) #[.string Y, .string X] (by rfl) (U.out _) ?_; rintro e w9 ⟨rfl, rfl⟩; refine ⟨_, rfl, ?_⟩)
                | (refine step_call enters_lead (by rfl) _ _ (by rfl) _ (by rfl) (II.out _ (bnext HB4.out hz)) ?_; rintro e w9 ⟨rfl, s9, G9, h1, h2, h3, h4⟩; refine ⟨_, rfl, ?_⟩; have NEW := Lib.hid (KEEP.out _ w9 G9 s9 (bnext HB4.out hz) h1 h2 h3 h4); clear h1 h2 h3 h4)
                | fail)
              all_goals go_wp2
              all_goals go_roundw
              all_goals first | exact ⟨_, _, _, _, NEW.out⟩ | exact HLT.out _ _ _ _ NEW.out
theorem lead_c {N g bx : Nat} {St : List Hit3 → World → (Nat → Prop) → Prop} (V : VisN N g bx St) : ∀ gs, (∀ q ∈ gs, (∀ c ∈ q, c < 256) ∧ q.length ≤ 100000) → LdC N g bx St gs
  | [], _ => lead_nil V
  | q :: gs, h => lead_cons V q gs (h q (by simp)).1 (h q (by simp)).2 (lead_c V gs fun x hx => h x (List.mem_cons_of_mem _ hx))
end Go.Proofs.YtbfbjalnahngjaaGreatDoor.IP
namespace Go.Proofs.YtbfbjalnahngjaaGreatDoor
open Go.RowKit Go.Maps Go.WideMaps GR IP
theorem hit_info : (Tryz.prog.info? 53).map (fun i => (i.zero, i.size, i.bytes)) = some (some (.agg #[.string ⟨#[]⟩, .bool false, .bool false]), 3, 24) := by kernel_rfl
def htC (l : List Hit3) : List Value := l.flatMap fun h => [.string (str h.1), .bool h.2.1, .bool h.2.2]
theorem htC_app (a b : List Hit3) : htC (a ++ b) = htC a ++ htC b := by unfold htC; rw [List.flatMap_append]
theorem htC_len (l : List Hit3) : (htC l).length = l.length * 3 := by
  induction l with
  | nil => rfl
  | cons x l ih =>
    unfold htC at ih ⊢
    rw [List.flatMap_cons, List.length_append, ih, List.length_cons]
    simp only [List.length_cons, List.length_nil]
    omega
/-- How many kids a node has. -/
theorem NdAt.count {d N : Nat} {w : World} {b : Nat} {F : Nat → Prop} {S : Pset} (h : NdAt N w d b F S) (hF : ∀ x, F x → x < w.heap.size) :
    ∃ (mv : Option Nat) (k : Nat), NdC w b (S []) mv ∧ (∀ i, mv = some i → F i) ∧ (∀ y, (∀ i, mv = some i → y.heap[i]? = w.heap[i]?) → ∀ ty, (Builtin.len_ #[54] ty #[.map mv]).run Tryz.prog y = .ok (.int .i64 (k : Nat)) y) ∧ (0 < k ↔ ∃ n r, S (n :: r) = true) := by
  rw [ndAt_eq] at h
  obtain ⟨mv, hc, hb, hk⟩ := h
  rcases hk with ⟨rfl, hno⟩ | ⟨m, D, Fs, rfl, K⟩
  · exact ⟨none, 0, hc, fun i e => (nomatch e), fun y _ ty => Maps.len_nil Tryz.underlying54 ty, fun h => absurd h (by omega), fun ⟨n, r, e⟩ => absurd (some_at e) (hno n)⟩
  · refine ⟨some m, Maps.size D, hc, fun i e => by rw [← Option.some.inj e]; exact K.fm, fun y hy ty => (own_same K.own (hy m rfl)).len Tryz.underlying54 ty, ?_⟩
    obtain ⟨es, hD, -, hkey⟩ := K.own.entries lawS
    constructor
    · intro h
      subst hD
      cases es with
      | nil => exact absurd h (by simp [Maps.size])
      | cons e es =>
        obtain ⟨n, -, hs⟩ := K.keys e.1 (by rw [has_eq, List.any_cons, WideAt.sameKey_self (hkey e List.mem_cons_self)]; rfl)
        obtain ⟨r, hr⟩ := hs
        exact ⟨n, r, hr⟩
    · rintro ⟨n, r, e⟩
      have h1 := K.kidD.has (some_at e)
      subst hD
      cases es with
      | nil => simp [has_eq] at h1
      | cons x es => simp [Maps.size]
namespace IP
def NodS (c : Nat) (l : List Hit3) (w : World) (G : Nat → Prop) : Prop := RwS 53 3 c l.length (htC l) w G
theorem enters_nodes1 : ∀ args w, (callFunc 43 args).run Tryz.prog w = .ok (.enter 43 args) w := enters_of Tryz.func43 (by kernel_rfl) rfl
set_option maxRecDepth 100000 in
set_option maxHeartbeats 2000000 in
theorem nodes1_c (c : Nat) (l : List Hit3) (x : List Nat) (w : World) (G : Nat → Prop) (b : Nat) (lf : Bool) (mv : Option Nat) (k : Nat) (h : NodS c l w G) (hl : l.length ≤ 4096) (hc0 : NdC w b lf mv) (hbG : ¬ G b) (hmG : ∀ i, mv = some i → ¬ G i ∧ i < w.heap.size)
    (hlen : ∀ y, (∀ i, mv = some i → y.heap[i]? = w.heap[i]?) → ∀ ty, (Builtin.len_ #[54] ty #[.map mv]).run Tryz.prog y = .ok (.int .i64 (k : Nat)) y) (br : Bool) (hbr : decide (0 < k) = br) : Calls Tryz.prog 43 #[.string (str x), .pointer (some ⟨b, 0, none⟩), .pointer (some ⟨c, 0, none⟩)] w fun e w' => e = .returned (.tuple #[]) ∧ ∃ G' : Nat → Prop, NodS c (l ++ [(x, lf, br)]) w' G' ∧ Frm G w w' ∧ ∀ i, G' i → G i ∨ w.heap.size ≤ i := by
  obtain ⟨i0, hi0, hz0, hzz1, hzz2⟩ := info_parts hit_info
  obtain ⟨v, c0, f0, ho, hG⟩ := h
  have hcl := World.block_lt_of_cell? _ _ c0
  obtain ⟨n, hn⟩ : ∃ n, l.length = n := ⟨_, rfl⟩
  rw [hn] at ho hl
  obtain ⟨A, q, rfl, hk, _⟩ := own_form ho
  obtain ⟨X, hX⟩ : ∃ X, str x = X := ⟨_, rfl⟩
  have hbw : Below w.heap.size w (w.drew.alloc (.cells #[.string X, .bool lf, .bool br] 53)) := (Below.refl _ _).drew.alloc (by simp) _
  have HP := Lib.hid (fun (w2 : World) (v' : Value) (h1 : w2.ownsRow (c + 1) 53 3 v' (n + 1) (htC l ++ [.string X, .bool lf, .bool br])) (h2 : (w.drew.alloc (.cells #[.string X, .bool lf, .bool br] 53)).grownBy w2 (Value.slice A n q).ownBlock) h3 => by
    have h4 := RwS.push (m := n + 1) (ys := htC (l ++ [(x, lf, br)])) c0 f0 ho hG hbw (by rw [htC_app]; unfold htC at h1 ⊢; simp only [List.flatMap_cons, List.flatMap_nil, List.append_nil, hX]; exact h1) h2 h3
    rw [show n + 1 = (l ++ [(x, lf, br)]).length by rw [List.length_append, hn]; rfl] at h4
    exact h4)
  rw [hX]
  have HS := Lib.hid (show c + 1 ≤ w.heap.size from hcl)
  have HOW := Lib.hid (show w.drew.ownsRow (c + 1) 53 3 (.slice A n q) n (htC l) from ho)
  obtain ⟨k0, k1, -, -⟩ := hc0
  have hl1 : ∀ ty, (Builtin.len_ #[54] ty #[.map mv]).run Tryz.prog w.drew = .ok (.int .i64 (k : Nat)) w.drew := hlen w.drew (fun _ _ => rfl)
  have k2 : w.drew.cell? ⟨b, 0, none⟩ = some (.bool lf) := k0
  have k3 : w.drew.cell? ⟨b, 1, none⟩ = some (.map mv) := k1
  have GR := Lib.hid (show ∀ x, (Value.slice A n q).ownBlock = some x → G x from fun x e => (hG x).2 (.inr e))
  have c1 := cellb hbw c0
  have c2 : (w.alloc (.cells #[.string X, .bool lf, .bool br] 53)).drew.cell? ⟨c, 0, none⟩ = some (.slice A n q) := c1
  have c3 : w.drew.cell? ⟨c, 0, none⟩ = some (.slice A n q) := c0
  have HBW := Lib.hid hbw
  have hz := Below.drew (Below.refl w.heap.size w)
  clear hn hX hbw hG ho hcl hlen f0 hbG hmG
  go_enter Tryz.func43, Tryz.ntmps43
  go_wp2_with fail
  go_region_law
    (first | (refine step_append_any _ (by rfl) (.tmp 5) (.tmp 18) 46 (by rfl) (c + 1) 53 i0 (.agg #[.string ⟨#[]⟩, .bool false, .bool false]) 3 24 Tryz.underlying46 hi0 hz0 hzz1 hzz2 rfl (by decide) (.slice A n q) n (htC l) (by rfl) (World.ownsRow.alloc HOW.out _) _ (some ⟨w.heap.size, 0, none⟩) 1 1 [.string X, .bool lf, .bool br] (by rfl) (Reads.of_own (World.ownsRow_lit (base := 0) (e := 53) (size := 3) w.drew #[.string X, .bool lf, .bool br] 1 (Nat.zero_le _) (by decide) rfl)) (by simp [Value.oneCell']) (by simp only [maxLen]; omega) (by omega) (by have := HS.out; simp; omega) ?_; intro v3 w3 hown3 hg3 hat3; obtain ⟨A3, k3, hv3, -, -⟩ := own_form hown3; subst hv3; obtain ⟨d1, d2, d3, d4, d5⟩ := HP.out w3 _ hown3 hg3 hat3; have H3 := Lib.hid d3; have H4 := Lib.hid d4; have H5 := Lib.hid d5; clear hown3 hg3 hat3 d3 d4 d5))
  all_goals go_wp2
  all_goals go_end0
  all_goals exact ⟨rfl, _, H3.out, H4.out, H5.out⟩
end IP
end Go.Proofs.YtbfbjalnahngjaaGreatDoor
namespace Go.Proofs.YtbfbjalnahngjaaGreatDoor
open Go.RowKit Go.Maps Go.WideMaps GR IP
/-- Does a longer path that is held begin with x and a point? -/
def Longer (l : List (List Nat)) (x : List Nat) : Prop := ∃ t ∈ l, ∃ y, t = x ++ 46 :: y
/-- The nodes that a pattern fits, by rising paths. -/
structure HitsOf (l : List (List Nat)) (p : List Nat) (H : List Hit3) : Prop where
  up : Up (H.map Prod.fst)
  mem : ∀ x, x ∈ H.map Prod.fst ↔ tMatch p x = true ∧ (x ∈ l ∨ Longer l x)
  at_ : ∀ h ∈ H, h.2.1 = decide (h.1 ∈ l) ∧ (h.2.2 = true ↔ Longer l h.1)
theorem HitsOf.unique {l : List (List Nat)} {p : List Nat} {H K : List Hit3} (h : HitsOf l p H) (k : HitsOf l p K) : H = K := by
  have e := up_unique h.up k.up fun t => (h.mem t).trans (k.mem t).symm
  refine List.ext_getElem (by have := congrArg List.length e; simpa using this) fun j h1 h2 => ?_
  have e1 : (H[j]).1 = (K[j]).1 := by
    have : (H.map Prod.fst)[j]'(by simpa using h1) = (K.map Prod.fst)[j]'(by simpa using h2) := by simp only [e]
    simpa using this
  obtain ⟨a1, a2⟩ := h.at_ _ (List.getElem_mem h1)
  obtain ⟨b1, b2⟩ := k.at_ _ (List.getElem_mem h2)
  have e2 : (H[j]).2.1 = (K[j]).2.1 := by rw [a1, b1, e1]
  have e3 : (H[j]).2.2 = (K[j]).2.2 := by rw [Bool.eq_iff_iff, a2, b2, e1]
  exact Prod.ext e1 (Prod.ext e2 e3)
theorem tFull_app : ∀ (x y : List Nat), tFull (x ++ 46 :: y) = tFull x ++ tFull y
  | [], y => by show (if (46 : Nat) = 46 then [] :: tFull y else tHd 46 (tFull y)) = _; rw [if_pos rfl]; rfl
  | c :: x, y => by
    show tFull (c :: (x ++ 46 :: y)) = _
    rw [tFull, tFull_app x y]
    show _ = (if c = 46 then [] :: tFull x else tHd c (tFull x)) ++ tFull y
    split
    · rfl
    · cases h : tFull x with
      | nil => exact absurd h (tFull_ne x)
      | cons a b => rfl
theorem tJoin_app : ∀ (s r : List (List Nat)), s ≠ [] → r ≠ [] → tJoin (s ++ r) = tJoin s ++ 46 :: tJoin r
  | [], r, h, _ => absurd rfl h
  | [n], [], _, h => absurd rfl h
  | [n], m :: r, _, _ => rfl
  | n :: m :: s, r, _, h => by
    show n ++ 46 :: tJoin (m :: s ++ r) = (n ++ 46 :: tJoin (m :: s)) ++ 46 :: tJoin r
    rw [tJoin_app (m :: s) r (by simp) h, List.append_assoc]
    rfl
theorem right_full {t : List Nat} (h : tRight t = true) : tCut t 8 = tFull t := by
  have := (tRight_names h).1
  exact tCut_full t 8 (Nat.le_trans (tCut_few.1 this) (by omega))
/-- What is held from a node on, and what its path begins. -/
theorem sub_longer {l : List (List Nat)} (hr : ∀ t ∈ l, tRight t = true) {s : List (List Nat)} (hs : s ≠ []) (hn : ∀ n ∈ s, tName n = true) (h8 : s.length ≤ 8) :
    (∃ n r, Sof l (s ++ n :: r) = true) ↔ Longer l (tJoin s) := by
  constructor
  · rintro ⟨n, r, h⟩
    obtain ⟨_, _, _, d, _⟩ := sof_names hr h
    exact ⟨_, d, tJoin (n :: r), tJoin_app s (n :: r) hs (by simp)⟩
  · rintro ⟨t, ht, y, rfl⟩
    have h1 := right_full (hr _ ht)
    rw [tFull_app] at h1
    obtain ⟨hx, hx2⟩ := tRight_join hs h8 hn
    have h2 := right_full hx
    rw [hx2] at h2
    rw [← h2] at h1
    cases hy : tFull y with
    | nil => exact absurd hy (tFull_ne y)
    | cons n r => exact ⟨n, r, sof_iff.2 ⟨_, ht, by rw [h1, hy]⟩⟩
theorem some_sub {l : List (List Nat)} (hr : ∀ t ∈ l, tRight t = true) {s : List (List Nat)} (hs : s ≠ []) : Some_ (tSub (Sof l) s) → (∀ n ∈ s, tName n = true) ∧ s.length ≤ 8 := by
  rintro ⟨r, h⟩
  obtain ⟨_, b, c, _, _⟩ := sof_names hr h
  exact ⟨fun n hn => c n (List.mem_append_left _ hn), by rw [List.length_append] at b; omega⟩
theorem some_sub_iff {l : List (List Nat)} (hr : ∀ t ∈ l, tRight t = true) {s : List (List Nat)} (hs : s ≠ []) (hn : ∀ n ∈ s, tName n = true) (h8 : s.length ≤ 8) : Some_ (tSub (Sof l) s) ↔ tJoin s ∈ l ∨ Longer l (tJoin s) := by
  obtain ⟨hx, hx2⟩ := tRight_join hs h8 hn
  rw [← sub_longer hr hs hn h8]
  constructor
  · rintro ⟨r, h⟩
    cases r with
    | nil =>
      have h : Sof l (s ++ []) = true := h
      rw [List.append_nil, ← hx2, sof_cut, decide_eq_true_eq] at h
      exact .inl h
    | cons n r => exact .inr ⟨n, r, h⟩
  · rintro (h | ⟨n, r, h⟩)
    · refine ⟨[], ?_⟩
      show Sof l (s ++ []) = true
      rw [List.append_nil, ← hx2, sof_cut, decide_eq_true_eq]
      exact h
    · exact ⟨n :: r, h⟩
/-- What a walk through the tree meets are the nodes that the pattern fits. -/
theorem hits_of {l : List (List Nat)} (hr : ∀ t ∈ l, tRight t = true) {p : List Nat} (hp : tErr p = 0) {ss : List Met} (h : LdE (Sof l) (tCut p 8) ss) {H : List Hit3} (hperm : H.Perm (ss.map (hitOf (Sof l) []))) (hs : (H.map Prod.fst).Pairwise fun a b => ¬ b < a) : HitsOf l p H := by
  have hall : ∀ x ∈ ss, x.1 ≠ [] ∧ (∀ n ∈ x.1, tName n = true) ∧ x.1.length ≤ 8 ∧ tPath [] x.1 = tJoin x.1 ∧ tFits (tCut p 8) x.1 = true ∧ Some_ (tSub (Sof l) x.1) := fun x hx => by
    obtain ⟨a, b⟩ := (h.mem x.1).1 (List.mem_map.2 ⟨x, hx, rfl⟩)
    have hne : x.1 ≠ [] := fun e => by
      have := tFits_len a
      rw [e] at this
      have h2 := List.length_pos_iff.2 (tCut_ne p 8)
      simp at this
      omega
    obtain ⟨c, d⟩ := some_sub hr hne b
    exact ⟨hne, c, d, tPath_root _ (fun n hn => (tName_bytes (c n hn)).2.1), a, b⟩
  have hmem : ∀ q : Hit3, q ∈ H ↔ ∃ x ∈ ss, hitOf (Sof l) [] x = q := fun q => by rw [hperm.mem_iff, List.mem_map]
  have hnd : (H.map Prod.fst).Nodup := by
    have e1 : ((ss.map (hitOf (Sof l) [])).map Prod.fst) = (ss.map Prod.fst).map (tPath []) := by rw [List.map_map, List.map_map]; rfl
    rw [((hperm.map Prod.fst).nodup_iff), e1, List.Nodup, List.pairwise_map]
    refine List.Pairwise.imp_of_mem ?_ h.nd
    intro a b ha hb hne e
    obtain ⟨x, hx, rfl⟩ := List.mem_map.1 ha
    obtain ⟨y, hy, rfl⟩ := List.mem_map.1 hb
    obtain ⟨x1, x2, x3, x4, _⟩ := hall x hx
    obtain ⟨y1, y2, y3, y4, _⟩ := hall y hy
    rw [x4, y4] at e
    exact hne (by rw [← (tRight_join x1 x3 x2).2, e, (tRight_join y1 y3 y2).2])
  refine ⟨?_, fun x => ?_, fun q hq => ?_⟩
  · refine List.Pairwise.imp ?_ (hs.and hnd)
    intro a b hab
    rcases Classical.em (a < b) with h1 | h1
    · exact h1
    · exact absurd (nlt_total h1 hab.2) hab.1
  · rw [List.mem_map]
    constructor
    · rintro ⟨q, hq, rfl⟩
      obtain ⟨y, hy, rfl⟩ := (hmem q).1 hq
      obtain ⟨y1, y2, y3, y4, y5, y6⟩ := hall y hy
      show tMatch p (tPath [] y.1) = true ∧ _
      rw [show (hitOf (Sof l) [] y).1 = tPath [] y.1 from rfl, y4]
      obtain ⟨z1, z2⟩ := tRight_join y1 y3 y2
      refine ⟨?_, (some_sub_iff hr y1 y2 y3).1 y6⟩
      unfold tMatch
      rw [decide_eq_true hp, z1, z2, ← tFits_fit, y5]
      rfl
    · rintro ⟨hm, hx⟩
      unfold tMatch at hm
      rw [Bool.and_eq_true, Bool.and_eq_true] at hm
      obtain ⟨⟨_, h1⟩, h2⟩ := hm
      obtain ⟨h3, h4⟩ := tRight_names h1
      have h5 : Some_ (tSub (Sof l) (tCut x 8)) := (some_sub_iff hr (tCut_ne x 8) h4 h3).2 (by rw [tJoin_cut]; exact hx)
      have h6 := (h.mem (tCut x 8)).2 ⟨by rw [tFits_fit]; exact h2, h5⟩
      obtain ⟨y, hy, e⟩ := List.mem_map.1 h6
      refine ⟨hitOf (Sof l) [] y, (hmem _).2 ⟨y, hy, rfl⟩, ?_⟩
      show tPath [] y.1 = x
      rw [(hall y hy).2.2.2.1, e, tJoin_cut]
  · obtain ⟨y, hy, rfl⟩ := (hmem q).1 hq
    obtain ⟨y1, y2, y3, y4, y5, y6⟩ := hall y hy
    obtain ⟨z1, z2⟩ := tRight_join y1 y3 y2
    refine ⟨?_, ?_⟩
    · show Sof l y.1 = decide (tPath [] y.1 ∈ l)
      rw [y4]
      conv => lhs; rw [← z2]
      exact sof_cut
    · show y.2 = true ↔ Longer l (tPath [] y.1)
      rw [y4, ← sub_longer hr y1 y2 y3]
      exact h.br y hy
/-- The paths among them are those that are held and that the pattern fits. -/
def tFound (l : List (List Nat)) (p : List Nat) : List (List Nat) := l.filter fun x => tMatch p x
theorem found_of {l : List (List Nat)} (hl : Up l) {p : List Nat} {H : List Hit3} (h : HitsOf l p H) : (H.filter fun q => q.2.1).map Prod.fst = tFound l p := by
  refine up_unique ?_ (List.Pairwise.filter _ hl) fun x => ?_
  · rw [Up, List.pairwise_map]
    have := h.up
    rw [Up, List.pairwise_map] at this
    exact List.Pairwise.filter _ this
  · unfold tFound
    rw [List.mem_map, List.mem_filter]
    constructor
    · rintro ⟨q, hq, rfl⟩
      obtain ⟨h1, h2⟩ := List.mem_filter.1 hq
      obtain ⟨a, _⟩ := h.at_ q h1
      rw [a, decide_eq_true_eq] at h2
      exact ⟨h2, ((h.mem q.1).1 (List.mem_map.2 ⟨q, h1, rfl⟩)).1⟩
    · rintro ⟨h1, h2⟩
      obtain ⟨q, hq, rfl⟩ := List.mem_map.1 ((h.mem x).2 ⟨h2, .inl h1⟩)
      exact ⟨q, List.mem_filter.2 ⟨hq, by rw [(h.at_ q hq).1]; exact decide_eq_true h1⟩, rfl⟩
theorem hits_nil {p : List Nat} : HitsOf [] p [] :=
  ⟨List.Pairwise.nil, fun x => ⟨fun h => absurd h (by simp), fun ⟨_, h⟩ => by
    rcases h with h | ⟨t, ht, _⟩
    · exact absurd h (by simp)
    · exact absurd ht (by simp)⟩, fun _ h => absurd h (by simp)⟩
end Go.Proofs.YtbfbjalnahngjaaGreatDoor
