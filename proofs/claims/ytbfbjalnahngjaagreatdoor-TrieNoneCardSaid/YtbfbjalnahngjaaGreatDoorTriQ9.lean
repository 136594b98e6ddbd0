/-
  Texts of the trie's proofs, merged: TriFrm, TrlLib, TrlPA, TriPA.
-/
import Derived.Test.YtbfbjalnahngjaaGreatDoorTriQ8
import Derived.Test.YtbfbjalnahngjaaGreatDoorShelf
import Derived.Lib.Join
set_option linter.unusedSimpArgs false
set_option linter.unusedVariables false
namespace Go.Proofs.YtbfbjalnahngjaaGreatDoor
open Go.RowKit Go.Maps Go.WideMaps GR
/-- Of what was there the blocks of G alone may have turned. -/
structure Frm (G : Nat → Prop) (w w' : World) : Prop where
  os : w'.os = w.os
  tape : w'.tape = w.tape
  output : w'.output = w.output
  size : w.heap.size ≤ w'.heap.size
  block : ∀ k, k < w.heap.size → ¬ G k → w'.heap[k]? = w.heap[k]?
theorem Frm.refl (G : Nat → Prop) (w : World) : Frm G w w := ⟨rfl, rfl, rfl, Nat.le_refl _, fun _ _ _ => rfl⟩
theorem Frm.trans {G G' : Nat → Prop} {a b c : World} (h : Frm G a b) (k : Frm G' b c) (hG : ∀ x, G' x → G x ∨ a.heap.size ≤ x) : Frm G a c :=
  ⟨k.os.trans h.os, k.tape.trans h.tape, k.output.trans h.output, Nat.le_trans h.size k.size, fun x hx hn => (k.block x (Nat.lt_of_lt_of_le hx h.size) (fun e => by
    rcases hG x e with e | e
    · exact hn e
    · omega)).trans (h.block x hx hn)⟩
theorem Frm.more {G G' : Nat → Prop} {w w' : World} (h : Frm G w w') (hG : ∀ x, G x → G' x) : Frm G' w w' := ⟨h.os, h.tape, h.output, h.size, fun x hx hn => h.block x hx (fun e => hn (hG x e))⟩
theorem Frm.of_below {G : Nat → Prop} {w w' : World} (h : Below w.heap.size w w') : Frm G w w' := ⟨h.os, h.tape, h.output, h.size, fun x hx _ => h.block x hx⟩
theorem Frm.next {G : Nat → Prop} {a b c : World} (h : Frm G a b) (k : Below b.heap.size b c) : Frm G a c := h.trans (G' := fun _ => False) (Frm.of_below k) (fun _ h => h.elim)
theorem Frm.to_below {G : Nat → Prop} {w w' : World} (h : Frm G w w') {B : Nat} (hB : B ≤ w.heap.size) (hG : ∀ x, G x → B ≤ x) : Below B w w' := ⟨h.os, h.tape, h.output, h.size, fun x hx => h.block x (by omega) (fun e => by have := hG x e; omega)⟩
theorem Frm.no {w w' : World} (h : Frm (fun _ => False) w w') : Below w.heap.size w w' := h.to_below (Nat.le_refl _) (fun _ h => h.elim)
theorem Frm.set {G : Nat → Prop} (w : World) {b o : Nat} (hb : G b) (u : Value) : Frm G w (w.setCell ⟨b, o, none⟩ u) := ⟨rfl, rfl, rfl, by simp, fun x _ hn => Below.heap_setCell _ _ _ _ (fun e => hn (by rw [e]; exact hb))⟩
theorem Frm.grown {G : Nat → Prop} {w w' : World} {row : Option Nat} (h : w.grownBy w' row) (hG : ∀ x, row = some x → G x ∨ w.heap.size ≤ x) : Frm G w w' := ⟨h.os, h.tape, h.output, h.size, fun x hx hn => h.block x hx (fun e => by
  rcases hG x e.symm with e | e
  · exact hn e
  · omega)⟩
theorem Frm.alloc (G : Nat → Prop) (w : World) (o : Obj) : Frm G w (w.alloc o) := Frm.of_below (alloc_below w o)
theorem Frm.drew (G : Nat → Prop) (w : World) : Frm G w w.drew := ⟨rfl, rfl, rfl, Nat.le_refl _, fun _ _ _ => rfl⟩
theorem Frm.cell {G : Nat → Prop} {w w' : World} (h : Frm G w w') {b o : Nat} {u : Value} (hb : ¬ G b) (hc : w.cell? ⟨b, o, none⟩ = some u) : w'.cell? ⟨b, o, none⟩ = some u := by
  have hlt := World.block_lt_of_cell? w _ hc
  exact (World.cell?_of_block (w := w) (h.block b hlt hb)).trans hc
/-- A tree, while other blocks turn. -/
theorem NdAt.frm {d N : Nat} {w w' : World} {b : Nat} {F G : Nat → Prop} {S : Pset} (h : NdAt N w d b F S) (k : Frm G w w') (hF : ∀ x, F x → ¬ G x) : NdAt N w' d b (fun x => F x ∧ x < w.heap.size) S :=
  h.cut.keep (Nat.le_refl _) fun x hx => k.block x hx.2 (hF x hx.1)
theorem NdAt.below {d N : Nat} {w w' : World} {b : Nat} {F : Nat → Prop} {S : Pset} (h : NdAt N w d b F S) (k : Below w.heap.size w w') : NdAt N w' d b (fun x => F x ∧ x < w.heap.size) S :=
  h.cut.keep (Nat.le_refl _) fun x hx => k.block x hx.2
/-- What is held behind some names. -/
def tSub (S : Pset) (p : List (List Nat)) : Pset := fun s => S (p ++ s)
theorem tSub_nil (S : Pset) : tSub S [] = S := rfl
theorem tSub_snoc (S : Pset) (p : List (List Nat)) (n : List Nat) : tAt (tSub S p) n = tSub S (p ++ [n]) := funext fun s => by
  show S (p ++ (n :: s)) = S ((p ++ [n]) ++ s)
  rw [List.append_assoc]; rfl
theorem tSub_end (S : Pset) (p : List (List Nat)) : tSub S p [] = S p := by
  show S (p ++ []) = S p
  rw [List.append_nil]
/-- A path beneath a path. -/
def tUnder (a n : List Nat) : List Nat := if a = [] then n else a ++ 46 :: n
/-- The path of some names from a node on. -/
def tPath : List Nat → List (List Nat) → List Nat
  | a, [] => a
  | a, n :: s => tPath (tUnder a n) s
theorem tUnder_ne {a n : List Nat} (h : n ≠ []) : tUnder a n ≠ [] := by
  unfold tUnder
  split
  · exact h
  · simp
theorem tPath_app : ∀ (s : List (List Nat)) (a : List Nat), a ≠ [] → s ≠ [] → tPath a s = a ++ 46 :: tJoin s
  | [], a, _, h => absurd rfl h
  | [n], a, ha, _ => by
    show tUnder a n = _
    unfold tUnder
    rw [if_neg ha]
    rfl
  | n :: m :: s, a, ha, _ => by
    show tPath (tUnder a n) (m :: s) = _
    have e : tUnder a n = a ++ 46 :: n := by unfold tUnder; rw [if_neg ha]
    rw [tPath_app (m :: s) (tUnder a n) (by rw [e]; simp) (by simp), e, List.append_assoc]
    rfl
/-- From the root on. -/
theorem tPath_root : ∀ (s : List (List Nat)), (∀ n ∈ s, n ≠ []) → tPath [] s = tJoin s
  | [], _ => rfl
  | [n], _ => rfl
  | n :: m :: s, h => by
    show tPath (tUnder [] n) (m :: s) = _
    have e : tUnder [] n = n := rfl
    rw [e, tPath_app (m :: s) n (h n (by simp)) (by simp)]
    rfl
theorem tJoin_mem2 : ∀ (l : List (List Nat)), ∀ c ∈ tJoin l, c = 46 ∨ ∃ p ∈ l, c ∈ p
  | [], c, h => by cases h
  | [p], c, h => .inr ⟨p, by simp, h⟩
  | p :: q :: r, c, h => by
    have h : c ∈ p ++ 46 :: tJoin (q :: r) := h
    rcases List.mem_append.1 h with h | h
    · exact .inr ⟨p, by simp, h⟩
    · rcases List.mem_cons.1 h with h | h
      · exact .inl h
      · rcases tJoin_mem2 (q :: r) c h with h | ⟨x, hx, h⟩
        · exact .inl h
        · exact .inr ⟨x, List.mem_cons_of_mem _ hx, h⟩
/-! ### Counting -/
theorem nodup_le {α : Type} [DecidableEq α] : ∀ {l m : List α}, l.Nodup → (∀ x ∈ l, x ∈ m) → l.length ≤ m.length
  | [], m, _, _ => Nat.zero_le _
  | x :: l, m, hn, h => by
    obtain ⟨h1, h2⟩ := List.nodup_cons.1 hn
    have hx : x ∈ m := h x List.mem_cons_self
    have := nodup_le (l := l) (m := m.erase x) h2 fun y hy => (List.mem_erase_of_ne (fun e => h1 (by rw [← e]; exact hy))).2 (h y (List.mem_cons_of_mem _ hy))
    rw [List.length_erase_of_mem hx] at this
    have hp : 0 < m.length := List.length_pos_of_mem hx
    rw [List.length_cons]
    omega
end Go.Proofs.YtbfbjalnahngjaaGreatDoor
namespace Go.Proofs.YtbfbjalnahngjaaGreatDoor
open Go.RowKit
/-- A variable of the library's holds a number. -/
def Ml (w : World) : Prop := ∃ m, w.cell? ⟨0, 0, none⟩ = some (.int .i64 m)
theorem Ml.below {w w' : World} (h : Ml w) (hb : Below w.heap.size w w') : Ml w' := by
  obtain ⟨m, hm⟩ := h
  exact ⟨m, cellb hb hm⟩
theorem index_dot (c : UInt8) (l : List UInt8) : Lib.index (c :: l) [46] = if c = 46 then 0 else if Lib.index l [46] == -1 then -1 else Lib.index l [46] + 1 := by
  rw [Lib.index]
  by_cases h : c = 46
  · subst h
    rw [if_pos (by simp [List.isPrefixOf]), if_pos rfl]
  · rw [if_neg h, if_neg (by
      show ¬ (List.isPrefixOf [46] (c :: l)) = true
      simp [List.isPrefixOf]
      exact fun e => h e.symm)]
theorem toNat_dot {c : UInt8} : c.toNat = 46 ↔ c = 46 := by
  constructor
  · intro h
    exact UInt8.toNat.inj h
  · rintro rfl; rfl
theorem splitK_cut : ∀ (l : List UInt8) (k : Nat), (Lib.splitK [46] 0 k l).map (·.map UInt8.toNat) = tCut (l.map UInt8.toNat) k
  | [], 0 => rfl
  | [], k + 1 => rfl
  | c :: l, 0 => rfl
  | c :: l, k + 1 => by
    show (if Lib.index (c :: l) [46] == -1 then [c :: l] else (c :: l).take ((Lib.index (c :: l) [46]).toNat + 0) :: Lib.splitK [46] 0 k ((c :: l).drop ((Lib.index (c :: l) [46]).toNat + 1))).map (·.map UInt8.toNat) = tCut (c.toNat :: l.map UInt8.toNat) (k + 1)
    rw [index_dot]
    unfold tCut
    by_cases h : c = 46
    · rw [if_pos h, if_pos (toNat_dot.2 h), if_neg (by decide)]
      show ([] : List Nat) :: (Lib.splitK [46] 0 k l).map (·.map UInt8.toNat) = _
      rw [splitK_cut l k]
    · rw [if_neg h, if_neg (fun e => h (toNat_dot.1 e))]
      have ih := splitK_cut l (k + 1)
      have ih2 : (if Lib.index l [46] == -1 then [l] else l.take ((Lib.index l [46]).toNat + 0) :: Lib.splitK [46] 0 k (l.drop ((Lib.index l [46]).toNat + 1))).map (·.map UInt8.toNat) = tCut (l.map UInt8.toNat) (k + 1) := ih
      rw [← ih2]
      by_cases h1 : Lib.index l [46] = -1
      · rw [h1]
        rfl
      · have hge := Lib.index_ge l [46]
        have hb : (Lib.index l [46] == -1) = false := beq_false_of_ne h1
        have hb2 : (Lib.index l [46] + 1 == -1) = false := beq_false_of_ne (by omega)
        rw [hb]
        simp only [Bool.false_eq_true, if_false]
        rw [hb2]
        simp only [Bool.false_eq_true, if_false]
        rw [show (Lib.index l [46] + 1).toNat = (Lib.index l [46]).toNat + 1 by omega]
        rfl
theorem tCut_more : ∀ (s : List Nat) (k : Nat), s.length ≤ k → ∀ j, k ≤ j → tCut s j = tCut s k
  | [], _, _, _, _ => by simp [tCut]
  | c :: s, 0, h, _, _ => by simp at h
  | c :: s, k + 1, h, 0, hj => by omega
  | c :: s, k + 1, h, j + 1, hj => by
    simp only [List.length_cons] at h
    unfold tCut
    rw [tCut_more s k (by omega) j (by omega), tCut_more s (k + 1) (by omega) (j + 1) hj]
theorem split_cut (s : ByteArray) (k : Nat) : (Lib.splitB ⟨#[46]⟩ 0 k s).map bs = tCut (bs s) k := by
  have h := Lib.splitB_data ⟨#[46]⟩ 0 k s
  unfold bs
  rw [← splitK_cut, ← show (⟨#[46]⟩ : ByteArray).data.toList = [46] from rfl, ← h, List.map_map]
  rfl
theorem tCut_mem : ∀ (s : List Nat) (k : Nat), ∀ p ∈ tCut s k, p.length ≤ s.length ∧ ∀ c ∈ p, c ∈ s
  | [], k, p, hp => by
    have : p = [] := by simpa [tCut] using hp
    subst this
    simp
  | c :: s, 0, p, hp => by
    have : p = c :: s := by simpa [tCut] using hp
    subst this
    simp
  | c :: s, k + 1, p, hp => by
    unfold tCut at hp
    split at hp
    · rcases List.mem_cons.1 hp with rfl | hp
      · simp
      · obtain ⟨a, b⟩ := tCut_mem s k p hp
        exact ⟨by rw [List.length_cons]; omega, fun x hx => List.mem_cons_of_mem _ (b x hx)⟩
    · cases ht : tCut s (k + 1) with
      | nil => exact absurd ht (tCut_ne _ _)
      | cons q qs =>
        rw [ht] at hp
        have hm := tCut_mem s (k + 1)
        rw [ht] at hm
        rcases List.mem_cons.1 hp with rfl | hp
        · obtain ⟨a, b⟩ := hm q (by simp)
          refine ⟨by rw [List.length_cons, List.length_cons]; omega, fun x hx => ?_⟩
          rcases List.mem_cons.1 hx with rfl | hx
          · simp
          · exact List.mem_cons_of_mem _ (b x hx)
        · obtain ⟨a, b⟩ := hm p (by simp [hp])
          exact ⟨by rw [List.length_cons]; omega, fun x hx => List.mem_cons_of_mem _ (b x hx)⟩
theorem tx_strs (L : List ByteArray) : L.map Value.string = txC (L.map bs) := by
  unfold txC
  rw [List.map_map]
  apply List.map_congr_left
  intro x _
  show Value.string x = Value.string (str (bs x))
  rw [str_bs]
theorem splitN_c (s : ByteArray) (hs : s.size ≤ 100000) (w : World) (hm : Ml w) :
    Calls Tryz.prog 64 #[.string s, .string ⟨#[46]⟩, .int .i64 9] w fun e w' => ∃ v, e = .returned v ∧ TxNew w.heap.size w' v (tCut (bs s) 8) ∧ Below w.heap.size w w' := by
  obtain ⟨m, hm⟩ := hm
  have H := Tryz.strings_SplitN s ⟨#[46]⟩ 9 m w (by omega) hm (by decide) (by decide) (by decide)
  refine H.mono fun e w' ⟨he, hw⟩ => ?_
  have hk : (Lib.splitB ⟨#[46]⟩ 0 (min 9 (s.size + 1) - 1) s).map bs = tCut (bs s) 8 := by
    rw [split_cut]
    have hl := bs_length s
    by_cases h : 8 ≤ s.size
    · rw [show min 9 (s.size + 1) - 1 = 8 by omega]
    · rw [show min 9 (s.size + 1) - 1 = s.size by omega]
      exact (tCut_more (bs s) s.size (by omega) 8 (by omega)).symm
  have hle := Lib.splitB_length_le ⟨#[46]⟩ 0 (min 9 (s.size + 1) - 1) s
  obtain ⟨L, hL⟩ : ∃ L, Lib.splitB ⟨#[46]⟩ 0 (min 9 (s.size + 1) - 1) s = L := ⟨_, rfl⟩
  rw [hL] at hk hle he hw
  have hlen : (tCut (bs s) 8).length = L.length := by rw [← hk, List.length_map]
  refine ⟨_, he, ?_, by rw [hw]; exact (Below.refl _ _).alloc (Nat.le_refl _) _⟩
  rw [hw]
  refine ⟨by rw [txC_length, Nat.mul_one], Or.inr ⟨w.heap.size, _, Lib.cellsOf L (min 9 (s.size + 1)), by rw [hlen], Nat.le_refl _, ?_, by rw [hlen]; omega, by unfold maxLen; omega, by rw [Nat.mul_one]; exact Lib.cellsOf_size (by omega), ?_⟩⟩
  · show (w.heap.push _)[w.heap.size]? = _
    exact Array.getElem?_push_size
  · rw [hlen, Nat.mul_one, ← hk, ← tx_strs]
    unfold Lib.cellsOf
    show List.take L.length (L.map Value.string ++ _) = _
    rw [List.take_left' (by simp)]
theorem join_dots : ∀ (l : List (List Nat)), Lib.join (l.map (·.map UInt8.ofNat)) [46] = (tJoin l).map UInt8.ofNat
  | [] => rfl
  | [p] => by
    show Lib.join [p.map UInt8.ofNat] [46] = _
    rw [Lib.join_one]
    rfl
  | p :: q :: r => by
    have ih := join_dots (q :: r)
    rw [List.map_cons, Lib.join_cons]
    rw [List.map_cons, Lib.join_cons] at ih
    show p.map UInt8.ofNat ++ (([46] ++ q.map UInt8.ofNat) ++ Lib.joinTail [46] (r.map (·.map UInt8.ofNat))) = (p ++ 46 :: tJoin (q :: r)).map UInt8.ofNat
    rw [List.append_assoc, ih, List.map_append, List.map_cons]
    rfl
end Go.Proofs.YtbfbjalnahngjaaGreatDoor
namespace Go.Proofs.YtbfbjalnahngjaaGreatDoor.TP
open Go.RowKit GR
set_option maxRecDepth 100000 in
set_option maxHeartbeats 2000000 in
theorem gplain_c (s : ByteArray) (hs : s.size ≤ 9223372036854775807) (w : World) : Calls Tryz.prog 65 #[.string s] w fun e w' => e = .returned (.bool (gPlain (bs s))) ∧ w' = w := by
  obtain ⟨d, hd⟩ : ∃ d, gPlain (bs s) = d := ⟨_, rfl⟩
  rw [hd]
  have HD := Lib.hid hd
  have BY := Lib.hid (fun (c : Nat) (hc : c < 256) (W : World) => GP.byte_c c hc W)
  clear hd
  go_enter Tryz.func65, Tryz.ntmps65
  go_wp2
  go_loopw [3, 6] (fun _ kv wr => ∃ k : Nat, kv = .int .i64 (k : Nat) ∧ k ≤ s.size ∧ wr = w ∧ Hid (∀ j, j < k → isB ((bs s).getD j 0) = true)) (fun _ kv _ => s.size - (intOf kv).toNat)
  case atStart => exact ⟨0, rfl, Nat.zero_le _, rfl, fun j hj => absurd hj (Nat.not_lt_zero j)⟩
  case round =>
    obtain ⟨k, rfl, hk, rfl, HN⟩ := hrel
    by_cases hlt : k < s.size
    · obtain ⟨c, hcb, x0, hc⟩ := bs_get hlt
      have hki : (k : Int) < (s.size : Int) := by omega
      have BC := Lib.hid (BY.out c hc wr)
      cases hp : isB c with
      | true =>
        rw [hp] at BC
        have HP := Lib.hid (show ∀ j, j < k + 1 → isB ((bs s).getD j 0) = true from fun j hj => by
          by_cases e : j = k
          · rw [e, hcb]; exact hp
          · exact HN.out j (by omega))
        clear hcb hp
        go_wp2_with fail
        refine BC.out.mono ?_; rintro _ w2 ⟨rfl, hw2⟩; obtain rfl := hw2.symm
        go_wp2
        go_roundw
        case rel => exact ⟨k + 1, by go_num, by omega, by trivial, HP.out⟩
        case measure => simp [intOf]; omega
      | false =>
        rw [hp] at BC
        have HDF := Lib.hid (show false = d from by
          rw [← HD.out]
          symm
          unfold gPlain
          have : (bs s).all isB = false := by
            rw [Bool.eq_false_iff]
            intro h
            rw [List.all_eq_true] at h
            have h2 := h c (by rw [← hcb, List.getD_eq_getElem?_getD, List.getElem?_eq_getElem (by rw [bs_length]; exact hlt)]; exact List.getElem_mem _)
            rw [hp] at h2
            cases h2
          rw [this, Bool.and_false])
        clear hcb hp
        go_wp2_with fail
        refine BC.out.mono ?_; rintro _ w2 ⟨rfl, hw2⟩; obtain rfl := hw2.symm
        go_wp2
        go_ret
        exact ⟨congrArg (fun z => Ending.returned (.bool z)) HDF.out, rfl⟩
    · obtain rfl : k = s.size := by omega
      have hall : (bs s).all isB = true := by
        rw [List.all_eq_true]
        intro x hx
        obtain ⟨j, hj⟩ := List.getElem?_of_mem hx
        have h2 := HN.out j (by have := (List.getElem?_eq_some_iff.1 hj).1; rw [bs_length] at this; exact this)
        rw [List.getD_eq_getElem?_getD, hj] at h2
        exact h2
      by_cases hz : s.size = 0
      · obtain rfl := is_empty hz
        have HDT := Lib.hid (show false = d from HD.out)
        clear hall
        go_wp2
        go_ret
        exact ⟨congrArg (fun z => Ending.returned (.bool z)) HDT.out, rfl⟩
      · have hne : s.toList.isEmpty = false := by
          rw [ByteArray.toList_eq]
          obtain ⟨⟨l⟩⟩ := s
          have h2 : ¬ l.length = 0 := hz
          cases l with
          | nil => simp at h2
          | cons x l => rfl
        have HDT := Lib.hid (show true = d from by
          rw [← HD.out]
          unfold gPlain
          rw [hall, decide_eq_true (show bs s ≠ [] from fun e => hz (by rw [← bs_length, e]; rfl))]
          rfl)
        clear hall
        go_wp2
        go_ret
        exact ⟨congrArg (fun z => Ending.returned (.bool z)) HDT.out, rfl⟩
set_option maxRecDepth 100000 in
set_option maxHeartbeats 1000000 in
theorem name_c (s : ByteArray) (hs : s.size ≤ 9223372036854775807) (w : World) : Calls Tryz.prog 50 #[.string s] w fun e w' => e = .returned (.bool (tName (bs s))) ∧ w' = w := by
  have PC := gplain_c s hs w
  obtain ⟨d, hd⟩ : ∃ d, gPlain (bs s) = d := ⟨_, rfl⟩
  rw [hd] at PC
  unfold tName
  rw [hd, bs_length]
  clear hd
  have HPC := Lib.hid PC
  clear PC
  by_cases h : s.size ≤ 32
  · have hi : (s.size : Int) ≤ 32 := by omega
    rw [decide_eq_true h, Bool.and_true]
    go_enter Tryz.func50, Tryz.ntmps50
    go_wp2_with fail
    refine HPC.out.mono ?_; rintro _ w2 ⟨rfl, hw2⟩; obtain rfl := hw2.symm
    go_wp2
    go_ret
    exact ⟨rfl, rfl⟩
  · have hi : ¬ (s.size : Int) ≤ 32 := by omega
    rw [decide_eq_false h, Bool.and_false]
    go_enter Tryz.func50, Tryz.ntmps50
    go_wp2
    go_ret
    exact ⟨rfl, rfl⟩
set_option maxRecDepth 100000 in
set_option maxHeartbeats 1000000 in
theorem gcheck_c (s : ByteArray) (hs : s.size ≤ 9223372036854775807) (w : World) : Calls Tryz.prog 59 #[.string s] w fun e w' => e = .returned (.int .i64 (gErr (bs s))) ∧ Below w.heap.size w w' := by
  have RC := Lib.hid (GP.read_c s hs w)
  go_enter Tryz.func59, Tryz.ntmps59
  go_wp2_with fail
  refine RC.out.mono ?_; rintro _ w2 ⟨v, rfl, _, hb2⟩
  have HB := Lib.hid hb2
  clear hb2 RC
  go_wp2
  go_ret
  exact ⟨rfl, HB.out⟩
set_option maxRecDepth 100000 in
set_option maxHeartbeats 1000000 in
theorem parts_c (s : ByteArray) (hs : s.size ≤ 100000) (w : World) (hm : Ml w) : Calls Tryz.prog 49 #[.string s] w fun e w' => ∃ v, e = .returned v ∧ TxNew w.heap.size w' v (tCut (bs s) 8) ∧ Below w.heap.size w w' := by
  have SC := Lib.hid (splitN_c s hs w hm)
  go_enter Tryz.func49, Tryz.ntmps49
  go_wp2_with fail
  refine SC.out.mono ?_; rintro _ w2 ⟨v, rfl, ht, hb2⟩
  have HT := Lib.hid ht; have HB := Lib.hid hb2
  clear ht hb2 SC
  go_wp2
  go_ret
  exact ⟨_, rfl, HT.out, HB.out⟩
/-- A piece as it stands in a row. -/
theorem piece_is {s : ByteArray} {L : List (List Nat)} (hL : tCut (bs s) 8 = L) {k : Nat} (hk : k < L.length) : ∃ S : ByteArray, str (L.getD k []) = S ∧ bs S = L.getD k [] ∧ S.size ≤ s.size ∧ L[k]? = some (bs S) := by
  have hx : L[k]? = some (L.getD k []) := by rw [List.getD_eq_getElem?_getD, List.getElem?_eq_getElem hk]; rfl
  obtain ⟨a, b⟩ := tCut_mem (bs s) 8 (L.getD k []) (by rw [hL]; exact List.mem_of_getElem? hx)
  have e : bs (str (L.getD k [])) = L.getD k [] := bs_str fun c hc => bs_mem s c (b c hc)
  exact ⟨_, rfl, e, by rw [str_size]; rw [bs_length] at a; exact a, by rw [e]; exact hx⟩
set_option maxRecDepth 100000 in
set_option maxHeartbeats 4000000 in
theorem split_c (s : ByteArray) (hs : s.size ≤ 100000) (w : World) (hm : Ml w) : Calls Tryz.prog 26 #[.string s] w fun e w' =>
    ∃ v, e = .returned (.tuple #[v, .int .i64 (tPErr (bs s))]) ∧ (tPErr (bs s) = 0 → TxNew w.heap.size w' v (tCut (bs s) 8)) ∧ (tPErr (bs s) ≠ 0 → v = .slice none 0 0) ∧ Below w.heap.size w w' := by
  have PC := parts_c s hs w hm
  obtain ⟨L, hL⟩ : ∃ L, tCut (bs s) 8 = L := ⟨_, rfl⟩
  have hne : L ≠ [] := by rw [← hL]; exact tCut_ne _ _
  have hn9 : L.length ≤ 9 := by rw [← hL]; exact tCut_length _ _
  rw [hL] at PC ⊢
  have HPC := Lib.hid PC; have HL := Lib.hid hL
  clear PC hL
  have NM := Lib.hid (fun (S : ByteArray) (h : S.size ≤ 100000) (W : World) => name_c S (by omega) W)
  obtain ⟨E, hE⟩ : ∃ E, tPErr (bs s) = E := ⟨_, rfl⟩
  rw [hE]
  have HE := Lib.hid hE
  clear hE hm
  go_enter Tryz.func26, Tryz.ntmps26
  go_wp2_with fail
  refine HPC.out.mono ?_; rintro _ w2 ⟨v, rfl, ht, hb2⟩
  obtain ⟨A, c, rfl, hc, hx⟩ := ht.form
  have hpos : 0 < L.length := List.length_pos_iff.2 hne
  obtain ⟨g, rfl, hg1, hg2, hta⟩ := hx hpos
  obtain ⟨n, hn⟩ : ∃ n, L.length = n := ⟨_, rfl⟩
  rw [hn] at hc hpos hn9 ht ⊢
  have HT := Lib.hid ht; have HB := Lib.hid hb2; have HTA := Lib.hid hta; have HN := Lib.hid hn
  clear ht hb2 hx hta hn HPC hne
  by_cases h8 : 8 < n
  · as_aux_lemma =>
      have h8i : (8 : Int) < (n : Int) := by omega
      have hr : tRight (bs s) = false := by
        unfold tRight
        rw [HL.out, HN.out, decide_eq_false (by omega)]
        rfl
      have HE13 := Lib.hid (show (13 : Int) = E by rw [← HE.out]; unfold tPErr; rw [hr]; rfl)
      have HR := Lib.hid hr
      clear hr
      go_wp2
      go_ret2
      exact ⟨_, congrArg (fun z => Ending.returned (.tuple #[.slice none 0 0, .int .i64 z])) HE13.out, fun h => absurd (HE13.out.trans h) (by decide), fun _ => rfl, HB.out⟩
  · have h8i : ¬ (8 : Int) < (n : Int) := by omega
    go_wp2_with fail
    go_loopw [6, 14] (fun _ v14 wr => ∃ k : Nat, v14 = .int .i64 (k : Nat) ∧ k ≤ n ∧ Hid (∀ j, j < k → tName (L.getD j []) = true) ∧ Hid (Below w2.heap.size w2 wr)) (fun _ v14 _ => n - (intOf v14).toNat)
    case atStart => exact ⟨0, rfl, Nat.zero_le _, fun j hj => absurd hj (Nat.not_lt_zero j), Below.refl _ _⟩
    case round =>
      obtain ⟨k, rfl, hk, HA, HI⟩ := hrel
      by_cases hlt : k < n
      · have hki : (k : Int) < (n : Int) := by omega
        obtain ⟨S, hS, hbs, hSz, hLk⟩ := piece_is HL.out (k := k) (by rw [HN.out]; exact hlt)
        have z0 := cellb HI.out (HTA.out k _ hLk)
        rw [str_bs] at z0
        have NC := NM.out S (by omega) wr
        rw [hbs] at NC
        have HNC := Lib.hid NC
        clear NC hLk hS hbs
        cases hb : tName (L.getD k []) with
        | true =>
          as_aux_lemma =>
            rw [hb] at HNC
            have HA2 := Lib.hid (show ∀ j, j < k + 1 → tName (L.getD j []) = true from fun j hj => by
              by_cases e : j = k
              · rw [e]; exact hb
              · exact HA.out j (by omega))
            clear hb
            go_wp2_with fail
            refine HNC.out.mono ?_; rintro _ w3 ⟨rfl, hw3⟩; obtain rfl := hw3.symm
            go_wp2
            go_roundw
            case rel => exact ⟨k + 1, by go_num, by omega, HA2.out, HI.out⟩
            case measure => simp [intOf]; omega
        | false =>
          as_aux_lemma =>
            rw [hb] at HNC
            have hr : tRight (bs s) = false := by
              rw [Bool.eq_false_iff]
              intro h
              have h2 := (tRight_names h).2 (L.getD k []) (by
                rw [HL.out, List.getD_eq_getElem?_getD, List.getElem?_eq_getElem (by rw [HN.out]; exact hlt)]
                exact List.getElem_mem _)
              rw [hb] at h2
              cases h2
            have HE13 := Lib.hid (show (13 : Int) = E by rw [← HE.out]; unfold tPErr; rw [hr]; rfl)
            have HR := Lib.hid hr
            clear hb hr
            go_wp2_with fail
            refine HNC.out.mono ?_; rintro _ w3 ⟨rfl, hw3⟩; obtain rfl := hw3.symm
            go_wp2
            go_ret2
            exact ⟨_, congrArg (fun z => Ending.returned (.tuple #[.slice none 0 0, .int .i64 z])) HE13.out, fun h => absurd (HE13.out.trans h) (by decide), fun _ => rfl, bnext HB.out HI.out⟩
      · as_aux_lemma =>
          obtain rfl : k = n := by omega
          have hr : tRight (bs s) = true := by
            unfold tRight
            rw [HL.out, HN.out, decide_eq_true (by omega), Bool.true_and, List.all_eq_true]
            intro x hx
            obtain ⟨j, hj⟩ := List.getElem?_of_mem hx
            have hjl := (List.getElem?_eq_some_iff.1 hj).1
            rw [HN.out] at hjl
            have := HA.out j hjl
            rw [List.getD_eq_getElem?_getD, hj] at this
            exact this
          have HE0 := Lib.hid (show (0 : Int) = E by rw [← HE.out]; unfold tPErr; rw [hr]; rfl)
          have HR := Lib.hid hr
          clear hr
          go_wp2
          go_ret2
          exact ⟨_, congrArg (fun z => Ending.returned (.tuple #[.slice (some ⟨g, 0, none⟩) k c, .int .i64 z])) HE0.out, fun _ => HT.out.below HI.out, fun h => absurd HE0.out.symm h, bnext HB.out HI.out⟩
set_option maxRecDepth 100000 in
set_option maxHeartbeats 4000000 in
theorem nodes_c (s : ByteArray) (hs : s.size ≤ 100000) (w : World) (hm : Ml w) : Calls Tryz.prog 41 #[.string s] w fun e w' =>
    ∃ v, e = .returned (.tuple #[v, .int .i64 (tErr (bs s))]) ∧ (tErr (bs s) = 0 → TxNew w.heap.size w' v (tCut (bs s) 8)) ∧ (tErr (bs s) ≠ 0 → v = .slice none 0 0) ∧ Below w.heap.size w w' := by
  have PC := parts_c s hs w hm
  obtain ⟨L, hL⟩ : ∃ L, tCut (bs s) 8 = L := ⟨_, rfl⟩
  have hne : L ≠ [] := by rw [← hL]; exact tCut_ne _ _
  have hn9 : L.length ≤ 9 := by rw [← hL]; exact tCut_length _ _
  rw [hL] at PC ⊢
  have HPC := Lib.hid PC; have HL := Lib.hid hL
  clear PC hL
  have NM := Lib.hid (fun (S : ByteArray) (h : S.size ≤ 100000) (W : World) => gcheck_c S (by omega) W)
  obtain ⟨E, hE⟩ : ∃ E, tErr (bs s) = E := ⟨_, rfl⟩
  rw [hE]
  have HE := Lib.hid hE
  clear hE hm
  go_enter Tryz.func41, Tryz.ntmps41
  go_wp2_with fail
  refine HPC.out.mono ?_; rintro _ w2 ⟨v, rfl, ht, hb2⟩
  obtain ⟨A, c, rfl, hc, hx⟩ := ht.form
  have hpos : 0 < L.length := List.length_pos_iff.2 hne
  obtain ⟨g, rfl, hg1, hg2, hta⟩ := hx hpos
  obtain ⟨n, hn⟩ : ∃ n, L.length = n := ⟨_, rfl⟩
  rw [hn] at hc hpos hn9 ht ⊢
  have HT := Lib.hid ht; have HB := Lib.hid hb2; have HTA := Lib.hid hta; have HN := Lib.hid hn
  clear ht hb2 hx hta hn HPC hne
  by_cases h8 : 8 < n
  · as_aux_lemma =>
      have h8i : (8 : Int) < (n : Int) := by omega
      have HE11 := Lib.hid (show (11 : Int) = E by rw [← HE.out]; unfold tErr; rw [HL.out, HN.out, if_pos h8])
      go_wp2
      go_ret2
      exact ⟨_, congrArg (fun z => Ending.returned (.tuple #[.slice none 0 0, .int .i64 z])) HE11.out, fun h => absurd (HE11.out.trans h) (by decide), fun _ => rfl, HB.out⟩
  · have h8i : ¬ (8 : Int) < (n : Int) := by omega
    have HE2 := Lib.hid (show tFirst L = E by rw [← HE.out]; unfold tErr; rw [HL.out, HN.out, if_neg h8])
    go_wp2_with fail
    go_loopw [6, 7, 15] (fun _ _ v15 wr => ∃ k : Nat, v15 = .int .i64 (k : Nat) ∧ k ≤ n ∧ Hid (tFirst (L.drop k) = E) ∧ Hid (Below w2.heap.size w2 wr)) (fun _ _ v15 _ => n - (intOf v15).toNat)
    case atStart => exact ⟨0, rfl, Nat.zero_le _, HE2.out, Below.refl _ _⟩
    case round =>
      obtain ⟨k, rfl, hk, HA, HI⟩ := hrel
      by_cases hlt : k < n
      · have hki : (k : Int) < (n : Int) := by omega
        obtain ⟨S, hS, hbs, hSz, hLk⟩ := piece_is HL.out (k := k) (by rw [HN.out]; exact hlt)
        have z0 := cellb HI.out (HTA.out k _ hLk)
        rw [str_bs] at z0
        have hst : tFirst (L.drop k) = if gErr (bs S) = 0 then tFirst (L.drop (k + 1)) else gErr (bs S) := by
          obtain ⟨hkl, hk2⟩ := List.getElem?_eq_some_iff.1 hLk
          rw [List.drop_eq_getElem_cons hkl, hk2]
          rfl
        have NC := NM.out S (by omega) wr
        obtain ⟨q, hq⟩ : ∃ q, gErr (bs S) = q := ⟨_, rfl⟩
        rw [hq] at NC hst
        have HNC := Lib.hid NC; have HST := Lib.hid hst
        clear NC hLk hS hbs hq hst
        by_cases h0 : q = 0
        · subst h0
          as_aux_lemma =>
            have HA2 := Lib.hid (show tFirst (L.drop (k + 1)) = E by rw [← HA.out, HST.out, if_pos rfl])
            go_wp2_with fail
            refine HNC.out.mono ?_; rintro _ w3 ⟨rfl, hb3⟩
            have HI3 := Lib.hid (bnext HI.out hb3)
            clear hb3
            go_wp2
            go_roundw
            case rel => exact ⟨k + 1, by go_num, by omega, HA2.out, HI3.out⟩
            case measure => simp [intOf]; omega
        · as_aux_lemma =>
            have hb : (q != 0) = true := bne_iff_ne.2 h0
            have HEQ := Lib.hid (show q = E by rw [← HA.out, HST.out, if_neg h0])
            go_wp2_with fail
            refine HNC.out.mono ?_; rintro _ w3 ⟨rfl, hb3⟩
            have HI3 := Lib.hid (bnext HI.out hb3)
            clear hb3
            go_wp2
            go_ret2
            exact ⟨_, congrArg (fun z => Ending.returned (.tuple #[.slice none 0 0, .int .i64 z])) HEQ.out, fun h => absurd (HEQ.out.trans h) h0, fun _ => rfl, bnext HB.out HI3.out⟩
      · as_aux_lemma =>
          obtain rfl : k = n := by omega
          have HE0 := Lib.hid (show (0 : Int) = E by
            rw [← HA.out, List.drop_of_length_le (by rw [HN.out]; exact Nat.le_refl _)]
            rfl)
          go_wp2
          go_ret2
          exact ⟨_, congrArg (fun z => Ending.returned (.tuple #[.slice (some ⟨g, 0, none⟩) k c, .int .i64 z])) HE0.out, fun _ => HT.out.below HI.out, fun h => absurd HE0.out.symm h, bnext HB.out HI.out⟩
end Go.Proofs.YtbfbjalnahngjaaGreatDoor.TP
namespace Go.Proofs.YtbfbjalnahngjaaGreatDoor.IP
open Go.RowKit Go.Maps Go.WideMaps GR
set_option maxRecDepth 100000 in
theorem under_c (a n : List Nat) (ha : ∀ c ∈ a, c < 256) (hal : a.length ≤ 100000) (hnl : n.length ≤ 100000) (w : World) : Calls Tryz.prog 53 #[.string (str a), .string (str n)] w fun e w' => e = .returned (.string (str (tUnder a n))) ∧ w' = w := by
  by_cases h : a = []
  · subst h
    have e : str (tUnder [] n) = str n := rfl
    rw [e]
    have hb : (str []).toList.isEmpty = true := by rw [ByteArray.toList_eq]; rfl
    generalize str n = X
    go_enter Tryz.func53, Tryz.ntmps53
    go_wp2
    go_ret
    exact ⟨rfl, rfl⟩
  · have e : str (tUnder a n) = str a ++ ⟨#[46]⟩ ++ str n := by
      unfold tUnder
      rw [if_neg h, show (⟨#[46]⟩ : ByteArray) = str [46] from rfl, str_append, str_append, List.append_assoc]
      rfl
    have hb : (str a).toList.isEmpty = false := GP.ne_empty2 (by rw [str_size]; exact List.length_pos_iff.2 h)
    have s1 : (str a).size ≤ 100000 := by rw [str_size]; exact hal
    have s2 : (str n).size ≤ 100000 := by rw [str_size]; exact hnl
    have k1 : ¬ 9223372036854775807 < (str a).size + 1 := by omega
    have k2 : ¬ 9223372036854775807 < (str a).size + 1 + (str n).size := by omega
    rw [e]
    generalize str n = X at *
    generalize str a = Y at *
    clear e s1 s2
    go_enter Tryz.func53, Tryz.ntmps53
    go_wp2
    go_ret
    exact ⟨rfl, rfl⟩
theorem two_new (w : World) (x y : Value) (t : TypeId) : (w.alloc (.cells #[x, y] t)).cell? ⟨w.heap.size, 0, none⟩ = some x ∧ (w.alloc (.cells #[x, y] t)).cell? ⟨w.heap.size, 1, none⟩ = some y ∧
    (w.alloc (.cells #[x, y] t)).frozen? ⟨w.heap.size, 0, none⟩ = false ∧ (w.alloc (.cells #[x, y] t)).frozen? ⟨w.heap.size, 1, none⟩ = false := by
  have h := heap_alloc_new w (.cells #[x, y] t)
  exact ⟨cell_of_row _ _ 0 _ _ (0, 0) h, cell_of_row _ _ 1 _ _ (0, 0) h, frozen_of_row _ _ 0 _ _ h, frozen_of_row _ _ 1 _ _ h⟩
/-- A node of one's own with nothing in it. -/
theorem node_new (w : World) : NdC (w.alloc (.cells #[.bool false, .map none] 56)) w.heap.size false none := by
  obtain ⟨k0, k1, k2, k3⟩ := two_new w (.bool false) (.map none) 56
  exact ⟨k0, k1, k2, k3⟩
theorem trie_new (w : World) : NdC (w.alloc (.cells #[.bool false, .map none] 58)) w.heap.size false none := by
  obtain ⟨k0, k1, k2, k3⟩ := two_new w (.bool false) (.map none) 58
  exact ⟨k0, k1, k2, k3⟩
set_option maxRecDepth 100000 in
theorem new_c (w : World) : Calls Tryz.prog 9 #[] w fun e w' => e = .returned (.pointer (some ⟨w.heap.size, 0, none⟩)) ∧ w' = w.alloc (.cells #[.bool false, .map none] 58) := by
  go_enter Tryz.func9, Tryz.ntmps9
  go_wp2
  go_ret
  exact ⟨rfl, rfl⟩
set_option maxRecDepth 100000 in
theorem top_some (b : Nat) (w : World) : Calls Tryz.prog 27 #[.pointer (some ⟨b, 0, none⟩)] w fun e w' => e = .returned (.pointer (some ⟨b, 0, none⟩)) ∧ w' = w := by
  go_enter Tryz.func27, Tryz.ntmps27
  go_wp2
  go_ret
  exact ⟨rfl, rfl⟩
set_option maxRecDepth 100000 in
theorem top_none (w : World) : Calls Tryz.prog 27 #[.pointer none] w fun e w' => e = .returned (.pointer (some ⟨w.heap.size, 0, none⟩)) ∧ w' = w.alloc (.cells #[.bool false, .map none] 56) := by
  go_enter Tryz.func27, Tryz.ntmps27
  go_wp2
  go_ret
  exact ⟨rfl, rfl⟩
/-- The bytes of names. -/
def Byts (L : List (List Nat)) : Prop := ∀ n ∈ L, (∀ c ∈ n, c < 256) ∧ n.length ≤ 100000
set_option maxRecDepth 100000 in
set_option maxHeartbeats 1000000 in
theorem holds_c (d N b : Nat) (F : Nat → Prop) (S : Pset) (L : List (List Nat)) (hL : Byts L) (hl : L.length ≤ 100000) (v : Value) (w : World) (hn : NdAt N w d b F S) (tv : TxOut w v L) :
    Calls Tryz.prog 28 #[.pointer (some ⟨b, 0, none⟩), v] w fun e w' => e = .returned (.bool (S L)) ∧ w' = w := by
  obtain ⟨A, c, rfl, hc, hx⟩ := tv
  obtain ⟨n, hnn⟩ : ∃ n, L.length = n := ⟨_, rfl⟩
  obtain ⟨r, hr⟩ : ∃ r, S L = r := ⟨_, rfl⟩
  have HX := Lib.hid hx; have HN := Lib.hid hnn; have HR := Lib.hid hr; have HL := Lib.hid hL
  have HS := Lib.hid hn
  rw [hnn] at hc hl ⊢
  rw [hr]
  clear hx hnn hr hL hn
  go_enter Tryz.func28, Tryz.ntmps28
  go_wp2
  go_loopw [0, 6, 9] (fun v0 _ v9 wr => ∃ (k c d' : Nat) (G : Nat → Prop), v0 = .pointer (some ⟨c, 0, none⟩) ∧ v9 = .int .i64 (k : Nat) ∧ k ≤ n ∧ wr = w ∧ Hid (NdAt N w d' c G (tSub S (L.take k)))) (fun _ _ v9 _ => n - (intOf v9).toNat)
  case atStart => exact ⟨0, b, d, F, rfl, rfl, Nat.zero_le _, rfl, HS.out⟩
  case round =>
    obtain ⟨k, c1, d', G, rfl, rfl, hk, rfl, HT⟩ := hrel
    by_cases hlt : k < n
    · have hki : (k : Int) < (n : Int) := by omega
      obtain ⟨g, rfl, ha⟩ := HX.out (by intro e; have := HN.out; rw [e] at this; simp at this; omega)
      have hkl : k < L.length := by rw [HN.out]; exact hlt
      have hp := List.getElem?_eq_getElem hkl
      obtain ⟨m, hm⟩ : ∃ m, L[k] = m := ⟨_, rfl⟩
      rw [hm] at hp
      obtain ⟨hm1, hm2⟩ := HL.out m (List.mem_of_getElem? hp)
      have z1 := ha k m hp
      have htk : L.take (k + 1) = L.take k ++ [m] := by rw [List.take_add_one, hp]; rfl
      obtain ⟨X, hX⟩ : ∃ X, str m = X := ⟨_, rfl⟩
      have hbX : bs X = m := by rw [← hX, bs_str hm1]
      have hXs : X.size ≤ 100000 := by rw [← hX, str_size]; exact hm2
      rw [hX] at z1
      obtain ⟨mv, B, hc0, hrun, hB⟩ := HT.out.look (X := X) hXs
      have hc1 := hc0.c1
      rw [hbX, tSub_snoc, ← htk] at hB
      rcases hB with ⟨rfl, hno⟩ | ⟨c2, d2, G2, rfl, _, _, h2, _⟩
      · have HE := Lib.hid (show false = r by
          rw [← HR.out]
          cases e : S L with
          | false => rfl
          | true => exact absurd ⟨L.drop (k + 1), by show S (L.take (k + 1) ++ L.drop (k + 1)) = true; rw [List.take_append_drop]; exact e⟩ hno)
        clear hno hp hm hm1 hm2 htk hX hbX hXs hc0 ha
        as_aux_lemma =>
          go_wp2
          go_ret
          exact ⟨congrArg (fun z => Ending.returned (.bool z)) HE.out, by trivial⟩
      · have H2 := Lib.hid h2
        clear h2 hp hm hm1 hm2 htk hX hbX hXs hc0 ha
        as_aux_lemma =>
          go_wp2
          go_roundw
          case rel => exact ⟨k + 1, c2, d2, G2, rfl, by go_num, by omega, by trivial, H2.out⟩
          case measure => simp [intOf]; omega
    · obtain rfl : k = n := by omega
      obtain ⟨mv, hc0⟩ := HT.out.cells
      have h0 := hc0.c0
      rw [tSub_end, ← HN.out, List.take_length, HR.out] at h0
      clear hc0
      as_aux_lemma =>
        go_wp2
        go_ret
        exact ⟨rfl, rfl⟩
end Go.Proofs.YtbfbjalnahngjaaGreatDoor.IP
