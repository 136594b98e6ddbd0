/-
  Contracts of the program's functions of layer 11: sections with what one line more says (grown).
-/
import Derived.Test.YtgdjmbekamdlgaaDoorCfgFn
import Derived.Test.YtgdjmbekamdlgaaDoorCfgPq
import Derived.Deep.RegionHeld3
set_option linter.unusedSimpArgs false
set_option linter.unusedVariables false
namespace Go.Proofs.YtgdjmbekamdlgaaDoor.KP
open Go.RowKit KR
theorem ret_vn2 {v : Value} {a b : Int} (h : a = b) : Ending.returned (.tuple #[v, .int .i64 a]) = .returned (.tuple #[v, .int .i64 b]) := by rw [h]
theorem get_any (l : List KV) (k : List Nat) : (getV l k).isSome = l.any fun p => p.1 == k := by
  unfold getV
  rw [Option.isSome_map, Bool.eq_iff_iff, List.find?_isSome, List.any_eq_true]
theorem held_s {x y : World} {b0 o0 b1 b2 : Nat} {v0 v1 v2 : Value} (h : x.cell? ⟨b0, o0, none⟩ = some v0 ∧ x.cell? ⟨b1, 0, none⟩ = some v1 ∧ x.cell? ⟨b2, 1, none⟩ = some v2) (hb : Below x.heap.size x y) :
    y.cell? ⟨b0, o0, none⟩ = some v0 ∧ y.cell? ⟨b1, 0, none⟩ = some v1 ∧ y.cell? ⟨b2, 1, none⟩ = some v2 := ⟨cellb hb h.1, cellb hb h.2.1, cellb hb h.2.2⟩
theorem keyed_b (nm : ByteArray) (w : World) : Calls Tryd.prog 30 #[.string nm] w fun e w' => ∃ b, e = .returned (.func (.func 51) #[] #[.pointer (some ⟨b, 0, none⟩)]) ∧ w'.cell? ⟨b, 0, none⟩ = some (.string nm) ∧ Below w.heap.size w w' :=
  (keyed_c nm w).mono fun e w' ⟨h1, h2⟩ => ⟨_, h1, by rw [h2]; exact cell_of_row _ _ 0 _ _ (0, 0) (heap_alloc_new w _), by rw [h2]; exact alloc_below _ _⟩
theorem named_b (nm : ByteArray) (w : World) : Calls Tryd.prog 27 #[.string nm] w fun e w' => ∃ b, e = .returned (.func (.func 47) #[] #[.pointer (some ⟨b, 0, none⟩)]) ∧ w'.cell? ⟨b, 0, none⟩ = some (.string nm) ∧ Below w.heap.size w w' :=
  (named_c nm w).mono fun e w' ⟨h1, h2⟩ => ⟨_, h1, by rw [h2]; exact cell_of_row _ _ 0 _ _ (0, 0) (heap_alloc_new w _), by rw [h2]; exact alloc_below _ _⟩
/-- What grown answers. -/
def Grew (B : Nat) (w : World) (L : List Sec) (t : List Nat) (e : Ending) (w' : World) : Prop :=
  ∃ (A : Option Addr) (n c : Nat), e = .returned (.tuple #[.slice A n c, .int .i64 (stepV L t).2]) ∧ ((stepV L t).2 = 0 → ∃ us : List (Value × Sec), us.map Prod.snd = (stepV L t).1 ∧ ScUs B w' (.slice A n c) us) ∧ Below B w w'
theorem Grew.err {B : Nat} {w w' : World} {L : List Sec} {t : List Nat} {A : Option Addr} {n c : Nat} {x : Int} (h : (stepV L t).2 = x) (hx : x ≠ 0) (hb : Below w.heap.size w w') (hB : B ≤ w.heap.size) : Grew B w L t (.returned (.tuple #[.slice A n c, .int .i64 x])) w' :=
  ⟨A, n, c, by rw [h], fun e => absurd (h.symm.trans e) hx, hb.mono hB⟩
set_option maxRecDepth 100000 in
set_option maxHeartbeats 1000000 in
/-- A line that begins a section. -/
theorem grown_head (B : Nat) (A : Option Addr) (nu c : Nat) (us : List (Value × Sec)) (s : ByteArray) (hs : s.size ≤ 100000) (n : List Nat) (hn : headV (bs s) = some n) (w : World) (hB : B ≤ w.heap.size) (HU : ScUs B w (.slice A nu c) us) (hnu : us.length = nu) (hfew : nu ≤ 16) (hbyt : SecB (us.map Prod.snd)) :
    Calls Tryd.prog 13 #[.slice A nu c, .string s] w (Grew B w (us.map Prod.snd) (bs s)) := by
  have hst := step_head (out := us.map Prod.snd) hn
  rw [List.length_map, hnu] at hst
  have SE := (section_c s hs w)
  rw [hn] at SE
  have hnB : Byt n := fun c hc => bs_small s c (head_mem hn hc)
  have hbn : bs (str n) = n := bs_str hnB
  obtain ⟨NM, hNM⟩ : ∃ NM, str n = NM := ⟨_, rfl⟩
  have SE2 := Lib.hid (SE.mono fun e w' ⟨M, h1, h2, h3⟩ => (show e = Ending.returned (.tuple #[.string NM, .bool true]) ∧ w = w' from ⟨by rw [h1, h2 n rfl, hNM]; rfl, h3⟩))
  rw [hNM] at hbn
  have NB := Lib.hid (named_b NM w)
  have HU0 := Lib.hid HU
  have CF := Lib.hid (fun (b : Nat) (W : World) (h1 : Below w.heap.size w W) (h2 : W.cell? ⟨b, 0, none⟩ = some (.string NM)) => hasS_c (.slice A nu c) (us.map Prod.snd) (by rw [List.length_map]; omega) (fun x hx => (hbyt x hx).1) b NM W h2 (HU0.out.out.below h1))
  rw [hbn] at CF
  have hv : hasV (us.map Prod.snd) n = ((us.map Prod.snd).any fun x => x.1 == n) := rfl
  rw [hv] at hst
  obtain ⟨d, hd⟩ : ∃ d, ((us.map Prod.snd).any fun x => x.1 == n) = d := ⟨_, rfl⟩
  rw [hd] at hst CF
  have HST := Lib.hid hst; have HNM := Lib.hid hNM
  clear hst SE hnB hbn hNM hv hd hbyt HU hn
  cases d with
  | true =>
    rw [if_pos rfl] at HST
    have AD := Lib.hid (fun (b : Nat) (W : World) (h1 : Below w.heap.size w W) (h2 : W.cell? ⟨b, 0, none⟩ = some (.string NM)) => addedS_has A nu c NM (.func (.func 47) #[] #[.pointer (some ⟨b, 0, none⟩)]) ⟨b, rfl⟩ W (fun W2 h3 => CF.out b W2 (bnext h1 h3) (cellb h3 h2)))
    clear CF
    go_enter Tryd.func13, Tryd.ntmps13
    go_wp2_with (first
      | (go_at_call 25; refine SE2.out.mono ?_; rintro _ w1 ⟨rfl, rfl⟩)
      | (go_at_call 27; refine NB.out.mono ?_; rintro _ w2 ⟨b, rfl, hc2, hb2⟩)
      | (go_at_call 26; refine (AD.out b _ hb2 hc2).mono ?_; rintro _ w3 ⟨rfl, hb3⟩))
    go_ret2
    exact Grew.err (by rw [HST.out]) (by decide) (bnext hb2 hb3) hB
  | false =>
    rw [if_neg (by decide)] at HST
    by_cases h16 : 16 ≤ nu
    · rw [if_pos (by omega)] at HST
      have AD := Lib.hid (fun (b : Nat) (W : World) (h1 : Below w.heap.size w W) (h2 : W.cell? ⟨b, 0, none⟩ = some (.string NM)) => addedS_full A nu c h16 NM (.func (.func 47) #[] #[.pointer (some ⟨b, 0, none⟩)]) ⟨b, rfl⟩ W (fun W2 h3 => CF.out b W2 (bnext h1 h3) (cellb h3 h2)))
      clear CF
      go_enter Tryd.func13, Tryd.ntmps13
      go_wp2_with (first
        | (go_at_call 25; refine SE2.out.mono ?_; rintro _ w1 ⟨rfl, rfl⟩)
        | (go_at_call 27; refine NB.out.mono ?_; rintro _ w2 ⟨b, rfl, hc2, hb2⟩)
        | (go_at_call 26; refine (AD.out b _ hb2 hc2).mono ?_; rintro _ w3 ⟨rfl, hb3⟩))
      go_ret2
      exact Grew.err (by rw [HST.out]) (by decide) (bnext hb2 hb3) hB
    · rw [if_neg (by omega)] at HST
      have AD := Lib.hid (fun (b : Nat) (W : World) (h1 : Below w.heap.size w W) (h2 : W.cell? ⟨b, 0, none⟩ = some (.string NM)) => addedS_room B A nu c (scC us) h16 NM (.func (.func 47) #[] #[.pointer (some ⟨b, 0, none⟩)]) ⟨b, rfl⟩ W (Nat.le_trans hB h1.size) (by have h := (HU0.out.below h1).row; rw [hnu] at h; exact h) (fun W2 h3 => CF.out b W2 (bnext h1 h3) (cellb h3 h2)))
      have FIN := Lib.hid (show ∀ (w2 wa w3 : World) (g cap : Nat), Below w.heap.size w w2 → Below w2.heap.size w2 wa → wa.grownBy w3 (Value.ownBlock (.slice A nu c)) → w3.ownsRow B 37 2 (.slice (some ⟨g, 0, none⟩) (nu + 1) cap) (nu + 1) (scC us ++ [.string NM, .slice none 0 0]) → (Value.ownBlock (.slice A nu c) = some g ∨ wa.heap.size ≤ g) →
          Grew B w (us.map Prod.snd) (bs s) (.returned (.tuple #[.slice (some ⟨g, 0, none⟩) (nu + 1) cap, .int .i64 0])) w3 from fun w2 wa w3 g cap h1 h2 hg ho hat => by
        have hU := HU0.out.below (bnext h1 h2)
        have hP := @ScUs.push B wa w3 (.slice A nu c) us n g cap hU (by rw [hnu, HNM.out]; exact ho) hg hat
        rw [hnu] at hP
        refine ⟨_, _, _, by rw [HST.out], fun _ => ⟨_, by rw [HST.out, List.map_append]; rfl, hP⟩, ?_⟩
        exact ((bnext h1 h2).mono hB).grown hg (Nat.le_trans hB (bnext h1 h2).size) (fun j ej => (own_lt hU.row ej).1))
      clear CF h16
      go_enter Tryd.func13, Tryd.ntmps13
      go_wp2_with (first
        | (go_at_call 25; refine SE2.out.mono ?_; rintro _ w1 ⟨rfl, rfl⟩)
        | (go_at_call 27; refine NB.out.mono ?_; rintro _ w2 ⟨b, rfl, hc2, hb2⟩)
        | (go_at_call 26; refine (AD.out b _ hb2 hc2).mono ?_; rintro _ w3 ⟨wa, g3, cap3, rfl, hb3, hg3, ho3, hat3⟩; have F3 := Lib.hid (FIN.out _ _ _ g3 cap3 hb2 hb3 hg3 ho3 hat3); clear hg3 ho3 hat3))
      go_ret2
      exact F3.out
end Go.Proofs.YtgdjmbekamdlgaaDoor.KP
