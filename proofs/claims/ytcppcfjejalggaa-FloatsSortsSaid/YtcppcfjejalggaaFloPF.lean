/-
  Contracts of the program's own functions of layer 4 (floats), the last part: Sorted, Bits.
-/
import Derived.Test.YtcppcfjejalggaaFloPZ
import Derived.Test.YtcppcfjejalggaaMemRow
set_option linter.unusedSimpArgs false
set_option linter.unusedVariables false
namespace Go.Proofs.Ytcppcfjejalggaa.LP
open Go.RowKit Go.Shelf Go.Lib Go.Sort
def fls (l : List Nat) : List Value := l.map fun n => .float .f64 n
theorem fls_one (l : List Nat) : ∀ u ∈ fls l, u.oneCell' = true := by
  intro u hu
  obtain ⟨x, _, rfl⟩ := List.mem_map.1 hu
  rfl
theorem reads_fl {w : World} {A : Option Addr} {l : List Nat} (h : l ≠ [] → ∃ b off, A = some ⟨b, off, none⟩ ∧ FlAt w b off l) : Reads w w.heap.size 1 A l.length (fls l) := by
  refine ⟨by simp [fls], fun h0 => ?_⟩
  obtain ⟨b, off, rfl, hf⟩ := h (List.length_pos_iff.1 h0)
  have hl0 := List.getElem?_eq_getElem h0
  refine ⟨_, rfl, World.block_lt_of_cell? w _ (hf 0 _ hl0), fun j u hu => ?_⟩
  simp only [fls, List.getElem?_map, Option.map_eq_some_iff] at hu
  obtain ⟨n, hn, rfl⟩ := hu
  have e : (⟨b, off, none⟩ : Addr).add j = ⟨b, off + j, none⟩ := by unfold Addr.add; split <;> simp_all
  rw [e]
  exact hf j n hn
/-- A slice value that is a row of the call's own. -/
def FlNew (B : Nat) (w : World) (v : Value) (l : List Nat) : Prop := ∃ A cap, v = .slice A l.length cap ∧ l.length ≤ cap ∧ (l ≠ [] → ∃ g, A = some ⟨g, 0, none⟩ ∧ B ≤ g ∧ g < w.heap.size ∧ FlAt w g 0 l ∧ ∀ i, w.frozen? ⟨g, i, none⟩ = false)
theorem fl_new {w : World} {base : Nat} {v : Value} {l : List Nat} (h : w.ownsRow base 22 1 v l.length (fls l)) : FlNew base w v l := by
  rcases h.2 with ⟨rfl, h0⟩ | ⟨g, cap, cur, rfl, hb, hh, hle, _, _, ht⟩
  · exact ⟨none, 0, by rw [h0], by omega, fun hn => absurd (List.eq_nil_of_length_eq_zero h0) hn⟩
  · refine ⟨_, cap, rfl, hle, fun _ => ⟨g, rfl, hb, ?_, fun i n hi => ?_, fun i => frozen_of_row w g i cur _ hh⟩⟩
    · rcases Nat.lt_or_ge g w.heap.size with h | h
      · exact h
      · rw [Array.getElem?_eq_none h] at hh; cases hh
    · rw [Nat.zero_add]
      have hlt : i < l.length := by
        rcases Nat.lt_or_ge i l.length with h | h
        · exact h
        · rw [List.getElem?_eq_none h] at hi; cases hi
      refine (cell_of_row w g i cur _ (0, 0) hh).trans ?_
      have h5 : (cur.toList.take (l.length * 1))[i]? = some (.float .f64 n) := by rw [ht]; simp [fls, hi]
      rw [List.getElem?_take, if_pos (by omega)] at h5
      simpa using h5
set_option maxRecDepth 100000 in
set_option maxHeartbeats 2000000 in
theorem clone_c (v : Value) (l : List Nat) (hl : l.length ≤ 300) (w : World) (h : FlOut w v l) :
    Calls Try.prog 44 #[v] w fun e w' => ∃ v', e = .returned v' ∧ FlNew w.heap.size w' v' l ∧ Below w.heap.size w w' := by
  obtain ⟨A, c, rfl, hc, hx⟩ := h
  obtain ⟨n, hln⟩ : ∃ n, l.length = n := ⟨_, rfl⟩
  have hR := reads_fl hx
  rw [hln] at hl hc hR ⊢
  have HX := Lib.hid hx; have HL := Lib.hid hln
  clear hx hln
  have hnil : ∀ (n c : Nat) (w : World), (binOp .eql 37 (.slice none n c) (.slice none 0 0)).run Try.prog w = .ok (.bool true) w := fun n c w => run_eql_slice_nil w 37 22 none n c 0 0 Try.underlying37
  have hsome : ∀ (ad : Addr) (n c : Nat) (w : World), (binOp .eql 37 (.slice (some ad) n c) (.slice none 0 0)).run Try.prog w = .ok (.bool false) w := fun ad n c w => run_eql_slice_nil w 37 22 (some ad) n c 0 0 Try.underlying37
  rcases A with _ | ad
  · have h0 : n = 0 := by
      rcases Nat.eq_zero_or_pos n with h | h
      · exact h
      · exfalso
        obtain ⟨b, off, h2, _⟩ := HX.out (by intro h3; have := HL.out; rw [h3] at this; simp at this; omega)
        cases h2
    subst h0
    clear hR
    go_enter Try.func44, Try.ntmps44
    go_wp2
    go_ret
    exact ⟨.slice none 0 0, rfl, ⟨none, 0, by rw [HL.out], by rw [HL.out]; omega, fun hn => absurd (List.eq_nil_of_length_eq_zero HL.out) hn⟩, Below.refl _ _⟩
  · obtain ⟨i0, hi0, hz0, hz1, hz2⟩ := info_parts (P := Try.prog) (e := 22) (z := .float .f64 0) (size := 1) (bytes := 8) (by kernel_rfl)
    have HR := Lib.hid hR
    clear hR
    go_enter Try.func44, Try.ntmps44
    go_wp2_with (at_builtin; refine wpList_append_any _ rfl (.tmp 5) (.tmp 6) _ rfl w.heap.size 22 i0 (.float .f64 0) 1 8 Try.underlying37 hi0 hz0 hz1 hz2 rfl (by decide) (.slice (some ⟨w.heap.size, 0, none⟩) 0 0) 0 [] rfl (World.ownsRow_made _ _ _ (Nat.le_refl _) (by decide) rfl) w.heap.size (some ad) n c (fls l) rfl (HR.out.alloc (Nat.le_refl _) _) (fls_one _) (by simp only [maxLen]; omega) (by omega) (by simp) ?_; intro v1 w3 hown1 hg1 hat1)
    go_ret
    refine ⟨v1, rfl, fl_new ?_, Below.grown ((Below.refl _ _).alloc (Nat.le_refl _) _) hg1 (by simp) (by intro g hg; simp [Value.ownBlock] at hg; omega)⟩
    rw [HL.out]
    simpa using hown1
/-! ### Of a row without an item -/
theorem ins_none (A : Option Addr) (cap : Nat) (w : World) : Calls Try.prog 70 #[.slice A 0 cap, .int .i64 0, .int .i64 0, .func (.func 17) #[] #[]] w fun e w' => e = .returned (.tuple #[]) ∧ w = w' := by
  go_enter Try.func70, Try.ntmps70
  go_wp2
  go_loop [8] (fun e => e = .int .i64 1) (fun _ => 0)
  case atStart => rfl
  case round =>
    obtain rfl := hrel
    go_wp2
    go_end0
    exact ⟨rfl, rfl⟩
theorem stable_none (A : Option Addr) (cap : Nat) (w : World) : Calls Try.prog 59 #[.slice A 0 cap, .int .i64 0, .func (.func 17) #[] #[]] w fun e w' => e = .returned (.tuple #[]) ∧ w = w' := by
  have I := Lib.hid (ins_none A cap)
  go_enter Try.func59, Try.ntmps59
  go_wp2
  go_loop [7, 8] (fun e u => e = .int .i64 0 ∧ u = .int .i64 20) (fun _ _ => 0)
  case atStart => exact ⟨rfl, rfl⟩
  case round =>
    obtain ⟨rfl, rfl⟩ := hrel
    go_wp2_with fail
    refine (I.out _).mono ?_; rintro _ w2 ⟨rfl, rfl⟩
    go_wp2
    go_loop [6] (fun e => e = .int .i64 20) (fun _ => 0)
    case atStart => rfl
    case round =>
      obtain rfl := hrel
      go_wp2
      go_end0
      exact ⟨rfl, rfl⟩
/-! ### A row that is there -/
def upF : (l : List Nat) → (∀ n ∈ l, n < 18446744073709551616) → List Fl
  | [], _ => []
  | x :: l, h => ⟨x, h x List.mem_cons_self⟩ :: upF l (fun n hn => h n (List.mem_cons_of_mem _ hn))
theorem upF_map : ∀ (l : List Nat) (h : ∀ n ∈ l, n < 18446744073709551616), (upF l h).map (fun x => x.1) = l
  | [], _ => rfl
  | x :: l, h => by
    show x :: (upF l _).map (fun x => x.1) = x :: l
    rw [upF_map l]
theorem upF_length (l : List Nat) (h : ∀ n ∈ l, n < 18446744073709551616) : (upF l h).length = l.length := by
  have := congrArg List.length (upF_map l h)
  rwa [List.length_map] at this
theorem sorted_up (l : List Nat) (h : ∀ n ∈ l, n < 18446744073709551616) : sortF l = (ST.srt rkF (upF l h)).map (fun x => x.1) := by
  have e := ST.srt_map (fun x : Fl => x.1) fRank (upF l h)
  rw [upF_map] at e
  rw [ST.sortF_is l h]
  exact e.symm
theorem sl_below {w0 W : World} {g B : Nat} {l : List Fl} (h : SL w0 g 0 l W) (hB : B ≤ g) (hg : g < w0.heap.size) : RowKit.Below B w0 W := by
  obtain ⟨m, os, rfl⟩ := h
  refine ⟨rfl, rfl, rfl, ?_, fun k hk => ?_⟩
  · unfold sortWorld
    rw [size_grow, Go.Sort.size_putRow]
    show w0.heap.size ≤ w0.heap.size + _
    omega
  · unfold sortWorld
    show ((putRow encF (Sort.ahead w0 m) g 0 l.toArray).heap ++ os)[k]? = _
    rw [Array.getElem?_append, if_pos (by rw [Go.Sort.size_putRow]; show k < w0.heap.size; omega)]
    unfold putRow mapBlock
    show (w0.heap.modify g _)[k]? = _
    rw [Array.getElem?_modify, if_neg (by omega)]
/-- What lies where the row lay. -/
theorem sl_row {w0 W : World} {g n : Nat} {l : List Fl} (h : SL w0 g 0 l W) (R : Told w0 g 0 n) (hn : l.length = n) : FlAt W g 0 (l.map (fun x => x.1)) := by
  intro i k hi
  rw [List.getElem?_map, Option.map_eq_some_iff] at hi
  obtain ⟨x, hx, rfl⟩ := hi
  have hlt : i < l.length := by
    rcases Nat.lt_or_ge i l.length with h | h
    · exact h
    · rw [List.getElem?_eq_none h] at hx; cases hx
  rw [List.getElem?_eq_getElem hlt] at hx
  have e : l = l.take i ++ x :: l.drop (i + 1) := by
    conv => lhs; rw [← List.take_append_drop i l, List.drop_eq_getElem_cons hlt, Option.some.inj hx]
  rw [e] at h hn
  exact h.cell R hn i (by rw [List.length_take]; omega)
theorem told_of {w : World} {g : Nat} {l : List Fl} (hg : g < w.heap.size) (hf : FlAt w g 0 (l.map (fun x => x.1))) (hz : ∀ i, w.frozen? ⟨g, i, none⟩ = false) : Told w g 0 l.length ∧ SL w g 0 l w := by
  have H : Holds encF w g 0 l.toArray := by
    intro j hj
    have hj' : j < l.length := by simpa using hj
    refine ⟨?_, hz _⟩
    have := hf j (l[j]).1 (by rw [List.getElem?_map, List.getElem?_eq_getElem hj']; rfl)
    rw [this]
    congr 1
    simp [hj', encF]
  exact ⟨⟨l.toArray, ⟨oneF, H, hg⟩, by simp⟩, SW.start H⟩
set_option maxRecDepth 100000 in
theorem stab_c (A : Option Addr) (n cap : Nat) (w : World) (Q : World → Prop)
    (H : Calls Try.prog 59 #[.slice A n cap, .int .i64 (n : Nat), .func (.func 17) #[] #[]] w fun e w' => e = .returned (.tuple #[]) ∧ Q w') :
    Calls Try.prog 45 #[.slice A n cap, .func (.func 17) #[] #[]] w fun e w' => e = .returned (.tuple #[]) ∧ Q w' := by
  have HH := Lib.hid H
  clear H
  go_enter Try.func45, Try.ntmps45
  go_wp2_with fail
  refine HH.out.mono ?_; rintro _ w2 ⟨rfl, hq⟩
  go_wp2
  go_end0
  exact ⟨rfl, hq⟩
set_option maxRecDepth 100000 in
set_option maxHeartbeats 2000000 in
theorem sorted_c (v : Value) (l : List Nat) (hl : l.length ≤ 300) (hn : ∀ n ∈ l, n < 18446744073709551616) (w : World) (h : FlOut w v l) :
    Calls Try.prog 20 #[v] w fun e w' => ∃ v', e = .returned v' ∧ FlOut w' v' (sortF l) ∧ RowKit.Below w.heap.size w w' := by
  have CL := Lib.hid (clone_c v l hl w h)
  have key : ∀ (v1 : Value) (w1 : World), FlNew w.heap.size w1 v1 l → RowKit.Below w.heap.size w w1 →
      Calls Try.prog 45 #[v1, .func (.func 17) #[] #[]] w1 fun e w' => e = .returned (.tuple #[]) ∧ (FlOut w' v1 (sortF l) ∧ RowKit.Below w.heap.size w w') := by
    rintro v1 w1 ⟨A, cap, rfl, hc, hx⟩ hb
    by_cases h0 : l = []
    · subst h0
      refine stab_c A 0 cap w1 _ ((stable_none A cap w1).mono ?_)
      rintro _ w2 ⟨h, rfl⟩
      exact ⟨h, ⟨A, cap, rfl, hc, fun hne => absurd rfl hne⟩, hb⟩
    · obtain ⟨g, rfl, hg1, hg2, hf, hz⟩ := hx h0
      have hf' : FlAt w1 g 0 ((upF l hn).map (fun x => x.1)) := by rw [upF_map]; exact hf
      obtain ⟨R, S⟩ := told_of hg2 hf' hz
      rw [upF_length] at R
      refine stab_c (some ⟨g, 0, none⟩) l.length cap w1 _ ((stable_c w1 g 0 cap l.length (upF l hn) R (by omega) (upF_length l hn) w1 S).mono ?_)
      rintro _ w2 ⟨h, s⟩
      refine ⟨h, ⟨some ⟨g, 0, none⟩, cap, by rw [sortF_length], by rw [sortF_length]; exact hc, fun _ => ⟨g, 0, rfl, ?_⟩⟩, hb.trans (sl_below s hg1 hg2)⟩
      rw [sorted_up l hn]
      exact sl_row s R (by rw [ST.srt_length, upF_length])
  have KEY := Lib.hid key
  clear key h hl hn
  go_enter Try.func20, Try.ntmps20
  go_wp2_with fail
  refine CL.out.mono ?_; rintro _ w1 ⟨v1, rfl, hv1, hb1⟩
  have V1 := Lib.hid hv1; have B1 := Lib.hid hb1
  clear hv1 hb1
  go_wp2_with fail
  refine (KEY.out v1 w1 V1.out B1.out).mono ?_; rintro _ w2 ⟨rfl, s2, hb2⟩
  go_wp2
  go_ret
  exact ⟨v1, rfl, s2, hb2⟩
end Go.Proofs.Ytcppcfjejalggaa.LP
