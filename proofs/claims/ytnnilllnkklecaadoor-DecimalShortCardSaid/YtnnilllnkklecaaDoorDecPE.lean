/-
  Contracts of the program's own functions of layer 3 (decimal), fifth part: Join.
-/
import Derived.Test.YtnnilllnkklecaaDoorDecPD
import Derived.Test.YtnnilllnkklecaaDoorDecRefE
import Derived.Laws.MakeOwn
import Derived.OwnWalk
import Derived.Lib.Join
import Derived.Deep.RegionHeld3
set_option linter.unusedSimpArgs false
set_option linter.unusedVariables false
namespace Go.Proofs.YtnnilllnkklecaaDoor.DP
open Go.RowKit Go.Sort

theorem print_small (b : Bool) (v : Int) (h : -9223372036854775808 ≤ v ∧ v ≤ 9223372036854775807) : ∀ c ∈ printS (rd b v), c < 256 := by
  by_cases g : b = false ∧ v ≠ -9223372036854775808
  · rw [rd_some g.1 g.2]
    intro c hc
    have h1 : c ∈ (if v < 0 then [45] else []) ++ (digs (v.natAbs / 1000000) ++ (if v.natAbs % 1000000 = 0 then [] else 46 :: frF 6 (v.natAbs % 1000000))) := hc
    rw [List.mem_append, List.mem_append] at h1
    rcases h1 with h1 | h1 | h1
    · split at h1
      · simp at h1; omega
      · cases h1
    · have := digs_byte _ c h1; omega
    · split at h1
      · cases h1
      · rcases List.mem_cons.1 h1 with rfl | h1
        · decide
        · have := frF_byte 6 _ (by omega) c h1; omega
  · rw [rd_none g]; decide
/-- The texts that are joined. -/
def tx (B : Nat → Bool) (V : Nat → Int) (j : Nat) : ByteArray := str (printS (rd (B j) (V j)))
theorem nu_tx (B : Nat → Bool) (V : Nat → Int) (j : Nat) (h : -9223372036854775808 ≤ V j ∧ V j ≤ 9223372036854775807) : nu (tx B V j).data.toList = printS (rd (B j) (V j)) :=
  bs_str (print_small _ _ h)
theorem joinTail_snoc (sep : List UInt8) (r : List (List UInt8)) (y : List UInt8) : Lib.joinTail sep (r ++ [y]) = Lib.joinTail sep r ++ (sep ++ y) := by simp [Lib.joinTail]
theorem join_range (B : Nat → Bool) (V : Nat → Int) : ∀ n, (∀ i, i < n → -9223372036854775808 ≤ V i ∧ V i ≤ 9223372036854775807) → nu (Lib.join ((List.range n).map fun j => (tx B V j).data.toList) [44]) = joinF B V n
  | 0, _ => rfl
  | n + 1, h => by
    have ih := join_range B V n (fun i hi => h i (by omega))
    have hx := nu_tx B V n (h n (by omega))
    rw [List.range_succ, List.map_append]
    show nu (Lib.join ((List.range n).map (fun j => (tx B V j).data.toList) ++ [(tx B V n).data.toList]) [44]) = joinF B V n ++ ((if n = 0 then [] else [44]) ++ printS (rd (B n) (V n)))
    cases n with
    | zero =>
      show nu (Lib.join [(tx B V 0).data.toList] [44]) = _
      rw [Lib.join_one, hx]; rfl
    | succ m =>
      rw [List.range_succ_eq_map, List.map_cons] at ih ⊢
      rw [List.cons_append, Lib.join_cons, joinTail_snoc, nu_append, nu_append, nu_append, hx, if_neg (by omega), ← ih, Lib.join_cons, nu_append]
      show _ ++ (_ ++ ([44] ++ _)) = _
      rw [List.append_assoc]
theorem joinF_length (B : Nat → Bool) (V : Nat → Int) : ∀ n, (∀ i, i < n → -9223372036854775808 ≤ V i ∧ V i ≤ 9223372036854775807) → (joinF B V n).length ≤ 22 * n
  | 0, _ => Nat.le_refl _
  | n + 1, h => by
    have ih := joinF_length B V n (fun i hi => h i (by omega))
    have hx := print_length_any (B n) (V n) (h n (by omega))
    show (joinF B V n ++ ((if n = 0 then [] else [44]) ++ printS (rd (B n) (V n)))).length ≤ _
    rw [List.length_append, List.length_append]
    have : (if n = 0 then ([] : List Nat) else [44]).length ≤ 1 := by split <;> simp
    omega
/-- The texts so far, in memory. -/
def Txts (w : World) (g len k : Nat) (B : Nat → Bool) (V : Nat → Int) : Prop :=
  ∃ cs : Array Value, w.heap[g]? = some (.cells cs 9 (0, 0)) ∧ cs.size = len ∧ ∀ j, j < k → cs[j]? = some (.string (tx B V j))
theorem join_lib (g len : Nat) (hl : len ≤ 3000) (B : Nat → Bool) (V : Nat → Int) (hV : ∀ i, i < len → -9223372036854775808 ≤ V i ∧ V i ≤ 9223372036854775807) (w : World) (h : Txts w g len len B V) :
    Calls Tryd.prog 29 #[.slice (some ⟨g, 0, none⟩) len len, .string ⟨#[44]⟩] w fun e w' => e = .returned (.string (str (joinF B V len))) ∧ Below w.heap.size w w' := by
  obtain ⟨cs, h1, h2, h3⟩ := h
  have hlt : g < w.heap.size := by
    rcases Nat.lt_or_ge g w.heap.size with hlt | hge
    · exact hlt
    · rw [Array.getElem?_eq_none hge] at h1; cases h1
  have hj := join_range B V len hV
  have hm : ((List.range len).map (tx B V)).map (fun x => x.data.toList) = (List.range len).map fun j => (tx B V j).data.toList := by rw [List.map_map]; rfl
  have hn : ((List.range len).map (tx B V)).length = len := by simp
  have H := Tryd.strings_Join g 0 len ((List.range len).map (tx B V)) ⟨#[44]⟩ w
    (fun j x hx => by
      rw [List.getElem?_map] at hx
      obtain ⟨y, hy, rfl⟩ := Option.map_eq_some_iff.1 hx
      have hjl : j < len := by
        rcases Nat.lt_or_ge j len with hjl | hjl
        · exact hjl
        · rw [List.getElem?_eq_none (by simpa using hjl)] at hy; cases hy
      rw [List.getElem?_range hjl] at hy
      obtain rfl := Option.some.inj hy
      rw [Nat.zero_add]
      exact (cell_of_row w g j cs _ (0, 0) h1).trans (h3 j hjl))
    hlt (by rw [hn]; omega) (by rw [hn]; exact Nat.le_refl _)
    (by
      have := joinF_length B V len hV
      rw [← hj, nu_length, ← hm] at this
      have e : (⟨#[44]⟩ : ByteArray).data.toList = [44] := rfl
      rw [e]
      omega)
  rw [hn] at H
  refine H.mono ?_
  rintro e w' ⟨rfl, hb⟩
  refine ⟨?_, hb⟩
  rw [mk_str]
  have e : (⟨#[44]⟩ : ByteArray).data.toList = [44] := rfl
  rw [e, hm, hj]
theorem Txts.below {w w' : World} {g len k : Nat} {B : Nat → Bool} {V : Nat → Int} (h : Txts w g len k B V) (hb : Below w.heap.size w w') : Txts w' g len k B V := by
  obtain ⟨cs, h1, h2, h3⟩ := h
  have hlt : g < w.heap.size := by
    rcases Nat.lt_or_ge g w.heap.size with hlt | hge
    · exact hlt
    · rw [Array.getElem?_eq_none hge] at h1; cases h1
  exact ⟨cs, (hb.block g hlt).trans h1, h2, h3⟩
theorem Txts.cell {w : World} {g len k : Nat} {B : Nat → Bool} {V : Nat → Int} (h : Txts w g len k B V) (hk : k < len) : (∃ v, w.cell? ⟨g, k, none⟩ = some v) ∧ w.frozen? ⟨g, k, none⟩ = false := by
  obtain ⟨cs, h1, h2, h3⟩ := h
  refine ⟨⟨cs[k], (cell_of_row w g k cs _ (0, 0) h1).trans (by simp [h2, hk])⟩, ?_⟩
  simp [World.frozen?, h1]
theorem Txts.step {w : World} {g len k : Nat} {B : Nat → Bool} {V : Nat → Int} (h : Txts w g len k B V) (hk : k < len) {E : ByteArray} (hE : tx B V k = E) : Txts (w.setCell ⟨g, k, none⟩ (.string E)) g len (k + 1) B V := by
  obtain ⟨cs, h1, h2, h3⟩ := h
  refine ⟨cs.setIfInBounds k (.string E), ?_, by simp [h2], fun j hj => ?_⟩
  · simp [World.setCell, Array.getElem?_modify, h1]
  · by_cases he : j = k
    · subst he; simp [h2, hk, hE]
    · rw [Array.getElem?_setIfInBounds_ne (by omega)]; exact h3 j (by omega)
theorem made_len (len : Nat) (w : World) (hl : len ≤ 3000) : (Instr.makeSlice 52 (.int .i64 (len : Int)) (.int .i64 (len : Int))).run Tryd.prog w =
    .ok (.slice (some ⟨w.heap.size, 0, none⟩) len len) (w.alloc (.cells (madeCells #[.string ⟨#[]⟩] len) 9)) := by
  obtain ⟨i, hi, hz, h1, h2⟩ := info_parts (P := Tryd.prog) (e := 9) (z := .string ⟨#[]⟩) (size := 1) (bytes := 16) (by kernel_rfl)
  have h := run_makeSlice (P := Tryd.prog) w 52 9 i (.string ⟨#[]⟩) Tryd.underlying52 hi hz .i64 .i64 len len (by omega) (Int.le_refl _) (by rw [h1]; omega) (by rw [h2]; omega) (by omega)
  rw [h1, Nat.mul_one, Int.toNat_natCast] at h
  exact h
theorem txts_made (w : World) (len : Nat) (B : Nat → Bool) (V : Nat → Int) : Txts (w.alloc (.cells (madeCells #[.string ⟨#[]⟩] len) 9)) w.heap.size len 0 B V :=
  ⟨_, heap_alloc_new w _, size_madeCells _ _, fun j h => absurd h (Nat.not_lt_zero j)⟩
set_option maxRecDepth 100000 in
set_option maxHeartbeats 2000000 in
theorem join_nil (a : Option Addr) (cap : Nat) (B : Nat → Bool) (V : Nat → Int) (w : World) :
    Calls Tryd.prog 14 #[.slice a 0 cap] w fun e w' => e = .returned (.string (str (joinF B V 0))) ∧ Below w.heap.size w w' := by
  have hmk := made_len 0 w (by omega)
  have hj := join_lib w.heap.size 0 (by omega) B V (fun i h => absurd h (Nat.not_lt_zero i)) _ (txts_made w 0 B V)
  generalize str (joinF B V 0) = J at *
  generalize madeCells #[Value.string ⟨#[]⟩] 0 = C at *
  have HJ := Lib.hid hj
  clear hj
  simp only [Int.natCast_zero, Int.ofNat_zero] at hmk
  go_enter Tryd.func14, Tryd.ntmps14
  go_wp2
  go_loop [11] (fun i => i = .int .i64 0) (fun _ => 0)
  case atStart => rfl
  case round =>
    subst hrel
    go_wp2_with fail
    refine HJ.out.mono ?_; rintro e w2 ⟨rfl, hb2⟩
    go_wp2
    go_ret
    exact ⟨rfl, below_box hb2⟩
set_option maxRecDepth 100000 in
set_option maxHeartbeats 2000000 in
theorem join_c (b off len cap : Nat) (hl : len ≤ 3000) (B : Nat → Bool) (V : Nat → Int) (hV : ∀ i, i < len → -9223372036854775808 ≤ V i ∧ V i ≤ 9223372036854775807) (w : World) (hw : RowAt w b off len B V) (hG : G w) :
    Calls Tryd.prog 14 #[.slice (some ⟨b, off, none⟩) len cap] w fun e w' => e = .returned (.string (str (joinF B V len))) ∧ Below w.heap.size w w' := by
  have hmk := made_len len w hl
  have ht := txts_made w len B V
  generalize madeCells #[Value.string ⟨#[]⟩] len = C at *
  have HV := Lib.hid hV; have HR := Lib.hid hw; have HT := Lib.hid ht; have HG := Lib.hid hG
  clear hV hw ht hG
  go_enter Tryd.func14, Tryd.ntmps14
  go_wp2
  go_loopw [11] (fun i wr => ∃ k : Nat, k ≤ len ∧ i = .int .i64 k ∧ Hid (Below w.heap.size w wr ∧ Txts wr w.heap.size len k B V)) (fun i _ => len - (intOf i).toNat)
  case atStart => exact ⟨0, Nat.zero_le _, rfl, (Below.refl _ _).alloc (Nat.le_refl _) _, HT.out⟩
  case round =>
    obtain ⟨k, hk, rfl, HI⟩ := hrel
    by_cases hlt : k < len
    · have HRk := Lib.hid (HR.out.below HI.out.1)
      obtain ⟨r0, r1⟩ := HRk.out k hlt
      have g1 := Lib.hid (HG.out.below HI.out.1)
      have p1 := print_c (B k) (V k) (HV.out k hlt)
      obtain ⟨E, hE⟩ : ∃ E, tx B V k = E := ⟨_, rfl⟩
      rw [show str (printS (rd (B k) (V k))) = E from hE] at p1
      have P1 := Lib.hid p1
      have HE := Lib.hid hE
      have zr : w.heap.size < wr.heap.size := by
        have h1 := HI.out.2
        obtain ⟨cs, h1, _, _⟩ := h1
        rcases Nat.lt_or_ge w.heap.size wr.heap.size with hlt | hge
        · exact hlt
        · rw [Array.getElem?_eq_none hge] at h1; cases h1
      clear p1 hE
      go_wp2_with fail
      refine (P1.out _ (g1.out.alloc _)).mono ?_; rintro e w2 ⟨rfl, hb2⟩
      have ht2 := Lib.hid (Txts.below (Txts.below HI.out.2 ((Below.refl _ _).alloc (Nat.le_refl _) _)) hb2)
      obtain ⟨⟨v0, c0⟩, f0⟩ := ht2.out.cell hlt
      have HX := Lib.hid (below_next HI.out.1 (below_box hb2))
      have z2 : w.heap.size < w2.heap.size := (by have := hb2.size; simp at this; omega)
      clear hb2
      go_wp2
      refine ⟨⟨k + 1, by omega, by go_num, HX.out.setCell (Nat.le_refl _) _, ht2.out.step hlt HE.out⟩, by simp [intOf] <;> omega⟩
    · obtain rfl : k = len := by omega
      have hj := join_lib w.heap.size k hl B V HV.out wr HI.out.2
      obtain ⟨J, hJ⟩ : ∃ J, str (joinF B V k) = J := ⟨_, rfl⟩
      rw [hJ] at hj
      have HJ := Lib.hid hj
      have HJJ := Lib.hid hJ
      clear hj hJ
      go_wp2_with fail
      refine HJ.out.mono ?_; rintro e w2 ⟨rfl, hb2⟩
      go_wp2
      go_ret
      exact ⟨ret_str HJJ.out.symm, below_next HI.out.1 hb2⟩
end Go.Proofs.YtnnilllnkklecaaDoor.DP
