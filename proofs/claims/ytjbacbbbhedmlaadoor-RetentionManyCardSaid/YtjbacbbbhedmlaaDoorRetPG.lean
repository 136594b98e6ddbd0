/-
  Contracts of the program's functions of layer 10: Print.
-/
import Derived.Test.YtjbacbbbhedmlaaDoorRetPE
import Derived.Test.YtjbacbbbhedmlaaDoorRetRJ
import Derived.Test.YtjbacbbbhedmlaaDoorRetLib
import Derived.Test.YtjbacbbbhedmlaaDoorShelf
import Derived.Laws.MakeOwn
import Derived.OwnWalk
import Derived.Lib.Join
import Derived.Lib.ItoaMem
import Derived.Lib.LaidTab
import Derived.Lib.SmallJoins
import Derived.Deep.RegionHeld3
set_option linter.unusedSimpArgs false
set_option linter.unusedVariables false
namespace Go.Proofs.YtjbacbbbhedmlaaDoor.RP
open Go.RowKit Go.Sort RR
/-- The library's table of powers of ten. -/
structure Pw (w : World) : Prop where
  tab : Lib.TabIs Tryd.prog w "internal/strconv.uint64pow10" .u64 Lib.pow10Tab
theorem g_tab : Tryd.prog.globalNamed "internal/strconv.uint64pow10" = some 4 := by kernel_rfl
theorem Pw.below {w w' : World} (h : Pw w) (hb : Below w.heap.size w w') : Pw w' := ⟨Joins.tab_stays g_tab h.tab hb (Nat.le_refl _)⟩
theorem nat_dec (n : Nat) : (Lib.decDigits n).map (·.toNat) = digs n := by
  induction n using Nat.strongRecOn with
  | _ n ih =>
    by_cases h : n < 10
    · rw [Lib.decDigits, dif_pos h, digs_small h]
      simp; omega
    · rw [Lib.decDigits, dif_neg h, digs_big h, List.map_append, ih _ (by omega)]
      simp; omega
theorem below_grow (w : World) (k : Nat) (os : Array Obj) : Below w.heap.size w (grow (w.drewN k) os) := by
  refine ⟨rfl, rfl, rfl, ?_, fun b hb => ?_⟩
  · simp [grow]
  · simp [grow, Array.getElem?_append, hb]
theorem itoa_c (n : Nat) (hn : n ≤ 9223372036854775807) (w : World) (h : Pw w) : Calls Tryd.prog 28 #[.int .i64 (n : Int)] w fun e w' => e = .returned (.string (str (digs n))) ∧ Below w.heap.size w w' := by
  refine (Tryd.strconv_Itoa (n : Int) (by omega) (by omega) w h.tab).mono ?_
  rintro e w' ⟨rfl, k, os, rfl⟩
  refine ⟨?_, below_grow _ _ _⟩
  rw [mk_strU, Lib.itoa_nonneg, nat_dec]
theorem join_tail : ∀ l : List (Int × Int), (∀ g ∈ l, rgOk g = true) → (Lib.joinTail [44] (l.map fun g => (str (prOne g)).data.toList)).map (·.toNat) = prTail l
  | [], _ => rfl
  | g :: l, h => by
    have ih := join_tail l (fun x hx => h x (List.mem_cons_of_mem _ hx))
    have hb : bs (str (prOne g)) = prOne g := bs_str (fun c hc => by have := prOne_mem hc; omega)
    unfold bs at hb
    have e : Lib.joinTail [44] ((g :: l).map fun g => (str (prOne g)).data.toList) = [44] ++ ((str (prOne g)).data.toList ++ Lib.joinTail [44] (l.map fun g => (str (prOne g)).data.toList)) := by simp [Lib.joinTail]
    rw [e, List.map_append, List.map_append, ih, hb]
    rfl
theorem join_pr (l : List (Int × Int)) (h : ∀ g ∈ l, rgOk g = true) : (Lib.join (l.map fun g => (str (prOne g)).data.toList) [44]).map (·.toNat) = prV l := by
  cases l with
  | nil => rfl
  | cons g l =>
    have ih := join_tail l (fun x hx => h x (List.mem_cons_of_mem _ hx))
    have hb : bs (str (prOne g)) = prOne g := bs_str (fun c hc => by have := prOne_mem hc; omega)
    unfold bs at hb
    rw [List.map_cons, Lib.join_cons, List.map_append, ih, hb]
    rfl
/-- The texts so far, in memory. -/
def TxAt (w : World) (g len k : Nat) (l : List (Int × Int)) : Prop :=
  ∃ cs : Array Value, w.heap[g]? = some (.cells cs 9 (0, 0)) ∧ cs.size = len ∧ ∀ j x, j < k → l[j]? = some x → cs[j]? = some (.string (str (prOne x)))
theorem TxAt.lt {w : World} {g len k : Nat} {l : List (Int × Int)} (h : TxAt w g len k l) : g < w.heap.size := by
  obtain ⟨cs, h1, _, _⟩ := h
  exact (Array.getElem?_eq_some_iff.1 h1).1
theorem TxAt.below {w w' : World} {g len k : Nat} {l : List (Int × Int)} (h : TxAt w g len k l) (hb : Below w.heap.size w w') : TxAt w' g len k l := by
  have hlt := h.lt
  obtain ⟨cs, h1, h2, h3⟩ := h
  exact ⟨cs, (hb.block g hlt).trans h1, h2, h3⟩
theorem TxAt.cell {w : World} {g len k : Nat} {l : List (Int × Int)} (h : TxAt w g len k l) (hk : k < len) : (∃ v, w.cell? ⟨g, k, none⟩ = some v) ∧ w.frozen? ⟨g, k, none⟩ = false := by
  obtain ⟨cs, h1, h2, h3⟩ := h
  refine ⟨⟨cs[k], (cell_of_row w g k cs _ (0, 0) h1).trans (by simp [h2, hk])⟩, ?_⟩
  simp [World.frozen?, h1]
theorem TxAt.step {w : World} {g len k : Nat} {l : List (Int × Int)} (h : TxAt w g len k l) (hk : k < len) {x : Int × Int} (hx : l[k]? = some x) {E : ByteArray} (hE : E = str (prOne x)) : TxAt (w.setCell ⟨g, k, none⟩ (.string E)) g len (k + 1) l := by
  obtain ⟨cs, h1, h2, h3⟩ := h
  refine ⟨cs.setIfInBounds k (.string E), ?_, by simp [h2], fun j y hj hy => ?_⟩
  · simp [World.setCell, Array.getElem?_modify, h1]
  · by_cases he : j = k
    · subst he
      rw [hx] at hy
      obtain rfl := Option.some.inj hy
      simp [h2, hk, hE]
    · rw [Array.getElem?_setIfInBounds_ne (by omega)]; exact h3 j y (by omega) hy
theorem txAt_made (w : World) (len : Nat) (l : List (Int × Int)) : TxAt (w.alloc (.cells (madeCells #[.string ⟨#[]⟩] len) 9)) w.heap.size len 0 l :=
  ⟨_, heap_alloc_new w _, size_madeCells _ _, fun j x h => absurd h (Nat.not_lt_zero j)⟩
theorem made_len (len : Nat) (w : World) (hl : len ≤ 3000) : (Instr.makeSlice 44 (.int .i64 (len : Int)) (.int .i64 (len : Int))).run Tryd.prog w =
    .ok (.slice (some ⟨w.heap.size, 0, none⟩) len len) (w.alloc (.cells (madeCells #[.string ⟨#[]⟩] len) 9)) := by
  obtain ⟨i, hi, hz, h1, h2⟩ := info_parts (P := Tryd.prog) (e := 9) (z := .string ⟨#[]⟩) (size := 1) (bytes := 16) (by kernel_rfl)
  have h := run_makeSlice (P := Tryd.prog) w 44 9 i (.string ⟨#[]⟩) Tryd.underlying44 hi hz .i64 .i64 len len (by omega) (Int.le_refl _) (by rw [h1]; omega) (by rw [h2]; omega) (by omega)
  rw [h1, Nat.mul_one, Int.toNat_natCast] at h
  exact h
theorem join_c (l : List (Int × Int)) (hok : ∀ g ∈ l, rgOk g = true) (hl : l.length ≤ 4) (g n : Nat) (hn : l.length = n) (w : World) (h : TxAt w g n n l) :
    Calls Tryd.prog 29 #[.slice (some ⟨g, 0, none⟩) n n, .string ⟨#[44]⟩] w fun e w' => e = .returned (.string (str (prV l))) ∧ Below w.heap.size w w' := by
  have hlt := h.lt
  obtain ⟨cs, h1, h2, h3⟩ := h
  have hm : (l.map fun g => str (prOne g)).map (fun x => x.data.toList) = l.map fun g => (str (prOne g)).data.toList := by rw [List.map_map]; rfl
  have hlen : (l.map fun g => str (prOne g)).length = n := by rw [List.length_map, hn]
  have e44 : (⟨#[44]⟩ : ByteArray).data.toList = [44] := rfl
  have H := Tryd.strings_Join g 0 n (l.map fun g => str (prOne g)) ⟨#[44]⟩ w
    (fun j x hx => by
      rw [List.getElem?_map] at hx
      obtain ⟨y, hy, rfl⟩ := Option.map_eq_some_iff.1 hx
      have hj : j < l.length := (List.getElem?_eq_some_iff.1 hy).1
      rw [Nat.zero_add]
      exact (cell_of_row w g j cs _ (0, 0) h1).trans (h3 j y (by omega) hy))
    hlt (by rw [hlen]; omega) (by rw [hlen]; exact Nat.le_refl _)
    (by
      have h40 := prV_length l hok
      have hj := congrArg List.length (join_pr l hok)
      rw [List.length_map, ← hm] at hj
      rw [e44]
      omega)
  rw [hlen] at H
  refine H.mono ?_
  rintro e w' ⟨rfl, hb⟩
  refine ⟨?_, hb⟩
  rw [mk_strU, hm, e44, join_pr l hok]
theorem held_set {b b' o : Nat} {x y u : Value} {w : World} (hne : b' ≠ b) (h : w.cell? ⟨b, 0, none⟩ = some x ∧ w.cell? ⟨b, 1, none⟩ = some y) : (w.setCell ⟨b', o, none⟩ u).cell? ⟨b, 0, none⟩ = some x ∧ (w.setCell ⟨b', o, none⟩ u).cell? ⟨b, 1, none⟩ = some y :=
  ⟨(World.cell?_setCell_other _ _ _ _ (by intro e; injection e with e; exact hne e)).trans h.1, (World.cell?_setCell_other _ _ _ _ (by intro e; injection e with e; exact hne e)).trans h.2⟩
theorem held_two {b : Nat} {x y : Value} {w w' : World} (hb : Below w.heap.size w w') (h : w.cell? ⟨b, 0, none⟩ = some x ∧ w.cell? ⟨b, 1, none⟩ = some y) : w'.cell? ⟨b, 0, none⟩ = some x ∧ w'.cell? ⟨b, 1, none⟩ = some y := ⟨cellb hb h.1, cellb hb h.2⟩
set_option maxRecDepth 100000 in
set_option maxHeartbeats 4000000 in
theorem print_c (v : Value) (l : List (Int × Int)) (hl : l.length ≤ 100000) (w : World) (f : RgOut w v l) (pw : Pw w) :
    Calls Tryd.prog 13 #[v] w fun e w' => e = .returned (.tuple #[.string (str (printV l).1), .int .i64 (printV l).2]) ∧ Below w.heap.size w w' := by
  have hT := RP.together_c v l hl w f
  obtain ⟨d, hd⟩ : ∃ d, tog l = d := ⟨_, rfl⟩
  rw [hd] at hT
  have hP : printV l = if d then (prV l, 0) else ([], 1) := by rw [← hd]; rfl
  rw [hP]
  clear hP
  obtain ⟨A, c, rfl, hc, hx⟩ := f
  obtain ⟨n, hn⟩ : ∃ n, l.length = n := ⟨_, rfl⟩
  rw [hn] at hl hc hT ⊢
  have HT := Lib.hid hT; have HX := Lib.hid hx; have HN := Lib.hid hn; have PW := Lib.hid pw
  clear hT hx hn pw
  cases d
  · clear hd HX HN PW
    go_enter Tryd.func13, Tryd.ntmps13
    go_wp2_with fail
    refine HT.out.mono ?_; rintro e w1 ⟨rfl, hb1⟩
    go_wp2
    go_ret2
    exact ⟨rfl, hb1⟩
  · obtain ⟨⟨l1, l4⟩, hok, -⟩ := (tog_iff l).1 hd
    rw [HN.out] at l1 l4
    have OK := Lib.hid hok
    have JC := Lib.hid (fun (W : World) (g : Nat) (h : TxAt W g n n l) => join_c l (fun x hx => by obtain ⟨j, hj⟩ := List.getElem?_of_mem hx; exact hok j x hj) (by rw [HN.out]; exact l4) g n HN.out W h)
    obtain ⟨R, hR⟩ : ∃ R, str (prV l) = R := ⟨_, rfl⟩
    simp only [if_true, hR]
    rw [hR] at JC
    clear hd hok hR
    have hmk := fun W => made_len n W (by omega)
    go_enter Tryd.func13, Tryd.ntmps13
    go_wp2_with fail
    refine HT.out.mono ?_; rintro e w1 ⟨rfl, hb1⟩
    have HB := Lib.hid hb1
    have TX := Lib.hid (txAt_made w1 n l)
    generalize madeCells #[Value.string ⟨#[]⟩] n = C at *
    clear hb1 HT
    go_wp2
    go_loopw [15] (fun i wr => ∃ k : Nat, k ≤ n ∧ i = .int .i64 k ∧ Hid (Below w.heap.size w wr ∧ TxAt wr w1.heap.size n k l)) (fun i _ => n - (intOf i).toNat)
    case atStart => exact ⟨0, Nat.zero_le _, rfl, bnext HB.out (alloc_below _ _), TX.out⟩
    case round =>
      clear hmk
      obtain ⟨k, hk, rfl, HI⟩ := hrel
      by_cases hlt : k < n
      · have hkl : k < l.length := by rw [HN.out]; exact hlt
        obtain ⟨b, off, rfl, ha⟩ := HX.out (by intro e; rw [e] at hkl; exact absurd hkl (Nat.not_lt_zero _))
        have hp0 := List.getElem?_eq_getElem hkl
        obtain ⟨⟨x, y⟩, hp⟩ : ∃ p, l[k] = p := ⟨_, rfl⟩
        rw [hp] at hp0
        obtain ⟨c0, c1⟩ := (ha.below HI.out.1) k _ hp0
        have ho := of_decide_eq_true (OK.out k _ hp0)
        simp only at ho c0 c1
        obtain ⟨X, rfl⟩ : ∃ X : Nat, x = (X : Int) := ⟨x.toNat, by omega⟩
        obtain ⟨Y, rfl⟩ : ∃ Y : Nat, y = (Y : Int) := ⟨y.toNat, by omega⟩
        have hX1 : X ≤ 86400 := by omega
        have hY1 : Y ≤ 400 := by omega
        have hD1 := digs_length 4 X (by omega)
        have hD2 := digs_length 2 Y (by omega)
        obtain ⟨U, hU⟩ : ∃ U, str (digs X) = U := ⟨_, rfl⟩
        obtain ⟨V, hV⟩ : ∃ V, str (digs Y) = V := ⟨_, rfl⟩
        have hUs : U.size ≤ 5 := by rw [← hU, str_size]; exact hD1
        have hVs : V.size ≤ 3 := by rw [← hV, str_size]; exact hD2
        have hone : U ++ ⟨#[58]⟩ ++ V = str (prOne ((X : Int), (Y : Int))) := by
          rw [← hU, ← hV, str58, str_append, str_append]
          unfold prOne
          simp
        obtain ⟨wy, hwy⟩ : ∃ wy, (wr.alloc (.cells #[.int .i64 (X : Int), .int .i64 (Y : Int)] 32)) = wy := ⟨_, rfl⟩
        obtain ⟨a0, a1⟩ := one_cell wr (.int .i64 (X : Int)) (.int .i64 (Y : Int)) 32
        rw [hwy] at a0 a1
        have hby : Below wr.heap.size wr wy := by rw [← hwy]; exact alloc_below _ _
        have HY := Lib.hid (bnext HI.out.1 hby)
        have TY := Lib.hid (HI.out.2.below hby)
        have PY := Lib.hid (PW.out.below HY.out)
        have IX := Lib.hid (fun (W : World) (hW : Below wy.heap.size wy W) => itoa_c X (by omega) W (PY.out.below hW))
        have IY := Lib.hid (fun (W : World) (hW : Below wy.heap.size wy W) => itoa_c Y (by omega) W (PY.out.below hW))
        rw [hU] at IX
        rw [hV] at IY
        have NE := Lib.hid (show w1.heap.size ≠ wr.heap.size from by have := HI.out.2.lt; omega)
        have hcat1 : ¬ 9223372036854775807 < U.size + 1 := by omega
        have hcat2 : ¬ 9223372036854775807 < U.size + 1 + V.size := by omega
        have HONE := Lib.hid hone; have HP := Lib.hid hp0; have HWY := Lib.hid hwy
        have hzl : wr.heap.size < wy.heap.size := by rw [← hwy]; simp
        clear hU hV hD1 hD2 hp0 hp ha hkl ho hwy hby hone
        go_wp2_with fail
        rw [HWY.out]
        go_region_held3 (fun Z => Z.cell? ⟨wr.heap.size, 0, none⟩ = some (.int .i64 (X : Int)) ∧ Z.cell? ⟨wr.heap.size, 1, none⟩ = some (.int .i64 (Y : Int)))
          (first | (refine held_two hb3 ?_; assumption) | (refine held_two hb2 ?_; assumption) | (refine held_set NE.out ?_; assumption) | go_keep)
          (first
            | (go_at_call_of 28 (X); refine (IX.out _ (Below.refl _ wy).drew).mono ?_; rintro e w2 ⟨rfl, hb2⟩)
            | (go_at_call_of 28 (Y); refine (IY.out _ (bnext (Below.refl _ wy).drew hb2)).mono ?_; rintro e w3 ⟨rfl, hb3⟩; have HZ := Lib.hid (bnext (bnext (Below.refl _ wy).drew hb2) hb3); have TZ := Lib.hid (TY.out.below HZ.out); obtain ⟨⟨v0, s0⟩, f0⟩ := TZ.out.cell hlt))
        go_wp2
        go_roundw
        case rel => exact ⟨k + 1, by omega, by go_num, (bnext HY.out HZ.out).setCell (by have := HB.out.size; exact this) _, TZ.out.step hlt HP.out HONE.out⟩
        case measure => simp [intOf]; omega
      · obtain rfl : k = n := by omega
        have J := Lib.hid (JC.out wr _ HI.out.2)
        go_wp2_with fail
        refine J.out.mono ?_; rintro _ w2 ⟨rfl, hb2⟩
        go_wp2
        go_ret2
        exact ⟨rfl, bnext HI.out.1 hb2⟩
end Go.Proofs.YtjbacbbbhedmlaaDoor.RP
