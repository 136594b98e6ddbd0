/-
  Contracts of the program's functions of layer 8: headEmpty, headRight, Right.
-/
import Derived.Test.YtabbpgnenmpacaaDoorSegPAM
import Derived.Test.YtabbpgnenmpacaaDoorSegRefEM
set_option linter.unusedSimpArgs false
set_option linter.unusedVariables false
namespace Go.Proofs.YtabbpgnenmpacaaDoor.SP
open Go.RowKit
open CR (below_next own_ge u8_wrap)
open SR (strB_size)
set_option maxRecDepth 100000 in
set_option maxHeartbeats 1000000 in
theorem headEmpty_c (v : Value) (r : PR) (hp : Bytes r.path) (w : World) (h : RcOut w v r) :
    Calls Tryd.prog 31 #[v] w fun e w' => e = .returned (.bool (hdNone r)) ∧ Below w.heap.size w w' := by
  obtain ⟨u, rfl, hro⟩ := h
  obtain ⟨A, c, rfl, _, _⟩ := id hro
  obtain ⟨d, hd⟩ : ∃ d, hdNone r = d := ⟨_, rfl⟩
  rw [hd]
  unfold hdNone at hd
  obtain ⟨k, p, m, f, l, g, t, nw, v0⟩ := r
  change Calls Tryd.prog 31 #[.agg #[.int .i64 k, .string (strB p), .int .i64 m, .int .i64 f, .slice A l.length c, .int .i64 g, .int .i64 t, .int .i64 nw, .int .i64 v0]] w _
  change (decide (p = []) && decide (m = 0) && decide (f = 0) && decide (l = [])) = d at hd
  have hss := strB_eq hp (b := []) (fun _ h => by cases h)
  change (((strB p).toList == ByteArray.toList ⟨#[]⟩) = decide (p = [])) at hss
  obtain ⟨s, hs⟩ : ∃ s, strB p = s := ⟨_, rfl⟩
  rw [hs] at hss ⊢
  obtain ⟨n, hn⟩ : ∃ n, l.length = n := ⟨_, rfl⟩
  rw [hn]
  have hl : decide (l = []) = decide ((n : Int) = 0) := by
    rw [decide_eq_decide]
    constructor
    · intro h; rw [h] at hn; simp at hn; omega
    · intro h; exact List.eq_nil_of_length_eq_zero (by omega)
  rw [hl] at hd
  clear hro hs hn hp hl
  by_cases h1 : p = []
  · rw [decide_eq_true h1] at hss hd
    have HDF := Lib.hid (show ¬ (m = 0 ∧ f = 0 ∧ (n : Int) = 0) → d = false from fun g => by
      rw [← hd, Bool.true_and, Bool.and_eq_false_iff, Bool.and_eq_false_iff, decide_eq_false_iff_not, decide_eq_false_iff_not, decide_eq_false_iff_not]
      omega)
    have HDT := Lib.hid (show (m = 0 ∧ f = 0 ∧ (n : Int) = 0) → d = true from fun g => by
      rw [← hd, decide_eq_true g.1, decide_eq_true g.2.1, decide_eq_true g.2.2]; rfl)
    have hE : s.toList = [] := by simpa using hss
    by_cases h4 : (n : Int) = 0
    · have hq : ((n : Int) == 0) = true := by rw [h4]; rfl
      have HDF2 := Lib.hid (show ¬ (m = 0 ∧ f = 0) → d = false from fun g => HDF.out (fun h => g ⟨h.1, h.2.1⟩))
      have HDT2 := Lib.hid (show (m = 0 ∧ f = 0) → d = true from fun g => HDT.out ⟨g.1, g.2, h4⟩)
      clear hd h1 hss HDF HDT h4
      go_enter Tryd.func31, Tryd.ntmps31
      go_wp2
      all_goals first
        | (have e := HDF2.out (by omega); subst e; go_ret; exact ⟨rfl, (Below.refl _ _).alloc (Nat.le_refl _) _⟩)
        | (have e := HDT2.out (by omega); subst e; go_ret; exact ⟨rfl, (Below.refl _ _).alloc (Nat.le_refl _) _⟩)
    · have hq : ((n : Int) == 0) = false := beq_false_of_ne h4
      have e := HDF.out (fun g => h4 g.2.2)
      subst e
      clear hd h1 hss HDF HDT h4
      go_enter Tryd.func31, Tryd.ntmps31
      go_wp2
      all_goals (go_ret; exact ⟨rfl, (Below.refl _ _).alloc (Nat.le_refl _) _⟩)
  · rw [decide_eq_false h1] at hss hd
    have hE : ¬ s.toList = [] := by simpa using hss
    have hE2 : s.toList.isEmpty = false := by simpa using hE
    have e : d = false := by rw [← hd]; rfl
    subst e
    clear hd h1 hss
    go_enter Tryd.func31, Tryd.ntmps31
    go_wp2
    go_ret
    exact ⟨rfl, (Below.refl _ _).alloc (Nat.le_refl _) _⟩
set_option maxRecDepth 100000 in
set_option maxHeartbeats 4000000 in
theorem headRight_c (v : Value) (r : PR) (hlen : r.rungs.length ≤ 100000) (w : World) (h : RcOut w v r) :
    Calls Tryd.prog 28 #[v] w fun e w' => e = .returned (.bool (hdOk r.path r.method r.factor r.rungs)) ∧ Below w.heap.size w w' := by
  obtain ⟨u, rfl, hro⟩ := h
  obtain ⟨A, c, rfl, hc, hx⟩ := id hro
  obtain ⟨d, hd⟩ : ∃ d, hdOk r.path r.method r.factor r.rungs = d := ⟨_, rfl⟩
  rw [hd]
  obtain ⟨k, p, m, f, l, g, t, nw, v0⟩ := r
  change Calls Tryd.prog 28 #[.agg #[.int .i64 k, .string (strB p), .int .i64 m, .int .i64 f, .slice A l.length c, .int .i64 g, .int .i64 t, .int .i64 nw, .int .i64 v0]] w _
  change hdOk p m f l = d at hd
  change l.length ≤ c at hc
  change l.length ≤ 100000 at hlen
  change (l ≠ [] → ∃ b off, A = some ⟨b, off, none⟩ ∧ RgAt w b off l) at hx
  have hsz := strB_size p
  obtain ⟨s, hs⟩ : ∃ s, strB p = s := ⟨_, rfl⟩
  rw [hs] at hsz ⊢
  obtain ⟨n, hn⟩ : ∃ n, l.length = n := ⟨_, rfl⟩
  obtain ⟨N, hN⟩ : ∃ N, p.length = N := ⟨_, rfl⟩
  rw [hn] at hc hlen ⊢
  rw [hN] at hsz
  have HDF := Lib.hid (show ¬ ((1 ≤ (N : Int) ∧ (N : Int) ≤ 263) ∧ (1 ≤ m ∧ m ≤ 5) ∧ (0 ≤ f ∧ f ≤ 1000000) ∧ 1 ≤ (n : Int) ∧ (n : Int) ≤ 4) → d = false from fun g => by
    rw [← hd, Bool.eq_false_iff]
    intro h2
    obtain ⟨e1, e2, e3, _, e4, e5⟩ := hd_bounds h2
    exact g ⟨by omega, e2, e3, by omega, by omega⟩)
  have HDT := Lib.hid (show ((1 ≤ (N : Int) ∧ (N : Int) ≤ 263) ∧ (1 ≤ m ∧ m ≤ 5) ∧ (0 ≤ f ∧ f ≤ 1000000) ∧ 1 ≤ (n : Int) ∧ (n : Int) ≤ 4) → (∀ (j : Nat) (g : Int × Int), j < n → l[j]? = some g → rgOk g = true) → d = true from fun h ha => by
    have hall : l.all rgOk = true := by
      rw [List.all_eq_true]
      intro g hg
      obtain ⟨j, hj⟩ := List.getElem?_of_mem hg
      exact ha j g (by rw [← hn]; exact (List.getElem?_eq_some_iff.1 hj).1) hj
    rw [← hd]
    unfold hdOk rgsOk
    rw [hall, decide_eq_true (show 1 ≤ p.length ∧ p.length ≤ 263 by omega), decide_eq_true h.2.1, decide_eq_true h.2.2.1, decide_eq_true (show 1 ≤ l.length ∧ l.length ≤ 4 by omega)]
    rfl)
  have HDG := Lib.hid (show ∀ (j : Nat) (g : Int × Int), l[j]? = some g → rgOk g = false → d = false from fun j g hj hg => by
    rw [← hd, Bool.eq_false_iff]
    intro h2
    obtain ⟨_, _, _, e4, _⟩ := hd_bounds h2
    have := e4 g (List.mem_of_getElem? hj)
    unfold rgOk at hg
    rw [decide_eq_true this] at hg
    cases hg)
  have HX := Lib.hid hx; have HL := Lib.hid hn
  clear hro hs hn hN hx hd
  by_cases h1 : 1 ≤ (N : Int)
  case neg =>
    have e := HDF.out (fun g => h1 (by omega))
    subst e
    clear HDF HL HX HDT HDG
    go_enter Tryd.func28, Tryd.ntmps28
    go_wp2
    go_ret
    exact ⟨rfl, (Below.refl _ _).alloc (Nat.le_refl _) _⟩
  by_cases h2 : (N : Int) ≤ 263
  case neg =>
    have e := HDF.out (fun g => h2 (by omega))
    subst e
    clear HDF HL HX HDT HDG
    go_enter Tryd.func28, Tryd.ntmps28
    go_wp2
    go_ret
    exact ⟨rfl, (Below.refl _ _).alloc (Nat.le_refl _) _⟩
  by_cases h3 : 1 ≤ m
  case neg =>
    have e := HDF.out (fun g => h3 (by omega))
    subst e
    clear HDF HL HX HDT HDG
    go_enter Tryd.func28, Tryd.ntmps28
    go_wp2
    go_ret
    exact ⟨rfl, (Below.refl _ _).alloc (Nat.le_refl _) _⟩
  by_cases h4 : m ≤ 5
  case neg =>
    have e := HDF.out (fun g => h4 (by omega))
    subst e
    clear HDF HL HX HDT HDG
    go_enter Tryd.func28, Tryd.ntmps28
    go_wp2
    go_ret
    exact ⟨rfl, (Below.refl _ _).alloc (Nat.le_refl _) _⟩
  by_cases h5 : 0 ≤ f
  case neg =>
    have e := HDF.out (fun g => h5 (by omega))
    subst e
    clear HDF HL HX HDT HDG
    go_enter Tryd.func28, Tryd.ntmps28
    go_wp2
    go_ret
    exact ⟨rfl, (Below.refl _ _).alloc (Nat.le_refl _) _⟩
  by_cases h6 : f ≤ 1000000
  case neg =>
    have e := HDF.out (fun g => h6 (by omega))
    subst e
    clear HDF HL HX HDT HDG
    go_enter Tryd.func28, Tryd.ntmps28
    go_wp2
    go_ret
    exact ⟨rfl, (Below.refl _ _).alloc (Nat.le_refl _) _⟩
  by_cases h7 : 1 ≤ (n : Int)
  case neg =>
    have e := HDF.out (fun g => h7 (by omega))
    subst e
    clear HDF HL HX HDT HDG
    go_enter Tryd.func28, Tryd.ntmps28
    go_wp2
    go_ret
    exact ⟨rfl, (Below.refl _ _).alloc (Nat.le_refl _) _⟩
  by_cases h8 : (n : Int) ≤ 4
  case neg =>
    have e := HDF.out (fun g => h8 (by omega))
    subst e
    clear HDF HL HX HDT HDG
    go_enter Tryd.func28, Tryd.ntmps28
    go_wp2
    go_ret
    exact ⟨rfl, (Below.refl _ _).alloc (Nat.le_refl _) _⟩
  have HALL := Lib.hid (HDT.out ⟨⟨h1, h2⟩, ⟨h3, h4⟩, ⟨h5, h6⟩, h7, h8⟩)
  clear HDF HDT
  go_enter Tryd.func28, Tryd.ntmps28
  go_wp2
  go_loopw [4, 48] (fun _ i wr => ∃ k : Nat, k ≤ n ∧ i = .int .i64 k ∧ Hid ((∀ (j : Nat) (g : Int × Int), j < k → l[j]? = some g → rgOk g = true) ∧ Below w.heap.size w wr)) (fun _ i _ => n - (intOf i).toNat)
  case atStart => exact ⟨0, Nat.zero_le _, rfl, fun j g h => absurd h (Nat.not_lt_zero _), (Below.refl _ _).alloc (Nat.le_refl _) _⟩
  case round =>
    obtain ⟨q, hq, rfl, HI⟩ := hrel
    by_cases hlt : q < n
    · have hkl : q < l.length := by rw [HL.out]; exact hlt
      obtain ⟨b, off, rfl, ha⟩ := HX.out (by intro e; rw [e] at hkl; exact absurd hkl (Nat.not_lt_zero _))
      have hp0 := List.getElem?_eq_getElem hkl
      obtain ⟨c0, c1⟩ := (ha.below HI.out.2) q _ hp0
      have hbad := HDG.out q _ hp0
      have hok : rgOk l[q] = true → ∀ (j : Nat) (g : Int × Int), j < q + 1 → l[j]? = some g → rgOk g = true := fun hb j g h1 h2 => by
        rcases Nat.lt_or_ge j q with h | h
        · exact HI.out.1 j g h h2
        · obtain rfl : j = q := by omega
          rw [hp0] at h2
          obtain rfl := Option.some.inj h2
          exact hb
      have hrg : rgOk l[q] = decide (1 ≤ (l[q]).1 ∧ (l[q]).1 ≤ 86400 ∧ 1 ≤ (l[q]).2 ∧ (l[q]).2 ≤ 400) := rfl
      rw [hrg] at hbad hok
      generalize (l[q]).1 = x at *
      generalize (l[q]).2 = y at *
      have BAD := Lib.hid hbad; have OK := Lib.hid hok; have BR := Lib.hid HI.out.2
      clear hbad hok hrg hp0 ha hkl HI
      by_cases g1 : 1 ≤ x
      case neg =>
        have e := BAD.out (decide_eq_false (fun g => g1 g.1))
        subst e
        go_wp2
        go_ret
        exact ⟨rfl, (BR.out.alloc BR.out.size _)⟩
      by_cases g2 : x ≤ 86400
      case neg =>
        have e := BAD.out (decide_eq_false (fun g => g2 g.2.1))
        subst e
        go_wp2
        go_ret
        exact ⟨rfl, (BR.out.alloc BR.out.size _)⟩
      by_cases g3 : 1 ≤ y
      case neg =>
        have e := BAD.out (decide_eq_false (fun g => g3 g.2.2.1))
        subst e
        go_wp2
        go_ret
        exact ⟨rfl, (BR.out.alloc BR.out.size _)⟩
      by_cases g4 : y ≤ 400
      case neg =>
        have e := BAD.out (decide_eq_false (fun g => g4 g.2.2.2))
        subst e
        go_wp2
        go_ret
        exact ⟨rfl, (BR.out.alloc BR.out.size _)⟩
      have GO := Lib.hid (OK.out (decide_eq_true ⟨g1, g2, g3, g4⟩))
      go_wp2
      go_roundw
      case rel => exact ⟨q + 1, by omega, by go_num, GO.out, (BR.out.alloc BR.out.size _)⟩
      case measure => simp [intOf]; omega
    · obtain rfl : q = n := by omega
      have e := HALL.out HI.out.1
      subst e
      have BR := Lib.hid HI.out.2
      clear HI
      go_wp2
      go_ret
      exact ⟨rfl, BR.out⟩
end Go.Proofs.YtabbpgnenmpacaaDoor.SP
/-
  Contracts of the program's functions of layer 8: Right.
-/
set_option linter.unusedSimpArgs false
set_option linter.unusedVariables false
namespace Go.Proofs.YtabbpgnenmpacaaDoor.SP
open Go.RowKit
open CR (below_next own_ge u8_wrap)
open SR (strB_size)
theorem right_one_is (p : List Nat) (m f : Int) (l : List (Int × Int)) (g t nw v : Int) : rRight ⟨1, p, m, f, l, g, t, nw, v⟩ = (hdOk p m f l && decide (g = 0 ∧ t = 0 ∧ nw = 0 ∧ v = 0)) := by
  show (decide ((⟨1, p, m, f, l, g, t, nw, v⟩ : PR) = ⟨1, p, m, f, l, 0, 0, 0, 0⟩) && hdOk p m f l) = _
  rw [Bool.and_comm]
  congr 1
  rw [decide_eq_decide]
  simp only [PR.mk.injEq, true_and]
theorem right_two_is (p : List Nat) (m f : Int) (l : List (Int × Int)) (g t nw v : Int) : rRight ⟨2, p, m, f, l, g, t, nw, v⟩ = (tmOk t && tmOk nw && decide (v ≠ -9223372036854775808) && hdNone ⟨2, p, m, f, l, g, t, nw, v⟩ && decide (g = 0)) := by
  show (decide ((⟨2, p, m, f, l, g, t, nw, v⟩ : PR) = ⟨2, [], 0, 0, [], 0, t, nw, v⟩) && (tmOk t && tmOk nw && decide (v ≠ -9223372036854775808))) = _
  have e : decide ((⟨2, p, m, f, l, g, t, nw, v⟩ : PR) = ⟨2, [], 0, 0, [], 0, t, nw, v⟩) = (hdNone ⟨2, p, m, f, l, g, t, nw, v⟩ && decide (g = 0)) := by
    unfold hdNone
    rw [Bool.eq_iff_iff]
    simp only [PR.mk.injEq, true_and, and_true, Bool.and_eq_true, decide_eq_true_eq]
    constructor
    · rintro ⟨a, b, c, d, e⟩; exact ⟨⟨⟨⟨a, b⟩, c⟩, d⟩, e⟩
    · rintro ⟨⟨⟨⟨a, b⟩, c⟩, d⟩, e⟩; exact ⟨a, b, c, d, e⟩
  rw [e]
  cases tmOk t <;> cases tmOk nw <;> cases decide (v ≠ -9223372036854775808) <;> simp
theorem right_three_is (p : List Nat) (m f : Int) (l : List (Int × Int)) (g t nw v : Int) : rRight ⟨3, p, m, f, l, g, t, nw, v⟩ = (decide (0 ≤ g ∧ g ≤ 3) && tmOk t && decide (v ≠ -9223372036854775808) && hdNone ⟨3, p, m, f, l, g, t, nw, v⟩ && decide (nw = 0)) := by
  show (decide ((⟨3, p, m, f, l, g, t, nw, v⟩ : PR) = ⟨3, [], 0, 0, [], g, t, 0, v⟩) && (decide (0 ≤ g ∧ g ≤ 3) && tmOk t && decide (v ≠ -9223372036854775808))) = _
  have e : decide ((⟨3, p, m, f, l, g, t, nw, v⟩ : PR) = ⟨3, [], 0, 0, [], g, t, 0, v⟩) = (hdNone ⟨3, p, m, f, l, g, t, nw, v⟩ && decide (nw = 0)) := by
    unfold hdNone
    rw [Bool.eq_iff_iff]
    simp only [PR.mk.injEq, true_and, and_true, Bool.and_eq_true, decide_eq_true_eq]
    constructor
    · rintro ⟨a, b, c, d, e⟩; exact ⟨⟨⟨⟨a, b⟩, c⟩, d⟩, e⟩
    · rintro ⟨⟨⟨⟨a, b⟩, c⟩, d⟩, e⟩; exact ⟨a, b, c, d, e⟩
  rw [e]
  cases tmOk t <;> cases decide (0 ≤ g ∧ g ≤ 3) <;> cases decide (v ≠ -9223372036854775808) <;> simp
set_option maxRecDepth 100000 in
set_option maxHeartbeats 4000000 in
theorem right_c (v : Value) (r : PR) (hp : Bytes r.path) (hl : r.rungs.length ≤ 100000) (w : World) (h : RcOut w v r) :
    Calls Tryd.prog 12 #[v] w fun e w' => e = .returned (.bool (rRight r)) ∧ Below w.heap.size w w' := by
  obtain ⟨u, rfl, hro⟩ := h
  obtain ⟨A, c, rfl, _, _⟩ := id hro
  have HR0 := fun (W : World) (hB : Below w.heap.size w W) => headRight_c (.agg (rcC (.slice A r.rungs.length c) r).toArray) r hl W ⟨_, rfl, hro.below hB⟩
  have HE0 := fun (W : World) (hB : Below w.heap.size w W) => headEmpty_c (.agg (rcC (.slice A r.rungs.length c) r).toArray) r hp W ⟨_, rfl, hro.below hB⟩
  obtain ⟨d, hd⟩ : ∃ d, rRight r = d := ⟨_, rfl⟩
  rw [hd]
  obtain ⟨k, p, m, f, l, g, t, nw, v0⟩ := r
  obtain ⟨hk, hhk⟩ : ∃ x, hdOk p m f l = x := ⟨_, rfl⟩
  obtain ⟨he, hhe⟩ : ∃ x, hdNone ⟨k, p, m, f, l, g, t, nw, v0⟩ = x := ⟨_, rfl⟩
  change ∀ (W : World), Below w.heap.size w W → Calls Tryd.prog 28 #[.agg #[.int .i64 k, .string (strB p), .int .i64 m, .int .i64 f, .slice A l.length c, .int .i64 g, .int .i64 t, .int .i64 nw, .int .i64 v0]] W fun e w' => e = .returned (.bool (hdOk p m f l)) ∧ Below W.heap.size W w' at HR0
  change ∀ (W : World), Below w.heap.size w W → Calls Tryd.prog 31 #[.agg #[.int .i64 k, .string (strB p), .int .i64 m, .int .i64 f, .slice A l.length c, .int .i64 g, .int .i64 t, .int .i64 nw, .int .i64 v0]] W fun e w' => e = .returned (.bool (hdNone ⟨k, p, m, f, l, g, t, nw, v0⟩)) ∧ Below W.heap.size W w' at HE0
  change Calls Tryd.prog 12 #[.agg #[.int .i64 k, .string (strB p), .int .i64 m, .int .i64 f, .slice A l.length c, .int .i64 g, .int .i64 t, .int .i64 nw, .int .i64 v0]] w _
  have hd1 := right_one_is p m f l g t nw v0
  have hd2 := right_two_is p m f l g t nw v0
  have hd3 := right_three_is p m f l g t nw v0
  rw [hhk] at HR0 hd1
  rw [hhe] at HE0
  obtain ⟨s, hs⟩ : ∃ s, strB p = s := ⟨_, rfl⟩
  obtain ⟨n, hn⟩ : ∃ n, l.length = n := ⟨_, rfl⟩
  rw [hs, hn] at HR0 HE0 ⊢
  have HR := Lib.hid HR0; have HE := Lib.hid HE0
  have HH := Lib.hid (holds_alloc w [.int .i64 k, .string s, .int .i64 m, .int .i64 f, .slice A n c, .int .i64 g, .int .i64 t, .int .i64 nw, .int .i64 v0] 24)
  have TM := Lib.hid (fun (x : Int) (W : World) => timeRight_c x W)
  have VR := Lib.hid (fun (W : World) => valueRight_c v0 W)
  by_cases k1 : k = 1
  · subst k1
    rw [hd] at hd1
    have HDF := Lib.hid (show ¬ (hk = true ∧ g = 0 ∧ t = 0 ∧ nw = 0 ∧ v0 = 0) → d = false from fun h => by
      rw [hd1, Bool.and_eq_false_iff, decide_eq_false_iff_not]
      cases hk with
      | false => exact Or.inl rfl
      | true => exact Or.inr (fun h2 => h ⟨rfl, h2⟩))
    have HDT := Lib.hid (show (hk = true ∧ g = 0 ∧ t = 0 ∧ nw = 0 ∧ v0 = 0) → d = true from fun h => by rw [hd1, h.1, decide_eq_true h.2]; rfl)
    clear HR0 HE0 hro hd hd1 hd2 hd3 hs hn hhk hhe hp hl TM VR HE
    cases hk with
    | false =>
      have e := HDF.out (fun h => by cases h.1)
      subst e
      clear HDF HDT
      go_enter Tryd.func12, Tryd.ntmps12
      go_wp2_with fail
      refine (HR.out _ ((Below.refl _ _).alloc (Nat.le_refl _) _)).mono ?_; rintro _ w1 ⟨rfl, hb1⟩
      have B1 := Lib.hid (show Below w.heap.size w w1 from Below.trans ((Below.refl _ _).alloc (Nat.le_refl _) _) (hb1.mono (by simp)))
      clear hb1
      go_wp2
      go_ret
      exact ⟨rfl, B1.out⟩
    | true =>
      go_enter Tryd.func12, Tryd.ntmps12
      go_wp2_with fail
      refine (HR.out _ ((Below.refl _ _).alloc (Nat.le_refl _) _)).mono ?_; rintro _ w1 ⟨rfl, hb1⟩
      obtain ⟨r0, r1, r2, r3, r4, r5, r6, r7, r8⟩ := (HH.out.below hb1 : Holds w1 w.heap.size _).nine
      have B1 := Lib.hid (show Below w.heap.size w w1 from Below.trans ((Below.refl _ _).alloc (Nat.le_refl _) _) (hb1.mono (by simp)))
      clear hb1
      by_cases hv : v0 = 0
      · have hq : (v0 == 0) = true := by rw [hv]; rfl
        go_wp2
        all_goals first
          | (have e := HDF.out (by omega); subst e; go_ret; exact ⟨rfl, B1.out⟩)
          | (have e := HDT.out ⟨by simp, by omega, by omega, by omega, by omega⟩; subst e; go_ret; exact ⟨rfl, B1.out⟩)
      · have hq : (v0 == 0) = false := beq_false_of_ne hv
        have e := HDF.out (fun h => hv h.2.2.2.2)
        subst e
        go_wp2
        all_goals (go_ret; exact ⟨rfl, B1.out⟩)
  · by_cases k2 : k = 2
    case pos =>
      subst k2
      rw [hhe] at hd2
      rw [hd] at hd2
      obtain ⟨a, ha⟩ : ∃ x, tmOk t = x := ⟨_, rfl⟩
      obtain ⟨b, hb⟩ : ∃ x, tmOk nw = x := ⟨_, rfl⟩
      obtain ⟨cc, hcc⟩ : ∃ x, decide (v0 ≠ -9223372036854775808) = x := ⟨_, rfl⟩
      have TT := Lib.hid (fun (W : World) => TM.out t W)
      have TN := Lib.hid (fun (W : World) => TM.out nw W)
      rw [ha] at TT hd2
      rw [hb] at TN hd2
      rw [hcc] at VR hd2
      have HDF := Lib.hid (show ¬ (a = true ∧ b = true ∧ cc = true ∧ he = true ∧ g = 0) → d = false from fun h => by
        rw [hd2]
        cases a <;> cases b <;> cases cc <;> cases he <;> simp at h ⊢
        exact h)
      have HDT := Lib.hid (show (a = true ∧ b = true ∧ cc = true ∧ he = true ∧ g = 0) → d = true from fun h => by rw [hd2, h.1, h.2.1, h.2.2.1, h.2.2.2.1, decide_eq_true h.2.2.2.2]; rfl)
      clear HR0 HE0 hro hd hd1 hd2 hd3 hs hn hhk hhe hp hl TM HR ha hb hcc k1
      go_enter Tryd.func12, Tryd.ntmps12
      go_wp2_with fail
      refine (TT.out _).mono ?_; rintro _ w1 ⟨rfl, rfl⟩
      cases a with
      | false =>
        have e := HDF.out (by simp)
        subst e
        clear HDF HDT
        go_wp2
        go_ret
        exact ⟨rfl, ((Below.refl _ _).alloc (Nat.le_refl _) _)⟩
      | true =>
        go_wp2_with fail
        refine (TN.out _).mono ?_; rintro _ w1 ⟨rfl, rfl⟩
        cases b with
        | false =>
          have e := HDF.out (by simp)
          subst e
          clear HDF HDT
          go_wp2
          go_ret
          exact ⟨rfl, ((Below.refl _ _).alloc (Nat.le_refl _) _)⟩
        | true =>
          go_wp2_with fail
          refine (VR.out _).mono ?_; rintro _ w1 ⟨rfl, rfl⟩
          cases cc with
          | false =>
            have e := HDF.out (by simp)
            subst e
            clear HDF HDT
            go_wp2
            go_ret
            exact ⟨rfl, ((Below.refl _ _).alloc (Nat.le_refl _) _)⟩
          | true =>
            go_wp2_with fail
            refine (HE.out _ ((Below.refl _ _).alloc (Nat.le_refl _) _)).mono ?_; rintro _ w1 ⟨rfl, hb1⟩
            obtain ⟨r0, r1, r2, r3, r4, r5, r6, r7, r8⟩ := (HH.out.below hb1 : Holds w1 w.heap.size _).nine
            have B1 := Lib.hid (show Below w.heap.size w w1 from Below.trans ((Below.refl _ _).alloc (Nat.le_refl _) _) (hb1.mono (by simp)))
            clear hb1
            cases he with
            | false =>
              have e := HDF.out (by simp)
              subst e
              clear HDF HDT
              go_wp2
              go_ret
              exact ⟨rfl, B1.out⟩
            | true =>
              by_cases hg : g = 0
              · have hq : (g == 0) = true := by rw [hg]; rfl
                have e := HDT.out ⟨by simp, by simp, by simp, by simp, hg⟩
                subst e
                clear HDF HDT hg
                go_wp2
                go_ret
                exact ⟨rfl, B1.out⟩
              · have hq : (g == 0) = false := beq_false_of_ne hg
                have e := HDF.out (fun h => hg h.2.2.2.2)
                subst e
                clear HDF HDT
                go_wp2
                go_ret
                exact ⟨rfl, B1.out⟩
    · by_cases k3 : k = 3
      case pos =>
        subst k3
        rw [hhe] at hd3
        rw [hd] at hd3
        obtain ⟨a, ha⟩ : ∃ x, tmOk t = x := ⟨_, rfl⟩
        obtain ⟨cc, hcc⟩ : ∃ x, decide (v0 ≠ -9223372036854775808) = x := ⟨_, rfl⟩
        have TT := Lib.hid (fun (W : World) => TM.out t W)
        rw [ha] at TT hd3
        rw [hcc] at VR hd3
        have HDF := Lib.hid (show ¬ ((0 ≤ g ∧ g ≤ 3) ∧ a = true ∧ cc = true ∧ he = true ∧ nw = 0) → d = false from fun h => by
          rw [hd3]
          by_cases hg : 0 ≤ g ∧ g ≤ 3
          · cases a <;> cases cc <;> cases he <;> simp [hg] at h ⊢
            exact h
          · rw [decide_eq_false hg]; rfl)
        have HDT := Lib.hid (show ((0 ≤ g ∧ g ≤ 3) ∧ a = true ∧ cc = true ∧ he = true ∧ nw = 0) → d = true from fun h => by rw [hd3, decide_eq_true h.1, h.2.1, h.2.2.1, h.2.2.2.1, decide_eq_true h.2.2.2.2]; rfl)
        clear HR0 HE0 hro hd hd1 hd2 hd3 hs hn hhk hhe hp hl TM HR ha hcc k1 k2
        by_cases g1 : 0 ≤ g
        case neg =>
          have e := HDF.out (fun h => g1 h.1.1)
          subst e
          clear HDF HDT
          go_enter Tryd.func12, Tryd.ntmps12
          go_wp2
          go_ret
          exact ⟨rfl, ((Below.refl _ _).alloc (Nat.le_refl _) _)⟩
        by_cases g2 : g ≤ 3
        case neg =>
          have e := HDF.out (fun h => g2 h.1.2)
          subst e
          clear HDF HDT
          go_enter Tryd.func12, Tryd.ntmps12
          go_wp2
          go_ret
          exact ⟨rfl, ((Below.refl _ _).alloc (Nat.le_refl _) _)⟩
        have g3 : g < 4 := by omega
        go_enter Tryd.func12, Tryd.ntmps12
        go_wp2_with fail
        refine (TT.out _).mono ?_; rintro _ w1 ⟨rfl, rfl⟩
        cases a with
        | false =>
          have e := HDF.out (by simp)
          subst e
          clear HDF HDT
          go_wp2
          go_ret
          exact ⟨rfl, ((Below.refl _ _).alloc (Nat.le_refl _) _)⟩
        | true =>
          go_wp2_with fail
          refine (VR.out _).mono ?_; rintro _ w1 ⟨rfl, rfl⟩
          cases cc with
          | false =>
            have e := HDF.out (by simp)
            subst e
            clear HDF HDT
            go_wp2
            go_ret
            exact ⟨rfl, ((Below.refl _ _).alloc (Nat.le_refl _) _)⟩
          | true =>
            go_wp2_with fail
            refine (HE.out _ ((Below.refl _ _).alloc (Nat.le_refl _) _)).mono ?_; rintro _ w1 ⟨rfl, hb1⟩
            obtain ⟨r0, r1, r2, r3, r4, r5, r6, r7, r8⟩ := (HH.out.below hb1 : Holds w1 w.heap.size _).nine
            have B1 := Lib.hid (show Below w.heap.size w w1 from Below.trans ((Below.refl _ _).alloc (Nat.le_refl _) _) (hb1.mono (by simp)))
            clear hb1
            cases he with
            | false =>
              have e := HDF.out (by simp)
              subst e
              clear HDF HDT
              go_wp2
              go_ret
              exact ⟨rfl, B1.out⟩
            | true =>
              by_cases hg : nw = 0
              · have hq : (nw == 0) = true := by rw [hg]; rfl
                have e := HDT.out ⟨⟨g1, g2⟩, by simp, by simp, by simp, hg⟩
                subst e
                clear HDF HDT hg
                go_wp2
                go_ret
                exact ⟨rfl, B1.out⟩
              · have hq : (nw == 0) = false := beq_false_of_ne hg
                have e := HDF.out (fun h => hg h.2.2.2.2)
                subst e
                clear HDF HDT
                go_wp2
                go_ret
                exact ⟨rfl, B1.out⟩
      · have e : d = false := by
          rw [← hd]
          unfold rRight
          rw [if_neg k1, if_neg k2, if_neg k3]
        subst e
        clear HR0 HE0 hro hd hd1 hd2 hd3 hs hn hhk hhe hp hl TM VR HE HR HH
        go_enter Tryd.func12, Tryd.ntmps12
        go_wp2
        go_ret
        exact ⟨rfl, (Below.refl _ _).alloc (Nat.le_refl _) _⟩
end Go.Proofs.YtabbpgnenmpacaaDoor.SP
