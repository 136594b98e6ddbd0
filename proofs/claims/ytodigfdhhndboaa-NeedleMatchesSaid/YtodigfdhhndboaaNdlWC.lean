/-
  The statements of layer 9, walked: whether a compiled pattern is found; whether a pattern is.
-/
import Derived.Test.YtodigfdhhndboaaNdlWA
import Derived.Test.YtodigfdhhndboaaNdlRM
import Derived.Test.YtodigfdhhndboaaNdlRef
set_option linter.unusedSimpArgs false
set_option linter.unusedVariables false
namespace Go.Proofs.Ytodigfdhhndboaa.NW
open Go Go.RowKit
theorem held_three {w w' : World} {b : Nat} {x0 x1 x2 : Value} (h : w.cell? ⟨b, 0, none⟩ = some x0 ∧ w.cell? ⟨b, 1, none⟩ = some x1 ∧ w.cell? ⟨b, 2, none⟩ = some x2) (hb : Below w.heap.size w w') : w'.cell? ⟨b, 0, none⟩ = some x0 ∧ w'.cell? ⟨b, 1, none⟩ = some x1 ∧ w'.cell? ⟨b, 2, none⟩ = some x2 :=
  ⟨cell_keep hb h.1, cell_keep hb h.2.1, cell_keep hb h.2.2⟩
set_option maxRecDepth 100000 in
set_option maxHeartbeats 4000000 in
theorem needleFinds_c (st fin : Bool) (u : Value) (is : List NI) (hok : ∀ i ∈ is, i.ok) (s : ByteArray) (w : World) (hu : ItOut w u is) :
    Calls Try.prog 4 #[.agg #[.bool st, .bool fin, u], .string s] w fun e w' => e = .returned (.bool true) ∧ Below w.heap.size w w' := by
  have HU := Lib.hid hu
  have HB0 := Lib.hid ((Below.refl _ w).alloc (Nat.le_refl _) (.cells #[.bool st, .bool fin, u] 29))
  obtain ⟨d, hd⟩ : ∃ d, ndFound ⟨st, fin, is⟩ (bs s) = d := ⟨_, rfl⟩
  have FC := Lib.hid (fun (hs : s.size ≤ 500) (hi : is.length ≤ 100) (W : World) (h : Below w.heap.size w W) => NP.found_c st fin u is s (by omega) (by omega) hok W (HU.out.below h))
  have RC := Lib.hid (fun (hs : s.size ≤ 500) (hi : is.length ≤ 100) (W : World) (h : Below w.heap.size w W) => NR.found_c st fin u is s (by omega) (by omega) hok W (HU.out.below h))
  rw [hd] at FC RC
  obtain ⟨A, cap, rfl, hcap, _⟩ := hu
  obtain ⟨n, hn⟩ : ∃ n, is.length = n := ⟨_, rfl⟩
  rw [hn] at FC RC HU HB0 hcap ⊢
  clear hd hn hok
  go_enter Try.func4, Try.ntmps4
  go_wp2_with fail
  refine (alive_c _).mono ?_; rintro _ w1 ⟨rfl, hb1⟩
  have HB1 := Lib.hid (bnext HB0.out hb1)
  have k0 : w1.cell? ⟨w.heap.size, 0, none⟩ = some (.bool st) := cell_keep hb1 (by simp)
  have k1 : w1.cell? ⟨w.heap.size, 1, none⟩ = some (.bool fin) := cell_keep hb1 (by simp)
  have k2 : w1.cell? ⟨w.heap.size, 2, none⟩ = some (.slice A n cap) := cell_keep hb1 (by simp)
  clear hb1
  by_cases hg : (500 : Int) < (s.size : Int)
  · have hgd : decide ((500 : Int) < (s.size : Int)) = true := decide_eq_true hg
    have GC := Lib.hid (fun W => great_c s W)
    rw [hgd] at GC
    go_wp2_with fail
    refine (GC.out _).mono ?_; rintro _ _ ⟨rfl, rfl⟩
    go_wp2
    go_ret
    exact ⟨rfl, HB1.out⟩
  · have hgd : decide ((500 : Int) < (s.size : Int)) = false := decide_eq_false hg
    have GC := Lib.hid (fun W => great_c s W)
    rw [hgd] at GC
    have FC2 := Lib.hid (fun hi W h => FC.out (by omega) hi W h)
    have RC2 := Lib.hid (fun hi W h => RC.out (by omega) hi W h)
    clear hgd hg
    by_cases hl : (100 : Int) < (n : Int)
    · go_wp2_with fail
      refine (GC.out _).mono ?_; rintro _ _ ⟨rfl, rfl⟩
      go_wp2
      go_ret
      exact ⟨rfl, HB1.out⟩
    · have FC3 := Lib.hid (FC2.out (by omega))
      have RC3 := Lib.hid (RC2.out (by omega))
      go_wp2_with fail
      refine (GC.out _).mono ?_; rintro _ _ ⟨rfl, rfl⟩
      go_wp2_with fail
      go_region_held3 (fun y => y.cell? ⟨w.heap.size, 0, none⟩ = some (.bool st) ∧ y.cell? ⟨w.heap.size, 1, none⟩ = some (.bool fin) ∧ y.cell? ⟨w.heap.size, 2, none⟩ = some (.slice A n cap))
        (first | go_keep | (refine held_three ?_ (by assumption); assumption))
        (first
          | (go_at_call 16; refine (FC3.out _ (HB1.out.drew)).mono ?_; rintro e w2 ⟨rfl, hb2⟩)
          | (go_at_call 17; refine (RC3.out _ (bnext HB1.out.drew hb2)).mono ?_; rintro e w3 ⟨rfl, hb3⟩))
      go_wp2
      go_ret
      exact ⟨rfl, bnext (bnext HB1.out.drew hb2) hb3⟩
set_option maxRecDepth 100000 in
set_option maxHeartbeats 4000000 in
theorem needleMatches_c (p s : ByteArray) (hp : p.size ≤ 9223372036854775807) (w : World) :
    Calls Try.prog 5 #[.string p, .string s] w fun e w' => e = .returned (.bool true) ∧ Below w.heap.size w w' := by
  obtain ⟨⟨d, er⟩, hd⟩ : ∃ d, ndMatch (bs p) (bs s) = d := ⟨_, rfl⟩
  have FC := Lib.hid (fun (hs : s.size ≤ 500) (W : World) => NP.match_c p s hp (by omega) W)
  have RC := Lib.hid (fun (hs : s.size ≤ 500) (W : World) => NR.match_c p s hp (by omega) W)
  rw [hd] at FC RC
  clear hd
  go_enter Try.func5, Try.ntmps5
  go_wp2_with fail
  refine (alive_c _).mono ?_; rintro _ w1 ⟨rfl, hb1⟩
  have HB1 := Lib.hid hb1
  clear hb1
  by_cases hg : (500 : Int) < (s.size : Int)
  · have hgd : decide ((500 : Int) < (s.size : Int)) = true := decide_eq_true hg
    have GC := Lib.hid (fun W => great_c s W)
    rw [hgd] at GC
    go_wp2_with fail
    refine (GC.out _).mono ?_; rintro _ _ ⟨rfl, rfl⟩
    go_wp2
    go_ret
    exact ⟨rfl, HB1.out⟩
  · have hgd : decide ((500 : Int) < (s.size : Int)) = false := decide_eq_false hg
    have GC := Lib.hid (fun W => great_c s W)
    rw [hgd] at GC
    have FC2 := Lib.hid (fun W => FC.out (by omega) W)
    have RC2 := Lib.hid (fun W => RC.out (by omega) W)
    clear hgd hg
    go_wp2_with fail
    refine (GC.out _).mono ?_; rintro _ _ ⟨rfl, rfl⟩
    go_wp2_with fail
    refine (FC2.out _).mono ?_; rintro _ w2 ⟨rfl, hb2⟩
    have HB2 := Lib.hid (bnext HB1.out hb2)
    clear hb2
    go_wp2_with fail
    refine (RC2.out _).mono ?_; rintro _ w3 ⟨rfl, hb3⟩
    have HB3 := Lib.hid (bnext HB2.out hb3)
    clear hb3
    go_wp2
    go_ret
    exact ⟨rfl, HB3.out⟩
end Go.Proofs.Ytodigfdhhndboaa.NW
