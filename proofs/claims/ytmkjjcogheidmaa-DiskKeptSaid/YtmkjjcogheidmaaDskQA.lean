/-
  IndexFunc and DeleteFunc at files, by whether a number is in a set.
-/
import Derived.Test.YtmkjjcogheidmaaDskOD
import Derived.Test.YtmkjjcogheidmaaDskPP
set_option linter.unusedSimpArgs false
set_option linter.unusedVariables false
namespace Go.Proofs.Ytmkjjcogheidmaa.DP
open Go.RowKit
theorem eg_led : ∀ args w, (callFunc 48 args).run Try.prog w = .ok (.enter 48 args) w := enters_of Try.func48 (by kernel_rfl) rfl
set_option maxRecDepth 100000 in
set_option maxHeartbeats 2000000 in
theorem led_c {w : World} {b vb i : Nat} {u : Value} {s : Int} {ids : List Nat} (hm : Met w b ids) (hv : w.cell? ⟨vb, 0, none⟩ = some (.map (some b))) (hid : i ≤ 1099511627776) :
    Calls Try.prog 48 #[.agg #[.int .i64 (i : Nat), u, .int .i64 s], .pointer (some ⟨vb, 0, none⟩)] w fun e w' => e = .returned (.bool (!decide (i ∈ ids))) ∧ Below w.heap.size w w' := by
  have hlk := (hm.below (alloc_below w (.cells #[.int .i64 (i : Nat), u, .int .i64 s] 58))).look (idOk_of hid)
  have hvl : vb < w.heap.size := World.block_lt_of_cell? w _ hv
  generalize decide (i ∈ ids) = r at hlk ⊢
  clear hm
  go_enter Try.func48, Try.ntmps48
  go_wp2
  go_ret
  exact ⟨rfl, bnext (alloc_below _ _) (alloc_below _ _)⟩
/-- The three cells of a file in a row of one's own. -/
theorem own_file {w : World} {base : Nat} {e : TypeId} {n c : Nat} {A : Option Addr} {P : List (PF × Value)} (h : w.ownsRow base e 3 (.slice A n c) n (P.flatMap cF)) {k : Nat} {f : PF} {u : Value} (hp : P[k]? = some (f, u)) : ∃ g, A = some ⟨g, 0, none⟩ ∧ g < w.heap.size ∧ w.cell? ⟨g, k * 3, none⟩ = some (.int .i64 (f.id : Nat)) ∧ w.cell? ⟨g, k * 3 + 1, none⟩ = some u ∧ w.cell? ⟨g, k * 3 + 2, none⟩ = some (.int .i64 (f.sure : Nat)) ∧ ∀ j, w.frozen? ⟨g, j, none⟩ = false := by
  have r0 := flat_at cF 3 (fun _ => rfl) _ k _ hp 0 (by decide)
  have r1 := flat_at cF 3 (fun _ => rfl) _ k _ hp 1 (by decide)
  have r2 := flat_at cF 3 (fun _ => rfl) _ k _ hp 2 (by decide)
  obtain ⟨g, hA0, _, hg2, k0, _⟩ := own_nth h r0
  obtain ⟨g', e', _, _, k1, _⟩ := own_nth h r1
  obtain rfl : g = g' := by rw [hA0] at e'; injection e' with e'; injection e'
  obtain ⟨g', e'', _, _, k2, _⟩ := own_nth h r2
  obtain rfl : g = g' := by rw [hA0] at e''; injection e'' with e''; injection e''
  refine ⟨g, hA0, hg2, k0, k1, k2, fun j => ?_⟩
  subst hA0
  exact h.frozenAt j
def keepF (ids : List Nat) (p : PF × Value) : Bool := decide (p.1.id ∈ ids)
set_option maxRecDepth 100000 in
set_option maxHeartbeats 4000000 in
theorem indexNone_c {w : World} {base b vb n c : Nat} {A : Option Addr} {P : List (PF × Value)} {ids : List Nat} (hown : w.ownsRow base 58 3 (.slice A n c) n (P.flatMap cF)) (hm : Met w b ids) (hv : w.cell? ⟨vb, 0, none⟩ = some (.map (some b))) (hP : P.length = n) (hn : n ≤ 1000) (hids : ∀ p ∈ P, p.1.id ≤ 1099511627776 ∧ p.2.oneCell' = true)
    (hall : ∀ p ∈ P, keepF ids p = true) :
    Calls Try.prog 57 #[.slice A n c, .func (.func 48) #[] #[.pointer (some ⟨vb, 0, none⟩)]] w fun e w' => e = .returned (.int .i64 (-1)) ∧ Below w.heap.size w w' := by
  have eg := eg_led
  have HL := Lib.hid (fun (W : World) (hb : Below w.heap.size w W) (i : Nat) (u : Value) (s : Int) (hi : i ≤ 1099511627776) => led_c (i := i) (u := u) (s := s) (hm.below hb) (cell_below hb hv) hi)
  have HO := Lib.hid hown; have HI := Lib.hid hids; have HA := Lib.hid hall; have HP := Lib.hid hP
  clear hown hm hv hids hall hP
  go_enter Try.func57, Try.ntmps57
  go_wp2
  go_loopw [5, 8] (fun _ s8 wr => ∃ k : Nat, k ≤ n ∧ s8 = .int .i64 k ∧ Hid (Below w.heap.size w wr)) (fun _ s8 _ => n - (intOf s8).toNat)
  case atStart => exact ⟨0, Nat.zero_le _, rfl, Below.refl _ _⟩
  case round =>
    obtain ⟨k, hk, rfl, HB⟩ := hrel
    by_cases hlt : k < n
    · obtain ⟨p, hp⟩ : ∃ p, P[k]? = some p := ⟨_, List.getElem?_eq_getElem (by rw [HP.out]; exact hlt)⟩
      obtain ⟨f, u⟩ := p
      obtain ⟨g, rfl, hg, k0, k1, k2, _⟩ := own_file (own_below HO.out HB.out) hp
      have hpm := List.mem_of_getElem? hp
      obtain ⟨hi1, hu1⟩ := HI.out _ hpm
      have hkp : keepF ids (f, u) = true := HA.out _ hpm
      unfold keepF at hkp
      have hc := HL.out _ HB.out f.id u (f.sure : Nat) hi1
      rw [show decide (f.id ∈ ids) = true from hkp] at hc
      clear hp hpm hi1 hkp hu1
      generalize ((f.id : Nat) : Int) = fi at k0 hc
      generalize ((f.sure : Nat) : Int) = fs at k2 hc
      go_wp2_with (go_at_fn 48; refine hc.mono ?_; rintro e w2 ⟨rfl, hb2⟩)
      go_roundw
      case rel => exact ⟨k + 1, by omega, by go_num, Lib.hid (bnext HB.out hb2)⟩
      case measure => simp [intOf]; omega
    · obtain rfl : k = n := by omega
      go_wp2
      go_ret
      exact ⟨rfl, HB.out⟩
set_option maxRecDepth 100000 in
set_option maxHeartbeats 4000000 in
theorem indexAt_c {w : World} {base b vb n c m : Nat} {A : Option Addr} {P : List (PF × Value)} {ids : List Nat} (hown : w.ownsRow base 58 3 (.slice A n c) n (P.flatMap cF)) (hm : Met w b ids) (hv : w.cell? ⟨vb, 0, none⟩ = some (.map (some b))) (hP : P.length = n) (hn : n ≤ 1000) (hids : ∀ p ∈ P, p.1.id ≤ 1099511627776 ∧ p.2.oneCell' = true)
    (hmn : m < n) (hall : ∀ k p, k < m → P[k]? = some p → keepF ids p = true) (hno : ∀ p, P[m]? = some p → keepF ids p = false) :
    Calls Try.prog 57 #[.slice A n c, .func (.func 48) #[] #[.pointer (some ⟨vb, 0, none⟩)]] w fun e w' => e = .returned (.int .i64 (m : Nat)) ∧ Below w.heap.size w w' := by
  have eg := eg_led
  have HL := Lib.hid (fun (W : World) (hb : Below w.heap.size w W) (i : Nat) (u : Value) (s : Int) (hi : i ≤ 1099511627776) => led_c (i := i) (u := u) (s := s) (hm.below hb) (cell_below hb hv) hi)
  have HO := Lib.hid hown; have HI := Lib.hid hids; have HA := Lib.hid hall; have HP := Lib.hid hP; have HNO := Lib.hid hno
  clear hown hm hv hids hall hP hno
  go_enter Try.func57, Try.ntmps57
  go_wp2
  go_loopw [5, 8] (fun _ s8 wr => ∃ k : Nat, k ≤ m ∧ s8 = .int .i64 k ∧ Hid (Below w.heap.size w wr)) (fun _ s8 _ => n - (intOf s8).toNat)
  case atStart => exact ⟨0, Nat.zero_le _, rfl, Below.refl _ _⟩
  case round =>
    obtain ⟨k, hk, rfl, HB⟩ := hrel
    have hlt : k < n := by omega
    obtain ⟨p, hp⟩ : ∃ p, P[k]? = some p := ⟨_, List.getElem?_eq_getElem (by rw [HP.out]; exact hlt)⟩
    obtain ⟨f, u⟩ := p
    obtain ⟨g, rfl, hg, k0, k1, k2, _⟩ := own_file (own_below HO.out HB.out) hp
    have hpm := List.mem_of_getElem? hp
    obtain ⟨hi1, hu1⟩ := HI.out _ hpm
    have hc := HL.out _ HB.out f.id u (f.sure : Nat) hi1
    by_cases hkm : k < m
    · have hkp : keepF ids (f, u) = true := HA.out k _ hkm hp
      unfold keepF at hkp
      rw [show decide (f.id ∈ ids) = true from hkp] at hc
      clear hp hpm hi1 hkp hu1
      generalize ((f.id : Nat) : Int) = fi at k0 hc
      generalize ((f.sure : Nat) : Int) = fs at k2 hc
      go_wp2_with (go_at_fn 48; refine hc.mono ?_; rintro e w2 ⟨rfl, hb2⟩)
      go_roundw
      case rel => exact ⟨k + 1, by omega, by go_num, Lib.hid (bnext HB.out hb2)⟩
      case measure => simp [intOf]; omega
    · obtain rfl : k = m := by omega
      have hkp : keepF ids (f, u) = false := HNO.out _ hp
      unfold keepF at hkp
      rw [show decide (f.id ∈ ids) = false from hkp] at hc
      clear hp hpm hi1 hkp hu1
      generalize ((f.id : Nat) : Int) = fi at k0 hc
      generalize ((f.sure : Nat) : Int) = fs at k2 hc
      go_wp2_with (go_at_fn 48; refine hc.mono ?_; rintro e w2 ⟨rfl, hb2⟩)
      go_ret
      exact ⟨rfl, bnext HB.out hb2⟩
end Go.Proofs.Ytmkjjcogheidmaa.DP
