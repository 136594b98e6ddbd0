/-
  The statements of layer 9, walked: one item that is any number of anything.
-/
import Derived.Test.YtodigfdhhndboaaNdlWA
set_option linter.unusedSimpArgs false
set_option linter.unusedVariables false
namespace Go.Proofs.Ytodigfdhhndboaa.NW
open Go Go.RowKit
theorem bs_lt (s : ByteArray) {x : Nat} (hx : x ∈ bs s) : x < 256 := by
  obtain ⟨y, _, rfl⟩ := List.mem_map.1 hx
  exact y.toNat_lt
theorem star_found (st fin : Bool) (s : ByteArray) : ndFound ⟨st, fin, [ndAll.starred true]⟩ (bs s) = true :=
  ndFound_star rfl (fun x hx => (show ndFits ndAll x = true from ndFits_all (bs_lt s hx)))
set_option maxRecDepth 100000 in
set_option maxHeartbeats 4000000 in
theorem needleStar_c (s : ByteArray) (st fin : Bool) (w : World) :
    Calls Try.prog 8 #[.string s, .bool st, .bool fin] w fun e w' => e = .returned (.bool true) ∧ Below w.heap.size w w' := by
  have CC := Lib.hid (fun (W : World) => by
    have h := NP.compile_c ⟨#[46, 42]⟩ (by decide) W
    rw [show ndComp (bs ⟨#[46, 42]⟩) = (⟨false, false, [ndAll.starred true]⟩, 0) from ndComp_star] at h
    exact h)
  have FC := Lib.hid (fun (hs : s.size ≤ 500) (u : Value) (hok : ∀ i ∈ [ndAll.starred true], i.ok) (W : World) (h : ItOut W u [ndAll.starred true]) => by
    have h := NP.found_c st fin u [ndAll.starred true] s (by omega) (by decide) hok W h
    rw [star_found] at h
    exact h)
  go_enter Try.func8, Try.ntmps8
  go_wp2_with fail
  refine (alive_c _).mono ?_; rintro _ w1 ⟨rfl, hb1⟩
  have HB1 := Lib.hid hb1
  clear hb1
  by_cases hg : (500 : Int) < (s.size : Int)
  · have hgd : decide ((500 : Int) < (s.size : Int)) = true := decide_eq_true hg
    have GC := Lib.hid (fun W => great_c s W)
    rw [hgd] at GC
    go_wp2_with fail
    refine (GC.out _).mono ?_; rintro _ _ ⟨rfl, rfl⟩
    go_wp2
    go_ret
    exact ⟨rfl, HB1.out⟩
  · have hgd : decide ((500 : Int) < (s.size : Int)) = false := decide_eq_false hg
    have GC := Lib.hid (fun W => great_c s W)
    rw [hgd] at GC
    have FC2 := Lib.hid (fun u hok W h => FC.out (by omega) u hok W h)
    clear hgd hg
    go_wp2_with fail
    refine (GC.out _).mono ?_; rintro _ _ ⟨rfl, rfl⟩
    go_wp2_with fail
    refine (CC.out _).mono ?_; rintro _ w2 ⟨v, rfl, ⟨u, rfl, hu⟩, hok, hlen, hb2⟩
    have hu2 : ItOut w2 u [ndAll.starred true] := hu
    have hok2 : ∀ i ∈ [ndAll.starred true], i.ok := hok
    obtain ⟨A, cap, hv, hcap, hx⟩ := id hu2
    have hv2 : u = .slice A 1 cap := hv
    subst hv2
    have HU := Lib.hid hu2; have HOK := Lib.hid hok2; have HB2 := Lib.hid (bnext HB1.out hb2)
    clear hu hu2 hok hok2 hlen hb2 hx hv
    go_upto_region 6 with (refine wpList_put rfl 29 _ _ rfl w2.heap.size [.bool false, .bool false, .slice A 1 cap] rfl rfl (DVar.alloc _ _) (by kernel_rfl) (by simp [Value.oneCell']) ?_; intro y1 hq; obtain ⟨t0, t1, t2⟩ := hq.at_.three)
    have hb3 : Below w2.heap.size w2 y1 := hq.below (Nat.le_refl _) (alloc_below _ _)
    have hb4 := (hb3.setCell (p := ⟨w2.heap.size, 0, none⟩) (Nat.le_refl _) (.bool st)).setCell (p := ⟨w2.heap.size, 1, none⟩) (Nat.le_refl _) (.bool fin)
    have HB3 := Lib.hid (bnext HB2.out hb4)
    have HU3 := Lib.hid (HU.out.below hb4)
    have f0 := hq.var.f 0 (show 0 < 3 by decide); have f1 := hq.var.f 1 (show 1 < 3 by decide)
    have hlt := hq.var.lt
    clear hq hb3 hb4
    go_wp2_with fail
    refine (FC2.out _ HOK.out _ HU3.out).mono ?_; rintro _ w4 ⟨rfl, hb5⟩
    have HB5 := Lib.hid (bnext HB3.out hb5)
    clear hb5
    go_wp2
    go_ret
    exact ⟨rfl, HB5.out⟩
end Go.Proofs.Ytodigfdhhndboaa.NW
