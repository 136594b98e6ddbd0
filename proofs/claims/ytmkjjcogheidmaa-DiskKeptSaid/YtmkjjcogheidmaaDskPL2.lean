/-
  Right at a disk that is right.
-/
import Derived.Test.YtmkjjcogheidmaaDskPK
import Derived.Deep.RegionWith
set_option linter.unusedSimpArgs false
set_option linter.unusedVariables false
namespace Go.Proofs.Ytmkjjcogheidmaa
open Go.RowKit
theorem DkIn.below {S : Nat → Prop} {w w' : World} {v : Value} {D : PD} (h : DkIn S w v D) (hb : Below w.heap.size w w') : DkIn S w' v D := ⟨h.at_.below hb, h.inv, h.few⟩
end Go.Proofs.Ytmkjjcogheidmaa
namespace Go.Proofs.Ytmkjjcogheidmaa.DP
open Go.RowKit
set_option maxRecDepth 100000 in
set_option maxHeartbeats 4000000 in
theorem right_c {S : Nat → Prop} {D : PD} {v : Value} {w : World} (h : DkIn S w v D) : Calls Try.prog 11 #[v] w fun e w' => e = .returned (.bool true) ∧ Below w.heap.size w w' := by
  have hq := fun W => quotaRight_c D.quota h.inv.quota W
  have hf := fun W (hb : Below w.heap.size w W) => filesRight_c (h.below hb)
  have hu := fun W (hb : Below w.heap.size w W) => used_c (h.below hb)
  have hn := fun W (hb : Below w.heap.size w W) => namesRight_c (h.below hb)
  have hle : ((usedF D.files : Nat) : Int) ≤ ((D.quota : Nat) : Int) := by have := h.inv.used; omega
  obtain ⟨q, A1, n1, c1, A2, n2, c2, A3, n3, c3, A4, n4, c4, x, hv⟩ := h.at_.form
  have hqq : ((D.quota : Nat) : Int) = q := by
    obtain ⟨vf, vn, vk, vm, e, _⟩ := h.at_
    rw [hv] at e
    injection e with e
    have := congrArg (fun a : Array Value => a[0]?) e
    simp at this
    exact this.symm
  rw [hv] at hf hu hn
  rw [hv]
  rw [hqq] at hq hle
  generalize ((usedF D.files : Nat) : Int) = us at hu hle
  clear hv hqq h
  have hd : decide (us ≤ q) = true := by simpa using hle
  go_enter Try.func11, Try.ntmps11
  go_wp2_with fail
  go_region_with (first
    | (go_at_call 24; refine (hq _).mono ?_; rintro e w2 ⟨rfl, rfl⟩)
    | (go_at_call 27; refine (hf _ ((alloc_below _ _).drew)).mono ?_; rintro e w2 ⟨rfl, hb2⟩; obtain ⟨y1, y2⟩ := bcl hb2; have hs2 : w.heap.size < w2.heap.size := Nat.lt_of_lt_of_le (by simp) hb2.size; have HB2 := Lib.hid ((alloc_below w _).drew.trans (hb2.mono (by simp))); clear hb2)
    | (go_at_call 12; refine (hu _ HB2.out).mono ?_; rintro e w3 ⟨rfl, hb3⟩; obtain ⟨z1, z2⟩ := bcl hb3; have hs3 : w.heap.size < w3.heap.size := Nat.lt_of_lt_of_le hs2 hb3.size; have HB3 := Lib.hid (bnext HB2.out (hb3)); clear hb3)
    | (go_at_call 28; refine (hn _ HB3.out).mono ?_; rintro e w4 ⟨rfl, hb4⟩; have HB4 := Lib.hid (bnext HB3.out (hb4)); clear hb4))
  all_goals (go_wp2; go_ret; exact ⟨rfl, HB4.out⟩)
end Go.Proofs.Ytmkjjcogheidmaa.DP
