/-
  What the calls on a disk begin with and end with: a disk of one's own in a box, and its answer.
-/
import Derived.Test.YtmkjjcogheidmaaDskPW
import Derived.Test.YtmkjjcogheidmaaDskPP2
set_option linter.unusedSimpArgs false
set_option linter.unusedVariables false
namespace Go.Proofs.Ytmkjjcogheidmaa.DP
open Go.RowKit
/-- A disk of one's own behind the copying. -/
structure Mid (w W : World) (q x : Int) (vf vn vk vm : Value) (us : List Value) (D : PD) : Prop where
  box : BoxR w.heap.size w W [.int .i64 q, vf, vn, vk, vm, .int .i64 x]
  own : DkOwn (w.heap.size + 2) W vf vn vk vm us D
theorem mid_of {w W0 w1 w2 : World} {q x : Int} {vf vn vk vm : Value} {us cs : List Value} {D : PD} (hB0 : BoxR w.heap.size w W0 cs) (ho : DkOwn W0.heap.size w1 vf vn vk vm us D) (hb : Below W0.heap.size W0 w1) (hp : Put w1 w2 w.heap.size [.int .i64 q, vf, vn, vk, vm, .int .i64 x]) : Mid w w2 q x vf vn vk vm us D := by
  have hs := hB0.size
  have h1 := ho.base hs
  exact ⟨(hB0.step hb (Nat.le_refl _)).put hp (Nat.le_refl _), h1.far hp.grown (h1.offLow (by omega))⟩
theorem Mid.step {w W W' : World} {q x : Int} {vf vn vk vm : Value} {us : List Value} {D : PD} (h : Mid w W q x vf vn vk vm us D) (hb : Below W.heap.size W W') : Mid w W' q x vf vn vk vm us D := ⟨h.box.step hb (Nat.le_refl _), h.own.below hb⟩
theorem Mid.in_ {w W : World} {q x : Int} {vf vn vk vm : Value} {us : List Value} {D : PD} (h : Mid w W q x vf vn vk vm us D) (hq : q = (D.quota : Nat)) (hx : x = (D.next : Nat)) (hi : PInv D) (hf : D.moves.length ≤ 200) : DkIn (fun g => w.heap.size + 2 ≤ g) W (.agg #[.int .i64 q, vf, vn, vk, vm, .int .i64 x]) D := by
  subst hq hx
  exact ⟨h.own.out, hi, hf⟩
/-- The answer: a disk of one's own in the box of the result. -/
theorem ret_own {S : Nat → Prop} {w W y : World} {q x : Int} {vf vn vk vm : Value} {us cs cs' : List Value} {D : PD} (hb : BoxR w.heap.size w W cs) (own : DkOwn w.heap.size W vf vn vk vm us D) (hoff : Off (w.heap.size + 1) (vn :: vk :: vm :: vf :: us)) (hp : Put W y (w.heap.size + 1) cs') (hq : q = (D.quota : Nat)) (hx : x = (D.next : Nat)) :
    DkOut (fun g => S g ∨ w.heap.size ≤ g) y (.agg #[.int .i64 q, vf, vn, vk, vm, .int .i64 x]) D ∧ Below w.heap.size w y := by
  subst hq hx
  have hs := hb.size
  exact ⟨(own.far hp.grown hoff).out.mono fun g _ h => .inr h, hb.below.grown hp.grown (by omega) fun k e => by have := Option.some.inj e; omega⟩
theorem Mid.ret {S : Nat → Prop} {w W y : World} {q x : Int} {vf vn vk vm : Value} {us cs' : List Value} {D : PD} (h : Mid w W q x vf vn vk vm us D) (hp : Put W y (w.heap.size + 1) cs') (hq : q = (D.quota : Nat)) (hx : x = (D.next : Nat)) :
    DkOut (fun g => S g ∨ w.heap.size ≤ g) y (.agg #[.int .i64 q, vf, vn, vk, vm, .int .i64 x]) D ∧ Below w.heap.size w y :=
  ret_own h.box (h.own.base (by omega)) (h.own.offLow (by omega)) hp hq hx
set_option maxRecDepth 100000 in
set_option maxHeartbeats 2000000 in
theorem new_c {S : Nat → Prop} (q : Nat) (hq : q ≤ 1073741824) (w : World) : Calls Try.prog 9 #[.int .i64 (q : Nat)] w (DkRet S (pNew q) 0 w) := by
  have hqr := fun W => quotaRight_c q hq W
  go_enter Try.func9, Try.ntmps9
  go_wp2_with (go_at_call 24; refine (hqr _).mono ?_; rintro e w1 ⟨rfl, rfl⟩)
  exact bodyPost_ret (v := .tuple #[.agg #[.int .i64 (q : Nat), .slice none 0 0, .slice none 0 0, .slice none 0 0, .slice none 0 0, .int .i64 1], .int .i64 0]) (by simp [results, Try.results9, go_sem]) rfl ⟨_, rfl, ⟨_, _, _, _, rfl, SlOut.nil, SlOut.nil, SlOut.nil, SlOut.nil⟩, by first | exact alloc_below _ _ | exact ((alloc_below _ _).setCell (Nat.le_refl _) _)⟩
end Go.Proofs.Ytmkjjcogheidmaa.DP
