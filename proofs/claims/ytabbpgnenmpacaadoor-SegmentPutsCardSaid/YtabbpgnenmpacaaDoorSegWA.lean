/-
  The statements of layer 8, walked: what is too great to be looked at.
-/
import Derived.Test.YtabbpgnenmpacaaDoorSegRefE
set_option linter.unusedSimpArgs false
set_option linter.unusedVariables false
namespace Go.Proofs.YtabbpgnenmpacaaDoor.SW
open Go Go.RowKit
open CR (below_next own_ge u8_wrap)
def tooGreat (r : PR) : Bool := decide (1000 < r.rungs.length) || decide (1000 < r.path.length)
set_option maxRecDepth 100000 in
set_option maxHeartbeats 1000000 in
theorem great_c (v : Value) (r : PR) (w : World) (h : RcOut w v r) :
    Calls Tryd.prog 7 #[v] w fun e w' => e = .returned (.bool (tooGreat r)) ∧ Below w.heap.size w w' := by
  obtain ⟨u, rfl, hro⟩ := h
  obtain ⟨A, c, rfl, _, _⟩ := id hro
  obtain ⟨d, hd⟩ : ∃ d, tooGreat r = d := ⟨_, rfl⟩
  rw [hd]
  unfold tooGreat at hd
  obtain ⟨k, p, m, f, l, g, t, nw, v0⟩ := r
  change Calls Tryd.prog 7 #[.agg #[.int .i64 k, .string (strB p), .int .i64 m, .int .i64 f, .slice A l.length c, .int .i64 g, .int .i64 t, .int .i64 nw, .int .i64 v0]] w _
  change (decide (1000 < l.length) || decide (1000 < p.length)) = d at hd
  have hsz := SR.strB_size p
  obtain ⟨s, hs⟩ : ∃ s, strB p = s := ⟨_, rfl⟩
  rw [hs] at hsz ⊢
  obtain ⟨n, hn⟩ : ∃ n, l.length = n := ⟨_, rfl⟩
  obtain ⟨N, hN⟩ : ∃ N, p.length = N := ⟨_, rfl⟩
  rw [hn, hN] at hd
  rw [hN] at hsz
  rw [hn]
  have HDF := Lib.hid (show ¬ ((1000 : Int) < (n : Int) ∨ (1000 : Int) < (N : Int)) → d = false from fun g => by rw [← hd, decide_eq_false (by omega), decide_eq_false (by omega)]; rfl)
  have HDT := Lib.hid (show ((1000 : Int) < (n : Int) ∨ (1000 : Int) < (N : Int)) → d = true from fun g => by
    rw [← hd]
    rcases g with g | g
    · rw [decide_eq_true (by omega), Bool.true_or]
    · rw [decide_eq_true (p := 1000 < N) (by omega), Bool.or_true])
  clear hro hd hs hn hN
  by_cases h1 : (1000 : Int) < (n : Int)
  · have e := HDT.out (Or.inl h1)
    subst e
    go_enter Tryd.func7, Tryd.ntmps7
    go_wp2
    go_ret
    exact ⟨rfl, (Below.refl _ _).alloc (Nat.le_refl _) _⟩
  · by_cases h2 : (1000 : Int) < (N : Int)
    · have e := HDT.out (Or.inr h2)
      subst e
      go_enter Tryd.func7, Tryd.ntmps7
      go_wp2
      go_ret
      exact ⟨rfl, (Below.refl _ _).alloc (Nat.le_refl _) _⟩
    · have e := HDF.out (by omega)
      subst e
      go_enter Tryd.func7, Tryd.ntmps7
      go_wp2
      go_ret
      exact ⟨rfl, (Below.refl _ _).alloc (Nat.le_refl _) _⟩
end Go.Proofs.YtabbpgnenmpacaaDoor.SW
