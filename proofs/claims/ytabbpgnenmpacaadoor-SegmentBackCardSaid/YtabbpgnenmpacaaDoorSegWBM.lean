/-
  The statements of layer 8, walked: what is too great to be looked at.
-/
import Derived.Test.YtabbpgnenmpacaaDoorSegRefEM
import Derived.Test.YtabbpgnenmpacaaDoorSegPLM
set_option linter.unusedSimpArgs false
set_option linter.unusedVariables false
namespace Go.Proofs.YtabbpgnenmpacaaDoor.SW
open Go Go.RowKit
open CR (below_next own_ge u8_wrap)
def tooGreat (r : PR) : Bool := decide (1000 < r.rungs.length) || decide (1000 < r.path.length)
set_option maxRecDepth 100000 in
set_option maxHeartbeats 1000000 in
theorem great_c (v : Value) (r : PR) (w : World) (h : RcOut w v r) :
    Calls Tryd.prog 7 #[v] w fun e w' => e = .returned (.bool (tooGreat r)) ∧ Below w.heap.size w w' := by
  obtain ⟨u, rfl, hro⟩ := h
  obtain ⟨A, c, rfl, _, _⟩ := id hro
  obtain ⟨d, hd⟩ : ∃ d, tooGreat r = d := ⟨_, rfl⟩
  rw [hd]
  unfold tooGreat at hd
  obtain ⟨k, p, m, f, l, g, t, nw, v0⟩ := r
  change Calls Tryd.prog 7 #[.agg #[.int .i64 k, .string (strB p), .int .i64 m, .int .i64 f, .slice A l.length c, .int .i64 g, .int .i64 t, .int .i64 nw, .int .i64 v0]] w _
  change (decide (1000 < l.length) || decide (1000 < p.length)) = d at hd
  have hsz := SR.strB_size p
  obtain ⟨s, hs⟩ : ∃ s, strB p = s := ⟨_, rfl⟩
  rw [hs] at hsz ⊢
  obtain ⟨n, hn⟩ : ∃ n, l.length = n := ⟨_, rfl⟩
  obtain ⟨N, hN⟩ : ∃ N, p.length = N := ⟨_, rfl⟩
  rw [hn, hN] at hd
  rw [hN] at hsz
  rw [hn]
  have HDF := Lib.hid (show ¬ ((1000 : Int) < (n : Int) ∨ (1000 : Int) < (N : Int)) → d = false from fun g => by rw [← hd, decide_eq_false (by omega), decide_eq_false (by omega)]; rfl)
  have HDT := Lib.hid (show ((1000 : Int) < (n : Int) ∨ (1000 : Int) < (N : Int)) → d = true from fun g => by
    rw [← hd]
    rcases g with g | g
    · rw [decide_eq_true (by omega), Bool.true_or]
    · rw [decide_eq_true (p := 1000 < N) (by omega), Bool.or_true])
  clear hro hd hs hn hN
  by_cases h1 : (1000 : Int) < (n : Int)
  · have e := HDT.out (Or.inl h1)
    subst e
    go_enter Tryd.func7, Tryd.ntmps7
    go_wp2
    go_ret
    exact ⟨rfl, (Below.refl _ _).alloc (Nat.le_refl _) _⟩
  · by_cases h2 : (1000 : Int) < (N : Int)
    · have e := HDT.out (Or.inr h2)
      subst e
      go_enter Tryd.func7, Tryd.ntmps7
      go_wp2
      go_ret
      exact ⟨rfl, (Below.refl _ _).alloc (Nat.le_refl _) _⟩
    · have e := HDF.out (by omega)
      subst e
      go_enter Tryd.func7, Tryd.ntmps7
      go_wp2
      go_ret
      exact ⟨rfl, (Below.refl _ _).alloc (Nat.le_refl _) _⟩
end Go.Proofs.YtabbpgnenmpacaaDoor.SW
/-
  The statements of layer 8, walked: the fixed fact.
-/
set_option linter.unusedSimpArgs false
set_option linter.unusedVariables false
namespace Go.Proofs.YtabbpgnenmpacaaDoor.SW
open Go Go.RowKit
open CR (below_next own_ge)
open SP (rc_plain)
theorem pt_bytes : rBytes (ptR 60 61 1500000) = [2, 60, 0, 0, 0, 0, 0, 0, 0, 61, 0, 0, 0, 0, 0, 0, 0, 96, 227, 22, 0, 0, 0, 0, 0] := by decide +kernel
theorem pt_put : rPut (ptR 60 61 1500000) = ([2, 60, 0, 0, 0, 0, 0, 0, 0, 61, 0, 0, 0, 0, 0, 0, 0, 96, 227, 22, 0, 0, 0, 0, 0], 0) := by
  unfold rPut
  rw [right_pt, if_pos (by decide), pt_bytes]
theorem pt_take : rTake [2, 60, 0, 0, 0, 0, 0, 0, 0, 61, 0, 0, 0, 0, 0, 0, 0, 96, 227, 22, 0, 0, 0, 0, 0] = (ptR 60 61 1500000, 0) := by
  rw [← pt_bytes]
  exact rTake_put (by rw [right_pt]; decide) (vOk_pt _ _ _ ⟨by decide, by decide⟩)
/-- What a record is, as a value. -/
theorem rc_form {B : Nat} {w : World} {v : Value} {r : PR} (h : RcNew B w v r) : ∃ A c, v = .agg #[.int .i64 r.kind, .string (strB r.path), .int .i64 r.method, .int .i64 r.factor, .slice A r.rungs.length c, .int .i64 r.rung, .int .i64 r.time, .int .i64 r.now, .int .i64 r.value] ∧ RgOut w (.slice A r.rungs.length c) r.rungs := by
  obtain ⟨u, rfl, hu⟩ := h
  obtain ⟨A, c, rfl, _⟩ := id hu.out
  exact ⟨A, c, rfl, hu.out⟩
theorem rc_mk {w : World} {A : Option Addr} {c : Nat} {r : PR} (h : RgOut w (.slice A r.rungs.length c) r.rungs) : RcOut w (.agg #[.int .i64 r.kind, .string (strB r.path), .int .i64 r.method, .int .i64 r.factor, .slice A r.rungs.length c, .int .i64 r.rung, .int .i64 r.time, .int .i64 r.now, .int .i64 r.value]) r := ⟨_, rfl, h⟩
/-- A variable that a call's answer is put into. -/
theorem var_put {w w2 : World} {C cs : List Value} {t : TypeId} (hp : Put (w.alloc (.cells C.toArray t)) w2 w.heap.size cs) : Below w.heap.size w w2 := hp.below (Nat.le_refl _) ((Below.refl _ _).alloc (Nat.le_refl _) _)
set_option maxRecDepth 100000 in
set_option maxHeartbeats 2000000 in
theorem alive_c (w : World) : Calls Tryd.prog 6 #[] w fun e w' => e = .returned (.bool true) ∧ Below w.heap.size w w' := by
  have hb : Bytes [2, 60, 0, 0, 0, 0, 0, 0, 0, 61, 0, 0, 0, 0, 0, 0, 0, 96, 227, 22, 0, 0, 0, 0, 0] := by unfold Bytes; decide
  have P := Lib.hid (fun (W : World) => by
    have h := SP.put_c (.agg #[.int .i64 2, .string ⟨#[]⟩, .int .i64 0, .int .i64 0, .slice none 0 0, .int .i64 0, .int .i64 60, .int .i64 61, .int .i64 1500000]) (ptR 60 61 1500000) (fun _ h => (by cases h)) (Nat.zero_le _) W ⟨_, rfl, RgOut.nil _⟩
    rw [pt_put] at h
    exact h)
  have T := Lib.hid (fun (v : Value) (W : World) (h : ByOut W v [2, 60, 0, 0, 0, 0, 0, 0, 0, 61, 0, 0, 0, 0, 0, 0, 0, 96, 227, 22, 0, 0, 0, 0, 0]) => by
    have h := SP.take_c v [2, 60, 0, 0, 0, 0, 0, 0, 0, 61, 0, 0, 0, 0, 0, 0, 0, 96, 227, 22, 0, 0, 0, 0, 0] hb (by decide) W h
    rw [pt_take] at h
    exact h)
  have HV := Lib.hid (fun (W : World) => DVar.alloc (w := W) ([.int .i64 0, .string ByteArray.empty, .int .i64 0, .int .i64 0, .slice none 0 0, .int .i64 0, .int .i64 0, .int .i64 0, .int .i64 0] : List Value).toArray 24)
  clear hb
  go_enter Tryd.func6, Tryd.ntmps6
  go_wp2_with fail
  refine (P.out _).mono ?_; rintro _ w1 ⟨v1, rfl, hn1, hb1⟩
  have B1 := Lib.hid hb1; have O1 := Lib.hid hn1.out
  obtain ⟨A1, c1, rfl, hc1, hx1⟩ := hn1.out
  obtain ⟨g, off, rfl, hf1⟩ := hx1 (by simp)
  clear hn1 hb1 hx1 hc1
  go_wp2_with fail
  refine (T.out _ _ O1.out).mono ?_; rintro _ w2 ⟨v2, rfl, hr2, hb2⟩
  obtain ⟨A2, c2, rfl, ho2⟩ := rc_form hr2
  have B2 := Lib.hid (below_next B1.out hb2)
  have k1 := cellb hb2 (hf1 1 60 rfl)
  have k17 := cellb hb2 (hf1 17 96 rfl)
  have k18 := cellb hb2 (hf1 18 227 rfl)
  have k19 := cellb hb2 (hf1 19 22 rfl)
  have K1 := Lib.hid k1; have K17 := Lib.hid k17; have K18 := Lib.hid k18; have K19 := Lib.hid k19
  clear hr2 hb2 ho2 hf1 k1 k17 k18 k19
  go_wp2_with (refine wpList_put rfl 24 _ _ rfl w2.heap.size [.int .i64 2, .string ⟨#[]⟩, .int .i64 0, .int .i64 0, .slice A2 0 c2, .int .i64 0, .int .i64 60, .int .i64 61, .int .i64 1500000] rfl rfl (HV.out w2) (by kernel_rfl) (by simp [Value.oneCell']) ?_; intro w3 hp3; have y8 := hp3.at_ 8 _ rfl; have hbp := var_put hp3; have B3 := Lib.hid (below_next B2.out hbp); have k1 := cellb hbp K1.out; have k17 := cellb hbp K17.out; have k18 := cellb hbp K18.out; have k19 := cellb hbp K19.out; clear hp3 hbp)
  go_ret
  exact ⟨rfl, B3.out⟩
end Go.Proofs.YtabbpgnenmpacaaDoor.SW
