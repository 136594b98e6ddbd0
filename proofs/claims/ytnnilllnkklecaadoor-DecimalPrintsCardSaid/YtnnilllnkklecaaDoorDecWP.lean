/-
  The statements of layer 3, walked, the fourth part: numbers printed, and joined.
-/
import Derived.Test.YtnnilllnkklecaaDoorDecW
import Derived.Deep.RegionHeld3
set_option linter.unusedSimpArgs false
set_option linter.unusedVariables false
namespace Go.Proofs.YtnnilllnkklecaaDoor.DW
open Go.RowKit

/-- The cells of a number lie on behind a call. -/
theorem held_num {x y : World} {b o : Nat} {p q : Value} (h : x.cell? ⟨b, o, none⟩ = some p ∧ x.cell? ⟨b, o + 1, none⟩ = some q) (hb : Below x.heap.size x y) : y.cell? ⟨b, o, none⟩ = some p ∧ y.cell? ⟨b, o + 1, none⟩ = some q :=
  ⟨(hb.cell (p := ⟨b, o, none⟩) (World.block_lt_of_cell? x ⟨b, o, none⟩ h.1)).trans h.1, (hb.cell (p := ⟨b, o + 1, none⟩) (World.block_lt_of_cell? x ⟨b, o + 1, none⟩ h.2)).trans h.2⟩

theorem held_g {x y : World} {b o : Nat} {p q : Value} (h : (x.cell? ⟨b, o, none⟩ = some p ∧ x.cell? ⟨b, o + 1, none⟩ = some q) ∧ G x) (hb : Below x.heap.size x y) : (y.cell? ⟨b, o, none⟩ = some p ∧ y.cell? ⟨b, o + 1, none⟩ = some q) ∧ G y :=
  ⟨held_num h.1 hb, h.2.below hb⟩
theorem held_d {x : World} {b o : Nat} {p q : Value} (h : (x.cell? ⟨b, o, none⟩ = some p ∧ x.cell? ⟨b, o + 1, none⟩ = some q) ∧ G x) : (x.drew.cell? ⟨b, o, none⟩ = some p ∧ x.drew.cell? ⟨b, o + 1, none⟩ = some q) ∧ G x.drew := ⟨h.1, h.2.drew⟩
set_option maxRecDepth 100000 in
set_option maxHeartbeats 2000000 in
theorem prints_row (b off len cap : Nat) (hcap : len ≤ cap) (B : Nat → Bool) (V : Nat → Int) (hV : ∀ i, i < len → -9223372036854775808 ≤ V i ∧ V i ≤ 9223372036854775807) (w : World) (hw : RowAt w b off len B V) (hG : G w) :
    Calls Tryd.prog 4 #[.slice (some ⟨b, off, none⟩) len cap] w fun e w' => e = .returned (.bool true) ∧ Below w.heap.size w w' := by
  have HV := Lib.hid hV; have HR := Lib.hid hw; have HG := Lib.hid hG
  clear hV hw hG
  by_cases hbig : 3000 < len
  · go_enter Tryd.func4, Tryd.ntmps4
    go_wp2_with fail
    refine (alive_c _ HG.out).mono ?_; rintro e w1 ⟨rfl, hb1⟩
    go_wp2
    go_ret
    exact ⟨rfl, hb1⟩
  · go_enter Tryd.func4, Tryd.ntmps4
    go_wp2_with fail
    refine (alive_c _ HG.out).mono ?_; rintro e w1 ⟨rfl, hb1⟩
    go_wp2
    go_loopw [3] (fun i wr => ∃ k : Nat, k ≤ len ∧ i = .int .i64 k ∧ Hid (Below w.heap.size w wr)) (fun i _ => len - (intOf i).toNat)
    case atStart => exact ⟨0, Nat.zero_le _, rfl, hb1⟩
    case round =>
      obtain ⟨k, hk, rfl, HB⟩ := hrel
      by_cases hlt : k < len
      · have HRk := Lib.hid (HR.out.below HB.out)
        have gk := Lib.hid (HG.out.below HB.out)
        obtain ⟨r0, r1⟩ := HRk.out k hlt
        have p1 := DP.print_c (B k) (V k) (HV.out k hlt)
        have p2 := DR.print_c (B k) (V k) (HV.out k hlt)
        generalize str (printS (rd (B k) (V k))) = E at *
        have P1 := Lib.hid p1; have P2 := Lib.hid p2
        clear p1 p2
        go_wp2_with fail
        have gd := G.drew gk.out
        go_region_held3 (fun y => (y.cell? ⟨b, off + k * 2, none⟩ = some (.bool (B k)) ∧ y.cell? ⟨b, off + k * 2 + 1, none⟩ = some (.int .i64 (V k))) ∧ G y)
          (first | go_keep | (refine held_g ?_ (by assumption); assumption))
          (first
            | (go_at_call 12; refine (P1.out _ (by first | (refine And.right ?_; assumption) | assumption)).mono ?_; rintro e w2 ⟨rfl, hb2⟩)
            | (go_at_call 13; refine (P2.out _).mono ?_; rintro e w3 ⟨rfl, hb3⟩))
        go_wp2
        refine ⟨⟨k + 1, by omega, by go_num, below_next (HB.out.drew) (below_next hb2 hb3)⟩, by simp [intOf] <;> omega⟩
      · obtain rfl : k = len := by omega
        have HRk := Lib.hid (HR.out.below HB.out)
        have gk := Lib.hid (HG.out.below HB.out)
        have p1 := DP.join_c b off k cap (by omega) B V HV.out _ HRk.out gk.out
        generalize hJ : str (joinF B V k) = J at p1
        have P1 := Lib.hid p1
        clear p1
        go_wp2_with fail
        refine P1.out.mono ?_; rintro e w2 ⟨rfl, hb2⟩
        have p2 := DR.join_c b off k cap (by omega) B V HV.out _ (HRk.out.below hb2)
        rw [hJ] at p2
        have P2 := Lib.hid p2
        clear p2
        go_wp2_with fail
        refine P2.out.mono ?_; rintro e w3 ⟨rfl, hb3⟩
        go_wp2
        go_ret
        exact ⟨rfl, below_next (below_next HB.out hb2) hb3⟩
theorem prints_nil (a : Option Addr) (cap : Nat) (w : World) (hG : G w) :
    Calls Tryd.prog 4 #[.slice a 0 cap] w fun e w' => e = .returned (.bool true) ∧ Below w.heap.size w w' := by
  have p1 := DP.join_nil a cap (fun _ => false) (fun _ => 0)
  have p2 := DR.join_nil a cap (fun _ => false) (fun _ => 0)
  generalize str (joinF (fun _ => false) (fun _ => 0) 0) = J at *
  have P1 := Lib.hid p1; have P2 := Lib.hid p2; have HG := Lib.hid hG
  clear p1 p2 hG
  go_enter Tryd.func4, Tryd.ntmps4
  go_wp2_with fail
  refine (alive_c _ HG.out).mono ?_; rintro e w1 ⟨rfl, hb1⟩
  go_wp2
  go_loop [3] (fun i => i = .int .i64 0) (fun _ => 0)
  case atStart => rfl
  case round =>
    subst hrel
    go_wp2_with fail
    refine (P1.out _).mono ?_; rintro e w2 ⟨rfl, hb2⟩
    go_wp2_with fail
    refine (P2.out _).mono ?_; rintro e w3 ⟨rfl, hb3⟩
    go_wp2
    go_ret
    exact ⟨rfl, below_next (below_next hb1 hb2) hb3⟩
end Go.Proofs.YtnnilllnkklecaaDoor.DW
