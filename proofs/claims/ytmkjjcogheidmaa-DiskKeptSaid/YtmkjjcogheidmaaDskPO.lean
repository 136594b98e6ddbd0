/-
  fileOf at a disk that is right: the file of a name, or none.
-/
import Derived.Test.YtmkjjcogheidmaaDskPL2
import Derived.StillTailTactics
set_option linter.unusedSimpArgs false
set_option linter.unusedVariables false
namespace Go.Proofs.Ytmkjjcogheidmaa
open Go.RowKit
/-- A disk's six values, in letters. -/
theorem DkIn.form {S : Nat → Prop} {w : World} {v : Value} {D : PD} (h : DkIn S w v D) : ∃ (q : Int) (A1 : Option Addr) (n1 c1 : Nat) (A2 : Option Addr) (n2 c2 : Nat) (A3 : Option Addr) (n3 c3 : Nat) (A4 : Option Addr) (n4 c4 : Nat) (x : Int),
    v = .agg #[.int .i64 q, .slice A1 n1 c1, .slice A2 n2 c2, .slice A3 n3 c3, .slice A4 n4 c4, .int .i64 x] := h.at_.form
/-- What is known of a disk in letters. -/
structure DkL (S : Nat → Prop) (w : World) (D : PD) (q : Int) (A1 : Option Addr) (n1 c1 : Nat) (A2 : Option Addr) (n2 c2 : Nat) (A3 : Option Addr) (n3 c3 : Nat) (A4 : Option Addr) (n4 c4 : Nat) (x : Int) : Prop where
  hq : q = (D.quota : Nat)
  hx : x = (D.next : Nat)
  h1 : D.files.length = n1
  h2 : D.names.length = n2
  h3 : D.kept.length = n3
  h4 : D.moves.length = n4
  at_ : DkAt S w (.slice A1 n1 c1) (.slice A2 n2 c2) (.slice A3 n3 c3) (.slice A4 n4 c4) D
theorem DkIn.lets {S : Nat → Prop} {w : World} {D : PD} {q x : Int} {A1 A2 A3 A4 : Option Addr} {n1 c1 n2 c2 n3 c3 n4 c4 : Nat} (h : DkIn S w (.agg #[.int .i64 q, .slice A1 n1 c1, .slice A2 n2 c2, .slice A3 n3 c3, .slice A4 n4 c4, .int .i64 x]) D) : DkL S w D q A1 n1 c1 A2 n2 c2 A3 n3 c3 A4 n4 c4 x := by
  obtain ⟨vf, vn, vk, vm, e, hat⟩ := h.at_
  obtain ⟨B1, d1, B2, d2, B3, d3, B4, d4, rfl, rfl, rfl, rfl⟩ := hat.forms
  have e := Value.agg.inj e
  simp at e
  obtain ⟨rfl, ⟨rfl, rfl, rfl⟩, ⟨rfl, rfl, rfl⟩, ⟨rfl, rfl, rfl⟩, ⟨rfl, rfl, rfl⟩, rfl⟩ := e
  exact ⟨rfl, rfl, rfl, rfl, rfl, rfl, hat⟩
end Go.Proofs.Ytmkjjcogheidmaa
namespace Go.Proofs.Ytmkjjcogheidmaa.DP
open Go.RowKit
set_option maxRecDepth 100000 in
set_option maxHeartbeats 1000000 in
theorem fileNo_c {S : Nat → Prop} {D : PD} {v : Value} {w : World} {s : ByteArray} (h : DkIn S w v D) (hs : okN s) (hn : ¬ nHas s D.names) :
    Calls Try.prog 31 #[v, .string s] w fun e w' => e = .returned (.tuple #[.pointer none, .int .i64 4]) ∧ Below w.heap.size w w' := by
  obtain ⟨q, A1, n1, c1, A2, n2, c2, A3, n3, c3, A4, n4, c4, x, rfl⟩ := h.form
  have hL := h.lets
  have hn2 : n2 ≤ 256 := by have := h.inv.namesFew; rw [hL.h2] at this; exact this
  have hr := fun W (hb : Below w.heap.size w W) => right_c (h.below hb)
  have hm := fun W => mayBe_c s hs W
  have hfc := fun W (hb : Below w.heap.size w W) => find_c (s := s) (hL.at_.n.below hb) (by omega) h.inv.dir.sorted false ⟨fun h => absurd h (by decide), fun h => absurd h hn⟩
  clear h hL hn hs
  generalize nAt s D.names = p at hfc
  go_enter Try.func31, Try.ntmps31
  go_wp2_with (first
    | (go_at_call 11; with_reducible refine (hr _ (alloc_below _ _)).mono ?_; rintro e w2 ⟨rfl, hb2⟩; obtain ⟨y1, y2⟩ := bcl hb2; have HB2 := Lib.hid (bnext (alloc_below w _) hb2); clear hb2)
    | (go_at_call 38; refine (hm _).mono ?_; rintro e w3 ⟨rfl, rfl⟩)
    | (go_at_call 46; refine (hfc _ HB2.out).mono ?_; rintro e w4 ⟨rfl, hb4⟩))
  go_ret2
  exact ⟨rfl, bnext HB2.out hb4⟩
set_option maxRecDepth 100000 in
set_option maxHeartbeats 1000000 in
theorem fileYes_c {S : Nat → Prop} {D : PD} {w : World} {s : ByteArray} {q x : Int} {A1 A2 A3 A4 : Option Addr} {c1 c2 c3 c4 n1 n2 n3 n4 : Nat} (h : DkIn S w (.agg #[.int .i64 q, .slice A1 n1 c1, .slice A2 n2 c2, .slice A3 n3 c3, .slice A4 n4 c4, .int .i64 x]) D) (hs : okN s) (hn : nHas s D.names) :
    Calls Try.prog 31 #[.agg #[.int .i64 q, .slice A1 n1 c1, .slice A2 n2 c2, .slice A3 n3 c3, .slice A4 n4 c4, .int .i64 x], .string s] w fun e w' => (∃ b off, A1 = some ⟨b, off, none⟩ ∧ e = .returned (.tuple #[.pointer (some ⟨b, off + fAt (nId s D.names) D.files * 3, none⟩), .int .i64 0])) ∧ Below w.heap.size w w' := by
  have hL := h.lets
  have hn2 : n2 ≤ 256 := by have := h.inv.namesFew; rw [hL.h2] at this; exact this
  have hn1 : n1 ≤ 256 := by have := h.inv.f256; rw [hL.h1] at this; exact this
  have hr := fun W (hb : Below w.heap.size w W) => right_c (h.below hb)
  have hm := fun W => mayBe_c s hs W
  have hdir := h.inv.dir
  have hfc := fun W (hb : Below w.heap.size w W) => find_c (s := s) (hL.at_.n.below hb) (by omega) hdir.sorted true ⟨fun _ => hn, fun _ => rfl⟩
  obtain ⟨y, hy, ey⟩ := (nHas_iff hdir.sorted).1 hn
  have hid := nId_at hdir.sorted hy ey
  have hyf := hdir.sub y (List.mem_of_getElem? hy)
  have hpl := (List.getElem?_eq_some_iff.1 hy).1
  obtain ⟨b2, o2, y', rfl, hy', k0, k1⟩ := nm_at hL.at_.n (by rw [← hL.h2]; exact hpl)
  obtain rfl : y = y' := Option.some.inj (hy.symm.trans hy')
  have hbc := fun W (hb : Below w.heap.size w W) => byID_yes (q := q) (x := x) (A2 := some ⟨b2, o2, none⟩) (A3 := A3) (A4 := A4) (n2 := n2) (c2 := c2) (n3 := n3) (c3 := c3) (n4 := n4) (c4 := c4) (i := y.id) (FsOut.below hL.at_.f hb) (by omega) h.inv.fsort (by obtain ⟨f, hf, e⟩ := List.mem_map.1 hyf; exact ⟨f, hf, e⟩)
  rw [hid]
  have hbl := World.block_lt_of_cell? w _ k0
  rw [hL.h2] at hpl
  clear h hL hn hs hdir hy hy' ey hid hyf k0
  generalize fAt y.id D.files = r at hbc ⊢
  generalize y.id = yi at hbc k1
  generalize nAt s D.names = p at hfc k1 hpl
  go_enter Try.func31, Try.ntmps31
  go_wp2_with (first
    | (go_at_call 11; with_reducible refine (hr _ (alloc_below _ _)).mono ?_; rintro e w2 ⟨rfl, hb2⟩; obtain ⟨y1, y2⟩ := bcl hb2; have HB2 := Lib.hid (bnext (alloc_below w _) hb2); have hs2 : w.heap.size < w2.heap.size := Nat.lt_of_lt_of_le (by simp) hb2.size; clear hb2)
    | (go_at_call 38; refine (hm _).mono ?_; rintro e w3 ⟨rfl, rfl⟩)
    | (go_at_call 46; go_loud (refine (hfc _ HB2.out).mono ?_; rintro e w4 ⟨rfl, hb4⟩; obtain ⟨z1, z2⟩ := bcl hb4; have HB4 := Lib.hid (bnext HB2.out hb4); have hs4 : w.heap.size < w4.heap.size := Nat.lt_of_lt_of_le hs2 hb4.size; have hb24 : b2 < w2.heap.size := Nat.lt_of_lt_of_le hbl HB2.out.size; clear hb4)))
  have k2 := cell_below HB4.out k1
  have HBC := Lib.hid (fun W (hb : Below w4.heap.size w4 W) => hbc W (bnext HB4.out hb))
  clear hbc hr hfc hm
  obtain ⟨d0, d1, d2, d3, d4, d5⟩ : w4.cell? ⟨w.heap.size, 0, none⟩ = some (.int .i64 q) ∧ w4.cell? ⟨w.heap.size, 1, none⟩ = some (.slice A1 n1 c1) ∧ w4.cell? ⟨w.heap.size, 2, none⟩ = some (.slice (some ⟨b2, o2, none⟩) n2 c2) ∧ w4.cell? ⟨w.heap.size, 3, none⟩ = some (.slice A3 n3 c3) ∧ w4.cell? ⟨w.heap.size, 4, none⟩ = some (.slice A4 n4 c4) ∧ w4.cell? ⟨w.heap.size, 5, none⟩ = some (.int .i64 x) := by
    simp [z1, y1, hs2]
  clear y1 y2 z1 z2 k1
  go_still_tail 7, (by kernel_rfl)
  change wpList _ _ _ _ _ w4.drew
  have HD := Lib.hid (show Below w4.heap.size w4 w4.drew from (Below.refl _ _).drew)
  generalize w4.drew = w5 at HD
  go_wp2_with (go_at_call 40; refine (HBC.out _ HD.out).mono ?_; rintro e w6 ⟨⟨b, off, hA, rfl⟩, hb6⟩)
  go_ret2
  exact ⟨⟨b, off, hA, rfl⟩, bnext HB4.out (bnext HD.out hb6)⟩
end Go.Proofs.Ytmkjjcogheidmaa.DP
