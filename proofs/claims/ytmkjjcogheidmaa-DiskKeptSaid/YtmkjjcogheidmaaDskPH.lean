/-
  The library's Equal at names; isNew: a number that was not met, of a file that is there.
-/
import Derived.Test.YtmkjjcogheidmaaDskMet
import Derived.BigRegion
import Derived.Deep.RegionWith
set_option linter.unusedSimpArgs false
set_option linter.unusedVariables false
namespace Go.Proofs.Ytmkjjcogheidmaa.DP
open Go.RowKit
set_option maxRecDepth 100000 in
set_option maxHeartbeats 4000000 in
theorem equal_c {v1 v2 : Value} {S S' : Nat → Prop} {l : List PN} (hl : l.length ≤ 1000000) {w : World} (f1 : NsOut S w v1 l) (f2 : NsOut S' w v2 l) :
    Calls Try.prog 43 #[v1, v2] w fun e w' => e = .returned (.bool true) ∧ Below w.heap.size w w' := by
  obtain ⟨A1, c1, rfl, hc1, _⟩ := id f1
  obtain ⟨A2, c2, rfl, hc2, _⟩ := id f2
  have F1 := Lib.hid f1; have F2 := Lib.hid f2
  clear f1 f2
  obtain ⟨n, hn⟩ : ∃ n, l.length = n := ⟨_, rfl⟩
  have HN := Lib.hid hn
  rw [hn] at hl hc1 hc2 F1 F2 ⊢
  clear hn
  go_enter Try.func43, Try.ntmps43
  go_wp2
  go_loopw [5, 13] (fun _ i wr => ∃ k : Nat, k ≤ n ∧ i = .int .i64 k ∧ Hid (Below w.heap.size w wr)) (fun _ i _ => n - (intOf i).toNat)
  case atStart => exact ⟨0, Nat.zero_le _, rfl, Below.refl _ _⟩
  case round =>
    obtain ⟨k, hk, rfl, HI⟩ := hrel
    by_cases hlt : k < n
    · obtain ⟨b1, o1, g, rfl, hg, y1, z1⟩ := nm_at (F1.out.below HI.out) hlt
      obtain ⟨b2, o2, g', rfl, hg', y2, z2⟩ := nm_at (F2.out.below HI.out) hlt
      obtain rfl : g = g' := Option.some.inj (hg.symm.trans hg')
      clear hg hg'
      go_wp2
      go_region
      go_wp2
      go_roundw
      case rel => exact ⟨k + 1, by omega, by go_num, Below.drew HI.out⟩
      case measure => simp [intOf]; omega
    · obtain rfl : k = n := by omega
      go_wp2
      go_ret
      exact ⟨rfl, HI.out⟩
set_option maxRecDepth 100000 in
set_option maxHeartbeats 4000000 in
theorem isNew_c {w : World} {b vb db i : Nat} {ids : List Nat} {q x : Int} {A1 A2 A3 A4 : Option Addr} {n1 c1 n2 c2 n3 c3 n4 c4 : Nat} {l : List PF}
    (hm : Met w b ids) (hv : w.cell? ⟨vb, 0, none⟩ = some (.map (some b))) (hd : Holds w db [.int .i64 q, .slice A1 n1 c1, .slice A2 n2 c2, .slice A3 n3 c3, .slice A4 n4 c4, .int .i64 x]) (hf : FsOut (fun g => g ≠ b) w (.slice A1 n1 c1) l)
    (hn : n1 ≤ 1000000) (hs : l.Pairwise fun a b => a.id < b.id) (hid : i ≤ 1099511627776) (hi : i ∉ ids) (hin : ∃ x ∈ l, x.id = i) (hl : ids.length ≤ 1000000) (hdb : db ≠ b) :
    Calls Try.prog 39 #[.int .i64 (i : Nat), .pointer (some ⟨vb, 0, none⟩), .pointer (some ⟨db, 0, none⟩)] w fun e w' => e = .returned (.bool true) ∧ Met w' b (ids ++ [i]) ∧ w.grownBy w' (some b) := by
  have hlk := hm.look (idOk_of hid)
  rw [decide_eq_false hi] at hlk
  have ha := alloc_below w (.cells #[] 81)
  obtain ⟨w2, hup, hm2, hg2⟩ := (hm.below ha).put (idOk_of hid) hi hl
  have hvl : vb < w.heap.size := World.block_lt_of_cell? w _ hv
  obtain ⟨d0, d1, d2, d3, d4, d5⟩ := hd.six
  have hdl : db < w.heap.size := World.block_lt_of_cell? w _ d0
  have hdl2 : db < (w.alloc (.cells #[] 81)).heap.size := by simp; omega
  obtain ⟨e1, e2⟩ := grown_cells hg2 (b := db) hdl2 (fun e => hdb (Option.some.inj e))
  have hk2 : KeepS (fun g => g ≠ b ∧ g < w.heap.size) w w2 := fun g o hg => ((grown_cells hg2 (b := g) (by simp; omega) (fun e => hg.1 (Option.some.inj e))).1 o).trans (ha.cell (p := ⟨g, o, none⟩) hg.2)
  have hf2 := (hf.mono (S' := fun g => g ≠ b ∧ g < w.heap.size) fun g h1 h2 => ⟨h2, h1⟩).keep hk2
  have hc := fun (W : World) (h : W = w2) => byID_yes (q := q) (x := x) (A2 := A2) (A3 := A3) (A4 := A4) (n2 := n2) (c2 := c2) (n3 := n3) (c3 := c3) (n4 := n4) (c4 := c4) (h ▸ hf2) hn hs hin
  have HM := Lib.hid hm2
  have HG : Hid (w.grownBy w2 (some b)) := Lib.hid ((grown_of_below ha _).trans hg2)
  clear hm hf hs hi hin hm2 hg2 hk2 hf2 hd
  generalize fAt i l = p at hc
  go_enter Try.func39, Try.ntmps39
  go_wp2_with (go_at_call 40; refine (hc _ rfl).mono ?_; rintro e w3 ⟨⟨b1, o1, hA, rfl⟩, hb⟩)
  go_ret
  exact ⟨rfl, HM.out.below hb, HG.out.trans (grown_of_below hb _)⟩
end Go.Proofs.Ytmkjjcogheidmaa.DP
