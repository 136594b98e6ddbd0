/-
  List.
-/
import Derived.Test.YtmkjjcogheidmaaDskXB
import Derived.OwnWalk
set_option linter.unusedSimpArgs false
set_option linter.unusedVariables false
namespace Go.Proofs.Ytmkjjcogheidmaa.DP
open Go.RowKit
theorem texts_own {w : World} {base n : Nat} {v : Value} {l : List PN} (h : w.ownsRow base 9 1 v n (l.map fun x => .string x.name)) (hn : l.length = n) : TsOut w v (l.map PN.name) := by
  subst hn
  unfold TsOut
  rw [List.length_map]
  have h1 : SlOut (fun g => base ≤ g) w v l.length 1 (TAt (l.map PN.name)) := own_sl h fun g hg i hi => by
    refine ⟨l[i].name, by rw [List.getElem?_map, List.getElem?_eq_getElem hi]; rfl, ?_⟩
    have := hg i (.string l[i].name) (by rw [List.getElem?_map, List.getElem?_eq_getElem hi]; rfl)
    rw [Nat.zero_add, Nat.mul_one]
    exact this
  exact h1.imp fun _ _ _ _ hr => ⟨trivial, hr⟩
set_option maxRecDepth 100000 in
set_option maxHeartbeats 2000000 in
theorem list_c {S : Nat → Prop} {D : PD} {v : Value} {w : World} (h : DkIn S w v D) : Calls Try.prog 22 #[v] w fun e w' => ∃ v', e = .returned (.tuple #[v', .int .i64 0]) ∧ TsOut w' v' (D.names.map PN.name) ∧ Below w.heap.size w w' := by
  obtain ⟨q, A1, n1, c1, A2, n2, c2, A3, n3, c3, A4, n4, c4, x, rfl⟩ := h.form
  have hL := h.lets
  have hn2 : n2 ≤ 256 := by have := h.inv.namesFew; rw [hL.h2] at this; exact this
  have HR := Lib.hid (fun W (hb : Below w.heap.size w W) => right_c (h.below hb))
  have HN := Lib.hid hL.at_.n
  have HL := Lib.hid hL.h2
  obtain ⟨i0, hi0, hz0, hz1, hz2⟩ := info_parts (P := Try.prog) (e := 9) (z := .string ⟨#[]⟩) (size := 1) (bytes := 16) (by kernel_rfl)
  have HI := Lib.hid (And.intro hi0 (And.intro hz0 (And.intro hz1 hz2)))
  clear h hL hi0 hz0 hz1 hz2
  go_enter Try.func22, Try.ntmps22
  go_wp2_with (first
    | (go_at_call 11; (with_reducible refine (HR.out _ (alloc_below _ _)).mono ?_); rintro _ w3 ⟨rfl, hb3⟩; obtain ⟨y1, y2⟩ := bcl hb3; have hs3 : w.heap.size < w3.heap.size := Nat.lt_of_lt_of_le (by simp) hb3.size; have HB3 := Lib.hid (bnext (alloc_below w _) hb3); have hbox := (hb3.cell (p := ⟨w.heap.size, 2, none⟩) (by simp)); clear hb3)
    | (at_make; refine wpList_make_own _ rfl _ _ 53 rfl w.heap.size 9 i0 (.string ⟨#[]⟩) 1 Try.underlying53 HI.out.1 HI.out.2.1 HI.out.2.2.1 .i64 .i64 _ n2 rfl rfl rfl (by rw [HI.out.2.2.2]; omega) (by unfold maxLen; omega) HB3.out.size ?_; intro w5 hown5 hg5; have HO5 := Lib.hid hown5; have HB5 := Lib.hid (HB3.out.grown hg5 HB3.out.size (by intro g e; cases e)); have k5 := (grown_cells hg5 hs3 (by intro e; cases e)).1; clear hown5 hg5))
  obtain ⟨gm, hgm⟩ : ∃ gm, w3.heap.size = gm := ⟨_, rfl⟩
  have hgb : w.heap.size ≤ gm := by omega
  rw [hgm] at HO5 ⊢
  clear hgm y1 y2 hbox k5 hs3 HB3 HR
  clear w3
  go_loopw [4, 6, 17] (fun s4 _ s17 wr => ∃ k : Nat, k ≤ n2 ∧ s4 = .slice (some ⟨gm, 0, none⟩) k n2 ∧ s17 = .int .i64 k ∧ Hid (Below w.heap.size w wr) ∧ Hid (wr.ownsRow w.heap.size 9 1 (.slice (some ⟨gm, 0, none⟩) k n2) k ((D.names.take k).map fun x => .string x.name))) (fun _ _ s17 _ => n2 - (intOf s17).toNat)
  case atStart => exact ⟨0, Nat.zero_le _, rfl, rfl, HB5, HO5⟩
  case round =>
    obtain ⟨k, hk, rfl, rfl, HB, HO⟩ := hrel
    by_cases hlt : k < n2
    · obtain ⟨b3, o3, y, rfl, hy, k0, k1⟩ := nm_at (HN.out.below HB.out) hlt
      have HT : Hid ((D.names.take k).map (fun x => Value.string x.name) ++ [.string y.name] = (D.names.take (k + 1)).map fun x => .string x.name) := Lib.hid (by rw [List.take_add_one, hy]; simp)
      clear hy
      generalize y.id = yi at k1
      generalize y.name = ym at k0 HT
      have hlit := heap_alloc_new (wr.alloc (.cells #[.string ym, .int .i64 (yi : Nat)] 79)) (.cells #[.string ym] 9)
      rw [show (wr.alloc (.cells #[.string ym, .int .i64 (yi : Nat)] 79)).heap.size = wr.heap.size + 1 from by simp] at hlit
      have HCS := Lib.hid (cells_of_row (xs := [.string ym]) hlit 0 rfl)
      have HA := Lib.hid (bnext (alloc_below wr (.cells #[.string ym, .int .i64 (yi : Nat)] 79)) (alloc_below _ (.cells #[.string ym] 9)))
      clear hlit
      go_wp2_with (at_builtin; refine wpList_append_fits _ rfl (.tmp 21) (.tmp 24) _ rfl w.heap.size 9 i0 1 Try.underlying53 HI.out.1 HI.out.2.2.1 gm k n2 _ rfl (own_below HO.out HA.out) ⟨wr.heap.size + 1, 0, none⟩ 1 1 [.string ym] rfl rfl HCS.out (by simp [Value.oneCell']) (by omega) ?_; intro w' ho' hg'; have HO' := Lib.hid ho'; have HB' := Lib.hid ((bnext HB.out HA.out).grown hg' (bnext HB.out HA.out).size (by intro g e; have := Option.some.inj e; omega)); clear ho' hg')
      go_roundw
      case rel => exact ⟨k + 1, by omega, rfl, by go_num, HB', by rw [← HT.out]; exact HO'⟩
      case measure => simp [intOf]; omega
    · obtain rfl : k = n2 := by omega
      have HT := Lib.hid (texts_own (l := D.names) (by have := HO.out; rwa [List.take_of_length_le (by rw [HL.out]; exact Nat.le_refl _)] at this) HL.out)
      go_wp2
      go_ret2
      exact ⟨_, rfl, HT.out, HB.out⟩
end Go.Proofs.Ytmkjjcogheidmaa.DP
