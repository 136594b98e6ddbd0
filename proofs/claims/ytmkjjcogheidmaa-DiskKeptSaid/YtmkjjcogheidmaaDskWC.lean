/-
  The statements of layer 6, walked, the third part: how much is played; what is the same.
-/
import Derived.Test.YtmkjjcogheidmaaDskW
import Derived.Test.YtmkjjcogheidmaaBySame
import Derived.BigRegion
import Derived.Deep.RegionWith
import Derived.Deep.RegionHeld3
set_option linter.unusedSimpArgs false
set_option linter.unusedVariables false
namespace Go.Proofs.Ytmkjjcogheidmaa.DW
open Go.RowKit
theorem SlOut.two {S S' : Nat → Prop} {w : World} {v : Value} {n size : Nat} {R : World → Nat → Nat → Nat → Prop} (h : SlOut S w v n size R) : ∃ A cap, v = .slice A n cap ∧ n ≤ cap := by
  obtain ⟨A, cap, hv, hc, _⟩ := h
  exact ⟨A, cap, hv, hc⟩
theorem SlOut.nth {S : Nat → Prop} {w : World} {A : Option Addr} {n m cap size k : Nat} {R : World → Nat → Nat → Nat → Prop} (h : SlOut S w (.slice A m cap) n size R) (hk : k < n) : ∃ b off, A = some ⟨b, off, none⟩ ∧ R w b (off + k * size) k := by
  obtain ⟨A', cap', hv, hc, hx⟩ := h
  injection hv with h1 h2 h3
  subst h1
  obtain ⟨b, off, hA, _, hf⟩ := hx (Nat.lt_of_le_of_lt (Nat.zero_le _) hk)
  exact ⟨b, off, hA, hf k hk⟩
set_option maxRecDepth 100000 in
set_option maxHeartbeats 4000000 in
theorem texts_c {v1 v2 : Value} {l : List ByteArray} (hl : l.length ≤ 100000) {w : World} (f1 : TsOut w v1 l) (f2 : TsOut w v2 l) :
    Calls Try.prog 23 #[v1, v2] w fun e w' => e = .returned (.bool true) ∧ Below w.heap.size w w' := by
  obtain ⟨A1, c1, rfl, hc1, _⟩ := id f1
  obtain ⟨A2, c2, rfl, hc2, _⟩ := id f2
  have F1 := Lib.hid f1; have F2 := Lib.hid f2
  clear f1 f2
  obtain ⟨n, hn⟩ : ∃ n, l.length = n := ⟨_, rfl⟩
  have HN := Lib.hid hn
  rw [hn] at hl hc1 hc2 F1 F2 ⊢
  clear hn
  go_enter Try.func23, Try.ntmps23
  go_wp2
  go_loopw [5] (fun i wr => ∃ k : Nat, k ≤ n ∧ i = .int .i64 k ∧ Hid (Below w.heap.size w wr)) (fun i _ => n - (intOf i).toNat)
  case atStart => exact ⟨0, Nat.zero_le _, rfl, Below.refl _ _⟩
  case round =>
    obtain ⟨k, hk, rfl, HI⟩ := hrel
    by_cases hlt : k < n
    · obtain ⟨b1, o1, rfl, g, hg, y1⟩ := SlOut.nth (F1.out.below HI.out) (show k < l.length from by rw [HN.out]; exact hlt)
      obtain ⟨b2, o2, rfl, g', hg', y2⟩ := SlOut.nth (F2.out.below HI.out) (show k < l.length from by rw [HN.out]; exact hlt)
      obtain rfl : g = g' := Option.some.inj (hg.symm.trans hg')
      rw [Nat.mul_one] at y1 y2
      clear hg hg'
      go_wp2
      go_region
      go_wp2
      go_roundw
      case rel => exact ⟨k + 1, by omega, by go_num, Below.drew HI.out⟩
      case measure => simp [intOf]; omega
    · obtain rfl : k = n := by omega
      go_wp2
      go_ret
      exact ⟨rfl, HI.out⟩
set_option maxRecDepth 100000 in
set_option maxHeartbeats 4000000 in
theorem names_c {v1 v2 : Value} {S S' : Nat → Prop} {l : List PN} (hl : l.length ≤ 100000) {w : World} (f1 : NsOut S w v1 l) (f2 : NsOut S' w v2 l) :
    Calls Try.prog 29 #[v1, v2] w fun e w' => e = .returned (.bool true) ∧ Below w.heap.size w w' := by
  obtain ⟨A1, c1, rfl, hc1, _⟩ := id f1
  obtain ⟨A2, c2, rfl, hc2, _⟩ := id f2
  have F1 := Lib.hid f1; have F2 := Lib.hid f2
  clear f1 f2
  obtain ⟨n, hn⟩ : ∃ n, l.length = n := ⟨_, rfl⟩
  have HN := Lib.hid hn
  rw [hn] at hl hc1 hc2 F1 F2 ⊢
  clear hn
  go_enter Try.func29, Try.ntmps29
  go_wp2
  go_loopw [5] (fun i wr => ∃ k : Nat, k ≤ n ∧ i = .int .i64 k ∧ Hid (Below w.heap.size w wr)) (fun i _ => n - (intOf i).toNat)
  case atStart => exact ⟨0, Nat.zero_le _, rfl, Below.refl _ _⟩
  case round =>
    obtain ⟨k, hk, rfl, HI⟩ := hrel
    by_cases hlt : k < n
    · obtain ⟨b1, o1, rfl, g, hg, y1, z1⟩ := SlOut.nth (F1.out.below HI.out) (show k < l.length from by rw [HN.out]; exact hlt)
      obtain ⟨b2, o2, rfl, g', hg', y2, z2⟩ := SlOut.nth (F2.out.below HI.out) (show k < l.length from by rw [HN.out]; exact hlt)
      obtain rfl : g = g' := Option.some.inj (hg.symm.trans hg')
      clear hg hg'
      go_wp2
      go_region
      go_wp2
      go_roundw
      case rel => exact ⟨k + 1, by omega, by go_num, Below.drew HI.out⟩
      case measure => simp [intOf]; omega
    · obtain rfl : k = n := by omega
      go_wp2
      go_ret
      exact ⟨rfl, HI.out⟩
theorem bcell {W w1 : World} (hb : Below W.heap.size W w1) : (∀ b o, b < W.heap.size → w1.cell? ⟨b, o, none⟩ = W.cell? ⟨b, o, none⟩) ∧ (∀ b o, b < W.heap.size → w1.frozen? ⟨b, o, none⟩ = W.frozen? ⟨b, o, none⟩) :=
  ⟨fun b o h => hb.cell (p := ⟨b, o, none⟩) h, fun b o h => hb.frozen (p := ⟨b, o, none⟩) h⟩
/-- Two disks in boxes of their own. -/
structure Box2 (w w2 : World) (ca cb : List Value) : Prop where
  below : Below w.heap.size w w2
  size : w.heap.size + 2 ≤ w2.heap.size
  a : Holds w2 w.heap.size ca
  b : Holds w2 (w.heap.size + 1) cb
theorem Box2.step {w w2 w3 : World} {ca cb : List Value} (h : Box2 w w2 ca cb) (hb : Below w2.heap.size w2 w3) : Box2 w w3 ca cb := ⟨bnext h.below hb, Nat.le_trans h.size hb.size, h.a.below hb, h.b.below hb⟩
theorem holds_alloc2 (w : World) (cs : Array Value) (t : TypeId) : Holds (w.alloc (.cells cs t)) w.heap.size cs.toList := by
  have hh : (w.alloc (.cells cs t)).heap[w.heap.size]? = some (.cells cs t) := by
    show (w.heap.push (.cells cs t))[w.heap.size]? = _
    exact Array.getElem?_push_size
  intro j v hv
  rw [cell_of_row _ _ _ _ _ _ hh, ← Array.getElem?_toList]
  exact hv
theorem box2_of (w : World) (ca cb : Array Value) (t1 t2 : TypeId) : Box2 w ((w.alloc (.cells ca t1)).alloc (.cells cb t2)) ca.toList cb.toList := by
  have a1 := alloc_below w (.cells ca t1)
  have h1 := holds_alloc2 w ca t1
  have s1 : (w.alloc (.cells ca t1)).heap.size = w.heap.size + 1 := by simp
  generalize w.alloc (.cells ca t1) = w1 at *
  have a2 := alloc_below w1 (.cells cb t2)
  have h2 := holds_alloc2 w1 cb t2
  have s2 : (w1.alloc (.cells cb t2)).heap.size = w1.heap.size + 1 := by simp
  exact ⟨bnext a1 a2, by rw [s2, s1]; exact Nat.le_refl _, h1.below a2, by rw [← s1]; exact h2⟩
set_option maxRecDepth 100000 in
set_option maxHeartbeats 4000000 in
theorem same_c {S S' : Nat → Prop} {v1 v2 : Value} {D : PD} {w : World} (hf : D.files.length ≤ 100000) (hn : D.names.length ≤ 100000) (hk : D.kept.length ≤ 100000) (hm : D.moves.length ≤ 100000) (fok : ∀ f ∈ D.files, Bytes f.bytes ∧ f.bytes.length ≤ 100000) (f1 : DkOut S w v1 D) (f2 : DkOut S' w v2 D) :
    Calls Try.prog 13 #[v1, v2] w fun e w' => e = .returned (.bool true) ∧ Below w.heap.size w w' := by
  obtain ⟨p1, p2, p3, p4, rfl, F1⟩ := f1
  obtain ⟨r1, r2, r3, r4, rfl, F2⟩ := f2
  obtain ⟨A1, c1, A2, c2, A3, c3, A4, c4, rfl, rfl, rfl, rfl⟩ := F1.forms
  obtain ⟨E1, d1, E2, d2, E3, d3, E4, d4, rfl, rfl, rfl, rfl⟩ := F2.forms
  have NN := Lib.hid (fun y (h : Below w.heap.size w y) => names_c hn (F1.n.below h) (F2.n.below h))
  have NK := Lib.hid (fun y (h : Below w.heap.size w y) => names_c hk (F1.k.below h) (F2.k.below h))
  obtain ⟨nf, hnf⟩ : ∃ n, D.files.length = n := ⟨_, rfl⟩
  obtain ⟨nn, hnn⟩ : ∃ n, D.names.length = n := ⟨_, rfl⟩
  obtain ⟨nk, hnk⟩ : ∃ n, D.kept.length = n := ⟨_, rfl⟩
  obtain ⟨nm, hnm⟩ : ∃ n, D.moves.length = n := ⟨_, rfl⟩
  obtain ⟨q, hq⟩ : ∃ q : Int, ((D.quota : Nat) : Int) = q := ⟨_, rfl⟩
  obtain ⟨x, hx⟩ : ∃ q : Int, ((D.next : Nat) : Int) = q := ⟨_, rfl⟩
  have G1 := Lib.hid F1.f; have G2 := Lib.hid F2.f; have M1 := Lib.hid F1.m; have M2 := Lib.hid F2.m
  have HNF := Lib.hid hnf; have HNM := Lib.hid hnm
  rw [hnf] at hf G1 G2 ⊢
  rw [hnn] at hn NN ⊢
  rw [hnk] at hk NK ⊢
  rw [hnm] at hm M1 M2 ⊢
  rw [hq, hx]
  clear F1 F2 hnf hnn hnk hnm hq hx
  go_enter Try.func13, Try.ntmps13
  go_wp2_with fail
  obtain ⟨W, hW⟩ : ∃ y, (w.alloc (.cells #[.int .i64 q, .slice A1 nf c1, .slice A2 nn c2, .slice A3 nk c3, .slice A4 nm c4, .int .i64 x] 29)).alloc (.cells #[.int .i64 q, .slice E1 nf d1, .slice E2 nn d2, .slice E3 nk d3, .slice E4 nm d4, .int .i64 x] 29) = y := ⟨_, rfl⟩
  have B0 := Lib.hid (show Box2 w W [.int .i64 q, .slice A1 nf c1, .slice A2 nn c2, .slice A3 nk c3, .slice A4 nm c4, .int .i64 x] [.int .i64 q, .slice E1 nf d1, .slice E2 nn d2, .slice E3 nk d3, .slice E4 nm d4, .int .i64 x] from by rw [← hW]; exact box2_of w _ _ _ _)
  rw [hW]
  clear hW
  refine (NN.out _ B0.out.below).mono ?_; rintro _ w2 ⟨rfl, hb⟩
  have B2 := Lib.hid (B0.out.step hb)
  clear hb B0
  obtain ⟨a0, a1, a2, a3, a4, a5⟩ := B2.out.a.six
  obtain ⟨e0, e1, e2, e3, e4, e5⟩ := B2.out.b.six
  go_wp2_with fail
  refine (NK.out _ B2.out.below).mono ?_; rintro _ w3 ⟨rfl, hb⟩
  have B3 := Lib.hid (B2.out.step hb)
  clear hb B2 a0 a1 a2 a3 a4 a5 e0 e1 e2 e3 e4 e5
  go_wp2_with fail
  go_loopw [4, 5, 6, 7] (fun r i u1 u2 wr => ∃ k : Nat, k ≤ nf ∧ i = .int .i64 k ∧ Hid (Box2 w wr [.int .i64 q, .slice A1 nf c1, .slice A2 nn c2, .slice A3 nk c3, .slice A4 nm c4, .int .i64 x] [.int .i64 q, .slice E1 nf d1, .slice E2 nn d2, .slice E3 nk d3, .slice E4 nm d4, .int .i64 x])) (fun _ i _ _ _ => nf - (intOf i).toNat)
  case atStart => exact ⟨0, Nat.zero_le _, rfl, B3⟩
  case round =>
    obtain ⟨k, hk, rfl, HI⟩ := hrel
    obtain ⟨a0, a1, a2, a3, a4, a5⟩ := HI.out.a.six
    obtain ⟨e0, e1, e2, e3, e4, e5⟩ := HI.out.b.six
    by_cases hlt : k < nf
    · obtain ⟨b1, o1, rfl, g, hg, y1, ⟨z1, hz1, hy1⟩, x1⟩ := SlOut.nth (FsOut.below G1.out HI.out.below) (show k < D.files.length from by rw [HNF.out]; exact hlt)
      obtain ⟨b2, o2, rfl, g', hg', y2, ⟨z2, hz2, hy2⟩, x2⟩ := SlOut.nth (FsOut.below G2.out HI.out.below) (show k < D.files.length from by rw [HNF.out]; exact hlt)
      obtain rfl : g = g' := Option.some.inj (hg.symm.trans hg')
      obtain ⟨Z1, i1, rfl, _, _⟩ := id hy1
      obtain ⟨Z2, i2, rfl, _, _⟩ := id hy2
      have HY1 := Lib.hid hy1.out; have HY2 := Lib.hid hy2.out
      obtain ⟨nb, hnb⟩ : ∃ n, g.bytes.length = n := ⟨_, rfl⟩
      rw [hnb] at hz1 hz2 HY1 HY2
      obtain ⟨gi, hgi⟩ : ∃ n : Int, ((g.id : Nat) : Int) = n := ⟨_, rfl⟩
      obtain ⟨gs, hgs⟩ : ∃ n : Int, ((g.sure : Nat) : Int) = n := ⟨_, rfl⟩
      rw [hgi] at y1 y2
      rw [hgs] at x1 x2
      have HNB := Lib.hid hnb
      have HB := Lib.hid (fok _ (List.mem_of_getElem? hg))
      have hl1 : b1 < wr.heap.size := World.block_lt_of_cell? wr _ y1
      have hl2 : b2 < wr.heap.size := World.block_lt_of_cell? wr _ y2
      have hl3 : w.heap.size < wr.heap.size := by have := HI.out.size; omega
      have hl4 : w.heap.size + 1 < wr.heap.size := by have := HI.out.size; omega
      clear hy1 hy2 hnb hgi hgs hg
      go_wp2_with fail
      go_region_held3 (fun y => y.cell? ⟨w.heap.size, 1, none⟩ = some (.slice (some ⟨b1, o1, none⟩) nf c1) ∧ y.cell? ⟨w.heap.size + 1, 1, none⟩ = some (.slice (some ⟨b2, o2, none⟩) nf d1) ∧ y.cell? ⟨b1, o1 + k * 3, none⟩ = some (.int .i64 gi) ∧ y.cell? ⟨b1, o1 + k * 3 + 1, none⟩ = some (.slice Z1 nb i1) ∧ y.cell? ⟨b1, o1 + k * 3 + 2, none⟩ = some (.int .i64 gs) ∧ y.cell? ⟨b2, o2 + k * 3, none⟩ = some (.int .i64 gi) ∧ y.cell? ⟨b2, o2 + k * 3 + 1, none⟩ = some (.slice Z2 nb i2) ∧ y.cell? ⟨b2, o2 + k * 3 + 2, none⟩ = some (.int .i64 gs))
        (first | go_keep)
        (fail)
      all_goals have BS := bySame_c (.slice Z1 nb i1) (.slice Z2 nb i2) g.bytes g.bytes HB.out.2 HB.out.2
      all_goals rw [decide_eq_true rfl] at BS
      all_goals have BSH := Lib.hid (fun y (h : Below wr.heap.size wr y) => BS y (HY1.out.below h) (HY2.out.below h))
      all_goals clear BS HY1 HY2 HB
      all_goals
        go_wp2_with fail
        (first
          | refine (BSH.out _ (bnext (alloc_below _ _) (alloc_below _ _)).drew).mono ?_
          | refine (BSH.out _ (bnext (alloc_below _ _) (alloc_below _ _))).mono ?_)
        rintro _ w4 ⟨rfl, hb⟩
        have B4 := Lib.hid (HI.out.step (bnext ((bnext (alloc_below _ _) (alloc_below _ _)).drew) hb))
        clear hb
        go_wp2
        go_roundw
        case rel => exact ⟨k + 1, by omega, by go_num, B4⟩
        case measure => simp [intOf]; omega
    · obtain rfl : k = nf := by omega
      go_wp2_with fail
      go_loopw [4, 8] (fun r i wm => ∃ m : Nat, m ≤ nm ∧ i = .int .i64 m ∧ Hid (Box2 w wm [.int .i64 q, .slice A1 k c1, .slice A2 nn c2, .slice A3 nk c3, .slice A4 nm c4, .int .i64 x] [.int .i64 q, .slice E1 k d1, .slice E2 nn d2, .slice E3 nk d3, .slice E4 nm d4, .int .i64 x])) (fun _ i _ => nm - (intOf i).toNat)
      case atStart => exact ⟨0, Nat.zero_le _, rfl, HI⟩
      case round =>
        obtain ⟨m, hm, rfl, HJ⟩ := hrel
        clear a0 a1 a2 a3 a4 a5 e0 e1 e2 e3 e4 e5
        obtain ⟨a0, a1, a2, a3, a4, a5⟩ := HJ.out.a.six
        obtain ⟨e0, e1, e2, e3, e4, e5⟩ := HJ.out.b.six
        by_cases hlt : m < nm
        · obtain ⟨b1, o1, rfl, g, hg, y1, y2, y3, y4⟩ := SlOut.nth (MsOut.below M1.out HJ.out.below) (show m < D.moves.length from by rw [HNM.out]; exact hlt)
          obtain ⟨b2, o2, rfl, g', hg', x1, x2, x3, x4⟩ := SlOut.nth (MsOut.below M2.out HJ.out.below) (show m < D.moves.length from by rw [HNM.out]; exact hlt)
          obtain rfl : g = g' := Option.some.inj (hg.symm.trans hg')
          clear hg hg'
          go_wp2_with fail
          go_region
          go_wp2
          go_roundw
          case rel => exact ⟨m + 1, by omega, by go_num, HJ.out.step (Below.refl _ _).drew⟩
          case measure => simp [intOf]; omega
        · obtain rfl : m = nm := by omega
          go_wp2
          go_ret
          exact ⟨rfl, HJ.out.below⟩
end Go.Proofs.Ytmkjjcogheidmaa.DW
