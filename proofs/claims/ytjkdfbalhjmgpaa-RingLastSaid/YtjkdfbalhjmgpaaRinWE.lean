/-
  Walks of the statements of layer 13: each slot is told as it was set last.
-/
import Derived.Test.YtjkdfbalhjmgpaaRinWA
import Derived.Test.YtjkdfbalhjmgpaaRinLast
import Derived.Test.YtjkdfbalhjmgpaaRinRA
import Derived.Deep.DeepCutAuto
set_option linter.unusedSimpArgs false
set_option linter.unusedVariables false
namespace Go.Proofs.Ytjkdfbalhjmgpaa.IW
open Go.RowKit IP
/-- A variable that holds a ring of a call's own, on its way. -/
structure LastI (s : Int) (b n : Nat) (A : Option Addr) (c : Nat) (L : List (Int × Int)) (w0 w : World) : Prop where
  c0 : w.cell? ⟨b, 0, none⟩ = some (.int .i64 s)
  c1 : w.cell? ⟨b, 1, none⟩ = some (.slice A n c)
  f0 : w.frozen? ⟨b, 0, none⟩ = false
  f1 : w.frozen? ⟨b, 1, none⟩ = false
  out : RgOut w (.slice A n c) L
  below : Below b w0 w
  lt : b < w.heap.size
theorem LastI.grow {s : Int} {b n c : Nat} {A : Option Addr} {L : List (Int × Int)} {w0 w w' : World} (h : LastI s b n A c L w0 w) (hb : Below w.heap.size w w') : LastI s b n A c L w0 w' :=
  ⟨cellb hb h.c0, cellb hb h.c1, (hb.frozen (p := ⟨b, 0, none⟩) h.lt).trans h.f0, (hb.frozen (p := ⟨b, 1, none⟩) h.lt).trans h.f1, h.out.below hb, h.below.trans (hb.mono (Nat.le_of_lt h.lt)), Nat.lt_of_lt_of_le h.lt hb.size⟩
theorem LastI.put {s : Int} {b n c c' : Nat} {A A' : Option Addr} {L L' : List (Int × Int)} {w0 w w1 : World} (h : LastI s b n A c L w0 w) (hb : Below w.heap.size w w1) (ho : RgNew w.heap.size w1 (.slice A' n c') L') :
    LastI s b n A' c' L' w0 ((w1.setCell ⟨b, 0, none⟩ (.int .i64 s)).setCell ⟨b, 1, none⟩ (.slice A' n c')) := by
  have g := h.grow hb
  have hk : RgNew w.heap.size ((w1.setCell ⟨b, 0, none⟩ (.int .i64 s)).setCell ⟨b, 1, none⟩ (.slice A' n c')) (.slice A' n c') L' := ho.keep (fun k h1 _ _ => by
    have := h.lt
    exact (heap_setCell_other _ ⟨b, 1, none⟩ k _ (by show k ≠ b; omega)).trans (heap_setCell_other _ ⟨b, 0, none⟩ k _ (by show k ≠ b; omega)))
  refine ⟨?_, ?_, ?_, ?_, hk.out, below_put2 g.below (Nat.le_refl b) _ _, ?_⟩
  · refine (World.cell?_setCell_other _ _ _ _ (by intro e; injection e with _ e; cases e)).trans ?_
    exact World.cell?_setCell_same _ _ _ g.c0
  · refine World.cell?_setCell_same _ _ _ ((World.cell?_setCell_other _ _ _ _ (by intro e; injection e with _ e; cases e)).trans g.c1)
  · rw [World.frozen?_setCell, World.frozen?_setCell]; exact g.f0
  · rw [World.frozen?_setCell, World.frozen?_setCell]; exact g.f1
  · have := g.lt; simpa using this
/-- A variable that holds a number on its way. -/
structure WantI (b : Nat) (o : Option Int) (w0 w : World) : Prop where
  c0 : w.cell? ⟨b, 0, none⟩ = some (.bool o.isNone)
  c1 : w.cell? ⟨b, 1, none⟩ = some (.int .i64 (o.getD 0))
  f0 : w.frozen? ⟨b, 0, none⟩ = false
  f1 : w.frozen? ⟨b, 1, none⟩ = false
  below : Below b w0 w
  lt : b < w.heap.size
theorem WantI.grow {b : Nat} {o : Option Int} {w0 w w' : World} (h : WantI b o w0 w) (hb : Below w.heap.size w w') : WantI b o w0 w' :=
  ⟨cellb hb h.c0, cellb hb h.c1, (hb.frozen (p := ⟨b, 0, none⟩) h.lt).trans h.f0, (hb.frozen (p := ⟨b, 1, none⟩) h.lt).trans h.f1, h.below.trans (hb.mono (Nat.le_of_lt h.lt)), Nat.lt_of_lt_of_le h.lt hb.size⟩
theorem WantI.put {b : Nat} {o : Option Int} {w0 w : World} (h : WantI b o w0 w) (p : Option Int) {x y : Value} (hx : x = .bool p.isNone) (hy : y = .int .i64 (p.getD 0)) :
    WantI b p w0 ((w.setCell ⟨b, 0, none⟩ x).setCell ⟨b, 1, none⟩ y) := by
  subst hx hy
  refine ⟨?_, ?_, ?_, ?_, below_put2 h.below (Nat.le_refl b) _ _, ?_⟩
  · refine (World.cell?_setCell_other _ _ _ _ (by intro e; injection e with _ e; cases e)).trans ?_
    exact World.cell?_setCell_same _ _ _ h.c0
  · refine World.cell?_setCell_same _ _ _ ((World.cell?_setCell_other _ _ _ _ (by intro e; injection e with _ e; cases e)).trans h.c1)
  · rw [World.frozen?_setCell, World.frozen?_setCell]; exact h.f0
  · rw [World.frozen?_setCell, World.frozen?_setCell]; exact h.f1
  · have := h.lt; simpa using this
theorem own_alloc {B n : Nat} {w5 : World} {v : Value} {L : List (Int × Int)} {ob : Obj} (h : RgNew B w5 v L) (hB : n ≤ B) : RgNew n (w5.alloc ob) v L := (h.below (alloc_below _ _)).mono hB
theorem own_puts {B n : Nat} {w5 : World} {v : Value} {L : List (Int × Int)} {x y : Value} (h : RgNew B w5 v L) (hB : n < B) : RgNew n ((w5.setCell ⟨n, 0, none⟩ x).setCell ⟨n, 1, none⟩ y) v L :=
  (h.mono (Nat.le_of_lt hB)).keep (fun g _ _ hg => by
    have h1 := (own_lt h hg).1
    exact (heap_setCell_other _ ⟨n, 1, none⟩ g _ (by show g ≠ n; omega)).trans (heap_setCell_other _ ⟨n, 0, none⟩ g _ (by show g ≠ n; omega)))
set_option maxRecDepth 100000 in
set_option maxHeartbeats 4000000 in
theorem ringLast_c (x y : Nat) (hx : x ≤ 255) (hy : y ≤ 255) (v : Value) (l : List (Nat × Int)) (hl : ∀ a ∈ l, a.1 ≤ 65535) (w : World) (o : AcOut w v l) :
    Calls Try.prog 6 #[.int .u8 (x : Int), .int .u8 (y : Int), v] w fun e w' => e = .returned (.bool true) ∧ Below w.heap.size w w' := by
  obtain ⟨A, cp, rfl, hcp, hxx⟩ := o
  obtain ⟨m, hm⟩ : ∃ m, l.length = m := ⟨_, rfl⟩
  rw [hm] at hcp ⊢
  have HXX := Lib.hid hxx; have HM := Lib.hid hm; have HL := Lib.hid hl
  have AL := Lib.hid (alive_c w)
  clear hxx hm hl
  by_cases h100 : 100 < m
  · have hi : (100 : Int) < (m : Int) := by omega
    go_enter Try.func6, Try.ntmps6
    go_wp2_with fail
    refine AL.out.mono ?_; rintro _ w1 ⟨rfl, hb1⟩
    go_wp2
    go_ret
    exact ⟨rfl, hb1⟩
  · have hi : ¬ (100 : Int) < (m : Int) := by omega
    have m100 : m ≤ 100 := by omega
    go_enter Try.func6, Try.ntmps6
    go_wp2_with fail
    refine AL.out.mono ?_; rintro _ w1 ⟨rfl, hb1⟩
    have B1 := Lib.hid hb1
    clear hb1
    go_wp2_with fail
    obtain ⟨W, hW⟩ : ∃ W : Int, 1 + (x : Int) % 20 = W := ⟨_, rfl⟩
    obtain ⟨N, hN⟩ : ∃ N : Nat, 1 + (y : Int) % 20 = (N : Int) := ⟨1 + y % 20, by omega⟩
    have W0 : 1 ≤ W ∧ W ≤ 20 := by omega
    have N0 : 1 ≤ N ∧ N ≤ 20 := by omega
    rw [hW, hN]
    clear hW hN
    have hm : rMay W N = true := rMay_iff.2 (by omega)
    have NW := new_c W N w1
    rw [show newL W N = rNew N from if_pos hm, show newS W N = W from if_pos hm, show newE W N = 0 from if_pos hm, show (rNew N).length = N from List.length_replicate] at NW
    have RIGHT := Lib.hid (fun (k : Nat) => actR_right (s := W) (l.take k) (rNew_right hm))
    have SET := Lib.hid (fun (k : Nat) (t : Nat) (z : Int) (u : Value) (X : World) (h : RgOut X u (actR W (rNew N) (l.take k))) => set_c W t z u (actR W (rNew N) (l.take k)) (by rw [(actR_right (s := W) (l.take k) (rNew_right hm)).2, show (rNew N).length = N from List.length_replicate]; omega) X h)
    have WANT := Lib.hid (fun (t : Nat) (ht : t ≤ 65535) => actR_want (s := W) (n := N) hm (q := t) (rTm_iff.2 (by omega)) l HL.out)
    have GET := Lib.hid (fun (t : Nat) (u : Value) (X : World) (h : RgOut X u (actR W (rNew N) l)) => get_c W t u (actR W (rNew N) l) (by rw [(actR_right (s := W) l (rNew_right hm)).2, show (rNew N).length = N from List.length_replicate]; omega) X h)
    have LIV := Lib.hid (fun (u : Value) (X : World) (h : RgOut X u (actR W (rNew N) l)) => live_c W u (actR W (rNew N) l) (by rw [(actR_right (s := W) l (rNew_right hm)).2, show (rNew N).length = N from List.length_replicate]; omega) X h)
    have LLEN := Lib.hid (show ∀ S, rLive W (actR W (rNew N) l) S → S.length ≤ N from fun S h => by
      obtain ⟨h1, h2⟩ := actR_right (s := W) l (rNew_right hm)
      rw [(h.yes h1).1.length_eq]
      refine Nat.le_trans (rFull_length _) ?_
      rw [h2, show (rNew N).length = N from List.length_replicate]
      exact Nat.le_refl _)
    clear hm hx hy
    refine NW.mono ?_; rintro _ w2 ⟨A1, c1, rfl, h1, hb1⟩
    obtain ⟨q0, q1, q2, q3⟩ := two_new w2 (.int .i64 W) (.slice A1 N c1) 24
    have hb2 := alloc_below w2 (.cells #[.int .i64 W, .slice A1 N c1] 24)
    obtain ⟨w3, hw3⟩ : ∃ w3, w2.alloc (.cells #[.int .i64 W, .slice A1 N c1] 24) = w3 := ⟨_, rfl⟩
    have z3 : w3.heap.size = w2.heap.size + 1 := by rw [← hw3]; simp
    rw [hw3] at q0 q1 q2 q3 hb2
    have HW3 := Lib.hid hw3
    have ST := Lib.hid (show LastI W w2.heap.size N A1 c1 (actR W (rNew N) (l.take 0)) w2 w3 from ⟨q0, q1, q2, q3, h1.out.below hb2, hb2, by omega⟩)
    have B2 := Lib.hid (bnext B1.out hb1)
    have HXX3 := Lib.hid (show ∀ W' : World, Below w2.heap.size w2 W' → l ≠ [] → ∃ b off, A = some ⟨b, off, none⟩ ∧ AcAt W' b off l from fun W' h hn => by
      obtain ⟨b, off, e1, e2⟩ := HXX.out hn
      exact ⟨b, off, e1, e2.below (bnext B2.out h)⟩)
    clear hw3 hb1 hb2 h1 NW q0 q1 q2 q3 z3
    go_wp2_with fail
    rw [HW3.out]
    go_wp2_with fail
    go_loopw [11] (fun i wr => ∃ (k : Nat), k ≤ m ∧ i = .int .i64 k ∧ Hid (∃ (A5 : Option Addr) (c5 : Nat), LastI W w2.heap.size N A5 c5 (actR W (rNew N) (l.take k)) w2 wr)) (fun i _ => m - (intOf i).toNat)
    case atStart => exact ⟨0, Nat.zero_le _, rfl, A1, c1, ST.out⟩
    case round =>
      obtain ⟨k, hk, rfl, HI⟩ := hrel
      obtain ⟨A5, c5, hst⟩ := HI.out
      have LS := Lib.hid hst
      by_cases hlt : k < m
      · have hkl : k < l.length := by rw [HM.out]; exact hlt
        obtain ⟨bl, off, rfl, ha⟩ := HXX3.out wr (LS.out.below) (by intro e; rw [e] at hkl; exact absurd hkl (Nat.not_lt_zero _))
        have hp0 := List.getElem?_eq_getElem hkl
        obtain ⟨⟨t, z⟩, hp⟩ : ∃ p, l[k] = p := ⟨_, rfl⟩
        rw [hp] at hp0
        obtain ⟨y0, y1⟩ := ha k _ hp0
        simp only at y0 y1
        have t655 : t ≤ 65535 := HL.out (t, z) (List.mem_of_getElem? hp0)
        have NX := Lib.hid (show actR W (rNew N) (l.take (k + 1)) = setL W (actR W (rNew N) (l.take k)) t z from by rw [take_succ_some hp0, actR_snoc])
        have SC := Lib.hid (SET.out k t z)
        obtain ⟨R1, R2⟩ := RIGHT.out k
        obtain ⟨E1, E2⟩ := setE_code (s := W) (t := t) (v := z) R1 (rTm_iff.2 (by omega))
        have LEN := R2.trans (show (rNew N).length = N from List.length_replicate)
        obtain ⟨E, hE⟩ : ∃ E, setE W (actR W (rNew N) (l.take k)) t z = E := ⟨_, rfl⟩
        obtain ⟨L5, hL5⟩ : ∃ L, actR W (rNew N) (l.take k) = L := ⟨_, rfl⟩
        rw [hL5] at SC LEN LS NX E1 E2 hE
        rw [hE] at E1 E2
        have SC2 := SC.out
        rw [hE, LEN] at SC2
        have SC3 := Lib.hid SC2
        have hwt : IntKind.i64.wrap (t : Int) = (t : Int) := by rw [IntKind.wrap_i64]; omega
        have EC := Lib.hid (show (z = -9223372036854775808 → E = 1) ∧ (z ≠ -9223372036854775808 → E = 0) from ⟨E1, E2⟩)
        obtain ⟨L6, hL6⟩ : ∃ L, setL W L5 t z = L := ⟨_, rfl⟩
        rw [hL6] at NX SC3
        have SCX := Lib.hid (fun (X : World) (h : Below wr.heap.size wr X) => SC3.out _ X (LS.out.out.below h))
        have c0 := LS.out.c0; have c1' := LS.out.c1
        have H4 := Lib.hid (show wr.cell? ⟨w2.heap.size, 0, none⟩ = some (.int .i64 W) ∧ wr.cell? ⟨w2.heap.size, 1, none⟩ = some (.slice A5 N c5) ∧ wr.cell? ⟨bl, off + k * 2, none⟩ = some (.int .u16 (t : Int)) ∧ wr.cell? ⟨bl, off + k * 2 + 1, none⟩ = some (.int .i64 z) from ⟨c0, c1', y0, y1⟩)
        have ltb := World.block_lt_of_cell? wr _ y0
        have ltq := LS.out.lt
        clear hp hp0 hkl ha HI hst SC SC2 R1 R2 E1 E2 LEN hE hL5 hL6
        go_wp2_with fail
        go_cut [12, 13] (fun p e wx => ∃ (b' : Nat) (A' : Option Addr) (c' : Nat), p = .pointer (some ⟨b', 0, none⟩) ∧ e = .int .i64 E ∧ wx.cell? ⟨b', 0, none⟩ = some (.int .i64 W) ∧ wx.cell? ⟨b', 1, none⟩ = some (.slice A' N c') ∧ RgNew wr.heap.size wx (.slice A' N c') L6 ∧ Below wr.heap.size wr wx)
        case first =>
          go_region_held3 (fun y' => y'.cell? ⟨w2.heap.size, 0, none⟩ = some (.int .i64 W) ∧ y'.cell? ⟨w2.heap.size, 1, none⟩ = some (.slice A5 N c5) ∧ y'.cell? ⟨bl, off + k * 2, none⟩ = some (.int .u16 (t : Int)) ∧ y'.cell? ⟨bl, off + k * 2 + 1, none⟩ = some (.int .i64 z))
            (first | go_keep | assumption | (exact held4 T2 H4.out) | (exact held4 (below_put2 T2 (by omega) _ _) H4.out) | (exact held4 (T2.alloc (by omega) _) H4.out))
            (first | (go_at_call 24; with_reducible refine Calls.mono (SCX.out _ ?_) ?_; (first | exact (Below.refl wr.heap.size wr) | exact (Below.refl wr.heap.size wr).drew | (exact ((Below.refl wr.heap.size wr).alloc (Nat.le_refl _) _)) | (exact ((Below.refl wr.heap.size wr).alloc (Nat.le_refl _) _).drew) | (exact ((Below.refl wr.heap.size wr).drew.alloc (Nat.le_refl _) _))); rintro e w5 ⟨A', c', rfl, hn5, hb5⟩; have T2 : Below wr.heap.size wr w5 := bnext (by first | exact (Below.refl wr.heap.size wr) | exact (Below.refl wr.heap.size wr).drew | (exact ((Below.refl wr.heap.size wr).alloc (Nat.le_refl _) _)) | (exact ((Below.refl wr.heap.size wr).alloc (Nat.le_refl _) _).drew) | (exact ((Below.refl wr.heap.size wr).drew.alloc (Nat.le_refl _) _))) hb5; have q2 : w5.cell? ⟨w2.heap.size, 0, none⟩ = some (.int .i64 W) ∧ w5.cell? ⟨w2.heap.size, 1, none⟩ = some (.slice A5 N c5) ∧ w5.cell? ⟨bl, off + k * 2, none⟩ = some (.int .u16 (t : Int)) ∧ w5.cell? ⟨bl, off + k * 2 + 1, none⟩ = some (.int .i64 z) := held4 T2 H4.out; have t2 := T2.size; obtain ⟨hc2, hf2⟩ := bcell hb5; obtain ⟨ca2, cb2, cc2, cd2⟩ := id q2))
          all_goals (try go_wp2_with fail)
          all_goals go_meet
          all_goals refine ⟨_, A', c', rfl, rfl, ?_, ?_, ?_, ?_⟩
          all_goals (first | (go_simp; done) | (exact own_alloc hn5 (Nat.le_refl _)) | (exact own_alloc hn5 (by simp)) | (exact own_puts hn5 (by simp)) | (refine below_put2 T2 ?_ _ _; omega) | (refine T2.alloc ?_ _; omega) | (exact T2))
        case rest =>
          obtain ⟨b', A', c', rfl, rfl, e0, e1, hn, hb⟩ := hcut
          have LG := LS.out.grow hb
          have PUT := Lib.hid (LS.out.put hb hn)
          have c0 := LG.c0; have c1'' := LG.c1; have f0 := LG.f0; have f1 := LG.f1
          have y0 := cellb hb y0; have y1 := cellb hb y1
          have NE := Lib.hid (show w2.heap.size < wc.heap.size from LG.lt)
          clear hn hb LG SC3 SCX H4 hwt
          have EC2 := EC.out
          by_cases hz : z = -9223372036854775808
          · obtain rfl := EC2.1 hz
            subst hz
            clear EC2
            go_wp2_with fail
            refine ⟨⟨k + 1, by omega, by go_num, A', c', ?_⟩, by simp [intOf]; omega⟩
            rw [NX.out]
            exact PUT.out
          · obtain rfl := EC2.2 hz
            have hzb : (z != -9223372036854775808) = true := by simp [hz]
            clear EC2
            go_wp2_with fail
            refine ⟨⟨k + 1, by omega, by go_num, A', c', ?_⟩, by simp [intOf]; omega⟩
            rw [NX.out]
            exact PUT.out
      · obtain rfl : k = m := by omega
        have LS2 := LS.out
        rw [List.take_of_length_le (Nat.le_of_eq HM.out)] at LS2
        have LW := Lib.hid LS2
        clear HI hst LS LS2
        have HXX4 := Lib.hid (show ∀ W' : World, Below wr.heap.size wr W' → l ≠ [] → ∃ b off, A = some ⟨b, off, none⟩ ∧ AcAt W' b off l from fun W' h hn => by
          have h2 := LW.out.below
          exact HXX3.out W' (h2.trans (h.mono h2.size)) hn)
        have HQ := Lib.hid (show 0 < W ∧ 0 < (N : Int) from by omega)
        have BW := Lib.hid (show Below w.heap.size w wr from bnext B2.out LW.out.below)
        clear HXX HXX3 SET RIGHT ST
        obtain ⟨wB, hwB⟩ : ∃ x, x = wr := ⟨_, rfl⟩
        subst hwB
        go_wp2_with fail
        go_loopw [14] (fun i wx => ∃ (k2 : Nat), k2 ≤ k ∧ i = .int .i64 k2 ∧ Hid (Below wB.heap.size wB wx)) (fun i _ => k - (intOf i).toNat)
        case atStart => exact ⟨0, Nat.zero_le _, rfl, Below.refl _ _⟩
        case round =>
          obtain ⟨k2, hk2, rfl, HJ⟩ := hrel
          have LG := LW.out.grow HJ.out
          have LS := Lib.hid LG
          have c0 := LG.c0; have c1' := LG.c1
          by_cases hlt2 : k2 < k
          · have hkl : k2 < l.length := by rw [HM.out]; exact hlt2
            obtain ⟨bl, off, rfl, ha⟩ := HXX4.out _ HJ.out (by intro e; rw [e] at hkl; exact absurd hkl (Nat.not_lt_zero _))
            have hp0 := List.getElem?_eq_getElem hkl
            obtain ⟨⟨t, z⟩, hp⟩ : ∃ p, l[k2] = p := ⟨_, rfl⟩
            rw [hp] at hp0
            obtain ⟨y0, y1⟩ := ha k2 _ hp0
            simp only at y0 y1
            have t655 : t ≤ 65535 := HL.out (t, z) (List.mem_of_getElem? hp0)
            have hwt : IntKind.i64.wrap (t : Int) = (t : Int) := by rw [IntKind.wrap_i64]; omega
            obtain ⟨q, hq⟩ : ∃ q : Int, (t : Int) / W = q := ⟨_, rfl⟩
            have q0 : 0 ≤ q := by rw [← hq]; exact Int.ediv_nonneg (by omega) (by omega)
            have q1 : q ≤ 65535 := by rw [← hq]; exact Int.le_trans (Int.ediv_le_self _ (by omega)) (by omega)
            have hqw : RowKit.wrap64 ((t : Int).tdiv W) = q := by rw [Int.tdiv_eq_ediv_of_nonneg (by omega), hq, IntWalk.wrap64_in q (by omega)]
            have WN := WANT.out t t655
            rw [hq] at WN
            have GT := GET.out t (.slice A5 N c5)
            rw [WN] at GT
            have GT := Lib.hid GT
            have NO := Lib.hid IR.nothing_c
            clear hp hp0 hkl ha LG WN
            go_wp2_with fail
            refine (NO.out _).mono ?_; rintro _ w6 ⟨rfl, hb6⟩
            have LG6 := LS.out.grow hb6
            obtain ⟨e0, e1, e2, e3⟩ := two_new w6 (.bool true) (.int .i64 0) 34
            have hb7 := alloc_below w6 (.cells #[.bool true, .int .i64 0] 34)
            obtain ⟨w7, hw7⟩ : ∃ w7, w6.alloc (.cells #[.bool true, .int .i64 0] 34) = w7 := ⟨_, rfl⟩
            have z7 : w7.heap.size = w6.heap.size + 1 := by rw [← hw7]; simp
            rw [hw7] at e0 e1 e2 e3 hb7
            have WS := Lib.hid (show WantI w6.heap.size (wantW W N q (l.take 0)) w6 w7 from ⟨e0, e1, e2, e3, hb7, by omega⟩)
            have HW7 := Lib.hid hw7
            have L6 := Lib.hid LG6
            have B6 := Lib.hid (show Below wB.heap.size wB w6 from bnext HJ.out hb6)
            have TY := Lib.hid (show w6.cell? ⟨bl, off + k2 * 2, none⟩ = some (.int .u16 (t : Int)) from cellb hb6 y0)
            have T655 := Lib.hid t655
            have HK2 := Lib.hid hlt2
            have ACT := Lib.hid (show bl < w6.heap.size from Nat.lt_of_lt_of_le (World.block_lt_of_cell? _ _ y0) hb6.size)
            have HXX6 := Lib.hid (show ∀ W' : World, Below w6.heap.size w6 W' → l ≠ [] → ∃ b o', some (⟨bl, off, none⟩ : Addr) = some ⟨b, o', none⟩ ∧ AcAt W' b o' l from fun W' h hn => HXX4.out W' (bnext B6.out h) hn)
            clear hw7 hb7 hb6 e0 e1 e2 e3 z7 LG6 LS HJ c0 c1' y0 y1
            go_wp2_with fail
            rw [HW7.out]
            clear hqw hwt
            obtain ⟨wC, hwC⟩ : ∃ x, x = w7 := ⟨_, rfl⟩
            subst hwC
            go_wp2_with fail
            go_loopw [17] (fun i wx => ∃ (k3 : Nat), k3 ≤ k ∧ i = .int .i64 k3 ∧ Hid (WantI w6.heap.size (wantW W N q (l.take k3)) w6 wx)) (fun i _ => k - (intOf i).toNat)
            case atStart => exact ⟨0, Nat.zero_le _, rfl, WS.out⟩
            case round =>
              obtain ⟨k3, hk3, rfl, HK⟩ := hrel
              have WK := HK.out
              by_cases hlt3 : k3 < k
              · have hkl3 : k3 < l.length := by rw [HM.out]; exact hlt3
                obtain ⟨bl', off', ebl, ha⟩ := HXX6.out wr WK.below (by intro e; rw [e] at hkl3; exact absurd hkl3 (Nat.not_lt_zero _))
                injection ebl with ebl
                injection ebl with ebl1 ebl2
                subst ebl1 ebl2
                have hp0 := List.getElem?_eq_getElem hkl3
                obtain ⟨⟨t2, z2⟩, hp⟩ : ∃ p, l[k3] = p := ⟨_, rfl⟩
                rw [hp] at hp0
                obtain ⟨y0, y1⟩ := ha k3 _ hp0
                simp only at y0 y1
                have t655' : t2 ≤ 65535 := HL.out (t2, z2) (List.mem_of_getElem? hp0)
                have hwt : IntKind.i64.wrap (t2 : Int) = (t2 : Int) := by rw [IntKind.wrap_i64]; omega
                obtain ⟨q2, hq2⟩ : ∃ q : Int, (t2 : Int) / W = q := ⟨_, rfl⟩
                have q20 : 0 ≤ q2 := by rw [← hq2]; exact Int.ediv_nonneg (by omega) (by omega)
                have q21 : q2 ≤ 65535 := by rw [← hq2]; exact Int.le_trans (Int.ediv_le_self _ (by omega)) (by omega)
                have hqw : RowKit.wrap64 ((t2 : Int).tdiv W) = q2 := by rw [Int.tdiv_eq_ediv_of_nonneg (by omega), hq2, IntWalk.wrap64_in q2 (by omega)]
                have NX := Lib.hid (show wantW W N q (l.take (k3 + 1)) = (if z2 = -9223372036854775808 ∨ q2 % (N : Int) ≠ q % (N : Int) then wantW W N q (l.take k3) else if q2 = q then some z2 else none) from by rw [take_succ_some hp0, wantW_snoc]; unfold wantS; simp only; rw [hq2])
                obtain ⟨cur, hcur⟩ : ∃ o, wantW W N q (l.take k3) = o := ⟨_, rfl⟩
                rw [hcur] at NX WK
                have WK2 := Lib.hid WK
                have c0 := WK.c0; have c1' := WK.c1; have f0 := WK.f0; have f1 := WK.f1; have ltw := WK.lt
                clear hp hp0 hkl3 ha HK hcur WK
                obtain ⟨r1, hr1⟩ : ∃ r, q % (N : Int) = r := ⟨_, rfl⟩
                obtain ⟨r2, hr2⟩ : ∃ r, q2 % (N : Int) = r := ⟨_, rfl⟩
                rw [hr1, hr2] at NX
                have n0 := HQ.out.2
                have Y1 : ∀ zz : Laid wr, zz.W.cell? ⟨bl, off + k3 * 2 + 1, none⟩ = some (.int .i64 z2) := fun zz => cellb zz.h y1
                by_cases hz : z2 = -9223372036854775808
                · have NX2 := Lib.hid (NX.out.trans (if_pos (Or.inl hz)))
                  subst hz
                  clear NX
                  go_wp2_with fail
                  refine wp_region_laid (by kernel_rfl) (by kernel_rfl) ?_
                  repeat (go_big_quiet_step (fail))
                  refine wpQuiet_nil ?_
                  intro _ hw'
                  obtain ⟨pq, hw''⟩ := hw'
                  subst hw''
                  have WP := Lib.hid (WK2.out.grow pq.h)
                  go_wp2_with fail
                  go_roundw
                  case rel => exact ⟨k3 + 1, by omega, by go_num, by rw [NX2.out]; exact WP.out⟩
                  case measure => simp [intOf]; omega
                · have hzb : (z2 == -9223372036854775808) = false := by simp [hz]
                  by_cases hr : r2 = r1
                  · subst hr
                    have hrb : (r2 != r2) = false := by simp
                    have nb : w6.heap.size ≠ bl := by
                      have h1 := World.block_lt_of_cell? wr _ y1
                      have h2 := ACT.out
                      omega
                    have nb2 : bl ≠ w6.heap.size := fun h => nb h.symm
                    go_wp2_with fail
                    refine wp_region_laid (by kernel_rfl) (by kernel_rfl) ?_
                    repeat (go_big_quiet_step (fail))
                    refine wpQuiet_nil ?_
                    intro _ hw'
                    obtain ⟨pq, hw''⟩ := hw'
                    subst hw''
                    have WP := Lib.hid (WK2.out.grow pq.h)
                    go_wp2_with fail
                    refine (NO.out _).mono ?_; rintro _ w8 ⟨rfl, hb8⟩
                    have WP8 := Lib.hid (WP.out.grow hb8)
                    have y1' := cellb hb8 (Y1 pq)
                    have PUT0 := Lib.hid (WP8.out.put none rfl rfl)
                    have c0 := WP8.out.c0; have c1' := WP8.out.c1; have f0 := WP8.out.f0; have f1 := WP8.out.f1
                    clear hb8 Y1 y0 y1
                    by_cases hqq : q2 = q
                    · have NX2 := Lib.hid (NX.out.trans ((if_neg (fun h => h.elim hz (fun h => h rfl))).trans (if_pos hqq)))
                      have PUT1 := Lib.hid (PUT0.out.put (some z2) rfl rfl)
                      subst hqq
                      clear NX
                      go_wp2_with fail
                      go_roundw
                      case rel => exact ⟨k3 + 1, by omega, by go_num, by rw [NX2.out]; exact PUT1.out⟩
                      case measure => simp [intOf]; omega
                    · have NX2 := Lib.hid (NX.out.trans ((if_neg (fun h => h.elim hz (fun h => h rfl))).trans (if_neg hqq)))
                      clear NX
                      go_wp2_with fail
                      go_roundw
                      case rel => exact ⟨k3 + 1, by omega, by go_num, by rw [NX2.out]; exact PUT0.out⟩
                      case measure => simp [intOf]; omega
                  · have NX2 := Lib.hid (NX.out.trans (if_pos (Or.inr hr)))
                    have hrb : (r2 != r1) = true := by simp [hr]
                    clear NX
                    go_wp2_with fail
                    refine wp_region_laid (by kernel_rfl) (by kernel_rfl) ?_
                    repeat (go_big_quiet_step (fail))
                    refine wpQuiet_nil ?_
                    intro _ hw'
                    obtain ⟨pq, hw''⟩ := hw'
                    subst hw''
                    have WP := Lib.hid (WK2.out.grow pq.h)
                    go_wp2_with fail
                    go_roundw
                    case rel => exact ⟨k3 + 1, by omega, by go_num, by rw [NX2.out]; exact WP.out⟩
                    case measure => simp [intOf]; omega
              · obtain rfl : k3 = k := by omega
                have WK3 := WK
                rw [List.take_of_length_le (Nat.le_of_eq HM.out)] at WK3
                obtain ⟨o, ho⟩ : ∃ o, wantW W N q l = o := ⟨_, rfl⟩
                rw [ho] at GT WK3
                obtain ⟨bb, hbb⟩ : ∃ b, o.isNone = b := ⟨_, rfl⟩
                obtain ⟨zz, hzz⟩ : ∃ b, o.getD 0 = b := ⟨_, rfl⟩
                have hnu : nuC o = [.bool bb, .int .i64 zz] := by unfold nuC; rw [hbb, hzz]
                have c0 := WK3.c0; have c1' := WK3.c1
                rw [hbb] at c0
                rw [hzz] at c1'
                have GT2 := GT.out
                rw [hnu] at GT2
                have LW6 := L6.out.grow WK3.below
                have d0 := LW6.c0; have d1 := LW6.c1
                have ty := cellb WK3.below TY.out
                have hwt : IntKind.i64.wrap (t : Int) = (t : Int) := by have := T655.out; rw [IntKind.wrap_i64]; omega
                have Y0 : ∀ z : Laid wr, z.W.cell? ⟨w2.heap.size, 0, none⟩ = some (.int .i64 W) := fun z => cellb z.h d0
                have Y1 : ∀ z : Laid wr, z.W.cell? ⟨w2.heap.size, 1, none⟩ = some (.slice A5 N c5) := fun z => cellb z.h d1
                have Y2 : ∀ z : Laid wr, z.W.cell? ⟨bl, off + k2 * 2, none⟩ = some (.int .u16 (t : Int)) := fun z => cellb z.h ty
                have Y3 : ∀ z : Laid wr, z.W.cell? ⟨w6.heap.size, 0, none⟩ = some (.bool bb) := fun z => cellb z.h c0
                have Y4 : ∀ z : Laid wr, z.W.cell? ⟨w6.heap.size, 1, none⟩ = some (.int .i64 zz) := fun z => cellb z.h c1'
                have GTL := Lib.hid (fun z : Laid wr => GT2 z.W (LW6.out.below z.h))
                have BN := Lib.hid (bnext B6.out WK3.below)
                have hk2 := HK2.out
                have hbe : (bb != bb) = false := by simp
                have hze : (zz != zz) = false := by simp
                clear HK hbb hzz hnu GT GT2 c0 c1' WK WK3 d0 d1 ty ho LW6
                go_wp2_with fail
                refine wp_region_laid (by kernel_rfl) (by kernel_rfl) ?_
                repeat (go_big_quiet_step (first | (go_at_call 18; with_reducible exact Calls.laid (GTL.out _))))
                refine wpQuiet_nil ?_
                intro _ hw'
                obtain ⟨pq, hw''⟩ := hw'
                subst hw''
                go_wp2_with fail
                exact ⟨⟨k2 + 1, by omega, by go_num, bnext BN.out pq.h⟩, by simp [intOf]; omega⟩
          · have LV := Lib.hid (LIV.out _ _ LS.out.out)
            have BJ := Lib.hid (bnext BW.out HJ.out)
            clear HJ LG
            go_wp2_with fail
            refine LV.out.mono ?_; rintro _ w9 ⟨u, S, rfl, hu, hS, hb9⟩
            have B9 := Lib.hid (bnext BJ.out hb9)
            obtain ⟨A9, c9, rfl, -, -⟩ := id hu
            have hle := LLEN.out S hS
            obtain ⟨sl, hsl⟩ : ∃ n, S.length = n := ⟨_, rfl⟩
            rw [hsl] at hle ⊢
            have hli : (sl : Int) ≤ (N : Int) := by omega
            clear hu hS hb9 hsl
            go_wp2_with fail
            go_ret
            exact ⟨by simp [hli], B9.out⟩
end Go.Proofs.Ytjkdfbalhjmgpaa.IW
