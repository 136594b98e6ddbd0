/-
  Contracts of the program's functions of layer 8: layHead.
-/
import Derived.Test.YtabbpgnenmpacaaDoorSegPAM
import Derived.Test.YtabbpgnenmpacaaDoorSegRefEM
import Derived.Lib.AppendStr
set_option linter.unusedSimpArgs false
set_option linter.unusedVariables false
namespace Go.Proofs.YtabbpgnenmpacaaDoor.SP
open Go.RowKit
open CR (below_next own_ge u8_wrap)
open SR (strB_size)
theorem strCells_is {p : List Nat} (hp : Bytes p) : Lib.strCells (strB p) = bys p := by
  unfold Lib.strCells strB bys
  simp only [List.toList_toArray, List.map_map]
  refine List.map_congr_left fun x hx => ?_
  have := hp x hx
  show Value.int .u8 (((UInt8.ofNat x).toNat : Nat) : Int) = _
  rw [UInt8.toNat_ofNat']
  congr 2
  omega
theorem run_append_str_at {P : Program} (w : World) (base : Nat) (t u ty e : TypeId) (i : TypeInfo) (ht : P.underlying t = some (.slice e)) (hu : P.underlying u = some .string) (hi : P.info? e = some i) (hz : i.zero = some (.int .u8 0))
    (hsize : i.size = 1) (hby : i.bytes = 1) (v : Value) (n : Nat) (hpos : 0 < n) (xs : List Value) (hown : w.ownsRow base e 1 v n xs) (s : ByteArray)
    (h63 : n + s.size ≤ maxLen) (hbytes : n + s.size ≤ 140737488355328) (hbase : base ≤ w.heap.size) :
    ∃ v' w', (Builtin.append_ #[t, u] ty #[v, .string s]).run P w = .ok v' w' ∧ w'.ownsRow base e 1 v' (n + s.size) (xs ++ Lib.strCells s) ∧ w.grownBy w' v.ownBlock ∧ (v'.ownBlock = v.ownBlock ∨ v'.ownBlock = some w.heap.size) := by
  obtain ⟨v', w', hr, h2, h3, _⟩ := Lib.run_append_own_string (P := P) w base t u ty e i ht hu hi hz hsize hby v n xs hown s h63 hbytes hbase
  refine ⟨v', w', hr, h2, h3, ?_⟩
  have hxl : xs.length = n := by simpa using hown.1
  have hsmall : n + s.size ≤ 9223372036854775807 := by simp only [maxLen] at h63; omega
  rcases hown.2 with ⟨rfl, h0⟩ | ⟨g, cap, cur, rfl, hbg, hg, hnc, hcm, hcs, htake⟩
  · omega
  · by_cases hroom : n + s.size ≤ cap
    · have hcs' : cur.size = cap := by simpa using hcs
      have hr2 := Lib.run_append_room_string (P := P) w t u ty e i ht hu hi hsize g n cap cur hg s hroom (by omega)
      rw [hr2] at hr
      injection hr with e1 e2
      left
      rw [← e1]
      rfl
    · have holds : ∀ j u, xs[j]? = some u → w.cell? ((⟨g, 0, none⟩ : Addr).add j) = some u := hown.cells (g := g) rfl
      have hr2 := Lib.run_append_grow_string (P := P) w t u ty e i (.int .u8 0) ht hu hi hz ⟨g, 0, none⟩ n cap xs (by rw [hsize]; simpa using hxl) holds s (by omega) (by omega) (by rw [hby]; exact growslice_fits (by omega) (by omega))
      rw [hr2] at hr
      injection hr with e1 e2
      right
      rw [← e1]
      rfl
theorem wpList_append_str {P : Program} {w : World} {ops : Array Oper} {rest : List Oper} {o : Oper} {a : Act} {Q : Exit → Act → World → Prop} (hgd : o.guard = none) (sl x : Operand) (t u : TypeId)
    (ho : o.op = .call { callee := .builtin .append, args := #[sl, x], argTypes := #[t, u] })
    (base : Nat) (e : TypeId) (i : TypeInfo) (ht : P.underlying t = some (.slice e)) (hu : P.underlying u = some .string) (hi : P.info? e = some i) (hz : i.zero = some (.int .u8 0))
    (hsize : i.size = 1) (hby : i.bytes = 1)
    (v : Value) (n : Nat) (hpos : 0 < n) (xs : List Value) (hs : a.eval sl = v) (hown : w.ownsRow base e 1 v n xs) (s : ByteArray) (hx : a.eval x = .string s)
    (h63 : n + s.size ≤ maxLen) (hbytes : n + s.size ≤ 140737488355328) (hbase : base ≤ w.heap.size)
    (h : ∀ v' w', w'.ownsRow base e 1 v' (n + s.size) (xs ++ Lib.strCells s) → w.grownBy w' v.ownBlock → (v'.ownBlock = v.ownBlock ∨ v'.ownBlock = some w.heap.size) → wpList P ops Q rest (a.put o.dst v') w') : wpList P ops Q (o :: rest) a w := by
  refine wpList_plain hgd fun K hK => ?_
  obtain ⟨v', w', hr, h2, h3, h4⟩ := run_append_str_at (P := P) w base t u o.type e i ht hu hi hz hsize hby v n hpos xs hown s h63 hbytes hbase
  unfold Oper.wp execOp
  simp only [ho, resolve, invoke, builtin, Sem.run_bind, Sem.run_pure, Result.andThen_ok, List.map_toArray, List.map_cons, List.map_nil, hs, hx, hr]
  exact hK _ _ (h v' w' h2 h3 h4)
/-- A row that is laid on. -/
structure HSt (w : World) (B : Nat) (w1 : World) (vb : Value) (W : World) (v : Value) (acc : List Nat) (z : Nat) : Prop where
  new : ByNew B W v acc
  len : acc.length = z
  below : Below B w W
  gr : Gr w1 W vb v
  hB : B ≤ W.heap.size
theorem HSt.own {w : World} {B : Nat} {w1 : World} {vb : Value} {W : World} {v : Value} {acc : List Nat} {z : Nat} (h : HSt w B w1 vb W v acc z) : W.ownsRow B 5 1 v z (bys acc) := by
  have := h.new
  unfold ByNew at this
  rw [h.len] at this
  exact this
theorem HSt.lay {w : World} {B : Nat} {w1 : World} {vb : Value} {W : World} {v : Value} {acc : List Nat} {z : Nat} (h : HSt w B w1 vb W v acc z) (n : Int) (h0 : 0 ≤ n) (h1 : n < 18446744073709551616) (k : Nat) (hk : k ≤ 8) (hl : z ≤ 90000) :
    Calls Tryd.prog 23 #[v, .int .u64 n, .int .i64 (k : Nat)] W fun e w' => ∃ v', e = .returned v' ∧ HSt w B w1 vb w' v' (acc ++ nB k n.toNat) (z + k) ∧ Gr W w' v v' := by
  refine (lay_c B v acc n h0 h1 k hk z h.len hl W h.hB h.new).mono ?_
  rintro _ w' ⟨v', rfl, hn, hb, hg⟩
  exact ⟨v', rfl, ⟨hn, by rw [List.length_append, nB_length, h.len], h.below.trans hb, h.gr.trans hg, Nat.le_trans h.hB hg.size⟩, hg⟩
theorem HSt.alloc {w : World} {B : Nat} {w1 : World} {vb : Value} {W : World} {v : Value} {acc : List Nat} {z : Nat} (h : HSt w B w1 vb W v acc z) (o : Obj) : HSt w B w1 vb (W.alloc o) v acc z :=
  ⟨h.new.below (alloc_below W o), h.len, h.below.alloc h.hB o, h.gr.trans (Gr.alloc _ _ _), by have := h.hB; simp; omega⟩
theorem HSt.app {w : World} {B : Nat} {w1 : World} {vb : Value} {W W' : World} {v v' : Value} {acc a : List Nat} {z m : Nat} (h : HSt w B w1 vb W v acc z) (hm : a.length = m) (ho : W'.ownsRow B 5 1 v' (z + m) (bys acc ++ bys a)) (hg : W.grownBy W' v.ownBlock) (hat : v'.ownBlock = v.ownBlock ∨ v'.ownBlock = some W.heap.size) : HSt w B w1 vb W' v' (acc ++ a) (z + m) := by
  have hl : (acc ++ a).length = z + m := by rw [List.length_append, h.len, hm]
  refine ⟨?_, hl, Below.grown h.below hg h.hB (own_ge h.own), h.gr.trans (Gr.grown hg hat), Nat.le_trans h.hB hg.size⟩
  unfold ByNew
  rw [hl, bys_app]
  exact ho
set_option maxRecDepth 100000 in
set_option maxHeartbeats 4000000 in
theorem layHead_c (B : Nat) (vb : Value) (acc : List Nat) (z : Nat) (hz : acc.length = z) (hl : z ≤ 1000) (k g t nw v0 : Int) (p : List Nat) (m f : Int) (l : List (Int × Int)) (A : Option Addr) (n c : Nat) (hp : Bytes p) (hln : l.length = n) (hok : hdOk p m f l = true)
    (w : World) (hB : B ≤ w.heap.size) (ho : ByNew B w vb acc) (W0 : World) (h0 : W0.heap.size ≤ B) (hro : RgOut W0 (.slice A n c) l) (hb0 : Below W0.heap.size W0 w) :
    Calls Tryd.prog 24 #[vb, .agg #[.int .i64 k, .string (strB p), .int .i64 m, .int .i64 f, .slice A n c, .int .i64 g, .int .i64 t, .int .i64 nw, .int .i64 v0]] w fun e w' => ∃ v', e = .returned v' ∧ ByNew B w' v' (acc ++ nB 2 p.length ++ p ++ nB 1 m.toNat ++ nB 4 f.toNat ++ nB 1 n ++ l.flatMap rgB) ∧ Below B w w' := by
  obtain ⟨⟨b1, b2⟩, ⟨m1, m2⟩, ⟨f1, f2⟩, hrg, l1, l2⟩ := hd_bounds hok
  have hsz := strB_size p
  obtain ⟨s, hs⟩ : ∃ s, strB p = s := ⟨_, rfl⟩
  obtain ⟨N, hN⟩ : ∃ N, p.length = N := ⟨_, rfl⟩
  have hcs : Lib.strCells s = bys p := by rw [← hs]; exact strCells_is hp
  rw [hs, hN] at hsz
  rw [hs, hN]
  rw [hN] at b1 b2
  rw [hln] at l1 l2
  obtain ⟨T, hT⟩ : ∃ T, acc ++ nB 2 N ++ p ++ nB 1 m.toNat ++ nB 4 f.toNat ++ nB 1 n ++ l.flatMap rgB = T := ⟨_, rfl⟩
  rw [hT]
  obtain ⟨i0, hi0, hz0, hz1, hz2⟩ := info_parts (P := Tryd.prog) (e := 5) (z := .int .u8 0) (size := 1) (bytes := 1) (by kernel_rfl)
  have HH := Lib.hid (holds_alloc w [.int .i64 k, .string s, .int .i64 m, .int .i64 f, .slice A n c, .int .i64 g, .int .i64 t, .int .i64 nw, .int .i64 v0] 24)
  have hne : vb.ownBlock ≠ some w.heap.size := fun e => by have := ownsRow_lt ho e; omega
  have hst0 : HSt w B (w.alloc (.cells #[.int .i64 k, .string s, .int .i64 m, .int .i64 f, .slice A n c, .int .i64 g, .int .i64 t, .int .i64 nw, .int .i64 v0] 24)) vb (w.alloc (.cells #[.int .i64 k, .string s, .int .i64 m, .int .i64 f, .slice A n c, .int .i64 g, .int .i64 t, .int .i64 nw, .int .i64 v0] 24)) vb acc z :=
    ⟨ho.below (alloc_below w _), hz, (Below.refl _ _).alloc hB _, Gr.refl _ _, by simp; omega⟩
  have hcell : ∀ (W : World) (v : Value) (a : List Nat) (y : Nat), HSt w B (w.alloc (.cells #[.int .i64 k, .string s, .int .i64 m, .int .i64 f, .slice A n c, .int .i64 g, .int .i64 t, .int .i64 nw, .int .i64 v0] 24)) vb W v a y → Holds W w.heap.size [.int .i64 k, .string s, .int .i64 m, .int .i64 f, .slice A n c, .int .i64 g, .int .i64 t, .int .i64 nw, .int .i64 v0] := fun W v a y h => h.gr.holds hne HH.out
  have hrow : ∀ (W : World) (v : Value) (a : List Nat) (y : Nat), HSt w B (w.alloc (.cells #[.int .i64 k, .string s, .int .i64 m, .int .i64 f, .slice A n c, .int .i64 g, .int .i64 t, .int .i64 nw, .int .i64 v0] 24)) vb W v a y → RgOut W (.slice A n c) l := fun W v a y h => hro.below (hb0.trans (h.below.mono h0))
  obtain ⟨wb, hwb⟩ : ∃ x, w.alloc (.cells #[.int .i64 k, .string s, .int .i64 m, .int .i64 f, .slice A n c, .int .i64 g, .int .i64 t, .int .i64 nw, .int .i64 v0] 24) = x := ⟨_, rfl⟩
  rw [hwb] at hst0 hcell hrow
  have HWB := Lib.hid hwb
  have HC := Lib.hid hcell; have HRW := Lib.hid hrow; have HST0 := Lib.hid hst0; have HT := Lib.hid hT; have HCS := Lib.hid hcs; have HRG := Lib.hid hrg; have HLN := Lib.hid hln; have HNP := Lib.hid hN
  have hwN : IntKind.u64.wrap (N : Int) = (N : Int) := by rw [IntKind.wrap_u64]; omega
  have hwm : IntKind.u64.wrap m = m := by rw [IntKind.wrap_u64]; omega
  have hwf : IntKind.u64.wrap f = f := by rw [IntKind.wrap_u64]; omega
  have hwn : IntKind.u64.wrap (n : Int) = (n : Int) := by rw [IntKind.wrap_u64]; omega
  clear hcell hrow hst0 hT hcs hrg hln hN hs hok hp hro hb0 ho hz hne HH hwb
  have x1 : (N : Int) < 18446744073709551616 := by omega
  have x2 : (m : Int) < 18446744073709551616 := by omega
  have x3 : (f : Int) < 18446744073709551616 := by omega
  have x4 : (n : Int) < 18446744073709551616 := by omega
  have X1 := Lib.hid x1; have X2 := Lib.hid x2; have X3 := Lib.hid x3; have X4 := Lib.hid x4
  clear x1 x2 x3 x4
  have m0 : 0 ≤ m := by omega
  have N0 : 0 ≤ (N : Int) := by omega
  have n0 : 0 ≤ (n : Int) := by omega
  go_enter Tryd.func24, Tryd.ntmps24
  obtain ⟨r0, r1, r2, r3, r4, r5, r6, r7, r8⟩ := (HC.out _ _ _ _ HST0.out).nine
  go_wp2_with fail
  rw [HWB.out]
  refine (HST0.out.lay _ N0 X1.out 2 (by decide) (by omega)).mono ?_; rintro _ w2 ⟨v2, rfl, hs2, _⟩
  clear r0 r1 r2 r3 r4 r5 r6 r7 r8
  obtain ⟨r0, r1, r2, r3, r4, r5, r6, r7, r8⟩ := (HC.out _ _ _ _ hs2).nine
  have hs2' : HSt w B wb vb w2 v2 (acc ++ nB 2 N) (z + 2) := hs2
  have S2 := Lib.hid hs2'
  have happ : ∀ (v' : Value) (w' : World), w'.ownsRow B 5 1 v' (z + 2 + s.size) (bys (acc ++ nB 2 N) ++ Lib.strCells s) → w2.grownBy w' v2.ownBlock → (v'.ownBlock = v2.ownBlock ∨ v'.ownBlock = some w2.heap.size) → HSt w B wb vb w' v' (acc ++ nB 2 N ++ p) (z + 2 + N) := fun v' w' ho hg hat => by
    rw [hsz, HCS.out] at ho
    exact hs2'.app HNP.out ho hg hat
  have APP := Lib.hid happ
  clear happ
  have OW2 := Lib.hid hs2'.own; have HB2 := Lib.hid hs2'.hB
  have q1 : z + 2 + s.size ≤ 140737488355328 := by omega
  have q2 : z + 2 + s.size ≤ maxLen := by simp only [maxLen]; omega
  have Q1 := Lib.hid q1; have Q2 := Lib.hid q2
  clear hs2 hs2' q1 q2
  go_wp2_with first
    | (at_builtin; refine wpList_append_str rfl (.tmp 13) (.tmp 15) 27 9 rfl B 5 i0 Tryd.underlying27 Tryd.underlying9 hi0 hz0 hz1 hz2 v2 (z + 2) (Nat.succ_pos _) (bys (acc ++ nB 2 N)) rfl OW2.out s rfl Q2.out Q1.out HB2.out ?_; intro v3 w3 hown3 hg3 hat3; have hs3 := APP.out _ _ hown3 hg3 hat3; clear r0 r1 r2 r3 r4 r5 r6 r7 r8 hown3 hg3 hat3; obtain ⟨r0, r1, r2, r3, r4, r5, r6, r7, r8⟩ := (HC.out _ _ _ _ hs3).nine)
    | fail
  refine (hs3.lay _ m0 X2.out 1 (by decide) (by omega)).mono ?_; rintro _ w4 ⟨v4, rfl, hs4, _⟩
  clear r0 r1 r2 r3 r4 r5 r6 r7 r8 hs3
  obtain ⟨r0, r1, r2, r3, r4, r5, r6, r7, r8⟩ := (HC.out _ _ _ _ hs4).nine
  go_wp2_with fail
  refine (hs4.lay _ f1 X3.out 4 (by decide) (by omega)).mono ?_; rintro _ w5 ⟨v5, rfl, hs5, _⟩
  clear r0 r1 r2 r3 r4 r5 r6 r7 r8 hs4
  obtain ⟨r0, r1, r2, r3, r4, r5, r6, r7, r8⟩ := (HC.out _ _ _ _ hs5).nine
  go_wp2_with fail
  refine (hs5.lay _ n0 X4.out 1 (by decide) (by omega)).mono ?_; rintro _ w6 ⟨v6, rfl, hs6, _⟩
  clear r0 r1 r2 r3 r4 r5 r6 r7 r8 hs5
  obtain ⟨r0, r1, r2, r3, r4, r5, r6, r7, r8⟩ := (HC.out _ _ _ _ hs6).nine
  obtain ⟨acc6, hacc6⟩ : ∃ a, acc ++ nB 2 N ++ p ++ nB 1 m.toNat ++ nB 4 f.toNat ++ nB 1 n = a := ⟨_, rfl⟩
  obtain ⟨z6, hz6⟩ : ∃ a, z + 2 + N + 1 + 4 + 1 = a := ⟨_, rfl⟩
  have hs6' : HSt w B wb vb w6 v6 (acc ++ nB 2 N ++ p ++ nB 1 m.toNat ++ nB 4 f.toNat ++ nB 1 n) (z + 2 + N + 1 + 4 + 1) := hs6
  rw [hacc6, hz6] at hs6'
  rw [hacc6] at HT
  have S6 := Lib.hid hs6'
  have hz6b : z6 ≤ 2000 := by omega
  clear hs6 hs6' hacc6 hz6
  go_wp2
  go_loopw [0, 6, 36] (fun bv _ i wr => ∃ (q : Nat) (vr : Value), bv = vr ∧ i = .int .i64 q ∧ q ≤ n ∧ Hid (HSt w B wb vb wr vr (acc6 ++ (l.take q).flatMap rgB) (z6 + 6 * q))) (fun _ _ i _ => n - (intOf i).toNat)
  case atStart => exact ⟨0, _, rfl, rfl, Nat.zero_le _, by rw [List.take_zero]; show HSt _ _ _ _ _ _ (acc6 ++ []) _; rw [List.append_nil]; exact S6.out⟩
  case round =>
    clear r0 r1 r2 r3 r4 r5 r6 r7 r8 S6
    obtain ⟨q, vr, rfl, rfl, hq, HI⟩ := hrel
    by_cases hlt : q < n
    · have hkl : q < l.length := by rw [HLN.out]; exact hlt
      obtain ⟨A', c', hv', _, hx'⟩ := HRW.out _ _ _ _ HI.out
      injection hv' with e1 e2 e3
      obtain ⟨b, off, hA, ha⟩ := hx' (by intro e; rw [e] at hkl; exact absurd hkl (Nat.not_lt_zero _))
      rw [hA] at e1
      subst e1
      have hp0 := List.getElem?_eq_getElem hkl
      obtain ⟨c0, c1⟩ := ha q _ hp0
      have hgb := HRG.out _ (List.getElem_mem hkl)
      have htk : (l.take (q + 1)).flatMap rgB = (l.take q).flatMap rgB ++ (nB 4 (l[q]).1.toNat ++ nB 2 (l[q]).2.toNat) := by
        rw [List.take_add_one, hp0, List.flatMap_append]
        show _ ++ [l[q]].flatMap rgB = _
        rw [List.flatMap_cons]
        show _ ++ (rgB l[q] ++ []) = _
        rw [List.append_nil]
        rfl
      generalize (l[q]).1 = x at *
      generalize (l[q]).2 = y at *
      obtain ⟨⟨g1, g2⟩, g3, g4⟩ : (1 ≤ x ∧ x ≤ 86400) ∧ 1 ≤ y ∧ y ≤ 400 := ⟨⟨hgb.1, hgb.2.1⟩, hgb.2.2⟩
      have x0 : 0 ≤ x := by omega
      have y0 : 0 ≤ y := by omega
      have x9 : x < 18446744073709551616 := by omega
      have y9 : y < 18446744073709551616 := by omega
      have hwx : IntKind.u64.wrap x = x := by rw [IntKind.wrap_u64]; omega
      have hwy : IntKind.u64.wrap y = y := by rw [IntKind.wrap_u64]; omega
      have X9 := Lib.hid x9; have Y9 := Lib.hid y9
      have hne : u0.ownBlock ≠ some wr.heap.size := fun e => by have := ownsRow_lt HI.out.own e; omega
      have hbox := holds_alloc wr [.int .i64 x, .int .i64 y] 49
      have HTK := Lib.hid (show acc6 ++ (l.take q).flatMap rgB ++ nB 4 x.toNat ++ nB 2 y.toNat = acc6 ++ (l.take (q + 1)).flatMap rgB by rw [htk]; simp)
      have HNE := Lib.hid hne; have HBX := Lib.hid hbox
      have hsa := HI.out.alloc (.cells #[.int .i64 x, .int .i64 y] 49)
      have SA := Lib.hid hsa
      clear x9 y9 hne hbox hgb htk hp0 hx' hkl e2 e3 ha HI hsa
      go_wp2_with fail
      refine (SA.out.lay _ x0 X9.out 4 (by decide) (by omega)).mono ?_; rintro _ w7 ⟨v7, rfl, hs7, hg7⟩
      have hb7 := hg7.holds HNE.out HBX.out
      have b0 : w7.cell? ⟨wr.heap.size, 0, none⟩ = some (.int .i64 x) := hb7 0 _ rfl
      have b1' : w7.cell? ⟨wr.heap.size, 1, none⟩ = some (.int .i64 y) := hb7 1 _ rfl
      have S7 := Lib.hid hs7
      clear hs7 hg7 hb7 c0 c1
      go_wp2_with fail
      refine (S7.out.lay _ y0 Y9.out 2 (by decide) (by omega)).mono ?_; rintro _ w8 ⟨v8, rfl, hs8, hg8⟩
      have hs8' : HSt w B wb vb w8 v8 (acc6 ++ (l.take q).flatMap rgB ++ nB 4 x.toNat ++ nB 2 y.toNat) (z6 + 6 * q + 4 + 2) := hs8
      rw [HTK.out, show z6 + 6 * q + 4 + 2 = z6 + 6 * (q + 1) from by omega] at hs8'
      have S8 := Lib.hid hs8'
      clear hs8 hs8' hg8 b0 b1'
      go_wp2
      go_roundw
      case rel => exact ⟨q + 1, _, rfl, by go_num, by omega, S8.out⟩
      case measure => simp [intOf]; omega
    · obtain rfl : q = n := by omega
      have hnw := HI.out.new
      rw [List.take_of_length_le (by rw [HLN.out]; exact Nat.le_refl _), HT.out] at hnw
      have NW := Lib.hid hnw; have BW := Lib.hid HI.out.below
      clear HI hnw
      go_wp2
      go_ret
      exact ⟨u0, rfl, NW.out, BW.out⟩
end Go.Proofs.YtabbpgnenmpacaaDoor.SP
