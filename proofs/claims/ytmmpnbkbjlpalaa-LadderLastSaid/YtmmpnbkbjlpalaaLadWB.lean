/-
  LadderLast, walked.
-/
import Derived.Test.YtmmpnbkbjlpalaaLadLm
import Derived.Test.YtmmpnbkbjlpalaaLadWA
import Derived.Test.YtmmpnbkbjlpalaaRinRA
set_option linter.unusedSimpArgs false
set_option linter.unusedVariables false
namespace Go.Proofs.Ytmmpnbkbjlpalaa
open Go.RowKit
/-- A row of arrivals. -/
def ArAt (w : World) (b off : Nat) (l : List (Nat × Nat × Int)) : Prop := ∀ (k : Nat) (x : Nat × Nat × Int), l[k]? = some x → w.cell? ⟨b, off + k * 3, none⟩ = some (.int .u8 (x.1 : Int)) ∧ w.cell? ⟨b, off + k * 3 + 1, none⟩ = some (.int .u8 (x.2.1 : Int)) ∧ w.cell? ⟨b, off + k * 3 + 2, none⟩ = some (.int .i64 x.2.2)
def ArOut (w : World) (v : Value) (l : List (Nat × Nat × Int)) : Prop := ∃ A cap, v = .slice A l.length cap ∧ l.length ≤ cap ∧ (l ≠ [] → ∃ b off, A = some ⟨b, off, none⟩ ∧ ArAt w b off l)
namespace AW
open IP AP
theorem rung_out (w : World) (s n : Int) (t : TypeId) : RgOut (w.alloc (.cells #[.int .i64 s, .int .i64 n] t)) (.slice (some ⟨w.heap.size, 0, none⟩) 1 1) [(s, n)] := by
  have b := bx_new w #[.int .i64 s, .int .i64 n] t
  refine ⟨_, 1, rfl, Nat.le_refl _, fun _ => ⟨_, 0, rfl, fun k g hk => ?_⟩⟩
  match k, hk with
  | 0, hk =>
    obtain rfl : (s, n) = g := by simpa using hk
    exact ⟨(b.cells 0 _ rfl).1, (b.cells 1 _ rfl).1⟩
structure LastS (s : Int) (n : Nat) (now : Int) (bx q c cx : Nat) (A Ax : Option Addr) (R ps : List (Int × Int)) (w0 w : World) : Prop where
  math : LastI s n now R ps
  box : Bx w bx [.int .i64 5, .int .i64 0, .slice Ax 1 cx]
  lad : RiNew 0 (bx :: (Value.slice A q c).ownBlock.toList) w (.slice Ax 1 cx) [(s, R)]
  row : w.ownsRow (bx + 1) 60 2 (.slice A q c) q (rgC ps)
  len : ps.length = q
  below : Below w0.heap.size w0 w
  old : w0.heap.size ≤ bx
theorem LastS.move {s now now' : Int} {n bx q c cx : Nat} {A Ax : Option Addr} {R ps : List (Int × Int)} {w0 w w' : World} (h : LastS s n now bx q c cx A Ax R ps w0 w) (hb : Below w.heap.size w w') (hn : now ≤ now') : LastS s n now' bx q c cx A Ax R ps w0 w' :=
  ⟨last_later h.math hn, h.box.below hb, h.lad.below hb, own_keep h.row (fun g _ hg _ => hb.block g hg), h.len, bnext h.below hb, h.old⟩
theorem point_info : (Try.prog.info? 60).map (fun i => (i.zero, i.size, i.bytes)) = some (some (.agg #[.int .i64 0, .int .i64 0]), 2, 16) := by kernel_rfl
theorem LastS.sep {s now : Int} {n bx q c cx : Nat} {A Ax : Option Addr} {R ps : List (Int × Int)} {w0 w : World} (h : LastS s n now bx q c cx A Ax R ps w0 w) : ∀ z ∈ bx :: (Value.slice A q c).ownBlock.toList, z < w.heap.size := fun z hz => by
  rcases List.mem_cons.1 hz with rfl | hz
  · exact h.box.lt
  · exact (own_lt h.row (by simpa using hz)).2
theorem LastS.next0 {s now : Int} {n bx q c cx c6 B : Nat} {A Ax A6 : Option Addr} {R ps : List (Int × Int)} {w0 w : World} (h : LastS s n now bx q c cx A Ax R ps w0 w) (h6 : RiNew B (bx :: (Value.slice A q c).ownBlock.toList) w (.slice A6 1 c6) [(s, R)]) :
    LastS s n now bx q c c6 A A6 R ps w0 (((w.setCell ⟨bx, 0, none⟩ (.int .i64 5)).setCell ⟨bx, 1, none⟩ (.int .i64 0)).setCell ⟨bx, 2, none⟩ (.slice A6 1 c6)) :=
  ⟨h.math, h.box.put3, (h6.set3 (by simp) _ _ _).mono (Nat.zero_le _), ownsRow_setCell_below (ownsRow_setCell_below (ownsRow_setCell_below h.row (Nat.lt_succ_self _) _) (Nat.lt_succ_self _) _) (Nat.lt_succ_self _) _, h.len, below_put3 h.below h.old _ _ _, h.old⟩
theorem LastS.next {s now t v : Int} {n bx q c cx c6 c20 B : Nat} {A Ax A6 A20 : Option Addr} {R R' ps : List (Int × Int)} {w0 w w20 : World} {o : Obj} (h : LastS s n now bx q c cx A Ax R ps w0 w) (h6 : RiNew B (bx :: (Value.slice A q c).ownBlock.toList) w (.slice A6 1 c6) [(s, R')]) (hm : LastI s n now R' (ps ++ [(t, v)]))
    (hown : w20.ownsRow (bx + 1) 60 2 (.slice A20 (q + 1) c20) (q + 1) (rgC ps ++ [.int .i64 t, .int .i64 v])) (hg : (w.alloc o).grownBy w20 (Value.slice A q c).ownBlock) (hat : (Value.slice A20 (q + 1) c20).ownBlock = (Value.slice A q c).ownBlock ∨ (Value.slice A20 (q + 1) c20).ownBlock = some (w.alloc o).heap.size) :
    LastS s n now bx (q + 1) c20 c6 A20 A6 R' (ps ++ [(t, v)]) w0 (((w20.setCell ⟨bx, 0, none⟩ (.int .i64 5)).setCell ⟨bx, 1, none⟩ (.int .i64 0)).setCell ⟨bx, 2, none⟩ (.slice A6 1 c6)) := by
  have ne : some bx ≠ (Value.slice A q c).ownBlock := fun e => by have := (own_lt h.row e.symm).1; omega
  have hl := (h6.below (alloc_below w o)).less (S' := (bx :: (Value.slice A q c).ownBlock.toList) ++ (bx :: (Value.slice A20 (q + 1) c20).ownBlock.toList)) (fun z hz => by
    rcases List.mem_append.1 hz with hz | hz
    · exact .inl hz
    · rcases List.mem_cons.1 hz with rfl | hz
      · exact .inl (by simp)
      · rcases hat with e | e
        · rw [e] at hz; exact .inl (List.mem_cons_of_mem _ hz)
        · rw [e] at hz; simp at hz; exact .inr (by rw [hz]; simp))
  have hl2 := (hl.kept (w' := w20) (fun b hlt hb => hg.block b hlt (fun e => hb (List.mem_append_left _ (List.mem_cons_of_mem _ (by rw [← e]; simp)))))).less (S' := bx :: (Value.slice A20 (q + 1) c20).ownBlock.toList) (fun z hz => .inl (List.mem_append_right _ hz))
  refine ⟨hm, ((h.box.below (alloc_below w o)).grown hg ne).put3, (hl2.set3 (by simp) _ _ _).mono (Nat.zero_le _), ?_, by rw [List.length_append, h.len]; rfl, below_put3 (Below.grown (h.below.alloc h.below.size o) hg ?_ (fun j ej => ?_)) h.old _ _ _, h.old⟩
  · rw [rgC_app]
    exact ownsRow_setCell_below (ownsRow_setCell_below (ownsRow_setCell_below hown (Nat.lt_succ_self _) _) (Nat.lt_succ_self _) _) (Nat.lt_succ_self _) _
  · have := h.below.size; simp; omega
  · have := (own_lt h.row ej).1; have := h.old; omega
set_option maxRecDepth 100000 in
set_option maxHeartbeats 16000000 in
theorem ladderLast_c (a b : Nat) (ha : a < 256) (hb : b < 256) (u : Value) (l : List (Nat × Nat × Int)) (hI : ∀ x ∈ l, x.1 < 256 ∧ x.2.1 < 256 ∧ I64 x.2.2) (w : World) (o : ArOut w u l) :
    Calls Try.prog 6 #[.int .u8 (a : Int), .int .u8 (b : Int), u] w fun e w' => e = .returned (.bool true) ∧ Below w.heap.size w w' := by
  obtain ⟨A0, c0, rfl, hc0, hx0⟩ := o
  obtain ⟨N0, hN0⟩ : ∃ n, l.length = n := ⟨_, rfl⟩
  rw [hN0] at hc0 ⊢
  have HX := Lib.hid hx0; have HN := Lib.hid hN0; have HI0 := Lib.hid hI
  have AL := Lib.hid (alive_c w)
  clear hx0 hN0 hI
  go_enter Try.func6, Try.ntmps6
  go_wp2_with fail
  refine AL.out.mono ?_; rintro _ w1 ⟨rfl, hb1⟩
  have B1 := Lib.hid hb1
  clear hb1
  by_cases hg : 100 < N0
  · have hgi : (100 : Int) < (N0 : Int) := by omega
    go_wp2
    go_ret
    exact ⟨rfl, B1.out⟩
  · have hgi : ¬ (100 : Int) < (N0 : Int) := by omega
    obtain ⟨x, hx⟩ : ∃ x : Int, (a : Int) % 10 = x := ⟨_, rfl⟩
    obtain ⟨y, hy⟩ : ∃ y : Int, (b : Int) % 10 = y := ⟨_, rfl⟩
    have hx0 : 0 ≤ x ∧ x ≤ 9 := by omega
    have hy0 : 0 ≤ y ∧ y ≤ 9 := by omega
    have hxt : ((a : Nat) : Int).tmod 10 = x := by rw [Int.tmod_eq_emod_of_nonneg (by omega)]; exact hx
    have hyt : ((b : Nat) : Int).tmod 10 = y := by rw [Int.tmod_eq_emod_of_nonneg (by omega)]; exact hy
    obtain ⟨s, hs⟩ : ∃ s : Int, 1 + x = s := ⟨_, rfl⟩
    obtain ⟨n, hn⟩ : ∃ n : Nat, 2 + y = (n : Int) := ⟨(2 + y).toNat, by omega⟩
    have h1 : 1 ≤ s := by omega
    have h2 : s ≤ 10 := by omega
    have h3 : 2 ≤ n := by omega
    have h4 : n ≤ 11 := by omega
    have ws : IntKind.i64.wrap s = s := by rw [IntKind.wrap_i64]; omega
    have wn : IntKind.i64.wrap (n : Int) = (n : Int) := by rw [IntKind.wrap_i64]; omega
    have hbl := alloc_below w1 (.cells #[.int .i64 s, .int .i64 (n : Int)] 55)
    have NW := AP.new_c [] 5 0 _ [(s, (n : Int))] (by simp) _ (rung_out w1 s (n : Int) 55) (fun z hz => by cases hz)
    have hok : lNewOk 5 0 [(s, (n : Int))] = true := by unfold lNewOk; rw [last_tog h1 h2 h3 h4]; rfl
    obtain ⟨y1, y2, y3, y4⟩ := nw_yes hok
    rw [y1, y2, y3, y4, show lNew [(s, (n : Int))] = [(s, rNew n)] from rfl, show [(s, rNew n)].length = 1 from rfl] at NW
    obtain ⟨w2, hw2⟩ : ∃ w2, w1.alloc (.cells #[.int .i64 s, .int .i64 (n : Int)] 55) = w2 := ⟨_, rfl⟩
    rw [hw2] at NW hbl
    have HW2 := Lib.hid hw2; have NW := Lib.hid NW; have B2 := Lib.hid (bnext B1.out hbl)
    have HST := Lib.hid (last_start (s := s) (n := n) h1 h2 h3 h4)
    obtain ⟨i0, hi0, hz0, hz1, hz2⟩ := info_parts point_info
    clear hok y1 y2 y3 y4 hw2 hbl hg
    go_wp2_with fail
    rw [HW2.out]
    refine NW.out.mono ?_; rintro _ w3 ⟨A3, c3, rfl, hN3, hb3⟩
    obtain ⟨bx4, hb4, hz4⟩ := bx_new1 w3 #[.int .i64 5, .int .i64 0, .slice A3 1 c3] 24
    have hR4 := ((hN3.less (S' := [w3.heap.size]) (fun z hz => .inr (by simp at hz; omega))).below hb4).mono (Nat.zero_le _)
    obtain ⟨w4, hw4⟩ : ∃ w4, w3.alloc (.cells #[.int .i64 5, .int .i64 0, .slice A3 1 c3] 24) = w4 := ⟨_, rfl⟩
    rw [hw4] at bx4 hb4 hz4 hR4
    obtain ⟨bx, hbx⟩ : ∃ bx, w3.heap.size = bx := ⟨_, rfl⟩
    have B4 := bnext (bnext B2.out hb3) hb4
    have hold : w.heap.size ≤ bx := by have h5 := B2.out.size; have h6 := hb3.size; omega
    rw [hbx] at bx4 hR4
    have HW4 := Lib.hid hw4; have HBX := Lib.hid hbx
    have ST := Lib.hid (show LastS s n 1000 bx 0 0 c3 none A3 (rNew n) [] w w4 from ⟨HST.out, bx4, hR4, ⟨rfl, .inl ⟨rfl, rfl⟩⟩, rfl, B4, hold⟩)
    clear hw4 bx4 hb4 hz4 hR4 B4 hold hN3 hb3
    go_wp2_with fail
    rw [HW4.out]
    try simp only [HBX.out]
    clear hbx
    go_loopw [11, 12, 13] (fun v11 v12 v13 wr => ∃ (now : Int) (A : Option Addr) (q c k : Nat), v11 = .int .i64 now ∧ v12 = .slice A q c ∧ v13 = .int .i64 k ∧ (k ≤ N0 ∧ 1000 ≤ now ∧ now ≤ 1000 + 15 * k ∧ q ≤ k) ∧ Hid (∃ Ax cx R ps, LastS s n now bx q c cx A Ax R ps w wr)) (fun _ _ v13 _ => N0 - (intOf v13).toNat)
    case atStart => exact ⟨1000, none, 0, 0, 0, rfl, rfl, rfl, ⟨by omega, by omega, by omega, by omega⟩, ⟨A3, c3, _, [], ST.out⟩⟩
    case round =>
      obtain ⟨now, A, q, c, k, rfl, rfl, rfl, ⟨hk, hn0, hn1, hqk⟩, HI⟩ := hrel
      obtain ⟨Ax, cx, R, ps, hS⟩ := HI.out
      have HS := Lib.hid hS
      clear hS HI
      by_cases hlt : k < N0
      · obtain ⟨⟨x1, y1, v⟩, hp⟩ : ∃ r, l[k]? = some r := ⟨_, List.getElem?_eq_getElem (by rw [HN.out]; exact hlt)⟩
        obtain ⟨b0, off, rfl, ha0⟩ := HX.out (fun e => by rw [e] at hp; simp at hp)
        obtain ⟨e0, e1, e2⟩ := ha0 k _ hp
        simp only at e0 e1 e2
        obtain ⟨q1, q2, q3⟩ := HI0.out _ (List.mem_of_getElem? hp)
        simp only at q1 q2 q3
        have e0 := cellb HS.out.below e0; have e1 := cellb HS.out.below e1; have e2 := cellb HS.out.below e2
        obtain ⟨d, hd⟩ : ∃ d : Int, (y1 : Int) % 16 = d := ⟨_, rfl⟩
        obtain ⟨e, he⟩ : ∃ e : Int, (x1 : Int) % 64 = e := ⟨_, rfl⟩
        have hd0 : 0 ≤ d ∧ d ≤ 15 := by omega
        have he0 : 0 ≤ e ∧ e ≤ 63 := by omega
        have hdt : ((y1 : Nat) : Int).tmod 16 = d := by rw [Int.tmod_eq_emod_of_nonneg (by omega)]; exact hd
        have het : ((x1 : Nat) : Int).tmod 64 = e := by rw [Int.tmod_eq_emod_of_nonneg (by omega)]; exact he
        obtain ⟨N, hN⟩ : ∃ N, now + d = N := ⟨_, rfl⟩
        obtain ⟨t, ht⟩ : ∃ t, N - e = t := ⟨_, rfl⟩
        obtain ⟨r, hr⟩ : ∃ r, t % s = r := ⟨_, rfl⟩
        have hr0 : 0 ≤ r := by rw [← hr]; exact Int.emod_nonneg _ (by omega)
        have hr1 : r < s := by rw [← hr]; exact Int.emod_lt_of_pos _ (by omega)
        have hrt : t.tmod s = r := by rw [Int.tmod_eq_emod_of_nonneg (by omega)]; exact hr
        obtain ⟨u, hu⟩ : ∃ u, t - r = u := ⟨_, rfl⟩
        have hAt : rAt s t = u := by unfold rAt; rw [hr]; exact hu
        obtain ⟨pq, hpq⟩ : ∃ pq, s * (n : Int) = pq := ⟨_, rfl⟩
        have hpq1 : pq ≤ 10 * 11 := by rw [← hpq]; exact Int.mul_le_mul h2 (by omega) (by omega) (by omega)
        have hpq0 : 1 * 1 ≤ pq := by rw [← hpq]; exact Int.mul_le_mul h1 (by omega) (by omega) (by omega)
        obtain ⟨z, hz⟩ : ∃ z, N - pq = z := ⟨_, rfl⟩
        have LA := last_accept (last_later HS.out.math (show now ≤ N by omega)) h1 h2 h3 h4 (t := t) (v := v) (by omega) (by omega) (by omega)
        rw [hpq, hz, hAt] at LA
        have SET := Lib.hid (fun (hv : v ≠ -9223372036854775808) (hzu : z < u) => last_set (last_later HS.out.math (show now ≤ N by omega)) h1 (by omega) (t := t) (v := v) (by omega) (by omega) (by omega) hv q3 (by rw [hpq, hz, hAt]; exact hzu))
        have FN := Lib.hid (last_right HS.out.math h1 h2 h3 h4).2
        have RL := Lib.hid (show ∀ r ∈ [(s, R)], r.2.length ≤ 100000 from fun r hr => by rw [show r = (s, R) from by simpa using hr]; show R.length ≤ _; rw [HS.out.math.len]; omega)
        have wN : IntKind.i64.wrap N = N := by rw [IntKind.wrap_i64]; omega
        have wt : IntKind.i64.wrap t = t := by rw [IntKind.wrap_i64]; omega
        have wu : IntKind.i64.wrap u = u := by rw [IntKind.wrap_i64]; omega
        have wpq : IntKind.i64.wrap pq = pq := by rw [IntKind.wrap_i64]; omega
        have wz : IntKind.i64.wrap z = z := by rw [IntKind.wrap_i64]; omega
        have wr' : IntKind.i64.wrap r = r := by rw [IntKind.wrap_i64]; omega
        have s0 : 0 < s := by omega
        have sne : ¬ s = 0 := by omega
        have i0' : (0 : Int) ≤ (k : Int) := by omega
        have i1' : (k : Int) < (N0 : Int) := by omega
        have t0 : 0 ≤ t := by omega
        have ltb : b0 < wr.heap.size := World.block_lt_of_cell? wr _ e0
        have LA := Lib.hid LA
        have Q3 := Lib.hid q3
        have VB := Lib.hid (show -9223372036854775808 ≤ v ∧ v ≤ 9223372036854775807 from q3)
        clear hp ha0 q3 hAt
        go_wp2_with fail
        go_cut [14] (fun s14 wx => ∃ pb : Nat, s14 = .pointer (some ⟨pb, 0, none⟩) ∧ wx.cell? ⟨pb, 0, none⟩ = some (.int .i64 t) ∧ wx.cell? ⟨pb, 1, none⟩ = some (.int .i64 v) ∧ Below wr.heap.size wr wx)
        case first =>
          go_region
          all_goals (try go_wp2_with fail)
          all_goals go_meet
          all_goals refine ⟨_, rfl, ?_, ?_, ?_⟩
          all_goals (first | (go_simp; done) | (refine below_put2 ((Below.refl _ _).alloc (Nat.le_refl _) _) ?_ _ _; omega) | (exact alloc_below _ _) | (exact Below.drew (alloc_below _ _)))
        case rest =>
          obtain ⟨pb, rfl, p0, p1, TX⟩ := hcut
          obtain ⟨w5, hw5⟩ : ∃ w5, w5 = wc := ⟨_, rfl⟩
          rw [← hw5] at p0 p1 TX ⊢
          clear hw5
          have HS5 := Lib.hid (HS.out.move TX (show now ≤ N by omega))
          obtain ⟨k0, k1, k2, -⟩ := HS5.out.box.three
          have e2 := cellb TX e2
          have ACC := accept_c (bx :: (Value.slice A q c).ownBlock.toList) 5 0 t v N (.slice Ax 1 cx) [(s, R)] (by simp) RL.out FN.out Q3.out w5 HS5.out.lad.farS HS5.out.sep
          rw [LA.out] at ACC
          clear TX e0 e1 ltb
          by_cases hv : v = -9223372036854775808
          · rw [if_pos hv] at ACC
            have HV := Lib.hid hv
            clear hv
            have ACC2 := Lib.hid (show Calls Try.prog 23 #[.agg #[.int .i64 5, .int .i64 0, .slice Ax 1 cx], .agg #[.int .i64 t, .int .i64 v], .int .i64 N] w5 fun e w' => ∃ A9 c9, e = .returned (.tuple #[.agg #[.int .i64 5, .int .i64 0, .slice A9 1 c9], .int .i64 1]) ∧ RiNew w5.heap.size (bx :: (Value.slice A q c).ownBlock.toList) w' (.slice A9 1 c9) [(s, R)] ∧ Below w5.heap.size w5 w' from ACC)
            clear ACC
            go_wp2_with fail
            refine ACC2.out.mono ?_; rintro _ w6 ⟨A6, c6, rfl, h6, hb6⟩
            obtain ⟨by7, hb7, hz7⟩ := bx_new1 w6 #[.int .i64 5, .int .i64 0, .slice A6 1 c6] 24
            have h7 := h6.below hb7
            obtain ⟨w7, hw7⟩ : ∃ w7, w6.alloc (.cells #[.int .i64 5, .int .i64 0, .slice A6 1 c6] 24) = w7 := ⟨_, rfl⟩
            rw [hw7] at by7 hb7 hz7 h7
            have T7 := bnext hb6 hb7
            have p0 := cellb T7 p0; have p1 := cellb T7 p1; have e2 := cellb T7 e2
            have HS6 := Lib.hid (HS5.out.move hb6 (Int.le_refl N)); have HS7 := Lib.hid (HS5.out.move T7 (Int.le_refl N))
            have HW7 := Lib.hid hw7; have H7 := Lib.hid h7; have BY := Lib.hid by7
            obtain ⟨k0, k1, k2, k3, k4, k5⟩ := HS7.out.box.three
            obtain ⟨l0, l1, l2, -⟩ := by7.three
            obtain ⟨by', hby⟩ : ∃ b, w6.heap.size = b := ⟨_, rfl⟩
            rw [hby] at l0 l1 l2
            have HBY := Lib.hid hby
            clear T7 hw7 h7 by7 hb6 hb7 hz7 h6 hby
            go_wp2_with fail
            rw [HW7.out]
            try simp only [HBY.out]
            go_region
            have HS8 := HS7.out.move (Below.refl w7.heap.size w7).drew (Int.le_refl N)
            have h8 := H7.out.below (Below.refl w7.heap.size w7).drew
            have by8 := BY.out.below (Below.refl w7.heap.size w7).drew
            have p0 : w7.drew.cell? ⟨pb, 0, none⟩ = some (.int .i64 t) := p0
            have p1 : w7.drew.cell? ⟨pb, 1, none⟩ = some (.int .i64 v) := p1
            have e2 : w7.drew.cell? ⟨b0, off + k * 3 + 2, none⟩ = some (.int .i64 v) := e2
            obtain ⟨w8, hw8⟩ : ∃ w8, w7.drew = w8 := ⟨_, rfl⟩
            rw [hw8] at HS8 h8 by8 p0 p1 e2
            rw [hw8]
            clear k0 k1 k2 k3 k4 k5 l0 l1 l2
            obtain ⟨k0, k1, k2, k3, k4, k5⟩ := HS8.box.three
            obtain ⟨l0, l1, l2, -⟩ := by8.three
            rw [HBY.out] at l0 l1 l2
            have HS7 := Lib.hid HS8; have H7 := Lib.hid h8; have BY := Lib.hid by8
            clear HS8 h8 by8 hw8
            have hv := HV.out
            go_wp2_with fail
            go_roundw
            case rel => exact ⟨N, A, q, c, k + 1, rfl, rfl, by go_num, ⟨by omega, by omega, by omega, by omega⟩, ⟨Ax, cx, R, ps, HS7.out⟩⟩
            case measure => simp [intOf]; omega
          · rw [if_neg hv] at ACC
            by_cases hzu : z < u
            · rw [if_pos hzu] at ACC
              have ACC2 := Lib.hid (show Calls Try.prog 23 #[.agg #[.int .i64 5, .int .i64 0, .slice Ax 1 cx], .agg #[.int .i64 t, .int .i64 v], .int .i64 N] w5 fun e w' => ∃ A9 c9, e = .returned (.tuple #[.agg #[.int .i64 5, .int .i64 0, .slice A9 1 c9], .int .i64 0]) ∧ RiNew w5.heap.size (bx :: (Value.slice A q c).ownBlock.toList) w' (.slice A9 1 c9) [(s, IP.setL s R t v)] ∧ Below w5.heap.size w5 w' from ACC)
              clear ACC
              go_wp2_with fail
              refine ACC2.out.mono ?_; rintro _ w6 ⟨A6, c6, rfl, h6, hb6⟩
              obtain ⟨by7, hb7, hz7⟩ := bx_new1 w6 #[.int .i64 5, .int .i64 0, .slice A6 1 c6] 24
              have h7 := h6.below hb7
              obtain ⟨w7, hw7⟩ : ∃ w7, w6.alloc (.cells #[.int .i64 5, .int .i64 0, .slice A6 1 c6] 24) = w7 := ⟨_, rfl⟩
              rw [hw7] at by7 hb7 hz7 h7
              have T7 := bnext hb6 hb7
              have p0 := cellb T7 p0; have p1 := cellb T7 p1; have e2 := cellb T7 e2
              have HS6 := Lib.hid (HS5.out.move hb6 (Int.le_refl N)); have HS7 := Lib.hid (HS5.out.move T7 (Int.le_refl N))
              have HW7 := Lib.hid hw7; have H7 := Lib.hid h7; have BY := Lib.hid by7
              obtain ⟨k0, k1, k2, k3, k4, k5⟩ := HS7.out.box.three
              obtain ⟨l0, l1, l2, -⟩ := by7.three
              obtain ⟨by', hby⟩ : ∃ b, w6.heap.size = b := ⟨_, rfl⟩
              rw [hby] at l0 l1 l2
              have HBY := Lib.hid hby
              clear T7 hw7 h7 by7 hb6 hb7 hz7 h6 hby
              go_wp2_with fail
              rw [HW7.out]
              try simp only [HBY.out]
              go_region
              have HS8 := HS7.out.move (Below.refl w7.heap.size w7).drew (Int.le_refl N)
              have h8 := H7.out.below (Below.refl w7.heap.size w7).drew
              have by8 := BY.out.below (Below.refl w7.heap.size w7).drew
              have p0 : w7.drew.cell? ⟨pb, 0, none⟩ = some (.int .i64 t) := p0
              have p1 : w7.drew.cell? ⟨pb, 1, none⟩ = some (.int .i64 v) := p1
              have e2 : w7.drew.cell? ⟨b0, off + k * 3 + 2, none⟩ = some (.int .i64 v) := e2
              obtain ⟨w8, hw8⟩ : ∃ w8, w7.drew = w8 := ⟨_, rfl⟩
              rw [hw8] at HS8 h8 by8 p0 p1 e2
              rw [hw8]
              clear k0 k1 k2 k3 k4 k5 l0 l1 l2
              obtain ⟨k0, k1, k2, k3, k4, k5⟩ := HS8.box.three
              obtain ⟨l0, l1, l2, -⟩ := by8.three
              rw [HBY.out] at l0 l1 l2
              have HS7 := Lib.hid HS8; have H7 := Lib.hid h8; have BY := Lib.hid by8
              clear HS8 h8 by8 hw8
              have hzu' : ¬ u ≤ z := by omega
              have SM := Lib.hid (SET.out hv hzu)
              have ROW := Lib.hid HS7.out.row
              have B63 := Lib.hid (show q + 1 ≤ maxLen by simp only [maxLen]; omega)
              have B48 := Lib.hid (show (q + 1) * 16 ≤ 140737488355328 by omega)
              have FORM := Lib.hid (fun (W' : World) (v' : Value) (xs : List Value) (h : W'.ownsRow (bx + 1) 60 2 v' (q + 1) xs) => own_form h)
              have NEX := Lib.hid (show some bx ≠ (Value.slice A q c).ownBlock from fun e => by have := (own_lt HS7.out.row e.symm).1; omega)
              have NEY := Lib.hid (show some w6.heap.size ≠ (Value.slice A q c).ownBlock from fun e => by have h5 := (own_lt HS6.out.row e.symm).2; exact absurd h5 (Nat.lt_irrefl _))
              have SZ7 := Lib.hid (show bx + 1 ≤ w8.heap.size from HS7.out.box.lt)
              have RD := Lib.hid ((bx_new1 w8 #[.int .i64 t, .int .i64 v] 60).1.reads (n := 1) (size := 2) rfl)
              go_wp2_with (at_builtin; refine wpList_append_any _ rfl (.tmp 120) (.tmp 122) _ rfl (bx + 1) 60 i0 (.agg #[.int .i64 0, .int .i64 0]) 2 16 Try.underlying56 hi0 hz0 hz1 hz2 rfl (by decide) (.slice A q c) q (rgC ps) rfl (World.ownsRow.alloc ROW.out _) _ (some ⟨w8.heap.size, 0, none⟩) 1 1 [.int .i64 t, .int .i64 v] rfl RD.out (by simp [Value.oneCell']) B63.out B48.out (by have := SZ7.out; simp; omega) ?_; intro v20 w20 hown20 hg20 hat20; obtain ⟨A20, c20, hv20, _, _⟩ := FORM.out _ _ _ hown20; subst hv20; have HO := Lib.hid hown20; have HG := Lib.hid hg20; have HA := Lib.hid hat20; obtain ⟨l0, l1, l2, -⟩ := ((BY.out.below (alloc_below _ _)).grown HG.out NEY.out).three; obtain ⟨k0, k1, k2, k3, k4, k5⟩ := ((HS7.out.box.below (alloc_below _ _)).grown HG.out NEX.out).three; rw [HBY.out] at l0 l1 l2; clear hown20 hg20 hat20)
              go_roundw
              case rel => exact ⟨N, A20, q + 1, c20, k + 1, rfl, rfl, by go_num, ⟨by omega, by omega, by omega, by omega⟩, ⟨A6, c6, _, _, HS7.out.next H7.out SM.out HO.out HG.out HA.out⟩⟩
              case measure => simp [intOf]; omega
            · rw [if_neg hzu] at ACC
              have ACC2 := Lib.hid (show Calls Try.prog 23 #[.agg #[.int .i64 5, .int .i64 0, .slice Ax 1 cx], .agg #[.int .i64 t, .int .i64 v], .int .i64 N] w5 fun e w' => ∃ A9 c9, e = .returned (.tuple #[.agg #[.int .i64 5, .int .i64 0, .slice A9 1 c9], .int .i64 14]) ∧ RiNew w5.heap.size (bx :: (Value.slice A q c).ownBlock.toList) w' (.slice A9 1 c9) [(s, R)] ∧ Below w5.heap.size w5 w' from ACC)
              clear ACC
              go_wp2_with fail
              refine ACC2.out.mono ?_; rintro _ w6 ⟨A6, c6, rfl, h6, hb6⟩
              obtain ⟨by7, hb7, hz7⟩ := bx_new1 w6 #[.int .i64 5, .int .i64 0, .slice A6 1 c6] 24
              have h7 := h6.below hb7
              obtain ⟨w7, hw7⟩ : ∃ w7, w6.alloc (.cells #[.int .i64 5, .int .i64 0, .slice A6 1 c6] 24) = w7 := ⟨_, rfl⟩
              rw [hw7] at by7 hb7 hz7 h7
              have T7 := bnext hb6 hb7
              have p0 := cellb T7 p0; have p1 := cellb T7 p1; have e2 := cellb T7 e2
              have HS6 := Lib.hid (HS5.out.move hb6 (Int.le_refl N)); have HS7 := Lib.hid (HS5.out.move T7 (Int.le_refl N))
              have HW7 := Lib.hid hw7; have H7 := Lib.hid h7; have BY := Lib.hid by7
              obtain ⟨k0, k1, k2, k3, k4, k5⟩ := HS7.out.box.three
              obtain ⟨l0, l1, l2, -⟩ := by7.three
              obtain ⟨by', hby⟩ : ∃ b, w6.heap.size = b := ⟨_, rfl⟩
              rw [hby] at l0 l1 l2
              have HBY := Lib.hid hby
              clear T7 hw7 h7 by7 hb6 hb7 hz7 h6 hby
              go_wp2_with fail
              rw [HW7.out]
              try simp only [HBY.out]
              go_region
              have HS8 := HS7.out.move (Below.refl w7.heap.size w7).drew (Int.le_refl N)
              have h8 := H7.out.below (Below.refl w7.heap.size w7).drew
              have by8 := BY.out.below (Below.refl w7.heap.size w7).drew
              have p0 : w7.drew.cell? ⟨pb, 0, none⟩ = some (.int .i64 t) := p0
              have p1 : w7.drew.cell? ⟨pb, 1, none⟩ = some (.int .i64 v) := p1
              have e2 : w7.drew.cell? ⟨b0, off + k * 3 + 2, none⟩ = some (.int .i64 v) := e2
              obtain ⟨w8, hw8⟩ : ∃ w8, w7.drew = w8 := ⟨_, rfl⟩
              rw [hw8] at HS8 h8 by8 p0 p1 e2
              rw [hw8]
              clear k0 k1 k2 k3 k4 k5 l0 l1 l2
              obtain ⟨k0, k1, k2, k3, k4, k5⟩ := HS8.box.three
              obtain ⟨l0, l1, l2, -⟩ := by8.three
              rw [HBY.out] at l0 l1 l2
              have HS7 := Lib.hid HS8; have H7 := Lib.hid h8; have BY := Lib.hid by8
              clear HS8 h8 by8 hw8
              have hzu' : u ≤ z := by omega
              go_wp2_with fail
              go_roundw
              case rel => exact ⟨N, A, q, c, k + 1, rfl, rfl, by go_num, ⟨by omega, by omega, by omega, by omega⟩, ⟨A6, c6, R, ps, HS7.out.next0 H7.out⟩⟩
              case measure => simp [intOf]; omega
      · obtain rfl : k = N0 := by omega
        have hkk : ¬ (k : Int) < (k : Int) := by omega
        have hpq1' : s * (n : Int) ≤ 10 * 11 := Int.mul_le_mul h2 (by omega) (by omega) (by omega)
        have hpq0' : 1 * 1 ≤ s * (n : Int) := Int.mul_le_mul h1 (by omega) (by omega) (by omega)
        obtain ⟨F1, F2, F3, F4⟩ := last_fetch HS.out.math h1 h2 h3 h4 hn0 (show now ≤ 1000000 by omega)
        have hU := rUp_facts (s := s) (t := now - s * (n : Int) + 1) h1 (by omega)
        have RL : ∀ r ∈ [(s, R)], r.2.length ≤ 100000 := fun r hr => by rw [show r = (s, R) from by simpa using hr]; show R.length ≤ _; rw [HS.out.math.len]; omega
        have FC := fetch_c 5 0 (now - s * (n : Int) + 1) (now + 1) now (.slice Ax 1 cx) [(s, R)] (by simp) RL wr HS.out.lad.out
        rw [F1, F2, F3, F4] at FC
        obtain ⟨V, hV⟩ : ∃ V, (List.range n).map (fun (i : Nat) => lastAt s ps (rUp s (now - s * (n : Int) + 1) * s + (i : Int) * s)) = V := ⟨_, rfl⟩
        have VL : V.length = n := by rw [← hV, List.length_map, List.length_range]
        have VA := fun (j : Nat) (hj : j < n) => show V[j]? = some (lastAt s ps (rUp s (now - s * (n : Int) + 1) * s + (j : Int) * s)) from by rw [← hV, List.getElem?_map, List.getElem?_range hj]; rfl
        rw [hV, VL] at FC
        obtain ⟨pq, hpq⟩ : ∃ pq, s * (n : Int) = pq := ⟨_, rfl⟩
        rw [hpq] at FC VA hU hpq1' hpq0'
        obtain ⟨S0, hS0⟩ : ∃ S0, rUp s (now - pq + 1) * s = S0 := ⟨_, rfl⟩
        rw [hS0] at FC VA hU
        have wpq : IntKind.i64.wrap pq = pq := by rw [IntKind.wrap_i64]; omega
        have wz : IntKind.i64.wrap (now - pq) = now - pq := by rw [IntKind.wrap_i64]; omega
        have wz1 : IntKind.i64.wrap (now - pq + 1) = now - pq + 1 := by rw [IntKind.wrap_i64]; omega
        have wz2 : IntKind.i64.wrap (now + 1) = now + 1 := by rw [IntKind.wrap_i64]; omega
        have RO := Lib.hid (show RgOut wr (.slice A q c) ps from own_rg (B := bx + 1) (e := 60) (by rw [HS.out.len]; exact HS.out.row))
        have FC := Lib.hid FC; have VA := Lib.hid VA; have VLH := Lib.hid VL; have PST := Lib.hid HS.out.math.past; have LNH := Lib.hid HS.out.len
        have S0b : 0 ≤ S0 ∧ S0 ≤ 2000000 := by omega
        obtain ⟨k0, k1, k2, -⟩ := HS.out.box.three
        have KB := Lib.hid HS.out.below
        clear F1 F2 F3 F4 RL hV VL hU hS0
        go_wp2_with fail
        refine FC.out.mono ?_; rintro _ w5 ⟨A5, c5, rfl, hN5, hb5⟩
        obtain ⟨bs, hb6, hz6⟩ := bx_new1 w5 #[.string (ByteArray.mk #[]), .int .i64 S0, .int .i64 s, .slice A5 n c5] 32
        have NV := (NuNew.out hN5).below hb6
        obtain ⟨w6, hw6⟩ : ∃ w6, w5.alloc (.cells #[.string (ByteArray.mk #[]), .int .i64 S0, .int .i64 s, .slice A5 n c5] 32) = w6 := ⟨_, rfl⟩
        rw [hw6] at bs hb6 hz6 NV
        have BS := Lib.hid bs; have NV := Lib.hid NV; have KB := Lib.hid (bnext KB.out (bnext hb5 hb6)); have RO := Lib.hid (RO.out.below (bnext hb5 hb6)); have HW6 := Lib.hid hw6
        clear hw6 bs hb6 hz6 hb5 hN5 k0 k1 k2
        go_wp2_with fail
        rw [HW6.out]
        go_loopw [20] (fun v20 wr2 => ∃ k2 : Nat, k2 ≤ n ∧ v20 = .int .i64 k2 ∧ Hid (Below w6.heap.size w6 wr2)) (fun v20 _ => n - (intOf v20).toNat)
        case atStart => exact ⟨0, Nat.zero_le _, rfl, Below.refl _ _⟩
        case round =>
          obtain ⟨k2, hk2, rfl, HB⟩ := hrel
          obtain ⟨b0', b1', b2', b3', -⟩ := (BS.out.below HB.out).four
          by_cases hlt2 : k2 < n
          · have hvk := VA.out k2 hlt2
            have hm0 : 0 ≤ (k2 : Int) * s := Int.mul_nonneg (by omega) (by omega)
            have hm1 : (k2 : Int) * s ≤ 11 * 10 := Int.mul_le_mul (by omega) h2 (by omega) (by omega)
            obtain ⟨ks, hks⟩ : ∃ ks, (k2 : Int) * s = ks := ⟨_, rfl⟩
            rw [hks] at hvk hm0 hm1
            obtain ⟨T, hT⟩ : ∃ T, S0 + ks = T := ⟨_, rfl⟩
            rw [hT] at hvk
            have wks : IntKind.i64.wrap ks = ks := by rw [IntKind.wrap_i64]; omega
            have wT : IntKind.i64.wrap T = T := by rw [IntKind.wrap_i64]; omega
            obtain ⟨A9, c9, hv9, hc9, hx9⟩ := NV.out
            injection hv9 with e9 e8 e7
            subst e9
            obtain ⟨g9, off9, rfl, hat9⟩ := hx9 (fun e => by rw [e] at hvk; simp at hvk)
            obtain ⟨v0, v1⟩ := hat9 k2 _ hvk
            have VV := Lib.hid (show w6.cell? ⟨g9, off9 + k2 * 2, none⟩ = some (.bool (lastAt s ps T).isNone) ∧ w6.cell? ⟨g9, off9 + k2 * 2 + 1, none⟩ = some (.int .i64 ((lastAt s ps T).getD 0)) from ⟨v0, v1⟩)
            have i0' : (0 : Int) ≤ (k2 : Int) := by omega
            have i1' : (k2 : Int) < (n : Int) := by omega
            clear hvk hat9 hx9 v0 v1 e8 e7 hc9
            go_wp2_with fail
            refine (IR.nothing_c _).mono ?_; rintro _ w7 ⟨rfl, hb7⟩
            obtain ⟨bw, hb8, hz8⟩ := bx_new1 w7 #[.bool true, .int .i64 0] 47
            obtain ⟨w8, hw8⟩ : ∃ w8, w7.alloc (.cells #[.bool true, .int .i64 0] 47) = w8 := ⟨_, rfl⟩
            rw [hw8] at bw hb8 hz8
            obtain ⟨wb, hwb⟩ : ∃ wb, w7.heap.size = wb := ⟨_, rfl⟩
            rw [hwb] at bw
            have H67 := Lib.hid (show Below w6.heap.size w6 w7 from bnext HB.out hb7)
            have H78 := Lib.hid (show Below w7.heap.size w7 w8 from hb8)
            have BW := Lib.hid bw; have HW8 := Lib.hid hw8; have HWB := Lib.hid hwb
            clear bw hw8 hb8 hz8 hwb hb7 b0' b1' b2' b3'
            go_wp2_with fail
            rw [HW8.out]
            try simp only [HWB.out]
            go_loopw [23] (fun v23 wr3 => ∃ i : Nat, i ≤ q ∧ v23 = .int .i64 i ∧ Hid (Bx wr3 wb [.bool (lastAt s (ps.take i) T).isNone, .int .i64 ((lastAt s (ps.take i) T).getD 0)] ∧ Below w7.heap.size w7 wr3)) (fun v23 _ => q - (intOf v23).toNat)
            case atStart => exact ⟨0, Nat.zero_le _, rfl, BW.out, H78.out⟩
            case round =>
              obtain ⟨i, hi, rfl, HJ⟩ := hrel
              by_cases hlt3 : i < q
              · obtain ⟨⟨tt, vv⟩, hp⟩ : ∃ r, ps[i]? = some r := ⟨_, List.getElem?_eq_getElem (by rw [LNH.out]; exact hlt3)⟩
                have KW := bnext H67.out HJ.out.2
                obtain ⟨A8, c8, hv8, hc8, hx8⟩ := RO.out
                injection hv8 with e9 e8 e7
                subst e9
                obtain ⟨g8, off8, rfl, hat8⟩ := hx8 (fun e => by rw [e] at hp; simp at hp)
                obtain ⟨y0, y1⟩ := hat8 i _ hp
                simp only at y0 y1
                have y0 := cellb KW y0; have y1 := cellb KW y1
                have hps := PST.out _ (List.mem_of_getElem? hp)
                simp only at hps
                obtain ⟨r, hr⟩ : ∃ r, tt % s = r := ⟨_, rfl⟩
                have hr0 : 0 ≤ r := by rw [← hr]; exact Int.emod_nonneg _ (by omega)
                have hr1 : r < s := by rw [← hr]; exact Int.emod_lt_of_pos _ (by omega)
                have hrt : tt.tmod s = r := by rw [Int.tmod_eq_emod_of_nonneg (by omega)]; exact hr
                obtain ⟨u, hu⟩ : ∃ u, tt - r = u := ⟨_, rfl⟩
                have hAt : rAt s tt = u := by unfold rAt; rw [hr]; exact hu
                have LT := lastAt_take (s := s) hp T
                rw [hAt] at LT
                have wu : IntKind.i64.wrap u = u := by rw [IntKind.wrap_i64]; omega
                have wr' : IntKind.i64.wrap r = r := by rw [IntKind.wrap_i64]; omega
                have s0 : 0 < s := by omega
                have sne : ¬ s = 0 := by omega
                have t0 : 0 ≤ tt := hps.1
                have j0' : (0 : Int) ≤ (i : Int) := by omega
                have j1' : (i : Int) < (q : Int) := by omega
                have LT := Lib.hid LT
                have KJ := Lib.hid HJ.out.2
                have BJ := Lib.hid HJ.out.1
                have GEW := Lib.hid (show w7.heap.size ≤ wb from by rw [HWB.out]; exact Nat.le_refl _)
                obtain ⟨Bz, hBz⟩ : ∃ B, (lastAt s (ps.take i) T).isNone = B := ⟨_, rfl⟩
                obtain ⟨Nz, hNz⟩ : ∃ N, (lastAt s (ps.take i) T).getD 0 = N := ⟨_, rfl⟩
                have BJ2 := BJ.out
                rw [hBz, hNz] at BJ2
                have BJ2 := Lib.hid BJ2
                clear hp hat8 hx8 e8 e7 hc8 hps hAt KW hBz hNz
                go_wp2_with fail
                go_region
                have bj := BJ2.out.drew
                obtain ⟨m0, m1, m2, m3⟩ := BJ2.out.two
                by_cases heq : u = T
                · have NX := Lib.hid (show lastAt s (ps.take (i + 1)) T = some vv from LT.out.trans (if_pos heq))
                  go_wp2_with fail
                  go_roundw
                  case rel => exact ⟨i + 1, by omega, by go_num, by rw [NX.out]; exact (bj.set (j := 0) (by simp) _).set (j := 1) (by simp) _, below_put2 KJ.out.drew GEW.out _ _⟩
                  case measure => simp [intOf]; omega
                · have NX := Lib.hid (show lastAt s (ps.take (i + 1)) T = lastAt s (ps.take i) T from LT.out.trans (if_neg heq))
                  go_wp2_with fail
                  go_roundw
                  case rel => exact ⟨i + 1, by omega, by go_num, by rw [NX.out]; exact BJ.out.drew, KJ.out.drew⟩
                  case measure => simp [intOf]; omega
              · obtain rfl : i = q := by omega
                have KW := Lib.hid (bnext H67.out HJ.out.2)
                have bz := HJ.out.1
                rw [show ps.take i = ps from by rw [← LNH.out]; exact List.take_length] at bz
                obtain ⟨Bz, hBz⟩ : ∃ B, (lastAt s ps T).isNone = B := ⟨_, rfl⟩
                obtain ⟨Nz, hNz⟩ : ∃ N, (lastAt s ps T).getD 0 = N := ⟨_, rfl⟩
                rw [hBz, hNz] at bz
                obtain ⟨v0, v1⟩ := VV.out
                rw [hBz] at v0
                rw [hNz] at v1
                have v0 := cellb KW.out v0; have v1 := cellb KW.out v1
                obtain ⟨m0, m1, -, -⟩ := bz.two
                obtain ⟨b0', b1', b2', b3', -⟩ := (BS.out.below KW.out).four
                clear bz hBz hNz
                go_wp2_with fail
                go_region
                go_wp2_with fail
                go_roundw
                case rel => exact ⟨k2 + 1, by omega, by go_num, KW.out.drew⟩
                case measure => simp [intOf]; omega
          · obtain rfl : k2 = n := by omega
            have KW := Lib.hid (bnext KB.out HB.out)
            go_wp2_with fail
            go_ret
            exact ⟨by first | rfl | simp, KW.out⟩
end AW
end Go.Proofs.Ytmmpnbkbjlpalaa
