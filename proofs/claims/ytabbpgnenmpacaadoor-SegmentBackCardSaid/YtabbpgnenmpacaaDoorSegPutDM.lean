/-
  Contracts of the document's own functions of layer 8 (isobarref08): Put, of a head.
-/
import Derived.Test.YtabbpgnenmpacaaDoorSegPutM
import Derived.Lib.AppendStr
import Derived.Laws.BitsLemmas
import Derived.Deep.DeepCutAuto
import Derived.Deep.RegionHeldLaw
set_option linter.unusedSimpArgs false
set_option linter.unusedVariables false
namespace Go.Proofs.YtabbpgnenmpacaaDoor.SR
open Go Go.RowKit
open CR (below_next own_ge u8_wrap)
theorem strCells_is {p : List Nat} (hp : Bytes p) : Lib.strCells (strB p) = bys p := by
  unfold Lib.strCells strB bys
  simp only [List.toList_toArray, List.map_map]
  refine List.map_congr_left fun x hx => ?_
  have := hp x hx
  show Value.int .u8 (((UInt8.ofNat x).toNat : Nat) : Int) = _
  rw [UInt8.toNat_ofNat']
  congr 2
  omega
/-- A text is appended, at a step of a region that draws. -/
theorem step_str {ops : Array Oper} {o : Oper} {a : Act} {K : Act → World → Prop} {Q : Exit → Act → World → Prop} {E : Prop} {w W : World} {C : List Value} {vb : Value} {n : Nat} {acc : List Nat} {L : List (Value × List Nat)} (hst : PSt w W C vb n acc L)
    (hgd : o.guard = none) (s x : Operand) (ho : o.op = .call { callee := .builtin .append, args := #[s, x], argTypes := #[27, 9] }) (ht : o.type = 27)
    (hs : a.eval s = vb) (b : ByteArray) (hx : a.eval x = .string b) (p : List Nat) (hb : strB p = b) (hp : Bytes p) (N : Nat) (hN : p.length = N) (hn : n + N ≤ 100000)
    (h : ∀ v' w', PSt w w' C v' (n + N) (acc ++ p) [] → K (a.put o.dst v') w') :
    if Region.wanted o (yielded ops a.tmps) = true then Oper.wp Tryd.prog o a W K Q else E := by
  have hw : Region.wanted o (yielded ops a.tmps) = true := by simp [Region.wanted, hgd]
  rw [if_pos hw]
  obtain ⟨i0, hi0, hz0, hz1, hz2⟩ := info_parts (P := Tryd.prog) (e := 5) (z := .int .u8 0) (size := 1) (bytes := 1) (by kernel_rfl)
  have hsz : b.size = N := by rw [← hb, strB_size, hN]
  obtain ⟨v', w', hrun, h2, h3, _⟩ := Lib.run_append_own_string (P := Tryd.prog) W (w.heap.size + 1) 27 9 27 5 i0 Tryd.underlying27 Tryd.underlying9 hi0 hz0 hz1 hz2 vb n (bys acc) hst.own b (by rw [hsz]; simp only [maxLen]; omega) (by rw [hsz]; omega) hst.lt
  rw [hsz, ← hb, strCells_is hp] at h2
  have hne : vb.ownBlock ≠ some w.heap.size := fun e => by have := own_ge hst.own _ e; omega
  unfold Oper.wp execOp
  simp only [ho, ht, resolve, invoke, builtin, Sem.run_bind, Sem.run_pure, Result.andThen_ok, List.map_toArray, List.map_cons, List.map_nil, hs, hx, hrun]
  refine h v' w' ⟨fun j u hj => (World.cell?_of_block (h3.block w.heap.size hst.lt (fun e => hne e.symm))).trans (hst.box j u hj), Nat.lt_of_lt_of_le hst.lt h3.size, by rw [List.length_append, hst.len, hN], by rw [bys_app]; exact h2, fun x hx => (by cases hx), Below.grown hst.below h3 (Nat.le_of_lt hst.lt) (fun g hg' => by have := own_ge hst.own g hg'; omega)⟩
theorem PSt.lit2 {w W : World} {C : List Value} {vb : Value} {n : Nat} {acc : List Nat} {L : List (Value × List Nat)} (h : PSt w W C vb n acc L) (x y : Int) (h0 : 0 ≤ x) (h1 : 0 ≤ y) (fz fz' : Nat × Nat) :
    PSt w ((W.alloc (.cells #[.int .u8 x] 5 fz)).alloc (.cells #[.int .u8 y] 5 fz')) C vb n acc ((.slice (some ⟨W.heap.size + 1, 0, none⟩) 1 1, [y.toNat]) :: (.slice (some ⟨W.heap.size, 0, none⟩) 1 1, [x.toNat]) :: L) := by
  have h2 := (h.lit x h0 fz).lit y h1 fz'
  have e : (W.alloc (.cells #[.int .u8 x] 5 fz)).heap.size = W.heap.size + 1 := by simp
  rw [e] at h2
  exact h2
theorem PSt.three {w W : World} {k s m f u x5 x6 x7 x8 : Value} {vb : Value} {n : Nat} {acc : List Nat} {L : List (Value × List Nat)} (h : PSt w W [k, s, m, f, u, x5, x6, x7, x8] vb n acc L) :
    W.cell? ⟨w.heap.size, 2, none⟩ = some m ∧ W.cell? ⟨w.heap.size, 3, none⟩ = some f ∧ W.cell? ⟨w.heap.size, 4, none⟩ = some u := ⟨h.box 2 _ rfl, h.box 3 _ rfl, h.box 4 _ rfl⟩
set_option maxRecDepth 100000 in
set_option maxHeartbeats 16000000 in
theorem put_one (p : List Nat) (m f : Int) (l : List (Int × Int)) (A : Option Addr) (n c : Nat) (hp : Bytes p) (hln : l.length = n) (w : World) (hro : RgOut w (.slice A n c) l) (hok : hdOk p m f l = true) :
    Calls Tryd.prog 9 #[.agg #[.int .i64 1, .string (strB p), .int .i64 m, .int .i64 f, .slice A n c, .int .i64 0, .int .i64 0, .int .i64 0, .int .i64 0]] w fun e w' => ∃ v', e = .returned (.tuple #[v', .int .i64 0]) ∧ ByNew w.heap.size w' v' (rBytes (hdR p m f l)) ∧ Below w.heap.size w w' := by
  obtain ⟨⟨b1, b2⟩, ⟨m1, m2⟩, ⟨f1, f2⟩, hrg, l1, l2⟩ := hd_bounds hok
  have RT := Lib.hid (fun (W : World) (hB : Below w.heap.size w W) => by
    have h := right_c (.agg #[.int .i64 1, .string (strB p), .int .i64 m, .int .i64 f, .slice A n c, .int .i64 0, .int .i64 0, .int .i64 0, .int .i64 0]) (hdR p m f l) hp (by show l.length ≤ 100000; omega) W ⟨_, rfl, hro.below hB⟩
    rw [right_hd, hok] at h
    exact h)
  obtain ⟨T, hT⟩ : ∃ T, rBytes (hdR p m f l) = T := ⟨_, rfl⟩
  rw [hT]
  have hsz := strB_size p
  obtain ⟨s, hs⟩ : ∃ s, strB p = s := ⟨_, rfl⟩
  rw [hs] at RT hsz ⊢
  obtain ⟨N, hN⟩ : ∃ N, p.length = N := ⟨_, rfl⟩
  rw [hN] at hsz b1 b2
  have z0' : (0 : Int) ≤ (N : Int) := by omega
  have z1' : (N : Int) < 18446744073709551616 := by omega
  have hws : IntKind.u64.wrap (N : Int) = (N : Int) := by rw [IntKind.wrap_u64]; omega
  have f0 : 0 ≤ f := f1
  have f3 : f < 18446744073709551616 := by omega
  have hwf : IntKind.u64.wrap f = f := by rw [IntKind.wrap_u64]; omega
  have m0 : 0 ≤ m := by omega
  have hwm : IntKind.u8.wrap m = m := by rw [u8_wrap]; omega
  have n0 : 0 ≤ (n : Int) := by omega
  have hwn : IntKind.u8.wrap (n : Int) = (n : Int) := by rw [u8_wrap]; omega
  have HS := Lib.hid hs; have HN := Lib.hid hN; have HP := Lib.hid hp
  have HT := Lib.hid (show ([1] ++ nB 2 (N : Int).toNat ++ p ++ [m.toNat] ++ nB 4 f.toNat ++ [(n : Int).toNat]) ++ l.flatMap rgB = T by
    rw [← hT, rBytes_hd, hN, hln, show (N : Int).toNat = N by omega, show (n : Int).toNat = n by omega]
    simp)
  have HRG := Lib.hid hrg; have HLN := Lib.hid hln; have HRO := Lib.hid hro
  have HH := Lib.hid (holds_alloc w [.int .i64 1, .string s, .int .i64 m, .int .i64 f, .slice A n c, .int .i64 0, .int .i64 0, .int .i64 0, .int .i64 0] 24)
  have hN2 : N ≤ 263 := b2
  have hn4 : n ≤ 4 := by omega
  have hle0 : 1 + 2 + N ≤ 100000 := by omega
  have hle1 : 1 + 2 + N + 1 ≤ 100000 := by omega
  have hle2 : 1 + 2 + N + 1 + 4 ≤ 100000 := by omega
  have hle3 : 1 + 2 + N + 1 + 4 + 1 ≤ 100000 := by omega
  have F3 := Lib.hid f3; have Z1 := Lib.hid z1'
  clear hro hok b1 b2 hT hs hN hp hrg hln m1 m2 f1 f2 l1 l2 f3 z1'
  go_enter Tryd.func9, Tryd.ntmps9
  go_wp2_with fail
  refine (RT.out _ ((Below.refl _ _).alloc (Nat.le_refl _) _)).mono ?_; rintro _ w1 ⟨rfl, hb1⟩
  have hr1 : Holds w1 w.heap.size _ := HH.out.below hb1
  have hbw1 : Below w.heap.size w w1 := Below.trans ((Below.refl _ _).alloc (Nat.le_refl _) _) (hb1.mono (by simp))
  have hlt1 : w.heap.size < w1.heap.size := by have := hb1.size; simp at this; omega
  obtain ⟨r0, r1, r2, r3, r4, r5, r6, r7, r8⟩ := hr1.nine
  have HR1 := Lib.hid hr1; have B1 := Lib.hid hbw1
  clear hb1 hr1 hbw1
  have hst0 : PSt w (w1.alloc (.cells #[.int .u8 1] 5)) [.int .i64 1, .string s, .int .i64 m, .int .i64 f, .slice A n c, .int .i64 0, .int .i64 0, .int .i64 0, .int .i64 0] (.slice (some ⟨w1.heap.size, 0, none⟩) 1 1) 1 [1] [] :=
    ⟨HR1.out.below (alloc_below _ _), by simp; omega, rfl, World.ownsRow_lit (base := w.heap.size + 1) (e := 5) (size := 1) w1 #[.int .u8 1] 1 hlt1 (by decide) rfl, fun x hx => (by cases hx), Below.trans B1.out ((alloc_below w1 _).mono B1.out.size)⟩
  have HST := Lib.hid hst0
  clear hst0
  go_wp2_with fail
  refine gen_last (F := fun W => PSt w W [.int .i64 1, .string s, .int .i64 m, .int .i64 f, .slice A n c, .int .i64 0, .int .i64 0, .int .i64 0, .int .i64 0] (.slice (some ⟨w1.heap.size, 0, none⟩) 1 1) 1 [1] []) HST.out ?_
  intro w2 hst
  clear r0 r1 r2 r3 r4 r5 r6 r7 r8 HST HR1
  obtain ⟨r0, r1, r2, r3, r4, r5, r6, r7, r8⟩ := hst.box.nine
  have hlt := hst.lt
  have hst3 := hst.drew
  clear hst
  go_cut [4] (fun bv wx => Hid (PSt w wx [.int .i64 1, .string s, .int .i64 m, .int .i64 f, .slice A n c, .int .i64 0, .int .i64 0, .int .i64 0, .int .i64 0] bv (1 + 2 + N) ([1] ++ nB 2 (N : Int).toNat ++ p) []))
  case first =>
    go_region_law (first
      | (refine step_num (by assumption) rfl (.tmp 37) 2 _ rfl (by decide) _ rfl z0' Z1.out ?_; intro A4 c4 w4 hst4; obtain ⟨q0, q1, q2, q3, q4, q5, q6, q7, q8⟩ := hst4.box.nine; have hlt4 := hst4.lt)
      | (refine step_app (by assumption) rfl (.tmp 33) (.tmp 38) rfl rfl rfl _ 2 _ rfl _ (nB_length _ _) (by first | exact List.mem_cons_self | exact List.mem_cons_of_mem _ List.mem_cons_self | exact List.mem_cons_of_mem _ (List.mem_cons_of_mem _ List.mem_cons_self)) (by decide) ?_; intro v4 w4 hst4; obtain ⟨q0, q1, q2, q3, q4, q5, q6, q7, q8⟩ := hst4.box.nine; have hlt4 := hst4.lt)
      | (refine step_str (by assumption) rfl (.tmp 39) (.tmp 41) rfl rfl rfl s rfl p HS.out HP.out N HN.out hle0 ?_; intro v4 w4 hst4; obtain ⟨q0, q1, q2, q3, q4, q5, q6, q7, q8⟩ := hst4.box.nine; have hlt4 := hst4.lt))
    all_goals (try go_wp2_with fail)
    all_goals go_meet
    all_goals exact Lib.hid (by assumption)
  case rest =>
    have hst := hcut.out
    clear r0 r1 r2 r3 r4 r5 r6 r7 r8 hst3 hlt hcut
    obtain ⟨r0, r1, r2, r3, r4, r5, r6, r7, r8⟩ := hst.box.nine
    have hlt := hst.lt
    have hst3 := hst.drew
    clear hst
    go_wp2_with fail
    go_cut [4] (fun bv wx => Hid (PSt w wx [.int .i64 1, .string s, .int .i64 m, .int .i64 f, .slice A n c, .int .i64 0, .int .i64 0, .int .i64 0, .int .i64 0] bv (1 + 2 + N + 1 + 4 + 1) ([1] ++ nB 2 (N : Int).toNat ++ p ++ [m.toNat] ++ nB 4 f.toNat ++ [(n : Int).toNat]) []))
    case first =>
      have hst4 := hst3
      clear hst3
      go_region_held_law (fun y => y.cell? ⟨w.heap.size, 2, none⟩ = some (.int .i64 m) ∧ y.cell? ⟨w.heap.size, 3, none⟩ = some (.int .i64 f) ∧ y.cell? ⟨w.heap.size, 4, none⟩ = some (.slice A n c))
        (first
          | exact PSt.three hst4
          | exact PSt.three (PSt.lit hst4 _ (by first | exact m0 | exact n0) _)
          | exact PSt.three (PSt.lit2 hst4 _ _ (by first | exact m0 | exact n0) (by first | exact m0 | exact n0) _ _))
        (first
          | (refine step_app (by first | exact hst4 | exact PSt.lit hst4 _ (by first | exact m0 | exact n0) _ | exact PSt.lit2 hst4 _ _ (by first | exact m0 | exact n0) (by first | exact m0 | exact n0) _ _) rfl (.tmp 43) (.tmp 47) rfl rfl rfl _ 1 _ rfl [m.toNat] rfl (by first | exact List.mem_cons_self | exact List.mem_cons_of_mem _ List.mem_cons_self | exact List.mem_cons_of_mem _ (List.mem_cons_of_mem _ List.mem_cons_self)) hle1 ?_; intro v4 w4 hst4; simp only [Act.put, List.getElem_toArray, List.getElem_cons_zero, List.getElem_cons_succ, List.setIfInBounds_toArray, List.set_cons_zero, List.set_cons_succ])
          | (refine step_num (by first | exact hst4 | exact PSt.lit hst4 _ (by first | exact m0 | exact n0) _ | exact PSt.lit2 hst4 _ _ (by first | exact m0 | exact n0) (by first | exact m0 | exact n0) _ _) rfl (.tmp 51) 4 _ rfl (by decide) _ rfl f0 F3.out ?_; intro A4 c4 w4 hst4; simp only [Act.put, List.getElem_toArray, List.getElem_cons_zero, List.getElem_cons_succ, List.setIfInBounds_toArray, List.set_cons_zero, List.set_cons_succ])
          | (refine step_app (by first | exact hst4 | exact PSt.lit hst4 _ (by first | exact m0 | exact n0) _ | exact PSt.lit2 hst4 _ _ (by first | exact m0 | exact n0) (by first | exact m0 | exact n0) _ _) rfl (.tmp 48) (.tmp 52) rfl rfl rfl _ 4 _ rfl _ (nB_length _ _) (by first | exact List.mem_cons_self | exact List.mem_cons_of_mem _ List.mem_cons_self | exact List.mem_cons_of_mem _ (List.mem_cons_of_mem _ List.mem_cons_self)) hle2 ?_; intro v4 w4 hst4; simp only [Act.put, List.getElem_toArray, List.getElem_cons_zero, List.getElem_cons_succ, List.setIfInBounds_toArray, List.set_cons_zero, List.set_cons_succ])
          | (refine step_app (by first | exact hst4 | exact PSt.lit hst4 _ (by first | exact m0 | exact n0) _ | exact PSt.lit2 hst4 _ _ (by first | exact m0 | exact n0) (by first | exact m0 | exact n0) _ _) rfl (.tmp 53) (.tmp 58) rfl rfl rfl _ 1 _ rfl [(n : Int).toNat] rfl (by first | exact List.mem_cons_self | exact List.mem_cons_of_mem _ List.mem_cons_self | exact List.mem_cons_of_mem _ (List.mem_cons_of_mem _ List.mem_cons_self)) hle3 ?_; intro v4 w4 hst4; simp only [Act.put, List.getElem_toArray, List.getElem_cons_zero, List.getElem_cons_succ, List.setIfInBounds_toArray, List.set_cons_zero, List.set_cons_succ]))
      all_goals (try go_wp2_with fail)
      all_goals go_meet
      all_goals exact Lib.hid (PSt.drop hst4)
    case rest =>
      have HST := Lib.hid hcut.out
      clear r0 r1 r2 r3 r4 r5 r6 r7 r8 hst3 hlt hcut
      obtain ⟨r0, r1, r2, r3, r4, r5, r6, r7, r8⟩ := HST.out.box.nine
      have hlt := HST.out.lt
      have hacc : ∃ acc, [1] ++ nB 2 (N : Int).toNat ++ p ++ [m.toNat] ++ nB 4 f.toNat ++ [(n : Int).toNat] = acc := ⟨_, rfl⟩
      obtain ⟨acc, hacc⟩ := hacc
      rw [hacc] at HST HT
      clear hacc
      go_wp2
      go_loopw [4, 5] (fun bv i wr => ∃ (k : Nat) (vb : Value), bv = vb ∧ i = .int .i64 k ∧ k ≤ n ∧ Hid (PSt w wr [.int .i64 1, .string s, .int .i64 m, .int .i64 f, .slice A n c, .int .i64 0, .int .i64 0, .int .i64 0, .int .i64 0] vb (1 + 2 + N + 1 + 4 + 1 + 6 * k) (acc ++ (l.take k).flatMap rgB) [])) (fun _ i _ => n - (intOf i).toNat)
      case atStart => exact ⟨0, _, rfl, rfl, Nat.zero_le _, Lib.hid (by rw [List.take_zero]; simpa using HST.out)⟩
      case round =>
        clear r0 r1 r2 r3 r4 r5 r6 r7 r8 hlt HST
        obtain ⟨k, vb, rfl, rfl, hk, HI⟩ := hrel
        obtain ⟨r0, r1, r2, r3, r4, r5, r6, r7, r8⟩ := HI.out.box.nine
        have hlt := HI.out.lt
        by_cases hkn : k < n
        · have hkl : k < l.length := by rw [HLN.out]; exact hkn
          obtain ⟨A', c', hv', _, hx'⟩ := HRO.out
          injection hv' with e1 e2 e3
          obtain ⟨b, off, hA, ha⟩ := hx' (by intro e; rw [e] at hkl; exact absurd hkl (Nat.not_lt_zero _))
          rw [hA] at e1
          subst e1
          have hp0 := List.getElem?_eq_getElem hkl
          obtain ⟨z0, z1⟩ := ha k _ hp0
          have hgb := HRG.out _ (List.getElem_mem hkl)
          have htk : (l.take (k + 1)).flatMap rgB = (l.take k).flatMap rgB ++ (nB 4 (l[k]).1.toNat ++ nB 2 (l[k]).2.toNat) := by
            rw [List.take_add_one, hp0, List.flatMap_append]
            show _ ++ [l[k]].flatMap rgB = _
            rw [List.flatMap_cons]
            show _ ++ (rgB l[k] ++ []) = _
            rw [List.append_nil]
            rfl
          generalize (l[k]).1 = x at *
          generalize (l[k]).2 = y at *
          have hx0 : 0 ≤ x := by omega
          have hx1 : x < 18446744073709551616 := by omega
          have hy0 : 0 ≤ y := by omega
          have hy1 : y < 18446744073709551616 := by omega
          have hwx : IntKind.u64.wrap x = x := by rw [IntKind.wrap_u64]; omega
          have hwy : IntKind.u64.wrap y = y := by rw [IntKind.wrap_u64]; omega
          have hlk1 : 1 + 2 + N + 1 + 4 + 1 + 6 * k + 4 ≤ 100000 := by omega
          have hlk2 : 1 + 2 + N + 1 + 4 + 1 + 6 * k + 4 + 2 ≤ 100000 := by omega
          have hst3 := HI.out.drew
          have y0 := cellb HI.out.below z0
          have y1 := cellb HI.out.below z1
          have HTK := Lib.hid (show acc ++ (l.take k).flatMap rgB ++ nB 4 x.toNat ++ nB 2 y.toNat = acc ++ (l.take (k + 1)).flatMap rgB by rw [htk]; simp)
          have hknext : k + 1 ≤ n := hkn
          have hnk : 1 + 2 + N + 1 + 4 + 1 + 6 * k + 4 + 2 = 1 + 2 + N + 1 + 4 + 1 + 6 * (k + 1) := by omega
          have HNK := Lib.hid hnk
          clear hnk
          clear hgb htk hp0 ha hx' hkl HI e2 e3 hA
          go_wp2
          go_region_law (first
        | (refine step_num (by assumption) rfl (.tmp 74) 4 _ rfl (by decide) _ rfl hx0 hx1 ?_; intro A4 c4 w4 hst4; obtain ⟨q0, q1, q2, q3, q4, q5, q6, q7, q8⟩ := hst4.box.nine; have hlt4 := hst4.lt; have y0 := cellb hst4.below z0; have y1 := cellb hst4.below z1)
        | (refine step_num (by assumption) rfl (.tmp 83) 2 _ rfl (by decide) _ rfl hy0 hy1 ?_; intro A4 c4 w4 hst4; obtain ⟨q0, q1, q2, q3, q4, q5, q6, q7, q8⟩ := hst4.box.nine; have hlt4 := hst4.lt; have y0 := cellb hst4.below z0; have y1 := cellb hst4.below z1)
        | (refine step_app (by assumption) rfl (.tmp 67) (.tmp 75) rfl rfl rfl _ 4 _ rfl _ (nB_length _ _) (by first | exact List.mem_cons_self | exact List.mem_cons_of_mem _ List.mem_cons_self | exact List.mem_cons_of_mem _ (List.mem_cons_of_mem _ List.mem_cons_self)) hlk1 ?_; intro v4 w4 hst4; obtain ⟨q0, q1, q2, q3, q4, q5, q6, q7, q8⟩ := hst4.box.nine; have hlt4 := hst4.lt; have y0 := cellb hst4.below z0; have y1 := cellb hst4.below z1)
        | (refine step_app (by assumption) rfl (.tmp 76) (.tmp 84) rfl rfl rfl _ 2 _ rfl _ (nB_length _ _) (by first | exact List.mem_cons_self | exact List.mem_cons_of_mem _ List.mem_cons_self | exact List.mem_cons_of_mem _ (List.mem_cons_of_mem _ List.mem_cons_self)) hlk2 ?_; intro v4 w4 hst4; obtain ⟨q0, q1, q2, q3, q4, q5, q6, q7, q8⟩ := hst4.box.nine; have hlt4 := hst4.lt; have y0 := cellb hst4.below z0; have y1 := cellb hst4.below z1))
          all_goals
            have h9 := hst4.drop
            rw [HNK.out, HTK.out] at h9
            have H9 := Lib.hid h9
            clear h9 hst4 q0 q1 q2 q3 q4 q5 q6 q7 q8 r0 r1 r2 r3 r4 r5 r6 r7 r8
            go_wp2
            go_roundw
            case rel => exact ⟨k + 1, v4, rfl, by go_num, hknext, H9⟩
            case measure => simp [intOf]; omega
        · obtain rfl : k = n := by omega
          have hfin := HI.out.fin (T := T) (by rw [List.take_of_length_le (by rw [HLN.out]; exact Nat.le_refl _)]; exact HT.out)
          have NW := Lib.hid hfin; have BW := Lib.hid HI.out.below
          clear hfin HI
          go_wp2
          exact bodyPost_ret (v := .tuple #[u4, .int .i64 0]) (by simp [results, Tryd.results9, go_sem]) rfl ⟨u4, rfl, NW.out, BW.out⟩
end Go.Proofs.YtabbpgnenmpacaaDoor.SR
