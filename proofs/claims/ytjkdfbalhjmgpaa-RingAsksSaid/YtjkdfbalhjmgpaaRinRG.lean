/-
  Contracts of the document's own functions of layer 13 (isobarref13): which slots live.
-/
import Derived.Test.YtjkdfbalhjmgpaaRinRC
import Derived.Test.YtjkdfbalhjmgpaaRinPI
import Derived.Deep.CutBlock
import Derived.Deep.DeepCutAuto
set_option linter.unusedSimpArgs false
set_option linter.unusedVariables false
namespace Go.Proofs.Ytjkdfbalhjmgpaa
/-- A slot is put where it belongs. -/
theorem ins_ok {S : List (Int × Int)} {g : Int × Int} {p : Nat} (hs : S.Pairwise fun a b => a.1 ≤ b.1) (hp : p ≤ S.length) (h1 : ∀ (i : Nat) (a : Int × Int), p ≤ i → S[i]? = some a → g.1 < a.1) (h2 : p = 0 ∨ ∃ a, S[p - 1]? = some a ∧ a.1 ≤ g.1) :
    ((S.take p ++ [g] ++ S.drop p).Pairwise fun a b => a.1 ≤ b.1) ∧ (S.take p ++ [g] ++ S.drop p).Perm (S ++ [g]) := by
  have lo : ∀ a ∈ S.take p, a.1 ≤ g.1 := by
    intro a ha
    rcases h2 with h0 | ⟨z, hz, hzg⟩
    · rw [h0] at ha; simp at ha
    · obtain ⟨i, hi⟩ := List.getElem?_of_mem ha
      rw [List.getElem?_take] at hi
      split at hi
      · rename_i hip
        rcases Nat.lt_or_ge i (p - 1) with h | h
        · have h3 := List.pairwise_iff_getElem.1 hs i (p - 1) (by omega) (by omega) h
          rw [List.getElem?_eq_getElem (by omega)] at hi hz
          have e1 := Option.some.inj hi
          have e2 := Option.some.inj hz
          rw [e1, e2] at h3
          omega
        · obtain rfl : i = p - 1 := by omega
          rw [hz] at hi
          obtain rfl := Option.some.inj hi
          exact hzg
      · cases hi
  have hi : ∀ a ∈ S.drop p, g.1 < a.1 := by
    intro a ha
    obtain ⟨i, hi⟩ := List.getElem?_of_mem ha
    rw [List.getElem?_drop] at hi
    exact h1 _ a (by omega) hi
  have hts : (S.take p ++ S.drop p).Pairwise fun a b => a.1 ≤ b.1 := by rw [List.take_append_drop]; exact hs
  rw [List.pairwise_append] at hts
  obtain ⟨q1, q2, q3⟩ := hts
  refine ⟨?_, ?_⟩
  · rw [List.append_assoc, List.pairwise_append]
    refine ⟨q1, ?_, fun a ha b hb => ?_⟩
    · rw [List.singleton_append, List.pairwise_cons]
      exact ⟨fun a ha => Int.le_of_lt (hi a ha), q2⟩
    · rcases List.mem_append.1 hb with hb | hb
      · rw [List.mem_singleton.1 hb]; exact lo a ha
      · exact q3 a ha b hb
  · have e : (S.take p ++ [g] ++ S.drop p).Perm (S.take p ++ S.drop p ++ [g]) := by
      rw [List.append_assoc, List.append_assoc]
      exact List.Perm.append_left _ List.perm_append_comm
    rw [List.take_append_drop] at e
    exact e
end Go.Proofs.Ytjkdfbalhjmgpaa
namespace Go.Proofs.Ytjkdfbalhjmgpaa.IR
open Go.RowKit IP
theorem Reads_take {w : World} {B : Nat} {A : Option Addr} {n p : Nat} {xs : List Value} (h : Reads w B 2 A n xs) (hp : p ≤ n) : Reads w B 2 A p (xs.take (p * 2)) := by
  refine ⟨by rw [List.length_take, h.1]; omega, fun h0 => ?_⟩
  obtain ⟨ad, e, hb, hc⟩ := h.2 (by omega)
  refine ⟨ad, e, hb, fun j u hu => hc j u ?_⟩
  rw [List.getElem?_take] at hu
  split at hu
  · exact hu
  · cases hu
theorem kept_cell {x y : World} {p : Addr} {u : Value} {row : Option Nat} (h : x.cell? p = some u) (hg : x.grownBy y row) (hne : some p.block ≠ row) : y.cell? p = some u :=
  (hg.cell_far p (World.block_lt_of_cell? x p h) hne).trans h
theorem Reads_far {w w' : World} {B n bx : Nat} {row : Option Nat} {xs : List Value} (h : Reads w B 2 (some ⟨bx, 0, none⟩) n xs) (hB : B ≤ w.heap.size) (hg : w.grownBy w' row) (hne : some bx ≠ row) : Reads w' B 2 (some ⟨bx, 0, none⟩) n xs := by
  refine ⟨h.1, fun h0 => ?_⟩
  obtain ⟨ad, e, hb, hc⟩ := h.2 h0
  have e' : ad = ⟨bx, 0, none⟩ := (Option.some.inj e).symm
  subst e'
  refine ⟨_, rfl, hb, fun j u hu => kept_cell (hc j u hu) hg ?_⟩
  rw [block_of_add]; exact hne
theorem own_empty1 (W : World) (o : Obj) (base : Nat) (hb : base ≤ W.heap.size) : ((W.alloc (.cells #[] 59)).alloc o).ownsRow base 59 2 (.slice (some ⟨W.heap.size, 0, none⟩) 0 0) 0 [] :=
  World.ownsRow.alloc (World.ownsRow_made (base := base) (e := 59) (size := 2) W #[] 0 hb (by decide) rfl) o
theorem lit_far1 (W : World) (g : Nat) (x y : Int) {w' : World} {row : Option Nat} (h : W.heap.size = g) (hg : (W.alloc (.cells #[.int .i64 x, .int .i64 y] 59)).grownBy w' row) (hne : some g ≠ row) : ∃ Bx, Reads w' Bx 2 (some ⟨g, 0, none⟩) 1 [.int .i64 x, .int .i64 y] := by
  subst h
  exact ⟨_, Reads_far (Reads.of_own (World.ownsRow_lit (base := 0) (e := 59) (size := 2) W #[.int .i64 x, .int .i64 y] 1 (Nat.zero_le _) (by decide) rfl)) (Nat.le_refl _) hg hne⟩
theorem lit_far2 (W : World) (o : Obj) (g : Nat) (x y : Int) {w' : World} {row : Option Nat} (h : W.heap.size = g) (hg : ((W.alloc (.cells #[.int .i64 x, .int .i64 y] 59)).alloc o).grownBy w' row) (hne : some g ≠ row) : ∃ Bx, Reads w' Bx 2 (some ⟨g, 0, none⟩) 1 [.int .i64 x, .int .i64 y] := by
  subst h
  exact ⟨_, Reads_far (Reads.alloc (Reads.of_own (World.ownsRow_lit (base := 0) (e := 59) (size := 2) W #[.int .i64 x, .int .i64 y] 1 (Nat.zero_le _) (by decide) rfl)) (Nat.le_refl _) o) (by simp) hg hne⟩
theorem own_empty2 (W : World) (o : Obj) (base : Nat) (hb : base ≤ W.heap.size) : ((W.alloc o).alloc (.cells #[] 59)).ownsRow base 59 2 (.slice (some ⟨W.heap.size + 1, 0, none⟩) 0 0) 0 [] := by
  have h := World.ownsRow_made (base := base) (e := 59) (size := 2) (W.alloc o) #[] 0 (by simp; omega) (by decide) rfl
  simpa using h
theorem reads_zero (y : World) (B : Nat) (A : Option Addr) (m : Nat) (h : m = 0) : Reads y B 2 A m [] := by
  subst h
  exact ⟨rfl, fun h => absurd h (Nat.lt_irrefl 0)⟩
theorem rgC_take (S : List (Int × Int)) (p : Nat) : (rgC S).take (p * 2) = rgC (S.take p) := by
  rcases Nat.lt_or_ge S.length p with h | h
  · rw [List.take_of_length_le (l := S) (by omega), List.take_of_length_le (by rw [rgC_length]; omega)]
  · have e : S = S.take p ++ S.drop p := (List.take_append_drop p S).symm
    conv => lhs; rw [e, rgC_app]
    exact List.take_left' (by rw [rgC_length, List.length_take]; omega)
theorem rgC_drop (S : List (Int × Int)) (p : Nat) : (rgC S).drop (p * 2) = rgC (S.drop p) := by
  rcases Nat.lt_or_ge S.length p with h | h
  · rw [List.drop_of_length_le (l := S) (by omega), List.drop_of_length_le (by rw [rgC_length]; omega)]; rfl
  · have e : S = S.take p ++ S.drop p := (List.take_append_drop p S).symm
    conv => lhs; rw [e, rgC_app]
    exact List.drop_left' (by rw [rgC_length, List.length_take]; omega)
set_option maxRecDepth 100000 in
set_option maxHeartbeats 20000000 in
theorem live_c (s : Int) (v : Value) (l : List (Int × Int)) (hl : l.length ≤ 140737488351232) (w : World) (f : RgOut w v l) :
    Calls Try.prog 23 #[.agg #[.int .i64 s, v]] w fun e w' => ∃ u S, e = .returned u ∧ RgOut w' u S ∧ rLive s l S ∧ Below w.heap.size w w' := by
  have RC := fun (W : World) (h : Below w.heap.size w W) => IR.right_c s v l hl W (f.below h)
  obtain ⟨A, c, rfl, hc, hx⟩ := id f
  obtain ⟨n, hn⟩ : ∃ n, l.length = n := ⟨_, rfl⟩
  rw [hn] at RC hc ⊢
  obtain ⟨k0, k1, -, -⟩ := two_new w (.int .i64 s) (.slice A n c) 24
  obtain ⟨wp, hwp⟩ : ∃ wp, w.alloc (.cells #[.int .i64 s, .slice A n c] 24) = wp := ⟨_, rfl⟩
  have hbp := alloc_below w (.cells #[.int .i64 s, .slice A n c] 24)
  rw [hwp] at k0 k1 hbp
  have HWP := Lib.hid hwp
  have KP := Lib.hid hbp
  have RC := Lib.hid (RC wp hbp)
  have HX := Lib.hid hx; have HN := Lib.hid hn
  clear f hx hn hwp hbp hl
  cases hr : rRight s l
  · have LV := Lib.hid (show rLive s l [] from ⟨fun h => (by rw [hr] at h; cases h), fun _ => rfl⟩)
    rw [hr] at RC
    clear hr
    go_enter Try.func23, Try.ntmps23
    go_wp2_with fail
    rw [HWP.out]
    refine RC.out.mono ?_; rintro _ w1 ⟨rfl, hb1⟩
    have KB := Lib.hid (bnext KP.out hb1)
    go_wp2
    go_ret
    exact ⟨_, [], rfl, RgOut.nil _, LV.out, KB.out⟩
  · have LV := Lib.hid (show ∀ S : List (Int × Int), S.Perm (rFull l) → (S.Pairwise fun a b => a.1 ≤ b.1) → rLive s l S from fun S h1 h2 => ⟨fun _ => ⟨h1, h2⟩, fun h => (by rw [hr] at h; cases h)⟩)
    obtain ⟨-, -, -, m4⟩ := rMay_iff.1 (rRight_iff.1 hr).1
    rw [HN.out] at m4
    rw [hr] at RC
    obtain ⟨i0, hi0, hz0, hz1, hz2⟩ := info_parts slot_info
    have K0 := Lib.hid k0; have K1 := Lib.hid k1
    have n400 : n ≤ 400 := by omega
    clear hr m4
    go_enter Try.func23, Try.ntmps23
    go_wp2_with fail
    rw [HWP.out]
    refine RC.out.mono ?_; rintro _ w1 ⟨rfl, hb1⟩
    have KB := Lib.hid (bnext KP.out hb1)
    have H1 := Lib.hid hb1
    clear hb1 k0 k1
    go_wp2
    go_loopw [3, 4] (fun out i wr => ∃ (k : Nat) (B : Option Addr) (q d : Nat), k ≤ n ∧ i = .int .i64 k ∧ out = .slice B q d ∧ q ≤ k ∧ q ≤ d ∧ Hid (∃ S : List (Int × Int), S.length = q ∧ S.Perm (rFull (l.take k)) ∧ (S.Pairwise fun a b => a.1 ≤ b.1) ∧ RgNew w1.heap.size wr (.slice B q d) S ∧ Below w1.heap.size w1 wr)) (fun _ i _ => n - (intOf i).toNat)
    case atStart => exact ⟨0, none, 0, 0, Nat.zero_le _, rfl, rfl, Nat.le_refl _, Nat.le_refl _, [], rfl, List.Perm.refl _, List.Pairwise.nil, RgNew.nil _ _, Below.refl _ _⟩
    case round =>
      obtain ⟨k, B, q, d, hk, rfl, rfl, hqk, hqd, HI0⟩ := hrel
      obtain ⟨S, hSq, hSp, hSs, hSo, hSb⟩ := HI0.out
      have k0 := cellb hSb (cellb H1.out K0.out)
      have k1 := cellb hSb (cellb H1.out K1.out)
      by_cases hlt : k < n
      · have hkl : k < l.length := by rw [HN.out]; exact hlt
        obtain ⟨b, off, rfl, ha⟩ := HX.out (by intro e; rw [e] at hkl; exact absurd hkl (Nat.not_lt_zero _))
        have hp0 := List.getElem?_eq_getElem hkl
        obtain ⟨⟨x, y⟩, hp⟩ : ∃ p, l[k] = p := ⟨_, rfl⟩
        rw [hp] at hp0
        obtain ⟨c0, c1⟩ := (ha.below (bnext KB.out hSb)) k _ hp0
        simp only at c0 c1
        have STEP := Lib.hid (rFull_step hp0)
        clear hp hp0 hkl ha
        by_cases he : x = -1
        · have ST2 := Lib.hid (STEP.out.trans (by rw [if_pos he, List.append_nil]))
          have ALL := Lib.hid (show ∃ S : List (Int × Int), S.length = q ∧ S.Perm (rFull (l.take (k + 1))) ∧ (S.Pairwise fun a b => a.1 ≤ b.1) ∧ RgNew w1.heap.size wr (.slice B q d) S ∧ Below w1.heap.size w1 wr from ⟨S, hSq, by rw [ST2.out]; exact hSp, hSs, hSo, hSb⟩)
          subst he
          clear STEP HI0 hSq hSp hSs hSo hSb
          go_wp2_with fail
          go_roundw
          case rel => exact ⟨k + 1, B, q, d, by omega, by go_num, rfl, by omega, hqd, ALL.out⟩
          case measure => simp [intOf]; omega
        · have ST2 := Lib.hid (STEP.out.trans (by rw [if_neg he]))
          clear STEP
          obtain ⟨wo, hwo⟩ : ∃ x, x = wr := ⟨_, rfl⟩
          subst hwo
          have H4 := Lib.hid (show wo.cell? ⟨w.heap.size, 0, none⟩ = some (.int .i64 s) ∧ wo.cell? ⟨w.heap.size, 1, none⟩ = some (.slice (some ⟨b, off, none⟩) n c) ∧ wo.cell? ⟨b, off + k * 2, none⟩ = some (.int .i64 x) ∧ wo.cell? ⟨b, off + k * 2 + 1, none⟩ = some (.int .i64 y) from ⟨k0, k1, c0, c1⟩)
          have SQ := Lib.hid hSq; have SP := Lib.hid hSp; have SS := Lib.hid hSs; have SO := Lib.hid hSo; have SB := Lib.hid hSb
          have HE := Lib.hid he
          clear HI0 hSq hSp hSs hSo hSb
          have heb : (x == -1) = false := by simp [he]
          go_upto_block 2 with fail
          clear he heb
          go_cut [5] from 25 to 43 (fun j wx => ∃ (p : Nat), p ≤ q ∧ j = .int .i64 p ∧ Hid ((∀ (i : Nat) (a : Int × Int), p ≤ i → S[i]? = some a → x < a.1) ∧ (p = 0 ∨ ∃ a, S[p - 1]? = some a ∧ a.1 ≤ x) ∧ Below wo.heap.size wo wx))
          case first =>
            go_wp2_with fail
            go_loopw [5] (fun j wx => ∃ m : Nat, m ≤ q ∧ j = .int .i64 m ∧ Hid ((∀ (i : Nat) (a : Int × Int), m ≤ i → S[i]? = some a → x < a.1) ∧ Below wo.heap.size wo wx)) (fun j _ => (intOf j).toNat)
            case atStart => exact ⟨q, Nat.le_refl _, rfl, Lib.hid ⟨fun i a h1 h2 => (by rw [List.getElem?_eq_none (by rw [SQ.out]; exact h1)] at h2; cases h2), Below.refl _ _⟩⟩
            case round =>
              obtain ⟨m, hm, rfl, HJ⟩ := hrel
              rcases Nat.eq_zero_or_pos m with hm0 | hm0
              · subst hm0
                have BJ := Lib.hid HJ.out.2
                have FIN := Lib.hid HJ.out.1
                clear k0 k1 c0 c1 HJ
                go_wp2_with fail
                refine wp_region_laid (by kernel_rfl) (by kernel_rfl) ?_
                repeat (go_big_quiet_step (fail))
                refine wpQuiet_nil ?_
                intro _ hw'
                obtain ⟨pq, hw''⟩ := hw'
                subst hw''
                go_wp2_with fail
                go_meet
                exact ⟨0, Nat.zero_le _, rfl, Lib.hid ⟨FIN.out, Or.inl rfl, bnext BJ.out pq.h⟩⟩
              · obtain ⟨g0, rfl, gc⟩ : ∃ g0, B = some ⟨g0, 0, none⟩ ∧ ∀ (i : Nat) (a : Int × Int), S[i]? = some a → wo.cell? ⟨g0, i * 2, none⟩ = some (.int .i64 a.1) := by
                  have ho := SO.out
                  unfold RgNew at ho
                  rw [SQ.out] at ho
                  obtain ⟨A', c', hv, _, hg⟩ := own_form ho
                  injection hv with e1 e2 e3
                  subst e1 e3
                  obtain ⟨g0, rfl, _, _⟩ := hg (by omega)
                  exact ⟨g0, rfl, fun i a hi => (own_cell ho (rgC_at S i a hi).1).1⟩
                obtain ⟨q1, hq1⟩ : ∃ q1, m - 1 = q1 := ⟨_, rfl⟩
                have hml : q1 < S.length := by rw [SQ.out]; omega
                have ha0 := List.getElem?_eq_getElem hml
                obtain ⟨a0, ha1⟩ : ∃ a, S[q1] = a := ⟨_, rfl⟩
                rw [ha1] at ha0
                have e0 := cellb HJ.out.2 (gc q1 a0 ha0)
                have d0 := cellb HJ.out.2 k0; have d1 := cellb HJ.out.2 k1; have d2 := cellb HJ.out.2 c0
                obtain ⟨z, hz⟩ : ∃ z, a0.1 = z := ⟨_, rfl⟩
                rw [hz] at e0
                have Y0 : ∀ p : Laid wr, p.W.cell? ⟨w.heap.size, 0, none⟩ = some (.int .i64 s) := fun p => cellb p.h d0
                have Y1 : ∀ p : Laid wr, p.W.cell? ⟨w.heap.size, 1, none⟩ = some (.slice (some ⟨b, off, none⟩) n c) := fun p => cellb p.h d1
                have Y2 : ∀ p : Laid wr, p.W.cell? ⟨b, off + k * 2, none⟩ = some (.int .i64 x) := fun p => cellb p.h d2
                have Y3 : ∀ p : Laid wr, p.W.cell? ⟨g0, q1 * 2, none⟩ = some (.int .i64 z) := fun p => cellb p.h e0
                have hkd : decide ((0 : Int) < (m : Int)) = true := decide_eq_true (by omega)
                have hkn : decide (0 < m) = true := decide_eq_true (by omega)
                have hkp : (0 : Int) < (m : Int) := by omega
                have hqi : (m : Int) - 1 = (q1 : Int) := by omega
                have hqw : IntKind.i64.wrap (q1 : Int) = (q1 : Int) := by rw [IntKind.wrap_i64]; omega
                have hqw2 : IntKind.i64.wrap ((m : Int) - 1) = (q1 : Int) := by rw [IntKind.wrap_i64]; omega
                have hql : q1 < q := by omega
                have BJ := Lib.hid HJ.out.2
                have HA := Lib.hid ha0
                have HZ := Lib.hid hz
                have HM1 := Lib.hid hq1
                have HJ1 := Lib.hid HJ.out.1
                clear k0 k1 c0 c1 d0 d1 d2 e0 hml ha0 ha1 hz gc HJ hq1
                by_cases hzx : x < z
                · have hzd : decide (x < z) = true := decide_eq_true hzx
                  go_wp2_with fail
                  refine wp_region_laid (by kernel_rfl) (by kernel_rfl) ?_
                  repeat (go_big_quiet_step (fail))
                  refine wpQuiet_nil ?_
                  intro _ hw'
                  obtain ⟨pq, hw''⟩ := hw'
                  subst hw''
                  go_wp2_with fail
                  refine ⟨⟨q1, by omega, rfl, Lib.hid ⟨fun i a h1 h2 => ?_, bnext BJ.out pq.h⟩⟩, by simp only [intOf]; omega⟩
                  rcases Nat.lt_or_ge i m with h | h
                  · have ei : i = q1 := by have := HM1.out; omega
                    rw [ei, HA.out] at h2
                    obtain rfl := Option.some.inj h2
                    rw [HZ.out]; exact hzx
                  · exact HJ1.out i a h h2
                · have hzd : decide (x < z) = false := decide_eq_false hzx
                  go_wp2_with fail
                  refine wp_region_laid (by kernel_rfl) (by kernel_rfl) ?_
                  repeat (go_big_quiet_step (fail))
                  refine wpQuiet_nil ?_
                  intro _ hw'
                  obtain ⟨pq, hw''⟩ := hw'
                  subst hw''
                  go_wp2_with fail
                  go_meet
                  exact ⟨m, hm, rfl, Lib.hid ⟨HJ1.out, Or.inr ⟨a0, by rw [HM1.out]; exact HA.out, by rw [HZ.out]; omega⟩, bnext BJ.out pq.h⟩⟩
          case rest =>
            obtain ⟨p, hpq, rfl, HC⟩ := hcut
            have hpl : p ≤ S.length := by rw [SQ.out]; exact hpq
            obtain ⟨INS1, INS2⟩ := ins_ok (g := (x, y)) SS.out hpl HC.out.1 HC.out.2.1
            have SORT := Lib.hid INS1
            have PERM := Lib.hid (show (S.take p ++ [(x, y)] ++ S.drop p).Perm (rFull (l.take (k + 1))) from by
              rw [ST2.out]
              exact INS2.trans (List.Perm.append_right _ SP.out))
            have LEN3 := Lib.hid (show (S.take p ++ [(x, y)] ++ S.drop p).length = q + 1 from by
              rw [List.length_append, List.length_append, List.length_take, List.length_drop, SQ.out]; simp only [List.length_singleton]; omega)
            have hB0 : w1.heap.size ≤ wo.heap.size := SB.out.size
            have hBr : wo.heap.size ≤ wc.heap.size := HC.out.2.2.size
            have hR0 : Reads wo wo.heap.size 2 B q (rgC S) := Reads.of_own (show wo.ownsRow w1.heap.size 59 2 (.slice B q d) q (rgC S) from by have h := SO.out; unfold RgNew at h; rw [SQ.out] at h; exact h)
            have HR0 := Lib.hid hR0
            have RT := Lib.hid (show ∀ y', Below wo.heap.size wo y' → Reads y' wo.heap.size 2 B p (rgC (S.take p)) from fun y' hy => by
              have h := Reads_take (HR0.out.below hy) hpq
              rw [rgC_take] at h
              exact h)
            have e0 := cellb HC.out.2.2 k0; have e1 := cellb HC.out.2.2 k1; have e2 := cellb HC.out.2.2 c0; have e3 := cellb HC.out.2.2 c1
            have hpi : (p : Int) ≤ (q : Int) := by omega
            have hqi : (q : Int) ≤ (d : Int) := by omega
            have hpd : p ≤ d := by omega
            have hpdi : (p : Int) ≤ (d : Int) := by omega
            have hp400 : p ≤ 400 ∧ q ≤ 400 := by omega
            clear k0 k1 c0 c1 INS1 INS2 hpl hR0
            by_cases hdp : d = p
            · obtain rfl : p = q := by omega
              obtain rfl : p = d := hdp.symm
              have NN := Lib.hid (show 0 + p + 1 + 0 = p + 1 from by omega)
              have CELLS := Lib.hid (show [] ++ rgC (S.take p) ++ [Value.int .i64 x, Value.int .i64 y] ++ [] = rgC (S.take p) ++ rgC [(x, y)] ++ rgC (S.drop p) from by
                rw [List.drop_of_length_le (l := S) (Nat.le_of_eq SQ.out), List.nil_append, List.append_nil]
                show _ = _ ++ [Value.int .i64 x, Value.int .i64 y] ++ []
                rw [List.append_nil])
              go_wp2_with fail
              go_region_held_law (fun y' => y'.cell? ⟨w.heap.size, 0, none⟩ = some (.int .i64 s) ∧ y'.cell? ⟨w.heap.size, 1, none⟩ = some (.slice (some ⟨b, off, none⟩) n c) ∧ y'.cell? ⟨b, off + k * 2, none⟩ = some (.int .i64 x) ∧ y'.cell? ⟨b, off + k * 2 + 1, none⟩ = some (.int .i64 y))
                (first | go_keep | (exact held4 (below_drewN HC.out.2.2 _) H4.out) | (exact held4 hb3.out H4.out) | (exact held4 hb2.out H4.out) | (exact held4 hb1.out H4.out))
                (first
              | (refine step_append_any _ (by rfl) (.tmp 44) (.tmp 47) 22 (by rfl) w1.heap.size 59 i0 (.agg #[.int .i64 0, .int .i64 0]) 2 16 Try.underlying22 hi0 hz0 hz1 hz2 rfl (by decide) (.slice (some ⟨wc.heap.size, 0, none⟩) 0 0) 0 [] (by rfl) (World.ownsRow_made _ _ _ (by first | omega | (simp [World.drewN]; omega) | (simp; omega)) (by decide) rfl) wo.heap.size B p p (rgC (S.take p)) (by rfl) (RT.out _ ((below_drewN HC.out.2.2 _).alloc hBr _)) (rgC_one _) (by simp only [maxLen]; omega) (by omega) (by first | omega | (simp [World.drewN]; omega) | (simp; omega)) ?_; intro v1 w7 hown1 hg1 hat1; have hb1 := Lib.hid (((below_drewN HC.out.2.2 _).alloc hBr _).grown hg1 (by first | omega | (simp [World.drewN]; omega) | (simp; omega)) (by intro g hg; simp [Value.ownBlock] at hg; omega)); have hne1 : ∀ g, v1.ownBlock = some g → wo.heap.size ≤ g := (by intro g hg; rcases hat1 with e | e <;> rw [e] at hg <;> simp [Value.ownBlock, World.drewN] at hg <;> omega); have hbw1 := Nat.le_trans hB0 hb1.out.size)
              | (refine step_append_any _ (by rfl) (.tmp 44) (.tmp 47) 22 (by rfl) w1.heap.size 59 i0 (.agg #[.int .i64 0, .int .i64 0]) 2 16 Try.underlying22 hi0 hz0 hz1 hz2 rfl (by decide) (.slice (some ⟨wc.heap.size, 0, none⟩) 0 0) 0 [] (by rfl) (own_empty1 (wc.drewN _) _ _ (Nat.le_trans hB0 hBr)) wo.heap.size B p p (rgC (S.take p)) (by rfl) (RT.out _ (((below_drewN HC.out.2.2 _).alloc hBr _).alloc (by first | omega | (simp [World.drewN]; omega) | (simp; omega)) _)) (rgC_one _) (by simp only [maxLen]; omega) (by omega) (by first | omega | (simp [World.drewN]; omega) | (simp; omega)) ?_; intro v1 w7 hown1 hg1 hat1; have hb1 := Lib.hid ((((below_drewN HC.out.2.2 _).alloc hBr _).alloc (by first | omega | (simp [World.drewN]; omega) | (simp; omega)) _).grown hg1 (by first | omega | (simp [World.drewN]; omega) | (simp; omega)) (by intro g hg; simp [Value.ownBlock] at hg; omega)); have hne1 : ∀ g, v1.ownBlock = some g → wo.heap.size ≤ g := (by intro g hg; rcases hat1 with e | e <;> rw [e] at hg <;> simp [Value.ownBlock, World.drewN] at hg <;> omega); have hbw1 := Nat.le_trans hB0 hb1.out.size; have hx1 : ∃ Bx, Reads w7 Bx 2 (some ⟨wc.heap.size + 1, 0, none⟩) 1 [.int .i64 x, .int .i64 y] := lit_far1 ((wc.drewN 1).alloc (.cells #[] 59)) (wc.heap.size + 1) x y (by simp [World.drewN]) hg1 (by simp [Value.ownBlock]))
              | (refine step_append_any _ (by rfl) (.tmp 44) (.tmp 47) 22 (by rfl) w1.heap.size 59 i0 (.agg #[.int .i64 0, .int .i64 0]) 2 16 Try.underlying22 hi0 hz0 hz1 hz2 rfl (by decide) (.slice (some ⟨wc.heap.size + 1, 0, none⟩) 0 0) 0 [] (by rfl) (own_empty2 (wc.drewN _) _ _ (Nat.le_trans hB0 hBr)) wo.heap.size B p p (rgC (S.take p)) (by rfl) (RT.out _ (((below_drewN HC.out.2.2 _).alloc hBr _).alloc (by first | omega | (simp [World.drewN]; omega) | (simp; omega)) _)) (rgC_one _) (by simp only [maxLen]; omega) (by omega) (by first | omega | (simp [World.drewN]; omega) | (simp; omega)) ?_; intro v1 w7 hown1 hg1 hat1; have hb1 := Lib.hid ((((below_drewN HC.out.2.2 _).alloc hBr _).alloc (by first | omega | (simp [World.drewN]; omega) | (simp; omega)) _).grown hg1 (by first | omega | (simp [World.drewN]; omega) | (simp; omega)) (by intro g hg; simp [Value.ownBlock] at hg; omega)); have hne1 : ∀ g, v1.ownBlock = some g → wo.heap.size ≤ g := (by intro g hg; rcases hat1 with e | e <;> rw [e] at hg <;> simp [Value.ownBlock, World.drewN] at hg <;> omega); have hbw1 := Nat.le_trans hB0 hb1.out.size; have hx1 : ∃ Bx, Reads w7 Bx 2 (some ⟨wc.heap.size, 0, none⟩) 1 [.int .i64 x, .int .i64 y] := lit_far2 (wc.drewN 1) _ wc.heap.size x y (by simp [World.drewN]) hg1 (by simp [Value.ownBlock]))
              | (refine step_append_any _ (by rfl) (.tmp 48) (.tmp 54) 22 (by rfl) w1.heap.size 59 i0 (.agg #[.int .i64 0, .int .i64 0]) 2 16 Try.underlying22 hi0 hz0 hz1 hz2 rfl (by decide) _ (0 + p) ([] ++ rgC (S.take p)) (by rfl) (World.ownsRow.alloc hown1 _) _ (some ⟨w7.heap.size, 0, none⟩) 1 1 [.int .i64 x, .int .i64 y] (by rfl) (Reads.of_own (World.ownsRow_lit (base := 0) (e := 59) (size := 2) w7 #[.int .i64 x, .int .i64 y] 1 (Nat.zero_le _) (by decide) rfl)) (by simp [Value.oneCell']) (by simp only [maxLen]; omega) (by omega) (by simp; omega) ?_; intro v2 w8 hown2 hg2 hat2; have hb2 := Lib.hid (Below.grown (Below.alloc hb1.out hb1.out.size _) hg2 (by simp; exact Nat.le_succ_of_le hb1.out.size) hne1); have hge2 : ∀ g, v2.ownBlock = some g → wo.heap.size ≤ g := (by intro g hg; rcases hat2 with e | e <;> rw [e] at hg <;> first | exact hne1 g hg | (have := hb1.out.size; simp at hg; omega)); have hbw2 := Nat.le_trans hB0 hb2.out.size)
              | (refine step_append_any _ (by rfl) (.tmp 48) (.tmp 54) 22 (by rfl) w1.heap.size 59 i0 (.agg #[.int .i64 0, .int .i64 0]) 2 16 Try.underlying22 hi0 hz0 hz1 hz2 rfl (by decide) _ (0 + p) ([] ++ rgC (S.take p)) (by rfl) hown1 hx1.choose (some ⟨wc.heap.size + 1, 0, none⟩) 1 1 [.int .i64 x, .int .i64 y] (by rfl) hx1.choose_spec (by simp [Value.oneCell']) (by simp only [maxLen]; omega) (by omega) hbw1 ?_; intro v2 w8 hown2 hg2 hat2; have hb2 := Lib.hid (Below.grown (hb1.out) hg2 hb1.out.size hne1); have hge2 : ∀ g, v2.ownBlock = some g → wo.heap.size ≤ g := (by intro g hg; rcases hat2 with e | e <;> rw [e] at hg <;> first | exact hne1 g hg | (have := hb1.out.size; simp at hg; omega)); have hbw2 := Nat.le_trans hB0 hb2.out.size)
              | (refine step_append_any _ (by rfl) (.tmp 48) (.tmp 54) 22 (by rfl) w1.heap.size 59 i0 (.agg #[.int .i64 0, .int .i64 0]) 2 16 Try.underlying22 hi0 hz0 hz1 hz2 rfl (by decide) _ (0 + p) ([] ++ rgC (S.take p)) (by rfl) hown1 hx1.choose (some ⟨wc.heap.size, 0, none⟩) 1 1 [.int .i64 x, .int .i64 y] (by rfl) hx1.choose_spec (by simp [Value.oneCell']) (by simp only [maxLen]; omega) (by omega) hbw1 ?_; intro v2 w8 hown2 hg2 hat2; have hb2 := Lib.hid (Below.grown (hb1.out) hg2 hb1.out.size hne1); have hge2 : ∀ g, v2.ownBlock = some g → wo.heap.size ≤ g := (by intro g hg; rcases hat2 with e | e <;> rw [e] at hg <;> first | exact hne1 g hg | (have := hb1.out.size; simp at hg; omega)); have hbw2 := Nat.le_trans hB0 hb2.out.size)
              | (refine step_append_any _ (by rfl) (.tmp 55) (.tmp 58) 22 (by rfl) w1.heap.size 59 i0 (.agg #[.int .i64 0, .int .i64 0]) 2 16 Try.underlying22 hi0 hz0 hz1 hz2 rfl (by decide) v2 (0 + p + 1) ([] ++ rgC (S.take p) ++ [.int .i64 x, .int .i64 y]) (by rfl) hown2 wo.heap.size _ _ _ [] (by rfl) (reads_zero _ _ _ _ (by omega)) (by simp) (by simp only [maxLen]; omega) (by omega) hbw2 ?_; intro v3 w9 hown3 hg3 hat3; have hb3 := Lib.hid (Below.grown hb2.out hg3 hb2.out.size hge2))
              | fail)
              all_goals
                obtain ⟨A3, c3, hv3, hc3, _⟩ := own_form hown3
                subst hv3
                have HO := Lib.hid (show RgNew w1.heap.size w9 (.slice A3 (p + 1) c3) (S.take p ++ [(x, y)] ++ S.drop p) from by
                  unfold RgNew
                  rw [LEN3.out, rgC_app, rgC_app]
                  have h := hown3
                  rw [NN.out, CELLS.out] at h
                  exact h)
                have HW := Lib.hid (SB.out.trans (hb3.out.mono hB0))
                have HC3 := Lib.hid (show p + 1 ≤ c3 from by have := hc3; have := NN.out; omega)
                clear hown3 hown2 hown1 hg1 hg2 hg3 hb1 hb2 hb3 hat1 hat2 hat3 hne1 hge2 hc3
                rw [NN.out]
                go_wp2
                go_roundw
                case rel => exact ⟨k + 1, A3, p + 1, c3, by omega, by go_num, rfl, by omega, HC3.out, ⟨_, LEN3.out, PERM.out, SORT.out, HO.out, HW.out⟩⟩
                case measure => simp [intOf]; omega
            · obtain ⟨g0, hB⟩ : ∃ g0, B = some ⟨g0, 0, none⟩ := by
                have ho := SO.out
                unfold RgNew at ho
                rcases ho.2 with ⟨h, h0⟩ | ⟨g, cap, cur, h, _⟩
                · injection h with _ h1 h2; omega
                · injection h with h1; exact ⟨g, h1⟩
              subst hB
              have hif : (if d = p then (some ⟨g0, 0, none⟩ : Option Addr) else (some ⟨g0, 0, none⟩ : Option Addr).map (·.add (p * 2))) = some ⟨g0, p * 2, none⟩ := by rw [if_neg hdp]; simp [Addr.add]; omega
              have hdpi : ¬ (d : Int) = (p : Int) := by omega
              have NN := Lib.hid (show 0 + p + 1 + (q - p) = q + 1 from by omega)
              have CELLS := Lib.hid (show [] ++ rgC (S.take p) ++ [Value.int .i64 x, Value.int .i64 y] ++ rgC (S.drop p) = rgC (S.take p) ++ rgC [(x, y)] ++ rgC (S.drop p) from by
                rw [List.nil_append]; rfl)
              have HIF := Lib.hid hif
              have RD := Lib.hid (show ∀ y', Below wo.heap.size wo y' → Reads y' wo.heap.size 2 (some ⟨g0, p * 2, none⟩) (q - p) (rgC (S.drop p)) from fun y' hy => by
                have h := Reads.cut (HR0.out.below hy) hpq hqd
                rw [rgC_drop, HIF.out] at h
                exact h)
              clear hif
              go_wp2_with fail
              go_region_held_law (fun y' => y'.cell? ⟨w.heap.size, 0, none⟩ = some (.int .i64 s) ∧ y'.cell? ⟨w.heap.size, 1, none⟩ = some (.slice (some ⟨b, off, none⟩) n c) ∧ y'.cell? ⟨b, off + k * 2, none⟩ = some (.int .i64 x) ∧ y'.cell? ⟨b, off + k * 2 + 1, none⟩ = some (.int .i64 y))
                (first | go_keep | (exact held4 (below_drewN HC.out.2.2 _) H4.out) | (exact held4 hb3.out H4.out) | (exact held4 hb2.out H4.out) | (exact held4 hb1.out H4.out))
                (first
              | (refine step_append_any _ (by rfl) (.tmp 44) (.tmp 47) 22 (by rfl) w1.heap.size 59 i0 (.agg #[.int .i64 0, .int .i64 0]) 2 16 Try.underlying22 hi0 hz0 hz1 hz2 rfl (by decide) (.slice (some ⟨wc.heap.size, 0, none⟩) 0 0) 0 [] (by rfl) (World.ownsRow_made _ _ _ (by first | omega | (simp [World.drewN]; omega) | (simp; omega)) (by decide) rfl) wo.heap.size (some ⟨g0, 0, none⟩) p d (rgC (S.take p)) (by rfl) (RT.out _ ((below_drewN HC.out.2.2 _).alloc hBr _)) (rgC_one _) (by simp only [maxLen]; omega) (by omega) (by first | omega | (simp [World.drewN]; omega) | (simp; omega)) ?_; intro v1 w7 hown1 hg1 hat1; have hb1 := Lib.hid (((below_drewN HC.out.2.2 _).alloc hBr _).grown hg1 (by first | omega | (simp [World.drewN]; omega) | (simp; omega)) (by intro g hg; simp [Value.ownBlock] at hg; omega)); have hne1 : ∀ g, v1.ownBlock = some g → wo.heap.size ≤ g := (by intro g hg; rcases hat1 with e | e <;> rw [e] at hg <;> simp [Value.ownBlock, World.drewN] at hg <;> omega); have hbw1 := Nat.le_trans hB0 hb1.out.size)
              | (refine step_append_any _ (by rfl) (.tmp 44) (.tmp 47) 22 (by rfl) w1.heap.size 59 i0 (.agg #[.int .i64 0, .int .i64 0]) 2 16 Try.underlying22 hi0 hz0 hz1 hz2 rfl (by decide) (.slice (some ⟨wc.heap.size, 0, none⟩) 0 0) 0 [] (by rfl) (own_empty1 (wc.drewN _) _ _ (Nat.le_trans hB0 hBr)) wo.heap.size (some ⟨g0, 0, none⟩) p d (rgC (S.take p)) (by rfl) (RT.out _ (((below_drewN HC.out.2.2 _).alloc hBr _).alloc (by first | omega | (simp [World.drewN]; omega) | (simp; omega)) _)) (rgC_one _) (by simp only [maxLen]; omega) (by omega) (by first | omega | (simp [World.drewN]; omega) | (simp; omega)) ?_; intro v1 w7 hown1 hg1 hat1; have hb1 := Lib.hid ((((below_drewN HC.out.2.2 _).alloc hBr _).alloc (by first | omega | (simp [World.drewN]; omega) | (simp; omega)) _).grown hg1 (by first | omega | (simp [World.drewN]; omega) | (simp; omega)) (by intro g hg; simp [Value.ownBlock] at hg; omega)); have hne1 : ∀ g, v1.ownBlock = some g → wo.heap.size ≤ g := (by intro g hg; rcases hat1 with e | e <;> rw [e] at hg <;> simp [Value.ownBlock, World.drewN] at hg <;> omega); have hbw1 := Nat.le_trans hB0 hb1.out.size; have hx1 : ∃ Bx, Reads w7 Bx 2 (some ⟨wc.heap.size + 1, 0, none⟩) 1 [.int .i64 x, .int .i64 y] := lit_far1 ((wc.drewN 1).alloc (.cells #[] 59)) (wc.heap.size + 1) x y (by simp [World.drewN]) hg1 (by simp [Value.ownBlock]))
              | (refine step_append_any _ (by rfl) (.tmp 44) (.tmp 47) 22 (by rfl) w1.heap.size 59 i0 (.agg #[.int .i64 0, .int .i64 0]) 2 16 Try.underlying22 hi0 hz0 hz1 hz2 rfl (by decide) (.slice (some ⟨wc.heap.size + 1, 0, none⟩) 0 0) 0 [] (by rfl) (own_empty2 (wc.drewN _) _ _ (Nat.le_trans hB0 hBr)) wo.heap.size (some ⟨g0, 0, none⟩) p d (rgC (S.take p)) (by rfl) (RT.out _ (((below_drewN HC.out.2.2 _).alloc hBr _).alloc (by first | omega | (simp [World.drewN]; omega) | (simp; omega)) _)) (rgC_one _) (by simp only [maxLen]; omega) (by omega) (by first | omega | (simp [World.drewN]; omega) | (simp; omega)) ?_; intro v1 w7 hown1 hg1 hat1; have hb1 := Lib.hid ((((below_drewN HC.out.2.2 _).alloc hBr _).alloc (by first | omega | (simp [World.drewN]; omega) | (simp; omega)) _).grown hg1 (by first | omega | (simp [World.drewN]; omega) | (simp; omega)) (by intro g hg; simp [Value.ownBlock] at hg; omega)); have hne1 : ∀ g, v1.ownBlock = some g → wo.heap.size ≤ g := (by intro g hg; rcases hat1 with e | e <;> rw [e] at hg <;> simp [Value.ownBlock, World.drewN] at hg <;> omega); have hbw1 := Nat.le_trans hB0 hb1.out.size; have hx1 : ∃ Bx, Reads w7 Bx 2 (some ⟨wc.heap.size, 0, none⟩) 1 [.int .i64 x, .int .i64 y] := lit_far2 (wc.drewN 1) _ wc.heap.size x y (by simp [World.drewN]) hg1 (by simp [Value.ownBlock]))
              | (refine step_append_any _ (by rfl) (.tmp 48) (.tmp 54) 22 (by rfl) w1.heap.size 59 i0 (.agg #[.int .i64 0, .int .i64 0]) 2 16 Try.underlying22 hi0 hz0 hz1 hz2 rfl (by decide) _ (0 + p) ([] ++ rgC (S.take p)) (by rfl) (World.ownsRow.alloc hown1 _) _ (some ⟨w7.heap.size, 0, none⟩) 1 1 [.int .i64 x, .int .i64 y] (by rfl) (Reads.of_own (World.ownsRow_lit (base := 0) (e := 59) (size := 2) w7 #[.int .i64 x, .int .i64 y] 1 (Nat.zero_le _) (by decide) rfl)) (by simp [Value.oneCell']) (by simp only [maxLen]; omega) (by omega) (by simp; omega) ?_; intro v2 w8 hown2 hg2 hat2; have hb2 := Lib.hid (Below.grown (Below.alloc hb1.out hb1.out.size _) hg2 (by simp; exact Nat.le_succ_of_le hb1.out.size) hne1); have hge2 : ∀ g, v2.ownBlock = some g → wo.heap.size ≤ g := (by intro g hg; rcases hat2 with e | e <;> rw [e] at hg <;> first | exact hne1 g hg | (have := hb1.out.size; simp at hg; omega)); have hbw2 := Nat.le_trans hB0 hb2.out.size)
              | (refine step_append_any _ (by rfl) (.tmp 48) (.tmp 54) 22 (by rfl) w1.heap.size 59 i0 (.agg #[.int .i64 0, .int .i64 0]) 2 16 Try.underlying22 hi0 hz0 hz1 hz2 rfl (by decide) _ (0 + p) ([] ++ rgC (S.take p)) (by rfl) hown1 hx1.choose (some ⟨wc.heap.size + 1, 0, none⟩) 1 1 [.int .i64 x, .int .i64 y] (by rfl) hx1.choose_spec (by simp [Value.oneCell']) (by simp only [maxLen]; omega) (by omega) hbw1 ?_; intro v2 w8 hown2 hg2 hat2; have hb2 := Lib.hid (Below.grown (hb1.out) hg2 hb1.out.size hne1); have hge2 : ∀ g, v2.ownBlock = some g → wo.heap.size ≤ g := (by intro g hg; rcases hat2 with e | e <;> rw [e] at hg <;> first | exact hne1 g hg | (have := hb1.out.size; simp at hg; omega)); have hbw2 := Nat.le_trans hB0 hb2.out.size)
              | (refine step_append_any _ (by rfl) (.tmp 48) (.tmp 54) 22 (by rfl) w1.heap.size 59 i0 (.agg #[.int .i64 0, .int .i64 0]) 2 16 Try.underlying22 hi0 hz0 hz1 hz2 rfl (by decide) _ (0 + p) ([] ++ rgC (S.take p)) (by rfl) hown1 hx1.choose (some ⟨wc.heap.size, 0, none⟩) 1 1 [.int .i64 x, .int .i64 y] (by rfl) hx1.choose_spec (by simp [Value.oneCell']) (by simp only [maxLen]; omega) (by omega) hbw1 ?_; intro v2 w8 hown2 hg2 hat2; have hb2 := Lib.hid (Below.grown (hb1.out) hg2 hb1.out.size hne1); have hge2 : ∀ g, v2.ownBlock = some g → wo.heap.size ≤ g := (by intro g hg; rcases hat2 with e | e <;> rw [e] at hg <;> first | exact hne1 g hg | (have := hb1.out.size; simp at hg; omega)); have hbw2 := Nat.le_trans hB0 hb2.out.size)
              | (refine step_append_any _ (by rfl) (.tmp 55) (.tmp 58) 22 (by rfl) w1.heap.size 59 i0 (.agg #[.int .i64 0, .int .i64 0]) 2 16 Try.underlying22 hi0 hz0 hz1 hz2 rfl (by decide) v2 (0 + p + 1) ([] ++ rgC (S.take p) ++ [.int .i64 x, .int .i64 y]) (by rfl) hown2 wo.heap.size (some ⟨g0, p * 2, none⟩) (q - p) (d - p) (rgC (S.drop p)) (by rfl) (RD.out _ hb2.out) (rgC_one _) (by simp only [maxLen]; omega) (by omega) hbw2 ?_; intro v3 w9 hown3 hg3 hat3; have hb3 := Lib.hid (Below.grown hb2.out hg3 hb2.out.size hge2))
              | fail)
              all_goals
                obtain ⟨A3, c3, hv3, hc3, _⟩ := own_form hown3
                subst hv3
                have HO := Lib.hid (show RgNew w1.heap.size w9 (.slice A3 (q + 1) c3) (S.take p ++ [(x, y)] ++ S.drop p) from by
                  unfold RgNew
                  rw [LEN3.out, rgC_app, rgC_app]
                  have h := hown3
                  rw [NN.out, CELLS.out] at h
                  exact h)
                have HW := Lib.hid (SB.out.trans (hb3.out.mono hB0))
                have HC3 := Lib.hid (show q + 1 ≤ c3 from by have := hc3; have := NN.out; omega)
                clear hown3 hown2 hown1 hg1 hg2 hg3 hb1 hb2 hb3 hat1 hat2 hat3 hne1 hge2 hc3
                rw [NN.out]
                go_wp2
                go_roundw
                case rel => exact ⟨k + 1, A3, q + 1, c3, by omega, by go_num, rfl, by omega, HC3.out, ⟨_, LEN3.out, PERM.out, SORT.out, HO.out, HW.out⟩⟩
                case measure => simp [intOf]; omega
      · obtain rfl : k = n := by omega
        have hSp2 : S.Perm (rFull l) := by rw [List.take_of_length_le (Nat.le_of_eq HN.out)] at hSp; exact hSp
        have FIN := Lib.hid (LV.out S hSp2 hSs)
        have SO := Lib.hid hSo
        have KW := Lib.hid (bnext KB.out hSb)
        clear HI0 hSq hSp hSs hSo hSb hSp2
        go_wp2_with fail
        go_ret
        exact ⟨_, S, rfl, SO.out.out, FIN.out, KW.out⟩
end Go.Proofs.Ytjkdfbalhjmgpaa.IR
