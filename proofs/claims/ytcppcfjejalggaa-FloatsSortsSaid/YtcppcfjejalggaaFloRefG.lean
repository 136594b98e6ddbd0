/-
  Contracts of the document's own functions of layer 4 (isobarref04), the sixth part: Sorted.
-/
import Derived.Test.YtcppcfjejalggaaFloRef
import Derived.Test.YtcppcfjejalggaaFloRow
import Derived.Deep.QuietTactic
import Derived.Deep.CutBlock
import Derived.Deep.DeepCutAuto
import Derived.BigQuiet
import Derived.Deep.RegionHeldLaw
import Derived.Test.YtcppcfjejalggaaMemRow
import Derived.Maps.AppendAt
import Derived.Deep.AppendLies
set_option linter.unusedSimpArgs false
set_option linter.unusedVariables false
namespace Go.Proofs.Ytcppcfjejalggaa.LR
open Go.RowKit
/-- A row of floats as cells. -/
def fls (l : List Nat) : List Value := l.map fun n => .float .f64 n
theorem Reads_take {w : World} {B : Nat} {A : Option Addr} {n p : Nat} {xs : List Value} (h : Reads w B 1 A n xs) (hp : p ≤ n) : Reads w B 1 A p (xs.take p) := by
  refine ⟨by rw [List.length_take, h.1]; omega, fun h0 => ?_⟩
  obtain ⟨ad, e, hb, hc⟩ := h.2 (by omega)
  refine ⟨ad, e, hb, fun j u hu => hc j u ?_⟩
  rw [List.getElem?_take] at hu
  split at hu
  · exact hu
  · cases hu
theorem below_drewN {B : Nat} {a w : World} (h : Below B a w) (k : Nat) : Below B a (w.drewN k) := ⟨h.os, h.tape, h.output, h.size, h.block⟩
theorem kept_cell {x y : World} {p : Addr} {u : Value} {row : Option Nat} (h : x.cell? p = some u) (hg : x.grownBy y row) (hne : some p.block ≠ row) : y.cell? p = some u :=
  (hg.cell_far p (World.block_lt_of_cell? x p h) hne).trans h
theorem Reads_far {w w' : World} {B n bx : Nat} {row : Option Nat} {xs : List Value} (h : Reads w B 1 (some ⟨bx, 0, none⟩) n xs) (hB : B ≤ w.heap.size) (hg : w.grownBy w' row) (hne : some bx ≠ row) : Reads w' B 1 (some ⟨bx, 0, none⟩) n xs := by
  refine ⟨h.1, fun h0 => ?_⟩
  obtain ⟨ad, e, hb, hc⟩ := h.2 h0
  have e' : ad = ⟨bx, 0, none⟩ := (Option.some.inj e).symm
  subst e'
  refine ⟨_, rfl, hb, fun j u hu => kept_cell (hc j u hu) hg ?_⟩
  rw [block_of_add]; exact hne
theorem fls_ins {s : List Nat} {x p : Nat} (hp : kF s x s.length = p) : fls (s.take p) ++ [.float .f64 x] ++ fls (s.drop p) = fls (insF s x) := by
  unfold insF fls
  rw [hp]; simp
theorem own_empty2 (W : World) (o : Obj) (base : Nat) (hb : base ≤ W.heap.size) : ((W.alloc o).alloc (.cells #[] 22)).ownsRow base 22 1 (.slice (some ⟨W.heap.size + 1, 0, none⟩) 0 0) 0 [] := by
  have h := World.ownsRow_made (base := base) (e := 22) (size := 1) (W.alloc o) #[] 0 (by simp; omega) (by decide) rfl
  simpa using h
theorem reads_zero (y : World) (B : Nat) (A : Option Addr) (m : Nat) (h : m = 0) : Reads y B 1 A m [] := by
  subst h
  exact ⟨rfl, fun h => absurd h (Nat.lt_irrefl 0)⟩
theorem fls_length (l : List Nat) : (fls l).length = l.length := by simp [fls]
theorem fls_one (l : List Nat) : ∀ u ∈ fls l, u.oneCell' = true := by
  intro u hu
  obtain ⟨x, _, rfl⟩ := List.mem_map.1 hu
  rfl
set_option maxRecDepth 100000 in
set_option maxHeartbeats 20000000 in
theorem sorted_c (v : Value) (l : List Nat) (hl : l.length ≤ 300) (hn : ∀ n ∈ l, n < 18446744073709551616) (w : World) (h : FlOut w v l) :
    Calls Try.prog 23 #[v] w fun e w' => ∃ v', e = .returned v' ∧ FlOut w' v' (sortF l) ∧ Below w.heap.size w w' := by
  obtain ⟨A, c, rfl, hc, hx⟩ := h
  obtain ⟨n, hln⟩ : ∃ n, l.length = n := ⟨_, rfl⟩
  rw [hln] at hl hc ⊢
  have HX := Lib.hid hx; have HN := Lib.hid hn; have HL := Lib.hid hln
  clear hx hn hln
  obtain ⟨i0, hi0, hz0, hz1, hz2⟩ := info_parts (P := Try.prog) (e := 22) (z := .float .f64 0) (size := 1) (bytes := 8) (by kernel_rfl)
  go_enter Try.func23, Try.ntmps23
  go_wp2
  go_loopw [3, 4] (fun out i wr => ∃ (k : Nat) (B : Option Addr) (d : Nat), k ≤ n ∧ i = .int .i64 k ∧ out = .slice B k d ∧ Hid (wr.ownsRow w.heap.size 22 1 (.slice B k d) k (fls (sortF (l.take k))) ∧ Below w.heap.size w wr)) (fun _ i _ => n - (intOf i).toNat)
  case atStart => exact ⟨0, none, 0, Nat.zero_le _, rfl, rfl, World.ownsRow_nil _ _ _ _, Below.refl _ _⟩
  case round =>
    obtain ⟨k, B, d, hk, rfl, rfl, HI⟩ := hrel
    by_cases hlt : k < n
    · obtain ⟨b, off, rfl, ha⟩ := HX.out (by intro h; have := HL.out; rw [h] at this; simp at this; omega)
      have hkl : k < l.length := by rw [HL.out]; exact hlt
      have hx0 := List.getElem?_eq_getElem hkl
      have hxm : l[k] < 18446744073709551616 := HN.out _ (List.getElem_mem hkl)
      have hstep : sortF (l.take (k + 1)) = insF (sortF (l.take k)) l[k] := by rw [List.take_add_one, hx0]; exact sortF_snoc _ _
      have c0 := (ha.below HI.out.2) k _ hx0
      have hsl : (sortF (l.take k)).length = k := by rw [sortF_length, List.length_take]; omega
      have hsm : ∀ m ∈ sortF (l.take k), m < 18446744073709551616 := fun m hm => HN.out m (List.mem_of_mem_take (sortF_mem _ hm))
      generalize l[k] = x at *
      obtain ⟨s, hs⟩ : ∃ s, sortF (l.take k) = s := ⟨_, rfl⟩
      rw [hs] at HI hstep hsl hsm
      have HDK := Lib.hid (show k ≤ d from by
        rcases HI.out.1.2 with ⟨h, h0⟩ | ⟨g, cap, cur, h, _, _, hle, _⟩
        · injection h with _ h1 h2; omega
        · injection h with _ _ h2; omega)
      have HST := Lib.hid hstep; have HSL := Lib.hid hsl; have HSM := Lib.hid hsm; have HXM := Lib.hid hxm; have HA := Lib.hid ha
      clear hs hstep hsl hsm hx0 ha hxm
      obtain ⟨wo, rfl⟩ : ∃ wo : World, wo = wr := ⟨_, rfl⟩
      go_upto_block 2 with fail
      go_cut [5] from 14 to 30 (fun j wx => ∃ (p : Nat) (wd : World) (q : Nat), p ≤ k ∧ j = .int .i64 p ∧ wx = wd.drewN q ∧ Hid (kF s x k = p ∧ Below wo.heap.size wo wd))
      case first =>
        go_wp2_with fail
        go_loopw [5] (fun j wx => ∃ m : Nat, m ≤ k ∧ j = .int .i64 m ∧ Hid (kF s x m = kF s x k ∧ Below wo.heap.size wo wx)) (fun j _ => (intOf j).toNat)
        case atStart => exact ⟨k, Nat.le_refl _, rfl, rfl, Below.refl _ _⟩
        case round =>
          obtain ⟨m, hm, rfl, HJ⟩ := hrel
          have cx := (HJ.out.2.cell (World.block_lt_of_cell? wo _ c0)).trans c0
          cases m with
          | zero =>
            go_wp2
            go_quiet (fail)
            go_wp2
            go_meet
            exact ⟨0, wr, nq, Nat.zero_le _, rfl, rfl, HJ.out.1.symm, HJ.out.2⟩
          | succ m =>
            obtain ⟨g, hB, hgc⟩ : ∃ g, B = some ⟨g, 0, none⟩ ∧ wo.cell? ⟨g, m, none⟩ = some (.float .f64 (s.getD m 0)) := by
              obtain ⟨g, cap, hv, hcells, _⟩ := World.ownsRow.form HI.out.1 (by omega)
              have hB : B = some ⟨g, 0, none⟩ := by injection hv
              subst hB
              refine ⟨g, rfl, (HI.out.1.cellAt m (by omega)).trans ?_⟩
              have hml : m < s.length := by rw [HSL.out]; omega
              simp [fls, List.getD_eq_getElem?_getD, List.getElem?_eq_getElem hml]
            subst hB
            have hy : s.getD m 0 < 18446744073709551616 := by
              have hml : m < s.length := by rw [HSL.out]; omega
              rw [List.getD_eq_getElem?_getD, List.getElem?_eq_getElem hml]
              exact HSM.out _ (List.getElem_mem hml)
            have g0 := (HJ.out.2.cell (World.block_lt_of_cell? wo _ hgc)).trans hgc
            have g1 := (HJ.out.2.cell (World.block_lt_of_cell? wo _ c0)).trans c0
            have hkf : kF s x (m + 1) = if 0 < fCmp (s.getD m 0) x then kF s x m else m + 1 := rfl
            have p := cmp_c (s.getD m 0) x hy HXM.out
            generalize s.getD m 0 = y at *
            have HK := Lib.hid hkf
            obtain ⟨r, hr⟩ : ∃ r, fCmp y x = r := ⟨_, rfl⟩
            rw [hr] at p HK
            have P := Lib.hid p
            clear p hkf hr hgc
            by_cases hpos : 0 < r
            · go_wp2_with fail
              go_quiet ((go_at_call 18; refine Calls.quiet_of_same ((P.out _).mono fun e w' h => ⟨h.1, h.2.symm⟩)))
              go_wp2
              have hkf : kF s x (m + 1) = kF s x m := by rw [HK.out, if_pos hpos]
              exact ⟨⟨m, by omega, rfl, by rw [← hkf]; exact HJ.out.1, below_drewN HJ.out.2 _⟩, by simp [intOf]⟩
            · go_wp2_with fail
              go_quiet ((go_at_call 18; refine Calls.quiet_of_same ((P.out _).mono fun e w' h => ⟨h.1, h.2.symm⟩)))
              have hkf : kF s x (m + 1) = m + 1 := by rw [HK.out, if_neg (by omega)]
              go_wp2
              go_meet
              exact ⟨m + 1, wr, nq, hm, rfl, rfl, by rw [← HJ.out.1]; exact hkf, HJ.out.2⟩
      case rest =>
        obtain ⟨p, wd, q, hpk, rfl, rfl, HC⟩ := hcut
        have c1 : ∀ j, (wd.drewN j).cell? ⟨b, off + k, none⟩ = some (.float .f64 x) := fun j => (HC.out.2.cell (World.block_lt_of_cell? wo _ c0)).trans c0
        have hkd : k ≤ d := HDK.out
        have hpd : p ≤ d := Nat.le_trans hpk hkd
        have hpdi : (p : Int) ≤ (d : Int) := by omega
        have hpki : (p : Int) ≤ (k : Int) := by omega
        have hkdi : (k : Int) ≤ (d : Int) := by omega
        have hR0 := Reads.of_own HI.out.1
        have hB0 := HI.out.2.size
        have hBr := HC.out.2.size
        have hbl : b < wo.heap.size := World.block_lt_of_cell? wo _ c0
        by_cases hdp : d = p
        · obtain rfl : k = p := by omega
          subst hdp
          have RT := Lib.hid (show ∀ y, Below wo.heap.size wo y → Reads y wo.heap.size 1 B d (fls (s.take d)) from fun y hy => by
            have h := Reads_take (hR0.below hy) (Nat.le_refl d)
            rw [show (fls s).take d = fls (s.take d) from by simp [fls]] at h
            exact h)
          go_wp2_with fail
          go_region_held_law (fun y => y.cell? ⟨b, off + d, none⟩ = some (.float .f64 x))
            (first | go_keep | exact c1 _ | exact c1 (q + 1) | (refine kept_cell (by assumption) hg1 (by simp [Value.ownBlock]; omega)) | (refine kept_cell (by assumption) hg2 hne1) | (refine kept_cell (by assumption) hg3 hne2))
            (first
              | (refine step_append_any _ (by rfl) (.tmp 31) (.tmp 34) 37 (by rfl) w.heap.size 22 i0 (.float .f64 0) 1 8 Try.underlying37 hi0 hz0 hz1 hz2 rfl (by decide) (.slice (some ⟨wd.heap.size, 0, none⟩) 0 0) 0 [] (by rfl) (World.ownsRow_made _ _ _ (by simp [World.drewN]; omega) (by decide) rfl) wo.heap.size B d d (fls (s.take d)) (by rfl) (RT.out _ ((below_drewN HC.out.2 _).alloc hBr _)) (fls_one _) (by simp only [maxLen]; omega) (by omega) (by simp [World.drewN]; omega) ?_; intro v1 w1 hown1 hg1 hat1; have hb1 := Lib.hid (((below_drewN HC.out.2 _).alloc hBr _).grown hg1 (by simp [World.drewN]; omega) (by intro g hg; simp [Value.ownBlock] at hg; omega)); have hne1 : some b ≠ v1.ownBlock := (by rcases hat1 with e | e <;> rw [e] <;> simp [Value.ownBlock, World.drewN] <;> omega); have hge1 : ∀ g, v1.ownBlock = some g → wo.heap.size ≤ g := (by intro g hg; rcases hat1 with e | e <;> rw [e] at hg <;> simp [Value.ownBlock, World.drewN] at hg <;> omega); have hbw1 := Nat.le_trans hB0 hb1.out.size)
              | (refine step_append_any _ (by rfl) (.tmp 31) (.tmp 34) 37 (by rfl) w.heap.size 22 i0 (.float .f64 0) 1 8 Try.underlying37 hi0 hz0 hz1 hz2 rfl (by decide) (.slice (some ⟨wd.heap.size, 0, none⟩) 0 0) 0 [] (by rfl) (World.ownsRow.alloc (World.ownsRow_made _ _ _ (by simp [World.drewN]; omega) (by decide) rfl) _) wo.heap.size B d d (fls (s.take d)) (by rfl) (RT.out _ (((below_drewN HC.out.2 _).alloc hBr _).alloc (by simp [World.drewN]; omega) _)) (fls_one _) (by simp only [maxLen]; omega) (by omega) (by simp [World.drewN]; omega) ?_; intro v1 w1 hown1 hg1 hat1; have hb1 := Lib.hid ((((below_drewN HC.out.2 _).alloc hBr _).alloc (by simp [World.drewN]; omega) _).grown hg1 (by simp [World.drewN]; omega) (by intro g hg; simp [Value.ownBlock] at hg; omega)); have hne1 : some b ≠ v1.ownBlock := (by rcases hat1 with e | e <;> rw [e] <;> simp [Value.ownBlock, World.drewN] <;> omega); have hge1 : ∀ g, v1.ownBlock = some g → wo.heap.size ≤ g := (by intro g hg; rcases hat1 with e | e <;> rw [e] at hg <;> simp [Value.ownBlock, World.drewN] at hg <;> omega); have hbw1 := Nat.le_trans hB0 hb1.out.size; have hx1 : ∃ Bx, Reads w1 Bx 1 (some ⟨wd.heap.size + 1, 0, none⟩) 1 [.float .f64 x] := ⟨_, by have hq := Reads_far (Reads.of_own (World.ownsRow_lit (base := 0) (e := 22) (size := 1) (World.alloc _ _) #[.float .f64 x] 1 (Nat.zero_le _) (by decide) rfl)) (Nat.le_refl _) hg1 (by simp [Value.ownBlock, World.drewN]); simpa [World.drewN] using hq⟩)
              | (refine step_append_any _ (by rfl) (.tmp 31) (.tmp 34) 37 (by rfl) w.heap.size 22 i0 (.float .f64 0) 1 8 Try.underlying37 hi0 hz0 hz1 hz2 rfl (by decide) (.slice (some ⟨wd.heap.size + 1, 0, none⟩) 0 0) 0 [] (by rfl) (own_empty2 (wd.drewN _) _ _ (Nat.le_trans hB0 hBr)) wo.heap.size B d d (fls (s.take d)) (by rfl) (RT.out _ (((below_drewN HC.out.2 _).alloc hBr _).alloc (by simp [World.drewN]; omega) _)) (fls_one _) (by simp only [maxLen]; omega) (by omega) (by simp [World.drewN]; omega) ?_; intro v1 w1 hown1 hg1 hat1; have hb1 := Lib.hid ((((below_drewN HC.out.2 _).alloc hBr _).alloc (by simp [World.drewN]; omega) _).grown hg1 (by simp [World.drewN]; omega) (by intro g hg; simp [Value.ownBlock] at hg; omega)); have hne1 : some b ≠ v1.ownBlock := (by rcases hat1 with e | e <;> rw [e] <;> simp [Value.ownBlock, World.drewN] <;> omega); have hge1 : ∀ g, v1.ownBlock = some g → wo.heap.size ≤ g := (by intro g hg; rcases hat1 with e | e <;> rw [e] at hg <;> simp [Value.ownBlock, World.drewN] at hg <;> omega); have hbw1 := Nat.le_trans hB0 hb1.out.size; have hx1 : ∃ Bx, Reads w1 Bx 1 (some ⟨wd.heap.size, 0, none⟩) 1 [.float .f64 x] := ⟨_, by have hq := Reads_far (Reads.alloc (Reads.of_own (World.ownsRow_lit (base := 0) (e := 22) (size := 1) _ #[.float .f64 x] 1 (Nat.zero_le _) (by decide) rfl)) (Nat.le_refl _) _) (by simp) hg1 (by simp [Value.ownBlock, World.drewN]); simpa [World.drewN] using hq⟩)
              | (refine step_append_any _ (by rfl) (.tmp 35) (.tmp 40) 37 (by rfl) w.heap.size 22 i0 (.float .f64 0) 1 8 Try.underlying37 hi0 hz0 hz1 hz2 rfl (by decide) v1 (0 + d) ([] ++ fls (s.take d)) (by rfl) (World.ownsRow.alloc hown1 _) _ (some ⟨w1.heap.size, 0, none⟩) 1 1 [.float .f64 x] (by rfl) (Reads.of_own (World.ownsRow_lit (base := 0) (e := 22) (size := 1) w1 #[.float .f64 x] 1 (Nat.zero_le _) (by decide) rfl)) (by simp [Value.oneCell']) (by simp only [maxLen]; omega) (by omega) (by simp; omega) ?_; intro v2 w2 hown2 hg2 hat2; have hb2 := Lib.hid (Below.grown (Below.alloc hb1.out hb1.out.size _) hg2 (by simp; exact Nat.le_succ_of_le hb1.out.size) hge1); have hne2 : some b ≠ v2.ownBlock := (by rcases hat2 with e | e <;> rw [e] <;> first | exact hne1 | (have := hb1.out.size; simp; omega)); have hge2 : ∀ g, v2.ownBlock = some g → wo.heap.size ≤ g := (by intro g hg; rcases hat2 with e | e <;> rw [e] at hg <;> first | exact hge1 g hg | (have := hb1.out.size; simp at hg; omega)); have hbw2 := Nat.le_trans hB0 hb2.out.size)
              | (refine step_append_any _ (by rfl) (.tmp 35) (.tmp 40) 37 (by rfl) w.heap.size 22 i0 (.float .f64 0) 1 8 Try.underlying37 hi0 hz0 hz1 hz2 rfl (by decide) v1 (0 + d) ([] ++ fls (s.take d)) (by rfl) hown1 hx1.choose (some ⟨wd.heap.size + 1, 0, none⟩) 1 1 [.float .f64 x] (by rfl) hx1.choose_spec (by simp [Value.oneCell']) (by simp only [maxLen]; omega) (by omega) hbw1 ?_; intro v2 w2 hown2 hg2 hat2; have hb2 := Lib.hid (Below.grown (hb1.out) hg2 hb1.out.size hge1); have hne2 : some b ≠ v2.ownBlock := (by rcases hat2 with e | e <;> rw [e] <;> first | exact hne1 | (have := hb1.out.size; simp; omega)); have hge2 : ∀ g, v2.ownBlock = some g → wo.heap.size ≤ g := (by intro g hg; rcases hat2 with e | e <;> rw [e] at hg <;> first | exact hge1 g hg | (have := hb1.out.size; simp at hg; omega)); have hbw2 := Nat.le_trans hB0 hb2.out.size)
              | (refine step_append_any _ (by rfl) (.tmp 35) (.tmp 40) 37 (by rfl) w.heap.size 22 i0 (.float .f64 0) 1 8 Try.underlying37 hi0 hz0 hz1 hz2 rfl (by decide) v1 (0 + d) ([] ++ fls (s.take d)) (by rfl) hown1 hx1.choose (some ⟨wd.heap.size, 0, none⟩) 1 1 [.float .f64 x] (by rfl) hx1.choose_spec (by simp [Value.oneCell']) (by simp only [maxLen]; omega) (by omega) hbw1 ?_; intro v2 w2 hown2 hg2 hat2; have hb2 := Lib.hid (Below.grown (hb1.out) hg2 hb1.out.size hge1); have hne2 : some b ≠ v2.ownBlock := (by rcases hat2 with e | e <;> rw [e] <;> first | exact hne1 | (have := hb1.out.size; simp; omega)); have hge2 : ∀ g, v2.ownBlock = some g → wo.heap.size ≤ g := (by intro g hg; rcases hat2 with e | e <;> rw [e] at hg <;> first | exact hge1 g hg | (have := hb1.out.size; simp at hg; omega)); have hbw2 := Nat.le_trans hB0 hb2.out.size)
              | (refine step_append_any _ (by rfl) (.tmp 41) (.tmp 44) 37 (by rfl) w.heap.size 22 i0 (.float .f64 0) 1 8 Try.underlying37 hi0 hz0 hz1 hz2 rfl (by decide) v2 (0 + d + 1) ([] ++ fls (s.take d) ++ [.float .f64 x]) (by rfl) hown2 wo.heap.size _ _ _ [] (by rfl) (reads_zero _ _ _ _ (by omega)) (by simp) (by simp only [maxLen]; omega) (by omega) hbw2 ?_; intro v3 w3 hown3 hg3 hat3; have hb3 := Lib.hid (Below.grown hb2.out hg3 hb2.out.size hge2))
              | fail)
          all_goals
            obtain ⟨g3, cap3, hv3, _, _⟩ := World.ownsRow.form hown3 (by omega)
            subst hv3
            have hcells : [] ++ fls (s.take d) ++ [.float .f64 x] ++ [] = fls (insF s x) := by
              have h := fls_ins (s := s) (x := x) (p := d) (by rw [HSL.out]; exact HC.out.1)
              rw [List.drop_of_length_le (by rw [HSL.out]; exact Nat.le_refl _)] at h
              rw [← h]; simp [fls]
            rw [hcells] at hown3
            simp only [Nat.sub_self, Nat.add_zero, Nat.zero_add] at hown3
            have HO := Lib.hid hown3
            have HW := Lib.hid (HI.out.2.trans (hb3.out.mono hB0))
            clear hown3 hown2 hown1 hg1 hg2 hg3 hb1 hb2 hb3 hat1 hat2 hat3 hne1 hne2 hge1 hge2 hcells hR0 RT
            go_wp2
            go_roundw
            case rel =>
              refine ⟨d + 1, some ⟨g3, 0, none⟩, cap3, by omega, by go_num, by simp, ?_⟩
              rw [HST.out]
              exact ⟨HO.out, HW.out⟩
            case measure => simp [intOf]; omega
        · obtain ⟨g, rfl⟩ : ∃ g, B = some ⟨g, 0, none⟩ := by
            rcases HI.out.1.2 with ⟨h, h0⟩ | ⟨g, cap, cur, h, _⟩
            · injection h with _ h1 h2; omega
            · injection h with h1; exact ⟨g, h1⟩
          have hif : (if d = p then (some ⟨g, 0, none⟩ : Option Addr) else (some ⟨g, 0, none⟩ : Option Addr).map (·.add (p * 1))) = some ⟨g, p, none⟩ := by rw [if_neg hdp]; simp [Addr.add]; omega
          have hdpi : ¬ (d : Int) = (p : Int) := by omega
          have RT := Lib.hid (show ∀ y, Below wo.heap.size wo y → Reads y wo.heap.size 1 (some ⟨g, 0, none⟩) p (fls (s.take p)) from fun y hy => by
            have h := Reads_take (hR0.below hy) (show p ≤ k from hpk)
            rw [show (fls s).take p = fls (s.take p) from by simp [fls]] at h
            exact h)
          have RD := Lib.hid (show ∀ y, Below wo.heap.size wo y → Reads y wo.heap.size 1 (some ⟨g, p, none⟩) (k - p) (fls (s.drop p)) from fun y hy => by
            have h := Reads.cut (hR0.below hy) (show p ≤ k from hpk) (show k ≤ d from HDK.out)
            rw [show (fls s).drop (p * 1) = fls (s.drop p) from by simp [fls]] at h
            rw [hif] at h
            exact h)
          go_wp2_with fail
          go_region_held_law (fun y => y.cell? ⟨b, off + k, none⟩ = some (.float .f64 x))
            (first | go_keep | exact c1 _ | exact c1 (q + 1) | (refine kept_cell (by assumption) hg1 (by simp [Value.ownBlock]; omega)) | (refine kept_cell (by assumption) hg2 hne1) | (refine kept_cell (by assumption) hg3 hne2))
            (first
              | (refine step_append_any _ (by rfl) (.tmp 31) (.tmp 34) 37 (by rfl) w.heap.size 22 i0 (.float .f64 0) 1 8 Try.underlying37 hi0 hz0 hz1 hz2 rfl (by decide) (.slice (some ⟨wd.heap.size, 0, none⟩) 0 0) 0 [] (by rfl) (World.ownsRow_made _ _ _ (by simp [World.drewN]; omega) (by decide) rfl) wo.heap.size (some ⟨g, 0, none⟩) p d (fls (s.take p)) (by rfl) (RT.out _ ((below_drewN HC.out.2 _).alloc hBr _)) (fls_one _) (by simp only [maxLen]; omega) (by omega) (by simp [World.drewN]; omega) ?_; intro v1 w1 hown1 hg1 hat1; have hb1 := Lib.hid (((below_drewN HC.out.2 _).alloc hBr _).grown hg1 (by simp [World.drewN]; omega) (by intro g hg; simp [Value.ownBlock] at hg; omega)); have hne1 : some b ≠ v1.ownBlock := (by rcases hat1 with e | e <;> rw [e] <;> simp [Value.ownBlock, World.drewN] <;> omega); have hge1 : ∀ g, v1.ownBlock = some g → wo.heap.size ≤ g := (by intro g hg; rcases hat1 with e | e <;> rw [e] at hg <;> simp [Value.ownBlock, World.drewN] at hg <;> omega); have hbw1 := Nat.le_trans hB0 hb1.out.size)
              | (refine step_append_any _ (by rfl) (.tmp 31) (.tmp 34) 37 (by rfl) w.heap.size 22 i0 (.float .f64 0) 1 8 Try.underlying37 hi0 hz0 hz1 hz2 rfl (by decide) (.slice (some ⟨wd.heap.size, 0, none⟩) 0 0) 0 [] (by rfl) (World.ownsRow.alloc (World.ownsRow_made _ _ _ (by simp [World.drewN]; omega) (by decide) rfl) _) wo.heap.size (some ⟨g, 0, none⟩) p d (fls (s.take p)) (by rfl) (RT.out _ (((below_drewN HC.out.2 _).alloc hBr _).alloc (by simp [World.drewN]; omega) _)) (fls_one _) (by simp only [maxLen]; omega) (by omega) (by simp [World.drewN]; omega) ?_; intro v1 w1 hown1 hg1 hat1; have hb1 := Lib.hid ((((below_drewN HC.out.2 _).alloc hBr _).alloc (by simp [World.drewN]; omega) _).grown hg1 (by simp [World.drewN]; omega) (by intro g hg; simp [Value.ownBlock] at hg; omega)); have hne1 : some b ≠ v1.ownBlock := (by rcases hat1 with e | e <;> rw [e] <;> simp [Value.ownBlock, World.drewN] <;> omega); have hge1 : ∀ g, v1.ownBlock = some g → wo.heap.size ≤ g := (by intro g hg; rcases hat1 with e | e <;> rw [e] at hg <;> simp [Value.ownBlock, World.drewN] at hg <;> omega); have hbw1 := Nat.le_trans hB0 hb1.out.size; have hx1 : ∃ Bx, Reads w1 Bx 1 (some ⟨wd.heap.size + 1, 0, none⟩) 1 [.float .f64 x] := ⟨_, by have hq := Reads_far (Reads.of_own (World.ownsRow_lit (base := 0) (e := 22) (size := 1) (World.alloc _ _) #[.float .f64 x] 1 (Nat.zero_le _) (by decide) rfl)) (Nat.le_refl _) hg1 (by simp [Value.ownBlock, World.drewN]); simpa [World.drewN] using hq⟩)
              | (refine step_append_any _ (by rfl) (.tmp 31) (.tmp 34) 37 (by rfl) w.heap.size 22 i0 (.float .f64 0) 1 8 Try.underlying37 hi0 hz0 hz1 hz2 rfl (by decide) (.slice (some ⟨wd.heap.size + 1, 0, none⟩) 0 0) 0 [] (by rfl) (own_empty2 (wd.drewN _) _ _ (Nat.le_trans hB0 hBr)) wo.heap.size (some ⟨g, 0, none⟩) p d (fls (s.take p)) (by rfl) (RT.out _ (((below_drewN HC.out.2 _).alloc hBr _).alloc (by simp [World.drewN]; omega) _)) (fls_one _) (by simp only [maxLen]; omega) (by omega) (by simp [World.drewN]; omega) ?_; intro v1 w1 hown1 hg1 hat1; have hb1 := Lib.hid ((((below_drewN HC.out.2 _).alloc hBr _).alloc (by simp [World.drewN]; omega) _).grown hg1 (by simp [World.drewN]; omega) (by intro g hg; simp [Value.ownBlock] at hg; omega)); have hne1 : some b ≠ v1.ownBlock := (by rcases hat1 with e | e <;> rw [e] <;> simp [Value.ownBlock, World.drewN] <;> omega); have hge1 : ∀ g, v1.ownBlock = some g → wo.heap.size ≤ g := (by intro g hg; rcases hat1 with e | e <;> rw [e] at hg <;> simp [Value.ownBlock, World.drewN] at hg <;> omega); have hbw1 := Nat.le_trans hB0 hb1.out.size; have hx1 : ∃ Bx, Reads w1 Bx 1 (some ⟨wd.heap.size, 0, none⟩) 1 [.float .f64 x] := ⟨_, by have hq := Reads_far (Reads.alloc (Reads.of_own (World.ownsRow_lit (base := 0) (e := 22) (size := 1) _ #[.float .f64 x] 1 (Nat.zero_le _) (by decide) rfl)) (Nat.le_refl _) _) (by simp) hg1 (by simp [Value.ownBlock, World.drewN]); simpa [World.drewN] using hq⟩)
              | (refine step_append_any _ (by rfl) (.tmp 35) (.tmp 40) 37 (by rfl) w.heap.size 22 i0 (.float .f64 0) 1 8 Try.underlying37 hi0 hz0 hz1 hz2 rfl (by decide) v1 (0 + p) ([] ++ fls (s.take p)) (by rfl) (World.ownsRow.alloc hown1 _) _ (some ⟨w1.heap.size, 0, none⟩) 1 1 [.float .f64 x] (by rfl) (Reads.of_own (World.ownsRow_lit (base := 0) (e := 22) (size := 1) w1 #[.float .f64 x] 1 (Nat.zero_le _) (by decide) rfl)) (by simp [Value.oneCell']) (by simp only [maxLen]; omega) (by omega) (by simp; omega) ?_; intro v2 w2 hown2 hg2 hat2; have hb2 := Lib.hid (Below.grown (Below.alloc hb1.out hb1.out.size _) hg2 (by simp; exact Nat.le_succ_of_le hb1.out.size) hge1); have hne2 : some b ≠ v2.ownBlock := (by rcases hat2 with e | e <;> rw [e] <;> first | exact hne1 | (have := hb1.out.size; simp; omega)); have hge2 : ∀ g, v2.ownBlock = some g → wo.heap.size ≤ g := (by intro g hg; rcases hat2 with e | e <;> rw [e] at hg <;> first | exact hge1 g hg | (have := hb1.out.size; simp at hg; omega)); have hbw2 := Nat.le_trans hB0 hb2.out.size)
              | (refine step_append_any _ (by rfl) (.tmp 35) (.tmp 40) 37 (by rfl) w.heap.size 22 i0 (.float .f64 0) 1 8 Try.underlying37 hi0 hz0 hz1 hz2 rfl (by decide) v1 (0 + p) ([] ++ fls (s.take p)) (by rfl) hown1 hx1.choose (some ⟨wd.heap.size + 1, 0, none⟩) 1 1 [.float .f64 x] (by rfl) hx1.choose_spec (by simp [Value.oneCell']) (by simp only [maxLen]; omega) (by omega) hbw1 ?_; intro v2 w2 hown2 hg2 hat2; have hb2 := Lib.hid (Below.grown (hb1.out) hg2 hb1.out.size hge1); have hne2 : some b ≠ v2.ownBlock := (by rcases hat2 with e | e <;> rw [e] <;> first | exact hne1 | (have := hb1.out.size; simp; omega)); have hge2 : ∀ g, v2.ownBlock = some g → wo.heap.size ≤ g := (by intro g hg; rcases hat2 with e | e <;> rw [e] at hg <;> first | exact hge1 g hg | (have := hb1.out.size; simp at hg; omega)); have hbw2 := Nat.le_trans hB0 hb2.out.size)
              | (refine step_append_any _ (by rfl) (.tmp 35) (.tmp 40) 37 (by rfl) w.heap.size 22 i0 (.float .f64 0) 1 8 Try.underlying37 hi0 hz0 hz1 hz2 rfl (by decide) v1 (0 + p) ([] ++ fls (s.take p)) (by rfl) hown1 hx1.choose (some ⟨wd.heap.size, 0, none⟩) 1 1 [.float .f64 x] (by rfl) hx1.choose_spec (by simp [Value.oneCell']) (by simp only [maxLen]; omega) (by omega) hbw1 ?_; intro v2 w2 hown2 hg2 hat2; have hb2 := Lib.hid (Below.grown (hb1.out) hg2 hb1.out.size hge1); have hne2 : some b ≠ v2.ownBlock := (by rcases hat2 with e | e <;> rw [e] <;> first | exact hne1 | (have := hb1.out.size; simp; omega)); have hge2 : ∀ g, v2.ownBlock = some g → wo.heap.size ≤ g := (by intro g hg; rcases hat2 with e | e <;> rw [e] at hg <;> first | exact hge1 g hg | (have := hb1.out.size; simp at hg; omega)); have hbw2 := Nat.le_trans hB0 hb2.out.size)
              | (refine step_append_any _ (by rfl) (.tmp 41) (.tmp 44) 37 (by rfl) w.heap.size 22 i0 (.float .f64 0) 1 8 Try.underlying37 hi0 hz0 hz1 hz2 rfl (by decide) v2 (0 + p + 1) ([] ++ fls (s.take p) ++ [.float .f64 x]) (by rfl) hown2 wo.heap.size (some ⟨g, p, none⟩) (k - p) (d - p) (fls (s.drop p)) (by rfl) (RD.out _ hb2.out) (fls_one _) (by simp only [maxLen]; omega) (by omega) hbw2 ?_; intro v3 w3 hown3 hg3 hat3; have hb3 := Lib.hid (Below.grown hb2.out hg3 hb2.out.size hge2))
              | fail)
          all_goals
            obtain ⟨g3, cap3, hv3, _, _⟩ := World.ownsRow.form hown3 (by omega)
            subst hv3
            have hcells : [] ++ fls (s.take p) ++ [.float .f64 x] ++ fls (s.drop p) = fls (insF s x) := by
              have h := fls_ins (s := s) (x := x) (p := p) (by rw [HSL.out]; exact HC.out.1)
              rw [← h]; simp [fls]
            rw [hcells, show 0 + p + 1 + (k - p) = k + 1 from by omega] at hown3
            have HO := Lib.hid hown3
            have HW := Lib.hid (HI.out.2.trans (hb3.out.mono hB0))
            clear hown3 hown2 hown1 hg1 hg2 hg3 hb1 hb2 hb3 hat1 hat2 hat3 hne1 hne2 hge1 hge2 hcells hR0 RT RD
            go_wp2
            go_roundw
            case rel =>
              refine ⟨k + 1, some ⟨g3, 0, none⟩, cap3, by omega, by go_num, by congr 1; omega, ?_⟩
              rw [HST.out]
              exact ⟨HO.out, HW.out⟩
            case measure => simp [intOf]; omega
    · obtain rfl : k = n := by omega
      have ho := HI.out.1
      rw [List.take_of_length_le (by rw [HL.out]; exact Nat.le_refl _)] at ho
      have HO := Lib.hid ho
      clear ho
      go_wp2
      go_ret
      refine ⟨.slice B k d, rfl, ?_, HI.out.2⟩
      have hsl : (sortF l).length = k := by rw [sortF_length, HL.out]
      refine ⟨B, d, by rw [hsl], ?_, fun hne => ?_⟩
      · rcases HO.out.2 with ⟨h, h0⟩ | ⟨g, cap, cur, h, _, _, hle, _⟩
        · rw [hsl, h0]; exact Nat.zero_le _
        · injection h with _ _ h2; rw [hsl, h2]; exact hle
      · have hk0 : 0 < k := by rw [← hsl]; exact List.length_pos_iff.2 hne
        obtain ⟨g, cap, hv, _, _⟩ := World.ownsRow.form HO.out hk0
        have hB : B = some ⟨g, 0, none⟩ := by injection hv
        subst hB
        refine ⟨g, 0, rfl, fun i y hi => ?_⟩
        have hil : i < k := by
          rcases Nat.lt_or_ge i k with h | h
          · exact h
          · rw [List.getElem?_eq_none (by rw [hsl]; exact h)] at hi; cases hi
        rw [Nat.zero_add]
        refine (HO.out.cellAt i (by omega)).trans ?_
        simp [fls, hi]
end Go.Proofs.Ytcppcfjejalggaa.LR
