/-
  Contracts of the program's small functions of layer 6, where a disk is right: quotaRight, mayBe, within, keptOf, Used, filesRight, done and canBeDone at any move that can be done.
-/
import Derived.Test.YtmkjjcogheidmaaDskPD
set_option linter.unusedSimpArgs false
set_option linter.unusedVariables false
namespace Go.Proofs.Ytmkjjcogheidmaa.DP
open Go.RowKit
theorem done_c {base : Nat} {l : List PN} {ids : List Nat} {m : PM} {v : Value} {w : World} (hown : w.ownsRow base 79 2 v l.length (l.flatMap cN)) (hs : NS l) (hm : mOk l ids m) (hl : l.length ≤ 900000) (hb : base ≤ w.heap.size) :
    Calls Try.prog 35 #[v, .agg #[.int .i64 (m.kind : Nat), .string m.name, .string m.to, .int .i64 (m.id : Nat)]] w (Done base (mv l m) w v) := by
  obtain ⟨k, s, t, i⟩ := m
  rcases hm.2 with ⟨hk, hn, _⟩ | ⟨hk, hn, _⟩ | ⟨hk, hn, _⟩
  · obtain rfl : k = 1 := hk
    exact doneAdd_c hown hs hn hl hb
  · obtain rfl : k = 2 := hk
    exact doneDrop_c hown hs hn hl hb
  · obtain rfl : k = 3 := hk
    by_cases ht : nHas t (nDel s l)
    · exact doneMoveOld_c hown hs hn ht hl hb
    · have := doneMoveNew_c (i := i) hown hs hn ht hl hb
      have e : mv l ⟨3, s, t, i⟩ = nIns ⟨t, nId s l⟩ (nDel s l) := by
        show nIns ⟨t, nId s l⟩ (nDel t (nDel s l)) = _
        rw [nDel_none ht]
      rw [e]
      exact this
set_option maxRecDepth 100000 in
theorem quotaRight_c (q : Nat) (hq : q ≤ 1073741824) (w : World) : Calls Try.prog 24 #[.int .i64 (q : Nat)] w fun e w' => e = .returned (.bool true) ∧ w = w' := by
  have h0 : decide ((0 : Int) ≤ (q : Int)) = true := by simp
  have h1 : (q : Int) ≤ 1073741824 := by omega
  go_enter Try.func24, Try.ntmps24
  go_wp2
  go_ret
  exact ⟨rfl, rfl⟩
set_option maxRecDepth 100000 in
theorem mayBe_c (s : ByteArray) (hs : okN s) (w : World) : Calls Try.prog 38 #[.string s] w fun e w' => e = .returned (.bool true) ∧ w = w' := by
  obtain ⟨h1, h2⟩ := hs
  have h3 : decide ((1 : Int) ≤ (s.size : Int)) = true := by simp; omega
  have h4 : (s.size : Int) ≤ 96 := by omega
  go_enter Try.func38, Try.ntmps38
  go_wp2
  go_ret
  exact ⟨rfl, rfl⟩
set_option maxRecDepth 100000 in
theorem within_c (n : Int) (m : Nat) (hm : m ≤ 1000000000000) (hn : -9223372036854775808 ≤ n ∧ n ≤ 9223372036854775807) (w : World) : Calls Try.prog 34 #[.int .i64 n, .int .i64 (m : Nat)] w fun e w' => e = .returned (.int .i64 (min n.toNat m : Nat)) ∧ w = w' := by
  have HE : Hid (∀ x : Int, x = min (max n 0) (m : Int) → x = ((min n.toNat m : Nat) : Int)) := Lib.hid (by intro x h; omega)
  clear hn
  generalize min n.toNat m = r at HE ⊢
  go_enter Try.func34, Try.ntmps34
  go_wp2
  all_goals (go_ret; exact ⟨congrArg (fun z => Ending.returned (.int .i64 z)) (HE.out _ (by omega)), rfl⟩)
theorem usedF_take (l : List PF) (k : Nat) : usedF (l.take k) ≤ usedF l := by
  have e : usedF (l.take k) + usedF (l.drop k) = usedF l := by rw [← usedF_app, List.take_append_drop]
  omega
set_option maxRecDepth 100000 in
set_option maxHeartbeats 2000000 in
theorem used_c {S : Nat → Prop} {D : PD} {v : Value} {w : World} (h : DkIn S w v D) : Calls Try.prog 12 #[v] w fun e w' => e = .returned (.int .i64 (usedF D.files : Nat)) ∧ Below w.heap.size w w' := by
  obtain ⟨vf, vn, vk, vm, rfl, hat⟩ := h.at_
  obtain ⟨A1, c1, A2, c2, A3, c3, A4, c4, rfl, rfl, rfl, rfl⟩ := hat.forms
  have HF := Lib.hid hat.f
  have hu := Nat.le_trans h.inv.used h.inv.quota
  have hn := h.inv.f256
  obtain ⟨q, hq⟩ : ∃ q : Int, ((D.quota : Nat) : Int) = q := ⟨_, rfl⟩
  obtain ⟨x, hx⟩ : ∃ q : Int, ((D.next : Nat) : Int) = q := ⟨_, rfl⟩
  rw [hq, hx]
  generalize D.names.length = n2
  generalize D.kept.length = n3
  generalize D.moves.length = n4
  clear hat hq hx h
  obtain ⟨l, hl⟩ : ∃ l, D.files = l := ⟨_, rfl⟩
  rw [hl] at HF hu hn ⊢
  clear hl
  obtain ⟨n, hnl⟩ : ∃ n, l.length = n := ⟨_, rfl⟩
  have HN := Lib.hid hnl
  rw [hnl] at hn ⊢
  clear hnl
  go_enter Try.func12, Try.ntmps12
  go_wp2
  go_loopw [3, 5, 9] (fun s p i wr => ∃ k r : Nat, k ≤ n ∧ r ≤ 1073741824 ∧ s = .int .i64 r ∧ i = .int .i64 k ∧ Hid (r = usedF (l.take k)) ∧ Hid (Below w.heap.size w wr)) (fun _ _ i _ => n - (intOf i).toNat)
  case atStart => exact ⟨0, 0, Nat.zero_le _, Nat.zero_le _, rfl, rfl, rfl, alloc_below _ _⟩
  case round =>
    obtain ⟨k, r, hk, hr, rfl, rfl, HR, HB⟩ := hrel
    by_cases hlt : k < n
    · obtain ⟨A', cap', hv, _, hxx⟩ := FsOut.below HF.out HB.out
      obtain ⟨b, o, hA, _, hf⟩ := hxx (by rw [HN.out]; omega)
      injection hv with h1 _ _
      subst h1
      subst hA
      obtain ⟨g, hg, y1, ⟨u, y2, hu2⟩, y3⟩ := hf k (by rw [HN.out]; exact hlt)
      obtain ⟨Z, z, rfl, _, _⟩ := id hu2
      have hs : usedF (l.take (k + 1)) = r + g.bytes.length := by
        rw [List.take_add_one, hg, HR.out]
        exact usedF_app _ _
      have ht := usedF_take l (k + 1)
      have hle : r + g.bytes.length ≤ 1073741824 := by omega
      obtain ⟨d, hd⟩ : ∃ d, g.bytes.length = d := ⟨_, rfl⟩
      rw [hd] at hs hle y2
      have HS := Lib.hid hs
      clear hs ht hd hg hu2 hf hxx
      go_wp2
      go_roundw
      case rel => exact ⟨k + 1, r + d, by omega, hle, by go_num, by go_num, Lib.hid HS.out.symm, bnext HB.out (alloc_below _ _)⟩
      case measure => simp [intOf]; omega
    · obtain rfl : k = n := by omega
      go_wp2
      go_ret
      have e := HR.out
      rw [List.take_of_length_le (by rw [HN.out]; exact Nat.le_refl _)] at e
      exact ⟨congrArg (fun z : Nat => Ending.returned (.int .i64 (z : Int))) e, HB.out⟩
/-- What is kept of a file beyond the sure bytes, as it stands in the list. -/
def kraw (ks : List (Int × Int)) (i : Nat) : Int := ((ks.find? fun k => decide (k.1 = (i : Int))).map fun k => k.2).getD 0
theorem kraw_keep (ks : List (Int × Int)) (i : Nat) : (kraw ks i).toNat = keepOf ks i := by
  unfold kraw keepOf
  cases ks.find? fun k => decide (k.1 = (i : Int)) <;> rfl
theorem kraw_range {ks : List (Int × Int)} (h : KOk ks) (i : Nat) : -9223372036854775808 ≤ kraw ks i ∧ kraw ks i ≤ 9223372036854775807 := by
  unfold kraw
  cases hf : ks.find? fun k => decide (k.1 = (i : Int)) with
  | none => simp
  | some k => exact (h.2 k (List.mem_of_find?_eq_some hf)).2
theorem kraw_hit {ks : List (Int × Int)} {i k : Nat} {x : Int × Int} (h : ∀ j y, j < k → ks[j]? = some y → y.1 ≠ (i : Int)) (hx : ks[k]? = some x) (hi : x.1 = (i : Int)) : kraw ks i = x.2 := by
  unfold kraw
  have : ks.find? (fun k => decide (k.1 = (i : Int))) = some x := by
    induction ks generalizing k with
    | nil => simp at hx
    | cons y r ih =>
      cases k with
      | zero =>
        have : y = x := by simpa using hx
        rw [List.find?_cons_of_pos (by rw [this]; simpa using hi), this]
      | succ k =>
        rw [List.find?_cons_of_neg (by simpa using h 0 y (Nat.succ_pos _) rfl)]
        exact ih (k := k) (fun j z hj hz => h (j + 1) z (by omega) (by simpa using hz)) (by simpa using hx)
  rw [this]
  rfl
theorem kraw_miss {ks : List (Int × Int)} {i : Nat} (h : ∀ j y, j < ks.length → ks[j]? = some y → y.1 ≠ (i : Int)) : kraw ks i = 0 := by
  unfold kraw
  have : ks.find? (fun k => decide (k.1 = (i : Int))) = none := by
    rw [List.find?_eq_none]
    intro x hx
    obtain ⟨k, hk⟩ := List.getElem?_of_mem hx
    simpa using h k x (List.getElem?_eq_some_iff.1 hk).1 hk
  rw [this]
  rfl
theorem kp_at {w : World} {A : Option Addr} {n c : Nat} {l : List (Int × Int)} (h : KsOut w (.slice A n c) l) {k : Nat} (hk : k < n) : ∃ b off x, A = some ⟨b, off, none⟩ ∧ l[k]? = some x ∧ w.cell? ⟨b, off + k * 2, none⟩ = some (.int .i64 x.1) ∧ w.cell? ⟨b, off + k * 2 + 1, none⟩ = some (.int .i64 x.2) := by
  obtain ⟨A', c', hv, _, hx⟩ := h
  injection hv with h1 h2 _
  subst h1 h2
  obtain ⟨b, off, hA, _, hf⟩ := hx (by omega)
  obtain ⟨x, h1, h2, h3⟩ := hf k hk
  exact ⟨b, off, x, hA, h1, h2, h3⟩
set_option maxRecDepth 100000 in
set_option maxHeartbeats 2000000 in
theorem keptOf_c {ks : List (Int × Int)} {u : Value} {i : Nat} {w : World} (hks : KOk ks) (hu : KsOut w u ks) : Calls Try.prog 36 #[.int .i64 (i : Nat), u] w fun e w' => e = .returned (.int .i64 (kraw ks i)) ∧ Below w.heap.size w w' := by
  obtain ⟨A, c, rfl⟩ : ∃ A c, u = .slice A ks.length c := by obtain ⟨A, c, h, _⟩ := hu; exact ⟨A, c, h⟩
  have hn := hks.1
  have HU := Lib.hid hu
  have HH : Hid (∀ (k : Nat) (x : Int × Int), (∀ (j : Nat) (y : Int × Int), j < k → ks[j]? = some y → y.1 ≠ (i : Int)) → ks[k]? = some x → x.1 = (i : Int) → kraw ks i = x.2) := Lib.hid fun k x => kraw_hit
  have HM : Hid ((∀ (j : Nat) (y : Int × Int), j < ks.length → ks[j]? = some y → y.1 ≠ (i : Int)) → kraw ks i = 0) := Lib.hid kraw_miss
  clear hu hks
  generalize kraw ks i = r at HH HM ⊢
  obtain ⟨n, hnl⟩ : ∃ n, ks.length = n := ⟨_, rfl⟩
  rw [hnl] at HU hn HM ⊢
  clear hnl
  go_enter Try.func36, Try.ntmps36
  go_wp2
  go_loopw [6, 9] (fun _ s9 wr => ∃ k : Nat, k ≤ n ∧ s9 = .int .i64 k ∧ Hid (∀ (j : Nat) (y : Int × Int), j < k → ks[j]? = some y → y.1 ≠ (i : Int)) ∧ Hid (Below w.heap.size w wr)) (fun _ s9 _ => n - (intOf s9).toNat)
  case atStart => exact ⟨0, Nat.zero_le _, rfl, (fun j y hj => absurd hj (Nat.not_lt_zero _) : ∀ (j : Nat) (y : Int × Int), j < 0 → ks[j]? = some y → y.1 ≠ (i : Int)), Below.refl _ _⟩
  case round =>
    obtain ⟨k, hk, rfl, HN, HB⟩ := hrel
    by_cases hlt : k < n
    · obtain ⟨b, off, x, rfl, hx, c0, c1⟩ := kp_at (HU.out.below HB.out) hlt
      by_cases hxi : x.1 = (i : Int)
      · have HR := Lib.hid (HH.out k x HN.out hx hxi)
        clear hx
        obtain ⟨x1, x2⟩ := x
        dsimp only at hxi c0 c1 HR
        subst hxi
        go_wp2
        go_ret
        exact ⟨congrArg (fun z => Ending.returned (.int .i64 z)) HR.out.symm, bnext HB.out (alloc_below _ _)⟩
      · have HX := Lib.hid hx
        clear hx
        obtain ⟨x1, x2⟩ := x
        dsimp only at hxi c0 c1
        go_wp2
        go_roundw
        case rel => exact ⟨k + 1, by omega, by go_num, (Lib.hid fun j y hj hy => by
          rcases Nat.lt_or_ge j k with h | h
          · exact HN.out j y h hy
          · obtain rfl : j = k := by omega
            rw [HX.out] at hy
            rw [← Option.some.inj hy]
            exact hxi : Hid (∀ (j : Nat) (y : Int × Int), j < k + 1 → ks[j]? = some y → y.1 ≠ (i : Int))), bnext HB.out (alloc_below _ _)⟩
        case measure => simp [intOf]; omega
    · obtain rfl : k = n := by omega
      go_wp2
      go_ret
      exact ⟨congrArg (fun z => Ending.returned (.int .i64 z)) (HM.out HN.out).symm, HB.out⟩
set_option maxRecDepth 100000 in
set_option maxHeartbeats 2000000 in
theorem filesRight_c {S : Nat → Prop} {D : PD} {v : Value} {w : World} (h : DkIn S w v D) : Calls Try.prog 27 #[v] w fun e w' => e = .returned (.bool true) ∧ Below w.heap.size w w' := by
  obtain ⟨vf, vn, vk, vm, rfl, hat⟩ := h.at_
  obtain ⟨A1, c1, A2, c2, A3, c3, A4, c4, rfl, rfl, rfl, rfl⟩ := hat.forms
  have HF := Lib.hid hat.f
  have hn := h.inv.f256
  have h1 := h.inv.next1
  have h2 := h.inv.next2
  obtain ⟨q, hq⟩ : ∃ q : Int, ((D.quota : Nat) : Int) = q := ⟨_, rfl⟩
  obtain ⟨x, hx⟩ : ∃ q : Int, ((D.next : Nat) : Int) = q := ⟨_, rfl⟩
  have hx1 : (1 : Int) ≤ x := by omega
  have hx2 : ¬ (1099511627776 : Int) < x := by omega
  have HO : Hid (∀ (k : Nat) (g : PF), D.files[k]? = some g → ((g.id : Nat) : Int) < x ∧ g.sure ≤ g.bytes.length) := Lib.hid fun k g hg => by
    obtain ⟨_, b, c, _⟩ := h.inv.fok g (List.mem_of_getElem? hg)
    exact ⟨by omega, c⟩
  have HZ : Hid (∀ g : PF, D.files[0]? = some g → 0 < g.id) := Lib.hid fun g hg => (h.inv.fok g (List.mem_of_getElem? hg)).1
  have HS : Hid (∀ (k : Nat) (g g' : PF), D.files[k]? = some g → D.files[k + 1]? = some g' → g.id < g'.id) := Lib.hid fun k g g' hg hg' => by
    have := (List.pairwise_iff_getElem.1 h.inv.fsort) _ _ (List.getElem?_eq_some_iff.1 hg).1 (List.getElem?_eq_some_iff.1 hg').1 (Nat.lt_succ_self k)
    rw [(List.getElem?_eq_some_iff.1 hg).2, (List.getElem?_eq_some_iff.1 hg').2] at this
    exact this
  rw [hq, hx]
  generalize D.names.length = n2
  generalize D.kept.length = n3
  generalize D.moves.length = n4
  clear hat hq hx h h1 h2
  obtain ⟨l, hl⟩ : ∃ l, D.files = l := ⟨_, rfl⟩
  rw [hl] at HF hn HO HZ HS ⊢
  clear hl
  obtain ⟨n, hnl⟩ : ∃ n, l.length = n := ⟨_, rfl⟩
  have HN := Lib.hid hnl
  rw [hnl] at hn ⊢
  clear hnl
  obtain ⟨W0, hW0⟩ : ∃ W0, W0 = w.alloc (.cells #[.int .i64 q, .slice A1 n c1, .slice A2 n2 c2, .slice A3 n3 c3, .slice A4 n4 c4, .int .i64 x] 29) := ⟨_, rfl⟩
  have HW := Lib.hid hW0
  have H0 : Hid (Below w.heap.size w W0) := Lib.hid (by rw [hW0]; exact alloc_below _ _)
  have H5 : Hid (w.heap.size < W0.heap.size ∧ W0.cell? ⟨w.heap.size, 5, none⟩ = some (.int .i64 x)) := Lib.hid ⟨by rw [hW0]; simp, by rw [hW0, cell_of_row _ _ _ _ _ _ (heap_alloc_new w _)]; rfl⟩
  clear hW0
  have d1 : decide ((256 : Int) < (n : Int)) = false := by simp; omega
  have d2 : decide (x < 1) = false := by simp; omega
  have d3 : decide ((1099511627776 : Int) < x) = false := by simp; omega
  go_enter Try.func27, Try.ntmps27
  go_wp2
  go_loopw [3, 5, 23] (fun s p i wr => ∃ k r : Nat, k ≤ n ∧ s = .int .i64 r ∧ i = .int .i64 k ∧ Hid (∀ g : PF, l[k]? = some g → r < g.id) ∧ Hid (Below W0.heap.size W0 wr)) (fun _ _ i _ => n - (intOf i).toNat)
  case atStart => exact ⟨0, 0, Nat.zero_le _, rfl, rfl, HZ.out, by rw [HW.out]; exact Below.refl _ _⟩
  case round =>
    obtain ⟨k, r, hk, rfl, rfl, HR, HB⟩ := hrel
    by_cases hlt : k < n
    · obtain ⟨A', cap', hv, _, hxx⟩ := FsOut.below HF.out (H0.out.trans (HB.out.mono H0.out.size))
      obtain ⟨b, o, hA, _, hf⟩ := hxx (by rw [HN.out]; omega)
      injection hv with h1 _ _
      subst h1
      subst hA
      obtain ⟨g, hg, y1, ⟨u, y2, hu2⟩, y3⟩ := hf k (by rw [HN.out]; exact hlt)
      obtain ⟨Z, z, rfl, _, _⟩ := id hu2
      have c5 : wr.cell? ⟨w.heap.size, 5, none⟩ = some (.int .i64 x) := (HB.out.cell (p := ⟨w.heap.size, 5, none⟩) H5.out.1).trans H5.out.2
      have hwl : w.heap.size < wr.heap.size := Nat.lt_of_lt_of_le H5.out.1 HB.out.size
      have hr := HR.out g hg
      obtain ⟨hgx, hsl⟩ := HO.out k g hg
      have HG := Lib.hid hg
      have HS2 : Hid (∀ g' : PF, l[k + 1]? = some g' → g.id < g'.id) := Lib.hid fun g' hg' => HS.out k g g' hg hg'
      obtain ⟨d, hd⟩ : ∃ d, g.bytes.length = d := ⟨_, rfl⟩
      rw [hd] at hsl y2
      obtain ⟨gi, hgi⟩ : ∃ d, g.id = d := ⟨_, rfl⟩
      rw [hgi] at hr hgx y1 HS2
      obtain ⟨gs, hgs⟩ : ∃ d, g.sure = d := ⟨_, rfl⟩
      rw [hgs] at hsl y3
      have hns : ¬ ((gs : Nat) : Int) < 0 := by omega
      clear hd hg hu2 hf hxx hgi hgs
      go_wp2
      go_roundw
      case rel =>
        refine ⟨_, _, _, _, ⟨k + 1, by omega, gi, ?_, ?_, HS2, bnext HB.out (alloc_below _ _)⟩, rfl, rfl, rfl, rfl⟩
        · rfl
        · go_num
      case measure => simp [intOf]; omega
    · obtain rfl : k = n := by omega
      go_wp2
      go_ret
      exact ⟨rfl, H0.out.trans (HB.out.mono H0.out.size)⟩
end Go.Proofs.Ytmkjjcogheidmaa.DP
