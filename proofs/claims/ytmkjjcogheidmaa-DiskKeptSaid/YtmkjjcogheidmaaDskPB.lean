/-
  Contracts of the program of layer 6: the comparisons, the library's BinarySearchFunc at names and at files, find, fileByID.
-/
import Derived.Test.YtmkjjcogheidmaaDskPA
set_option linter.unusedSimpArgs false
set_option linter.unusedVariables false
namespace Go.Proofs.Ytmkjjcogheidmaa.DP
open Go.RowKit
set_option maxRecDepth 100000 in
theorem cmpName_c (nm s : ByteArray) (id : Int) (w : World) : Calls Try.prog 55 #[.agg #[.string nm, .int .i64 id], .string s] w fun e w' => e = .returned (.int .i64 (Lib.compareBytes (sl nm) (sl s))) ∧ Below w.heap.size w w' := by
  go_enter Try.func55, Try.ntmps55
  go_wp2_with (go_at_call 56; refine (Try.strings_Compare _ _ _).mono ?_; rintro e w' ⟨rfl, rfl⟩)
  go_ret
  exact ⟨rfl, alloc_below _ _⟩
set_option maxRecDepth 100000 in
theorem cmpFile_c (id i : Int) (u : Value) (sure : Int) (w : World) : Calls Try.prog 52 #[.agg #[.int .i64 id, u, .int .i64 sure], .int .i64 i] w fun e w' => e = .returned (.int .i64 (Lib.compareInt id i)) ∧ Below w.heap.size w w' := by
  go_enter Try.func52, Try.ntmps52
  go_wp2_with (go_at_call 53; refine (Try.cmp_Compare_int _ _ _).mono ?_; rintro e w' ⟨rfl, rfl⟩)
  go_ret
  exact ⟨rfl, alloc_below _ _⟩
/-- What a search of a name answers: its place, and whether it is there. -/
theorem eg_name : ∀ args w, (callFunc 55 args).run Try.prog w = .ok (.enter 55 args) w := enters_of Try.func55 (by kernel_rfl) rfl
theorem eg_file : ∀ args w, (callFunc 52 args).run Try.prog w = .ok (.enter 52 args) w := enters_of Try.func52 (by kernel_rfl) rfl
theorem nm_at {S : Nat → Prop} {w : World} {A : Option Addr} {n c : Nat} {l : List PN} (h : NsOut S w (.slice A n c) l) {k : Nat} (hk : k < n) : ∃ b off x, A = some ⟨b, off, none⟩ ∧ l[k]? = some x ∧ w.cell? ⟨b, off + k * 2, none⟩ = some (.string x.name) ∧ w.cell? ⟨b, off + k * 2 + 1, none⟩ = some (.int .i64 (x.id : Nat)) := by
  obtain ⟨A', c', hv, _, hx⟩ := h
  injection hv with h1 h2 _
  subst h1 h2
  obtain ⟨b, off, hA, _, hf⟩ := hx (by omega)
  obtain ⟨x, h1, h2, h3⟩ := hf k hk
  exact ⟨b, off, x, hA, h1, h2, h3⟩
set_option maxRecDepth 100000 in
set_option maxHeartbeats 2000000 in
theorem searchName_c {S : Nat → Prop} {w : World} {A : Option Addr} {n c : Nat} {l : List PN} {s : ByteArray} (h : NsOut S w (.slice A n c) l) (hn : n ≤ 1000000) (hs : NS l) (fd : Bool) (hfd : fd = true ↔ nHas s l) :
    Calls Try.prog 54 #[.slice A n c, .string s, .func (.func 55) #[] #[]] w fun e w' => e = .returned (.tuple #[.int .i64 (nAt s l : Nat), .bool fd]) ∧ Below w.heap.size w w' := by
  have eg := eg_name
  have hl : l.length = n := by obtain ⟨_, _, hv, _⟩ := h; injection hv with _ h2 _; exact h2.symm
  obtain ⟨p, hp⟩ : ∃ p, nAt s l = p := ⟨_, rfl⟩
  have hpn : p ≤ n := by rw [← hp, ← hl]; exact nAt_le s l
  have HI : Hid (∀ k x, l[k]? = some x → (slt x.name s ↔ k < p)) := by rw [← hp]; exact Lib.hid fun k x hx => nAt_iff hs hx
  have HF : Hid (fd = true ↔ ∃ x, l[p]? = some x ∧ x.name = s) := by rw [← hp]; exact Lib.hid (hfd.trans (nHas_iff hs))
  have HN := Lib.hid h
  have HL := Lib.hid hl
  rw [hp]
  clear h hs hfd hp hl
  go_enter Try.func54, Try.ntmps54
  go_wp2
  go_loopw [9, 10] (fun s9 s10 wr => ∃ lo hi : Nat, s9 = .int .i64 lo ∧ s10 = .int .i64 hi ∧ lo ≤ p ∧ p ≤ hi ∧ hi ≤ n ∧ Hid (Below w.heap.size w wr)) (fun s9 s10 _ => (intOf s10).toNat - (intOf s9).toNat)
  case atStart => exact ⟨0, n, rfl, rfl, Nat.zero_le _, hpn, Nat.le_refl _, Below.refl _ _⟩
  case round =>
    obtain ⟨lo, hi, rfl, rfl, hlo, hhi, hin, HB⟩ := hrel
    by_cases hlt : lo < hi
    · obtain ⟨b, off, x, rfl, hx, c0, c1⟩ := nm_at (HN.out.below HB.out) (k := (lo + hi) / 2) (by omega)
      have hc := cmpName_c x.name s (x.id : Nat)
      by_cases hxs : slt x.name s
      · have h1 := (HI.out _ _ hx).1 hxs
        have hcv : Lib.compareBytes (sl x.name) (sl s) < 0 := cmpB_lt.2 hxs
        generalize Lib.compareBytes (sl x.name) (sl s) = cv at hc hcv
        clear hx
        go_wp2_with (go_at_fn 55; refine (hc _).mono ?_; rintro e w' ⟨rfl, hb⟩)
        go_roundw
        case rel => exact ⟨(lo + hi) / 2 + 1, hi, by rw [show ((lo : Int) + (hi : Int)) / 2 + 1 = (((lo + hi) / 2 + 1 : Nat) : Int) by omega], rfl, by omega, hhi, hin, bnext HB.out hb⟩
        case measure => simp [intOf]; omega
      · have h1 : ¬ (lo + hi) / 2 < p := fun hc => hxs ((HI.out _ _ hx).2 hc)
        have hcv : ¬ Lib.compareBytes (sl x.name) (sl s) < 0 := fun hc => hxs (cmpB_lt.1 hc)
        generalize Lib.compareBytes (sl x.name) (sl s) = cv at hc hcv
        clear hx
        go_wp2_with (go_at_fn 55; refine (hc _).mono ?_; rintro e w' ⟨rfl, hb⟩)
        go_roundw
        case rel => exact ⟨lo, (lo + hi) / 2, rfl, by rw [show ((lo : Int) + (hi : Int)) / 2 = (((lo + hi) / 2 : Nat) : Int) by omega], hlo, by omega, by omega, bnext HB.out hb⟩
        case measure => simp [intOf]; omega
    · obtain rfl : p = lo := by omega
      by_cases hpl : p < n
      · obtain ⟨b, off, x, rfl, hx, c0, c1⟩ := nm_at (HN.out.below HB.out) (k := p) hpl
        have hc := cmpName_c x.name s (x.id : Nat)
        by_cases hxs : x.name = s
        · have hcv : Lib.compareBytes (sl x.name) (sl s) = 0 := cmpB_eq.2 (by rw [hxs])
          obtain rfl : fd = true := HF.out.2 ⟨x, hx, hxs⟩
          rw [hcv] at hc
          clear hx hcv hxs
          go_wp2_with (go_at_fn 55; refine (hc _).mono ?_; rintro e w' ⟨rfl, hb⟩)
          go_ret2
          exact ⟨rfl, bnext HB.out hb⟩
        · have hcv : ¬ Lib.compareBytes (sl x.name) (sl s) = 0 := fun hc => hxs (sl_inj (cmpB_eq.1 hc))
          obtain rfl : fd = false := by
            cases fd with
            | false => rfl
            | true => obtain ⟨y, hy, e⟩ := HF.out.1 rfl; rw [hx] at hy; cases hy; exact absurd e hxs
          generalize Lib.compareBytes (sl x.name) (sl s) = cv at hc hcv
          have hcz : (cv == 0) = false := by simpa using hcv
          clear hx hxs
          go_wp2_with (go_at_fn 55; refine (hc _).mono ?_; rintro e w' ⟨rfl, hb⟩)
          go_ret2
          exact ⟨rfl, bnext HB.out hb⟩
      · obtain rfl : fd = false := by
          cases fd with
          | false => rfl
          | true => obtain ⟨y, hy, e⟩ := HF.out.1 rfl; have := (List.getElem?_eq_some_iff.1 hy).1; have := HL.out; omega
        go_wp2
        go_ret2
        exact ⟨rfl, HB.out⟩
theorem cmpI_lt {a b : Nat} : Lib.compareInt a b < 0 ↔ a < b := by unfold Lib.compareInt; split <;> (try split) <;> omega
theorem cmpI_eq {a b : Nat} : Lib.compareInt a b = 0 ↔ a = b := by unfold Lib.compareInt; split <;> (try split) <;> omega
theorem fl_at {S : Nat → Prop} {w : World} {A : Option Addr} {n c : Nat} {l : List PF} (h : FsOut S w (.slice A n c) l) {k : Nat} (hk : k < n) : ∃ b off x u, A = some ⟨b, off, none⟩ ∧ l[k]? = some x ∧ w.cell? ⟨b, off + k * 3, none⟩ = some (.int .i64 (x.id : Nat)) ∧ w.cell? ⟨b, off + k * 3 + 1, none⟩ = some u ∧ u.oneCell' = true ∧ w.cell? ⟨b, off + k * 3 + 2, none⟩ = some (.int .i64 (x.sure : Nat)) := by
  obtain ⟨A', c', hv, _, hx⟩ := h
  injection hv with h1 h2 _
  subst h1 h2
  obtain ⟨b, off, hA, _, hf⟩ := hx (by omega)
  obtain ⟨x, h1, h2, ⟨u, h3, ⟨Z, z, hu, _⟩⟩, h4⟩ := hf k hk
  exact ⟨b, off, x, u, hA, h1, h2, h3, by rw [hu]; rfl, h4⟩
set_option maxRecDepth 100000 in
set_option maxHeartbeats 2000000 in
theorem searchFile_c {S : Nat → Prop} {w : World} {A : Option Addr} {n c : Nat} {l : List PF} {s : Nat} (h : FsOut S w (.slice A n c) l) (hn : n ≤ 1000000) (hs : l.Pairwise fun a b => a.id < b.id) (fd : Bool) (hfd : fd = true ↔ ∃ x ∈ l, x.id = s) :
    Calls Try.prog 51 #[.slice A n c, .int .i64 (s : Nat), .func (.func 52) #[] #[]] w fun e w' => e = .returned (.tuple #[.int .i64 (fAt s l : Nat), .bool fd]) ∧ Below w.heap.size w w' := by
  have eg := eg_file
  have hl : l.length = n := by obtain ⟨_, _, hv, _⟩ := h; injection hv with _ h2 _; exact h2.symm
  obtain ⟨p, hp⟩ : ∃ p, fAt s l = p := ⟨_, rfl⟩
  have hpn : p ≤ n := by rw [← hp, ← hl]; exact fAt_le s l
  have HI : Hid (∀ k x, l[k]? = some x → (x.id < s ↔ k < p)) := by rw [← hp]; exact Lib.hid fun k x hx => fAt_iff hs hx
  have HF : Hid (fd = true ↔ ∃ x, l[p]? = some x ∧ x.id = s) := by rw [← hp]; exact Lib.hid (hfd.trans (fHas_iff hs))
  have HN := Lib.hid h
  have HL := Lib.hid hl
  rw [hp]
  clear h hs hfd hp hl
  go_enter Try.func51, Try.ntmps51
  go_wp2
  go_loopw [9, 10] (fun s9 s10 wr => ∃ lo hi : Nat, s9 = .int .i64 lo ∧ s10 = .int .i64 hi ∧ lo ≤ p ∧ p ≤ hi ∧ hi ≤ n ∧ Hid (Below w.heap.size w wr)) (fun s9 s10 _ => (intOf s10).toNat - (intOf s9).toNat)
  case atStart => exact ⟨0, n, rfl, rfl, Nat.zero_le _, hpn, Nat.le_refl _, Below.refl _ _⟩
  case round =>
    obtain ⟨lo, hi, rfl, rfl, hlo, hhi, hin, HB⟩ := hrel
    by_cases hlt : lo < hi
    · obtain ⟨b, off, x, u, rfl, hx, c0, c1, cu, c2⟩ := fl_at (HN.out.below HB.out) (k := (lo + hi) / 2) (by omega)
      have hc := fun w => cmpFile_c (x.id : Nat) (s : Nat) u (x.sure : Nat) w
      by_cases hxs : x.id < s
      · have h1 := (HI.out _ _ hx).1 hxs
        have hcv : Lib.compareInt (x.id : Nat) (s : Nat) < 0 := cmpI_lt.2 hxs
        generalize Lib.compareInt (x.id : Nat) (s : Nat) = cv at hc hcv
        clear hx
        go_wp2_with (go_at_fn 52; refine (hc _).mono ?_; rintro e w' ⟨rfl, hb⟩)
        go_roundw
        case rel => exact ⟨(lo + hi) / 2 + 1, hi, by rw [show ((lo : Int) + (hi : Int)) / 2 + 1 = (((lo + hi) / 2 + 1 : Nat) : Int) by omega], rfl, by omega, hhi, hin, bnext HB.out hb⟩
        case measure => simp [intOf]; omega
      · have h1 : ¬ (lo + hi) / 2 < p := fun hc => hxs ((HI.out _ _ hx).2 hc)
        have hcv : ¬ Lib.compareInt (x.id : Nat) (s : Nat) < 0 := fun hc => hxs (cmpI_lt.1 hc)
        generalize Lib.compareInt (x.id : Nat) (s : Nat) = cv at hc hcv
        clear hx
        go_wp2_with (go_at_fn 52; refine (hc _).mono ?_; rintro e w' ⟨rfl, hb⟩)
        go_roundw
        case rel => exact ⟨lo, (lo + hi) / 2, rfl, by rw [show ((lo : Int) + (hi : Int)) / 2 = (((lo + hi) / 2 : Nat) : Int) by omega], hlo, by omega, by omega, bnext HB.out hb⟩
        case measure => simp [intOf]; omega
    · obtain rfl : p = lo := by omega
      by_cases hpl : p < n
      · obtain ⟨b, off, x, u, rfl, hx, c0, c1, cu, c2⟩ := fl_at (HN.out.below HB.out) (k := p) hpl
        have hc := fun w => cmpFile_c (x.id : Nat) (s : Nat) u (x.sure : Nat) w
        by_cases hxs : x.id = s
        · have hcv : Lib.compareInt (x.id : Nat) (s : Nat) = 0 := cmpI_eq.2 hxs
          obtain rfl : fd = true := HF.out.2 ⟨x, hx, hxs⟩
          rw [hcv] at hc
          clear hx hcv hxs
          go_wp2_with (go_at_fn 52; refine (hc _).mono ?_; rintro e w' ⟨rfl, hb⟩)
          go_ret2
          exact ⟨rfl, bnext HB.out hb⟩
        · have hcv : ¬ Lib.compareInt (x.id : Nat) (s : Nat) = 0 := fun hc => hxs (cmpI_eq.1 hc)
          obtain rfl : fd = false := by
            cases fd with
            | false => rfl
            | true => obtain ⟨y, hy, e⟩ := HF.out.1 rfl; rw [hx] at hy; cases hy; exact absurd e hxs
          generalize Lib.compareInt (x.id : Nat) (s : Nat) = cv at hc hcv
          have hcz : (cv == 0) = false := by simpa using hcv
          clear hx hxs
          go_wp2_with (go_at_fn 52; refine (hc _).mono ?_; rintro e w' ⟨rfl, hb⟩)
          go_ret2
          exact ⟨rfl, bnext HB.out hb⟩
      · obtain rfl : fd = false := by
          cases fd with
          | false => rfl
          | true => obtain ⟨y, hy, e⟩ := HF.out.1 rfl; have := (List.getElem?_eq_some_iff.1 hy).1; have := HL.out; omega
        go_wp2
        go_ret2
        exact ⟨rfl, HB.out⟩
set_option maxRecDepth 100000 in
set_option maxHeartbeats 2000000 in
theorem find_c {S : Nat → Prop} {w : World} {A : Option Addr} {n c : Nat} {l : List PN} {s : ByteArray} (h : NsOut S w (.slice A n c) l) (hn : n ≤ 1000000) (hs : NS l) (fd : Bool) (hfd : fd = true ↔ nHas s l) :
    Calls Try.prog 46 #[.slice A n c, .string s] w fun e w' => e = .returned (.tuple #[.int .i64 (nAt s l : Nat), .bool fd]) ∧ Below w.heap.size w w' := by
  have hc := searchName_c h hn hs fd hfd
  clear h hs hfd
  generalize nAt s l = p at hc ⊢
  go_enter Try.func46, Try.ntmps46
  go_wp2_with (go_at_call 54; refine hc.mono ?_; rintro e w' ⟨rfl, hb⟩)
  go_ret2
  exact ⟨rfl, hb⟩
/-- The file of a number, where it is there. -/
def FPtr (A : Option Addr) (p : Nat) (e : Ending) : Prop := ∃ b off, A = some ⟨b, off, none⟩ ∧ e = .returned (.pointer (some ⟨b, off + p * 3, none⟩))
set_option maxRecDepth 100000 in
set_option maxHeartbeats 2000000 in
theorem byID_yes {S : Nat → Prop} {w : World} {q x : Int} {A1 A2 A3 A4 : Option Addr} {n1 c1 n2 c2 n3 c3 n4 c4 : Nat} {l : List PF} {i : Nat} (h : FsOut S w (.slice A1 n1 c1) l) (hn : n1 ≤ 1000000) (hs : l.Pairwise fun a b => a.id < b.id) (hi : ∃ x ∈ l, x.id = i) :
    Calls Try.prog 40 #[.agg #[.int .i64 q, .slice A1 n1 c1, .slice A2 n2 c2, .slice A3 n3 c3, .slice A4 n4 c4, .int .i64 x], .int .i64 (i : Nat)] w fun e w' => FPtr A1 (fAt i l) e ∧ Below w.heap.size w w' := by
  have hc := fun W (hb : Below w.heap.size w W) => searchFile_c (h.below hb) hn hs true ⟨fun _ => hi, fun _ => rfl⟩
  have hl : l.length = n1 := by obtain ⟨_, _, hv, _⟩ := h; injection hv with _ h2 _; exact h2.symm
  have hp : fAt i l < n1 := by obtain ⟨y, hy, _⟩ := (fHas_iff hs).1 hi; rw [← hl]; exact (List.getElem?_eq_some_iff.1 hy).1
  obtain ⟨b, off, rfl⟩ : ∃ b off, A1 = some ⟨b, off, none⟩ := by obtain ⟨b, off, _, _, e, _⟩ := fl_at h hp; exact ⟨b, off, e⟩
  clear h hs hi hl
  generalize fAt i l = p at hc hp ⊢
  go_enter Try.func40, Try.ntmps40
  go_wp2_with (go_at_call 51; refine (hc _ (alloc_below _ _)).mono ?_; rintro e w1 ⟨rfl, hb⟩; obtain ⟨y1, y2⟩ := bcl hb)
  go_ret
  exact ⟨⟨b, off, rfl, rfl⟩, (alloc_below _ _).trans (hb.mono (by simp))⟩
set_option maxRecDepth 100000 in
set_option maxHeartbeats 2000000 in
theorem byID_no {S : Nat → Prop} {w : World} {q x : Int} {A1 A2 A3 A4 : Option Addr} {n1 c1 n2 c2 n3 c3 n4 c4 : Nat} {l : List PF} {i : Nat} (h : FsOut S w (.slice A1 n1 c1) l) (hn : n1 ≤ 1000000) (hs : l.Pairwise fun a b => a.id < b.id) (hi : ¬ ∃ x ∈ l, x.id = i) :
    Calls Try.prog 40 #[.agg #[.int .i64 q, .slice A1 n1 c1, .slice A2 n2 c2, .slice A3 n3 c3, .slice A4 n4 c4, .int .i64 x], .int .i64 (i : Nat)] w fun e w' => e = .returned (.pointer none) ∧ Below w.heap.size w w' := by
  have hc := fun W (hb : Below w.heap.size w W) => searchFile_c (h.below hb) hn hs false ⟨fun h => absurd h (by decide), fun h => absurd h hi⟩
  clear h hs hi
  generalize fAt i l = p at hc ⊢
  go_enter Try.func40, Try.ntmps40
  go_wp2_with (go_at_call 51; refine (hc _ (alloc_below _ _)).mono ?_; rintro e w1 ⟨rfl, hb⟩; obtain ⟨y1, y2⟩ := bcl hb)
  go_ret
  exact ⟨rfl, (alloc_below _ _).trans (hb.mono (by simp))⟩
end Go.Proofs.Ytmkjjcogheidmaa.DP
