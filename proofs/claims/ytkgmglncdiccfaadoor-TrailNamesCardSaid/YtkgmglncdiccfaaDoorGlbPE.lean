/-
  Contracts of the program's functions of layer 15: piece and pieces, together.
-/
import Derived.Test.YtkgmglncdiccfaaDoorGlbPD
set_option linter.unusedSimpArgs false
set_option linter.unusedVariables false
namespace Go.Proofs.YtkgmglncdiccfaaDoor.GP
open Go.RowKit
/-- piece keeps its word for texts of up to so many bytes. -/
def PcC (n : Nat) : Prop := ∀ (rb : Nat) (c : Nat) (t : List Nat) (o d : Int), 0 ≤ o ∧ o ≤ d → t.length + 1 ≤ n → (∀ x ∈ c :: t, x < 256) → ¬ (c = 44 ∨ c = 125) → o + t.length + 1 ≤ 900 → d ≤ 900 → ∀ (w : World), Rd w rb (c :: t) o d →
    Calls Tryd.prog 45 #[.pointer (some ⟨rb, 0, none⟩)] w fun e w' => ∃ pv ok, e = .returned (.tuple #[pv, .bool ok]) ∧ PcI w.heap.size w' rb (c :: t) o d pv ok ∧ w.grownBy w' (some rb)
theorem PcI.form {B : Nat} {w' : World} {rb : Nat} {s : List Nat} {o d : Int} {pv : Value} {ok : Bool} (h : PcI B w' rb s o d pv ok) : ∃ (k : Int) (S : ByteArray) (A1 A2 : Option Addr) (n1 c1 n2 c2 : Nat), pv = .agg #[.int .i64 k, .string S, .slice A1 n1 c1, .slice A2 n2 c2] := by
  cases ok with
  | true =>
    obtain ⟨u, r, hu, _⟩ := h
    obtain ⟨k, S, A1, A2, n1, c1, n2, c2, rfl, _⟩ := hu.cells
    exact ⟨_, _, _, _, _, _, _, _, rfl⟩
  | false =>
    obtain ⟨_, _, rfl⟩ := h
    exact ⟨_, _, _, _, _, _, _, _, rfl⟩
/-- Behind a store into a block of the call's own. -/
theorem PcI.put {B M b : Nat} {w' w'' : World} {rb : Nat} {s : List Nat} {o d : Int} {pv : Value} {ok : Bool} {cs : List Value} (h : PcI M w' rb s o d pv ok) (hp : Put w' w'' b cs) (hb : b < M) (hn : rb ≠ b) (hB : B ≤ M) : PcI B w'' rb s o d pv ok := by
  cases ok with
  | true =>
    obtain ⟨u, r, hu, hr, h1, h2, h3⟩ := h
    refine ⟨u, r, ?_, hr.put hp hn, h1, h2, h3⟩
    have hk := hu.keep (keepG hp.grown hb)
    cases hk with
    | atom a rv h => exact .atom a rv (own_mono h hB)
    | br ws wv h => exact .br ws wv (h.mono hB)
  | false =>
    obtain ⟨h1, ⟨r, o', d', hr⟩, h3⟩ := h
    exact ⟨h1, ⟨r, o', d', hr.put hp hn⟩, h3⟩
theorem one_at {B : Nat} {w' : World} {rb : Nat} {c : Nat} {t : List Nat} {o d : Int} {k : Nat} {a : GA} (hod : 0 ≤ o ∧ o ≤ d) (ha : gAt (c :: t) = some (a, 1)) (hc : ¬ (c = 44 ∨ c = 125)) (h2 : c ≠ 123) (hk : a.kind = k) (htx : a.txt = [c]) (hrw : a.rows = []) (hb : ∀ x ∈ t, x < 256) (hr : Rd w' rb t o d) :
    PcI B w' rb (c :: t) o d (.agg #[.int .i64 (k : Nat), .string (str [c]), .slice none 0 0, .slice none 0 0]) true := by
  refine ⟨.atom a .nil, t, ?_, ?_, ?_, ?_, hb⟩
  · have := Un.atom (B := B) (w := w') a (.slice none 0 0) (by rw [hrw]; exact RnNew.nil _ _)
    rw [hk, htx] at this
    exact this
  · rw [deep0 hod]
    exact hr
  · rw [gPr_atom hc h2 ha]
    rfl
  · show t.length < (c :: t).length ∧ t.length + 0 ≤ (c :: t).length
    simp
theorem gAt_each (t : List Nat) : gAt (63 :: t) = some (.each, 1) := rfl
theorem gAt_star (t : List Nat) : gAt (42 :: t) = some (.star, 1) := rfl
theorem gAt_one {c : Nat} {t : List Nat} (h : isB c = true) : gAt (c :: t) = some (.one c, 1) := by
  unfold gAt
  simp only
  rw [if_neg (isB_ne h (by decide)), if_neg (isB_ne h (by decide)), if_neg (isB_ne h (by decide)), if_pos h]
theorem gAt_none {c : Nat} {t : List Nat} (h1 : c ≠ 91) (h2 : c ≠ 63) (h3 : c ≠ 42) (h : isB c = false) : gAt (c :: t) = none := by
  unfold gAt
  simp only
  rw [if_neg h1, if_neg h2, if_neg h3, if_neg (by rw [h]; decide)]
set_option maxRecDepth 100000 in
set_option maxHeartbeats 4000000 in
theorem piece_c (n : Nat) (H : BrC n) : PcC (n + 1) := by
  intro rb c t o d hod hs hb hc hol hd w h
  have hlt := h.var.lt
  have HR := Lib.hid h
  have hc256 := hb c (by simp)
  have HMT := Lib.hid (fun x hx => hb x (List.mem_cons_of_mem _ hx))
  obtain ⟨c0, -, -, -, -, -⟩ := h.three
  obtain ⟨hz, hr0⟩ := str_first (t := t) hc256
  have TK := fun (W : World) (hW : Rd W rb (c :: t) o d) => take_c rb (c :: t) o d 1 (by simp) (by simp only [List.length_cons]; omega) hb W hW
  rw [show (c :: t).drop 1 = t from rfl, show (c :: t).take 1 = [c] from rfl] at TK
  have BC := fun (ht : c = 123) (W : World) (hW : Rd W rb (c :: t) o d) => H rb t o d hod (by omega) (by rw [← ht]; exact hb) (by omega) hd W (by rw [← ht]; exact hW)
  have CC := fun (ht : c = 91) (W : World) (hW : Rd W rb (c :: t) o d) => class_c rb t o d hod (by omega) (by rw [← ht]; exact hb) W (by rw [← ht]; exact hW)
  have BY := fun (W : World) => byte_c c hc256 W
  obtain ⟨S, hS⟩ : ∃ S, str (c :: t) = S := ⟨_, rfl⟩
  have hz1 : (0 : Int) < (S.size : Int) := by rw [← hS, str_size]; simp only [List.length_cons]; omega
  obtain ⟨hzS, hS0⟩ : ∃ h : 0 < S.size, (S[0]'h).toNat = c := by subst hS; exact ⟨hz, hr0⟩
  rw [hS] at c0
  have HDX := Lib.hid (show DVar (w.alloc (.cells #[.int .i64 0, .string ⟨#[]⟩, .slice none 0 0, .slice none 0 0] 70)) w.heap.size 4 from DVar.alloc _ _)
  have HBX := Lib.hid (show Below w.heap.size w (w.alloc (.cells #[.int .i64 0, .string ⟨#[]⟩, .slice none 0 0, .slice none 0 0] 70)) from alloc_below _ _)
  have HSX := Lib.hid (show w.heap.size + 1 ≤ (w.alloc (.cells #[.int .i64 0, .string ⟨#[]⟩, .slice none 0 0, .slice none 0 0] 70)).heap.size by simp)
  have HOD := Lib.hid hod; have HC := Lib.hid hc; have HTK := Lib.hid TK; have HBC := Lib.hid BC; have HCC := Lib.hid CC; have HBY := Lib.hid BY
  clear h hr0 hz hS TK BC CC BY H hod hc
  go_enter Tryd.func45, Tryd.ntmps45
  go_upto_region 2 with fail
  obtain ⟨w1, hw1⟩ : ∃ w1, (w.alloc (.cells #[.int .i64 0, .string ⟨#[]⟩, .slice none 0 0, .slice none 0 0] 70)) = w1 := ⟨_, rfl⟩
  rw [hw1] at HDX HBX HSX
  rw [hw1]
  have HR1 := Lib.hid (HR.out.below HBX.out)
  have k0 := cellb HBX.out c0
  have HW1 := Lib.hid hw1
  clear c0 hw1
  by_cases h123 : c = 123
  · subst h123
    go_wp2_with fail
    refine (HBC.out (by trivial) w1 HR1.out).mono ?_; rintro _ w2 ⟨pv, ok, rfl, hpi, hg2⟩
    obtain ⟨kk, SS, A1, A2, n1, c1, n2, c2, rfl⟩ := hpi.form
    have HPI := Lib.hid hpi; have HG2 := Lib.hid (below_grown HBX.out hg2); have HD2 := Lib.hid (dvar_grown hg2 (show w.heap.size ≠ rb by omega) HDX.out)
    clear hpi hg2
    go_wp2_with (refine wpList_put rfl 70 _ _ rfl w.heap.size [.int .i64 kk, .string SS, .slice A1 n1 c1, .slice A2 n2 c2] rfl rfl HD2.out (by kernel_rfl) (by simp [Value.oneCell']) ?_; intro y1 hp; obtain ⟨t0, t1, t2, t3⟩ := hp.at_.four)
    exact bodyPost_ret (v := .tuple #[.agg #[.int .i64 kk, .string SS, .slice A1 n1 c1, .slice A2 n2 c2], .bool ok]) (by simp [results, Tryd.results45, go_sem, t0, t1, t2, t3]) rfl ⟨_, _, rfl, HPI.out.put hp (by have := HSX.out; omega) (by omega) (by have := HSX.out; omega), grown_then HG2.out hp.grown (Nat.le_refl _)⟩
  · have i123 : ¬ (c : Int) = 123 := by omega
    by_cases h91 : c = 91
    · subst h91
      go_wp2_with fail
      refine (HCC.out (by trivial) w1 HR1.out).mono ?_; rintro _ w2 ⟨pv, ok, rfl, hpi, hg2⟩
      obtain ⟨kk, SS, A1, A2, n1, c1, n2, c2, rfl⟩ := hpi.form
      have HPI := Lib.hid hpi; have HG2 := Lib.hid (below_grown HBX.out hg2); have HD2 := Lib.hid (dvar_grown hg2 (show w.heap.size ≠ rb by omega) HDX.out)
      clear hpi hg2
      go_wp2_with (refine wpList_put rfl 70 _ _ rfl w.heap.size [.int .i64 kk, .string SS, .slice A1 n1 c1, .slice A2 n2 c2] rfl rfl HD2.out (by kernel_rfl) (by simp [Value.oneCell']) ?_; intro y1 hp; obtain ⟨t0, t1, t2, t3⟩ := hp.at_.four)
      exact bodyPost_ret (v := .tuple #[.agg #[.int .i64 kk, .string SS, .slice A1 n1 c1, .slice A2 n2 c2], .bool ok]) (by simp [results, Tryd.results45, go_sem, t0, t1, t2, t3]) rfl ⟨_, _, rfl, HPI.out.put hp (by have := HSX.out; omega) (by omega) (by have := HSX.out; omega), grown_then HG2.out hp.grown (Nat.le_refl _)⟩
    · have i91 : ¬ (c : Int) = 91 := by omega
      by_cases h63 : c = 63
      · subst h63
        have TK1 := Lib.hid (HTK.out w1 HR1.out)
        have HR2 := Lib.hid (HR1.out.set0 (s' := t))
        have HD2 := Lib.hid (HDX.out.set (b' := rb) (o := 0) (.string (str t)))
        have HG2 := Lib.hid (below_grown HBX.out (grown_set1 w1 rb 0 (.string (str t))))
        obtain ⟨T1, hT1⟩ : ∃ T1, str [63] = T1 := ⟨_, rfl⟩
        rw [hT1] at TK1
        have HT1 := Lib.hid hT1
        clear hT1
        go_wp2_with fail
        refine TK1.out.mono ?_; rintro _ w2 ⟨rfl, rfl⟩
        generalize (w1.setCell ⟨rb, 0, none⟩ (.string (str t))) = w2 at HR2 HD2 HG2 ⊢
        go_wp2_with (refine wpList_put rfl 70 _ _ rfl w.heap.size [.int .i64 1, .string T1, .slice none 0 0, .slice none 0 0] rfl rfl HD2.out (by kernel_rfl) (by simp [Value.oneCell']) ?_; intro y1 hp; obtain ⟨t0, t1, t2, t3⟩ := hp.at_.four)
        exact bodyPost_ret (v := .tuple #[.agg #[.int .i64 1, .string T1, .slice none 0 0, .slice none 0 0], .bool true]) (by simp [results, Tryd.results45, go_sem, t0, t1, t2, t3]) rfl ⟨_, _, rfl, by rw [← HT1.out]; exact one_at (k := 1) HOD.out (gAt_each t) HC.out (by decide) rfl rfl rfl HMT.out (HR2.out.put hp (by omega)), grown_then HG2.out hp.grown (Nat.le_refl _)⟩
      · have i63 : ¬ (c : Int) = 63 := by omega
        by_cases h42 : c = 42
        · subst h42
          have TK1 := Lib.hid (HTK.out w1 HR1.out)
          have HR2 := Lib.hid (HR1.out.set0 (s' := t))
          have HD2 := Lib.hid (HDX.out.set (b' := rb) (o := 0) (.string (str t)))
          have HG2 := Lib.hid (below_grown HBX.out (grown_set1 w1 rb 0 (.string (str t))))
          obtain ⟨T1, hT1⟩ : ∃ T1, str [42] = T1 := ⟨_, rfl⟩
          rw [hT1] at TK1
          have HT1 := Lib.hid hT1
          clear hT1
          go_wp2_with fail
          refine TK1.out.mono ?_; rintro _ w2 ⟨rfl, rfl⟩
          generalize (w1.setCell ⟨rb, 0, none⟩ (.string (str t))) = w2 at HR2 HD2 HG2 ⊢
          go_wp2_with (refine wpList_put rfl 70 _ _ rfl w.heap.size [.int .i64 2, .string T1, .slice none 0 0, .slice none 0 0] rfl rfl HD2.out (by kernel_rfl) (by simp [Value.oneCell']) ?_; intro y1 hp; obtain ⟨t0, t1, t2, t3⟩ := hp.at_.four)
          exact bodyPost_ret (v := .tuple #[.agg #[.int .i64 2, .string T1, .slice none 0 0, .slice none 0 0], .bool true]) (by simp [results, Tryd.results45, go_sem, t0, t1, t2, t3]) rfl ⟨_, _, rfl, by rw [← HT1.out]; exact one_at (k := 2) HOD.out (gAt_star t) HC.out (by decide) rfl rfl rfl HMT.out (HR2.out.put hp (by omega)), grown_then HG2.out hp.grown (Nat.le_refl _)⟩
        · have i42 : ¬ (c : Int) = 42 := by omega
          have BY1 := Lib.hid (HBY.out w1)
          cases hB : isB c with
          | true =>
            rw [hB] at BY1
            have HB := Lib.hid hB
            clear hB
            go_wp2_with fail
            refine BY1.out.mono ?_; rintro _ w2 ⟨rfl, hw2⟩; obtain rfl := hw2.symm
            have TK1 := Lib.hid (HTK.out w1 HR1.out)
            have HR2 := Lib.hid (HR1.out.set0 (s' := t))
            have HD2 := Lib.hid (HDX.out.set (b' := rb) (o := 0) (.string (str t)))
            have HG2 := Lib.hid (below_grown HBX.out (grown_set1 w1 rb 0 (.string (str t))))
            obtain ⟨T1, hT1⟩ : ∃ T1, str [c] = T1 := ⟨_, rfl⟩
            rw [hT1] at TK1
            have HT1 := Lib.hid hT1
            clear hT1
            go_wp2_with fail
            refine TK1.out.mono ?_; rintro _ w2 ⟨rfl, rfl⟩
            generalize (w1.setCell ⟨rb, 0, none⟩ (.string (str t))) = w2 at HR2 HD2 HG2 ⊢
            go_wp2_with (refine wpList_put rfl 70 _ _ rfl w.heap.size [.int .i64 0, .string T1, .slice none 0 0, .slice none 0 0] rfl rfl HD2.out (by kernel_rfl) (by simp [Value.oneCell']) ?_; intro y1 hp; obtain ⟨t0, t1, t2, t3⟩ := hp.at_.four)
            exact bodyPost_ret (v := .tuple #[.agg #[.int .i64 0, .string T1, .slice none 0 0, .slice none 0 0], .bool true]) (by simp [results, Tryd.results45, go_sem, t0, t1, t2, t3]) rfl ⟨_, _, rfl, by rw [← HT1.out]; exact one_at (k := 0) HOD.out (gAt_one HB.out) HC.out h123 rfl rfl rfl HMT.out (HR2.out.put hp (by omega)), grown_then HG2.out hp.grown (Nat.le_refl _)⟩
          | false =>
            rw [hB] at BY1
            have HNO := Lib.hid (gPr_atomNo HC.out h123 (gAt_none (t := t) h91 h63 h42 hB))
            clear hB
            go_wp2_with fail
            refine BY1.out.mono ?_; rintro _ w2 ⟨rfl, hw2⟩; obtain rfl := hw2.symm
            go_wp2_with (refine wpList_put rfl 70 _ _ rfl w.heap.size [.int .i64 0, .string ⟨#[]⟩, .slice none 0 0, .slice none 0 0] rfl rfl HDX.out (by kernel_rfl) (by simp [Value.oneCell']) ?_; intro y1 hp; obtain ⟨t0, t1, t2, t3⟩ := hp.at_.four)
            exact bodyPost_ret (v := .tuple #[.agg #[.int .i64 0, .string ⟨#[]⟩, .slice none 0 0, .slice none 0 0], .bool false]) (by simp [results, Tryd.results45, go_sem, t0, t1, t2, t3]) rfl ⟨_, _, rfl, ⟨HNO.out, ⟨_, _, _, HR1.out.put hp (by omega)⟩, rfl⟩, grown_then (below_grown HBX.out (World.grownBy.refl _ _)) hp.grown (Nat.le_refl _)⟩
end Go.Proofs.YtkgmglncdiccfaaDoor.GP
