/-
  While the document's own Take (isobarref08) reads a record: the state, and plain facts.
-/
import Derived.Test.YtabbpgnenmpacaaDoorSegPutEM
import Derived.Test.YtabbpgnenmpacaaDoorSegPHM
import Derived.Test.YtabbpgnenmpacaaDoorByEqualM
set_option linter.unusedSimpArgs false
set_option linter.unusedVariables false
namespace Go.Proofs.YtabbpgnenmpacaaDoor.SR
open Go Go.RowKit
open CR (below_next own_ge u8_wrap)
open SP (rc_plain rgsOf_length rgsOf_snoc nOf_one i64_small rRead_ok rTake_read rRead)
/-- The variable of what is answered, the record's own, and its archives in a block of their own. -/
structure TS (w W : World) (C : List Value) (u : Value) (g : List (Int × Int)) : Prop where
  bx : Holds W (w.heap.size + 1) C
  cl : C.length = 9
  dv : DVar W (w.heap.size + 1) 9
  d0 : DVar W w.heap.size 9
  row : RgNew (w.heap.size + 2) W u g
  below : Below w.heap.size w W
  sz : w.heap.size + 2 ≤ W.heap.size
theorem TS.next {w W W' : World} {C : List Value} {u : Value} {g : List (Int × Int)} (h : TS w W C u g) (hb : Below W.heap.size W W') : TS w W' C u g :=
  ⟨h.bx.below hb, h.cl, h.dv.below hb, h.d0.below hb, h.row.below hb, below_next h.below hb, Nat.le_trans h.sz hb.size⟩
theorem TS.set {w W : World} {C : List Value} {u : Value} {g : List (Int × Int)} (h : TS w W C u g) (j : Nat) (hj : j < 9) (v : Value) : TS w (W.setCell ⟨w.heap.size + 1, j, none⟩ v) (C.set j v) u g := by
  have k : ∀ i, i ≠ w.heap.size + 1 → (W.setCell ⟨w.heap.size + 1, j, none⟩ v).heap[i]? = W.heap[i]? := fun i hn => heap_setCell_other W ⟨w.heap.size + 1, j, none⟩ i v (fun e => hn e)
  refine ⟨h.bx.set (by rw [h.cl]; exact hj) v, by rw [List.length_set]; exact h.cl, h.dv.set v, h.d0.set v, ?_, h.below.setCell (p := ⟨w.heap.size + 1, j, none⟩) (by show w.heap.size ≤ w.heap.size + 1; omega) v, by simp; exact h.sz⟩
  refine ⟨h.row.1, ?_⟩
  rcases h.row.2 with ⟨rfl, h0⟩ | ⟨g', cap, cur, rfl, hg', hh, hr'⟩
  · exact Or.inl ⟨rfl, h0⟩
  · exact Or.inr ⟨g', cap, cur, rfl, hg', (k g' (by omega)).trans hh, hr'⟩
theorem TS.grown {w W W' : World} {C : List Value} {u u' : Value} {g g' : List (Int × Int)} (h : TS w W C u g) (hg : W.grownBy W' u.ownBlock) (hr : RgNew (w.heap.size + 2) W' u' g') : TS w W' C u' g' := by
  have hge := own_ge h.row
  have k : ∀ i, i < w.heap.size + 2 → W'.heap[i]? = W.heap[i]? := fun i hi => hg.block i (by have := h.sz; omega) (fun e => by have := hge i e.symm; omega)
  have dk : ∀ {x n : Nat}, x < w.heap.size + 2 → DVar W x n → DVar W' x n := fun {x n} hx d =>
    ⟨Nat.lt_of_lt_of_le d.lt hg.size, fun i hi => by obtain ⟨q, hq⟩ := d.c i hi; exact ⟨q, (World.cell?_of_block (k x hx)).trans hq⟩, fun i hi => (World.frozen?_of_block (a := ⟨x, i, none⟩) (k x hx)).trans (d.f i hi)⟩
  exact ⟨fun j v hj => (World.cell?_of_block (k (w.heap.size + 1) (by omega))).trans (h.bx j v hj), h.cl, dk (by omega) h.dv, dk (by omega) h.d0, hr, Below.grown h.below hg (by have := h.sz; omega) (fun i e => by have := hge i e; omega), Nat.le_trans h.sz hg.size⟩
theorem ts_start (w : World) (C0 C1 : List Value) (t : TypeId) (h0 : C0.length = 9) (h1 : C1.length = 9) : TS w ((w.alloc (.cells C0.toArray t)).alloc (.cells C1.toArray t)) C1 (.slice none 0 0) [] := by
  have e1 : (w.alloc (.cells C0.toArray t)).heap.size = w.heap.size + 1 := by simp
  have hh := holds_alloc (w.alloc (.cells C0.toArray t)) C1 t
  have d0 := DVar.below (alloc_below (w.alloc (.cells C0.toArray t)) (.cells C1.toArray t)) (DVar.alloc (w := w) C0.toArray t)
  have dv := dvar2 w C0 C1 t
  rw [e1] at hh
  rw [h1] at dv
  have e : C0.toArray.size = 9 := by simpa using h0
  rw [e] at d0
  exact ⟨hh, h1, dv, d0, RgNew.nil _ _, (alloc_below w _).trans ((alloc_below _ _).mono (by rw [e1]; omega)), by simp⟩
/-- A call's world as a letter. -/
theorem gen_calls {P : Program} {f : FuncId} {args : Array Value} {R : Ending → World → Prop} {W : World} (F : World → Prop) (hF : F W) (h : ∀ y, F y → Calls P f args y R) : Calls P f args W R := h W hF
/-- What is taken, by the record that was read. -/
theorem rTake_other {l : List Nat} {R : PR} (h : ¬ (l.headD 0 = 1 ∨ l.headD 0 = 2 ∨ l.headD 0 = 3)) (hk : R.kind = (l.headD 0 : Nat)) : rTake l = (PR.zero, 7) ∧ rRight R = false := by
  constructor
  · exact rTake_no (fun r h1 _ h2 => h (by rw [← h2]; exact SP.headD_bytes h1))
  · unfold rRight
    rw [if_neg (by rw [hk]; omega), if_neg (by rw [hk]; omega), if_neg (by rw [hk]; omega)]
theorem rTake_len {l : List Nat} (h : ∀ r, rRight r = true → vOk r → rBytes r = l → False) : rTake l = (PR.zero, 7) := rTake_no (fun r h1 h2 h3 => h r h1 h2 h3)
theorem rTake_empty : rTake [] = (PR.zero, 7) := rTake_no (fun r h1 _ h2 => by
  have := rBytes_len h1
  rw [h2] at this
  simp at this)
theorem rTake_two {l : List Nat} (h : l.headD 0 = 2) (hl : l.length ≠ 25) : rTake l = (PR.zero, 7) := rTake_no (fun r h1 _ h2 => by
  rcases right_cases h1 with ⟨p, m, f, q, rfl, hk⟩ | ⟨t, n, v, rfl, hk⟩ | ⟨g, t, v, rfl, hk⟩
  · rw [← h2] at h; cases h
  · apply hl
    rw [← h2, rBytes_pt]
    simp only [List.length_cons, List.length_append, nB_length]
  · rw [← h2] at h; cases h)
theorem rTake_three {l : List Nat} (h : l.headD 0 = 3) (hl : l.length ≠ 18) : rTake l = (PR.zero, 7) := rTake_no (fun r h1 _ h2 => by
  rcases right_cases h1 with ⟨p, m, f, q, rfl, hk⟩ | ⟨t, n, v, rfl, hk⟩ | ⟨g, t, v, rfl, hk⟩
  · rw [← h2] at h; cases h
  · rw [← h2] at h; cases h
  · apply hl
    rw [← h2, rBytes_sl]
    simp only [List.length_cons, List.length_append, nB_length])
/-- How long a head's payload is. -/
theorem head_len {l : List Nat} {r : PR} (h : l.headD 0 = 1) (h1 : rRight r = true) (hv : vOk r) (h2 : rBytes r = l) : l.length = 9 + nOf 2 (l.drop 1) + 6 * (l.drop (3 + nOf 2 (l.drop 1) + 5)).headD 0 := by
  have hg := guess_right h1 hv
  rw [h2] at hg
  rcases right_cases h1 with ⟨p, m, f, q, rfl, hk⟩ | ⟨t, n, v, rfl, hk⟩ | ⟨g, t, v, rfl, hk⟩
  · have hl : l.length = 9 + p.length + 6 * q.length := by
      rw [← h2, rBytes_hd]
      simp only [List.length_cons, List.length_append, nB_length, rgsB_length]
      omega
    unfold rGuess at hg
    rw [if_pos h] at hg
    have e1 : (l.drop 3).take (nOf 2 (l.drop 1)) = p := congrArg PR.path hg
    have e2 : rgsOf ((l.drop (3 + nOf 2 (l.drop 1) + 5)).headD 0) (l.drop (3 + nOf 2 (l.drop 1) + 6)) = q := congrArg PR.rungs hg
    have k2 := rgsOf_length ((l.drop (3 + nOf 2 (l.drop 1) + 5)).headD 0) (l.drop (3 + nOf 2 (l.drop 1) + 6))
    rw [e2] at k2
    have k1 : p.length = min (nOf 2 (l.drop 1)) (l.length - 3) := by rw [← e1, List.length_take, List.length_drop]
    omega
  · rw [← h2] at h; cases h
  · rw [← h2] at h; cases h
theorem rTake_short {l : List Nat} (h : l.headD 0 = 1) (hl : l.length < 9 + nOf 2 (l.drop 1) + 6 * (l.drop (3 + nOf 2 (l.drop 1) + 5)).headD 0) : rTake l = (PR.zero, 7) := rTake_no (fun r h1 hv h2 => by
  have := head_len h h1 hv h2
  omega)
end Go.Proofs.YtabbpgnenmpacaaDoor.SR
/-
  Contracts of the document's own functions of layer 8 (isobarref08): Take, of a point.
-/
set_option linter.unusedSimpArgs false
set_option linter.unusedVariables false
namespace Go.Proofs.YtabbpgnenmpacaaDoor.SR
open Go Go.RowKit
open CR (below_next own_ge u8_wrap)
open SP (rc_plain rgsOf_length rgsOf_snoc nOf_one i64_small rRead_ok rTake_read rRead)
set_option maxRecDepth 100000 in
set_option maxHeartbeats 2000000 in
theorem take_two (v : Value) (l : List Nat) (hb : Bytes l) (hl : l.length ≤ 9223372036854775807) (w : World) (ho : ByOut w v l) (hk0 : ¬ l = []) (hk : l.headD 0 = 2) :
    Calls Tryd.prog 36 #[v] w fun e w' => ∃ v', e = .returned (.tuple #[v', .int .i64 (rTake l).2]) ∧ RcNew w.heap.size w' v' (rTake l).1 ∧ Below w.heap.size w w' := by
  obtain ⟨A, c, rfl, hc, hx⟩ := id ho
  obtain ⟨n, hln⟩ : ∃ n, l.length = n := ⟨_, rfl⟩
  obtain ⟨TT, hTT⟩ : ∃ T, rTake l = T := ⟨_, rfl⟩
  rw [hTT, hln]
  rw [hln] at hc hl
  have hn0 : 0 < l.length := by
    cases l with
    | nil => simp at hk0
    | cons a l => simp
  obtain ⟨b, off, rfl, ha⟩ := hx (List.length_pos_iff.1 hn0)
  have hhd : l[0] = l.headD 0 := by
    cases l with
    | nil => simp at hn0
    | cons a l => rfl
  have hc0 := ha 0 _ (List.getElem?_eq_getElem hn0)
  rw [hhd, Nat.add_zero] at hc0
  obtain ⟨K, hK⟩ : ∃ K, l.headD 0 = K := ⟨_, rfl⟩
  rw [hK] at hc0 hk
  have hK256 : K < 256 := by
    rw [← hK, ← nOf_one]
    exact Nat.lt_of_lt_of_le (nOf_lt 1 _ hb) (by decide)
  have hb1 : Below w.heap.size w ((w.alloc (.cells ([.int .i64 0, .string ByteArray.empty, .int .i64 0, .int .i64 0, .slice none 0 0, .int .i64 0, .int .i64 0, .int .i64 0, .int .i64 0] : List Value).toArray 24)).alloc (.cells ([.int .i64 0, .string ByteArray.empty, .int .i64 0, .int .i64 0, .slice none 0 0, .int .i64 0, .int .i64 0, .int .i64 0, .int .i64 0] : List Value).toArray 24)) := (alloc_below w _).trans ((alloc_below _ _).mono (by simp))
  have c0 := hc0
  have hblt : b < w.heap.size := World.block_lt_of_cell? w _ hc0
  have hbne : ¬ b = w.heap.size := by omega
  have hbne2 : ¬ b = w.heap.size + 1 := by omega
  have hts := ts_start w [.int .i64 0, .string ByteArray.empty, .int .i64 0, .int .i64 0, .slice none 0 0, .int .i64 0, .int .i64 0, .int .i64 0, .int .i64 0] [.int .i64 0, .string ByteArray.empty, .int .i64 0, .int .i64 0, .slice none 0 0, .int .i64 0, .int .i64 0, .int .i64 0, .int .i64 0] 24 rfl rfl
  have p0 := hts.bx 0 _ rfl
  have q0 := hts.dv.f 0 (by decide)
  have HTS := Lib.hid (ts_start w [.int .i64 0, .string ⟨#[]⟩, .int .i64 0, .int .i64 0, .slice none 0 0, .int .i64 0, .int .i64 0, .int .i64 0, .int .i64 0] [.int .i64 (K : Nat), .string ⟨#[]⟩, .int .i64 0, .int .i64 0, .slice none 0 0, .int .i64 0, .int .i64 0, .int .i64 0, .int .i64 0] 24 rfl rfl)
  rw [hln] at hn0
  have hn1 : (0 : Int) < (n : Int) := by omega
  have hn2 : ¬ (n : Int) = 0 := by omega
  have hqn : ((n : Int) == 0) = false := beq_false_of_ne hn2
  have HL := Lib.hid hln; have HB := Lib.hid hb; have HO := Lib.hid ho; have HKK := Lib.hid hK; have HT := Lib.hid hTT; have HA := Lib.hid ha
  have WR := Lib.hid (show ∀ q : List Nat, Bytes q → IntKind.i64.wrap ((nOf 8 q : Nat) : Int) = i64 (nOf 8 q) from fun q hq => by
    have hN : nOf 8 q < 18446744073709551616 := Nat.lt_of_lt_of_le (nOf_lt 8 q hq) (by decide)
    generalize nOf 8 q = N at *
    rw [IntKind.wrap_i64]
    unfold i64
    split <;> omega)
  have RD := Lib.hid (fun (W : World) (hB : Below w.heap.size w W) (at' k : Nat) (hk : k ≤ 8) (h : at' + k ≤ n) => by
    have h2 := read_c (.slice (some ⟨b, off, none⟩) l.length c) l hb (by rw [hln]; exact hl) at' k hk (by rw [hln]; exact h) W (ho.below hB)
    rw [hln] at h2
    exact h2)
  have HN9 := Lib.hid (show (n : Int) ≤ 9223372036854775807 by omega)
  have q1 : ((K : Int) == 1) = false := beq_false_of_ne (by omega)
  have q2 : ((K : Int) == 2) = true := by rw [hk]; rfl
  have HK2 := Lib.hid hk
  by_cases hlen : n = 25
  case neg =>
    have hni : ((n : Int) != 25) = true := by rw [bne_iff_ne]; omega
    have e : TT = (PR.zero, 7) := by rw [← hTT]; exact rTake_two (hK.trans hk) (by rw [hln]; exact hlen)
    subst e
    clear hTT hln hb ho hK hk hx ha hc0 hhd hc hl hb1
    go_enter Tryd.func36, Tryd.ntmps36
    go_wp2
    exact bodyPost_ret (v := .tuple #[.agg #[.int .i64 0, .string ByteArray.empty, .int .i64 0, .int .i64 0, .slice none 0 0, .int .i64 0, .int .i64 0, .int .i64 0, .int .i64 0], .int .i64 7]) (by simp [results, Tryd.results36, go_sem]; rfl) rfl ⟨_, rfl, rc_plain _ _ _ _ _ _ _, (alloc_below w _).trans ((alloc_below _ _).mono (by simp))⟩
  case pos =>
    have hni : ((n : Int) != 25) = false := by rw [hlen]; rfl
    have HNN := Lib.hid hlen
    have HB1 := Lib.hid hb1
    clear hTT hln hb ho hK hk hx ha hc0 hhd hc hl hlen hb1
    go_enter Tryd.func36, Tryd.ntmps36
    go_wp2_with fail
    refine gen_calls (F := fun W => TS w W [.int .i64 (K : Nat), .string ByteArray.empty, .int .i64 0, .int .i64 0, .slice none 0 0, .int .i64 0, .int .i64 0, .int .i64 0, .int .i64 0] (.slice none 0 0) []) HTS.out ?_
    intro w1 hts1
    have T1 := Lib.hid hts1
    clear hts1 hts p0 q0 c0 HTS HB1
    refine (RD.out w1 T1.out.below 1 8 (by decide) (by have := HNN.out; omega)).mono ?_; rintro _ w2 ⟨rfl, rfl⟩
    have wt : IntKind.i64.wrap ((nOf 8 (l.drop 1) : Nat) : Int) = i64 (nOf 8 (l.drop 1)) := WR.out _ (HB.out.drops _)
    obtain ⟨Nt, hNt⟩ : ∃ x, nOf 8 (l.drop 1) = x := ⟨_, rfl⟩
    obtain ⟨t, ht⟩ : ∃ x, i64 (nOf 8 (l.drop 1)) = x := ⟨_, rfl⟩
    rw [ht, hNt] at wt
    rw [hNt]
    have Ht := Lib.hid ht
    clear ht hNt
    go_wp2_with fail
    refine (RD.out w1 T1.out.below 9 8 (by decide) (by have := HNN.out; omega)).mono ?_; rintro _ w2 ⟨rfl, rfl⟩
    have wnw : IntKind.i64.wrap ((nOf 8 (l.drop 9) : Nat) : Int) = i64 (nOf 8 (l.drop 9)) := WR.out _ (HB.out.drops _)
    obtain ⟨Nnw, hNnw⟩ : ∃ x, nOf 8 (l.drop 9) = x := ⟨_, rfl⟩
    obtain ⟨nw, hnw⟩ : ∃ x, i64 (nOf 8 (l.drop 9)) = x := ⟨_, rfl⟩
    rw [hnw, hNnw] at wnw
    rw [hNnw]
    have Hnw := Lib.hid hnw
    clear hnw hNnw
    go_wp2_with fail
    refine (RD.out w1 T1.out.below 17 8 (by decide) (by have := HNN.out; omega)).mono ?_; rintro _ w2 ⟨rfl, rfl⟩
    have wvv : IntKind.i64.wrap ((nOf 8 (l.drop 17) : Nat) : Int) = i64 (nOf 8 (l.drop 17)) := WR.out _ (HB.out.drops _)
    obtain ⟨Nvv, hNvv⟩ : ∃ x, nOf 8 (l.drop 17) = x := ⟨_, rfl⟩
    obtain ⟨vv, hvv⟩ : ∃ x, i64 (nOf 8 (l.drop 17)) = x := ⟨_, rfl⟩
    rw [hvv, hNvv] at wvv
    rw [hNvv]
    have Hvv := Lib.hid hvv
    clear hvv hNvv
    obtain ⟨r0, r1, r2, r3, r4, r5, r6, r7, r8⟩ := Holds.nine T1.out.bx
    have q6 := T1.out.dv.f 6 (by decide)
    have q7 := T1.out.dv.f 7 (by decide)
    have q8 := T1.out.dv.f 8 (by decide)
    go_wp2_with fail
    have ht3 := (((T1.out.set 6 (by decide) (.int .i64 t)).set 7 (by decide) (.int .i64 nw)).set 8 (by decide) (.int .i64 vv))
    refine gen_calls (F := fun W => TS w W [.int .i64 (K : Nat), .string ByteArray.empty, .int .i64 0, .int .i64 0, .slice none 0 0, .int .i64 0, .int .i64 t, .int .i64 nw, .int .i64 vv] (.slice none 0 0) []) ht3 ?_
    intro w3 ht4
    have T3 := Lib.hid ht4
    clear ht3 ht4 r0 r1 r2 r3 r4 r5 r6 r7 r8 q6 q7 q8 
    have hRT : TT = if rRight (⟨(K : Nat), [], 0, 0, [], 0, t, nw, vv⟩) = true ∧ rBytes (⟨(K : Nat), [], 0, 0, [], 0, t, nw, vv⟩) = l then ((⟨(K : Nat), [], 0, 0, [], 0, t, nw, vv⟩), 0) else (PR.zero, 7) := by
      rw [← HT.out]
      rw [← SP.rRead_two HKK.out HK2.out Ht.out Hnw.out Hvv.out]; exact rTake_read l
    obtain ⟨RR, hRR⟩ : ∃ r : PR, (⟨(K : Nat), [], 0, 0, [], 0, t, nw, vv⟩) = r := ⟨_, rfl⟩
    have hrk : Bytes RR.path ∧ RR.rungs.length ≤ 100000 := by rw [← hRR]; exact ⟨fun _ h => (by cases h), Nat.zero_le _⟩
    have hrcv : ∀ W, RgNew (w.heap.size + 2) W (.slice none 0 0) [] → RcNew w.heap.size W (.agg #[.int .i64 (K : Nat), .string ByteArray.empty, .int .i64 0, .int .i64 0, .slice none 0 0, .int .i64 0, .int .i64 t, .int .i64 nw, .int .i64 vv]) RR := fun W h => by rw [← hRR]; exact rc_plain _ _ _ _ _ _ _
    rw [hRR] at hRT
    have hcs : (rRight RR = true ∧ rPut RR = (rBytes RR, 0) ∧ rBytes RR = l ∧ TT = (RR, 0)) ∨ (rRight RR = true ∧ rPut RR = (rBytes RR, 0) ∧ ¬ rBytes RR = l ∧ TT = (PR.zero, 7)) ∨ (rRight RR = false ∧ rPut RR = ([], 1) ∧ TT = (PR.zero, 7)) := by
      unfold rPut
      by_cases h1 : rRight RR = true
      · by_cases h2 : rBytes RR = l
        · exact Or.inl ⟨h1, if_pos h1, h2, by rw [hRT, if_pos ⟨h1, h2⟩]⟩
        · exact Or.inr (Or.inl ⟨h1, if_pos h1, h2, by rw [hRT, if_neg (fun g => h2 g.2)]⟩)
      · exact Or.inr (Or.inr ⟨by simpa using h1, if_neg h1, by rw [hRT, if_neg (fun g => h1 g.1)]⟩)
    have PT := Lib.hid (fun (v : Value) (W : World) (h : RcOut W v RR) => put_c v RR hrk.1 hrk.2 W h)
    have HRK := Lib.hid hrk; have RCV := Lib.hid hrcv; have CASE := Lib.hid hcs
    clear hRT hcs hrcv hrk
    rcases CASE.out with ⟨hr, hP, he, hq⟩ | ⟨hr, hP, he, hq⟩ | ⟨hr, hP, hq⟩
    · rw [hP] at PT
      subst hq
      refine (PT.out _ w3 (RCV.out _ T3.out.row).out).mono ?_; rintro _ w4 ⟨v4, rfl, hn4, hb4⟩
      have T4 := Lib.hid (T3.out.next hb4)
      have D4 := Lib.hid T4.out.d0; have B4 := Lib.hid T4.out.below
      obtain ⟨A5, c5, hv5, _, _⟩ := hn4.form
      have hcb := conv_by (rBytes_bytes hr HRK.out.1) (show ByOut w4 (.slice A5 (rBytes RR).length c5) (rBytes RR) by rw [← hv5]; exact hn4.out)
      have hcp := conv_by HB.out (show ByOut w4 (.slice (some ⟨b, off, none⟩) n c) l by have := HO.out.below B4.out; rw [HL.out] at this; exact this)
      have hse := strB_eq (rBytes_bytes hr HRK.out.1) HB.out
      obtain ⟨n5, hn5⟩ : ∃ n, (rBytes RR).length = n := ⟨_, rfl⟩
      rw [hn5] at hv5 hcb
      subst hv5
      rw [decide_eq_true he] at hse
      obtain ⟨sb, hsb⟩ : ∃ s, strB (rBytes RR) = s := ⟨_, rfl⟩
      obtain ⟨sp, hsp⟩ : ∃ s, strB l = s := ⟨_, rfl⟩
      rw [hsb, hsp] at hse
      rw [hsb] at hcb
      rw [hsp] at hcp
      clear hn4 hb4 hsb hsp hn5
      clear hr hP he
      have hse2 : (sb.toList != sp.toList) = false := by simp only [bne, hse]; rfl
      obtain ⟨y0, y1, y2, y3, y4, y5, y6, y7, y8⟩ := Holds.nine T4.out.bx
      go_wp2_with (refine wpList_put rfl 24 _ _ rfl w.heap.size [.int .i64 (K : Nat), .string ByteArray.empty, .int .i64 0, .int .i64 0, .slice none 0 0, .int .i64 0, .int .i64 t, .int .i64 nw, .int .i64 vv] rfl rfl D4.out (by kernel_rfl) (by simp [Value.oneCell']) ?_; intro w9 hp9; obtain ⟨x0, x1, x2, x3, x4, x5, x6, x7, x8⟩ := Holds.nine hp9.at_; have B9 := Lib.hid (hp9.below (Nat.le_refl _) B4.out); have R9 := Lib.hid (RCV.out _ (T4.out.row.grown hp9.grown (fun g e => by injection e; omega))); clear hp9)
      exact bodyPost_ret (v := .tuple #[.agg #[.int .i64 (K : Nat), .string ByteArray.empty, .int .i64 0, .int .i64 0, .slice none 0 0, .int .i64 0, .int .i64 t, .int .i64 nw, .int .i64 vv], .int .i64 0]) (by simp [results, Tryd.results36, go_sem, x0, x1, x2, x3, x4, x5, x6, x7, x8]) rfl ⟨_, rfl, R9.out, B9.out⟩
    · rw [hP] at PT
      subst hq
      refine (PT.out _ w3 (RCV.out _ T3.out.row).out).mono ?_; rintro _ w4 ⟨v4, rfl, hn4, hb4⟩
      have T4 := Lib.hid (T3.out.next hb4)
      have D4 := Lib.hid T4.out.d0; have B4 := Lib.hid T4.out.below
      obtain ⟨A5, c5, hv5, _, _⟩ := hn4.form
      have hcb := conv_by (rBytes_bytes hr HRK.out.1) (show ByOut w4 (.slice A5 (rBytes RR).length c5) (rBytes RR) by rw [← hv5]; exact hn4.out)
      have hcp := conv_by HB.out (show ByOut w4 (.slice (some ⟨b, off, none⟩) n c) l by have := HO.out.below B4.out; rw [HL.out] at this; exact this)
      have hse := strB_eq (rBytes_bytes hr HRK.out.1) HB.out
      obtain ⟨n5, hn5⟩ : ∃ n, (rBytes RR).length = n := ⟨_, rfl⟩
      rw [hn5] at hv5 hcb
      subst hv5
      rw [decide_eq_false he] at hse
      obtain ⟨sb, hsb⟩ : ∃ s, strB (rBytes RR) = s := ⟨_, rfl⟩
      obtain ⟨sp, hsp⟩ : ∃ s, strB l = s := ⟨_, rfl⟩
      rw [hsb, hsp] at hse
      rw [hsb] at hcb
      rw [hsp] at hcp
      clear hn4 hb4 hsb hsp hn5
      clear hr hP he
      have hse2 : (sb.toList != sp.toList) = true := by simp only [bne, hse]; rfl
      go_wp2_with (refine wpList_put rfl 24 _ _ rfl w.heap.size [.int .i64 0, .string ByteArray.empty, .int .i64 0, .int .i64 0, .slice none 0 0, .int .i64 0, .int .i64 0, .int .i64 0, .int .i64 0] rfl rfl D4.out (by kernel_rfl) (by simp [Value.oneCell']) ?_; intro w9 hp9; obtain ⟨x0, x1, x2, x3, x4, x5, x6, x7, x8⟩ := Holds.nine hp9.at_; have B9 := Lib.hid (hp9.below (Nat.le_refl _) B4.out); clear hp9)
      exact bodyPost_ret (v := .tuple #[.agg #[.int .i64 0, .string ByteArray.empty, .int .i64 0, .int .i64 0, .slice none 0 0, .int .i64 0, .int .i64 0, .int .i64 0, .int .i64 0], .int .i64 7]) (by simp [results, Tryd.results36, go_sem, x0, x1, x2, x3, x4, x5, x6, x7, x8]) rfl ⟨_, rfl, rc_plain _ _ _ _ _ _ _, B9.out⟩
    · rw [hP] at PT
      subst hq
      refine (PT.out _ w3 (RCV.out _ T3.out.row).out).mono ?_; rintro _ w4 ⟨v4, rfl, hn4, hb4⟩
      have T4 := Lib.hid (T3.out.next hb4)
      have D4 := Lib.hid T4.out.d0; have B4 := Lib.hid T4.out.below
      clear hn4 hb4 hr hP
      go_wp2_with (refine wpList_put rfl 24 _ _ rfl w.heap.size [.int .i64 0, .string ByteArray.empty, .int .i64 0, .int .i64 0, .slice none 0 0, .int .i64 0, .int .i64 0, .int .i64 0, .int .i64 0] rfl rfl D4.out (by kernel_rfl) (by simp [Value.oneCell']) ?_; intro w9 hp9; obtain ⟨x0, x1, x2, x3, x4, x5, x6, x7, x8⟩ := Holds.nine hp9.at_; have B9 := Lib.hid (hp9.below (Nat.le_refl _) B4.out); clear hp9)
      exact bodyPost_ret (v := .tuple #[.agg #[.int .i64 0, .string ByteArray.empty, .int .i64 0, .int .i64 0, .slice none 0 0, .int .i64 0, .int .i64 0, .int .i64 0, .int .i64 0], .int .i64 7]) (by simp [results, Tryd.results36, go_sem, x0, x1, x2, x3, x4, x5, x6, x7, x8]) rfl ⟨_, rfl, rc_plain _ _ _ _ _ _ _, B9.out⟩
end Go.Proofs.YtabbpgnenmpacaaDoor.SR
/-
  Contracts of the document's own functions of layer 8 (isobarref08): Take, of a slot.
-/
set_option linter.unusedSimpArgs false
set_option linter.unusedVariables false
namespace Go.Proofs.YtabbpgnenmpacaaDoor.SR
open Go Go.RowKit
open CR (below_next own_ge u8_wrap)
open SP (rc_plain rgsOf_length rgsOf_snoc nOf_one i64_small rRead_ok rTake_read rRead)
set_option maxRecDepth 100000 in
set_option maxHeartbeats 2000000 in
theorem take_three (v : Value) (l : List Nat) (hb : Bytes l) (hl : l.length ≤ 9223372036854775807) (w : World) (ho : ByOut w v l) (hk0 : ¬ l = []) (hk : l.headD 0 = 3) :
    Calls Tryd.prog 36 #[v] w fun e w' => ∃ v', e = .returned (.tuple #[v', .int .i64 (rTake l).2]) ∧ RcNew w.heap.size w' v' (rTake l).1 ∧ Below w.heap.size w w' := by
  obtain ⟨A, c, rfl, hc, hx⟩ := id ho
  obtain ⟨n, hln⟩ : ∃ n, l.length = n := ⟨_, rfl⟩
  obtain ⟨TT, hTT⟩ : ∃ T, rTake l = T := ⟨_, rfl⟩
  rw [hTT, hln]
  rw [hln] at hc hl
  have hn0 : 0 < l.length := by
    cases l with
    | nil => simp at hk0
    | cons a l => simp
  obtain ⟨b, off, rfl, ha⟩ := hx (List.length_pos_iff.1 hn0)
  have hhd : l[0] = l.headD 0 := by
    cases l with
    | nil => simp at hn0
    | cons a l => rfl
  have hc0 := ha 0 _ (List.getElem?_eq_getElem hn0)
  rw [hhd, Nat.add_zero] at hc0
  obtain ⟨K, hK⟩ : ∃ K, l.headD 0 = K := ⟨_, rfl⟩
  rw [hK] at hc0 hk
  have hK256 : K < 256 := by
    rw [← hK, ← nOf_one]
    exact Nat.lt_of_lt_of_le (nOf_lt 1 _ hb) (by decide)
  have hb1 : Below w.heap.size w ((w.alloc (.cells ([.int .i64 0, .string ByteArray.empty, .int .i64 0, .int .i64 0, .slice none 0 0, .int .i64 0, .int .i64 0, .int .i64 0, .int .i64 0] : List Value).toArray 24)).alloc (.cells ([.int .i64 0, .string ByteArray.empty, .int .i64 0, .int .i64 0, .slice none 0 0, .int .i64 0, .int .i64 0, .int .i64 0, .int .i64 0] : List Value).toArray 24)) := (alloc_below w _).trans ((alloc_below _ _).mono (by simp))
  have c0 := hc0
  have hblt : b < w.heap.size := World.block_lt_of_cell? w _ hc0
  have hbne : ¬ b = w.heap.size := by omega
  have hbne2 : ¬ b = w.heap.size + 1 := by omega
  have hts := ts_start w [.int .i64 0, .string ByteArray.empty, .int .i64 0, .int .i64 0, .slice none 0 0, .int .i64 0, .int .i64 0, .int .i64 0, .int .i64 0] [.int .i64 0, .string ByteArray.empty, .int .i64 0, .int .i64 0, .slice none 0 0, .int .i64 0, .int .i64 0, .int .i64 0, .int .i64 0] 24 rfl rfl
  have p0 := hts.bx 0 _ rfl
  have q0 := hts.dv.f 0 (by decide)
  have HTS := Lib.hid (ts_start w [.int .i64 0, .string ⟨#[]⟩, .int .i64 0, .int .i64 0, .slice none 0 0, .int .i64 0, .int .i64 0, .int .i64 0, .int .i64 0] [.int .i64 (K : Nat), .string ⟨#[]⟩, .int .i64 0, .int .i64 0, .slice none 0 0, .int .i64 0, .int .i64 0, .int .i64 0, .int .i64 0] 24 rfl rfl)
  rw [hln] at hn0
  have hn1 : (0 : Int) < (n : Int) := by omega
  have hn2 : ¬ (n : Int) = 0 := by omega
  have hqn : ((n : Int) == 0) = false := beq_false_of_ne hn2
  have HL := Lib.hid hln; have HB := Lib.hid hb; have HO := Lib.hid ho; have HKK := Lib.hid hK; have HT := Lib.hid hTT; have HA := Lib.hid ha
  have WR := Lib.hid (show ∀ q : List Nat, Bytes q → IntKind.i64.wrap ((nOf 8 q : Nat) : Int) = i64 (nOf 8 q) from fun q hq => by
    have hN : nOf 8 q < 18446744073709551616 := Nat.lt_of_lt_of_le (nOf_lt 8 q hq) (by decide)
    generalize nOf 8 q = N at *
    rw [IntKind.wrap_i64]
    unfold i64
    split <;> omega)
  have RD := Lib.hid (fun (W : World) (hB : Below w.heap.size w W) (at' k : Nat) (hk : k ≤ 8) (h : at' + k ≤ n) => by
    have h2 := read_c (.slice (some ⟨b, off, none⟩) l.length c) l hb (by rw [hln]; exact hl) at' k hk (by rw [hln]; exact h) W (ho.below hB)
    rw [hln] at h2
    exact h2)
  have HN9 := Lib.hid (show (n : Int) ≤ 9223372036854775807 by omega)
  have q1 : ((K : Int) == 1) = false := beq_false_of_ne (by omega)
  have q2 : ((K : Int) == 2) = false := beq_false_of_ne (by omega)
  have q3 : ((K : Int) == 3) = true := by rw [hk]; rfl
  have HK2 := Lib.hid hk
  by_cases hlen : n = 18
  case neg =>
    have hni : ((n : Int) != 18) = true := by rw [bne_iff_ne]; omega
    have e : TT = (PR.zero, 7) := by rw [← hTT]; exact rTake_three (hK.trans hk) (by rw [hln]; exact hlen)
    subst e
    clear hTT hln hb ho hK hk hx ha hc0 hhd hc hl hb1
    go_enter Tryd.func36, Tryd.ntmps36
    go_wp2
    exact bodyPost_ret (v := .tuple #[.agg #[.int .i64 0, .string ByteArray.empty, .int .i64 0, .int .i64 0, .slice none 0 0, .int .i64 0, .int .i64 0, .int .i64 0, .int .i64 0], .int .i64 7]) (by simp [results, Tryd.results36, go_sem]; rfl) rfl ⟨_, rfl, rc_plain _ _ _ _ _ _ _, (alloc_below w _).trans ((alloc_below _ _).mono (by simp))⟩
  case pos =>
    have hni : ((n : Int) != 18) = false := by rw [hlen]; rfl
    have HNN := Lib.hid hlen
    have HB1 := Lib.hid hb1
    clear hTT hln hb ho hK hk hx ha hc0 hhd hc hl hlen hb1
    go_enter Tryd.func36, Tryd.ntmps36
    go_wp2_with fail
    refine gen_calls (F := fun W => TS w W [.int .i64 (K : Nat), .string ByteArray.empty, .int .i64 0, .int .i64 0, .slice none 0 0, .int .i64 0, .int .i64 0, .int .i64 0, .int .i64 0] (.slice none 0 0) []) HTS.out ?_
    intro w1 hts1
    have T1 := Lib.hid hts1
    clear hts1 hts p0 q0 c0 HTS HB1
    refine (RD.out w1 T1.out.below 2 8 (by decide) (by have := HNN.out; omega)).mono ?_; rintro _ w2 ⟨rfl, rfl⟩
    have wt : IntKind.i64.wrap ((nOf 8 (l.drop 2) : Nat) : Int) = i64 (nOf 8 (l.drop 2)) := WR.out _ (HB.out.drops _)
    obtain ⟨Nt, hNt⟩ : ∃ x, nOf 8 (l.drop 2) = x := ⟨_, rfl⟩
    obtain ⟨t, ht⟩ : ∃ x, i64 (nOf 8 (l.drop 2)) = x := ⟨_, rfl⟩
    rw [ht, hNt] at wt
    rw [hNt]
    have Ht := Lib.hid ht
    clear ht hNt
    go_wp2_with fail
    refine (RD.out w1 T1.out.below 10 8 (by decide) (by have := HNN.out; omega)).mono ?_; rintro _ w2 ⟨rfl, rfl⟩
    have wvv : IntKind.i64.wrap ((nOf 8 (l.drop 10) : Nat) : Int) = i64 (nOf 8 (l.drop 10)) := WR.out _ (HB.out.drops _)
    obtain ⟨Nvv, hNvv⟩ : ∃ x, nOf 8 (l.drop 10) = x := ⟨_, rfl⟩
    obtain ⟨vv, hvv⟩ : ∃ x, i64 (nOf 8 (l.drop 10)) = x := ⟨_, rfl⟩
    rw [hvv, hNvv] at wvv
    rw [hNvv]
    have Hvv := Lib.hid hvv
    clear hvv hNvv
    obtain ⟨r0, r1, r2, r3, r4, r5, r6, r7, r8⟩ := Holds.nine T1.out.bx
    obtain ⟨g, hg⟩ : ∃ x, (l.drop 1).headD 0 = x := ⟨_, rfl⟩
    have hg256 : g < 256 := by
      rw [← hg, ← nOf_one]
      exact Nat.lt_of_lt_of_le (nOf_lt 1 _ (HB.out.drops 1)) (by decide)
    have c1 : w1.cell? ⟨b, off + 1, none⟩ = some (.int .u8 (g : Nat)) := by
      have hl1 : 1 < l.length := by rw [HL.out, HNN.out]; decide
      have e : l[1] = g := by
        rw [← hg, List.drop_eq_getElem_cons hl1]
        rfl
      rw [← e]
      exact cellb T1.out.below (HA.out 1 _ (List.getElem?_eq_getElem hl1))
    have n1 : (1 : Int) < (n : Int) := by rw [HNN.out]; decide
    have Hg := Lib.hid (show i64 (nOf 1 (l.drop 1)) = (g : Nat) by rw [nOf_one, hg]; exact i64_small (by omega))
    have Hg2 := Lib.hid (show (l.drop 1).headD 0 < 9223372036854775808 by rw [hg]; omega)
    clear hg
    have q5 := T1.out.dv.f 5 (by decide)
    have q6 := T1.out.dv.f 6 (by decide)
    have q8 := T1.out.dv.f 8 (by decide)
    go_wp2_with fail
    have ht3 := (((T1.out.set 5 (by decide) (.int .i64 (g : Nat))).set 6 (by decide) (.int .i64 t)).set 8 (by decide) (.int .i64 vv))
    refine gen_calls (F := fun W => TS w W [.int .i64 (K : Nat), .string ByteArray.empty, .int .i64 0, .int .i64 0, .slice none 0 0, .int .i64 (g : Nat), .int .i64 t, .int .i64 0, .int .i64 vv] (.slice none 0 0) []) ht3 ?_
    intro w3 ht4
    have T3 := Lib.hid ht4
    clear ht3 ht4 r0 r1 r2 r3 r4 r5 r6 r7 r8 q5 q6 q8 c1 n1
    have hRT : TT = if rRight (⟨(K : Nat), [], 0, 0, [], (g : Nat), t, 0, vv⟩) = true ∧ rBytes (⟨(K : Nat), [], 0, 0, [], (g : Nat), t, 0, vv⟩) = l then ((⟨(K : Nat), [], 0, 0, [], (g : Nat), t, 0, vv⟩), 0) else (PR.zero, 7) := by
      rw [← HT.out]
      rw [← SP.rRead_three HKK.out HK2.out Hg.out Hg2.out Ht.out Hvv.out]; exact rTake_read l
    obtain ⟨RR, hRR⟩ : ∃ r : PR, (⟨(K : Nat), [], 0, 0, [], (g : Nat), t, 0, vv⟩) = r := ⟨_, rfl⟩
    have hrk : Bytes RR.path ∧ RR.rungs.length ≤ 100000 := by rw [← hRR]; exact ⟨fun _ h => (by cases h), Nat.zero_le _⟩
    have hrcv : ∀ W, RgNew (w.heap.size + 2) W (.slice none 0 0) [] → RcNew w.heap.size W (.agg #[.int .i64 (K : Nat), .string ByteArray.empty, .int .i64 0, .int .i64 0, .slice none 0 0, .int .i64 (g : Nat), .int .i64 t, .int .i64 0, .int .i64 vv]) RR := fun W h => by rw [← hRR]; exact rc_plain _ _ _ _ _ _ _
    rw [hRR] at hRT
    have hcs : (rRight RR = true ∧ rPut RR = (rBytes RR, 0) ∧ rBytes RR = l ∧ TT = (RR, 0)) ∨ (rRight RR = true ∧ rPut RR = (rBytes RR, 0) ∧ ¬ rBytes RR = l ∧ TT = (PR.zero, 7)) ∨ (rRight RR = false ∧ rPut RR = ([], 1) ∧ TT = (PR.zero, 7)) := by
      unfold rPut
      by_cases h1 : rRight RR = true
      · by_cases h2 : rBytes RR = l
        · exact Or.inl ⟨h1, if_pos h1, h2, by rw [hRT, if_pos ⟨h1, h2⟩]⟩
        · exact Or.inr (Or.inl ⟨h1, if_pos h1, h2, by rw [hRT, if_neg (fun g => h2 g.2)]⟩)
      · exact Or.inr (Or.inr ⟨by simpa using h1, if_neg h1, by rw [hRT, if_neg (fun g => h1 g.1)]⟩)
    have PT := Lib.hid (fun (v : Value) (W : World) (h : RcOut W v RR) => put_c v RR hrk.1 hrk.2 W h)
    have HRK := Lib.hid hrk; have RCV := Lib.hid hrcv; have CASE := Lib.hid hcs
    clear hRT hcs hrcv hrk
    rcases CASE.out with ⟨hr, hP, he, hq⟩ | ⟨hr, hP, he, hq⟩ | ⟨hr, hP, hq⟩
    · rw [hP] at PT
      subst hq
      refine (PT.out _ w3 (RCV.out _ T3.out.row).out).mono ?_; rintro _ w4 ⟨v4, rfl, hn4, hb4⟩
      have T4 := Lib.hid (T3.out.next hb4)
      have D4 := Lib.hid T4.out.d0; have B4 := Lib.hid T4.out.below
      obtain ⟨A5, c5, hv5, _, _⟩ := hn4.form
      have hcb := conv_by (rBytes_bytes hr HRK.out.1) (show ByOut w4 (.slice A5 (rBytes RR).length c5) (rBytes RR) by rw [← hv5]; exact hn4.out)
      have hcp := conv_by HB.out (show ByOut w4 (.slice (some ⟨b, off, none⟩) n c) l by have := HO.out.below B4.out; rw [HL.out] at this; exact this)
      have hse := strB_eq (rBytes_bytes hr HRK.out.1) HB.out
      obtain ⟨n5, hn5⟩ : ∃ n, (rBytes RR).length = n := ⟨_, rfl⟩
      rw [hn5] at hv5 hcb
      subst hv5
      rw [decide_eq_true he] at hse
      obtain ⟨sb, hsb⟩ : ∃ s, strB (rBytes RR) = s := ⟨_, rfl⟩
      obtain ⟨sp, hsp⟩ : ∃ s, strB l = s := ⟨_, rfl⟩
      rw [hsb, hsp] at hse
      rw [hsb] at hcb
      rw [hsp] at hcp
      clear hn4 hb4 hsb hsp hn5
      clear hr hP he
      have hse2 : (sb.toList != sp.toList) = false := by simp only [bne, hse]; rfl
      obtain ⟨y0, y1, y2, y3, y4, y5, y6, y7, y8⟩ := Holds.nine T4.out.bx
      go_wp2_with (refine wpList_put rfl 24 _ _ rfl w.heap.size [.int .i64 (K : Nat), .string ByteArray.empty, .int .i64 0, .int .i64 0, .slice none 0 0, .int .i64 (g : Nat), .int .i64 t, .int .i64 0, .int .i64 vv] rfl rfl D4.out (by kernel_rfl) (by simp [Value.oneCell']) ?_; intro w9 hp9; obtain ⟨x0, x1, x2, x3, x4, x5, x6, x7, x8⟩ := Holds.nine hp9.at_; have B9 := Lib.hid (hp9.below (Nat.le_refl _) B4.out); have R9 := Lib.hid (RCV.out _ (T4.out.row.grown hp9.grown (fun g e => by injection e; omega))); clear hp9)
      exact bodyPost_ret (v := .tuple #[.agg #[.int .i64 (K : Nat), .string ByteArray.empty, .int .i64 0, .int .i64 0, .slice none 0 0, .int .i64 (g : Nat), .int .i64 t, .int .i64 0, .int .i64 vv], .int .i64 0]) (by simp [results, Tryd.results36, go_sem, x0, x1, x2, x3, x4, x5, x6, x7, x8]) rfl ⟨_, rfl, R9.out, B9.out⟩
    · rw [hP] at PT
      subst hq
      refine (PT.out _ w3 (RCV.out _ T3.out.row).out).mono ?_; rintro _ w4 ⟨v4, rfl, hn4, hb4⟩
      have T4 := Lib.hid (T3.out.next hb4)
      have D4 := Lib.hid T4.out.d0; have B4 := Lib.hid T4.out.below
      obtain ⟨A5, c5, hv5, _, _⟩ := hn4.form
      have hcb := conv_by (rBytes_bytes hr HRK.out.1) (show ByOut w4 (.slice A5 (rBytes RR).length c5) (rBytes RR) by rw [← hv5]; exact hn4.out)
      have hcp := conv_by HB.out (show ByOut w4 (.slice (some ⟨b, off, none⟩) n c) l by have := HO.out.below B4.out; rw [HL.out] at this; exact this)
      have hse := strB_eq (rBytes_bytes hr HRK.out.1) HB.out
      obtain ⟨n5, hn5⟩ : ∃ n, (rBytes RR).length = n := ⟨_, rfl⟩
      rw [hn5] at hv5 hcb
      subst hv5
      rw [decide_eq_false he] at hse
      obtain ⟨sb, hsb⟩ : ∃ s, strB (rBytes RR) = s := ⟨_, rfl⟩
      obtain ⟨sp, hsp⟩ : ∃ s, strB l = s := ⟨_, rfl⟩
      rw [hsb, hsp] at hse
      rw [hsb] at hcb
      rw [hsp] at hcp
      clear hn4 hb4 hsb hsp hn5
      clear hr hP he
      have hse2 : (sb.toList != sp.toList) = true := by simp only [bne, hse]; rfl
      go_wp2_with (refine wpList_put rfl 24 _ _ rfl w.heap.size [.int .i64 0, .string ByteArray.empty, .int .i64 0, .int .i64 0, .slice none 0 0, .int .i64 0, .int .i64 0, .int .i64 0, .int .i64 0] rfl rfl D4.out (by kernel_rfl) (by simp [Value.oneCell']) ?_; intro w9 hp9; obtain ⟨x0, x1, x2, x3, x4, x5, x6, x7, x8⟩ := Holds.nine hp9.at_; have B9 := Lib.hid (hp9.below (Nat.le_refl _) B4.out); clear hp9)
      exact bodyPost_ret (v := .tuple #[.agg #[.int .i64 0, .string ByteArray.empty, .int .i64 0, .int .i64 0, .slice none 0 0, .int .i64 0, .int .i64 0, .int .i64 0, .int .i64 0], .int .i64 7]) (by simp [results, Tryd.results36, go_sem, x0, x1, x2, x3, x4, x5, x6, x7, x8]) rfl ⟨_, rfl, rc_plain _ _ _ _ _ _ _, B9.out⟩
    · rw [hP] at PT
      subst hq
      refine (PT.out _ w3 (RCV.out _ T3.out.row).out).mono ?_; rintro _ w4 ⟨v4, rfl, hn4, hb4⟩
      have T4 := Lib.hid (T3.out.next hb4)
      have D4 := Lib.hid T4.out.d0; have B4 := Lib.hid T4.out.below
      clear hn4 hb4 hr hP
      go_wp2_with (refine wpList_put rfl 24 _ _ rfl w.heap.size [.int .i64 0, .string ByteArray.empty, .int .i64 0, .int .i64 0, .slice none 0 0, .int .i64 0, .int .i64 0, .int .i64 0, .int .i64 0] rfl rfl D4.out (by kernel_rfl) (by simp [Value.oneCell']) ?_; intro w9 hp9; obtain ⟨x0, x1, x2, x3, x4, x5, x6, x7, x8⟩ := Holds.nine hp9.at_; have B9 := Lib.hid (hp9.below (Nat.le_refl _) B4.out); clear hp9)
      exact bodyPost_ret (v := .tuple #[.agg #[.int .i64 0, .string ByteArray.empty, .int .i64 0, .int .i64 0, .slice none 0 0, .int .i64 0, .int .i64 0, .int .i64 0, .int .i64 0], .int .i64 7]) (by simp [results, Tryd.results36, go_sem, x0, x1, x2, x3, x4, x5, x6, x7, x8]) rfl ⟨_, rfl, rc_plain _ _ _ _ _ _ _, B9.out⟩
end Go.Proofs.YtabbpgnenmpacaaDoor.SR
