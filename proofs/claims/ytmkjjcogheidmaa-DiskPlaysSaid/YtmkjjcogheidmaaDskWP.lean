/-
  The statements of layer 6, walked: DiskPlays.
-/
import Derived.Test.YtmkjjcogheidmaaDskWC
import Derived.Test.YtmkjjcogheidmaaDskWD
set_option linter.unusedSimpArgs false
set_option linter.unusedVariables false
namespace Go.Proofs.Ytmkjjcogheidmaa.DW
open Go.RowKit
theorem play_inv {D : PD} (h : PInv D) {s : PSt} (hs : StOk s) : PInv (pPlay D s).1 := by
  unfold pPlay
  split
  · exact h.create (okNm _)
  split
  · exact h.append _ hs.2.2.2
  split
  · exact h.sync _
  split
  · exact h.rename (okNm _) (okNm _)
  split
  · exact h.remove (okNm _)
  · exact h.syncDir
/-- What a step keeps: the quota, few moves, and all of it beside an error. -/
structure Kept (D : PD) (X : PD × Int) : Prop where
  quota : X.1.quota = D.quota
  moves : X.1.moves.length ≤ D.moves.length + 1
  next : X.1.next ≤ D.next + 1
  files : X.1.files.length ≤ D.files.length + 1
  err : X.2 ≠ 0 → X.1 = D
theorem Kept.same (D : PD) (r : Int) : Kept D (D, r) := ⟨rfl, Nat.le_succ _, Nat.le_succ _, Nat.le_succ _, fun _ => rfl⟩
theorem kept_moved (D : PD) (m : PM) : Kept D (pMoved D m, 0) := ⟨rfl, by show (D.moves ++ [m]).length ≤ _; simp, Nat.le_succ _, Nat.le_succ _, fun h => absurd rfl h⟩
theorem kept_create (D : PD) (s : ByteArray) : Kept D (pCreate D s) := by
  unfold pCreate
  split
  · exact Kept.same D _
  split
  · exact Kept.same D _
  · exact ⟨rfl, by show (D.moves ++ [_]).length ≤ _; simp, Nat.le_refl _, by show (D.files ++ [_]).length ≤ _; simp, fun h => absurd rfl h⟩
theorem kept_append (D : PD) (s : ByteArray) (b : List Nat) : Kept D (pAppend D s b) := by
  unfold pAppend
  split
  · exact Kept.same D _
  split
  · exact Kept.same D _
  · exact ⟨rfl, Nat.le_succ _, Nat.le_succ _, by show (D.files.map _).length ≤ _; simp, fun h => absurd rfl h⟩
theorem kept_play (D : PD) (s : PSt) : Kept D (pPlay D s) := by
  unfold pPlay
  split
  · exact kept_create D _
  split
  · exact kept_append D _ _
  split
  · unfold pSync
    split
    · exact Kept.same D _
    · exact ⟨rfl, Nat.le_succ _, Nat.le_succ _, by show (D.files.map _).length ≤ _; simp, fun h => absurd rfl h⟩
  split
  · unfold pRename
    split
    · exact Kept.same D _
    split
    · exact Kept.same D _
    · exact kept_moved D _
  split
  · unfold pRemove
    split
    · exact Kept.same D _
    · exact kept_moved D _
  · exact ⟨rfl, Nat.zero_le _, Nat.le_succ _, Nat.le_succ_of_le (List.length_filter_le _ _), fun h => absurd rfl h⟩
theorem nodup_le : ∀ {a b : List Nat}, a.Nodup → (∀ i ∈ a, i ∈ b) → a.length ≤ b.length
  | [], _, _, _ => Nat.zero_le _
  | x :: r, b, h, hs => by
    have h2 := List.nodup_cons.1 h
    have hx := hs x List.mem_cons_self
    have ih := nodup_le (a := r) (b := b.erase x) h2.2 fun i hi => (List.mem_erase_of_ne (fun e => by rw [e] at hi; exact h2.1 hi)).2 (hs i (List.mem_cons_of_mem _ hi))
    have hl := List.length_erase_of_mem hx
    have hp := List.length_pos_of_mem hx
    rw [List.length_cons]
    omega
theorem names_le {D : PD} (h : PInv D) : D.names.length ≤ 256 := by
  have hd := h.dir
  have h1 : (D.names.map PN.id).length ≤ (D.files.map PF.id).length := nodup_le hd.nd (fun i hi => by obtain ⟨n, hn, e⟩ := List.mem_map.1 hi; rw [← e]; exact hd.sub n hn)
  rw [List.length_map, List.length_map] at h1
  exact Nat.le_trans h1 h.f256
theorem kept_le {D : PD} (h : PInv D) : D.kept.length ≤ 256 := by
  have h1 : (D.kept.map PN.id).length ≤ (D.files.map PF.id).length := nodup_le h.kept.nd (fun i hi => (h.ids i).1 (sub_mRunIds hi))
  rw [List.length_map, List.length_map] at h1
  exact Nat.le_trans h1 h.f256
theorem mem_used {l : List PF} {f : PF} (h : f ∈ l) : f.bytes.length ≤ usedF l := by
  induction l with
  | nil => exact absurd h (by simp)
  | cons x r ih =>
    show f.bytes.length ≤ x.bytes.length + usedF r
    rcases List.mem_cons.1 h with rfl | h
    · omega
    · have := ih h; omega
/-- A variable that holds a value of several cells. -/
def VarAt (w : World) (b : Nat) (v : Value) : Prop := Holds w b (match v with | .agg a => a.toList | _ => [])
/-- What holds ahead of each step. -/
structure PlayR (l : List PSt) (qn : Nat) (w : World) (bd k : Nat) (wr : World) (v : Value) (D : PD) : Prop where
  below : Below w.heap.size w wr
  var : DVar wr bd 6
  holds : VarAt wr bd v
  out : DkOut (fun g => g ≠ bd) wr v D
  inv : PInv D
  quota : D.quota = qn
  few : D.moves.length ≤ k
theorem wSum_mem {l : List PSt} {s : PSt} (h : s ∈ l) : min s.data.length 10000 ≤ wSum l := by
  induction l with
  | nil => exact absurd h (by simp)
  | cons x r ih =>
    show _ ≤ 1 + min x.data.length 10000 + wSum r
    rcases List.mem_cons.1 h with rfl | h
    · omega
    · have := ih h; omega
theorem held10 {w w' : World} {b0 o0 b1 o1 b2 o2 b3 o3 b4 o4 b5 o5 b6 o6 b7 o7 b8 o8 b9 o9 : Nat} {v0 v1 v2 v3 v4 v5 v6 v7 v8 v9 : Value} (h : w.cell? ⟨b0, o0, none⟩ = some v0 ∧ w.cell? ⟨b1, o1, none⟩ = some v1 ∧ w.cell? ⟨b2, o2, none⟩ = some v2 ∧ w.cell? ⟨b3, o3, none⟩ = some v3 ∧ w.cell? ⟨b4, o4, none⟩ = some v4 ∧ w.cell? ⟨b5, o5, none⟩ = some v5 ∧ w.cell? ⟨b6, o6, none⟩ = some v6 ∧ w.cell? ⟨b7, o7, none⟩ = some v7 ∧ w.cell? ⟨b8, o8, none⟩ = some v8 ∧ w.cell? ⟨b9, o9, none⟩ = some v9) (hb : Below w.heap.size w w') :
    w'.cell? ⟨b0, o0, none⟩ = some v0 ∧ w'.cell? ⟨b1, o1, none⟩ = some v1 ∧ w'.cell? ⟨b2, o2, none⟩ = some v2 ∧ w'.cell? ⟨b3, o3, none⟩ = some v3 ∧ w'.cell? ⟨b4, o4, none⟩ = some v4 ∧ w'.cell? ⟨b5, o5, none⟩ = some v5 ∧ w'.cell? ⟨b6, o6, none⟩ = some v6 ∧ w'.cell? ⟨b7, o7, none⟩ = some v7 ∧ w'.cell? ⟨b8, o8, none⟩ = some v8 ∧ w'.cell? ⟨b9, o9, none⟩ = some v9 := ⟨cell_below hb h.1, cell_below hb h.2.1, cell_below hb h.2.2.1, cell_below hb h.2.2.2.1, cell_below hb h.2.2.2.2.1, cell_below hb h.2.2.2.2.2.1, cell_below hb h.2.2.2.2.2.2.1, cell_below hb h.2.2.2.2.2.2.2.1, cell_below hb h.2.2.2.2.2.2.2.2.1, cell_below hb h.2.2.2.2.2.2.2.2.2⟩
theorem held10k {B : Nat} {w w' : World} {b0 o0 b1 o1 b2 o2 b3 o3 b4 o4 b5 o5 b6 o6 b7 o7 b8 o8 b9 o9 : Nat} {v0 v1 v2 v3 v4 v5 v6 v7 v8 v9 : Value} (h : w.cell? ⟨b0, o0, none⟩ = some v0 ∧ w.cell? ⟨b1, o1, none⟩ = some v1 ∧ w.cell? ⟨b2, o2, none⟩ = some v2 ∧ w.cell? ⟨b3, o3, none⟩ = some v3 ∧ w.cell? ⟨b4, o4, none⟩ = some v4 ∧ w.cell? ⟨b5, o5, none⟩ = some v5 ∧ w.cell? ⟨b6, o6, none⟩ = some v6 ∧ w.cell? ⟨b7, o7, none⟩ = some v7 ∧ w.cell? ⟨b8, o8, none⟩ = some v8 ∧ w.cell? ⟨b9, o9, none⟩ = some v9) (hk : KeepS (fun g => g ≠ B) w w') (s0 : b0 ≠ B) (s1 : b1 ≠ B) (s2 : b2 ≠ B) (s3 : b3 ≠ B) (s4 : b4 ≠ B) (s5 : b5 ≠ B) (s6 : b6 ≠ B) (s7 : b7 ≠ B) (s8 : b8 ≠ B) (s9 : b9 ≠ B) :
    w'.cell? ⟨b0, o0, none⟩ = some v0 ∧ w'.cell? ⟨b1, o1, none⟩ = some v1 ∧ w'.cell? ⟨b2, o2, none⟩ = some v2 ∧ w'.cell? ⟨b3, o3, none⟩ = some v3 ∧ w'.cell? ⟨b4, o4, none⟩ = some v4 ∧ w'.cell? ⟨b5, o5, none⟩ = some v5 ∧ w'.cell? ⟨b6, o6, none⟩ = some v6 ∧ w'.cell? ⟨b7, o7, none⟩ = some v7 ∧ w'.cell? ⟨b8, o8, none⟩ = some v8 ∧ w'.cell? ⟨b9, o9, none⟩ = some v9 := ⟨(hk _ _ s0).trans h.1, (hk _ _ s1).trans h.2.1, (hk _ _ s2).trans h.2.2.1, (hk _ _ s3).trans h.2.2.2.1, (hk _ _ s4).trans h.2.2.2.2.1, (hk _ _ s5).trans h.2.2.2.2.2.1, (hk _ _ s6).trans h.2.2.2.2.2.2.1, (hk _ _ s7).trans h.2.2.2.2.2.2.2.1, (hk _ _ s8).trans h.2.2.2.2.2.2.2.2.1, (hk _ _ s9).trans h.2.2.2.2.2.2.2.2.2⟩
/-- What holds when a step was played, its answer in a variable of its own. -/
structure StepR (w y : World) (bd bx : Nat) (v vx : Value) (D D' : PD) : Prop where
  below : Below w.heap.size w y
  var : DVar y bd 6
  holds : VarAt y bd v
  out : DkOut (fun g => g ≠ bd) y v D
  xholds : VarAt y bx vx
  xout : DkOut (fun g => g ≠ bd) y vx D'
theorem StepR.step {w y y2 : World} {bd bx : Nat} {v vx : Value} {D D' : PD} (h : StepR w y bd bx v vx D D') (hb : Below y.heap.size y y2) : StepR w y2 bd bx v vx D D' :=
  ⟨bnext h.below hb, DVar.below hb h.var, h.holds.below hb, h.out.below hb, h.xholds.below hb, h.xout.below hb⟩
theorem DkIn.play {W : World} {bd : Nat} {v : Value} {D : PD} {k : Nat} (ho : DkOut (fun g => g ≠ bd) W v D) (hi : PInv D) (hf : D.moves.length ≤ k) (hk : k ≤ 200) : DkIn (fun g => g ≠ bd ∧ g < W.heap.size) W v D :=
  ⟨ho.mono fun g hg h => ⟨h, hg⟩, hi, Nat.le_trans hf hk⟩
theorem stepR_a {w W w4 y : World} {bd : Nat} {v vx : Value} {D D' : PD} {o : Obj} {cs : List Value} (hw : Below w.heap.size w W) (hv : DVar W bd 6) (hh : VarAt W bd v) (ho : DkOut (fun g => g ≠ bd) W v D)
    (hx : DkOut (fun g => (g ≠ bd ∧ g < W.heap.size) ∨ W.heap.size ≤ g) w4 vx D') (hb : Below W.heap.size W w4) (hp : Put (w4.alloc o) y w4.heap.size cs) (hc : vx = .agg cs.toArray) : StepR w y bd w4.heap.size v vx D D' := by
  have al := alloc_below w4 o
  have l4 : bd < w4.heap.size := Nat.lt_of_lt_of_le hv.lt hb.size
  have hwb : w.heap.size ≤ w4.heap.size := Nat.le_trans hw.size hb.size
  have v2 := DVar.below al (DVar.below hb hv)
  refine ⟨hp.below hwb (bnext (bnext hw hb) al), ⟨?_, fun i hi => ?_, fun i hi => ?_⟩, (((hh.below hb).below al).keep hp.keep (Nat.ne_of_lt l4) : Holds _ _ _), ?_, ?_, ?_⟩
  · rw [hp.size]; exact v2.lt
  · obtain ⟨u, hu⟩ := v2.c i hi
    exact ⟨u, (hp.keep bd i (Nat.ne_of_lt l4)).trans hu⟩
  · exact (hp.frozen bd i).trans (v2.f i hi)
  · exact ((((ho.below hb).mono (S' := fun g => g ≠ bd ∧ g < w4.heap.size) fun g hg h => ⟨h, hg⟩).below al).keep fun a b h => hp.keep a b (Nat.ne_of_lt h.2)).mono fun _ _ h => h.1
  · rw [hc]; exact (hp.at_ : Holds _ _ _)
  · exact (((hx.mono (S' := fun g => g ≠ bd ∧ g < w4.heap.size) fun g hg h => ⟨h.elim (fun h => h.1) fun h => Nat.ne_of_gt (Nat.lt_of_lt_of_le hv.lt h), hg⟩).below al).keep fun a b h => hp.keep a b (Nat.ne_of_lt h.2)).mono fun _ _ h => h.1
theorem stepR_b {w W w4 y : World} {bd : Nat} {v vx : Value} {D D' : PD} {o : Obj} {cs : List Value} (hw : Below w.heap.size w W) (hv : DVar W bd 6) (hh : VarAt W bd v) (ho : DkOut (fun g => g ≠ bd) W v D)
    (hx : DkOut (fun g => (g ≠ bd ∧ g < W.heap.size) ∨ (W.alloc o).heap.size ≤ g) w4 vx D') (hb : Below (W.alloc o).heap.size (W.alloc o) w4) (hp : Put w4 y W.heap.size cs) (hc : vx = .agg cs.toArray) : StepR w y bd W.heap.size v vx D D' := by
  have al := alloc_below W o
  have ea : (W.alloc o).heap.size = W.heap.size + 1 := by simp
  have l4 := hv.lt
  have v2 := DVar.below hb (DVar.below al hv)
  refine ⟨hp.below hw.size (bnext (bnext hw al) hb), ⟨?_, fun i hi => ?_, fun i hi => ?_⟩, (((hh.below al).below hb).keep hp.keep (Nat.ne_of_lt l4) : Holds _ _ _), ?_, ?_, ?_⟩
  · rw [hp.size]; exact v2.lt
  · obtain ⟨u, hu⟩ := v2.c i hi
    exact ⟨u, (hp.keep bd i (Nat.ne_of_lt l4)).trans hu⟩
  · exact (hp.frozen bd i).trans (v2.f i hi)
  · exact (((((ho.mono (S' := fun g => g ≠ bd ∧ g < W.heap.size) fun g hg h => ⟨h, hg⟩).below al).below hb)).keep fun a b h => hp.keep a b (Nat.ne_of_lt h.2)).mono fun _ _ h => h.1
  · rw [hc]; exact (hp.at_ : Holds _ _ _)
  · refine ((hx.mono (S' := fun g => g ≠ bd ∧ g ≠ W.heap.size) fun g hg h => ?_).keep fun a b h => hp.keep a b h.2).mono fun _ _ h => h.1
    rcases h with h | h
    · exact ⟨h.1, Nat.ne_of_lt h.2⟩
    · rw [ea] at h; exact ⟨by omega, by omega⟩
set_option maxRecDepth 100000 in
set_option maxHeartbeats 4000000 in
theorem diskPlays_c {v : Value} {l : List PSt} {w : World} (qn : Nat) (hqn : qn < 256) (hl : l.length ≤ 9223372036854775807) (hd : ∀ s ∈ l, s.data.length ≤ 9223372036854775807) (hs : ∀ s ∈ l, StOk s) (h : StOut w v l) :
    Calls Try.prog 3 #[v, .int .u8 (qn : Nat)] w fun e w' => e = .returned (.bool true) ∧ Below w.heap.size w w' := by
  have AL := Lib.hid (alive_c w)
  have MN := Lib.hid (fun y (b : Below w.heap.size w y) => many_c hl hd (StOut.below h b))
  have ST := Lib.hid h
  obtain ⟨A, c, rfl, hc, _⟩ := id h
  obtain ⟨n, hn⟩ : ∃ n, l.length = n := ⟨_, rfl⟩
  have HN := Lib.hid hn; have HS := Lib.hid hs; have HD := Lib.hid hd
  rw [hn] at hl hc MN ST ⊢
  clear h hn hs hd
  have hq0 : (0 : Int) ≤ (qn : Int) ∧ (qn : Int) < 256 := by omega
  go_enter Try.func3, Try.ntmps3
  go_wp2_with fail
  refine AL.out.mono ?_; rintro _ w1 ⟨rfl, hb⟩
  have B1 := Lib.hid hb
  clear hb AL
  go_wp2_with fail
  refine (MN.out _ B1.out).mono ?_; rintro _ w2 ⟨r, rfl, hr, rfl⟩
  cases r with
  | true =>
    go_wp2
    go_ret
    exact ⟨rfl, B1.out⟩
  | false =>
    have hr2 := hr rfl
    rw [HN.out] at hr2
    have hn60 : n ≤ 60 := hr2.1
    have HW := Lib.hid hr2.2
    clear hr hr2 MN
    go_wp2_with fail
    refine (DP.new_c (S := fun _ => False) qn (by omega) _).mono ?_; rintro _ w3 ⟨v3, rfl, ho, hb⟩
    obtain ⟨q, A1, n1, c1, A2, n2, c2, A3, n3, c3, A4, n4, c4, x, rfl⟩ := ho.form
    have B3 := Lib.hid (bnext (bnext B1.out hb) (alloc_below w3 (.cells #[.int .i64 0, .slice none 0 0, .slice none 0 0, .slice none 0 0, .slice none 0 0, .int .i64 0] 29))); have D3 := Lib.hid (ho.apart.below (alloc_below w3 (.cells #[.int .i64 0, .slice none 0 0, .slice none 0 0, .slice none 0 0, .slice none 0 0, .int .i64 0] 29))); have hbd : w.heap.size ≤ w3.heap.size := (bnext B1.out hb).size
    clear ho hb
    go_wp2_with (refine wpList_put rfl 29 _ _ rfl w3.heap.size _ rfl rfl (DVar.alloc _ _) (by kernel_rfl) (by simp [Value.oneCell']) ?_; intro y hp)
    have R0 := Lib.hid (⟨hp.below hbd B3.out, hp.var, hp.at_, D3.out.keep hp.keep, PInv.new (by omega), rfl, Nat.zero_le _⟩ : PlayR l qn w w3.heap.size 0 y (.agg #[.int .i64 q, .slice A1 n1 c1, .slice A2 n2 c2, .slice A3 n3 c3, .slice A4 n4 c4, .int .i64 x]) (pNew qn))
    obtain ⟨bd, hbde⟩ : ∃ b, w3.heap.size = b := ⟨_, rfl⟩
    rw [hbde] at R0 hbd ⊢
    clear hp B3 D3 B1 hbde
    go_wp2_with fail
    go_loopw [4, 7, 8, 9] (fun u4 i u8 u9 wr => ∃ (k : Nat) (v : Value) (D : PD), k ≤ n ∧ i = .int .i64 k ∧ Hid (PlayR l qn w bd k wr v D)) (fun _ i _ _ _ => n - (intOf i).toNat)
    case atStart => exact ⟨0, _, _, Nat.zero_le _, rfl, R0⟩
    case round =>
      obtain ⟨k, v, D, hk, rfl, HR⟩ := hrel
      clear R0 
      by_cases hlt : k < n
      · obtain ⟨q, A1, n1, c1, A2, n2, c2, A3, n3, c3, A4, n4, c4, x, rfl⟩ := HR.out.out.form
        have hS0 := Holds.six (show Holds wr bd [.int .i64 q, .slice A1 n1 c1, .slice A2 n2 c2, .slice A3 n3 c3, .slice A4 n4 c4, .int .i64 x] from HR.out.holds)
        obtain ⟨b, o, rfl, s, hs, e0, e1, e2, u, e3, hu⟩ := SlOut.nth' (StOut.below ST.out HR.out.below) (show k < l.length from by rw [HN.out]; exact hlt)
        obtain ⟨Z, z, rfl, _, _⟩ := id hu
        have HU := Lib.hid hu
        have SOK := Lib.hid (HS.out s (List.mem_of_getElem? hs))
        have SLEN : s.data.length ≤ 100000 := by have h1 := wSum_mem (List.mem_of_getElem? hs); have h2 := HW.out; omega
        have hbl : b < wr.heap.size := World.block_lt_of_cell? wr _ e0
        have hbdl : bd < wr.heap.size := HR.out.var.lt
        clear hu hs
        have hi0 : (0 : Int) ≤ (k : Int) := by omega
        have hi1 : (k : Int) < (n : Int) := by omega
        go_wp2_with fail
        have IN := Lib.hid (DkIn.play (HR.out.out.below (Below.refl _ _).drew : DkOut (fun g => g ≠ bd) wr.drew (.agg #[.int .i64 q, .slice A1 n1 c1, .slice A2 n2 c2, .slice A3 n3 c3, .slice A4 n4 c4, .int .i64 x]) D) HR.out.inv HR.out.few (by omega))
        have hwd := Lib.hid (show Below w.heap.size w wr.drew from HR.out.below.drew)
        have VD := Lib.hid (show DVar wr.drew bd 6 from ⟨HR.out.var.lt, HR.out.var.c, HR.out.var.f⟩)
        have HD2 := Lib.hid (show VarAt wr.drew bd (.agg #[.int .i64 q, .slice A1 n1 c1, .slice A2 n2 c2, .slice A3 n3 c3, .slice A4 n4 c4, .int .i64 x]) from HR.out.holds)
        have OD := Lib.hid (HR.out.out.below (Below.refl _ _).drew : DkOut (fun g => g ≠ bd) wr.drew (.agg #[.int .i64 q, .slice A1 n1 c1, .slice A2 n2 c2, .slice A3 n3 c3, .slice A4 n4 c4, .int .i64 x]) D)
        refine wp_region_held_drew (S := fun y => y.cell? ⟨bd, 0, none⟩ = some (.int .i64 q) ∧ y.cell? ⟨bd, 1, none⟩ = some (.slice A1 n1 c1) ∧ y.cell? ⟨bd, 2, none⟩ = some (.slice A2 n2 c2) ∧ y.cell? ⟨bd, 3, none⟩ = some (.slice A3 n3 c3) ∧ y.cell? ⟨bd, 4, none⟩ = some (.slice A4 n4 c4) ∧ y.cell? ⟨bd, 5, none⟩ = some (.int .i64 x) ∧ y.cell? ⟨b, o + k * 4, none⟩ = some (.int .u8 ((s.kind : Nat) : Int)) ∧ y.cell? ⟨b, o + k * 4 + 1, none⟩ = some (.int .u8 ((s.name : Nat) : Int)) ∧ y.cell? ⟨b, o + k * 4 + 2, none⟩ = some (.int .u8 ((s.to : Nat) : Int)) ∧ y.cell? ⟨b, o + k * 4 + 3, none⟩ = some (.slice Z s.data.length z)) (by kernel_rfl) ?hs (fun hHeld => ?hr)
        case hs => exact ⟨hS0.1, hS0.2.1, hS0.2.2.1, hS0.2.2.2.1, hS0.2.2.2.2.1, hS0.2.2.2.2.2, e0, e1, e2, e3⟩
        case hr =>
          clear hS0 e0 e1 e2 e3
          refine wpAnyH_take (i := 0) (v := .agg #[.int .i64 q, .slice A1 n1 c1, .slice A2 n2 c2, .slice A3 n3 c3, .slice A4 n4 c4, .int .i64 x]) rfl (by kernel_rfl) (by kernel_rfl) (by kernel_rfl) (fun _ _ _ h => h) (Or.inl ⟨by rfl, fun w hSw => ?_⟩) (by assumption) ?_
          · ((try dsimp only at hSw); go_simp)
          change wpAnyH _ _ _ _ _ _ _ (Act.put _ (some 27) (.agg #[.int .i64 q, .slice A1 n1 c1, .slice A2 n2 c2, .slice A3 n3 c3, .slice A4 n4 c4, .int .i64 x])) _
          simp only [Act.put, List.setIfInBounds_toArray, List.set_cons_zero, List.set_cons_succ]
          refine wpAnyH_take (i := 1) (v := .slice (some ⟨b, o, none⟩) n c) rfl (by kernel_rfl) (by kernel_rfl) (by kernel_rfl) (fun _ _ _ h => h) (Or.inl ⟨by rfl, fun w hSw => ?_⟩) (by assumption) ?_
          · ((try dsimp only at hSw); go_simp)
          change wpAnyH _ _ _ _ _ _ _ (Act.put _ (some 28) (.slice (some ⟨b, o, none⟩) n c)) _
          simp only [Act.put, List.setIfInBounds_toArray, List.set_cons_zero, List.set_cons_succ]
          refine wpAnyH_take (i := 2) (v := .int .i64 (k : Nat)) rfl (by kernel_rfl) (by kernel_rfl) (by kernel_rfl) (fun _ _ _ h => h) (Or.inl ⟨by rfl, fun w hSw => ?_⟩) (by assumption) ?_
          · ((try dsimp only at hSw); go_simp)
          change wpAnyH _ _ _ _ _ _ _ (Act.put _ (some 29) (.int .i64 (k : Nat))) _
          simp only [Act.put, List.setIfInBounds_toArray, List.set_cons_zero, List.set_cons_succ]
          refine wpAnyH_take (i := 3) (v := .pointer (some ⟨b, o + k * 4, none⟩)) rfl (by kernel_rfl) (by kernel_rfl) (by kernel_rfl) (fun _ _ _ h => h) (Or.inl ⟨by rfl, fun w hSw => ?_⟩) (by assumption) ?_
          · ((try dsimp only at hSw); go_simp)
          change wpAnyH _ _ _ _ _ _ _ (Act.put _ (some 30) (.pointer (some ⟨b, o + k * 4, none⟩))) _
          simp only [Act.put, List.setIfInBounds_toArray, List.set_cons_zero, List.set_cons_succ]
          refine wpAnyH_take (i := 4) (v := .agg #[.int .u8 ((s.kind : Nat) : Int), .int .u8 ((s.name : Nat) : Int), .int .u8 ((s.to : Nat) : Int), .slice Z s.data.length z]) rfl (by kernel_rfl) (by kernel_rfl) (by kernel_rfl) (fun _ _ _ h => h) (Or.inl ⟨by rfl, fun w hSw => ?_⟩) (by assumption) ?_
          · ((try dsimp only at hSw); go_simp)
          change wpAnyH _ _ _ _ _ _ _ (Act.put _ (some 31) (.agg #[.int .u8 ((s.kind : Nat) : Int), .int .u8 ((s.name : Nat) : Int), .int .u8 ((s.to : Nat) : Int), .slice Z s.data.length z])) _
          simp only [Act.put, List.setIfInBounds_toArray, List.set_cons_zero, List.set_cons_succ]
          refine wpAnyH_ready (rs := [5, 9]) (by kernel_rfl) (by simp) ?_
          refine AllReadyH.cons rfl (fun K hK => ?_) (AllReadyH.cons rfl (fun K hK => ?_) AllReadyH.nil)
          · go_simp
            refine (play_c (S := fun g => g ≠ bd ∧ g < wr.heap.size) IN.out s SOK.out SLEN (HU.out.below (Below.refl _ _).drew)).mono ?_; rintro _ w4 ⟨v4, rfl, ho, hb⟩; obtain ⟨q5, E1, i1, j1, E2, i2, j2, E3, i3, j3, E4, i4, j4, x5, rfl⟩ := ho.form
            have HB := Lib.hid hb; have HO := Lib.hid ho
            clear hb ho
            (try go_wp2_with fail)
            refine hK.out _ _ (held10 hHeld HB.out) (fun hHeld => ?_)
            clear hK K
            try simp only [Act.put, List.setIfInBounds_toArray, List.set_cons_zero, List.set_cons_succ]
            refine wpAnyH_take (i := 6) (v := .tuple #[.agg #[.int .i64 q5, .slice E1 i1 j1, .slice E2 i2 j2, .slice E3 i3 j3, .slice E4 i4 j4, .int .i64 x5], .int .i64 (pPlay D s).2]) rfl (by kernel_rfl) (by kernel_rfl) (by kernel_rfl) (fun _ _ _ h => h) (Or.inl ⟨by rfl, fun w hSw => ?_⟩) (by assumption) ?_
            · ((try dsimp only at hSw); go_simp)
            change wpAnyH _ _ _ _ _ _ _ (Act.put _ (some 26) (.tuple #[.agg #[.int .i64 q5, .slice E1 i1 j1, .slice E2 i2 j2, .slice E3 i3 j3, .slice E4 i4 j4, .int .i64 x5], .int .i64 (pPlay D s).2])) _
            simp only [Act.put, List.setIfInBounds_toArray, List.set_cons_zero, List.set_cons_succ]
            refine wpAnyH_take (i := 7) (v := .agg #[.int .i64 q5, .slice E1 i1 j1, .slice E2 i2 j2, .slice E3 i3 j3, .slice E4 i4 j4, .int .i64 x5]) rfl (by kernel_rfl) (by kernel_rfl) (by kernel_rfl) (fun _ _ _ h => h) (Or.inl ⟨by rfl, fun w hSw => ?_⟩) (by assumption) ?_
            · ((try dsimp only at hSw); go_simp)
            change wpAnyH _ _ _ _ _ _ _ (Act.put _ (some 33) (.agg #[.int .i64 q5, .slice E1 i1 j1, .slice E2 i2 j2, .slice E3 i3 j3, .slice E4 i4 j4, .int .i64 x5])) _
            simp only [Act.put, List.setIfInBounds_toArray, List.set_cons_zero, List.set_cons_succ]
            refine wpAnyH_take (i := 8) (v := .int .i64 (pPlay D s).2) rfl (by kernel_rfl) (by kernel_rfl) (by kernel_rfl) (fun _ _ _ h => h) (Or.inl ⟨by rfl, fun w hSw => ?_⟩) (by assumption) ?_
            · ((try dsimp only at hSw); go_simp)
            change wpAnyH _ _ _ _ _ _ _ (Act.put _ (some 34) (.int .i64 (pPlay D s).2)) _
            simp only [Act.put, List.setIfInBounds_toArray, List.set_cons_zero, List.set_cons_succ]
            refine wpAnyH_ready (rs := [9]) (by kernel_rfl) (by simp) ?_
            refine AllReadyH.cons rfl (fun K hK => ?_) AllReadyH.nil
            go_simp
            refine hK.out _ _ (held10 (by assumption) (alloc_below _ _)) (fun hHeld => ?_)
            clear hK K
            try simp only [Act.put, List.setIfInBounds_toArray, List.set_cons_zero, List.set_cons_succ]
            refine wpAnyH_ready (rs := [10]) (by kernel_rfl) (by simp) ?_
            refine AllReadyH.cons rfl (fun K hK => ?_) AllReadyH.nil
            refine step_put rfl 29 _ _ rfl (w4.heap.size) [.int .i64 q5, .slice E1 i1 j1, .slice E2 i2 j2, .slice E3 i3 j3, .slice E4 i4 j4, .int .i64 x5] rfl rfl (DVar.alloc _ _) (by kernel_rfl) (by simp [Value.oneCell']) ?_
            intro y hp
            have hne1 : bd ≠ w4.heap.size := Nat.ne_of_lt (Nat.lt_of_lt_of_le hbdl HB.out.size)
            have hne2 : b ≠ w4.heap.size := Nat.ne_of_lt (Nat.lt_of_lt_of_le hbl HB.out.size)
            refine hK.out _ _ (held10k (by assumption) hp.keep hne1 hne1 hne1 hne1 hne1 hne1 hne2 hne2 hne2 hne2) (fun hHeld => ?_)
            clear hK K
            try simp only [Act.put, List.setIfInBounds_toArray, List.set_cons_zero, List.set_cons_succ]
            refine wpAnyH_take (i := 11) (v := .int .i64 (pPlay D s).2) rfl (by kernel_rfl) (by kernel_rfl) (by kernel_rfl) (fun _ _ _ h => h) (Or.inl ⟨by rfl, fun w hSw => ?_⟩) (by assumption) ?_
            · ((try dsimp only at hSw); go_simp)
            change wpAnyH _ _ _ _ _ _ _ (Act.put _ (some 9) (.int .i64 (pPlay D s).2)) _
            simp only [Act.put, List.setIfInBounds_toArray, List.set_cons_zero, List.set_cons_succ]
            refine wpAnyH_done (by kernel_rfl) ?_ _
            have SR := Lib.hid (stepR_a hwd.out VD.out HD2.out OD.out HO.out HB.out hp rfl)
            obtain ⟨bx, hbx⟩ : ∃ b, w4.heap.size = b := ⟨_, rfl⟩
            rw [hbx] at SR ⊢
            clear hp hne1 hne2 hbx HO HB
            have KP := kept_play D s
            have INV := Lib.hid (play_inv HR.out.inv SOK.out)
            have hq' : (pPlay D s).1.quota = qn := KP.quota.trans HR.out.quota
            have hm' : (pPlay D s).1.moves.length ≤ k + 1 := Nat.le_trans KP.moves (Nat.succ_le_succ HR.out.few)
            have HERR := Lib.hid KP.err
            obtain ⟨rr, hrr⟩ : ∃ r, (pPlay D s).2 = r := ⟨_, rfl⟩
            rw [hrr] at HERR ⊢
            obtain ⟨D', hD'⟩ : ∃ d, (pPlay D s).1 = d := ⟨_, rfl⟩
            rw [hD'] at HERR SR INV hq' hm'
            clear KP hD' hrr IN hwd VD HD2 OD
            obtain ⟨f0, f1, f2, f3, f4, f5⟩ := Holds.six (show Holds y bx [.int .i64 q5, .slice E1 i1 j1, .slice E2 i2 j2, .slice E3 i3 j3, .slice E4 i4 j4, .int .i64 x5] from SR.out.xholds)
            go_wp2_with fail
            refine (DP.right_c (S := fun g => g ≠ bd) ⟨SR.out.xout, INV.out, by omega⟩).mono ?_; rintro _ y2 ⟨rfl, hb⟩
            have S2 := Lib.hid (SR.out.step hb)
            clear hb f0 f1 f2 f3 f4 f5 SR
            obtain ⟨f0, f1, f2, f3, f4, f5⟩ := Holds.six (show Holds y2 bx [.int .i64 q5, .slice E1 i1 j1, .slice E2 i2 j2, .slice E3 i3 j3, .slice E4 i4 j4, .int .i64 x5] from S2.out.xholds)
            go_wp2_with fail
            refine (DP.used_c (S := fun g => g ≠ bd) ⟨S2.out.xout, INV.out, by omega⟩).mono ?_; rintro _ y3 ⟨rfl, hb⟩
            have S3 := Lib.hid (S2.out.step hb)
            clear hb f0 f1 f2 f3 f4 f5 S2
            have hu2 : ((usedF D'.files : Nat) : Int) ≤ (qn : Int) := by have := INV.out.used; omega
            obtain ⟨us, hus⟩ : ∃ u : Int, ((usedF D'.files : Nat) : Int) = u := ⟨_, rfl⟩
            rw [hus] at hu2 ⊢
            have HQ := Lib.hid hq'; have HM := Lib.hid hm'
            clear hus hq' hm'
            obtain ⟨f0, f1, f2, f3, f4, f5⟩ := Holds.six (show Holds y3 bx [.int .i64 q5, .slice E1 i1 j1, .slice E2 i2 j2, .slice E3 i3 j3, .slice E4 i4 j4, .int .i64 x5] from S3.out.xholds)
            by_cases hr0 : rr = 0
            · subst hr0
              go_wp2_with (refine wpList_put rfl 29 _ _ rfl bd [.int .i64 q5, .slice E1 i1 j1, .slice E2 i2 j2, .slice E3 i3 j3, .slice E4 i4 j4, .int .i64 x5] rfl rfl S3.out.var (by kernel_rfl) (by simp [Value.oneCell']) ?_; intro y4 hp)
              go_roundw
              case rel => exact ⟨k + 1, .agg #[.int .i64 q5, .slice E1 i1 j1, .slice E2 i2 j2, .slice E3 i3 j3, .slice E4 i4 j4, .int .i64 x5], D', by omega, by go_num, Lib.hid ⟨hp.below hbd S3.out.below, hp.var, hp.at_, S3.out.xout.keep hp.keep, INV.out, HQ.out, HM.out⟩⟩
              case measure => simp [intOf]; omega
            · have hb0 : (rr != 0) = true := by simp [hr0]
              obtain rfl := HERR.out hr0
              clear hr0 HERR
              obtain ⟨h0, h1, h2, h3, h4, h5⟩ := Holds.six (show Holds y3 bd [.int .i64 q, .slice A1 n1 c1, .slice A2 n2 c2, .slice A3 n3 c3, .slice A4 n4 c4, .int .i64 x] from S3.out.holds)
              go_wp2_with fail
              refine (same_c (by have := INV.out.f256; omega) (by have := names_le INV.out; omega) (by have := kept_le INV.out; omega) (by have := HM.out; omega) (fun f hf => ⟨(INV.out.fok f hf).2.2.2, by have h1 := mem_used hf; have h2 := INV.out.used; have h3 := INV.out.quota; have h4 := HQ.out; omega⟩) S3.out.xout S3.out.out).mono ?_; rintro _ y5 ⟨rfl, hb⟩
              have S5 := Lib.hid (S3.out.step hb)
              clear hb f0 f1 f2 f3 f4 f5 h0 h1 h2 h3 h4 h5 S3
              obtain ⟨f0, f1, f2, f3, f4, f5⟩ := Holds.six (show Holds y5 bx [.int .i64 q5, .slice E1 i1 j1, .slice E2 i2 j2, .slice E3 i3 j3, .slice E4 i4 j4, .int .i64 x5] from S5.out.xholds)
              go_wp2_with (refine wpList_put rfl 29 _ _ rfl bd [.int .i64 q5, .slice E1 i1 j1, .slice E2 i2 j2, .slice E3 i3 j3, .slice E4 i4 j4, .int .i64 x5] rfl rfl S5.out.var (by kernel_rfl) (by simp [Value.oneCell']) ?_; intro y4 hp)
              go_roundw
              case rel => exact ⟨k + 1, .agg #[.int .i64 q5, .slice E1 i1 j1, .slice E2 i2 j2, .slice E3 i3 j3, .slice E4 i4 j4, .int .i64 x5], D', by omega, by go_num, Lib.hid ⟨hp.below hbd S5.out.below, hp.var, hp.at_, S5.out.xout.keep hp.keep, INV.out, HQ.out, HM.out⟩⟩
              case measure => simp [intOf]; omega
          · go_simp
            refine hK.out _ _ (held10 (by assumption) (alloc_below _ _)) (fun hHeld => ?_)
            clear hK K
            try simp only [Act.put, List.setIfInBounds_toArray, List.set_cons_zero, List.set_cons_succ]
            refine wpAnyH_ready (rs := [5]) (by kernel_rfl) (by simp) ?_
            refine AllReadyH.cons rfl (fun K hK => ?_) AllReadyH.nil
            go_simp
            refine (play_c (S := fun g => g ≠ bd ∧ g < wr.heap.size) ⟨IN.out.at_.below (alloc_below _ _), IN.out.inv, IN.out.few⟩ s SOK.out SLEN (HU.out.below (bnext (Below.refl _ _).drew (alloc_below _ _)))).mono ?_; rintro _ w4 ⟨v4, rfl, ho, hb⟩; obtain ⟨q5, E1, i1, j1, E2, i2, j2, E3, i3, j3, E4, i4, j4, x5, rfl⟩ := ho.form
            have HB := Lib.hid hb; have HO := Lib.hid ho
            clear hb ho
            (try go_wp2_with fail)
            refine hK.out _ _ (held10 (by assumption) HB.out) (fun hHeld => ?_)
            clear hK K
            try simp only [Act.put, List.setIfInBounds_toArray, List.set_cons_zero, List.set_cons_succ]
            refine wpAnyH_take (i := 6) (v := .tuple #[.agg #[.int .i64 q5, .slice E1 i1 j1, .slice E2 i2 j2, .slice E3 i3 j3, .slice E4 i4 j4, .int .i64 x5], .int .i64 (pPlay D s).2]) rfl (by kernel_rfl) (by kernel_rfl) (by kernel_rfl) (fun _ _ _ h => h) (Or.inl ⟨by rfl, fun w hSw => ?_⟩) (by assumption) ?_
            · ((try dsimp only at hSw); go_simp)
            change wpAnyH _ _ _ _ _ _ _ (Act.put _ (some 26) (.tuple #[.agg #[.int .i64 q5, .slice E1 i1 j1, .slice E2 i2 j2, .slice E3 i3 j3, .slice E4 i4 j4, .int .i64 x5], .int .i64 (pPlay D s).2])) _
            simp only [Act.put, List.setIfInBounds_toArray, List.set_cons_zero, List.set_cons_succ]
            refine wpAnyH_take (i := 7) (v := .agg #[.int .i64 q5, .slice E1 i1 j1, .slice E2 i2 j2, .slice E3 i3 j3, .slice E4 i4 j4, .int .i64 x5]) rfl (by kernel_rfl) (by kernel_rfl) (by kernel_rfl) (fun _ _ _ h => h) (Or.inl ⟨by rfl, fun w hSw => ?_⟩) (by assumption) ?_
            · ((try dsimp only at hSw); go_simp)
            change wpAnyH _ _ _ _ _ _ _ (Act.put _ (some 33) (.agg #[.int .i64 q5, .slice E1 i1 j1, .slice E2 i2 j2, .slice E3 i3 j3, .slice E4 i4 j4, .int .i64 x5])) _
            simp only [Act.put, List.setIfInBounds_toArray, List.set_cons_zero, List.set_cons_succ]
            refine wpAnyH_take (i := 8) (v := .int .i64 (pPlay D s).2) rfl (by kernel_rfl) (by kernel_rfl) (by kernel_rfl) (fun _ _ _ h => h) (Or.inl ⟨by rfl, fun w hSw => ?_⟩) (by assumption) ?_
            · ((try dsimp only at hSw); go_simp)
            change wpAnyH _ _ _ _ _ _ _ (Act.put _ (some 34) (.int .i64 (pPlay D s).2)) _
            simp only [Act.put, List.setIfInBounds_toArray, List.set_cons_zero, List.set_cons_succ]
            refine wpAnyH_ready (rs := [10]) (by kernel_rfl) (by simp) ?_
            refine AllReadyH.cons rfl (fun K hK => ?_) AllReadyH.nil
            refine step_put rfl 29 _ _ rfl (wr.heap.size) [.int .i64 q5, .slice E1 i1 j1, .slice E2 i2 j2, .slice E3 i3 j3, .slice E4 i4 j4, .int .i64 x5] rfl rfl (DVar.below HB.out (DVar.alloc (w := wr.drew) _ _)) (by kernel_rfl) (by simp [Value.oneCell']) ?_
            intro y hp
            have hne1 : bd ≠ wr.heap.size := Nat.ne_of_lt hbdl
            have hne2 : b ≠ wr.heap.size := Nat.ne_of_lt hbl
            refine hK.out _ _ (held10k (by assumption) hp.keep hne1 hne1 hne1 hne1 hne1 hne1 hne2 hne2 hne2 hne2) (fun hHeld => ?_)
            clear hK K
            try simp only [Act.put, List.setIfInBounds_toArray, List.set_cons_zero, List.set_cons_succ]
            refine wpAnyH_take (i := 11) (v := .int .i64 (pPlay D s).2) rfl (by kernel_rfl) (by kernel_rfl) (by kernel_rfl) (fun _ _ _ h => h) (Or.inl ⟨by rfl, fun w hSw => ?_⟩) (by assumption) ?_
            · ((try dsimp only at hSw); go_simp)
            change wpAnyH _ _ _ _ _ _ _ (Act.put _ (some 9) (.int .i64 (pPlay D s).2)) _
            simp only [Act.put, List.setIfInBounds_toArray, List.set_cons_zero, List.set_cons_succ]
            refine wpAnyH_done (by kernel_rfl) ?_ _
            have SR := Lib.hid (stepR_b hwd.out VD.out HD2.out OD.out HO.out HB.out hp rfl)
            obtain ⟨bx, hbx⟩ : ∃ b, wr.heap.size = b := ⟨_, rfl⟩
            rw [show wr.drew.heap.size = bx from hbx] at SR
            rw [hbx]
            clear hp hne1 hne2 hbx HO HB
            have KP := kept_play D s
            have INV := Lib.hid (play_inv HR.out.inv SOK.out)
            have hq' : (pPlay D s).1.quota = qn := KP.quota.trans HR.out.quota
            have hm' : (pPlay D s).1.moves.length ≤ k + 1 := Nat.le_trans KP.moves (Nat.succ_le_succ HR.out.few)
            have HERR := Lib.hid KP.err
            obtain ⟨rr, hrr⟩ : ∃ r, (pPlay D s).2 = r := ⟨_, rfl⟩
            rw [hrr] at HERR ⊢
            obtain ⟨D', hD'⟩ : ∃ d, (pPlay D s).1 = d := ⟨_, rfl⟩
            rw [hD'] at HERR SR INV hq' hm'
            clear KP hD' hrr IN hwd VD HD2 OD
            obtain ⟨f0, f1, f2, f3, f4, f5⟩ := Holds.six (show Holds y bx [.int .i64 q5, .slice E1 i1 j1, .slice E2 i2 j2, .slice E3 i3 j3, .slice E4 i4 j4, .int .i64 x5] from SR.out.xholds)
            go_wp2_with fail
            refine (DP.right_c (S := fun g => g ≠ bd) ⟨SR.out.xout, INV.out, by omega⟩).mono ?_; rintro _ y2 ⟨rfl, hb⟩
            have S2 := Lib.hid (SR.out.step hb)
            clear hb f0 f1 f2 f3 f4 f5 SR
            obtain ⟨f0, f1, f2, f3, f4, f5⟩ := Holds.six (show Holds y2 bx [.int .i64 q5, .slice E1 i1 j1, .slice E2 i2 j2, .slice E3 i3 j3, .slice E4 i4 j4, .int .i64 x5] from S2.out.xholds)
            go_wp2_with fail
            refine (DP.used_c (S := fun g => g ≠ bd) ⟨S2.out.xout, INV.out, by omega⟩).mono ?_; rintro _ y3 ⟨rfl, hb⟩
            have S3 := Lib.hid (S2.out.step hb)
            clear hb f0 f1 f2 f3 f4 f5 S2
            have hu2 : ((usedF D'.files : Nat) : Int) ≤ (qn : Int) := by have := INV.out.used; omega
            obtain ⟨us, hus⟩ : ∃ u : Int, ((usedF D'.files : Nat) : Int) = u := ⟨_, rfl⟩
            rw [hus] at hu2 ⊢
            have HQ := Lib.hid hq'; have HM := Lib.hid hm'
            clear hus hq' hm'
            obtain ⟨f0, f1, f2, f3, f4, f5⟩ := Holds.six (show Holds y3 bx [.int .i64 q5, .slice E1 i1 j1, .slice E2 i2 j2, .slice E3 i3 j3, .slice E4 i4 j4, .int .i64 x5] from S3.out.xholds)
            by_cases hr0 : rr = 0
            · subst hr0
              go_wp2_with (refine wpList_put rfl 29 _ _ rfl bd [.int .i64 q5, .slice E1 i1 j1, .slice E2 i2 j2, .slice E3 i3 j3, .slice E4 i4 j4, .int .i64 x5] rfl rfl S3.out.var (by kernel_rfl) (by simp [Value.oneCell']) ?_; intro y4 hp)
              go_roundw
              case rel => exact ⟨k + 1, .agg #[.int .i64 q5, .slice E1 i1 j1, .slice E2 i2 j2, .slice E3 i3 j3, .slice E4 i4 j4, .int .i64 x5], D', by omega, by go_num, Lib.hid ⟨hp.below hbd S3.out.below, hp.var, hp.at_, S3.out.xout.keep hp.keep, INV.out, HQ.out, HM.out⟩⟩
              case measure => simp [intOf]; omega
            · have hb0 : (rr != 0) = true := by simp [hr0]
              obtain rfl := HERR.out hr0
              clear hr0 HERR
              obtain ⟨h0, h1, h2, h3, h4, h5⟩ := Holds.six (show Holds y3 bd [.int .i64 q, .slice A1 n1 c1, .slice A2 n2 c2, .slice A3 n3 c3, .slice A4 n4 c4, .int .i64 x] from S3.out.holds)
              go_wp2_with fail
              refine (same_c (by have := INV.out.f256; omega) (by have := names_le INV.out; omega) (by have := kept_le INV.out; omega) (by have := HM.out; omega) (fun f hf => ⟨(INV.out.fok f hf).2.2.2, by have h1 := mem_used hf; have h2 := INV.out.used; have h3 := INV.out.quota; have h4 := HQ.out; omega⟩) S3.out.xout S3.out.out).mono ?_; rintro _ y5 ⟨rfl, hb⟩
              have S5 := Lib.hid (S3.out.step hb)
              clear hb f0 f1 f2 f3 f4 f5 h0 h1 h2 h3 h4 h5 S3
              obtain ⟨f0, f1, f2, f3, f4, f5⟩ := Holds.six (show Holds y5 bx [.int .i64 q5, .slice E1 i1 j1, .slice E2 i2 j2, .slice E3 i3 j3, .slice E4 i4 j4, .int .i64 x5] from S5.out.xholds)
              go_wp2_with (refine wpList_put rfl 29 _ _ rfl bd [.int .i64 q5, .slice E1 i1 j1, .slice E2 i2 j2, .slice E3 i3 j3, .slice E4 i4 j4, .int .i64 x5] rfl rfl S5.out.var (by kernel_rfl) (by simp [Value.oneCell']) ?_; intro y4 hp)
              go_roundw
              case rel => exact ⟨k + 1, .agg #[.int .i64 q5, .slice E1 i1 j1, .slice E2 i2 j2, .slice E3 i3 j3, .slice E4 i4 j4, .int .i64 x5], D', by omega, by go_num, Lib.hid ⟨hp.below hbd S5.out.below, hp.var, hp.at_, S5.out.xout.keep hp.keep, INV.out, HQ.out, HM.out⟩⟩
              case measure => simp [intOf]; omega
      · obtain rfl : k = n := by omega
        go_wp2
        go_ret
        exact ⟨rfl, HR.out.below⟩
end Go.Proofs.Ytmkjjcogheidmaa.DW
