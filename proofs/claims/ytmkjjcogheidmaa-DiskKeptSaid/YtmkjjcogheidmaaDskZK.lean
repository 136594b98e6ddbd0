/-
  The statements of layer 6, walked: DiskKept.
-/
import Derived.Test.YtmkjjcogheidmaaDskOps
import Derived.Test.YtmkjjcogheidmaaDskWB
import Derived.Test.YtmkjjcogheidmaaDskWC
set_option linter.unusedSimpArgs false
set_option linter.unusedVariables false
namespace Go.Proofs.Ytmkjjcogheidmaa
def dA : ByteArray := ⟨#[97]⟩
def dB : ByteArray := ⟨#[98]⟩
def dE : ByteArray := ⟨#[101]⟩
/-! ### One or the other -/
def oD1 : PD := ⟨1000, [⟨1, [], 0⟩], [⟨dA, 1⟩], [], [⟨1, dA, noN, 1⟩], 2⟩
def oD2 (a : List Nat) : PD := ⟨1000, [⟨1, a, 0⟩], [⟨dA, 1⟩], [], [⟨1, dA, noN, 1⟩], 2⟩
def oD3 (a : List Nat) : PD := ⟨1000, [⟨1, a, a.length⟩], [⟨dA, 1⟩], [], [⟨1, dA, noN, 1⟩], 2⟩
def oD4 (a : List Nat) : PD := ⟨1000, [⟨1, a, a.length⟩], [⟨dA, 1⟩], [⟨dA, 1⟩], [], 2⟩
def oD5 (a : List Nat) : PD := ⟨1000, [⟨1, a, a.length⟩, ⟨2, [], 0⟩], [⟨dA, 1⟩, ⟨dB, 2⟩], [⟨dA, 1⟩], [⟨1, dB, noN, 2⟩], 3⟩
def oD6 (a b : List Nat) : PD := ⟨1000, [⟨1, a, a.length⟩, ⟨2, b, 0⟩], [⟨dA, 1⟩, ⟨dB, 2⟩], [⟨dA, 1⟩], [⟨1, dB, noN, 2⟩], 3⟩
def oD7 (a b : List Nat) : PD := ⟨1000, [⟨1, a, a.length⟩, ⟨2, b, b.length⟩], [⟨dA, 1⟩, ⟨dB, 2⟩], [⟨dA, 1⟩], [⟨1, dB, noN, 2⟩], 3⟩
def oD8 (a b : List Nat) : PD := ⟨1000, [⟨1, a, a.length⟩, ⟨2, b, b.length⟩], [⟨dA, 2⟩], [⟨dA, 1⟩], [⟨1, dB, noN, 2⟩, ⟨3, dB, dA, 0⟩], 3⟩
def oD9 (b : List Nat) : PD := ⟨1000, [⟨2, b, b.length⟩], [⟨dA, 2⟩], [⟨dA, 2⟩], [], 3⟩
theorem oE1 : pCreate (pNew 1000) dA = (oD1, 0) := by rfl
theorem oE2 {a : List Nat} (h : a.length ≤ 400) : pAppend oD1 dA a = (oD2 a, 0) := by
  unfold pAppend
  rw [if_neg (by decide), if_neg (by show ¬ 1000 < 0 + a.length; omega)]
  rfl
theorem oE3 (a : List Nat) : pSync (oD2 a) dA = (oD3 a, 0) := by
  unfold pSync
  rw [if_neg (by show ¬ ¬ nHas dA [⟨dA, 1⟩]; decide)]
  rfl
theorem oE4 (a : List Nat) : pSyncDir (oD3 a) = oD4 a := by rfl
theorem oE5 (a : List Nat) : pCreate (oD4 a) dB = (oD5 a, 0) := by
  unfold pCreate
  rw [if_neg (by show ¬ nHas dB [⟨dA, 1⟩]; decide), if_neg (by show ¬ (1 = 256 ∨ 2 = 1099511627776); decide)]
  rfl
theorem oE6 {a b : List Nat} (ha : a.length ≤ 400) (hb : b.length ≤ 400) : pAppend (oD5 a) dB b = (oD6 a b, 0) := by
  unfold pAppend
  rw [if_neg (by show ¬ ¬ nHas dB [⟨dA, 1⟩, ⟨dB, 2⟩]; decide), if_neg (by show ¬ 1000 < a.length + (0 + 0) + b.length; omega)]
  rfl
theorem oE7 (a b : List Nat) : pSync (oD6 a b) dB = (oD7 a b, 0) := by
  unfold pSync
  rw [if_neg (by show ¬ ¬ nHas dB [⟨dA, 1⟩, ⟨dB, 2⟩]; decide)]
  rfl
theorem oE8 (a b : List Nat) : pRename (oD7 a b) dB dA = (oD8 a b, 0) := by
  unfold pRename
  rw [if_neg (by show ¬ ¬ nHas dB [⟨dA, 1⟩, ⟨dB, 2⟩]; decide), if_neg (by decide)]
  rfl
theorem oE9 (a b : List Nat) : pSyncDir (oD8 a b) = oD9 b := by rfl
theorem take_own (a : List Nat) (n : Nat) : a.take (a.length + n) = a := List.take_of_length_le (Nat.le_add_right _ _)
theorem oR9 (b : List Nat) (m : Int) : pRead (pCrash (oD9 b) m []) dA = (b, 0) := by
  have e : mRun (oD9 b).kept ((oD9 b).moves.take m.toNat) = [⟨dA, 2⟩] := by
    show mRun [⟨dA, 2⟩] (List.take m.toNat []) = _
    rw [List.take_nil]
    rfl
  unfold pRead pCrash
  rw [e, if_neg (show ¬ ¬ nHas dA [⟨dA, 2⟩] by decide)]
  show (b.take (b.length + _), (0 : Int)) = _
  rw [take_own]
theorem oR8 (a b : List Nat) (m : Int) : pRead (pCrash (oD8 a b) m []) dA = (if 2 ≤ m then b else a, 0) := by
  have hm : m.toNat = 0 ∨ m.toNat = 1 ∨ 2 ≤ m.toNat := by omega
  rcases hm with h | h | h
  · rw [if_neg (by omega)]
    have e : mRun (oD8 a b).kept ((oD8 a b).moves.take m.toNat) = [⟨dA, 1⟩] := by rw [h]; rfl
    unfold pRead pCrash
    rw [e, if_neg (show ¬ ¬ nHas dA [⟨dA, 1⟩] by decide)]
    show (a.take (a.length + _), (0 : Int)) = _
    rw [take_own]
  · rw [if_neg (by omega)]
    have e : mRun (oD8 a b).kept ((oD8 a b).moves.take m.toNat) = [⟨dA, 1⟩, ⟨dB, 2⟩] := by rw [h]; rfl
    unfold pRead pCrash
    rw [e, if_neg (show ¬ ¬ nHas dA [⟨dA, 1⟩, ⟨dB, 2⟩] by decide)]
    show (a.take (a.length + _), (0 : Int)) = _
    rw [take_own]
  · rw [if_pos (by omega)]
    have e : mRun (oD8 a b).kept ((oD8 a b).moves.take m.toNat) = [⟨dA, 2⟩] := by
      rw [List.take_of_length_le (show (oD8 a b).moves.length ≤ m.toNat from h)]
      rfl
    unfold pRead pCrash
    rw [e, if_neg (show ¬ ¬ nHas dA [⟨dA, 2⟩] by decide)]
    show (b.take (b.length + _), (0 : Int)) = _
    rw [take_own]
/-! ### Kept -/
theorem keepOf_nil (i : Nat) : keepOf [] i = 0 := rfl
theorem kept_names (D : PD) (m : Int) : (pCrash (pSyncDir D) m []).names = (pSyncDir D).names := by
  show mRun D.names (List.take m.toNat []) = D.names
  rw [List.take_nil]
  rfl
theorem kept_files (D : PD) (m : Int) : (pCrash (pSyncDir D) m []).files = (pSyncDir D).files.map (fCut []) := by
  have e : mRun (pSyncDir D).kept ((pSyncDir D).moves.take m.toNat) = D.names := by
    show mRun D.names (List.take m.toNat []) = D.names
    rw [List.take_nil]
    rfl
  show ((pSettle (pSyncDir D) (mRun (pSyncDir D).kept ((pSyncDir D).moves.take m.toNat))).files.map (fCut [])) = _
  rw [e]
  congr 1
  show (D.files.filter _).filter _ = D.files.filter _
  rw [List.filter_filter]
  congr 1
  funext f
  simp
theorem fCut_nil (f : PF) : (fCut [] f).bytes = f.bytes.take f.sure := by
  unfold fCut
  rw [keepOf_nil, Nat.zero_min, Nat.add_zero]
end Go.Proofs.Ytmkjjcogheidmaa

set_option linter.unusedSimpArgs false
set_option linter.unusedVariables false
namespace Go.Proofs.Ytmkjjcogheidmaa
/-- A name leads to a file that is so. -/
def HasF (D : PD) (s : ByteArray) (f : PF) : Prop := nHas s D.names ∧ D.files.find? (fun g => decide (g.id = nId s D.names)) = some f
theorem find_ins {n : PN} : ∀ {l : List PN}, ¬ nHas n.name l → (nIns n l).find? (fun x => decide (x.name = n.name)) = some n
  | [], _ => by simp [nIns]
  | y :: r, h => by
    unfold nIns
    have hy : y.name ≠ n.name := fun e => h ⟨y, List.mem_cons_self, e⟩
    split
    · simp
    · rw [List.find?_cons_of_neg (by simpa using hy)]
      exact find_ins fun ⟨x, hx, e⟩ => h ⟨x, List.mem_cons_of_mem _ hx, e⟩
theorem nId_ins {n : PN} {l : List PN} (h : ¬ nHas n.name l) : nId n.name (nIns n l) = n.id := by
  unfold nId
  rw [find_ins h]
  rfl
theorem find_map_id {g : PF → PF} (hg : ∀ f, (g f).id = f.id) {i : Nat} : ∀ {l : List PF} {f : PF}, l.find? (fun x => decide (x.id = i)) = some f → (l.map g).find? (fun x => decide (x.id = i)) = some (g f)
  | [], f, h => by simp at h
  | x :: r, f, h => by
    rw [List.map_cons]
    by_cases e : x.id = i
    · rw [List.find?_cons_of_pos (by simpa using e)] at h
      rw [List.find?_cons_of_pos (by simpa [hg] using e)]
      rw [Option.some.inj h]
    · rw [List.find?_cons_of_neg (by simpa using e)] at h
      rw [List.find?_cons_of_neg (by simpa [hg] using e)]
      exact find_map_id hg h
theorem find_filter_of {q : PF → Bool} {i : Nat} : ∀ {l : List PF} {f : PF}, l.find? (fun x => decide (x.id = i)) = some f → q f = true → (l.filter q).find? (fun x => decide (x.id = i)) = some f
  | [], f, h, _ => by simp at h
  | x :: r, f, h, hq => by
    by_cases e : x.id = i
    · rw [List.find?_cons_of_pos (by simpa using e)] at h
      obtain rfl := Option.some.inj h
      rw [List.filter_cons, if_pos hq, List.find?_cons_of_pos (by simpa using e)]
    · rw [List.find?_cons_of_neg (by simpa using e)] at h
      rw [List.filter_cons]
      split
      · rw [List.find?_cons_of_neg (by simpa using e)]
        exact find_filter_of h hq
      · exact find_filter_of h hq
theorem HasF.id {D : PD} {s : ByteArray} {f : PF} (h : HasF D s f) : f.id = nId s D.names := by
  have := List.find?_some h.2
  simpa using this
theorem hasF_create {D : PD} (hi : PInv D) {s : ByteArray} (hn : ¬ nHas s D.names) (h1 : D.files.length ≠ 256) (h2 : D.next ≠ 1099511627776) : (pCreate D s).2 = 0 ∧ HasF (pCreate D s).1 s ⟨D.next, [], 0⟩ := by
  unfold pCreate
  rw [if_neg hn, if_neg (by omega)]
  refine ⟨rfl, ⟨⟨s, D.next⟩, mem_nIns.2 (.inl rfl), rfl⟩, ?_⟩
  show (D.files ++ [_]).find? (fun (g : PF) => decide (g.id = nId s (nIns ⟨s, D.next⟩ D.names))) = _
  rw [nId_ins (n := ⟨s, D.next⟩) hn, List.find?_append]
  have : D.files.find? (fun g => decide (g.id = D.next)) = none := by
    rw [List.find?_eq_none]
    intro f hf
    have := (hi.fok f hf).2.1
    simp
    omega
  show (D.files.find? (fun g => decide (g.id = D.next))).or _ = _
  rw [this]
  simp
theorem hasF_append {D : PD} {s : ByteArray} {f : PF} {b : List Nat} (h : HasF D s f) (he : (pAppend D s b).2 ≠ 6) : (pAppend D s b).2 = 0 ∧ HasF (pAppend D s b).1 s ⟨f.id, f.bytes ++ b, f.sure⟩ ∧ (pAppend D s b).1.kept = D.kept ∧ (pAppend D s b).1.moves = D.moves ∧ (pAppend D s b).1.names = D.names := by
  unfold pAppend at he ⊢
  rw [if_neg (fun e => e h.1)] at he ⊢
  split at he
  · exact absurd rfl he
  · rename_i hu
    rw [if_neg hu]
    refine ⟨rfl, ⟨h.1, ?_⟩, rfl, rfl, rfl⟩
    have := find_map_id (g := fAdd (nId s D.names) b) (fun f => by unfold fAdd; split <;> rfl) h.2
    rw [show fAdd (nId s D.names) b f = ⟨f.id, f.bytes ++ b, f.sure⟩ from by unfold fAdd; rw [if_pos h.id]] at this
    exact this
theorem hasF_sync {D : PD} {s : ByteArray} {f : PF} (h : HasF D s f) : (pSync D s).2 = 0 ∧ HasF (pSync D s).1 s ⟨f.id, f.bytes, f.bytes.length⟩ := by
  unfold pSync
  rw [if_neg (fun e => e h.1)]
  refine ⟨rfl, h.1, ?_⟩
  have := find_map_id (g := fSync (nId s D.names)) (fun f => by unfold fSync; split <;> rfl) h.2
  rw [show fSync (nId s D.names) f = ⟨f.id, f.bytes, f.bytes.length⟩ from by unfold fSync; rw [if_pos h.id]] at this
  exact this
theorem hasF_settle {D : PD} {s : ByteArray} {f : PF} (h : HasF D s f) : HasF (pSettle D D.names) s f := by
  refine ⟨h.1, find_filter_of h.2 ?_⟩
  rw [decide_eq_true_eq]
  obtain ⟨x, hx, _, e⟩ := nId_of h.1
  rw [h.id, e]
  exact List.mem_map_of_mem hx
theorem hasF_crash {D : PD} {s : ByteArray} {f : PF} (h : HasF D s f) (hk : D.kept = D.names) (hm : D.moves = []) (m : Int) (ks : List (Int × Int)) : pRead (pCrash D m ks) s = ((fCut ks f).bytes, 0) := by
  have e : mRun D.kept (D.moves.take m.toNat) = D.names := by rw [hm, hk, List.take_nil]; rfl
  have h2 := hasF_settle h
  unfold pRead pCrash
  rw [e]
  rw [if_neg (fun e => e h.1)]
  have := find_map_id (g := fCut ks) (fun _ => rfl) h2.2
  show ((((pSettle D D.names).files.map (fCut ks)).find? (fun g => decide (g.id = nId s D.names))).map PF.bytes |>.getD [], (0 : Int)) = _
  rw [show nId s D.names = nId s (pSettle D D.names).names from rfl, this]
  rfl
def sure4 : List Nat := [115, 117, 114, 101]
def maybe5 : List Nat := [109, 97, 121, 98, 101]
/-- What is read behind the crash: the synced bytes, and a beginning of those behind. -/
theorem sure_read (ks : List (Int × Int)) (i : Nat) : ∃ t, t ≤ 5 ∧ (fCut ks ⟨i, [] ++ sure4 ++ maybe5, ([] ++ sure4).length⟩).bytes = (sure4 ++ maybe5).take (4 + t) := by
  refine ⟨min (keepOf ks i) 5, Nat.min_le_right _ _, ?_⟩
  rfl
end Go.Proofs.Ytmkjjcogheidmaa

set_option linter.unusedSimpArgs false
set_option linter.unusedVariables false
namespace Go.Proofs.Ytmkjjcogheidmaa.DW
open Go.RowKit
theorem SlOut.nth' {S : Nat → Prop} {w : World} {A : Option Addr} {n m cap size k : Nat} {R : World → Nat → Nat → Nat → Prop} (h : SlOut S w (.slice A m cap) n size R) (hk : k < n) : ∃ b off, A = some ⟨b, off, none⟩ ∧ R w b (off + k * size) k := by
  obtain ⟨A', cap', hv, hc, hx⟩ := h
  injection hv with h1 h2 h3
  subst h1
  obtain ⟨b, off, hA, _, hf⟩ := hx (Nat.lt_of_le_of_lt (Nat.zero_le _) hk)
  exact ⟨b, off, hA, hf k hk⟩
def wSum (l : List PSt) : Nat := (l.map fun s => 1 + min s.data.length 10000).sum
theorem wSum_snoc (l : List PSt) (s : PSt) : wSum (l ++ [s]) = wSum l + (1 + min s.data.length 10000) := by simp [wSum]
theorem wSum_take (l : List PSt) (k : Nat) : wSum (l.take k) ≤ wSum l := by
  have e : wSum (l.take k) + wSum (l.drop k) = wSum l := by
    unfold wSum
    rw [← List.sum_append, ← List.map_append, List.take_append_drop]
  omega
def ManyP (l : List PSt) (w : World) (e : Ending) (w' : World) : Prop := ∃ r : Bool, e = .returned (.bool r) ∧ (r = false → l.length ≤ 60 ∧ wSum l ≤ 3000) ∧ w = w'
set_option maxRecDepth 100000 in
set_option maxHeartbeats 4000000 in
theorem many_c {v : Value} {l : List PSt} {w : World} (hl : l.length ≤ 9223372036854775807) (hd : ∀ s ∈ l, s.data.length ≤ 9223372036854775807) (h : StOut w v l) :
    Calls Try.prog 8 #[v] w (ManyP l w) := by
  obtain ⟨A, c, rfl, hc, _⟩ := id h
  obtain ⟨n, hn⟩ : ∃ n, l.length = n := ⟨_, rfl⟩
  have H := Lib.hid h; have HN := Lib.hid hn; have HD := Lib.hid hd
  rw [hn] at hl hc H ⊢
  clear h hn hd
  go_enter Try.func8, Try.ntmps8
  go_wp2
  go_loop [3, 4] (fun s i => ∃ k r : Nat, k ≤ n ∧ r ≤ 13001 ∧ s = .int .i64 r ∧ i = .int .i64 k ∧ Hid (r = wSum (l.take k))) (fun _ i => n - (intOf i).toNat)
  case atStart => exact ⟨0, 0, Nat.zero_le _, Nat.zero_le _, rfl, rfl, rfl⟩
  case round =>
    obtain ⟨k, r, hk, hr, rfl, rfl, HI⟩ := hrel
    by_cases hlt : k < n
    · by_cases hr3 : r ≤ 3000
      · obtain ⟨b, o, rfl, g, hg, _, _, _, u, hu, hb⟩ := SlOut.nth' H.out (show k < l.length from by rw [HN.out]; exact hlt)
        obtain ⟨Z, z, rfl, _, _⟩ := id hb
        have hs : wSum (l.take (k + 1)) = r + (1 + min g.data.length 10000) := by
          rw [List.take_add_one, hg, HI.out]
          exact wSum_snoc _ g
        have hm := HD.out g (List.mem_of_getElem? hg)
        obtain ⟨d, hde⟩ : ∃ d, g.data.length = d := ⟨_, rfl⟩
        rw [hde] at hs hm hu
        have HS := Lib.hid hs
        clear hs hb hg hde
        by_cases hd1 : d ≤ 10000
        · go_wp2
          go_round
          case rel => exact ⟨k + 1, r + (1 + d), by omega, by omega, by go_num, by go_num, Lib.hid (by rw [HS.out, Nat.min_eq_left hd1])⟩
          case measure => simp [intOf]; omega
        · go_wp2
          go_round
          case rel => exact ⟨k + 1, r + (1 + 10000), by omega, by omega, by go_num, by go_num, Lib.hid (by rw [HS.out, Nat.min_eq_right (by omega)])⟩
          case measure => simp [intOf]; omega
      · have hbig : (3000 : Int) < (r : Int) := by omega
        go_wp2
        go_ret
        exact ⟨true, rfl, fun h => absurd h (by simp), rfl⟩
    · obtain rfl : k = n := by omega
      by_cases hr3 : r ≤ 3000
      · go_wp2
        go_ret
        refine ⟨_, rfl, fun h => ?_, rfl⟩
        simp only [Bool.or_eq_false_iff, decide_eq_false_iff_not] at h
        have e := HI.out
        rw [List.take_of_length_le (by rw [HN.out]; exact Nat.le_refl _)] at e
        rw [HN.out]
        omega
      · have hbig : (3000 : Int) < (r : Int) := by omega
        go_wp2
        go_ret
        exact ⟨true, rfl, fun h => absurd h (by simp), rfl⟩
end Go.Proofs.Ytmkjjcogheidmaa.DW

set_option linter.unusedSimpArgs false
set_option linter.unusedVariables false
namespace Go.Proofs.Ytmkjjcogheidmaa.DW
open Go.RowKit
theorem play_inv {D : PD} (h : PInv D) {s : PSt} (hs : StOk s) : PInv (pPlay D s).1 := by
  unfold pPlay
  split
  · exact h.create (okNm _)
  split
  · exact h.append _ hs.2.2.2
  split
  · exact h.sync _
  split
  · exact h.rename (okNm _) (okNm _)
  split
  · exact h.remove (okNm _)
  · exact h.syncDir
/-- What a step keeps: the quota, few moves, and all of it beside an error. -/
structure Kept (D : PD) (X : PD × Int) : Prop where
  quota : X.1.quota = D.quota
  moves : X.1.moves.length ≤ D.moves.length + 1
  next : X.1.next ≤ D.next + 1
  files : X.1.files.length ≤ D.files.length + 1
  err : X.2 ≠ 0 → X.1 = D
theorem Kept.same (D : PD) (r : Int) : Kept D (D, r) := ⟨rfl, Nat.le_succ _, Nat.le_succ _, Nat.le_succ _, fun _ => rfl⟩
theorem kept_moved (D : PD) (m : PM) : Kept D (pMoved D m, 0) := ⟨rfl, by show (D.moves ++ [m]).length ≤ _; simp, Nat.le_succ _, Nat.le_succ _, fun h => absurd rfl h⟩
theorem kept_create (D : PD) (s : ByteArray) : Kept D (pCreate D s) := by
  unfold pCreate
  split
  · exact Kept.same D _
  split
  · exact Kept.same D _
  · exact ⟨rfl, by show (D.moves ++ [_]).length ≤ _; simp, Nat.le_refl _, by show (D.files ++ [_]).length ≤ _; simp, fun h => absurd rfl h⟩
theorem kept_append (D : PD) (s : ByteArray) (b : List Nat) : Kept D (pAppend D s b) := by
  unfold pAppend
  split
  · exact Kept.same D _
  split
  · exact Kept.same D _
  · exact ⟨rfl, Nat.le_succ _, Nat.le_succ _, by show (D.files.map _).length ≤ _; simp, fun h => absurd rfl h⟩
theorem kept_play (D : PD) (s : PSt) : Kept D (pPlay D s) := by
  unfold pPlay
  split
  · exact kept_create D _
  split
  · exact kept_append D _ _
  split
  · unfold pSync
    split
    · exact Kept.same D _
    · exact ⟨rfl, Nat.le_succ _, Nat.le_succ _, by show (D.files.map _).length ≤ _; simp, fun h => absurd rfl h⟩
  split
  · unfold pRename
    split
    · exact Kept.same D _
    split
    · exact Kept.same D _
    · exact kept_moved D _
  split
  · unfold pRemove
    split
    · exact Kept.same D _
    · exact kept_moved D _
  · exact ⟨rfl, Nat.zero_le _, Nat.le_succ _, Nat.le_succ_of_le (List.length_filter_le _ _), fun h => absurd rfl h⟩
theorem nodup_le : ∀ {a b : List Nat}, a.Nodup → (∀ i ∈ a, i ∈ b) → a.length ≤ b.length
  | [], _, _, _ => Nat.zero_le _
  | x :: r, b, h, hs => by
    have h2 := List.nodup_cons.1 h
    have hx := hs x List.mem_cons_self
    have ih := nodup_le (a := r) (b := b.erase x) h2.2 fun i hi => (List.mem_erase_of_ne (fun e => by rw [e] at hi; exact h2.1 hi)).2 (hs i (List.mem_cons_of_mem _ hi))
    have hl := List.length_erase_of_mem hx
    have hp := List.length_pos_of_mem hx
    rw [List.length_cons]
    omega
theorem names_le {D : PD} (h : PInv D) : D.names.length ≤ 256 := by
  have hd := h.dir
  have h1 : (D.names.map PN.id).length ≤ (D.files.map PF.id).length := nodup_le hd.nd (fun i hi => by obtain ⟨n, hn, e⟩ := List.mem_map.1 hi; rw [← e]; exact hd.sub n hn)
  rw [List.length_map, List.length_map] at h1
  exact Nat.le_trans h1 h.f256
theorem kept_le {D : PD} (h : PInv D) : D.kept.length ≤ 256 := by
  have h1 : (D.kept.map PN.id).length ≤ (D.files.map PF.id).length := nodup_le h.kept.nd (fun i hi => (h.ids i).1 (sub_mRunIds hi))
  rw [List.length_map, List.length_map] at h1
  exact Nat.le_trans h1 h.f256
theorem mem_used {l : List PF} {f : PF} (h : f ∈ l) : f.bytes.length ≤ usedF l := by
  induction l with
  | nil => exact absurd h (by simp)
  | cons x r ih =>
    show f.bytes.length ≤ x.bytes.length + usedF r
    rcases List.mem_cons.1 h with rfl | h
    · omega
    · have := ih h; omega
/-- A variable that holds a value of several cells. -/
def VarAt (w : World) (b : Nat) (v : Value) : Prop := Holds w b (match v with | .agg a => a.toList | _ => [])
/-- What holds ahead of each step. -/
structure PlayR (l : List PSt) (qn : Nat) (w : World) (bd k : Nat) (wr : World) (v : Value) (D : PD) : Prop where
  below : Below w.heap.size w wr
  var : DVar wr bd 6
  holds : VarAt wr bd v
  out : DkOut (fun g => g ≠ bd) wr v D
  inv : PInv D
  quota : D.quota = qn
  few : D.moves.length ≤ k
theorem wSum_mem {l : List PSt} {s : PSt} (h : s ∈ l) : min s.data.length 10000 ≤ wSum l := by
  induction l with
  | nil => exact absurd h (by simp)
  | cons x r ih =>
    show _ ≤ 1 + min x.data.length 10000 + wSum r
    rcases List.mem_cons.1 h with rfl | h
    · omega
    · have := ih h; omega
theorem held10 {w w' : World} {b0 o0 b1 o1 b2 o2 b3 o3 b4 o4 b5 o5 b6 o6 b7 o7 b8 o8 b9 o9 : Nat} {v0 v1 v2 v3 v4 v5 v6 v7 v8 v9 : Value} (h : w.cell? ⟨b0, o0, none⟩ = some v0 ∧ w.cell? ⟨b1, o1, none⟩ = some v1 ∧ w.cell? ⟨b2, o2, none⟩ = some v2 ∧ w.cell? ⟨b3, o3, none⟩ = some v3 ∧ w.cell? ⟨b4, o4, none⟩ = some v4 ∧ w.cell? ⟨b5, o5, none⟩ = some v5 ∧ w.cell? ⟨b6, o6, none⟩ = some v6 ∧ w.cell? ⟨b7, o7, none⟩ = some v7 ∧ w.cell? ⟨b8, o8, none⟩ = some v8 ∧ w.cell? ⟨b9, o9, none⟩ = some v9) (hb : Below w.heap.size w w') :
    w'.cell? ⟨b0, o0, none⟩ = some v0 ∧ w'.cell? ⟨b1, o1, none⟩ = some v1 ∧ w'.cell? ⟨b2, o2, none⟩ = some v2 ∧ w'.cell? ⟨b3, o3, none⟩ = some v3 ∧ w'.cell? ⟨b4, o4, none⟩ = some v4 ∧ w'.cell? ⟨b5, o5, none⟩ = some v5 ∧ w'.cell? ⟨b6, o6, none⟩ = some v6 ∧ w'.cell? ⟨b7, o7, none⟩ = some v7 ∧ w'.cell? ⟨b8, o8, none⟩ = some v8 ∧ w'.cell? ⟨b9, o9, none⟩ = some v9 := ⟨cell_below hb h.1, cell_below hb h.2.1, cell_below hb h.2.2.1, cell_below hb h.2.2.2.1, cell_below hb h.2.2.2.2.1, cell_below hb h.2.2.2.2.2.1, cell_below hb h.2.2.2.2.2.2.1, cell_below hb h.2.2.2.2.2.2.2.1, cell_below hb h.2.2.2.2.2.2.2.2.1, cell_below hb h.2.2.2.2.2.2.2.2.2⟩
theorem held10k {B : Nat} {w w' : World} {b0 o0 b1 o1 b2 o2 b3 o3 b4 o4 b5 o5 b6 o6 b7 o7 b8 o8 b9 o9 : Nat} {v0 v1 v2 v3 v4 v5 v6 v7 v8 v9 : Value} (h : w.cell? ⟨b0, o0, none⟩ = some v0 ∧ w.cell? ⟨b1, o1, none⟩ = some v1 ∧ w.cell? ⟨b2, o2, none⟩ = some v2 ∧ w.cell? ⟨b3, o3, none⟩ = some v3 ∧ w.cell? ⟨b4, o4, none⟩ = some v4 ∧ w.cell? ⟨b5, o5, none⟩ = some v5 ∧ w.cell? ⟨b6, o6, none⟩ = some v6 ∧ w.cell? ⟨b7, o7, none⟩ = some v7 ∧ w.cell? ⟨b8, o8, none⟩ = some v8 ∧ w.cell? ⟨b9, o9, none⟩ = some v9) (hk : KeepS (fun g => g ≠ B) w w') (s0 : b0 ≠ B) (s1 : b1 ≠ B) (s2 : b2 ≠ B) (s3 : b3 ≠ B) (s4 : b4 ≠ B) (s5 : b5 ≠ B) (s6 : b6 ≠ B) (s7 : b7 ≠ B) (s8 : b8 ≠ B) (s9 : b9 ≠ B) :
    w'.cell? ⟨b0, o0, none⟩ = some v0 ∧ w'.cell? ⟨b1, o1, none⟩ = some v1 ∧ w'.cell? ⟨b2, o2, none⟩ = some v2 ∧ w'.cell? ⟨b3, o3, none⟩ = some v3 ∧ w'.cell? ⟨b4, o4, none⟩ = some v4 ∧ w'.cell? ⟨b5, o5, none⟩ = some v5 ∧ w'.cell? ⟨b6, o6, none⟩ = some v6 ∧ w'.cell? ⟨b7, o7, none⟩ = some v7 ∧ w'.cell? ⟨b8, o8, none⟩ = some v8 ∧ w'.cell? ⟨b9, o9, none⟩ = some v9 := ⟨(hk _ _ s0).trans h.1, (hk _ _ s1).trans h.2.1, (hk _ _ s2).trans h.2.2.1, (hk _ _ s3).trans h.2.2.2.1, (hk _ _ s4).trans h.2.2.2.2.1, (hk _ _ s5).trans h.2.2.2.2.2.1, (hk _ _ s6).trans h.2.2.2.2.2.2.1, (hk _ _ s7).trans h.2.2.2.2.2.2.2.1, (hk _ _ s8).trans h.2.2.2.2.2.2.2.2.1, (hk _ _ s9).trans h.2.2.2.2.2.2.2.2.2⟩
/-- What holds when a step was played, its answer in a variable of its own. -/
structure StepR (w y : World) (bd bx : Nat) (v vx : Value) (D D' : PD) : Prop where
  below : Below w.heap.size w y
  var : DVar y bd 6
  holds : VarAt y bd v
  out : DkOut (fun g => g ≠ bd) y v D
  xholds : VarAt y bx vx
  xout : DkOut (fun g => g ≠ bd) y vx D'
theorem StepR.step {w y y2 : World} {bd bx : Nat} {v vx : Value} {D D' : PD} (h : StepR w y bd bx v vx D D') (hb : Below y.heap.size y y2) : StepR w y2 bd bx v vx D D' :=
  ⟨bnext h.below hb, DVar.below hb h.var, h.holds.below hb, h.out.below hb, h.xholds.below hb, h.xout.below hb⟩
theorem DkIn.play {W : World} {bd : Nat} {v : Value} {D : PD} {k : Nat} (ho : DkOut (fun g => g ≠ bd) W v D) (hi : PInv D) (hf : D.moves.length ≤ k) (hk : k ≤ 200) : DkIn (fun g => g ≠ bd ∧ g < W.heap.size) W v D :=
  ⟨ho.mono fun g hg h => ⟨h, hg⟩, hi, Nat.le_trans hf hk⟩
theorem stepR_a {w W w4 y : World} {bd : Nat} {v vx : Value} {D D' : PD} {o : Obj} {cs : List Value} (hw : Below w.heap.size w W) (hv : DVar W bd 6) (hh : VarAt W bd v) (ho : DkOut (fun g => g ≠ bd) W v D)
    (hx : DkOut (fun g => (g ≠ bd ∧ g < W.heap.size) ∨ W.heap.size ≤ g) w4 vx D') (hb : Below W.heap.size W w4) (hp : Put (w4.alloc o) y w4.heap.size cs) (hc : vx = .agg cs.toArray) : StepR w y bd w4.heap.size v vx D D' := by
  have al := alloc_below w4 o
  have l4 : bd < w4.heap.size := Nat.lt_of_lt_of_le hv.lt hb.size
  have hwb : w.heap.size ≤ w4.heap.size := Nat.le_trans hw.size hb.size
  have v2 := DVar.below al (DVar.below hb hv)
  refine ⟨hp.below hwb (bnext (bnext hw hb) al), ⟨?_, fun i hi => ?_, fun i hi => ?_⟩, (((hh.below hb).below al).keep hp.keep (Nat.ne_of_lt l4) : Holds _ _ _), ?_, ?_, ?_⟩
  · rw [hp.size]; exact v2.lt
  · obtain ⟨u, hu⟩ := v2.c i hi
    exact ⟨u, (hp.keep bd i (Nat.ne_of_lt l4)).trans hu⟩
  · exact (hp.frozen bd i).trans (v2.f i hi)
  · exact ((((ho.below hb).mono (S' := fun g => g ≠ bd ∧ g < w4.heap.size) fun g hg h => ⟨h, hg⟩).below al).keep fun a b h => hp.keep a b (Nat.ne_of_lt h.2)).mono fun _ _ h => h.1
  · rw [hc]; exact (hp.at_ : Holds _ _ _)
  · exact (((hx.mono (S' := fun g => g ≠ bd ∧ g < w4.heap.size) fun g hg h => ⟨h.elim (fun h => h.1) fun h => Nat.ne_of_gt (Nat.lt_of_lt_of_le hv.lt h), hg⟩).below al).keep fun a b h => hp.keep a b (Nat.ne_of_lt h.2)).mono fun _ _ h => h.1
theorem stepR_b {w W w4 y : World} {bd : Nat} {v vx : Value} {D D' : PD} {o : Obj} {cs : List Value} (hw : Below w.heap.size w W) (hv : DVar W bd 6) (hh : VarAt W bd v) (ho : DkOut (fun g => g ≠ bd) W v D)
    (hx : DkOut (fun g => (g ≠ bd ∧ g < W.heap.size) ∨ (W.alloc o).heap.size ≤ g) w4 vx D') (hb : Below (W.alloc o).heap.size (W.alloc o) w4) (hp : Put w4 y W.heap.size cs) (hc : vx = .agg cs.toArray) : StepR w y bd W.heap.size v vx D D' := by
  have al := alloc_below W o
  have ea : (W.alloc o).heap.size = W.heap.size + 1 := by simp
  have l4 := hv.lt
  have v2 := DVar.below hb (DVar.below al hv)
  refine ⟨hp.below hw.size (bnext (bnext hw al) hb), ⟨?_, fun i hi => ?_, fun i hi => ?_⟩, (((hh.below al).below hb).keep hp.keep (Nat.ne_of_lt l4) : Holds _ _ _), ?_, ?_, ?_⟩
  · rw [hp.size]; exact v2.lt
  · obtain ⟨u, hu⟩ := v2.c i hi
    exact ⟨u, (hp.keep bd i (Nat.ne_of_lt l4)).trans hu⟩
  · exact (hp.frozen bd i).trans (v2.f i hi)
  · exact (((((ho.mono (S' := fun g => g ≠ bd ∧ g < W.heap.size) fun g hg h => ⟨h, hg⟩).below al).below hb)).keep fun a b h => hp.keep a b (Nat.ne_of_lt h.2)).mono fun _ _ h => h.1
  · rw [hc]; exact (hp.at_ : Holds _ _ _)
  · refine ((hx.mono (S' := fun g => g ≠ bd ∧ g ≠ W.heap.size) fun g hg h => ?_).keep fun a b h => hp.keep a b h.2).mono fun _ _ h => h.1
    rcases h with h | h
    · exact ⟨h.1, Nat.ne_of_lt h.2⟩
    · rw [ea] at h; exact ⟨by omega, by omega⟩
set_option maxRecDepth 100000 in
set_option maxHeartbeats 4000000 in
theorem diskPlays_c {v : Value} {l : List PSt} {w : World} (qn : Nat) (hqn : qn < 256) (hl : l.length ≤ 9223372036854775807) (hd : ∀ s ∈ l, s.data.length ≤ 9223372036854775807) (hs : ∀ s ∈ l, StOk s) (h : StOut w v l) :
    Calls Try.prog 3 #[v, .int .u8 (qn : Nat)] w fun e w' => e = .returned (.bool true) ∧ Below w.heap.size w w' := by
  have AL := Lib.hid (alive_c w)
  have MN := Lib.hid (fun y (b : Below w.heap.size w y) => many_c hl hd (StOut.below h b))
  have ST := Lib.hid h
  obtain ⟨A, c, rfl, hc, _⟩ := id h
  obtain ⟨n, hn⟩ : ∃ n, l.length = n := ⟨_, rfl⟩
  have HN := Lib.hid hn; have HS := Lib.hid hs; have HD := Lib.hid hd
  rw [hn] at hl hc MN ST ⊢
  clear h hn hs hd
  have hq0 : (0 : Int) ≤ (qn : Int) ∧ (qn : Int) < 256 := by omega
  go_enter Try.func3, Try.ntmps3
  go_wp2_with fail
  refine AL.out.mono ?_; rintro _ w1 ⟨rfl, hb⟩
  have B1 := Lib.hid hb
  clear hb AL
  go_wp2_with fail
  refine (MN.out _ B1.out).mono ?_; rintro _ w2 ⟨r, rfl, hr, rfl⟩
  cases r with
  | true =>
    go_wp2
    go_ret
    exact ⟨rfl, B1.out⟩
  | false =>
    have hr2 := hr rfl
    rw [HN.out] at hr2
    have hn60 : n ≤ 60 := hr2.1
    have HW := Lib.hid hr2.2
    clear hr hr2 MN
    go_wp2_with fail
    refine (DP.new_c (S := fun _ => False) qn (by omega) _).mono ?_; rintro _ w3 ⟨v3, rfl, ho, hb⟩
    obtain ⟨q, A1, n1, c1, A2, n2, c2, A3, n3, c3, A4, n4, c4, x, rfl⟩ := ho.form
    have B3 := Lib.hid (bnext (bnext B1.out hb) (alloc_below w3 (.cells #[.int .i64 0, .slice none 0 0, .slice none 0 0, .slice none 0 0, .slice none 0 0, .int .i64 0] 29))); have D3 := Lib.hid (ho.apart.below (alloc_below w3 (.cells #[.int .i64 0, .slice none 0 0, .slice none 0 0, .slice none 0 0, .slice none 0 0, .int .i64 0] 29))); have hbd : w.heap.size ≤ w3.heap.size := (bnext B1.out hb).size
    clear ho hb
    go_wp2_with (refine wpList_put rfl 29 _ _ rfl w3.heap.size _ rfl rfl (DVar.alloc _ _) (by kernel_rfl) (by simp [Value.oneCell']) ?_; intro y hp)
    have R0 := Lib.hid (⟨hp.below hbd B3.out, hp.var, hp.at_, D3.out.keep hp.keep, PInv.new (by omega), rfl, Nat.zero_le _⟩ : PlayR l qn w w3.heap.size 0 y (.agg #[.int .i64 q, .slice A1 n1 c1, .slice A2 n2 c2, .slice A3 n3 c3, .slice A4 n4 c4, .int .i64 x]) (pNew qn))
    obtain ⟨bd, hbde⟩ : ∃ b, w3.heap.size = b := ⟨_, rfl⟩
    rw [hbde] at R0 hbd ⊢
    clear hp B3 D3 B1 hbde
    go_wp2_with fail
    go_loopw [4, 7, 8, 9] (fun u4 i u8 u9 wr => ∃ (k : Nat) (v : Value) (D : PD), k ≤ n ∧ i = .int .i64 k ∧ Hid (PlayR l qn w bd k wr v D)) (fun _ i _ _ _ => n - (intOf i).toNat)
    case atStart => exact ⟨0, _, _, Nat.zero_le _, rfl, R0⟩
    case round =>
      obtain ⟨k, v, D, hk, rfl, HR⟩ := hrel
      clear R0 
      by_cases hlt : k < n
      · obtain ⟨q, A1, n1, c1, A2, n2, c2, A3, n3, c3, A4, n4, c4, x, rfl⟩ := HR.out.out.form
        have hS0 := Holds.six (show Holds wr bd [.int .i64 q, .slice A1 n1 c1, .slice A2 n2 c2, .slice A3 n3 c3, .slice A4 n4 c4, .int .i64 x] from HR.out.holds)
        obtain ⟨b, o, rfl, s, hs, e0, e1, e2, u, e3, hu⟩ := SlOut.nth' (StOut.below ST.out HR.out.below) (show k < l.length from by rw [HN.out]; exact hlt)
        obtain ⟨Z, z, rfl, _, _⟩ := id hu
        have HU := Lib.hid hu
        have SOK := Lib.hid (HS.out s (List.mem_of_getElem? hs))
        have SLEN : s.data.length ≤ 100000 := by have h1 := wSum_mem (List.mem_of_getElem? hs); have h2 := HW.out; omega
        have hbl : b < wr.heap.size := World.block_lt_of_cell? wr _ e0
        have hbdl : bd < wr.heap.size := HR.out.var.lt
        clear hu hs
        have hi0 : (0 : Int) ≤ (k : Int) := by omega
        have hi1 : (k : Int) < (n : Int) := by omega
        go_wp2_with fail
        have IN := Lib.hid (DkIn.play (HR.out.out.below (Below.refl _ _).drew : DkOut (fun g => g ≠ bd) wr.drew (.agg #[.int .i64 q, .slice A1 n1 c1, .slice A2 n2 c2, .slice A3 n3 c3, .slice A4 n4 c4, .int .i64 x]) D) HR.out.inv HR.out.few (by omega))
        have hwd := Lib.hid (show Below w.heap.size w wr.drew from HR.out.below.drew)
        have VD := Lib.hid (show DVar wr.drew bd 6 from ⟨HR.out.var.lt, HR.out.var.c, HR.out.var.f⟩)
        have HD2 := Lib.hid (show VarAt wr.drew bd (.agg #[.int .i64 q, .slice A1 n1 c1, .slice A2 n2 c2, .slice A3 n3 c3, .slice A4 n4 c4, .int .i64 x]) from HR.out.holds)
        have OD := Lib.hid (HR.out.out.below (Below.refl _ _).drew : DkOut (fun g => g ≠ bd) wr.drew (.agg #[.int .i64 q, .slice A1 n1 c1, .slice A2 n2 c2, .slice A3 n3 c3, .slice A4 n4 c4, .int .i64 x]) D)
        refine wp_region_held_drew (S := fun y => y.cell? ⟨bd, 0, none⟩ = some (.int .i64 q) ∧ y.cell? ⟨bd, 1, none⟩ = some (.slice A1 n1 c1) ∧ y.cell? ⟨bd, 2, none⟩ = some (.slice A2 n2 c2) ∧ y.cell? ⟨bd, 3, none⟩ = some (.slice A3 n3 c3) ∧ y.cell? ⟨bd, 4, none⟩ = some (.slice A4 n4 c4) ∧ y.cell? ⟨bd, 5, none⟩ = some (.int .i64 x) ∧ y.cell? ⟨b, o + k * 4, none⟩ = some (.int .u8 ((s.kind : Nat) : Int)) ∧ y.cell? ⟨b, o + k * 4 + 1, none⟩ = some (.int .u8 ((s.name : Nat) : Int)) ∧ y.cell? ⟨b, o + k * 4 + 2, none⟩ = some (.int .u8 ((s.to : Nat) : Int)) ∧ y.cell? ⟨b, o + k * 4 + 3, none⟩ = some (.slice Z s.data.length z)) (by kernel_rfl) ?hs (fun hHeld => ?hr)
        case hs => exact ⟨hS0.1, hS0.2.1, hS0.2.2.1, hS0.2.2.2.1, hS0.2.2.2.2.1, hS0.2.2.2.2.2, e0, e1, e2, e3⟩
        case hr =>
          clear hS0 e0 e1 e2 e3
          refine wpAnyH_take (i := 0) (v := .agg #[.int .i64 q, .slice A1 n1 c1, .slice A2 n2 c2, .slice A3 n3 c3, .slice A4 n4 c4, .int .i64 x]) rfl (by kernel_rfl) (by kernel_rfl) (by kernel_rfl) (fun _ _ _ h => h) (Or.inl ⟨by rfl, fun w hSw => ?_⟩) (by assumption) ?_
          · ((try dsimp only at hSw); go_simp)
          change wpAnyH _ _ _ _ _ _ _ (Act.put _ (some 27) (.agg #[.int .i64 q, .slice A1 n1 c1, .slice A2 n2 c2, .slice A3 n3 c3, .slice A4 n4 c4, .int .i64 x])) _
          simp only [Act.put, List.setIfInBounds_toArray, List.set_cons_zero, List.set_cons_succ]
          refine wpAnyH_take (i := 1) (v := .slice (some ⟨b, o, none⟩) n c) rfl (by kernel_rfl) (by kernel_rfl) (by kernel_rfl) (fun _ _ _ h => h) (Or.inl ⟨by rfl, fun w hSw => ?_⟩) (by assumption) ?_
          · ((try dsimp only at hSw); go_simp)
          change wpAnyH _ _ _ _ _ _ _ (Act.put _ (some 28) (.slice (some ⟨b, o, none⟩) n c)) _
          simp only [Act.put, List.setIfInBounds_toArray, List.set_cons_zero, List.set_cons_succ]
          refine wpAnyH_take (i := 2) (v := .int .i64 (k : Nat)) rfl (by kernel_rfl) (by kernel_rfl) (by kernel_rfl) (fun _ _ _ h => h) (Or.inl ⟨by rfl, fun w hSw => ?_⟩) (by assumption) ?_
          · ((try dsimp only at hSw); go_simp)
          change wpAnyH _ _ _ _ _ _ _ (Act.put _ (some 29) (.int .i64 (k : Nat))) _
          simp only [Act.put, List.setIfInBounds_toArray, List.set_cons_zero, List.set_cons_succ]
          refine wpAnyH_take (i := 3) (v := .pointer (some ⟨b, o + k * 4, none⟩)) rfl (by kernel_rfl) (by kernel_rfl) (by kernel_rfl) (fun _ _ _ h => h) (Or.inl ⟨by rfl, fun w hSw => ?_⟩) (by assumption) ?_
          · ((try dsimp only at hSw); go_simp)
          change wpAnyH _ _ _ _ _ _ _ (Act.put _ (some 30) (.pointer (some ⟨b, o + k * 4, none⟩))) _
          simp only [Act.put, List.setIfInBounds_toArray, List.set_cons_zero, List.set_cons_succ]
          refine wpAnyH_take (i := 4) (v := .agg #[.int .u8 ((s.kind : Nat) : Int), .int .u8 ((s.name : Nat) : Int), .int .u8 ((s.to : Nat) : Int), .slice Z s.data.length z]) rfl (by kernel_rfl) (by kernel_rfl) (by kernel_rfl) (fun _ _ _ h => h) (Or.inl ⟨by rfl, fun w hSw => ?_⟩) (by assumption) ?_
          · ((try dsimp only at hSw); go_simp)
          change wpAnyH _ _ _ _ _ _ _ (Act.put _ (some 31) (.agg #[.int .u8 ((s.kind : Nat) : Int), .int .u8 ((s.name : Nat) : Int), .int .u8 ((s.to : Nat) : Int), .slice Z s.data.length z])) _
          simp only [Act.put, List.setIfInBounds_toArray, List.set_cons_zero, List.set_cons_succ]
          refine wpAnyH_ready (rs := [5, 9]) (by kernel_rfl) (by simp) ?_
          refine AllReadyH.cons rfl (fun K hK => ?_) (AllReadyH.cons rfl (fun K hK => ?_) AllReadyH.nil)
          · go_simp
            refine (play_c (S := fun g => g ≠ bd ∧ g < wr.heap.size) IN.out s SOK.out SLEN (HU.out.below (Below.refl _ _).drew)).mono ?_; rintro _ w4 ⟨v4, rfl, ho, hb⟩; obtain ⟨q5, E1, i1, j1, E2, i2, j2, E3, i3, j3, E4, i4, j4, x5, rfl⟩ := ho.form
            have HB := Lib.hid hb; have HO := Lib.hid ho
            clear hb ho
            (try go_wp2_with fail)
            refine hK.out _ _ (held10 hHeld HB.out) (fun hHeld => ?_)
            clear hK K
            try simp only [Act.put, List.setIfInBounds_toArray, List.set_cons_zero, List.set_cons_succ]
            refine wpAnyH_take (i := 6) (v := .tuple #[.agg #[.int .i64 q5, .slice E1 i1 j1, .slice E2 i2 j2, .slice E3 i3 j3, .slice E4 i4 j4, .int .i64 x5], .int .i64 (pPlay D s).2]) rfl (by kernel_rfl) (by kernel_rfl) (by kernel_rfl) (fun _ _ _ h => h) (Or.inl ⟨by rfl, fun w hSw => ?_⟩) (by assumption) ?_
            · ((try dsimp only at hSw); go_simp)
            change wpAnyH _ _ _ _ _ _ _ (Act.put _ (some 26) (.tuple #[.agg #[.int .i64 q5, .slice E1 i1 j1, .slice E2 i2 j2, .slice E3 i3 j3, .slice E4 i4 j4, .int .i64 x5], .int .i64 (pPlay D s).2])) _
            simp only [Act.put, List.setIfInBounds_toArray, List.set_cons_zero, List.set_cons_succ]
            refine wpAnyH_take (i := 7) (v := .agg #[.int .i64 q5, .slice E1 i1 j1, .slice E2 i2 j2, .slice E3 i3 j3, .slice E4 i4 j4, .int .i64 x5]) rfl (by kernel_rfl) (by kernel_rfl) (by kernel_rfl) (fun _ _ _ h => h) (Or.inl ⟨by rfl, fun w hSw => ?_⟩) (by assumption) ?_
            · ((try dsimp only at hSw); go_simp)
            change wpAnyH _ _ _ _ _ _ _ (Act.put _ (some 33) (.agg #[.int .i64 q5, .slice E1 i1 j1, .slice E2 i2 j2, .slice E3 i3 j3, .slice E4 i4 j4, .int .i64 x5])) _
            simp only [Act.put, List.setIfInBounds_toArray, List.set_cons_zero, List.set_cons_succ]
            refine wpAnyH_take (i := 8) (v := .int .i64 (pPlay D s).2) rfl (by kernel_rfl) (by kernel_rfl) (by kernel_rfl) (fun _ _ _ h => h) (Or.inl ⟨by rfl, fun w hSw => ?_⟩) (by assumption) ?_
            · ((try dsimp only at hSw); go_simp)
            change wpAnyH _ _ _ _ _ _ _ (Act.put _ (some 34) (.int .i64 (pPlay D s).2)) _
            simp only [Act.put, List.setIfInBounds_toArray, List.set_cons_zero, List.set_cons_succ]
            refine wpAnyH_ready (rs := [9]) (by kernel_rfl) (by simp) ?_
            refine AllReadyH.cons rfl (fun K hK => ?_) AllReadyH.nil
            go_simp
            refine hK.out _ _ (held10 (by assumption) (alloc_below _ _)) (fun hHeld => ?_)
            clear hK K
            try simp only [Act.put, List.setIfInBounds_toArray, List.set_cons_zero, List.set_cons_succ]
            refine wpAnyH_ready (rs := [10]) (by kernel_rfl) (by simp) ?_
            refine AllReadyH.cons rfl (fun K hK => ?_) AllReadyH.nil
            refine step_put rfl 29 _ _ rfl (w4.heap.size) [.int .i64 q5, .slice E1 i1 j1, .slice E2 i2 j2, .slice E3 i3 j3, .slice E4 i4 j4, .int .i64 x5] rfl rfl (DVar.alloc _ _) (by kernel_rfl) (by simp [Value.oneCell']) ?_
            intro y hp
            have hne1 : bd ≠ w4.heap.size := Nat.ne_of_lt (Nat.lt_of_lt_of_le hbdl HB.out.size)
            have hne2 : b ≠ w4.heap.size := Nat.ne_of_lt (Nat.lt_of_lt_of_le hbl HB.out.size)
            refine hK.out _ _ (held10k (by assumption) hp.keep hne1 hne1 hne1 hne1 hne1 hne1 hne2 hne2 hne2 hne2) (fun hHeld => ?_)
            clear hK K
            try simp only [Act.put, List.setIfInBounds_toArray, List.set_cons_zero, List.set_cons_succ]
            refine wpAnyH_take (i := 11) (v := .int .i64 (pPlay D s).2) rfl (by kernel_rfl) (by kernel_rfl) (by kernel_rfl) (fun _ _ _ h => h) (Or.inl ⟨by rfl, fun w hSw => ?_⟩) (by assumption) ?_
            · ((try dsimp only at hSw); go_simp)
            change wpAnyH _ _ _ _ _ _ _ (Act.put _ (some 9) (.int .i64 (pPlay D s).2)) _
            simp only [Act.put, List.setIfInBounds_toArray, List.set_cons_zero, List.set_cons_succ]
            refine wpAnyH_done (by kernel_rfl) ?_ _
            have SR := Lib.hid (stepR_a hwd.out VD.out HD2.out OD.out HO.out HB.out hp rfl)
            obtain ⟨bx, hbx⟩ : ∃ b, w4.heap.size = b := ⟨_, rfl⟩
            rw [hbx] at SR ⊢
            clear hp hne1 hne2 hbx HO HB
            have KP := kept_play D s
            have INV := Lib.hid (play_inv HR.out.inv SOK.out)
            have hq' : (pPlay D s).1.quota = qn := KP.quota.trans HR.out.quota
            have hm' : (pPlay D s).1.moves.length ≤ k + 1 := Nat.le_trans KP.moves (Nat.succ_le_succ HR.out.few)
            have HERR := Lib.hid KP.err
            obtain ⟨rr, hrr⟩ : ∃ r, (pPlay D s).2 = r := ⟨_, rfl⟩
            rw [hrr] at HERR ⊢
            obtain ⟨D', hD'⟩ : ∃ d, (pPlay D s).1 = d := ⟨_, rfl⟩
            rw [hD'] at HERR SR INV hq' hm'
            clear KP hD' hrr IN hwd VD HD2 OD
            obtain ⟨f0, f1, f2, f3, f4, f5⟩ := Holds.six (show Holds y bx [.int .i64 q5, .slice E1 i1 j1, .slice E2 i2 j2, .slice E3 i3 j3, .slice E4 i4 j4, .int .i64 x5] from SR.out.xholds)
            go_wp2_with fail
            refine (DP.right_c (S := fun g => g ≠ bd) ⟨SR.out.xout, INV.out, by omega⟩).mono ?_; rintro _ y2 ⟨rfl, hb⟩
            have S2 := Lib.hid (SR.out.step hb)
            clear hb f0 f1 f2 f3 f4 f5 SR
            obtain ⟨f0, f1, f2, f3, f4, f5⟩ := Holds.six (show Holds y2 bx [.int .i64 q5, .slice E1 i1 j1, .slice E2 i2 j2, .slice E3 i3 j3, .slice E4 i4 j4, .int .i64 x5] from S2.out.xholds)
            go_wp2_with fail
            refine (DP.used_c (S := fun g => g ≠ bd) ⟨S2.out.xout, INV.out, by omega⟩).mono ?_; rintro _ y3 ⟨rfl, hb⟩
            have S3 := Lib.hid (S2.out.step hb)
            clear hb f0 f1 f2 f3 f4 f5 S2
            have hu2 : ((usedF D'.files : Nat) : Int) ≤ (qn : Int) := by have := INV.out.used; omega
            obtain ⟨us, hus⟩ : ∃ u : Int, ((usedF D'.files : Nat) : Int) = u := ⟨_, rfl⟩
            rw [hus] at hu2 ⊢
            have HQ := Lib.hid hq'; have HM := Lib.hid hm'
            clear hus hq' hm'
            obtain ⟨f0, f1, f2, f3, f4, f5⟩ := Holds.six (show Holds y3 bx [.int .i64 q5, .slice E1 i1 j1, .slice E2 i2 j2, .slice E3 i3 j3, .slice E4 i4 j4, .int .i64 x5] from S3.out.xholds)
            by_cases hr0 : rr = 0
            · subst hr0
              go_wp2_with (refine wpList_put rfl 29 _ _ rfl bd [.int .i64 q5, .slice E1 i1 j1, .slice E2 i2 j2, .slice E3 i3 j3, .slice E4 i4 j4, .int .i64 x5] rfl rfl S3.out.var (by kernel_rfl) (by simp [Value.oneCell']) ?_; intro y4 hp)
              go_roundw
              case rel => exact ⟨k + 1, .agg #[.int .i64 q5, .slice E1 i1 j1, .slice E2 i2 j2, .slice E3 i3 j3, .slice E4 i4 j4, .int .i64 x5], D', by omega, by go_num, Lib.hid ⟨hp.below hbd S3.out.below, hp.var, hp.at_, S3.out.xout.keep hp.keep, INV.out, HQ.out, HM.out⟩⟩
              case measure => simp [intOf]; omega
            · have hb0 : (rr != 0) = true := by simp [hr0]
              obtain rfl := HERR.out hr0
              clear hr0 HERR
              obtain ⟨h0, h1, h2, h3, h4, h5⟩ := Holds.six (show Holds y3 bd [.int .i64 q, .slice A1 n1 c1, .slice A2 n2 c2, .slice A3 n3 c3, .slice A4 n4 c4, .int .i64 x] from S3.out.holds)
              go_wp2_with fail
              refine (same_c (by have := INV.out.f256; omega) (by have := names_le INV.out; omega) (by have := kept_le INV.out; omega) (by have := HM.out; omega) (fun f hf => ⟨(INV.out.fok f hf).2.2.2, by have h1 := mem_used hf; have h2 := INV.out.used; have h3 := INV.out.quota; have h4 := HQ.out; omega⟩) S3.out.xout S3.out.out).mono ?_; rintro _ y5 ⟨rfl, hb⟩
              have S5 := Lib.hid (S3.out.step hb)
              clear hb f0 f1 f2 f3 f4 f5 h0 h1 h2 h3 h4 h5 S3
              obtain ⟨f0, f1, f2, f3, f4, f5⟩ := Holds.six (show Holds y5 bx [.int .i64 q5, .slice E1 i1 j1, .slice E2 i2 j2, .slice E3 i3 j3, .slice E4 i4 j4, .int .i64 x5] from S5.out.xholds)
              go_wp2_with (refine wpList_put rfl 29 _ _ rfl bd [.int .i64 q5, .slice E1 i1 j1, .slice E2 i2 j2, .slice E3 i3 j3, .slice E4 i4 j4, .int .i64 x5] rfl rfl S5.out.var (by kernel_rfl) (by simp [Value.oneCell']) ?_; intro y4 hp)
              go_roundw
              case rel => exact ⟨k + 1, .agg #[.int .i64 q5, .slice E1 i1 j1, .slice E2 i2 j2, .slice E3 i3 j3, .slice E4 i4 j4, .int .i64 x5], D', by omega, by go_num, Lib.hid ⟨hp.below hbd S5.out.below, hp.var, hp.at_, S5.out.xout.keep hp.keep, INV.out, HQ.out, HM.out⟩⟩
              case measure => simp [intOf]; omega
          · go_simp
            refine hK.out _ _ (held10 (by assumption) (alloc_below _ _)) (fun hHeld => ?_)
            clear hK K
            try simp only [Act.put, List.setIfInBounds_toArray, List.set_cons_zero, List.set_cons_succ]
            refine wpAnyH_ready (rs := [5]) (by kernel_rfl) (by simp) ?_
            refine AllReadyH.cons rfl (fun K hK => ?_) AllReadyH.nil
            go_simp
            refine (play_c (S := fun g => g ≠ bd ∧ g < wr.heap.size) ⟨IN.out.at_.below (alloc_below _ _), IN.out.inv, IN.out.few⟩ s SOK.out SLEN (HU.out.below (bnext (Below.refl _ _).drew (alloc_below _ _)))).mono ?_; rintro _ w4 ⟨v4, rfl, ho, hb⟩; obtain ⟨q5, E1, i1, j1, E2, i2, j2, E3, i3, j3, E4, i4, j4, x5, rfl⟩ := ho.form
            have HB := Lib.hid hb; have HO := Lib.hid ho
            clear hb ho
            (try go_wp2_with fail)
            refine hK.out _ _ (held10 (by assumption) HB.out) (fun hHeld => ?_)
            clear hK K
            try simp only [Act.put, List.setIfInBounds_toArray, List.set_cons_zero, List.set_cons_succ]
            refine wpAnyH_take (i := 6) (v := .tuple #[.agg #[.int .i64 q5, .slice E1 i1 j1, .slice E2 i2 j2, .slice E3 i3 j3, .slice E4 i4 j4, .int .i64 x5], .int .i64 (pPlay D s).2]) rfl (by kernel_rfl) (by kernel_rfl) (by kernel_rfl) (fun _ _ _ h => h) (Or.inl ⟨by rfl, fun w hSw => ?_⟩) (by assumption) ?_
            · ((try dsimp only at hSw); go_simp)
            change wpAnyH _ _ _ _ _ _ _ (Act.put _ (some 26) (.tuple #[.agg #[.int .i64 q5, .slice E1 i1 j1, .slice E2 i2 j2, .slice E3 i3 j3, .slice E4 i4 j4, .int .i64 x5], .int .i64 (pPlay D s).2])) _
            simp only [Act.put, List.setIfInBounds_toArray, List.set_cons_zero, List.set_cons_succ]
            refine wpAnyH_take (i := 7) (v := .agg #[.int .i64 q5, .slice E1 i1 j1, .slice E2 i2 j2, .slice E3 i3 j3, .slice E4 i4 j4, .int .i64 x5]) rfl (by kernel_rfl) (by kernel_rfl) (by kernel_rfl) (fun _ _ _ h => h) (Or.inl ⟨by rfl, fun w hSw => ?_⟩) (by assumption) ?_
            · ((try dsimp only at hSw); go_simp)
            change wpAnyH _ _ _ _ _ _ _ (Act.put _ (some 33) (.agg #[.int .i64 q5, .slice E1 i1 j1, .slice E2 i2 j2, .slice E3 i3 j3, .slice E4 i4 j4, .int .i64 x5])) _
            simp only [Act.put, List.setIfInBounds_toArray, List.set_cons_zero, List.set_cons_succ]
            refine wpAnyH_take (i := 8) (v := .int .i64 (pPlay D s).2) rfl (by kernel_rfl) (by kernel_rfl) (by kernel_rfl) (fun _ _ _ h => h) (Or.inl ⟨by rfl, fun w hSw => ?_⟩) (by assumption) ?_
            · ((try dsimp only at hSw); go_simp)
            change wpAnyH _ _ _ _ _ _ _ (Act.put _ (some 34) (.int .i64 (pPlay D s).2)) _
            simp only [Act.put, List.setIfInBounds_toArray, List.set_cons_zero, List.set_cons_succ]
            refine wpAnyH_ready (rs := [10]) (by kernel_rfl) (by simp) ?_
            refine AllReadyH.cons rfl (fun K hK => ?_) AllReadyH.nil
            refine step_put rfl 29 _ _ rfl (wr.heap.size) [.int .i64 q5, .slice E1 i1 j1, .slice E2 i2 j2, .slice E3 i3 j3, .slice E4 i4 j4, .int .i64 x5] rfl rfl (DVar.below HB.out (DVar.alloc (w := wr.drew) _ _)) (by kernel_rfl) (by simp [Value.oneCell']) ?_
            intro y hp
            have hne1 : bd ≠ wr.heap.size := Nat.ne_of_lt hbdl
            have hne2 : b ≠ wr.heap.size := Nat.ne_of_lt hbl
            refine hK.out _ _ (held10k (by assumption) hp.keep hne1 hne1 hne1 hne1 hne1 hne1 hne2 hne2 hne2 hne2) (fun hHeld => ?_)
            clear hK K
            try simp only [Act.put, List.setIfInBounds_toArray, List.set_cons_zero, List.set_cons_succ]
            refine wpAnyH_take (i := 11) (v := .int .i64 (pPlay D s).2) rfl (by kernel_rfl) (by kernel_rfl) (by kernel_rfl) (fun _ _ _ h => h) (Or.inl ⟨by rfl, fun w hSw => ?_⟩) (by assumption) ?_
            · ((try dsimp only at hSw); go_simp)
            change wpAnyH _ _ _ _ _ _ _ (Act.put _ (some 9) (.int .i64 (pPlay D s).2)) _
            simp only [Act.put, List.setIfInBounds_toArray, List.set_cons_zero, List.set_cons_succ]
            refine wpAnyH_done (by kernel_rfl) ?_ _
            have SR := Lib.hid (stepR_b hwd.out VD.out HD2.out OD.out HO.out HB.out hp rfl)
            obtain ⟨bx, hbx⟩ : ∃ b, wr.heap.size = b := ⟨_, rfl⟩
            rw [show wr.drew.heap.size = bx from hbx] at SR
            rw [hbx]
            clear hp hne1 hne2 hbx HO HB
            have KP := kept_play D s
            have INV := Lib.hid (play_inv HR.out.inv SOK.out)
            have hq' : (pPlay D s).1.quota = qn := KP.quota.trans HR.out.quota
            have hm' : (pPlay D s).1.moves.length ≤ k + 1 := Nat.le_trans KP.moves (Nat.succ_le_succ HR.out.few)
            have HERR := Lib.hid KP.err
            obtain ⟨rr, hrr⟩ : ∃ r, (pPlay D s).2 = r := ⟨_, rfl⟩
            rw [hrr] at HERR ⊢
            obtain ⟨D', hD'⟩ : ∃ d, (pPlay D s).1 = d := ⟨_, rfl⟩
            rw [hD'] at HERR SR INV hq' hm'
            clear KP hD' hrr IN hwd VD HD2 OD
            obtain ⟨f0, f1, f2, f3, f4, f5⟩ := Holds.six (show Holds y bx [.int .i64 q5, .slice E1 i1 j1, .slice E2 i2 j2, .slice E3 i3 j3, .slice E4 i4 j4, .int .i64 x5] from SR.out.xholds)
            go_wp2_with fail
            refine (DP.right_c (S := fun g => g ≠ bd) ⟨SR.out.xout, INV.out, by omega⟩).mono ?_; rintro _ y2 ⟨rfl, hb⟩
            have S2 := Lib.hid (SR.out.step hb)
            clear hb f0 f1 f2 f3 f4 f5 SR
            obtain ⟨f0, f1, f2, f3, f4, f5⟩ := Holds.six (show Holds y2 bx [.int .i64 q5, .slice E1 i1 j1, .slice E2 i2 j2, .slice E3 i3 j3, .slice E4 i4 j4, .int .i64 x5] from S2.out.xholds)
            go_wp2_with fail
            refine (DP.used_c (S := fun g => g ≠ bd) ⟨S2.out.xout, INV.out, by omega⟩).mono ?_; rintro _ y3 ⟨rfl, hb⟩
            have S3 := Lib.hid (S2.out.step hb)
            clear hb f0 f1 f2 f3 f4 f5 S2
            have hu2 : ((usedF D'.files : Nat) : Int) ≤ (qn : Int) := by have := INV.out.used; omega
            obtain ⟨us, hus⟩ : ∃ u : Int, ((usedF D'.files : Nat) : Int) = u := ⟨_, rfl⟩
            rw [hus] at hu2 ⊢
            have HQ := Lib.hid hq'; have HM := Lib.hid hm'
            clear hus hq' hm'
            obtain ⟨f0, f1, f2, f3, f4, f5⟩ := Holds.six (show Holds y3 bx [.int .i64 q5, .slice E1 i1 j1, .slice E2 i2 j2, .slice E3 i3 j3, .slice E4 i4 j4, .int .i64 x5] from S3.out.xholds)
            by_cases hr0 : rr = 0
            · subst hr0
              go_wp2_with (refine wpList_put rfl 29 _ _ rfl bd [.int .i64 q5, .slice E1 i1 j1, .slice E2 i2 j2, .slice E3 i3 j3, .slice E4 i4 j4, .int .i64 x5] rfl rfl S3.out.var (by kernel_rfl) (by simp [Value.oneCell']) ?_; intro y4 hp)
              go_roundw
              case rel => exact ⟨k + 1, .agg #[.int .i64 q5, .slice E1 i1 j1, .slice E2 i2 j2, .slice E3 i3 j3, .slice E4 i4 j4, .int .i64 x5], D', by omega, by go_num, Lib.hid ⟨hp.below hbd S3.out.below, hp.var, hp.at_, S3.out.xout.keep hp.keep, INV.out, HQ.out, HM.out⟩⟩
              case measure => simp [intOf]; omega
            · have hb0 : (rr != 0) = true := by simp [hr0]
              obtain rfl := HERR.out hr0
              clear hr0 HERR
              obtain ⟨h0, h1, h2, h3, h4, h5⟩ := Holds.six (show Holds y3 bd [.int .i64 q, .slice A1 n1 c1, .slice A2 n2 c2, .slice A3 n3 c3, .slice A4 n4 c4, .int .i64 x] from S3.out.holds)
              go_wp2_with fail
              refine (same_c (by have := INV.out.f256; omega) (by have := names_le INV.out; omega) (by have := kept_le INV.out; omega) (by have := HM.out; omega) (fun f hf => ⟨(INV.out.fok f hf).2.2.2, by have h1 := mem_used hf; have h2 := INV.out.used; have h3 := INV.out.quota; have h4 := HQ.out; omega⟩) S3.out.xout S3.out.out).mono ?_; rintro _ y5 ⟨rfl, hb⟩
              have S5 := Lib.hid (S3.out.step hb)
              clear hb f0 f1 f2 f3 f4 f5 h0 h1 h2 h3 h4 h5 S3
              obtain ⟨f0, f1, f2, f3, f4, f5⟩ := Holds.six (show Holds y5 bx [.int .i64 q5, .slice E1 i1 j1, .slice E2 i2 j2, .slice E3 i3 j3, .slice E4 i4 j4, .int .i64 x5] from S5.out.xholds)
              go_wp2_with (refine wpList_put rfl 29 _ _ rfl bd [.int .i64 q5, .slice E1 i1 j1, .slice E2 i2 j2, .slice E3 i3 j3, .slice E4 i4 j4, .int .i64 x5] rfl rfl S5.out.var (by kernel_rfl) (by simp [Value.oneCell']) ?_; intro y4 hp)
              go_roundw
              case rel => exact ⟨k + 1, .agg #[.int .i64 q5, .slice E1 i1 j1, .slice E2 i2 j2, .slice E3 i3 j3, .slice E4 i4 j4, .int .i64 x5], D', by omega, by go_num, Lib.hid ⟨hp.below hbd S5.out.below, hp.var, hp.at_, S5.out.xout.keep hp.keep, INV.out, HQ.out, HM.out⟩⟩
              case measure => simp [intOf]; omega
      · obtain rfl : k = n := by omega
        go_wp2
        go_ret
        exact ⟨rfl, HR.out.below⟩
end Go.Proofs.Ytmkjjcogheidmaa.DW

set_option linter.unusedSimpArgs false
set_option linter.unusedVariables false
namespace Go.Proofs.Ytmkjjcogheidmaa
open Go.RowKit
theorem DkOut.fs {S : Nat → Prop} {w : World} {q x : Value} {A : Option Addr} {n c : Nat} {v2 v3 v4 : Value} {D : PD} (h : DkOut S w (.agg #[q, .slice A n c, v2, v3, v4, x]) D) : n = D.files.length ∧ FsOut S w (.slice A n c) D.files := by
  obtain ⟨vf, vn, vk, vm, hv, hat⟩ := h
  injection hv with hv
  simp only [Array.mk.injEq, List.cons.injEq] at hv
  obtain ⟨_, h1, _⟩ := hv
  subst h1
  obtain ⟨A', c', h2, _⟩ := hat.f
  injection h2 with _ h3 _
  exact ⟨h3, hat.f⟩
theorem ByOut.take {w : World} {A : Option Addr} {n c m : Nat} {l : List Nat} (h : ByOut w (.slice A n c) l) (hm : m ≤ l.length) : ByOut w (.slice A m c) (l.take m) := by
  obtain ⟨A', c', hv, hc, hx⟩ := h
  injection hv with h1 h2 h3
  subst h1 h2 h3
  have hl : (l.take m).length = m := by rw [List.length_take]; omega
  refine ⟨A, c, by rw [hl], by rw [hl]; omega, fun hne => ?_⟩
  obtain ⟨b, off, hA, hf⟩ := hx (by intro h0; apply hne; rw [h0]; simp)
  refine ⟨b, off, hA, fun i y hi => hf i y ?_⟩
  rw [List.getElem?_take] at hi
  split at hi
  · exact hi
  · cases hi
end Go.Proofs.Ytmkjjcogheidmaa
namespace Go.Proofs.Ytmkjjcogheidmaa.DW
open Go.RowKit
theorem held4 {w w' : World} {b0 o0 b1 o1 b2 o2 b3 o3 : Nat} {v0 v1 v2 v3 : Value} (h : w.cell? ⟨b0, o0, none⟩ = some v0 ∧ w.cell? ⟨b1, o1, none⟩ = some v1 ∧ w.cell? ⟨b2, o2, none⟩ = some v2 ∧ w.cell? ⟨b3, o3, none⟩ = some v3) (hb : Below w.heap.size w w') :
    w'.cell? ⟨b0, o0, none⟩ = some v0 ∧ w'.cell? ⟨b1, o1, none⟩ = some v1 ∧ w'.cell? ⟨b2, o2, none⟩ = some v2 ∧ w'.cell? ⟨b3, o3, none⟩ = some v3 := ⟨cell_below hb h.1, cell_below hb h.2.1, cell_below hb h.2.2.1, cell_below hb h.2.2.2⟩
theorem held4k {B : Nat} {w w' : World} {b0 o0 b1 o1 b2 o2 b3 o3 : Nat} {v0 v1 v2 v3 : Value} (h : w.cell? ⟨b0, o0, none⟩ = some v0 ∧ w.cell? ⟨b1, o1, none⟩ = some v1 ∧ w.cell? ⟨b2, o2, none⟩ = some v2 ∧ w.cell? ⟨b3, o3, none⟩ = some v3) (hk : KeepS (fun g => g ≠ B) w w') (s0 : b0 ≠ B) (s1 : b1 ≠ B) (s2 : b2 ≠ B) (s3 : b3 ≠ B) :
    w'.cell? ⟨b0, o0, none⟩ = some v0 ∧ w'.cell? ⟨b1, o1, none⟩ = some v1 ∧ w'.cell? ⟨b2, o2, none⟩ = some v2 ∧ w'.cell? ⟨b3, o3, none⟩ = some v3 := ⟨(hk _ _ s0).trans h.1, (hk _ _ s1).trans h.2.1, (hk _ _ s2).trans h.2.2.1, (hk _ _ s3).trans h.2.2.2⟩
theorem held5 {w w' : World} {b0 o0 b1 o1 b2 o2 b3 o3 b4 o4 : Nat} {v0 v1 v2 v3 v4 : Value} (h : w.cell? ⟨b0, o0, none⟩ = some v0 ∧ w.cell? ⟨b1, o1, none⟩ = some v1 ∧ w.cell? ⟨b2, o2, none⟩ = some v2 ∧ w.cell? ⟨b3, o3, none⟩ = some v3 ∧ w.cell? ⟨b4, o4, none⟩ = some v4) (hb : Below w.heap.size w w') :
    w'.cell? ⟨b0, o0, none⟩ = some v0 ∧ w'.cell? ⟨b1, o1, none⟩ = some v1 ∧ w'.cell? ⟨b2, o2, none⟩ = some v2 ∧ w'.cell? ⟨b3, o3, none⟩ = some v3 ∧ w'.cell? ⟨b4, o4, none⟩ = some v4 := ⟨cell_below hb h.1, cell_below hb h.2.1, cell_below hb h.2.2.1, cell_below hb h.2.2.2.1, cell_below hb h.2.2.2.2⟩
theorem held5k {B : Nat} {w w' : World} {b0 o0 b1 o1 b2 o2 b3 o3 b4 o4 : Nat} {v0 v1 v2 v3 v4 : Value} (h : w.cell? ⟨b0, o0, none⟩ = some v0 ∧ w.cell? ⟨b1, o1, none⟩ = some v1 ∧ w.cell? ⟨b2, o2, none⟩ = some v2 ∧ w.cell? ⟨b3, o3, none⟩ = some v3 ∧ w.cell? ⟨b4, o4, none⟩ = some v4) (hk : KeepS (fun g => g ≠ B) w w') (s0 : b0 ≠ B) (s1 : b1 ≠ B) (s2 : b2 ≠ B) (s3 : b3 ≠ B) (s4 : b4 ≠ B) :
    w'.cell? ⟨b0, o0, none⟩ = some v0 ∧ w'.cell? ⟨b1, o1, none⟩ = some v1 ∧ w'.cell? ⟨b2, o2, none⟩ = some v2 ∧ w'.cell? ⟨b3, o3, none⟩ = some v3 ∧ w'.cell? ⟨b4, o4, none⟩ = some v4 := ⟨(hk _ _ s0).trans h.1, (hk _ _ s1).trans h.2.1, (hk _ _ s2).trans h.2.2.1, (hk _ _ s3).trans h.2.2.2.1, (hk _ _ s4).trans h.2.2.2.2⟩
def NoE (D : PD) : Prop := ∀ n ∈ D.names, n.name ≠ dE
theorem nmOf_ne (n : Nat) : nmOf n ≠ dE := by
  unfold nmOf
  split
  · decide
  split
  · decide
  split
  · decide
  · decide
theorem noE_play {D : PD} (h : NoE D) (s : PSt) : NoE (pPlay D s).1 := by
  unfold pPlay
  split
  · unfold pCreate
    split
    · exact h
    split
    · exact h
    · intro n hn
      rcases mem_nIns.1 hn with rfl | hn
      · exact nmOf_ne _
      · exact h n hn
  split
  · unfold pAppend
    split
    · exact h
    split
    · exact h
    · exact h
  split
  · unfold pSync
    split
    · exact h
    · exact h
  split
  · unfold pRename
    split
    · exact h
    split
    · exact h
    · intro n hn
      have hn2 : n ∈ nIns ⟨nmOf s.to, nId (nmOf s.name) D.names⟩ (nDel (nmOf s.to) (nDel (nmOf s.name) D.names)) := hn
      rcases mem_nIns.1 hn2 with rfl | hn2
      · exact nmOf_ne _
      · exact h n (mem_nDel.1 (mem_nDel.1 hn2).1).1
  split
  · unfold pRemove
    split
    · exact h
    · intro n hn
      have hn2 : n ∈ nDel (nmOf s.name) D.names := hn
      exact h n (mem_nDel.1 hn2).1
  · exact h
/-- What is known of the disk itself, behind k steps. -/
structure PlayD (k : Nat) (D : PD) : Prop where
  inv : PInv D
  few : D.moves.length ≤ k
  noe : NoE D
  next : D.next ≤ k + 1
  files : D.files.length ≤ k
  quota : D.quota = 1000
theorem PlayD.step {k : Nat} {D : PD} (h : PlayD k D) (s : PSt) (hs : StOk s) : PlayD (k + 1) (pPlay D s).1 := by
  have kp := kept_play D s
  exact ⟨play_inv h.inv hs, Nat.le_trans kp.moves (Nat.succ_le_succ h.few), noE_play h.noe s, Nat.le_trans kp.next (Nat.succ_le_succ h.next), Nat.le_trans kp.files (Nat.succ_le_succ h.files), kp.quota.trans h.quota⟩
theorem small_used {D : PD} (h : PInv D) (hq : D.quota = 1000) {f : PF} (hf : f ∈ D.files) : f.bytes.length ≤ 100000 := by
  have h1 := mem_used hf
  have h2 := h.used
  omega
theorem PlayD.new : PlayD 0 (pNew 1000) := ⟨PInv.new (by decide), Nat.le_refl _, fun n hn => absurd hn (by simp [pNew]), Nat.le_refl _, Nat.le_refl _, rfl⟩
/-- What holds ahead of each step. -/
structure PlayS (w : World) (bd k : Nat) (wr : World) (v : Value) (D : PD) : Prop where
  below : Below w.heap.size w wr
  var : DVar wr bd 6
  holds : VarAt wr bd v
  out : DkOut (fun g => g ≠ bd) wr v D
  dk : PlayD k D
end Go.Proofs.Ytmkjjcogheidmaa.DW

set_option linter.unusedSimpArgs false
set_option linter.unusedVariables false
namespace Go.Proofs.Ytmkjjcogheidmaa.DW
open Go.RowKit
set_option maxRecDepth 100000 in
set_option maxHeartbeats 4000000 in
theorem diskKept_c {v : Value} {l : List PSt} {w : World} (m : Int) (hm : -9223372036854775808 ≤ m ∧ m ≤ 9223372036854775807) (hl : l.length ≤ 9223372036854775807) (hd : ∀ s ∈ l, s.data.length ≤ 9223372036854775807) (hs : ∀ s ∈ l, StOk s) (h : StOut w v l) :
    Calls Try.prog 6 #[v, .int .i64 m] w fun e w' => e = .returned (.bool true) ∧ Below w.heap.size w w' := by
  have AL := Lib.hid (alive_c w)
  have MN := Lib.hid (fun y (b : Below w.heap.size w y) => many_c hl hd (StOut.below h b))
  have ST := Lib.hid h
  obtain ⟨A, c, rfl, hc, _⟩ := id h
  obtain ⟨n, hn⟩ : ∃ n, l.length = n := ⟨_, rfl⟩
  have HN := Lib.hid hn; have HS := Lib.hid hs; have HDL := Lib.hid hd
  rw [hn] at hl hc MN ST ⊢
  clear h hn hs hd
  have zl := fun (w : World) => alloc_below w (.cells #[.int .i64 0, .slice none 0 0, .slice none 0 0, .slice none 0 0, .slice none 0 0, .int .i64 0] 29)
  have ZL := Lib.hid zl
  clear zl
  have YM := Lib.hid hm
  obtain ⟨hm0, hm1⟩ := hm
  go_enter Try.func6, Try.ntmps6
  go_wp2_with fail
  refine AL.out.mono ?_; rintro _ w1 ⟨rfl, hb⟩
  have B1 := Lib.hid hb
  clear hb AL
  go_wp2_with fail
  refine (MN.out _ B1.out).mono ?_; rintro _ w2 ⟨r, rfl, hr, rfl⟩
  cases r with
  | true =>
    go_wp2
    go_ret
    exact ⟨rfl, B1.out⟩
  | false =>
    have hr2 := hr rfl
    rw [HN.out] at hr2
    have hn60 : n ≤ 60 := hr2.1
    have HW := Lib.hid hr2.2
    clear hr hr2 MN HDL
    go_wp2_with fail
    refine (DP.new_c (S := fun _ => False) 1000 (by decide) _).mono ?_; rintro _ w3 ⟨v3, rfl, ho, hb⟩
    obtain ⟨qz, Aaz, naz, caz, Abz, nbz, cbz, Acz, ncz, ccz, Adz, ndz, cdz, xz, rfl⟩ := ho.form
    have B3 := Lib.hid (bnext (bnext B1.out hb) (ZL.out w3)); have D3 := Lib.hid (ho.apart.below (ZL.out w3)); have hbd : w.heap.size ≤ w3.heap.size := (bnext B1.out hb).size
    clear ho hb
    go_wp2_with (refine wpList_put rfl 29 _ _ rfl w3.heap.size _ rfl rfl (DVar.alloc _ _) (by kernel_rfl) (by simp [Value.oneCell']) ?_; intro y hp)
    have R0 := Lib.hid (⟨hp.below hbd B3.out, hp.var, hp.at_, D3.out.keep hp.keep, PlayD.new⟩ : PlayS w w3.heap.size 0 y (.agg #[.int .i64 qz, .slice Aaz naz caz, .slice Abz nbz cbz, .slice Acz ncz ccz, .slice Adz ndz cdz, .int .i64 xz]) (pNew 1000))
    obtain ⟨bd, hbde⟩ : ∃ b, w3.heap.size = b := ⟨_, rfl⟩
    rw [hbde] at R0 hbd ⊢
    clear hp B3 D3 B1 hbde
    go_wp2_with fail
    go_loopw [7] (fun i wr => ∃ (k : Nat) (v : Value) (D : PD), k ≤ n ∧ i = .int .i64 k ∧ Hid (PlayS w bd k wr v D)) (fun i _ => n - (intOf i).toNat)
    case atStart => exact ⟨0, _, _, Nat.zero_le _, rfl, R0⟩
    case round =>
      obtain ⟨k, v, D, hk, rfl, HR⟩ := hrel
      clear R0
      by_cases hlt : k < n
      · obtain ⟨q, A1, n1, c1, A2, n2, c2, A3, n3, c3, A4, n4, c4, x, rfl⟩ := HR.out.out.form
        have hS0 := Holds.six (show Holds wr bd [.int .i64 q, .slice A1 n1 c1, .slice A2 n2 c2, .slice A3 n3 c3, .slice A4 n4 c4, .int .i64 x] from HR.out.holds)
        obtain ⟨b, o, rfl, s, hs, e0, e1, e2, u, e3, hu⟩ := SlOut.nth' (StOut.below ST.out HR.out.below) (show k < l.length from by rw [HN.out]; exact hlt)
        obtain ⟨Z, z, rfl, _, _⟩ := id hu
        have HU := Lib.hid hu
        have SOK := Lib.hid (HS.out s (List.mem_of_getElem? hs))
        have SLEN : s.data.length ≤ 100000 := by have h1 := wSum_mem (List.mem_of_getElem? hs); have h2 := HW.out; omega
        have hbl : b < wr.heap.size := World.block_lt_of_cell? wr _ e0
        have hbdl : bd < wr.heap.size := HR.out.var.lt
        have hbne : b ≠ bd := by
          obtain ⟨b2, o2, hA2, s2, _, f0, _⟩ := SlOut.nth' ST.out (show k < l.length from by rw [HN.out]; exact hlt)
          injection hA2 with hA3; injection hA3 with hA4
          have : b2 < w.heap.size := World.block_lt_of_cell? w _ f0
          omega
        clear hu hs
        have hi0 : (0 : Int) ≤ (k : Int) := by omega
        have hi1 : (k : Int) < (n : Int) := by omega
        go_wp2_with fail
        have IN := Lib.hid (DkIn.play (HR.out.out.below (Below.refl _ _).drew : DkOut (fun g => g ≠ bd) wr.drew (.agg #[.int .i64 q, .slice A1 n1 c1, .slice A2 n2 c2, .slice A3 n3 c3, .slice A4 n4 c4, .int .i64 x]) D) HR.out.dk.inv HR.out.dk.few (by omega))
        have hwd := Lib.hid (show Below w.heap.size w wr.drew from HR.out.below.drew)
        have VD := Lib.hid (show DVar wr.drew bd 6 from ⟨HR.out.var.lt, HR.out.var.c, HR.out.var.f⟩)
        refine wp_region_held_drew (S := fun y => y.cell? ⟨b, o + k * 4, none⟩ = some (.int .u8 ((s.kind : Nat) : Int)) ∧ y.cell? ⟨b, o + k * 4 + 1, none⟩ = some (.int .u8 ((s.name : Nat) : Int)) ∧ y.cell? ⟨b, o + k * 4 + 2, none⟩ = some (.int .u8 ((s.to : Nat) : Int)) ∧ y.cell? ⟨b, o + k * 4 + 3, none⟩ = some (.slice Z s.data.length z)) (by kernel_rfl) ?hs (fun hHeld => ?hr)
        case hs => exact ⟨e0, e1, e2, e3⟩
        case hr =>
          clear e0 e1 e2 e3
          obtain ⟨g0, g1, g2, g3, g4, g5⟩ := hS0
          refine wpAnyH_take (i := 1) (v := .slice (some ⟨b, o, none⟩) n c) rfl (by kernel_rfl) (by kernel_rfl) (by kernel_rfl) (fun _ _ _ h => h) (Or.inl ⟨by rfl, fun w hSw => ?_⟩) (by assumption) ?_
          · ((try dsimp only at hSw); go_simp)
          change wpAnyH _ _ _ _ _ _ _ (Act.put _ (some 32) (.slice (some ⟨b, o, none⟩) n c)) _
          simp only [Act.put, List.setIfInBounds_toArray, List.set_cons_zero, List.set_cons_succ]
          refine wpAnyH_take (i := 2) (v := .int .i64 (k : Nat)) rfl (by kernel_rfl) (by kernel_rfl) (by kernel_rfl) (fun _ _ _ h => h) (Or.inl ⟨by rfl, fun w hSw => ?_⟩) (by assumption) ?_
          · ((try dsimp only at hSw); go_simp)
          change wpAnyH _ _ _ _ _ _ _ (Act.put _ (some 33) (.int .i64 (k : Nat))) _
          simp only [Act.put, List.setIfInBounds_toArray, List.set_cons_zero, List.set_cons_succ]
          refine wpAnyH_take (i := 3) (v := .pointer (some ⟨b, o + k * 4, none⟩)) rfl (by kernel_rfl) (by kernel_rfl) (by kernel_rfl) (fun _ _ _ h => h) (Or.inl ⟨by rfl, fun w hSw => ?_⟩) (by assumption) ?_
          · ((try dsimp only at hSw); go_simp)
          change wpAnyH _ _ _ _ _ _ _ (Act.put _ (some 34) (.pointer (some ⟨b, o + k * 4, none⟩))) _
          simp only [Act.put, List.setIfInBounds_toArray, List.set_cons_zero, List.set_cons_succ]
          refine wpAnyH_take (i := 4) (v := .agg #[.int .u8 ((s.kind : Nat) : Int), .int .u8 ((s.name : Nat) : Int), .int .u8 ((s.to : Nat) : Int), .slice Z s.data.length z]) rfl (by kernel_rfl) (by kernel_rfl) (by kernel_rfl) (fun _ _ _ h => h) (Or.inl ⟨by rfl, fun w hSw => ?_⟩) (by assumption) ?_
          · ((try dsimp only at hSw); go_simp)
          change wpAnyH _ _ _ _ _ _ _ (Act.put _ (some 35) (.agg #[.int .u8 ((s.kind : Nat) : Int), .int .u8 ((s.name : Nat) : Int), .int .u8 ((s.to : Nat) : Int), .slice Z s.data.length z])) _
          simp only [Act.put, List.setIfInBounds_toArray, List.set_cons_zero, List.set_cons_succ]
          refine wpAnyH_ready (rs := [0]) (by kernel_rfl) (by simp) ?_
          refine AllReadyH.cons rfl (fun K hK => ?_) AllReadyH.nil
          go_simp
          refine hK.out _ _ hHeld (fun hHeld => ?_)
          clear hK K g0 g1 g2 g3 g4 g5
          try simp only [Act.put, List.setIfInBounds_toArray, List.set_cons_zero, List.set_cons_succ]
          refine wpAnyH_ready (rs := [5]) (by kernel_rfl) (by simp) ?_
          refine AllReadyH.cons rfl (fun K hK => ?_) AllReadyH.nil
          go_simp
          refine (play_c (S := fun g => g ≠ bd ∧ g < wr.heap.size) IN.out s SOK.out SLEN (HU.out.below (Below.refl _ _).drew)).mono ?_; rintro _ w4 ⟨v4, rfl, ho, hb⟩; obtain ⟨q5, Aa5, na5, ca5, Ab5, nb5, cb5, Ac5, nc5, cc5, Ad5, nd5, cd5, x5, rfl⟩ := ho.form
          have HB := Lib.hid hb; have HO := Lib.hid ho
          clear hb ho
          (try go_wp2_with fail)
          refine hK.out _ _ (held4 hHeld HB.out) (fun hHeld => ?_)
          clear hK K
          try simp only [Act.put, List.setIfInBounds_toArray, List.set_cons_zero, List.set_cons_succ]
          refine wpAnyH_take (i := 6) (v := .tuple #[.agg #[.int .i64 q5, .slice Aa5 na5 ca5, .slice Ab5 nb5 cb5, .slice Ac5 nc5 cc5, .slice Ad5 nd5 cd5, .int .i64 x5], .int .i64 (pPlay D s).2]) rfl (by kernel_rfl) (by kernel_rfl) (by kernel_rfl) (fun _ _ _ h => h) (Or.inl ⟨by rfl, fun w hSw => ?_⟩) (by assumption) ?_
          · ((try dsimp only at hSw); go_simp)
          change wpAnyH _ _ _ _ _ _ _ (Act.put _ (some 30) (.tuple #[.agg #[.int .i64 q5, .slice Aa5 na5 ca5, .slice Ab5 nb5 cb5, .slice Ac5 nc5 cc5, .slice Ad5 nd5 cd5, .int .i64 x5], .int .i64 (pPlay D s).2])) _
          simp only [Act.put, List.setIfInBounds_toArray, List.set_cons_zero, List.set_cons_succ]
          refine wpAnyH_take (i := 7) (v := .agg #[.int .i64 q5, .slice Aa5 na5 ca5, .slice Ab5 nb5 cb5, .slice Ac5 nc5 cc5, .slice Ad5 nd5 cd5, .int .i64 x5]) rfl (by kernel_rfl) (by kernel_rfl) (by kernel_rfl) (fun _ _ _ h => h) (Or.inl ⟨by rfl, fun w hSw => ?_⟩) (by assumption) ?_
          · ((try dsimp only at hSw); go_simp)
          change wpAnyH _ _ _ _ _ _ _ (Act.put _ (some 37) (.agg #[.int .i64 q5, .slice Aa5 na5 ca5, .slice Ab5 nb5 cb5, .slice Ac5 nc5 cc5, .slice Ad5 nd5 cd5, .int .i64 x5])) _
          simp only [Act.put, List.setIfInBounds_toArray, List.set_cons_zero, List.set_cons_succ]
          refine wpAnyH_take (i := 8) (v := .int .i64 (pPlay D s).2) rfl (by kernel_rfl) (by kernel_rfl) (by kernel_rfl) (fun _ _ _ h => h) (Or.inl ⟨by rfl, fun w hSw => ?_⟩) (by assumption) ?_
          · ((try dsimp only at hSw); go_simp)
          change wpAnyH _ _ _ _ _ _ _ (Act.put _ (some 38) (.int .i64 (pPlay D s).2)) _
          simp only [Act.put, List.setIfInBounds_toArray, List.set_cons_zero, List.set_cons_succ]
          refine wpAnyH_ready (rs := [9]) (by kernel_rfl) (by simp) ?_
          refine AllReadyH.cons rfl (fun K hK => ?_) AllReadyH.nil
          refine step_put rfl 29 _ _ rfl bd [.int .i64 q5, .slice Aa5 na5 ca5, .slice Ab5 nb5 cb5, .slice Ac5 nc5 cc5, .slice Ad5 nd5 cd5, .int .i64 x5] rfl rfl (DVar.below HB.out VD.out) (by kernel_rfl) (by simp [Value.oneCell']) ?_
          intro y hp
          refine hK.out _ _ (held4k (by assumption) hp.keep hbne hbne hbne hbne) (fun hHeld => ?_)
          clear hK K
          try simp only [Act.put, List.setIfInBounds_toArray, List.set_cons_zero, List.set_cons_succ]
          refine wpAnyH_done (by kernel_rfl) ?_ _
          have XO := Lib.hid (HO.out.mono (S' := fun g => g ≠ bd) fun g _ h => h.elim (fun h => h.1) fun h => Nat.ne_of_gt (Nat.lt_of_lt_of_le hbdl h))
          have NX := Lib.hid (⟨hp.below hbd (bnext hwd.out HB.out), hp.var, hp.at_, XO.out.keep hp.keep, HR.out.dk.step s SOK.out⟩ : PlayS w bd (k + 1) y (.agg #[.int .i64 q5, .slice Aa5 na5 ca5, .slice Ab5 nb5 cb5, .slice Ac5 nc5 cc5, .slice Ad5 nd5 cd5, .int .i64 x5]) (pPlay D s).1)
          clear hp XO HB HO IN hwd VD
          go_wp2
          go_roundw
          case rel => exact ⟨k + 1, .agg #[.int .i64 q5, .slice Aa5 na5 ca5, .slice Ab5 nb5 cb5, .slice Ac5 nc5 cc5, .slice Ad5 nd5 cd5, .int .i64 x5], (pPlay D s).1, by omega, by go_num, NX⟩
          case measure => simp [intOf]; omega
      · obtain rfl : k = n := by omega
        obtain ⟨q0, Aa0, na0, ca0, Ab0, nb0, cb0, Ac0, nc0, cc0, Ad0, nd0, cd0, x0, rfl⟩ := HR.out.out.form
        obtain ⟨c0, c1, c2, c3, c4, c5⟩ := Holds.six (show Holds wr bd [.int .i64 q0, .slice Aa0 na0 ca0, .slice Ab0 nb0 cb0, .slice Ac0 nc0 cc0, .slice Ad0 nd0 cd0, .int .i64 x0] from HR.out.holds)
        have E0 := Lib.hid HR.out.below; have V0 := Lib.hid HR.out.var; have G0 := Lib.hid HR.out.out; have DK := Lib.hid HR.out.dk
        clear HR
        obtain ⟨y0, hy0⟩ : ∃ y, wr = y := ⟨_, rfl⟩
        subst hy0
        go_wp2_with fail
        refine (DP.syncDir_c ⟨G0.out, DK.out.inv, Nat.le_trans DK.out.few (by omega)⟩).mono ?_; rintro _ w4 ⟨v4, rfl, hd, hb0⟩
        obtain ⟨q1, Aa1, na1, ca1, Ab1, nb1, cb1, Ac1, nc1, cc1, Ad1, nd1, cd1, x1, rfl⟩ := hd.form
        have hb := hb0
        have hv0 := V0.out
        have U1 := Lib.hid (DVar.below hb V0.out); have B1 := Lib.hid (bnext E0.out hb); have D1 := Lib.hid (hd.ne hv0)
        clear hd hb hb0 hv0 V0 E0 G0 c0 c1 c2 c3 c4 c5
        go_wp2_with (refine wpList_put rfl 29 _ _ rfl (bd) _ rfl rfl U1.out (by kernel_rfl) (by simp [Value.oneCell']) ?_; intro y1 hp; obtain ⟨c0, c1, c2, c3, c4, c5⟩ := hp.at_.six)
        have V1 := Lib.hid (show DVar y1 bd 6 from hp.var); have E1 := Lib.hid (hp.below hbd B1.out); have G1 := Lib.hid (D1.out.keep hp.keep)
        have H1 := Lib.hid (show Holds y1 bd [.int .i64 q1, .slice Aa1 na1 ca1, .slice Ab1 nb1 cb1, .slice Ac1 nc1 cc1, .slice Ad1 nd1 cd1, .int .i64 x1] from hp.at_)
        clear hp U1 B1 D1
        have EI := Lib.hid (PInv.syncDir DK.out.inv)
        refine (DP.crash_c (k := m) (ks := []) YM.out kok0 ⟨G1.out, EI.out, by show 0 ≤ 200; decide⟩ SlOut.nil).mono ?_; rintro _ wa ⟨va, rfl, hd, hb⟩
        have XI := Lib.hid (PInv.crash EI.out m [])
        obtain ⟨qx, Ax, nx, cx, Ay, ny, cy, Az, nz, cz, Aw, nw, cw, xx, rfl⟩ := hd.form
        have hf1 := (DkOut.fs G1.out).1
        have hf2 := (DkOut.fs hd).1
        rw [kept_files, List.length_map, ← hf1] at hf2
        have hf3 := hf2.symm; clear hf2; subst hf3
        have HF := Lib.hid hf1
        have L1 : bd < wa.heap.size := Nat.lt_of_lt_of_le V1.out.lt hb.size
        have hne : bd ≠ wa.heap.size := Nat.ne_of_lt L1
        have LA2 : w.heap.size ≤ wa.heap.size := (bnext E1.out hb).size
        have BA := Lib.hid (bnext (bnext E1.out hb) (ZL.out wa)); have DA := Lib.hid (hd.old.below (ZL.out wa)); have GA := Lib.hid ((G1.out.below hb).old.below (ZL.out wa)); have HA := Lib.hid ((H1.out.below hb).below (ZL.out wa))
        clear hd hb hf1 V1 E1 G1 H1 c0 c1 c2 c3 c4 c5
        go_wp2_with (refine wpList_put rfl 29 _ _ rfl wa.heap.size _ rfl rfl (DVar.alloc _ _) (by kernel_rfl) (by simp [Value.oneCell']) ?_; intro ya hp; obtain ⟨c0, c1, c2, c3, c4, c5⟩ := Holds.six (Holds.keep HA.out hp.keep hne))
        obtain ⟨bx, hbx⟩ : ∃ b, wa.heap.size = b := ⟨_, rfl⟩
        have HX := Lib.hid (show Holds ya wa.heap.size [.int .i64 qx, .slice Ax na1 cx, .slice Ay ny cy, .slice Az nz cz, .slice Aw nw cw, .int .i64 xx] from hp.at_)
        have HD := Lib.hid (Holds.keep HA.out hp.keep hne)
        have EA := Lib.hid (hp.below LA2 BA.out); have XA := Lib.hid (DA.out.put_lt hp); have DD := Lib.hid (GA.out.put_lt hp)
        clear hp BA DA GA HA
        rw [hbx] at HX XA DD ⊢
        clear hbx hne L1 LA2
        refine (DP.list_c ⟨DD.out, EI.out, by show 0 ≤ 200; decide⟩).mono ?_; rintro _ wb ⟨vb, rfl, ho, hb⟩
        have OB := Lib.hid ho; have EB := Lib.hid (bnext EA.out hb); have HXB := Lib.hid (HX.out.below hb); have HDB := Lib.hid (HD.out.below hb); have XB := Lib.hid (XA.out.below hb); have DB := Lib.hid (DD.out.below hb)
        clear ho hb EA HX HD XA DD c0 c1 c2 c3 c4 c5
        obtain ⟨c0, c1, c2, c3, c4, c5⟩ := Holds.six HXB.out
        go_wp2_with fail
        refine (DP.list_c ⟨XB.out, XI.out, by show 0 ≤ 200; decide⟩).mono ?_; rintro _ wc ⟨vc, rfl, ho, hb⟩
        rw [kept_names] at ho
        have OC := Lib.hid ho; have OBC := Lib.hid (OB.out.below hb); have EC := Lib.hid (bnext EB.out hb); have HXC := Lib.hid (HXB.out.below hb); have HDC := Lib.hid (HDB.out.below hb); have XC := Lib.hid (XB.out.below hb); have DC := Lib.hid (DB.out.below hb)
        clear ho hb OB EB HXB HDB XB DB c0 c1 c2 c3 c4 c5
        go_wp2_with fail
        refine (texts_c (by rw [List.length_map]; have := names_le EI.out; omega) OBC.out OC.out).mono ?_; rintro _ wd ⟨rfl, hb⟩
        have ED := Lib.hid (bnext EC.out hb); have HXD := Lib.hid (HXC.out.below hb); have HDD := Lib.hid (HDC.out.below hb); have FX := Lib.hid (DkOut.fs (XC.out.below hb)).2; have FD := Lib.hid (DkOut.fs (DC.out.below hb)).2
        clear hb OBC OC EC HXC HDC XC DC
        obtain ⟨c0, c1, c2, c3, c4, c5⟩ := Holds.six HXD.out
        obtain ⟨g0, g1, g2, g3, g4, g5⟩ := Holds.six HDD.out
        go_wp2_with fail
        clear c0 c1 c2 c3 c4 c5 g0 g1 g2 g3 g4 g5
        have hna : na1 ≤ 256 := by rw [HF.out]; exact EI.out.f256
        go_loopw [4, 15] (fun u4 i wj => ∃ j : Nat, j ≤ na1 ∧ i = .int .i64 j ∧ Hid (Below wd.heap.size wd wj)) (fun _ i _ => na1 - (intOf i).toNat)
        case atStart => exact ⟨0, Nat.zero_le _, rfl, Below.refl _ _⟩
        case round =>
          obtain ⟨j, hj, rfl, HJ⟩ := hrel
          have c1 := (HXD.out.below HJ.out) 1 _ rfl
          have g1 := (HDD.out.below HJ.out) 1 _ rfl
          by_cases hlt2 : j < na1
          · obtain ⟨b1, o1, rfl, fx, hfx, _, ⟨u1, hu1, hy1⟩, _⟩ := SlOut.nth' (FsOut.below FX.out HJ.out) (show j < (pCrash (pSyncDir D) m []).files.length from by rw [kept_files, List.length_map, ← HF.out]; exact hlt2)
            obtain ⟨b2, o2, rfl, fd, hfd, _, ⟨u2, hu2, hy2⟩, hs2⟩ := SlOut.nth' (FsOut.below FD.out HJ.out) (show j < (pSyncDir D).files.length from by rw [← HF.out]; exact hlt2)
            have hcut : fx = fCut [] fd := by
              rw [kept_files, List.getElem?_map, hfd] at hfx
              exact (Option.some.inj hfx).symm
            subst hcut
            have hok := EI.out.fok fd (List.mem_of_getElem? hfd)
            have hle := mem_used (List.mem_of_getElem? hfd)
            obtain ⟨Z1, i1, rfl, _, _⟩ := id hy1
            obtain ⟨Z2, i2, rfl, hi2, _⟩ := id hy2
            have hb1 := hy1.out
            have hb2 := ByOut.take hy2.out hok.2.2.1
            rw [fCut_nil] at hb1 hu1
            have hln : (fd.bytes.take fd.sure).length = fd.sure := by rw [List.length_take]; exact Nat.min_eq_left hok.2.2.1
            rw [hln] at hb1 hu1
            have QT : fd.bytes.length ≤ 100000 := small_used EI.out DK.out.quota (List.mem_of_getElem? hfd)
            have hsi : (fd.sure : Int) ≤ (i2 : Int) := by have := hok.2.2.1; omega
            have BS := fun y (h : Below wr.heap.size wr y) => bySame_c (.slice Z1 fd.sure i1) (.slice Z2 fd.sure i2) (fd.bytes.take fd.sure) (fd.bytes.take fd.sure) (by rw [hln]; exact Nat.le_trans hok.2.2.1 QT) (by rw [hln]; exact Nat.le_trans hok.2.2.1 QT) y (hb1.below h) (hb2.below h)
            rw [decide_eq_true rfl] at BS
            have hsl : fd.sure ≤ 100000 := Nat.le_trans hok.2.2.1 QT
            obtain ⟨nb, hnb⟩ : ∃ n, fd.bytes.length = n := ⟨_, rfl⟩
            obtain ⟨ns, hns⟩ : ∃ n, fd.sure = n := ⟨_, rfl⟩
            rw [hnb] at hu2
            rw [hns] at hu1 hs2 hsi BS hsl
            have BSH := Lib.hid BS
            have hns0 : (0 : Int) ≤ (ns : Int) := by omega
            have hj0 : (0 : Int) ≤ (j : Int) := by omega
            have hj1 : (j : Int) < (na1 : Int) := by omega
            clear BS hb1 hb2 hy1 hy2 hok hle hln QT hfx hfd hi2 hnb hns
            go_wp2_with fail
            go_region_held3 (fun y => y.cell? ⟨bx, 1, none⟩ = some (.slice (some ⟨b1, o1, none⟩) na1 cx) ∧ y.cell? ⟨bd, 1, none⟩ = some (.slice (some ⟨b2, o2, none⟩) na1 ca1) ∧ y.cell? ⟨b1, o1 + j * 3 + 1, none⟩ = some (.slice Z1 ns i1) ∧ y.cell? ⟨b2, o2 + j * 3 + 1, none⟩ = some (.slice Z2 nb i2) ∧ y.cell? ⟨b2, o2 + j * 3 + 2, none⟩ = some (.int .i64 (ns : Nat)))
              (first | exact held5 (by assumption) (by assumption) | go_keep)
              (first
                | (go_at_call 21; refine (BSH.out _ (Below.refl _ _).drew).mono ?_; rintro e wz ⟨rfl, hbz⟩))
            have NJ := Lib.hid (bnext HJ.out.drew hbz)
            clear hbz
            go_wp2
            go_roundw
            case rel => exact ⟨j + 1, by omega, by go_num, NJ⟩
            case measure => simp [intOf]; omega
          · obtain rfl : j = na1 := by omega
            go_wp2
            go_ret
            exact ⟨rfl, bnext ED.out HJ.out⟩
end Go.Proofs.Ytmkjjcogheidmaa.DW
