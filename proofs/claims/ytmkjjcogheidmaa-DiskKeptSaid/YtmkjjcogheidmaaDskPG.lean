/-
  canBeDone at a move that can be done.
-/
import Derived.Test.YtmkjjcogheidmaaDskPE
set_option linter.unusedSimpArgs false
set_option linter.unusedVariables false
namespace Go.Proofs.Ytmkjjcogheidmaa.DP
open Go.RowKit
set_option maxRecDepth 100000 in
set_option maxHeartbeats 2000000 in
theorem canAdd_c {S : Nat → Prop} {l : List PN} {v : Value} {w : World} {s : ByteArray} {i : Nat} (hv : NsOut S w v l) (hs : NS l) (hl : l.length ≤ 900000) (hn : ¬ nHas s l) (ho : okN s) :
    Calls Try.prog 42 #[v, .agg #[.int .i64 1, .string s, .string ByteArray.empty, .int .i64 (i : Nat)]] w fun e w' => e = .returned (.bool true) ∧ Below w.heap.size w w' := by
  obtain ⟨A, c, rfl⟩ : ∃ A c, v = .slice A l.length c := by obtain ⟨A, c, h, _⟩ := hv; exact ⟨A, c, h⟩
  have hfc := fun W (h : Below w.heap.size w W) => find_c (s := s) (hv.below h) (by omega) hs false ⟨fun h => absurd h (by decide), fun h => absurd h hn⟩
  have hmb := fun W => mayBe_c s ho W
  clear hv hs hn ho
  generalize nAt s l = p at hfc
  generalize l.length = n at hfc
  go_enter Try.func42, Try.ntmps42
  go_wp2_with (first
    | (go_at_call 46; refine (hfc _ (alloc_below _ _)).mono ?_; rintro e w1 ⟨rfl, hb1⟩; obtain ⟨y1, y2⟩ := bcl hb1; have HB1 := Lib.hid ((alloc_below w _).trans (hb1.mono (by simp))))
    | (go_at_call 38; refine (hmb _).mono ?_; rintro e w2 ⟨rfl, rfl⟩))
  go_ret
  exact ⟨rfl, HB1.out⟩
set_option maxRecDepth 100000 in
set_option maxHeartbeats 2000000 in
theorem canDrop_c {S : Nat → Prop} {l : List PN} {v : Value} {w : World} {s : ByteArray} (hv : NsOut S w v l) (hs : NS l) (hl : l.length ≤ 900000) (hn : nHas s l) :
    Calls Try.prog 42 #[v, .agg #[.int .i64 2, .string s, .string ByteArray.empty, .int .i64 0]] w fun e w' => e = .returned (.bool true) ∧ Below w.heap.size w w' := by
  obtain ⟨A, c, rfl⟩ : ∃ A c, v = .slice A l.length c := by obtain ⟨A, c, h, _⟩ := hv; exact ⟨A, c, h⟩
  have hfc := fun W (h : Below w.heap.size w W) => find_c (s := s) (hv.below h) (by omega) hs true ⟨fun _ => hn, fun _ => rfl⟩
  clear hv hs hn
  generalize nAt s l = p at hfc
  generalize l.length = n at hfc
  go_enter Try.func42, Try.ntmps42
  go_wp2_with (go_at_call 46; refine (hfc _ (alloc_below _ _)).mono ?_; rintro e w1 ⟨rfl, hb1⟩; obtain ⟨y1, y2⟩ := bcl hb1; have HB1 := Lib.hid ((alloc_below w _).trans (hb1.mono (by simp))))
  go_ret
  exact ⟨rfl, HB1.out⟩
set_option maxRecDepth 100000 in
set_option maxHeartbeats 2000000 in
theorem canMove_c {S : Nat → Prop} {l : List PN} {v : Value} {w : World} {s t : ByteArray} (hv : NsOut S w v l) (hs : NS l) (hl : l.length ≤ 900000) (hn : nHas s l) (ho : okN t) (hne : t ≠ s) :
    Calls Try.prog 42 #[v, .agg #[.int .i64 3, .string s, .string t, .int .i64 0]] w fun e w' => e = .returned (.bool true) ∧ Below w.heap.size w w' := by
  obtain ⟨A, c, rfl⟩ : ∃ A c, v = .slice A l.length c := by obtain ⟨A, c, h, _⟩ := hv; exact ⟨A, c, h⟩
  have hfc := fun W (h : Below w.heap.size w W) => find_c (s := s) (hv.below h) (by omega) hs true ⟨fun _ => hn, fun _ => rfl⟩
  have hmb := fun W => mayBe_c t ho W
  have hne2 : ¬ t.toList = s.toList := fun e => hne (sl_inj (by rw [ByteArray.toList_eq, ByteArray.toList_eq] at e; exact e))
  have hne3 : (t.toList == s.toList) = false := by simpa using hne2
  clear hv hs hn ho hne
  generalize nAt s l = p at hfc
  generalize l.length = n at hfc
  go_enter Try.func42, Try.ntmps42
  go_wp2_with (first
    | (go_at_call 46; refine (hfc _ (alloc_below _ _)).mono ?_; rintro e w1 ⟨rfl, hb1⟩; obtain ⟨y1, y2⟩ := bcl hb1; have HB1 := Lib.hid ((alloc_below w _).trans (hb1.mono (by simp))))
    | (go_at_call 38; refine (hmb _).mono ?_; rintro e w2 ⟨rfl, rfl⟩))
  all_goals (go_ret; exact ⟨rfl, HB1.out⟩)
theorem canBeDone_c {S : Nat → Prop} {l : List PN} {ids : List Nat} {m : PM} {v : Value} {w : World} (hv : NsOut S w v l) (hs : NS l) (hl : l.length ≤ 900000) (hm : mOk l ids m) :
    Calls Try.prog 42 #[v, .agg #[.int .i64 (m.kind : Nat), .string m.name, .string m.to, .int .i64 (m.id : Nat)]] w fun e w' => e = .returned (.bool true) ∧ Below w.heap.size w w' := by
  obtain ⟨k, s, t, i⟩ := m
  obtain ⟨ho, ⟨hk, hn, ht, _⟩ | ⟨hk, hn, ht, hi⟩ | ⟨hk, hn, ht, hne, hi⟩⟩ := hm
  · obtain rfl : k = 1 := hk
    obtain rfl : t = ByteArray.empty := ht
    exact canAdd_c hv hs hl hn ho
  · obtain rfl : k = 2 := hk
    obtain rfl : t = ByteArray.empty := ht
    obtain rfl : i = 0 := hi
    exact canDrop_c hv hs hl hn
  · obtain rfl : k = 3 := hk
    obtain rfl : i = 0 := hi
    exact canMove_c hv hs hl hn ht hne
end Go.Proofs.Ytmkjjcogheidmaa.DP
