/-
  The statements of layer 6, walked, the fourth part: how much is played.
-/
import Derived.Test.YtmkjjcogheidmaaDskWB
set_option linter.unusedSimpArgs false
set_option linter.unusedVariables false
namespace Go.Proofs.Ytmkjjcogheidmaa.DW
open Go.RowKit
theorem SlOut.nth' {S : Nat → Prop} {w : World} {A : Option Addr} {n m cap size k : Nat} {R : World → Nat → Nat → Nat → Prop} (h : SlOut S w (.slice A m cap) n size R) (hk : k < n) : ∃ b off, A = some ⟨b, off, none⟩ ∧ R w b (off + k * size) k := by
  obtain ⟨A', cap', hv, hc, hx⟩ := h
  injection hv with h1 h2 h3
  subst h1
  obtain ⟨b, off, hA, _, hf⟩ := hx (Nat.lt_of_le_of_lt (Nat.zero_le _) hk)
  exact ⟨b, off, hA, hf k hk⟩
def wSum (l : List PSt) : Nat := (l.map fun s => 1 + min s.data.length 10000).sum
theorem wSum_snoc (l : List PSt) (s : PSt) : wSum (l ++ [s]) = wSum l + (1 + min s.data.length 10000) := by simp [wSum]
theorem wSum_take (l : List PSt) (k : Nat) : wSum (l.take k) ≤ wSum l := by
  have e : wSum (l.take k) + wSum (l.drop k) = wSum l := by
    unfold wSum
    rw [← List.sum_append, ← List.map_append, List.take_append_drop]
  omega
def ManyP (l : List PSt) (w : World) (e : Ending) (w' : World) : Prop := ∃ r : Bool, e = .returned (.bool r) ∧ (r = false → l.length ≤ 60 ∧ wSum l ≤ 3000) ∧ w = w'
set_option maxRecDepth 100000 in
set_option maxHeartbeats 4000000 in
theorem many_c {v : Value} {l : List PSt} {w : World} (hl : l.length ≤ 9223372036854775807) (hd : ∀ s ∈ l, s.data.length ≤ 9223372036854775807) (h : StOut w v l) :
    Calls Try.prog 8 #[v] w (ManyP l w) := by
  obtain ⟨A, c, rfl, hc, _⟩ := id h
  obtain ⟨n, hn⟩ : ∃ n, l.length = n := ⟨_, rfl⟩
  have H := Lib.hid h; have HN := Lib.hid hn; have HD := Lib.hid hd
  rw [hn] at hl hc H ⊢
  clear h hn hd
  go_enter Try.func8, Try.ntmps8
  go_wp2
  go_loop [3, 4] (fun s i => ∃ k r : Nat, k ≤ n ∧ r ≤ 13001 ∧ s = .int .i64 r ∧ i = .int .i64 k ∧ Hid (r = wSum (l.take k))) (fun _ i => n - (intOf i).toNat)
  case atStart => exact ⟨0, 0, Nat.zero_le _, Nat.zero_le _, rfl, rfl, rfl⟩
  case round =>
    obtain ⟨k, r, hk, hr, rfl, rfl, HI⟩ := hrel
    by_cases hlt : k < n
    · by_cases hr3 : r ≤ 3000
      · obtain ⟨b, o, rfl, g, hg, _, _, _, u, hu, hb⟩ := SlOut.nth' H.out (show k < l.length from by rw [HN.out]; exact hlt)
        obtain ⟨Z, z, rfl, _, _⟩ := id hb
        have hs : wSum (l.take (k + 1)) = r + (1 + min g.data.length 10000) := by
          rw [List.take_add_one, hg, HI.out]
          exact wSum_snoc _ g
        have hm := HD.out g (List.mem_of_getElem? hg)
        obtain ⟨d, hde⟩ : ∃ d, g.data.length = d := ⟨_, rfl⟩
        rw [hde] at hs hm hu
        have HS := Lib.hid hs
        clear hs hb hg hde
        by_cases hd1 : d ≤ 10000
        · go_wp2
          go_round
          case rel => exact ⟨k + 1, r + (1 + d), by omega, by omega, by go_num, by go_num, Lib.hid (by rw [HS.out, Nat.min_eq_left hd1])⟩
          case measure => simp [intOf]; omega
        · go_wp2
          go_round
          case rel => exact ⟨k + 1, r + (1 + 10000), by omega, by omega, by go_num, by go_num, Lib.hid (by rw [HS.out, Nat.min_eq_right (by omega)])⟩
          case measure => simp [intOf]; omega
      · have hbig : (3000 : Int) < (r : Int) := by omega
        go_wp2
        go_ret
        exact ⟨true, rfl, fun h => absurd h (by simp), rfl⟩
    · obtain rfl : k = n := by omega
      by_cases hr3 : r ≤ 3000
      · go_wp2
        go_ret
        refine ⟨_, rfl, fun h => ?_, rfl⟩
        simp only [Bool.or_eq_false_iff, decide_eq_false_iff_not] at h
        have e := HI.out
        rw [List.take_of_length_le (by rw [HN.out]; exact Nat.le_refl _)] at e
        rw [HN.out]
        omega
      · have hbig : (3000 : Int) < (r : Int) := by omega
        go_wp2
        go_ret
        exact ⟨true, rfl, fun h => absurd h (by simp), rfl⟩
end Go.Proofs.Ytmkjjcogheidmaa.DW
