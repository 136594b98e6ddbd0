/-
  Contracts of the document's own functions of layer 9: Match.
-/
import Derived.Test.YtodigfdhhndboaaNdlRJ
import Derived.Test.YtodigfdhhndboaaNdlRF
import Derived.Deep.Cut
set_option linter.unusedSimpArgs false
set_option linter.unusedVariables false
namespace Go.Proofs.Ytodigfdhhndboaa.NR
open Go.RowKit
theorem comp_err (p : List Nat) : (ndComp p).2 = 0 ∨ (ndComp p).2 = 10 ∨ (ndComp p).2 = 12 := by
  unfold ndComp
  split
  · exact .inr (.inr rfl)
  · split
    · exact .inr (.inl rfl)
    · exact .inl rfl
set_option maxRecDepth 100000 in
set_option maxHeartbeats 4000000 in
theorem match_c (p s : ByteArray) (hp : p.size ≤ 9223372036854775807) (hs : s.size ≤ 100000) (w : World) :
    Calls Try.prog 19 #[.string p, .string s] w fun e w' => e = .returned (.tuple #[.bool (ndMatch (bs p) (bs s)).1, .int .i64 (ndMatch (bs p) (bs s)).2]) ∧ Below w.heap.size w w' := by
  have CC := Lib.hid (fun W => compile_c p hp W)
  obtain ⟨⟨nst, nfin, is⟩, E, hN⟩ : ∃ N E, ndComp (bs p) = (N, E) := ⟨_, _, rfl⟩
  have hE := comp_err (bs p)
  have hm : ndMatch (bs p) (bs s) = if E = 0 then (ndFound ⟨nst, nfin, is⟩ (bs s), 0) else (false, E) := by unfold ndMatch; rw [hN]
  rw [hN] at CC hE
  rw [hm]
  have hE2 : E = 0 ∨ E = 10 ∨ E = 12 := hE
  clear hE hm hN
  go_enter Try.func19, Try.ntmps19
  go_wp2_with fail
  refine (CC.out _).mono ?_; rintro _ w1 ⟨v, rfl, ⟨u, rfl, hu⟩, hok, hlen, hb1⟩
  have hu2 : ItOut w1 u is := hu
  have hok2 : ∀ i ∈ is, i.ok := hok
  have hlen2 : is.length ≤ 64 := hlen
  obtain ⟨A, cap, hv, hcap, hx⟩ := id hu2
  subst hv
  have HU := Lib.hid hu2; have HOK := Lib.hid hok2; have HB1 := Lib.hid hb1; have HLN := Lib.hid hlen2
  clear hu hu2 hok hok2 hlen hlen2 hb1 hx
  obtain ⟨n, hn⟩ : ∃ n, is.length = n := ⟨_, rfl⟩
  have FC := Lib.hid (fun (W : World) (h : Below w1.heap.size w1 W) => found_c nst nfin (.slice A is.length cap) is s hs (Nat.le_trans HLN.out (by decide)) HOK.out W (HU.out.below h))
  rw [hn] at hcap FC HU ⊢
  clear hn
  go_upto_region 2 with (refine wpList_put rfl 29 _ _ rfl w1.heap.size [.bool nst, .bool nfin, .slice A n cap] rfl rfl (DVar.alloc _ _) (by kernel_rfl) (by simp [Value.oneCell']) ?_; intro y1 hq; obtain ⟨t0, t1, t2⟩ := hq.at_.three)
  have hb2 : Below w1.heap.size w1 y1 := hq.below (Nat.le_refl _) (alloc_below _ _)
  have HB2 := Lib.hid hb2; have HB3 := Lib.hid (bnext HB1.out hb2)
  clear hq hb2
  rcases hE2 with rfl | rfl | rfl
  · go_wp2_with fail
    refine (FC.out _ HB2.out).mono ?_; rintro _ w2 ⟨rfl, hb⟩
    have HB4 := Lib.hid (bnext HB3.out hb)
    clear hb
    go_wp2
    go_ret2
    exact ⟨rfl, HB4.out⟩
  · go_wp2
    go_ret2
    exact ⟨rfl, HB3.out⟩
  · go_wp2
    go_ret2
    exact ⟨rfl, HB3.out⟩
end Go.Proofs.Ytodigfdhhndboaa.NR
