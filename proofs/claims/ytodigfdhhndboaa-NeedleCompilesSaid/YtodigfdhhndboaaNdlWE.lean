/-
  The statements of layer 9, walked: how a pattern is compiled, and which bytes an item fits.
-/
import Derived.Test.YtodigfdhhndboaaNdlWA
import Derived.Test.YtodigfdhhndboaaNdlRJ
import Derived.Test.YtodigfdhhndboaaNdlRef
import Derived.Test.YtodigfdhhndboaaNdlRefB
set_option linter.unusedSimpArgs false
set_option linter.unusedVariables false
namespace Go.Proofs.Ytodigfdhhndboaa.NW
open Go Go.RowKit
theorem held_comp {w w' : World} {a b c : Nat} {x0 x1 x2 y0 y1 y2 z0 z1 z2 z3 z4 : Value}
    (h : w.cell? ⟨a, 0, none⟩ = some x0 ∧ w.cell? ⟨a, 1, none⟩ = some x1 ∧ w.cell? ⟨a, 2, none⟩ = some x2 ∧ w.cell? ⟨b, 0, none⟩ = some y0 ∧ w.cell? ⟨b, 1, none⟩ = some y1 ∧ w.cell? ⟨b, 2, none⟩ = some y2 ∧ w.cell? ⟨c, 0, none⟩ = some z0 ∧ w.cell? ⟨c, 1, none⟩ = some z1 ∧ w.cell? ⟨c, 2, none⟩ = some z2 ∧ w.cell? ⟨c, 3, none⟩ = some z3 ∧ w.cell? ⟨c, 4, none⟩ = some z4) (hb : Below w.heap.size w w') :
    w'.cell? ⟨a, 0, none⟩ = some x0 ∧ w'.cell? ⟨a, 1, none⟩ = some x1 ∧ w'.cell? ⟨a, 2, none⟩ = some x2 ∧ w'.cell? ⟨b, 0, none⟩ = some y0 ∧ w'.cell? ⟨b, 1, none⟩ = some y1 ∧ w'.cell? ⟨b, 2, none⟩ = some y2 ∧ w'.cell? ⟨c, 0, none⟩ = some z0 ∧ w'.cell? ⟨c, 1, none⟩ = some z1 ∧ w'.cell? ⟨c, 2, none⟩ = some z2 ∧ w'.cell? ⟨c, 3, none⟩ = some z3 ∧ w'.cell? ⟨c, 4, none⟩ = some z4 := by
  obtain ⟨h0, h1, h2, h3, h4, h5, h6, h7, h8, h9, h10⟩ := h
  exact ⟨cell_keep hb h0, cell_keep hb h1, cell_keep hb h2, cell_keep hb h3, cell_keep hb h4, cell_keep hb h5, cell_keep hb h6, cell_keep hb h7, cell_keep hb h8, cell_keep hb h9, cell_keep hb h10⟩
set_option maxRecDepth 100000 in
set_option maxHeartbeats 4000000 in
theorem needleCompiles_c (p : ByteArray) (hp : p.size ≤ 9223372036854775807) (s0 s1 s2 s3 : Nat) (sst : Bool) (hi : (⟨s0, s1, s2, s3, sst⟩ : NI).ok) (b : Nat) (hb : b < 256) (w : World) :
    Calls Try.prog 3 #[.string p, .agg #[.int .u64 (s0 : Nat), .int .u64 (s1 : Nat), .int .u64 (s2 : Nat), .int .u64 (s3 : Nat), .bool sst], .int .u8 (b : Nat)] w fun e w' => e = .returned (.bool true) ∧ Below w.heap.size w w' := by
  obtain ⟨d, hd⟩ : ∃ d, ndFits ⟨s0, s1, s2, s3, sst⟩ b = d := ⟨_, rfl⟩
  have PF := Lib.hid (fun (W : World) => NP.fits_c ⟨s0, s1, s2, s3, sst⟩ hi b hb W)
  have RF := Lib.hid (fun (W : World) => NR.fits_c ⟨s0, s1, s2, s3, sst⟩ hi b hb W)
  rw [hd] at PF RF
  have PC := Lib.hid (fun (W : World) => NP.compile_c p hp W)
  have RC := Lib.hid (fun (W : World) => NR.compile_c p hp W)
  obtain ⟨⟨⟨st, fin, is⟩, er⟩, hc⟩ : ∃ x, ndComp (bs p) = x := ⟨_, rfl⟩
  rw [hc] at PC RC
  have HB0 := Lib.hid ((Below.refl _ w).alloc (Nat.le_refl _) (.cells #[.int .u64 (s0 : Nat), .int .u64 (s1 : Nat), .int .u64 (s2 : Nat), .int .u64 (s3 : Nat), .bool sst] 25))
  clear hd hc hi hb
  go_enter Try.func3, Try.ntmps3
  go_wp2_with fail
  refine (alive_c _).mono ?_; rintro _ w1 ⟨rfl, hb1⟩
  have HB1 := Lib.hid (bnext HB0.out hb1)
  have k0 : w1.cell? ⟨w.heap.size, 0, none⟩ = some (.int .u64 (s0 : Nat)) := cell_keep hb1 (by simp)
  have k1 : w1.cell? ⟨w.heap.size, 1, none⟩ = some (.int .u64 (s1 : Nat)) := cell_keep hb1 (by simp)
  have k2 : w1.cell? ⟨w.heap.size, 2, none⟩ = some (.int .u64 (s2 : Nat)) := cell_keep hb1 (by simp)
  have k3 : w1.cell? ⟨w.heap.size, 3, none⟩ = some (.int .u64 (s3 : Nat)) := cell_keep hb1 (by simp)
  have k4 : w1.cell? ⟨w.heap.size, 4, none⟩ = some (.bool sst) := cell_keep hb1 (by simp)
  have KK := Lib.hid (And.intro k0 (And.intro k1 (And.intro k2 (And.intro k3 k4))))
  clear hb1 k0 k1 k2 k3 k4
  go_wp2_with fail
  refine (PC.out _).mono ?_; rintro _ w2 ⟨v, rfl, ⟨u, rfl, hu⟩, hok, hlen, hb2⟩
  have hu2 : ItOut w2 u is := hu
  have hlen2 : is.length ≤ 64 := hlen
  obtain ⟨A, cap, hv, hcap, hx⟩ := id hu2
  subst hv
  have HU := Lib.hid hu2; have HB2 := Lib.hid (bnext HB1.out hb2); have HLN := Lib.hid hlen2
  have HK2 := Lib.hid hb2
  clear hu hu2 hok hlen hlen2 hb2 hx
  obtain ⟨n, hn⟩ : ∃ n, is.length = n := ⟨_, rfl⟩
  rw [hn] at HU hcap HLN ⊢
  have HN := Lib.hid hn
  clear hn
  go_upto_region 4 with (refine wpList_put rfl 29 _ _ rfl w2.heap.size [.bool st, .bool fin, .slice A n cap] rfl rfl (DVar.alloc _ _) (by kernel_rfl) (by simp [Value.oneCell']) ?_; intro y1 hq; obtain ⟨t0, t1, t2⟩ := hq.at_.three)
  have hb3 : Below w2.heap.size w2 y1 := hq.below (Nat.le_refl _) (alloc_below _ _)
  have HB3 := Lib.hid (bnext HB2.out hb3); have HU3 := Lib.hid (HU.out.below hb3); have HK3 := Lib.hid (bnext HK2.out hb3)
  have TT := Lib.hid (And.intro t0 (And.intro t1 t2))
  clear hq hb3 t0 t1 t2
  go_wp2_with fail
  refine (RC.out _).mono ?_; rintro _ w3 ⟨v, rfl, ⟨u, rfl, hu⟩, hok, hlen, hb4⟩
  have hu2 : ItOut w3 u is := hu
  obtain ⟨A2, cap2, hv, hcap2, hx⟩ := id hu2
  rw [HN.out] at hv hcap2
  subst hv
  have HV := Lib.hid hu2; have HB4 := Lib.hid (bnext HB3.out hb4); have HU4 := Lib.hid (HU3.out.below hb4); have HK4 := Lib.hid (bnext HK3.out hb4)
  have t0 := cell_keep hb4 TT.out.1; have t1 := cell_keep hb4 TT.out.2.1; have t2 := cell_keep hb4 TT.out.2.2
  have TT2 := Lib.hid (And.intro t0 (And.intro t1 t2))
  clear hu hu2 hok hlen hb4 hx t0 t1 t2
  go_upto_region 5 with (refine wpList_put rfl 29 _ _ rfl w3.heap.size [.bool st, .bool fin, .slice A2 n cap2] rfl rfl (DVar.alloc _ _) (by kernel_rfl) (by simp [Value.oneCell']) ?_; intro y2 hq; obtain ⟨r0, r1, r2⟩ := hq.at_.three)
  have hb5 : Below w3.heap.size w3 y2 := hq.below (Nat.le_refl _) (alloc_below _ _)
  have HB5 := Lib.hid (bnext HB4.out hb5)
  have HU5 := Lib.hid (HU4.out.below hb5); have HV5 := Lib.hid (HV.out.below hb5); have HK5 := Lib.hid (bnext HK4.out hb5)
  have t0 := cell_keep hb5 TT2.out.1; have t1 := cell_keep hb5 TT2.out.2.1; have t2 := cell_keep hb5 TT2.out.2.2
  have k0 := cell_keep HK5.out KK.out.1; have k1 := cell_keep HK5.out KK.out.2.1; have k2 := cell_keep HK5.out KK.out.2.2.1; have k3 := cell_keep HK5.out KK.out.2.2.2.1; have k4 := cell_keep HK5.out KK.out.2.2.2.2
  have SC := Lib.hid (fun (W : World) (h : Below y2.heap.size y2 W) => by
    have h := NR.same_c (.agg #[.bool st, .bool fin, .slice A n cap]) (.agg #[.bool st, .bool fin, .slice A2 n cap2]) ⟨st, fin, is⟩ ⟨st, fin, is⟩ (by show is.length ≤ _; have := HN.out; have := HLN.out; omega) (by show is.length ≤ _; have := HN.out; have := HLN.out; omega) W ⟨_, rfl, HU5.out.below h⟩ ⟨_, rfl, HV5.out.below h⟩
    rw [decide_eq_true rfl] at h
    exact h)
  clear hq hb5
  go_region_held3 (fun y => y.cell? ⟨w2.heap.size, 0, none⟩ = some (.bool st) ∧ y.cell? ⟨w2.heap.size, 1, none⟩ = some (.bool fin) ∧ y.cell? ⟨w2.heap.size, 2, none⟩ = some (.slice A n cap) ∧ y.cell? ⟨w3.heap.size, 0, none⟩ = some (.bool st) ∧ y.cell? ⟨w3.heap.size, 1, none⟩ = some (.bool fin) ∧ y.cell? ⟨w3.heap.size, 2, none⟩ = some (.slice A2 n cap2) ∧ y.cell? ⟨w.heap.size, 0, none⟩ = some (.int .u64 (s0 : Nat)) ∧ y.cell? ⟨w.heap.size, 1, none⟩ = some (.int .u64 (s1 : Nat)) ∧ y.cell? ⟨w.heap.size, 2, none⟩ = some (.int .u64 (s2 : Nat)) ∧ y.cell? ⟨w.heap.size, 3, none⟩ = some (.int .u64 (s3 : Nat)) ∧ y.cell? ⟨w.heap.size, 4, none⟩ = some (.bool sst))
    (first | go_keep | (refine held_comp ?_ (by assumption); assumption))
    (first
      | (go_at_call 12; refine (SC.out _ (Below.refl _ _).drew).mono ?_; rintro e w5 ⟨rfl, hb6⟩)
      | (go_at_call 13; refine (PF.out _).mono ?_; rintro e w6 ⟨rfl, hb7⟩)
      | (go_at_call 14; refine (RF.out _).mono ?_; rintro e w7 ⟨rfl, hb8⟩))
  go_wp2
  go_ret
  exact ⟨rfl, bnext (bnext (bnext HB5.out.drew hb6) hb7) hb8⟩
end Go.Proofs.Ytodigfdhhndboaa.NW
