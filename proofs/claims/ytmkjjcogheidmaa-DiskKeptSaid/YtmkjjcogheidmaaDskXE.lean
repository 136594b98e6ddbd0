/-
  Sync and Read.
-/
import Derived.Test.YtmkjjcogheidmaaDskXD
set_option linter.unusedSimpArgs false
set_option linter.unusedVariables false
namespace Go.Proofs.Ytmkjjcogheidmaa.DP
open Go.RowKit
theorem Mid.synced {w W : World} {q x : Int} {g n c p : Nat} {vn vk vm : Value} {us : List Value} {D : PD} (h : Mid w W q x (.slice (some ⟨g, 0, none⟩) n c) vn vk vm us D) {f : PF} (hf : D.files[p]? = some f) (s : Nat) :
    Mid w (W.setCell ⟨g, p * 3 + 2, none⟩ (.int .i64 (s : Nat))) q x (.slice (some ⟨g, 0, none⟩) n c) vn vk vm us ⟨D.quota, D.files.set p ⟨f.id, f.bytes, s⟩, D.names, D.kept, D.moves, D.next⟩ :=
  ⟨h.box.grown (grown_set1 _ _ _ _) (Nat.le_refl _) (fun k e => by have := Option.some.inj e; have := (h.own.f.lt g rfl).1; omega) (by simp), h.own.synced hf s⟩
/-- A file of one's own, at its name. -/
def FileAt (w : World) (B1 : Option Addr) (us : List Value) (p : Nat) (f : PF) (e : Ending) (w' : World) : Prop := ∃ g A n c, B1 = some ⟨g, 0, none⟩ ∧ e = .returned (.tuple #[.pointer (some ⟨g, p * 3, none⟩), .int .i64 0]) ∧ Hid (us[p]? = some (.slice A n c)) ∧ Hid (f.bytes.length = n) ∧
  w'.cell? ⟨g, p * 3 + 1, none⟩ = some (.slice A n c) ∧ w'.frozen? ⟨g, p * 3 + 1, none⟩ = false ∧ w'.cell? ⟨g, p * 3 + 2, none⟩ = some (.int .i64 (f.sure : Nat)) ∧ w'.frozen? ⟨g, p * 3 + 2, none⟩ = false ∧ Hid (w.heap.size + 2 ≤ g ∧ g < w'.heap.size)
theorem fileOwn_c {w W : World} {D : PD} {s : ByteArray} {q x : Int} {B1 B2 B3 B4 : Option Addr} {d1 d2 d3 d4 n1 n2 n3 n4 p : Nat} {us : List Value} {f : PF} (hm : Mid w W q x (.slice B1 n1 d1) (.slice B2 n2 d2) (.slice B3 n3 d3) (.slice B4 n4 d4) us D) (hq : q = (D.quota : Nat)) (hx : x = (D.next : Nat)) (hi : PInv D) (hf : D.moves.length ≤ 200) (hs : okN s) (hn : nHas s D.names) (hp : fAt (nId s D.names) D.files = p) (hfp : D.files[p]? = some f) :
    Calls Try.prog 31 #[.agg #[.int .i64 q, .slice B1 n1 d1, .slice B2 n2 d2, .slice B3 n3 d3, .slice B4 n4 d4, .int .i64 x], .string s] W fun e w' => FileAt w B1 us p f e w' ∧ Below W.heap.size W w' := by
  refine (fileYes_c (hm.in_ hq hx hi hf) hs hn).mono ?_
  rintro _ w' ⟨⟨b, off, rfl, rfl⟩, hb⟩
  obtain ⟨u, hu⟩ : ∃ u, us[p]? = some u := ⟨_, List.getElem?_eq_getElem (by rw [hm.own.hu]; exact (List.getElem?_eq_some_iff.1 hfp).1)⟩
  have hz : (D.files.zip us)[p]? = some (f, u) := List.getElem?_zip_eq_some.2 ⟨hfp, hu⟩
  obtain rfl := own_len hm.own.f
  have hby := hm.own.by_ (f, u) (List.mem_of_getElem? hz)
  obtain ⟨A, c, e, _, _⟩ := own_form hby
  have e : u = .slice A f.bytes.length c := e
  have h1 := flat_at cF 3 (fun _ => rfl) _ _ _ hz 1 (by decide)
  have h2 := flat_at cF 3 (fun _ => rfl) _ _ _ hz 2 (by decide)
  obtain ⟨g, eg, hg1, hg2, k1, f1⟩ := own_nth hm.own.f h1
  obtain ⟨g', eg', _, _, k2, f2⟩ := own_nth hm.own.f h2
  injection eg with eg
  injection eg with eb eo
  subst eb eo
  injection eg' with eg'
  injection eg' with eb eo
  subst eb
  rw [hp, Nat.zero_add]
  subst e
  exact ⟨⟨b, A, _, c, rfl, rfl, Lib.hid hu, Lib.hid rfl, cell_below hb k1, (hb.frozen (p := ⟨b, p * 3 + 1, none⟩) hg2).trans f1, cell_below hb k2, (hb.frozen (p := ⟨b, p * 3 + 2, none⟩) hg2).trans f2, Lib.hid ⟨hg1, Nat.lt_of_lt_of_le hg2 hb.size⟩⟩, hb⟩
set_option maxRecDepth 100000 in
set_option maxHeartbeats 2000000 in
theorem sync_c {S : Nat → Prop} {D D' : PD} {r : Int} {s : ByteArray} {v : Value} {w : World} (he : pSync D s = (D', r)) (hs : okN s) (h : DkIn S w v D) : Calls Try.prog 16 #[v, .string s] w (DkRet S D' r w) := by
  obtain ⟨q, A1, n1, c1, A2, n2, c2, A3, n3, c3, A4, n4, c4, x, rfl⟩ := h.form
  have hL := h.lets
  have hq := hL.hq; have hx := hL.hx
  have hi := h.inv; have hf := h.few
  have HQ := Lib.hid hq; have HX := Lib.hid hx
  have HCP := Lib.hid (copied_mid h (boxR_of w (Nat.le_refl _) #[.int .i64 q, .slice A1 n1 c1, .slice A2 n2 c2, .slice A3 n3 c3, .slice A4 n4 c4, .int .i64 x] 29) rfl)
  by_cases hn : nHas s D.names
  · obtain ⟨f, hfp, hid⟩ := file_at hi hn
    have he2 : (⟨D.quota, D.files.set (fAt (nId s D.names) D.files) ⟨f.id, f.bytes, f.bytes.length⟩, D.names, D.kept, D.moves, D.next⟩ : PD) = D' ∧ (0 : Int) = r := by
      unfold pSync at he
      rw [if_neg (by simpa using hn), map_at (fun f h => by unfold fSync; rw [if_neg h]) hi.fsort hfp hid] at he
      unfold fSync at he
      rw [if_pos hid] at he
      exact ⟨congrArg Prod.fst he, congrArg Prod.snd he⟩
    obtain ⟨rfl, rfl⟩ := he2
    obtain ⟨p, hp⟩ : ∃ p, fAt (nId s D.names) D.files = p := ⟨_, rfl⟩
    rw [hp] at hfp ⊢
    have HF := Lib.hid (fun (W : World) (B1 B2 B3 B4 : Option Addr) (d1 d2 d3 d4 : Nat) (us : List Value) (hm : Mid w W q x (.slice B1 n1 d1) (.slice B2 n2 d2) (.slice B3 n3 d3) (.slice B4 n4 d4) us D) => fileOwn_c hm hq hx hi hf hs hn hp hfp)
    have HFP := Lib.hid hfp
    clear he hL h hi hf hs hn hq hx hp hfp hid
    go_enter Try.func16, Try.ntmps16
    go_upto_region 6 with (first
      | (go_at_call 30; (with_reducible refine HCP.out.mono ?_); rintro _ w1 ⟨B1, d1, B2, d2, B3, d3, B4, d4, us, rfl, HV, HM⟩)
      | (refine wpList_put rfl 29 _ _ rfl (w.heap.size) _ rfl rfl HV.out (by kernel_rfl) (by simp [Value.oneCell']) ?_; intro w2 hp; have HM2 := Lib.hid (HM.out _ hp); obtain ⟨t0, t1, t2, t3, t4, t5⟩ := hp.at_.six; clear hp HM HV)
      | (go_at_call 31; (with_reducible refine (HF.out _ _ _ _ _ _ _ _ _ _ HM2.out).mono ?_); rintro _ w3 ⟨⟨g, A, nb, cb, rfl, rfl, HU, HN, k1, kf1, k2, kf2, HG⟩, hb3⟩; have HM3 := Lib.hid (HM2.out.step hb3); obtain ⟨s0, s1, s2, s3, s4, s5⟩ := Holds.six HM3.out.box.d; clear hb3 HM2 t0 t1 t2 t3 t4 t5))
    have HM6 := Lib.hid (HM3.out.synced HFP.out nb)
    clear HM3 s0 s1 s2 s3 s4 s5 k1 kf1 k2 kf2
    generalize w3.setCell ⟨g, p * 3 + 2, none⟩ (.int .i64 (nb : Nat)) = W6 at HM6 ⊢
    obtain ⟨s0, s1, s2, s3, s4, s5⟩ := Holds.six HM6.out.box.d
    rw [← HN.out] at HM6
    go_wp2_with (first
      | (refine wpList_put rfl 29 _ _ rfl (w.heap.size + 1) _ rfl rfl HM6.out.box.rv (by kernel_rfl) (by simp [Value.oneCell']) ?_; intro y1 hp; obtain ⟨t0, t1, t2, t3, t4, t5⟩ := hp.at_.six))
    exact bodyPost_ret (by simp [results, Try.results16, go_sem, t0, t1, t2, t3, t4, t5]) rfl ⟨_, rfl, HM6.out.ret hp HQ.out HX.out⟩
  · have HF := Lib.hid (fun (W : World) (B1 B2 B3 B4 : Option Addr) (d1 d2 d3 d4 : Nat) (us : List Value) (hm : Mid w W q x (.slice B1 n1 d1) (.slice B2 n2 d2) (.slice B3 n3 d3) (.slice B4 n4 d4) us D) => fileNo_c (hm.in_ hq hx hi hf) hs hn)
    have he2 : D = D' ∧ (4 : Int) = r := by
      unfold pSync at he
      rw [if_pos hn] at he
      exact ⟨congrArg Prod.fst he, congrArg Prod.snd he⟩
    obtain ⟨rfl, rfl⟩ := he2
    clear he hL h hi hf hs hn hq hx
    go_enter Try.func16, Try.ntmps16
    go_wp2_with (first
      | (go_at_call 30; (with_reducible refine HCP.out.mono ?_); rintro _ w1 ⟨B1, d1, B2, d2, B3, d3, B4, d4, us, rfl, HV, HM⟩)
      | (refine wpList_put rfl 29 _ _ rfl (w.heap.size) _ rfl rfl HV.out (by kernel_rfl) (by simp [Value.oneCell']) ?_; intro w2 hp; have HM2 := Lib.hid (HM.out _ hp); obtain ⟨t0, t1, t2, t3, t4, t5⟩ := hp.at_.six; clear hp HM HV)
      | (go_at_call 31; (with_reducible refine (HF.out _ _ _ _ _ _ _ _ _ _ HM2.out).mono ?_); rintro _ w3 ⟨rfl, hb3⟩; have HM3 := Lib.hid (HM2.out.step hb3); obtain ⟨s0, s1, s2, s3, s4, s5⟩ := Holds.six HM3.out.box.d; clear hb3 HM2 t0 t1 t2 t3 t4 t5)
      | (refine wpList_put rfl 29 _ _ rfl (w.heap.size + 1) _ rfl rfl HM3.out.box.rv (by kernel_rfl) (by simp [Value.oneCell']) ?_; intro y1 hp; obtain ⟨t0, t1, t2, t3, t4, t5⟩ := hp.at_.six))
    exact bodyPost_ret (by simp [results, Try.results16, go_sem, t0, t1, t2, t3, t4, t5]) rfl ⟨_, rfl, HM3.out.ret hp HQ.out HX.out⟩
set_option maxRecDepth 100000 in
set_option maxHeartbeats 2000000 in
theorem read_c {S : Nat → Prop} {D : PD} {l : List Nat} {r : Int} {s : ByteArray} {v : Value} {w : World} (he : pRead D s = (l, r)) (hs : okN s) (h : DkIn S w v D) : Calls Try.prog 19 #[v, .string s] w fun e w' => ∃ v', e = .returned (.tuple #[v', .int .i64 r]) ∧ ByOut w' v' l ∧ Below w.heap.size w w' := by
  obtain ⟨q, A1, n1, c1, A2, n2, c2, A3, n3, c3, A4, n4, c4, x, rfl⟩ := h.form
  have hL := h.lets
  have hi := h.inv
  by_cases hn : nHas s D.names
  · obtain ⟨f, hfp, hid⟩ := file_at hi hn
    have he2 : f.bytes = l ∧ (0 : Int) = r := by
      unfold pRead at he
      rw [if_neg (by simpa using hn), find_at hi.fsort hfp hid] at he
      exact ⟨congrArg Prod.fst he, congrArg Prod.snd he⟩
    obtain ⟨rfl, rfl⟩ := he2
    have hbl : f.bytes.length ≤ 2000000000 := by
      have h1 : f.bytes.length ≤ usedF D.files := le_used (List.mem_of_getElem? hfp)
      have := hi.used
      have := hi.quota
      omega
    have HF := Lib.hid (fun W (hb : Below w.heap.size w W) => fileYes_c (h.below hb) hs hn)
    generalize fAt (nId s D.names) D.files = p at hfp HF
    have hpl := (List.getElem?_eq_some_iff.1 hfp).1
    obtain ⟨A', c', hv, hc, hx⟩ := hL.at_.f
    injection hv with e1 e2 e3
    subst e2 e3
    obtain ⟨b0, o0, hA, _, hr⟩ := hx (by omega)
    obtain ⟨f', hf', _, ⟨u, k1, hby⟩, _⟩ := hr p hpl
    obtain rfl : f = f' := Option.some.inj (hfp.symm.trans hf')
    obtain ⟨A, c, hu, hcc, hxx⟩ := id hby
    subst hu
    rw [hA] at e1
    subst e1
    have HBY := Lib.hid hby
    have HBL := Lib.hid hbl
    have HN : Hid (f.bytes.length ≤ c) := Lib.hid hcc
    generalize hnn : f.bytes.length = nb at *
    have HNN := Lib.hid hnn
    have HK : Hid (∀ W, Below w.heap.size w W → W.cell? ⟨b0, o0 + p * 3 + 1, none⟩ = some (.slice A nb c)) := Lib.hid fun W hb => cell_below hb k1
    clear he hL h hi hs hn hfp hf' hpl hc hx hr k1 hby hcc hxx hbl hid hA hnn
    go_enter Try.func19, Try.ntmps19
    go_wp2_with (first
      | (go_at_call 31; go_loud ((with_reducible refine (HF.out _ (alloc_below _ _)).mono ?_); rintro _ w3 ⟨⟨b, off, hA, rfl⟩, hb3⟩; (obtain ⟨rfl, rfl⟩ : b0 = b ∧ o0 = off := by simpa using hA); have HB3 := Lib.hid (bnext (alloc_below w _) hb3); have k1 := HK.out _ HB3.out; clear hb3))
      | (go_at_call 37; go_loud (refine (clone_bytes (xs := bys f.bytes) HBL.out HN.out (by have := by_reads (HBY.out.below HB3.out); exact this.1) (bys_one f.bytes)).mono ?_; rintro _ w4 ⟨v4, rfl, ho, hb4⟩; have HO := Lib.hid ho; have HB4 := Lib.hid (bnext HB3.out hb4); clear ho hb4)))
    go_ret2
    exact ⟨_, rfl, ByNew.out (B := w3.heap.size) (by unfold ByNew; rw [HNN.out]; exact HO.out), HB4.out⟩
  · have he2 : ([] : List Nat) = l ∧ (4 : Int) = r := by
      unfold pRead at he
      rw [if_pos hn] at he
      exact ⟨congrArg Prod.fst he, congrArg Prod.snd he⟩
    obtain ⟨rfl, rfl⟩ := he2
    have HF := Lib.hid (fun W (hb : Below w.heap.size w W) => fileNo_c (h.below hb) hs hn)
    clear he hL h hi hs hn
    go_enter Try.func19, Try.ntmps19
    go_wp2_with (first
      | (go_at_call 31; (with_reducible refine (HF.out _ (alloc_below _ _)).mono ?_); rintro _ w3 ⟨rfl, hb3⟩; have HB3 := Lib.hid (bnext (alloc_below w _) hb3); clear hb3))
    go_ret2
    exact ⟨_, rfl, ⟨none, 0, rfl, Nat.le_refl _, fun h => absurd rfl h⟩, HB3.out⟩
end Go.Proofs.Ytmkjjcogheidmaa.DP
