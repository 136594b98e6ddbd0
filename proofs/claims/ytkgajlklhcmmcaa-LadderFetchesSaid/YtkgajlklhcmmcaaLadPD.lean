/-
  Rows of rings whose slots lie in none of some blocks; a ladder in memory of its own.
-/
import Derived.Test.YtkgajlklhcmmcaaLadPB
set_option linter.unusedSimpArgs false
set_option linter.unusedVariables false
namespace Go.Proofs.Ytkgajlklhcmmcaa
open Go.RowKit
/-- A row of rings whose slots lie in none of some blocks. -/
def RiFar (S : List Nat) (w : World) (v : Value) (L : List Rg) : Prop := ∃ A cap, v = .slice A L.length cap ∧ L.length ≤ cap ∧ (L ≠ [] → ∃ b off, A = some ⟨b, off, none⟩ ∧ ∀ (k : Nat) (r : Rg), L[k]? = some r → ∃ A c, w.cell? ⟨b, off + k * 2, none⟩ = some (.int .i64 r.1) ∧ w.cell? ⟨b, off + k * 2 + 1, none⟩ = some (.slice A r.2.length c) ∧ RgFar S w (.slice A r.2.length c) r.2)
theorem RiOut.far {S : List Nat} {w : World} {v : Value} {L : List Rg} (h : RiOut w v L) (hS : ∀ z ∈ S, w.heap.size ≤ z) : RiFar S w v L := by
  obtain ⟨A, c, hv, hc, hx⟩ := h
  refine ⟨A, c, hv, hc, fun hn => ?_⟩
  obtain ⟨b, off, hA, ha⟩ := hx hn
  refine ⟨b, off, hA, fun k r hk => ?_⟩
  obtain ⟨A, c, h1, h2, h3⟩ := ha k r hk
  exact ⟨A, c, h1, h2, h3.far hS⟩
theorem RiFar.out {S : List Nat} {w : World} {v : Value} {L : List Rg} (h : RiFar S w v L) : RiOut w v L := by
  obtain ⟨A, c, hv, hc, hx⟩ := h
  refine ⟨A, c, hv, hc, fun hn => ?_⟩
  obtain ⟨b, off, hA, ha⟩ := hx hn
  refine ⟨b, off, hA, fun k r hk => ?_⟩
  obtain ⟨A, c, h1, h2, h3⟩ := ha k r hk
  exact ⟨A, c, h1, h2, h3.out⟩
theorem RiFar.below {S : List Nat} {w w' : World} {v : Value} {L : List Rg} (h : RiFar S w v L) (hb : Below w.heap.size w w') : RiFar S w' v L := by
  obtain ⟨A, c, hv, hc, hx⟩ := h
  refine ⟨A, c, hv, hc, fun hn => ?_⟩
  obtain ⟨b, off, hA, ha⟩ := hx hn
  refine ⟨b, off, hA, fun k r hk => ?_⟩
  obtain ⟨A, c, h1, h2, h3⟩ := ha k r hk
  exact ⟨A, c, cellb hb h1, cellb hb h2, h3.below hb⟩
theorem RiFar.less {S S' : List Nat} {w : World} {v : Value} {L : List Rg} (h : RiFar S w v L) (hs : ∀ z ∈ S', z ∈ S ∨ w.heap.size ≤ z) : RiFar S' w v L := by
  obtain ⟨A, c, hv, hc, hx⟩ := h
  refine ⟨A, c, hv, hc, fun hn => ?_⟩
  obtain ⟨b, off, hA, ha⟩ := hx hn
  refine ⟨b, off, hA, fun k r hk => ?_⟩
  obtain ⟨A, c, h1, h2, h3⟩ := ha k r hk
  exact ⟨A, c, h1, h2, h3.less hs⟩
theorem pick_list {α β : Type} : ∀ (L : List α) (Q : Nat → α → β → Prop), (∀ (k : Nat) (r : α), L[k]? = some r → ∃ u, Q k r u) → ∃ P : List (β × α), P.map Prod.snd = L ∧ ∀ (k : Nat) (x : β × α), P[k]? = some x → Q k x.2 x.1
  | [], Q, _ => ⟨[], rfl, fun k x h => by simp at h⟩
  | r :: L, Q, h => by
    obtain ⟨u, hu⟩ := h 0 r rfl
    obtain ⟨P, hm, hp⟩ := pick_list L (fun k => Q (k + 1)) (fun k x hk => h (k + 1) x (by simpa using hk))
    refine ⟨(u, r) :: P, by rw [List.map_cons, hm], fun k x hk => ?_⟩
    cases k with
    | zero =>
      obtain rfl : (u, r) = x := by simpa using hk
      exact hu
    | succ k => exact hp k x (by simpa using hk)
theorem riC_one {w : World} {S : List Nat} {P : List (Value × Rg)} (h : ∀ x ∈ P, RgFar S w x.1 x.2.2) : ∀ u ∈ riC P, u.oneCell' = true := by
  intro u hu
  unfold riC at hu
  rw [List.mem_flatMap] at hu
  obtain ⟨g, hg, h2⟩ := hu
  simp at h2
  rcases h2 with rfl | rfl
  · rfl
  · obtain ⟨A, c, hv, _⟩ := h g hg
    rw [hv]; rfl
theorem RiFar.reads {S : List Nat} {w : World} {A : Option Addr} {n c : Nat} {L : List Rg} (h : RiFar S w (.slice A n c) L) (hn : L.length = n) : ∃ P : List (Value × Rg), P.map Prod.snd = L ∧ Reads w w.heap.size 2 A n (riC P) ∧ (∀ x ∈ P, RgFar S w x.1 x.2.2) := by
  obtain ⟨A', c', hv, hc, hx⟩ := h
  obtain rfl : A = A' := by injection hv
  by_cases h0 : L = []
  · subst h0
    subst hn
    exact ⟨[], rfl, ⟨rfl, fun h => absurd h (Nat.lt_irrefl _)⟩, fun x h => by cases h⟩
  · obtain ⟨b, off, rfl, ha⟩ := hx h0
    obtain ⟨P, hm, hp⟩ := pick_list (β := Value) L (fun k r u => w.cell? ⟨b, off + k * 2, none⟩ = some (.int .i64 r.1) ∧ w.cell? ⟨b, off + k * 2 + 1, none⟩ = some u ∧ RgFar S w u r.2) (fun k r hk => by obtain ⟨A, c, h1, h2, h3⟩ := ha k r hk; exact ⟨_, h1, h2, h3⟩)
    have hl : P.length = n := by rw [← hn, ← hm, List.length_map]
    refine ⟨P, hm, ⟨by rw [riC_length, hl], fun h0 => ?_⟩, fun x hx => ?_⟩
    · have hp0 := hp 0 _ (List.getElem?_eq_getElem (show 0 < P.length by omega))
      have hlt : b < w.heap.size := World.block_lt_of_cell? w _ hp0.1
      refine ⟨⟨b, off, none⟩, rfl, hlt, fun j u hj => ?_⟩
      have hjl := (List.getElem?_eq_some_iff.1 hj).1
      rw [riC_length] at hjl
      have hk : j / 2 < P.length := by omega
      obtain ⟨c0, c1, -⟩ := hp (j / 2) _ (List.getElem?_eq_getElem hk)
      obtain ⟨e0, e1⟩ := riC_at P (j / 2) _ (List.getElem?_eq_getElem hk)
      have ea : (⟨b, off, none⟩ : Addr).add j = ⟨b, off + j, none⟩ := by unfold Addr.add; split <;> simp_all
      rw [ea]
      rcases Nat.mod_two_eq_zero_or_one j with h2 | h2
      · have ej : j / 2 * 2 = j := by omega
        rw [ej] at c0 e0
        rw [c0, ← e0, hj]
      · have ej : j / 2 * 2 + 1 = j := by omega
        rw [ej] at e1
        rw [Nat.add_assoc, ej] at c1
        rw [c1, ← e1, hj]
    · obtain ⟨k, hk⟩ := List.getElem?_of_mem hx
      exact (hp k x hk).2.2
/-- A ring's slots are stored anew, as they are. -/
theorem RiNew.put1 {B g c k n : Nat} {S : List Nat} {w : World} {L : List Rg} {r : Rg} (h : RiNew B S w (.slice (some ⟨g, 0, none⟩) n c) L) (hn : L.length = n) (hk : L[k]? = some r) {u : Value} (hu : RgFar (g :: S) w u r.2) :
    RiNew B S (w.setCell ⟨g, k * 2 + 1, none⟩ u) (.slice (some ⟨g, 0, none⟩) n c) L := by
  obtain ⟨P, hm, ho, hs, hr⟩ := h
  have key : ∀ (u' : Value) (l : List (Int × Int)), RgFar (g :: S) w u' l → RgFar (g :: S) (w.setCell ⟨g, k * 2 + 1, none⟩ u) u' l := fun u' l h => h.step (fun b hlt hne => by
    have hne2 : g ≠ b := fun e => hne (by rw [e]; simp)
    simp [World.setCell, Array.getElem?_modify, hne2]) (fun z hz => .inl hz)
  have hk0 := hk
  rw [← hm, List.getElem?_map] at hk0
  obtain ⟨x, hx, hxr⟩ := Option.map_eq_some_iff.1 hk0
  refine ⟨P.set k (u, r), ?_, ?_, hs, fun x hx => ?_⟩
  · rw [List.map_set, hm]
    refine List.ext_getElem? fun i => ?_
    rw [List.getElem?_set]
    split
    · rename_i e
      subst e
      rw [if_pos (List.getElem?_eq_some_iff.1 hk).1, hk]
    · rfl
  · rw [hn] at ho ⊢
    obtain ⟨h0, h1⟩ := ho
    refine ⟨by rw [riC_length, List.length_set, ← hn, ← hm, List.length_map], ?_⟩
    rcases h1 with ⟨hv, _⟩ | ⟨g', cap, cur, hv, hb, hh, hle, h4, h5, ht⟩
    · cases hv
    · injection hv with e1 e2 e3
      injection e1 with e1
      injection e1 with e1 _ _
      subst e1
      subst e3
      refine Or.inr ⟨g, c, cur.setIfInBounds (k * 2 + 1) u, rfl, hb, ?_, hle, by simpa using h4, by simpa using h5, ?_⟩
      · simp [World.setCell, Array.getElem?_modify, hh]
      · have e0 : (riC P).set (k * 2) (.int .i64 r.1) = riC P := by
          refine List.ext_getElem? fun i => ?_
          rw [List.getElem?_set]
          split
          · rename_i e
            subst e
            have := (riC_at P k x hx).1
            rw [if_pos (List.getElem?_eq_some_iff.1 this).1, this, hxr]
          · rfl
        rw [riC_set, e0, ← ht]
        simp only [Array.toList_setIfInBounds]
        rw [List.take_set]
  · rcases List.mem_or_eq_of_mem_set hx with h | h
    · exact key _ _ (hr x h)
    · subst h
      exact key _ _ hu
theorem RiNew.set3 {B b : Nat} {S : List Nat} {w : World} {v : Value} {L : List Rg} (h : RiNew B S w v L) (hb : b ∈ S) (x y z : Value) : RiNew B S (((w.setCell ⟨b, 0, none⟩ x).setCell ⟨b, 1, none⟩ y).setCell ⟨b, 2, none⟩ z) v L :=
  h.kept (fun c _ hc => by
    have hne : c ≠ b := fun e => hc (by rw [e]; exact hb)
    rw [heap_setCell_other _ ⟨b, 2, none⟩ c _ hne, heap_setCell_other _ ⟨b, 1, none⟩ c _ hne, heap_setCell_other _ ⟨b, 0, none⟩ c _ hne])
theorem RiNew.farOut {B g c n : Nat} {S : List Nat} {w : World} {L : List Rg} (h : RiNew B S w (.slice (some ⟨g, 0, none⟩) n c) L) (hn : L.length = n) : RiFar (g :: S) w (.slice (some ⟨g, 0, none⟩) n c) L := by
  obtain ⟨A, c', hv, hc, _⟩ := h.form
  refine ⟨_, c, by rw [hn], ?_, fun _ => ⟨g, 0, rfl, fun k r hk => ?_⟩⟩
  · injection hv with e1 e2 e3; omega
  · obtain ⟨A, d, h1, h2, h3, _⟩ := h.at hn hk
    exact ⟨A, d, by rw [Nat.zero_add]; exact h1, by rw [Nat.zero_add]; exact h2, h3⟩
theorem RiNew.farS {B : Nat} {S : List Nat} {w : World} {v : Value} {L : List Rg} (h : RiNew B S w v L) : RiFar S w v L := by
  obtain ⟨A, c, hv, hc, hx⟩ := h.form
  subst hv
  refine ⟨A, c, rfl, hc, fun hn => ?_⟩
  obtain ⟨g, rfl, _⟩ := hx (List.length_pos_iff.2 hn)
  refine ⟨g, 0, rfl, fun k r hk => ?_⟩
  obtain ⟨A, d, h1, h2, h3, _⟩ := h.at rfl hk
  exact ⟨A, d, by rw [Nat.zero_add]; exact h1, by rw [Nat.zero_add]; exact h2, h3.less fun z hz => .inl (List.mem_cons_of_mem _ hz)⟩
namespace AP
open IP
set_option maxRecDepth 100000 in
set_option maxHeartbeats 2000000 in
theorem clone_c (S : List Nat) (v : Value) (L : List Rg) (hl : L.length ≤ 100000) (w : World) (f : RiFar S w v L) (hS : ∀ z ∈ S, z < w.heap.size) :
    Calls Try.prog 56 #[v] w fun e w' => ∃ A c, e = .returned (.slice A L.length c) ∧ RiNew w.heap.size S w' (.slice A L.length c) L ∧ Below w.heap.size w w' := by
  have hnil : ∀ (n c : Nat) (w : World), (binOp .eql 22 (.slice none n c) (.slice none 0 0)).run Try.prog w = .ok (.bool true) w := fun n c w => Lib.run_eql_slice_nil w 22 53 none n c 0 0 Try.underlying22
  have hsome : ∀ (ad : Addr) (n c : Nat) (w : World), (binOp .eql 22 (.slice (some ad) n c) (.slice none 0 0)).run Try.prog w = .ok (.bool false) w := fun ad n c w => Lib.run_eql_slice_nil w 22 53 (some ad) n c 0 0 Try.underlying22
  obtain ⟨A, c, rfl, hc, hx⟩ := id f
  rcases A with _ | ad
  · have h0 : L = [] := by
      by_cases h : L = []
      · exact h
      · obtain ⟨b, off, h2, _⟩ := hx h
        cases h2
    subst h0
    clear f hx
    go_enter Try.func56, Try.ntmps56
    go_wp2
    go_ret
    exact ⟨none, 0, rfl, RiNew.nil _ _ _, Below.refl _ _⟩
  · obtain ⟨i0, hi0, hz0, hz1, hz2⟩ := info_parts ring_info
    obtain ⟨P, hm, hr, hp⟩ := f.reads rfl
    have HR := Lib.hid hr
    have H1 := Lib.hid (riC_one hp)
    obtain ⟨n, hn⟩ : ∃ n, L.length = n := ⟨_, rfl⟩
    have FIN := Lib.hid (show ∀ (w3 : World) (v1 : Value), w3.ownsRow w.heap.size 53 2 v1 n (riC P) → Below w.heap.size w w3 → ∃ A c, v1 = .slice A n c ∧ RiNew w.heap.size S w3 (.slice A n c) L from fun w3 v1 h hb => by
      obtain ⟨A1, c1, rfl, _, hg⟩ := own_form h
      refine ⟨A1, c1, rfl, P, hm, by rw [hn]; exact h, fun g e => ?_, fun x hx => ?_⟩
      · have := (own_lt h e).1
        exact fun e2 => by have := hS g e2; omega
      · refine (hp x hx).step (fun b hlt _ => hb.block b hlt) (fun z hz => ?_)
        rcases List.mem_append.1 hz with h2 | h2
        · exact .inr (own_lt h (by simpa using h2)).1
        · exact .inl h2)
    rw [hn] at HR hc hl ⊢
    clear hr hx f hn hm hp hS
    go_enter Try.func56, Try.ntmps56
    go_wp2_with (at_builtin; refine wpList_append_any _ rfl (.tmp 5) (.tmp 6) _ rfl w.heap.size 53 i0 (.agg #[.int .i64 0, .slice none 0 0]) 2 32 Try.underlying22 hi0 hz0 hz1 hz2 rfl (by decide) (.slice (some ⟨w.heap.size, 0, none⟩) 0 0) 0 [] rfl (World.ownsRow_made _ _ _ (Nat.le_refl _) (by decide) rfl) w.heap.size (some ad) n c (riC P) rfl (HR.out.alloc (Nat.le_refl _) _) H1.out (by simp only [maxLen]; omega) (by omega) (by simp) ?_; intro v1 w3 hown1 hg1 hat1)
    go_ret
    have hB : Below w.heap.size w w3 := Below.grown ((Below.refl _ _).alloc (Nat.le_refl _) _) hg1 (by simp) (by intro g hg; simp [Value.ownBlock] at hg; omega)
    obtain ⟨A1, c1, rfl, hN⟩ := FIN.out _ _ (by simpa using hown1) hB
    exact ⟨A1, c1, rfl, hN, hB⟩
set_option maxRecDepth 100000 in
set_option maxHeartbeats 4000000 in
theorem apart_c (S : List Nat) (m f : Int) (v : Value) (L : List Rg) (hl : L.length ≤ 100000) (hs : ∀ r ∈ L, r.2.length ≤ 100000) (w : World) (h : RiFar S w v L) (hS : ∀ z ∈ S, z < w.heap.size) :
    Calls Try.prog 31 #[.agg #[.int .i64 m, .int .i64 f, v]] w fun e w' => ∃ A c, e = .returned (.agg #[.int .i64 m, .int .i64 f, .slice A L.length c]) ∧ RiNew w.heap.size S w' (.slice A L.length c) L ∧ Below w.heap.size w w' := by
  obtain ⟨A, c, rfl, hc, hx⟩ := id h
  obtain ⟨n, hn⟩ : ∃ n, L.length = n := ⟨_, rfl⟩
  obtain ⟨b1, b2, hb, hz⟩ := bx_new2 w #[.int .i64 m, .int .i64 f, .slice A n c] #[.int .i64 0, .int .i64 0, .slice none 0 0] 24 24
  obtain ⟨wp, hwp⟩ : ∃ wp, (w.alloc (.cells #[.int .i64 m, .int .i64 f, .slice A n c] 24)).alloc (.cells #[.int .i64 0, .int .i64 0, .slice none 0 0] 24) = wp := ⟨_, rfl⟩
  rw [hwp] at b1 b2 hb hz
  have hF : RiFar (w.heap.size :: (w.heap.size + 1) :: S) wp (.slice A n c) L := (show RiFar (w.heap.size :: (w.heap.size + 1) :: S) w (.slice A n c) L from by
    rw [← hn]
    refine h.less fun z hz => ?_
    simp only [List.mem_cons] at hz
    rcases hz with rfl | rfl | hz
    · exact .inr (Nat.le_refl _)
    · exact .inr (Nat.le_succ _)
    · exact .inl hz).below hb
  have hS2 : ∀ z ∈ w.heap.size :: (w.heap.size + 1) :: S, z < wp.heap.size := fun z hz => by
    simp only [List.mem_cons] at hz
    rcases hz with rfl | rfl | hz
    · omega
    · omega
    · have := hS z hz; omega
  have CL := clone_c _ _ L hl wp hF hS2
  obtain ⟨k0, k1, k2, k3, k4, k5⟩ := b1.three
  rw [hn] at CL ⊢
  rw [hn] at hc hl
  have CL := Lib.hid CL
  have HN := Lib.hid hn; have HS := Lib.hid hs; have KP := Lib.hid hb; have HWP := Lib.hid hwp; have B1 := Lib.hid b1; have B2 := Lib.hid b2; have ZP := Lib.hid hz; have HSS := Lib.hid hS2
  clear h hx hn hs hb hwp b1 b2 hz hF hS2 hS
  go_enter Try.func31, Try.ntmps31
  go_wp2_with fail
  rw [HWP.out]
  refine CL.out.mono ?_; rintro _ w2 ⟨A2, c2, rfl, hN, hb2⟩
  have p1 := B1.out.below hb2
  have p2 := B2.out.below hb2
  obtain ⟨k0, k1, k2, k3, k4, k5⟩ := p1.three
  have q1 := p1.set (j := 2) (by simp) (.slice A2 n c2)
  have q2 := p2.other (b' := w.heap.size) (j := 2) (by omega) (.slice A2 n c2)
  have hNA := hN.kept (w' := w2.setCell ⟨w.heap.size, 2, none⟩ (.slice A2 n c2)) (fun b _ hb => heap_setCell_other w2 ⟨w.heap.size, 2, none⟩ b _ (fun e => hb (by rw [e]; simp)))
  have hBA : Below w.heap.size w (w2.setCell ⟨w.heap.size, 2, none⟩ (.slice A2 n c2)) := below_set (bnext KP.out hb2) (Nat.le_refl _) _
  have hSA : wp.heap.size ≤ (w2.setCell ⟨w.heap.size, 2, none⟩ (.slice A2 n c2)).heap.size := by have := hb2.size; simpa using this
  obtain ⟨wa, hwa⟩ : ∃ wa, w2.setCell ⟨w.heap.size, 2, none⟩ (.slice A2 n c2) = wa := ⟨_, rfl⟩
  rw [hwa] at q1 q2 hNA hBA hSA
  obtain ⟨k0, k1, k2, -⟩ := q1.three
  have HWA := Lib.hid hwa; have ST := Lib.hid (show Bx wa w.heap.size [.int .i64 m, .int .i64 f, .slice A2 n c2] ∧ Bx wa (w.heap.size + 1) [.int .i64 0, .int .i64 0, .slice none 0 0] ∧ RiNew wp.heap.size (w.heap.size :: (w.heap.size + 1) :: S) wa (.slice A2 n c2) L ∧ Below w.heap.size w wa ∧ wp.heap.size ≤ wa.heap.size from ⟨q1, q2, hNA, hBA, hSA⟩)
  clear hwa q1 q2 hNA hBA hSA hb2 p1 p2 hN CL
  go_wp2_with fail
  rw [HWA.out]
  clear k0 k1 k2 k3 k4 k5
  go_loopw [12] (fun i wr => ∃ k : Nat, k ≤ n ∧ i = .int .i64 k ∧ Hid (Bx wr w.heap.size [.int .i64 m, .int .i64 f, .slice A2 n c2] ∧ Bx wr (w.heap.size + 1) [.int .i64 0, .int .i64 0, .slice none 0 0] ∧ RiNew wp.heap.size (w.heap.size :: (w.heap.size + 1) :: S) wr (.slice A2 n c2) L ∧ Below w.heap.size w wr ∧ wp.heap.size ≤ wr.heap.size)) (fun i _ => n - (intOf i).toNat)
  case atStart => exact ⟨0, Nat.zero_le _, rfl, ST.out⟩
  case round =>
    obtain ⟨k, hk, rfl, HI⟩ := hrel
    obtain ⟨k0, k1, k2, -⟩ := HI.out.1.three
    by_cases hlt : k < n
    · obtain ⟨A0, c0, h0, hle, hg0⟩ := HI.out.2.2.1.form
      obtain ⟨g, hg, hgB, hgl, hgS⟩ := hg0 (by rw [HN.out]; omega)
      injection h0 with h0 e8 e9
      clear e8 e9
      subst h0
      subst hg
      obtain ⟨⟨s, l⟩, hp⟩ : ∃ r, L[k]? = some r := ⟨_, List.getElem?_eq_getElem (by rw [HN.out]; exact hlt)⟩
      obtain ⟨A', c', e0, e1, ho, f0, f1⟩ := HI.out.2.2.1.at HN.out hp
      simp only at e0 e1 ho
      have hq1 : l.length ≤ 100000 := HS.out _ (List.mem_of_getElem? hp)
      obtain ⟨q, hq⟩ : ∃ q, l.length = q := ⟨_, rfl⟩
      rw [hq] at e1 ho
      obtain ⟨b3, hbc, hzc⟩ := bx_new1 wr #[.int .i64 s, .slice A' q c'] 53
      obtain ⟨wc, hwc⟩ : ∃ wc, wr.alloc (.cells #[.int .i64 s, .slice A' q c'] 53) = wc := ⟨_, rfl⟩
      rw [hwc] at b3 hbc hzc
      obtain ⟨y0, y1, -, -⟩ := b3.two
      have CS := fun (W : World) (hB : Below wc.heap.size wc W) => IP.clone_c (.slice A' q c') l hq1 W ((ho.out.below hbc).below hB)
      rw [hq] at CS
      have CS := Lib.hid CS
      have k0 := cellb hbc k0; have k1 := cellb hbc k1; have k2 := cellb hbc k2
      have GC := Lib.hid (show wc.cell? ⟨g, k * 2 + 1, none⟩ = some (.slice A' q c') ∧ wc.frozen? ⟨g, k * 2 + 1, none⟩ = false ∧ g < wc.heap.size from ⟨cellb hbc e1, (hbc.frozen (p := ⟨g, k * 2 + 1, none⟩) hgl).trans f1, by omega⟩)
      have HP := Lib.hid hp; have HWC := Lib.hid hwc; have KC := Lib.hid hbc; have HQ := Lib.hid hq
      have CELL := Lib.hid (show wc.cell? ⟨w.heap.size, 2, none⟩ = some (.slice (some ⟨g, 0, none⟩) n c2) ∧ wc.cell? ⟨wr.heap.size, 1, none⟩ = some (.slice A' q c') from ⟨k2, y1⟩)
      have n1 : w.heap.size ≠ g := fun e => hgS (by rw [← e]; simp)
      have n2 : w.heap.size + 1 ≠ g := fun e => hgS (by rw [← e]; simp)
      have n6 : ∀ i j : Nat, (⟨g, i, none⟩ : Addr) ≠ ⟨w.heap.size, j, none⟩ := fun i j e => by injection e with e1; exact n1 e1.symm
      have n7 : ∀ i j : Nat, (⟨g, i, none⟩ : Addr) ≠ ⟨wr.heap.size, j, none⟩ := fun i j e => by injection e with e1; omega
      have GB := Lib.hid (show g ∉ w.heap.size :: (w.heap.size + 1) :: S ∧ w.heap.size ≤ g ∧ g < wr.heap.size from ⟨hgS, by have := ZP.out; omega, hgl⟩)
      clear hp hwc hbc hq ho b3 hgS hgB hg0 hle
      go_wp2_with fail
      rw [HWC.out]
      go_region_held3 (fun y' => y'.cell? ⟨w.heap.size, 2, none⟩ = some (.slice (some ⟨g, 0, none⟩) n c2) ∧ y'.cell? ⟨wr.heap.size, 1, none⟩ = some (.slice A' q c'))
        (first | (exact CELL.out) | (exact ⟨(World.cell?_setCell_other _ _ _ _ (n6 _ _)).trans q5.1, (World.cell?_setCell_other _ _ _ _ (n7 _ _)).trans q5.2⟩) | go_keep | assumption)
        (first | (go_at_call 57; refine (CS.out _ (by first | exact (Below.refl wc.heap.size wc) | exact (Below.refl wc.heap.size wc).drew)).mono ?_; rintro e w5 ⟨A5, c5, rfl, hN5, hb5⟩; have T5 : Below wc.heap.size wc w5 := bnext (by first | exact (Below.refl wc.heap.size wc) | exact (Below.refl wc.heap.size wc).drew) hb5; have q5 : w5.cell? ⟨w.heap.size, 2, none⟩ = some (.slice (some ⟨g, 0, none⟩) n c2) ∧ w5.cell? ⟨wr.heap.size, 1, none⟩ = some (.slice A' q c') := ⟨cellb T5 CELL.out.1, cellb T5 CELL.out.2⟩; have r1 := cellb T5 GC.out.1; have r2 := (T5.frozen (p := ⟨g, k * 2 + 1, none⟩) GC.out.2.2).trans GC.out.2.1; have N5 := Lib.hid (show RgNew wc.heap.size w5 (.slice A5 q c5) l from hN5); have TT := Lib.hid T5))
      all_goals (try go_wp2_with fail)
      go_roundw
      case rel =>
        have KZ := bnext KC.out TT.out
        refine ⟨k + 1, by omega, by go_num, (HI.out.1.below KZ).other (fun e => n1 e.symm) _, (HI.out.2.1.below KZ).other (fun e => n2 e.symm) _, (HI.out.2.2.1.below KZ).put1 HN.out HP.out (N5.out.far fun z hz => ?_), below_set (bnext HI.out.2.2.2.1 KZ) GB.out.2.1 _, ?_⟩
        · have h1 := HI.out.2.2.2.2; have h2 := KC.out.size; have h3 := HSS.out z
          rcases List.mem_cons.1 hz with h | h
          · have h4 := GB.out.2.2; exact .inl (by omega)
          · have h4 := h3 h; exact .inl (by omega)
        · have h1 := HI.out.2.2.2.2; have h2 := KZ.size; simp; omega
      case measure => simp [intOf]; omega
    · obtain rfl : k = n := by omega
      obtain ⟨j0, j1, j2, j3, j4, j5⟩ := HI.out.2.1.three
      go_wp2_with fail
      refine bodyPost_ret (v := .agg #[.int .i64 m, .int .i64 f, .slice A2 k c2]) (by simp [results, Try.results31, go_sem, j0, j1, j2, j3, j4, j5]) rfl ⟨A2, c2, rfl, ?_, ?_⟩
      · exact ((HI.out.2.2.1.set3 (b := w.heap.size + 1) (by simp) _ _ _).less (fun z hz => .inl (by simp [hz]))).mono (by have := ZP.out; omega)
      · exact below_set (below_set (below_set HI.out.2.2.2.1 (by omega) _) (by omega) _) (by omega) _
end AP
end Go.Proofs.Ytkgajlklhcmmcaa
