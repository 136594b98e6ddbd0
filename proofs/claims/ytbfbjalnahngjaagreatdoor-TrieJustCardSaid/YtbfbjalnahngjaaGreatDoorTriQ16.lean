/-
  Texts of the trie's proofs, merged: TriPK, TriPL, TriPM, TriRC, TriAl.
-/
import Derived.Test.YtbfbjalnahngjaaGreatDoorTriQ15
import Derived.Test.YtbfbjalnahngjaaGreatDoorShelfC
import Derived.Shelf.SlSortCmp.NoneTotal
import Derived.Shelf.SlicesQ.Reverse
import Derived.Test.YtbfbjalnahngjaaGreatDoorTriQ14
set_option linter.unusedSimpArgs false
set_option linter.unusedVariables false
namespace Go.Proofs.YtbfbjalnahngjaaGreatDoor
open Go.RowKit Go.Maps Go.WideMaps GR Go.Sort Go.Lib IP
theorem cmpB_lt : ∀ {a b : List UInt8}, Lib.compareBytes a b < 0 ↔ a < b
  | [], [] => by simp [Lib.compareBytes]
  | [], _ :: _ => by simp [Lib.compareBytes]
  | _ :: _, [] => by simp [Lib.compareBytes]
  | a :: p, b :: q => by
    unfold Lib.compareBytes
    rw [List.cons_lt_cons_iff]
    split
    · rename_i h; simp [h]
    · rename_i h
      split
      · rename_i h2
        have : a ≠ b := fun e => h (e ▸ h2)
        simp [h, this]
      · rename_i h2
        have : a = b := UInt8.le_antisymm (UInt8.not_lt.1 h2) (UInt8.not_lt.1 h)
        rw [cmpB_lt]
        simp [this]
def encH (h : Hit3) : List Value := [.string (str h.1), .bool h.2.1, .bool h.2.2]
def cmpH (x y : Hit3) : Int := Lib.compareBytes (u8 x.1) (u8 y.1)
theorem ltH (x y : Hit3) : ltOf cmpH x y = decide (u8 x.1 < u8 y.1) := by
  unfold ltOf cmpH
  rw [Bool.eq_iff_iff, decide_eq_true_eq, decide_eq_true_eq]
  exact cmpB_lt
theorem swoH : SWO (ltOf cmpH) where
  irrefl x := by rw [ltH]; exact decide_eq_false (List.lt_irrefl _)
  trans x y z h1 h2 := by
    rw [ltH, decide_eq_true_eq] at *
    exact List.lt_trans h1 h2
  ntrans x y z h1 h2 := by
    rw [ltH, decide_eq_false_iff_not] at *
    exact List.not_lt.2 (List.le_trans (List.not_lt.1 h2) (List.not_lt.1 h1))
theorem htC_at : ∀ (l : List Hit3) (k : Nat) (h : Hit3), l[k]? = some h → (htC l)[k * 3]? = some (.string (str h.1)) ∧ (htC l)[k * 3 + 1]? = some (.bool h.2.1) ∧ (htC l)[k * 3 + 2]? = some (.bool h.2.2)
  | [], k, h, e => by simp at e
  | x :: l, 0, h, e => by
    obtain rfl : x = h := by simpa using e
    exact ⟨rfl, rfl, rfl⟩
  | x :: l, k + 1, h, e => by
    have ih := htC_at l k h (by simpa using e)
    have e2 : htC (x :: l) = .string (str x.1) :: .bool x.2.1 :: .bool x.2.2 :: htC l := rfl
    rw [e2, show (k + 1) * 3 = k * 3 + 1 + 1 + 1 by omega]
    simp only [List.getElem?_cons_succ]
    exact ih
theorem own_cell {B n : Nat} {e : TypeId} {size g c : Nat} {w : World} {xs : List Value} (h : w.ownsRow B e size (.slice (some ⟨g, 0, none⟩) n c) n xs) {j : Nat} {u : Value} (hj : xs[j]? = some u) : w.cell? ⟨g, j, none⟩ = some u ∧ w.frozen? ⟨g, j, none⟩ = false := by
  rcases h.2 with ⟨hv, _⟩ | ⟨g', cap, cur, hv, hb, hh, hle, _, _, ht⟩
  · cases hv
  · injection hv with e1 e2 e3
    injection e1 with e1
    injection e1 with e1 _ _
    subst e1
    refine ⟨(cell_of_row w g j cur _ (0, 0) hh).trans ?_, frozen_of_row w g j cur _ hh⟩
    have hlt := (List.getElem?_eq_some_iff.1 hj).1
    have h5 : (cur.toList.take (n * size))[j]? = some u := by rw [ht]; exact hj
    have hl := h.1
    rw [List.getElem?_take, if_pos (by omega)] at h5
    simpa using h5
/-- A row of nodes, as it is read. -/
def HtAt (w : World) (g : Nat) (H : List Hit3) : Prop := ∀ (k : Nat) (h : Hit3), H[k]? = some h → w.cell? ⟨g, k * 3, none⟩ = some (.string (str h.1)) ∧ w.cell? ⟨g, k * 3 + 1, none⟩ = some (.bool h.2.1) ∧ w.cell? ⟨g, k * 3 + 2, none⟩ = some (.bool h.2.2)
theorem HtAt.below {w w' : World} {g : Nat} {H : List Hit3} (h : HtAt w g H) (hb : Below w.heap.size w w') : HtAt w' g H := fun k x hk => by
  obtain ⟨a, b, c⟩ := h k x hk
  exact ⟨cellb hb a, cellb hb b, cellb hb c⟩
def HtOut (w : World) (v : Value) (H : List Hit3) : Prop := ∃ A c, v = .slice A H.length c ∧ H.length ≤ c ∧ (H ≠ [] → ∃ g, A = some ⟨g, 0, none⟩ ∧ HtAt w g H)
theorem HtOut.below {w w' : World} {v : Value} {H : List Hit3} (h : HtOut w v H) (hb : Below w.heap.size w w') : HtOut w' v H := by
  obtain ⟨A, c, e, h1, h2⟩ := h
  exact ⟨A, c, e, h1, fun hn => by obtain ⟨g, e2, h3⟩ := h2 hn; exact ⟨g, e2, h3.below hb⟩⟩
theorem HtOut.nil (w : World) : HtOut w (.slice none 0 0) [] := ⟨none, 0, rfl, Nat.le_refl _, fun h => absurd rfl h⟩
/-- A row of one's own, as the sort wants it. -/
theorem own_holds {B g n c : Nat} {w : World} {l : List Hit3} (h : w.ownsRow B 53 3 (.slice (some ⟨g, 0, none⟩) n c) n (htC l)) (hn : l.length = n) : HoldsK encH 3 w g 0 l.toArray := by
  subst hn
  intro j hj
  rw [size_flatK] at hj
  have hj2 : j < l.length * 3 := by simpa using hj
  rw [get_flatK _ _ _ _ hj]
  have hk : j / 3 < l.length := by omega
  obtain ⟨e0, e1, e2⟩ := htC_at l (j / 3) _ (List.getElem?_eq_getElem hk)
  have ea : (l.toArray)[j / 3]! = l[j / 3] := by simp [hk]
  rw [ea, Nat.zero_add]
  have h3 : j % 3 = 0 ∨ j % 3 = 1 ∨ j % 3 = 2 := by omega
  rcases h3 with h3 | h3 | h3
  · rw [h3]
    have ej : j / 3 * 3 = j := by omega
    rw [ej] at e0
    exact own_cell h e0
  · rw [h3]
    have ej : j / 3 * 3 + 1 = j := by omega
    rw [ej] at e1
    exact own_cell h e1
  · rw [h3]
    have ej : j / 3 * 3 + 2 = j := by omega
    rw [ej] at e2
    exact own_cell h e2
theorem hold_out {g n c : Nat} {w : World} {d : Array Hit3} (h : HoldsK encH 3 w g 0 d) (hn : d.size = n) (hc : n ≤ c) : HtOut w (.slice (some ⟨g, 0, none⟩) n c) d.toList := by
  subst hn
  refine ⟨_, c, by rw [Array.length_toList], by rw [Array.length_toList]; exact hc, fun _ => ⟨g, rfl, fun k x hk => ?_⟩⟩
  have hlt : k < d.size := by have := (List.getElem?_eq_some_iff.1 hk).1; simpa using this
  have hx : d[k]! = x := by
    have h2 : d.toList[k]? = some d[k]! := by simp [hlt]
    rw [hk] at h2
    exact (Option.some.inj h2).symm
  have h3 := HoldsK.cells h (fun _ => rfl) hlt
  rw [hx] at h3
  have a0 := h3 0 (.string (str x.1)) rfl
  have a1 := h3 1 (.bool x.2.1) rfl
  have a2 := h3 2 (.bool x.2.2) rfl
  have ea : ∀ j, ((⟨g, 0 + k * 3, none⟩ : Addr).add j) = ⟨g, k * 3 + j, none⟩ := fun j => by unfold Addr.add; simp
  rw [ea] at a0 a1 a2
  exact ⟨a0, a1, a2⟩
theorem grown_sortH {k blk off n : Nat} {enc : Hit3 → List Value} {w : World} {d : Array Hit3} {os : Array Obj} : w.grownBy (sortWorldK enc k w blk off n d os) (some blk) := by
  refine ⟨rfl, rfl, rfl, ?_, fun i hi hne => ?_⟩
  · simp [sortWorldK, grow, putRowK, putRow, mapBlock, ahead]
  · have hn : blk ≠ i := fun e => hne (by rw [e])
    simp [sortWorldK, grow, putRowK, putRow, mapBlock, ahead, Array.getElem?_append, hi, Array.getElem_modify, hn]
theorem sort_hits {L : List Hit3} {d : Array Hit3} (hb : ∀ x ∈ L, ∀ c ∈ x.1, c < 256) (hp : PermIn 0 L.toArray.size L.toArray d) (hs : SortedIn (ltOf cmpH) 0 L.toArray.size d) : d.size = L.length ∧ d.toList.Perm L ∧ (d.toList.map Prod.fst).Pairwise fun a b => ¬ b < a := by
  obtain ⟨h1, _, h3⟩ := hp
  have hz : d.size = L.length := by simpa using h1
  have hpm : d.toList.Perm L := by
    have e1 : d.extract 0 L.toArray.size = d := by rw [← h1]; simp
    rw [e1] at h3
    simpa using h3
  refine ⟨hz, hpm, ?_⟩
  rw [List.pairwise_map, List.pairwise_iff_getElem]
  intro i j hi hj hij
  have hj2 : j < d.size := by simpa using hj
  have h4 := hs i j (Nat.zero_le _) hij (by rw [← h1]; exact hj2)
  rw [ltH, decide_eq_false_iff_not, getElem!_pos d j hj2, getElem!_pos d i (by omega), n8_lt] at h4
  simp only [Array.getElem_toList]
  rw [n8_u8 (hb _ (hpm.mem_iff.1 (by simp))), n8_u8 (hb _ (hpm.mem_iff.1 (by simp)))] at h4
  exact h4
namespace IP
open TP
set_option maxRecDepth 100000 in
set_option maxHeartbeats 1000000 in
theorem nodes2_c (x y : Hit3) (W : World) : Calls Tryz.prog 45 #[.agg #[.string (str x.1), .bool x.2.1, .bool x.2.2], .agg #[.string (str y.1), .bool y.2.1, .bool y.2.2]] W fun e w' => e = .returned (.int .i64 (cmpH x y)) ∧ ∃ q os', w' = grow (W.drewN q) os' := by
  have hcon := fun W' => Tryz.strings_Compare (str x.1) (str y.1) W'
  have e : Lib.compareBytes (str x.1).data.toList (str y.1).data.toList = cmpH x y := by unfold cmpH; rw [show (str x.1).data.toList = u8 x.1 by simp [str, u8], show (str y.1).data.toList = u8 y.1 by simp [str, u8]]
  rw [e] at hcon
  generalize cmpH x y = r at hcon ⊢
  clear e
  obtain ⟨x1, x2, x3⟩ := x
  obtain ⟨y1, y2, y3⟩ := y
  generalize str x1 = X at *
  generalize str y1 = Y at *
  go_enter Tryz.func45, Tryz.ntmps45
  go_wp2_with (go_at_call 46; refine (hcon _).mono ?_; rintro e w' ⟨rfl, rfl⟩)
  go_ret
  exact ⟨rfl, 0, _, by rw [alloc_eq_grow, alloc_eq_grow, grow_grow]; rfl⟩
theorem enters_nodes2 : ∀ args w, (callFunc 45 args).run Tryz.prog w = .ok (.enter 45 args) w := enters_of Tryz.func45 (by kernel_rfl) rfl
theorem cmpLays (blk off size : Nat) (w : World) : CmpLays Tryz.prog 45 #[] encH 3 cmpH blk off size w := fun _ _ _ _ x y => nodes2_c x y _
theorem sortH_c {B : Nat} (v : Value) (L : List Hit3) (hb : ∀ x ∈ L, ∀ c ∈ x.1, c < 256) (hl : L.length ≤ 100000) (w : World) (h : w.ownsRow B 53 3 v L.length (htC L)) :
    Calls Tryz.prog 44 #[v, .func (.func 45) #[] #[]] w fun e w' => e = .returned (.tuple #[]) ∧ ∃ H : List Hit3, H.Perm L ∧ ((H.map Prod.fst).Pairwise fun a b => ¬ b < a) ∧ HtOut w' v H ∧ w.grownBy w' v.ownBlock := by
  rcases id h.2 with ⟨rfl, h0⟩ | ⟨g, cap, cur, rfl, hbase, hbk, h1, h2, h3, h4⟩
  · have e1 : L = [] := List.eq_nil_of_length_eq_zero h0
    subst e1
    have S := AnyF.slices_SortFunc_none Tryz.sortSl none 0 (.func (.func 45) #[] #[]) w
    change Calls Tryz.prog 44 _ _ _ at S
    refine S.mono ?_
    rintro _ w' ⟨rfl, rfl⟩
    exact ⟨rfl, [], List.Perm.nil, List.Pairwise.nil, HtOut.nil _, ⟨rfl, rfl, rfl, Nat.le_refl _, fun _ _ _ => rfl⟩⟩
  · have hsz : L.toArray.size = L.length := by simp
    have hg := (Array.getElem?_eq_some_iff.1 hbk).1
    have H := own_holds h rfl
    have hcon := AnyQ.slices_SortFunc Tryz.sortSl 3 Tryz.isAgg53 Tryz.sizeOf53 encH (fun _ => rfl) (fun x v hv => by simp [encH] at hv; rcases hv with rfl | rfl | rfl <;> rfl) cmpH swoH 45 #[] g 0 cap L.toArray w enters_nodes2 (cmpLays g 0 L.toArray.size w) H hg (by omega)
    change Calls Tryz.prog 44 _ _ _ at hcon
    rw [show L.toArray.size = L.length from hsz] at hcon
    refine hcon.mono ?_
    rintro e w' ⟨rfl, d', m, os, hp, hs, rfl⟩
    rw [← hsz] at hp hs
    obtain ⟨z1, z2, z3⟩ := sort_hits hb hp hs
    have hd : d'.size = L.toArray.size := by rw [z1]; simp
    exact ⟨rfl, d'.toList, z2, z3, hold_out (holdsK_sortWorldK encH 3 w g 0 m L.toArray d' os hg H hd) z1 h1, grown_sortH⟩
end IP
end Go.Proofs.YtbfbjalnahngjaaGreatDoor
namespace Go.Proofs.YtbfbjalnahngjaaGreatDoor.IP
open Go.RowKit Go.Maps Go.WideMaps GR TP
theorem nodes_vis (N c : Nat) : VisN N 43 c (NodS c) where
  enters := enters_nodes1
  keep h hk _ := RwS.keep h hk
  lt h := RwS.lt h
  call l x w G d b F S h hn hFG hl _ _ := by
    obtain ⟨mv, k, hc, hm, hlen, hk⟩ := hn.cut.count (fun x hx => hx.2)
    obtain ⟨br, hbr⟩ : ∃ br, decide (0 < k) = br := ⟨_, rfl⟩
    refine (nodes1_c c l x w G b (S []) mv k h hl hc (hFG b hn.fb) (fun i hi => ⟨hFG i (hm i hi).1, (hm i hi).2⟩) hlen br hbr).mono ?_
    rintro _ w' ⟨rfl, G', h1, h2, h3⟩
    exact ⟨rfl, br, G', by rw [← hbr, decide_eq_true_eq]; exact hk, h1, h2, h3⟩
theorem form_cap {B : Nat} {w : World} {v : Value} {ls : List (List Nat)} (h : TxNew B w v ls) (hn : 0 < ls.length) : ∃ g c, v = .slice (some ⟨g, 0, none⟩) ls.length c ∧ ls.length ≤ c ∧ c ≤ 9223372036854775807 ∧ B ≤ g ∧ g < w.heap.size ∧ TxAt w g ls := by
  rcases id h.2 with ⟨rfl, h0⟩ | ⟨g, cap, cur, rfl, hbase, hbk, h1, h2, h3, h4⟩
  · omega
  · obtain ⟨A, c, e, _, hx⟩ := TxNew.form h
    obtain ⟨g', e2, _, hg, ht⟩ := hx hn
    injection e with e3 _ e4
    rw [e2] at e3
    injection e3 with e3
    injection e3 with e3
    subst e3
    refine ⟨g, cap, rfl, h1, ?_, hbase, hg, ht⟩
    unfold maxLen at h2
    exact h2
theorem cut_small {s : List Nat} (k : Nat) (hs : s.length ≤ 100000) (hb : ∀ c ∈ s, c < 256) : ∀ q ∈ tCut s k, (∀ c ∈ q, c < 256) ∧ q.length ≤ 100000 := fun q hq => by
  obtain ⟨a, b⟩ := tCut_mem s k q hq
  exact ⟨fun c hc => hb c (b c hc), by omega⟩
theorem hit_bytes {l : List (List Nat)} (hr : ∀ t ∈ l, tRight t = true) {gs : List (List Nat)} {ss : List Met} (h : LdE (Sof l) gs ss) : ∀ x ∈ ss.map (hitOf (Sof l) []), ∀ c ∈ x.1, c < 256 := by
  intro x hx c hc
  obtain ⟨y, hy, rfl⟩ := List.mem_map.1 hx
  obtain ⟨_, r, hr2⟩ := (h.mem y.1).1 (List.mem_map.2 ⟨y, hy, rfl⟩)
  obtain ⟨_, _, c3, _, _⟩ := sof_names hr hr2
  have hn : ∀ n ∈ y.1, tName n = true := fun n hn => c3 n (List.mem_append_left _ hn)
  have hc : c ∈ tPath [] y.1 := hc
  rw [tPath_root _ (fun n h => (tName_bytes (hn n h)).2.1)] at hc
  rcases tJoin_mem2 _ c hc with h | ⟨n, hn2, hc2⟩
  · omega
  · exact (tName_bytes (hn n hn2)).1 c hc2
set_option maxRecDepth 100000 in
set_option maxHeartbeats 2000000 in
theorem nodes_c' {N : Nat} {w : World} {v : Value} {F : Nat → Prop} {l : List (List Nat)} (hpl : Pl l) (h : TrV N w v F l) (hF : ∀ x, F x → x < w.heap.size) (p : ByteArray) (hp : p.size ≤ 100000) (hm : Ml w) :
    Calls Tryz.prog 22 #[v, .string p] w fun e w' => ∃ u H, e = .returned (.tuple #[u, .int .i64 (tErr (bs p))]) ∧ HtOut w' u H ∧ (tErr (bs p) = 0 → HitsOf l (bs p) H) ∧ (tErr (bs p) ≠ 0 → H = []) ∧ Below w.heap.size w w' := by
  have NC := nodes_c p hp w hm
  obtain ⟨s, hs⟩ : ∃ s, bs p = s := ⟨_, rfl⟩
  have hsb : ∀ c ∈ s, c < 256 := by rw [← hs]; exact bs_mem p
  have hsl : s.length ≤ 100000 := by rw [← hs, bs_length]; exact hp
  rw [hs] at NC ⊢
  clear hm hp hs
  obtain ⟨E, hE⟩ : ∃ E, tErr s = E := ⟨_, rfl⟩
  rw [hE] at NC ⊢
  by_cases h0 : E = 0
  · subst h0
    have hneL : 0 < (tCut s 8).length := List.length_pos_iff.2 (tCut_ne s 8)
    have h9 := (tErr_zero hE).1
    have HE := Lib.hid hE; have HPL := Lib.hid hpl
    have TC := Lib.hid (fun (W : World) (hb : Below w.heap.size w W) => top_c (h.below hb))
    have HCS := Lib.hid (cut_small 8 hsl hsb)
    have HNC := Lib.hid NC; have HF := Lib.hid hF
    have HFEW := Lib.hid (few_sof hpl.le)
    clear NC hE hpl hsb hsl h hF
    go_enter Tryz.func22, Tryz.ntmps22
    go_wp2_with fail
    refine HNC.out.mono ?_; rintro _ w1 ⟨gv, rfl, hv, _, hb1⟩
    have HB1 := Lib.hid hb1
    have hv := hv (by first | rfl | trivial)
    obtain ⟨g, cap, rfl, hc1, hc2, hg1, hg2, hta⟩ := form_cap hv hneL
    have hbx := alloc_below w1 (.cells #[.slice none 0 0] 46)
    have hc0 : (w1.alloc (.cells #[.slice none 0 0] 46)).cell? ⟨w1.heap.size, 0, none⟩ = some (.slice none 0 0) := cell_of_row _ _ 0 _ _ (0, 0) (heap_alloc_new _ _)
    have hf0 : (w1.alloc (.cells #[.slice none 0 0] 46)).frozen? ⟨w1.heap.size, 0, none⟩ = false := frozen_of_row _ _ 0 _ _ (heap_alloc_new _ _)
    obtain ⟨wb, hwb⟩ : ∃ wb, w1.alloc (.cells #[.slice none 0 0] 46) = wb := ⟨_, rfl⟩
    have hsz : w1.heap.size < wb.heap.size := by rw [← hwb]; simp
    rw [hwb] at hbx hc0 hf0
    obtain ⟨c, hcc⟩ : ∃ c, w1.heap.size = c := ⟨_, rfl⟩
    have HCC := Lib.hid hcc
    rw [hcc] at hc0 hf0
    have HS := Lib.hid (show NodS c [] wb (fun i => i = c) from ⟨_, hc0, hf0, ⟨by simp [htC], .inl ⟨rfl, rfl⟩⟩, fun i => by simp [Value.ownBlock]⟩)
    have V := Lib.hid (nodes_vis N c)
    have HBW := Lib.hid (bnext hb1 hbx)
    have T := Lib.hid (TC.out wb (bnext hb1 hbx))
    have HTA := Lib.hid (hta.below hbx)
    have HGC := Lib.hid (show g < c by omega)
    have HSZ := Lib.hid hsz
    clear hv hb1 hta hbx hsz hg1 hg2
    obtain ⟨n, hn⟩ : ∃ n, (tCut s 8).length = n := ⟨_, rfl⟩
    have HN := Lib.hid hn
    rw [hn] at hc1 h9 hneL ⊢
    clear hn
    go_wp2_with fail
    try rw [hcc]
    try rw [hwb]
    refine T.out.mono ?_
    rintro _ w2 ⟨b, F1, rfl, hn1, hl1, hs1, hb2⟩
    have HB2 := Lib.hid (bnext HBW.out hb2)
    have st2 := V.out.keep HS.out (fun i hi => hb2.block i (V.out.lt HS.out i hi)) hb2.size
    have LC := lead_c V.out (tCut s 8) HCS.out 8 b F1 (Sof l) [] [] (fun i => i = c) w2 (some ⟨g, 0, none⟩) cap hn1 st2 (fun x hx e => by
      rcases hs1 x hx with h | h
      · have := HF.out x h; have := HCC.out; have := HB1.out.size; omega
      · have := HSZ.out; have := HCC.out; omega) HFEW.out (fun e => absurd e (tCut_ne s 8)) (fun _ h => absurd h (by simp)) (by have := HN.out; simp only [List.length_nil]; omega) (by have := HN.out; simp only [List.length_nil]; omega) (by have := HN.out; omega) hc2 (fun _ => ⟨g, 0, rfl, fun j t hj => by rw [Nat.zero_add]; exact cellb hb2 (HTA.out j t hj), fun e => by have := HGC.out; omega, by have := HN.out; omega⟩)
    rw [HN.out] at LC
    have LC := Lib.hid LC
    clear hn1 hl1 hs1 hb2 st2 hwb hc0 hf0
    go_wp2_with fail
    refine LC.out.mono ?_
    rintro _ w3 ⟨rfl, ss, G2, hld, hst, hf, hg⟩
    rw [List.nil_append] at hst
    have HB3 := Lib.hid (HB2.out.trans (hf.to_below (B := w.heap.size) (by have := HB2.out.size; omega) (fun x hx => by have := HCC.out; have := HB1.out.size; omega)))
    obtain ⟨u, c2, -, ho2, hG2⟩ := hst
    have hle : (ss.map (hitOf (Sof l) [])).length ≤ 100000 := by
      rw [List.length_map]
      have := nodup_le (l := ss.map Prod.fst) (m := l.map fun t => (tCut t 8).take n) hld.nd fun s1 hx => by
        obtain ⟨a, r, hr⟩ := (hld.mem s1).1 hx
        obtain ⟨t, ht, e⟩ := sof_iff.1 hr
        exact List.mem_map.2 ⟨t, ht, by rw [e, ← HN.out, ← tFits_len a, List.take_left]⟩
      rw [List.length_map, List.length_map] at this
      have := HPL.out.le
      omega
    have hcu : some c ≠ u.ownBlock := fun e => by have := (own_lt2 ho2 e.symm).1; omega
    have HSO := Lib.hid (sortH_c u (ss.map (hitOf (Sof l) [])) (hit_bytes HPL.out.ri hld) hle w3 ho2)
    have HCU := Lib.hid hcu; have HOL := Lib.hid (fun g hg => own_lt2 ho2 (g := g) hg); have HLD := Lib.hid hld
    clear hf hg hG2 hle ho2 hcu hld LC
    go_wp2_with fail
    refine HSO.out.mono ?_
    rintro _ w4 ⟨rfl, H, hp4, hs4, ho4, hg4⟩
    have c3 := (World.cell?_of_block (a := ⟨c, 0, none⟩) (hg4.block c (World.block_lt_of_cell? _ _ c2) HCU.out)).trans c2
    have HB4 := Lib.hid (HB3.out.grown hg4 HB3.out.size (fun k hk => by have := (HOL.out k hk).1; have := HCC.out; have := HB1.out.size; omega))
    have HH := Lib.hid (hits_of HPL.out.ri HE.out HLD.out hp4 hs4)
    have HO := Lib.hid ho4
    clear hp4 hs4 ho4 hg4 c2
    go_wp2
    go_ret2
    exact ⟨_, H, rfl, HO.out, fun _ => HH.out, fun h => absurd rfl h, HB4.out⟩
  · have hb : (E != 0) = true := bne_iff_ne.2 h0
    have HNC := Lib.hid NC
    have H0 := Lib.hid h0
    clear NC hE hpl h hF hsb hsl
    as_aux_lemma =>
      go_enter Tryz.func22, Tryz.ntmps22
      go_wp2_with fail
      refine HNC.out.mono ?_; rintro _ w1 ⟨gv, rfl, _, _, hb1⟩
      have HB1 := Lib.hid hb1
      clear hb1
      go_wp2
      go_ret2
      exact ⟨_, [], rfl, HtOut.nil _, fun h => absurd h H0.out, fun _ => rfl, HB1.out⟩
end Go.Proofs.YtbfbjalnahngjaaGreatDoor.IP
namespace Go.Proofs.YtbfbjalnahngjaaGreatDoor
open Go.RowKit Go.Maps Go.WideMaps GR IP
/-- The held ones among the first k. -/
def tPre (H : List Hit3) (k : Nat) : List (List Nat) := ((H.take k).filter fun q => q.2.1).map Prod.fst
theorem tPre_yes {H : List Hit3} {k : Nat} {q : Hit3} (h : H[k]? = some q) (hq : q.2.1 = true) : tPre H (k + 1) = tPre H k ++ [q.1] := by
  unfold tPre
  rw [take_snoc' h, List.filter_append, List.map_append]
  simp [hq]
theorem tPre_no {H : List Hit3} {k : Nat} {q : Hit3} (h : H[k]? = some q) (hq : q.2.1 = false) : tPre H (k + 1) = tPre H k := by
  unfold tPre
  rw [take_snoc' h, List.filter_append, List.map_append]
  simp [hq]
theorem tPre_len (H : List Hit3) (k : Nat) : (tPre H k).length ≤ k := by
  unfold tPre
  rw [List.length_map]
  exact Nat.le_trans (List.length_filter_le _ _) (by rw [List.length_take]; omega)
theorem hits_few {l : List (List Nat)} {p : List Nat} {H : List Hit3} (h : HitsOf l p H) (hr : ∀ t ∈ l, tRight t = true) : H.length ≤ l.length := by
  have h8 : ∀ x ∈ H.map Prod.fst, tCut x 8 ≠ [] ∧ (tCut x 8).length = (tCut p 8).length ∧ ∃ t ∈ l, (tCut t 8).take (tCut p 8).length = tCut x 8 := fun x hx => by
    obtain ⟨a, b⟩ := (h.mem x).1 hx
    unfold tMatch at a
    rw [Bool.and_eq_true, Bool.and_eq_true] at a
    obtain ⟨⟨_, a1⟩, a2⟩ := a
    rw [← tFits_fit] at a2
    have a3 := tFits_len a2
    refine ⟨tCut_ne x 8, a3, ?_⟩
    rcases b with b | ⟨t, ht, y, rfl⟩
    · exact ⟨x, b, by rw [List.take_of_length_le (by omega)]⟩
    · refine ⟨_, ht, ?_⟩
      rw [right_full (hr _ ht), tFull_app, ← right_full a1, ← a3, List.take_left]
  have hn : (H.map fun q => tCut q.1 8).Nodup := by
    have h1 := h.up.nodup
    rw [List.Nodup, List.pairwise_map] at h1 ⊢
    exact List.Pairwise.imp (fun hne e => hne (cut_inj e)) h1
  have := nodup_le (m := l.map fun t => (tCut t 8).take (tCut p 8).length) hn fun s hs => by
    obtain ⟨q, hq, rfl⟩ := List.mem_map.1 hs
    obtain ⟨_, _, t, ht, e⟩ := h8 q.1 (List.mem_map.2 ⟨q, hq, rfl⟩)
    exact List.mem_map.2 ⟨t, ht, e⟩
  simpa using this
namespace IP
open TP
set_option maxRecDepth 100000 in
set_option maxHeartbeats 4000000 in
theorem find_c {N : Nat} {w : World} {v : Value} {F : Nat → Prop} {l : List (List Nat)} (hpl : Pl l) (h : TrV N w v F l) (hF : ∀ x, F x → x < w.heap.size) (p : ByteArray) (hp : p.size ≤ 100000) (hm : Ml w) :
    Calls Tryz.prog 19 #[v, .string p] w fun e w' => ∃ u, e = .returned (.tuple #[u, .int .i64 (tErr (bs p))]) ∧ TxNew w.heap.size w' u (if tErr (bs p) = 0 then tFound l (bs p) else []) ∧ Below w.heap.size w w' := by
  obtain ⟨i0, hi0, hz0, hzz1, hzz2⟩ := info_parts tx_info
  have NC := Lib.hid (nodes_c' hpl h hF p hp hm)
  obtain ⟨R, hR⟩ : ∃ R, (if tErr (bs p) = 0 then tFound l (bs p) else []) = R := ⟨_, rfl⟩
  have HR := Lib.hid (fun (H : List Hit3) (h1 : tErr (bs p) = 0 → HitsOf l (bs p) H) (h2 : tErr (bs p) ≠ 0 → H = []) => show tPre H H.length = R ∧ H.length ≤ 64 from by
    rw [← hR]
    by_cases e : tErr (bs p) = 0
    · rw [if_pos e]
      have h3 := h1 e
      exact ⟨by unfold tPre; rw [List.take_length]; exact found_of hpl.up h3, Nat.le_trans (hits_few h3 hpl.ri) hpl.le⟩
    · rw [if_neg e, h2 e]
      exact ⟨rfl, by simp⟩)
  obtain ⟨E, hE⟩ : ∃ E, tErr (bs p) = E := ⟨_, rfl⟩
  rw [hR]
  rw [hE] at NC HR ⊢
  clear hR hE hpl h hF hp hm
  go_enter Tryz.func19, Tryz.ntmps19
  go_wp2_with fail
  refine NC.out.mono ?_; rintro _ w1 ⟨u, H, rfl, ho, h1, h2, hb1⟩
  obtain ⟨hPR, h64⟩ := HR.out H h1 h2
  have HP := Lib.hid hPR; have HB1 := Lib.hid hb1
  obtain ⟨A, c, rfl, hc, hx⟩ := ho
  have HX := Lib.hid hx
  obtain ⟨n, hn⟩ : ∃ n, H.length = n := ⟨_, rfl⟩
  have HN := Lib.hid hn
  rw [hn] at hc h64 ⊢
  obtain ⟨B, hB⟩ : ∃ B, w1.heap.size = B := ⟨_, rfl⟩
  have HBB := Lib.hid hB
  clear hPR hb1 hx hn h1 h2 HR NC hB
  go_wp2_with fail
  go_loopw [8, 10, 19] (fun v8 _ v19 wr => ∃ (k q : Nat) (A8 : Option Addr) (c8 : Nat), v19 = .int .i64 (k : Nat) ∧ k ≤ n ∧ v8 = .slice A8 q c8 ∧ q ≤ k ∧ Hid ((tPre H k).length = q) ∧ Hid (TxNew B wr (.slice A8 q c8) (tPre H k)) ∧ Hid (Below w1.heap.size w1 wr)) (fun _ _ v19 _ => n - (intOf v19).toNat)
  case atStart => exact ⟨0, 0, none, 0, rfl, Nat.zero_le _, rfl, by omega, rfl, TxNew.nil _ _, Below.refl _ _⟩
  case round =>
    obtain ⟨k, q, A8, c8, rfl, hk, rfl, hq, HQ, HT, HB⟩ := hrel
    by_cases hlt : k < n
    · have hki : (k : Int) < (n : Int) := by omega
      obtain ⟨g, rfl, ha⟩ := HX.out (by intro e; have := HN.out; rw [e] at this; simp at this; omega)
      have hkl : k < H.length := by rw [HN.out]; exact hlt
      have hpp := List.getElem?_eq_getElem hkl
      obtain ⟨x, hxx⟩ : ∃ x, H[k] = x := ⟨_, rfl⟩
      rw [hxx] at hpp
      obtain ⟨a0, a1, a2⟩ := ha k x hpp
      have z0 := cellb HB.out a0
      have z1 := cellb HB.out a1
      have z2 := cellb HB.out a2
      have YES := Lib.hid (fun e => tPre_yes hpp e); have NO := Lib.hid (fun e => tPre_no hpp e)
      have HQL := Lib.hid (show (tPre H (k + 1)).length ≤ k + 1 from tPre_len H (k + 1))
      obtain ⟨X, hX⟩ : ∃ X, str x.1 = X := ⟨_, rfl⟩
      have HXX := Lib.hid hX
      obtain ⟨x1, lf, br⟩ := x
      rw [show (x1, lf, br).1 = x1 from rfl] at hX
      rw [show (x1, lf, br).2.1 = lf from rfl] at z1
      rw [show (x1, lf, br).2.2 = br from rfl] at z2
      rw [show (x1, lf, br).1 = x1 from rfl, hX] at z0
      have HV := Lib.hid (DVar.alloc (w := wr) #[.string ⟨#[]⟩, .bool false, .bool false] 53)
      have HBA := Lib.hid (alloc_below wr (.cells #[.string ⟨#[]⟩, .bool false, .bool false] 53))
      have hLS := HBB.out
      clear hpp hxx ha a0 a1 a2 hX
      cases lf with
      | false =>
        have E1 := Lib.hid (NO.out rfl)
        clear YES NO
        as_aux_lemma =>
          go_wp2_with (refine wpList_put rfl 53 _ _ rfl wr.heap.size [.string X, .bool false, .bool br] rfl rfl HV.out (by kernel_rfl) (by simp [Value.oneCell']) ?_; intro y1 hp; have HP1 := Lib.hid hp; obtain ⟨t0, t1, t2⟩ := hp.at_.three; have HB2 := Lib.hid (hp.below (Nat.le_refl _) HBA.out); clear hp)
          go_roundw
          case rel => exact ⟨k + 1, q, A8, c8, by go_num, by omega, rfl, by omega, by rw [E1.out]; exact HQ.out, by rw [E1.out]; exact HT.out.below HB2.out, bnext HB.out HB2.out⟩
          case measure => simp [intOf]; omega
      | true =>
        have E1 := Lib.hid (YES.out rfl)
        clear YES NO
        as_aux_lemma =>
          go_wp2_with (first
            | (refine wpList_put rfl 53 _ _ rfl wr.heap.size [.string X, .bool true, .bool br] rfl rfl HV.out (by kernel_rfl) (by simp [Value.oneCell']) ?_; intro y1 hp; have HP1 := Lib.hid hp; obtain ⟨t0, t1, t2⟩ := hp.at_.three; have HB2 := Lib.hid (hp.below (Nat.le_refl _) HBA.out); have HT2 := Lib.hid (HT.out.below HB2.out); have HOW := Lib.hid (show y1.ownsRow B 9 1 (.slice A8 q c8) q (txC (tPre H k)) by have h3 := HT2.out; unfold TxNew at h3; rw [HQ.out] at h3; exact h3); have HSZ := Lib.hid (show B ≤ y1.heap.size by have h4 := HB2.out.size; have h5 := HB.out.size; have h6 := HBB.out; omega); clear hp)
            | (at_builtin; refine wpList_append_any _ rfl (.tmp 25) (.tmp 28) _ rfl B 9 i0 (.string ⟨#[]⟩) 1 16 Tryz.underlying27 hi0 hz0 hzz1 hzz2 rfl (by decide) (.slice A8 q c8) q (txC (tPre H k)) rfl (World.ownsRow.alloc HOW.out _) _ (some ⟨y1.heap.size, 0, none⟩) 1 1 [.string X] rfl (Reads.of_own (World.ownsRow_lit (base := 0) (e := 9) (size := 1) y1 #[.string X] 1 (Nat.zero_le _) (by decide) rfl)) (by simp [Value.oneCell']) (by simp only [maxLen]; omega) (by omega) (by have := HSZ.out; simp; omega) ?_; intro v3 w3 hown3 hg3 hat3; obtain ⟨A3, c3, hv3, -, -⟩ := own_form hown3; subst hv3; have HT3 := Lib.hid (show TxNew B w3 (.slice A3 (q + 1) c3) (tPre H (k + 1)) by rw [E1.out]; refine TxNew.push ?_; rw [HQ.out]; have e8 : txC [(x1, true, br).1] = [.string X] := by { unfold txC; rw [← HXX.out]; rfl }; rw [e8]; exact hown3); have HB3 := Lib.hid (show Below w1.heap.size w1 w3 from ((bnext HB.out HB2.out).alloc (by have h4 := HSZ.out; have h6 := HBB.out; omega) _).grown hg3 (by have h4 := HSZ.out; have h6 := HBB.out; simp; omega) (fun j hj => by have h7 := own_lt2 HOW.out hj; have h6 := HBB.out; omega)); clear hown3 hg3 hat3))
          go_roundw
          case rel => exact ⟨k + 1, q + 1, A3, c3, by go_num, by omega, rfl, by omega, by rw [E1.out, List.length_append, HQ.out]; rfl, HT3.out, HB3.out⟩
          case measure => simp [intOf]; omega
    · obtain rfl : k = n := by omega
      have HE := Lib.hid (show tPre H k = R by rw [← HP.out, HN.out])
      as_aux_lemma =>
        go_wp2
        go_ret2
        exact ⟨_, rfl, by rw [← HE.out]; exact HT.out.mono (by have := HB1.out.size; have := HBB.out; omega), bnext HB1.out HB.out⟩
end IP
end Go.Proofs.YtbfbjalnahngjaaGreatDoor
namespace Go.Proofs.YtbfbjalnahngjaaGreatDoor
open Go.RowKit GR IP
theorem toList_same {X Y : ByteArray} : (X.toList == Y.toList) = decide (X = Y) := by
  rw [Bool.eq_iff_iff, decide_eq_true_eq, beq_iff_eq]
  constructor
  · intro h
    rw [ByteArray.toList_eq, ByteArray.toList_eq] at h
    rw [← str_bs X, ← str_bs Y]
    unfold bs
    rw [h]
  · rintro rfl; rfl
theorem str_same {t : List Nat} (ht : ∀ c ∈ t, c < 256) (p : ByteArray) : ((str t).toList == p.toList) = decide (t = bs p) := by
  rw [toList_same]
  congr 1
  rw [eq_iff_iff]
  exact ⟨fun h => by rw [← h, bs_str ht], fun h => by rw [h, str_bs]⟩
namespace TR
set_option maxRecDepth 100000 in
set_option maxHeartbeats 1000000 in
theorem rhas_c (v : Value) (l : List (List Nat)) (hl : l.length ≤ 100000) (hb : ∀ t ∈ l, ∀ c ∈ t, c < 256) (p : ByteArray) (w : World) (f : TxOut w v l) :
    Calls Tryz.prog 16 #[v, .string p] w fun e w' => e = .returned (.bool (decide (bs p ∈ l))) ∧ w' = w := by
  obtain ⟨A, c, rfl, hc, hx⟩ := f
  obtain ⟨n, hn⟩ : ∃ n, l.length = n := ⟨_, rfl⟩
  obtain ⟨d, hd⟩ : ∃ d, decide (bs p ∈ l) = d := ⟨_, rfl⟩
  have HX := Lib.hid hx; have HN := Lib.hid hn; have HD := Lib.hid hd; have HB := Lib.hid hb
  rw [hn] at hl hc ⊢
  rw [hd]
  clear hx hn hd hb
  go_enter Tryz.func16, Tryz.ntmps16
  go_wp2_with fail
  go_loopw [5] (fun v5 wr => ∃ k : Nat, v5 = .int .i64 (k : Nat) ∧ k ≤ n ∧ wr = w ∧ Hid (bs p ∉ l.take k)) (fun v5 _ => n - (intOf v5).toNat)
  case atStart => exact ⟨0, rfl, Nat.zero_le _, rfl, fun h => absurd h (by simp)⟩
  case round =>
    obtain ⟨k, rfl, hk, rfl, HK⟩ := hrel
    by_cases hlt : k < n
    · have hki : (k : Int) < (n : Int) := by omega
      have hkl : k < l.length := by rw [HN.out]; exact hlt
      obtain ⟨g, rfl, ha⟩ := HX.out (by intro e; rw [e] at hkl; exact absurd hkl (Nat.not_lt_zero _))
      have hp := List.getElem?_eq_getElem hkl
      obtain ⟨q, hq⟩ : ∃ q, l[k] = q := ⟨_, rfl⟩
      rw [hq] at hp
      have hcm := str_same (HB.out q (List.mem_of_getElem? hp)) p
      have z1 := ha k q hp
      have HTK := Lib.hid (take_snoc' hp)
      have HM := Lib.hid (List.mem_of_getElem? hp)
      obtain ⟨X, hX⟩ : ∃ X, str q = X := ⟨_, rfl⟩
      rw [hX] at z1 hcm
      clear hX hp hq ha
      by_cases he : q = bs p
      · rw [decide_eq_true he] at hcm
        have HE := Lib.hid (show true = d by rw [← HD.out, ← he, decide_eq_true HM.out])
        clear he
        as_aux_lemma =>
          go_wp2
          go_ret
          exact ⟨congrArg (fun z => Ending.returned (.bool z)) HE.out, by trivial⟩
      · rw [decide_eq_false he] at hcm
        have HK2 := Lib.hid (show bs p ∉ l.take (k + 1) from fun h => by
          rw [HTK.out] at h
          rcases List.mem_append.1 h with h | h
          · exact HK.out h
          · exact he (List.mem_singleton.1 h).symm)
        clear he
        as_aux_lemma =>
          go_wp2
          go_roundw
          case rel => exact ⟨k + 1, by go_num, by omega, by trivial, HK2.out⟩
          case measure => simp [intOf]; omega
    · obtain rfl : k = n := by omega
      have HE := Lib.hid (show false = d by
        rw [← HD.out, decide_eq_false]
        have h := HK.out
        rw [← HN.out, List.take_length] at h
        exact h)
      as_aux_lemma =>
        go_wp2
        go_ret
        exact ⟨congrArg (fun z => Ending.returned (.bool z)) HE.out, by trivial⟩
/-- What a Delete of nothing says. -/
def tNo (s : List Nat) (E : Int) : Prop := (tRight s = true → E = 15) ∧ (tRight s = false → E = 13)
theorem tNo_unique {s : List Nat} {E E' : Int} (h : tNo s E) (h' : tNo s E') : E = E' := by
  cases hr : tRight s with
  | true => rw [h.1 hr, h'.1 hr]
  | false => rw [h.2 hr, h'.2 hr]
set_option maxRecDepth 100000 in
theorem rdelete_nil (p : ByteArray) (hp : p.size ≤ 100000) (w : World) : Calls Tryz.prog 11 #[.slice none 0 0, .string p] w fun e w' => ∃ E, e = .returned (.tuple #[.slice none 0 0, .int .i64 E]) ∧ tNo (bs p) E ∧ Below w.heap.size w w' := by
  have RC := rright_c p hp w
  have HC := Lib.hid (fun (W : World) => rhas_c (.slice none 0 0) [] (by simp) (fun _ h => absurd h (by simp)) p W ⟨none, 0, rfl, Nat.le_refl _, fun h => absurd rfl h⟩)
  rw [decide_eq_false (show ¬ bs p ∈ [] by simp)] at HC
  cases hr : tRight (bs p) with
  | true =>
    rw [hr] at RC
    have HE := Lib.hid (show tNo (bs p) 15 from ⟨fun _ => rfl, fun h => by rw [hr] at h; cases h⟩)
    have HRC := Lib.hid RC
    clear RC hr
    go_enter Tryz.func11, Tryz.ntmps11
    go_wp2_with fail
    refine HRC.out.mono ?_; rintro _ w1 ⟨rfl, hb1⟩
    have HB1 := Lib.hid hb1
    clear hb1
    go_wp2_with fail
    refine (HC.out w1).mono ?_; rintro _ w2 ⟨rfl, rfl⟩
    go_wp2
    go_ret2
    exact ⟨15, rfl, HE.out, HB1.out⟩
  | false =>
    rw [hr] at RC
    have HE := Lib.hid (show tNo (bs p) 13 from ⟨fun h => (by rw [hr] at h; cases h), fun _ => rfl⟩)
    have HRC := Lib.hid RC
    clear RC hr
    go_enter Tryz.func11, Tryz.ntmps11
    go_wp2_with fail
    refine HRC.out.mono ?_; rintro _ w1 ⟨rfl, hb1⟩
    have HB1 := Lib.hid hb1
    clear hb1
    go_wp2
    go_ret2
    exact ⟨13, rfl, HE.out, HB1.out⟩
set_option maxRecDepth 100000 in
set_option maxHeartbeats 1000000 in
theorem hits_c {v1 v2 : Value} {H : List Hit3} (hl : H.length ≤ 100000) {w : World} (f1 : HtOut w v1 H) (f2 : HtOut w v2 H) :
    Calls Tryz.prog 25 #[v1, v2] w fun e w' => e = .returned (.bool true) ∧ Below w.heap.size w w' := by
  obtain ⟨A1, c1, rfl, hc1, _⟩ := id f1
  obtain ⟨A2, c2, rfl, hc2, _⟩ := id f2
  have F1 := Lib.hid f1; have F2 := Lib.hid f2
  clear f1 f2
  obtain ⟨n, hn⟩ : ∃ n, H.length = n := ⟨_, rfl⟩
  have HN := Lib.hid hn
  rw [hn] at hl hc1 hc2 F1 F2 ⊢
  clear hn
  go_enter Tryz.func25, Tryz.ntmps25
  go_wp2
  go_loopw [5] (fun i wr => ∃ k : Nat, k ≤ n ∧ i = .int .i64 k ∧ Hid (Below w.heap.size w wr)) (fun i _ => n - (intOf i).toNat)
  case atStart => exact ⟨0, Nat.zero_le _, rfl, Below.refl _ _⟩
  case round =>
    obtain ⟨k, hk, rfl, HI⟩ := hrel
    by_cases hlt : k < n
    · have hkl : k < H.length := by rw [HN.out]; exact hlt
      have hne : H ≠ [] := by intro e; rw [e] at hkl; exact absurd hkl (Nat.not_lt_zero _)
      obtain ⟨A, c, hv, _, hx⟩ := F1.out.below HI.out
      obtain ⟨A', c', hv', _, hx'⟩ := F2.out.below HI.out
      injection hv with e1 e2 e3; subst e1; clear e2 e3
      injection hv' with e1 e2 e3; subst e1; clear e2 e3
      obtain ⟨b1, rfl, a1⟩ := hx hne
      obtain ⟨b2, rfl, a2⟩ := hx' hne
      have hp := List.getElem?_eq_getElem hkl
      obtain ⟨y1, y2, y3⟩ := a1 k _ hp
      obtain ⟨x1, x2, x3⟩ := a2 k _ hp
      generalize H[k] = t at *
      obtain ⟨t1, t2, t3⟩ := t
      generalize str t1 = T at *
      clear hp a1 a2 hx hx' hkl hne
      go_wp2
      go_region
      go_wp2
      go_roundw
      case rel => exact ⟨k + 1, by omega, by go_num, Below.drew HI.out⟩
      case measure => simp [intOf]; omega
    · obtain rfl : k = n := by omega
      go_wp2
      go_ret
      exact ⟨rfl, HI.out⟩
end TR
namespace IP
open TP
set_option maxRecDepth 100000 in
set_option maxHeartbeats 1000000 in
/-- A Delete of a path that isn't held. -/
theorem delete_no {N : Nat} {w : World} {v : Value} {F : Nat → Prop} {l : List (List Nat)} (h : TrV N w v F l) (p : ByteArray) (hp : p.size ≤ 100000) (hno : bs p ∉ l) (hm : Ml w) :
    Calls Tryz.prog 10 #[v, .string p] w fun e w' => ∃ E, e = .returned (.int .i64 E) ∧ TR.tNo (bs p) E ∧ Below w.heap.size w w' := by
  have SC := split_c p hp w hm
  obtain ⟨s, hs⟩ : ∃ s, bs p = s := ⟨_, rfl⟩
  rw [hs] at SC hno ⊢
  clear hm hp hs
  have TC := Lib.hid (fun (W : World) (hb : Below w.heap.size w W) => top_c (h.below hb))
  by_cases hr : tRight s = true
  · rw [tPErr_right hr] at SC
    have HSC := Lib.hid SC
    have HO := Lib.hid (fun (W : World) (b : Nat) (F' : Nat → Prop) (hn : NdAt N W 8 b F' (Sof l)) (v : Value) (tv : TxOut W v (tCut s 8)) => holds_c 8 N b F' (Sof l) (tCut s 8) (cut_bytes hr) (by have := (tRight_names hr).1; omega) v W hn tv)
    rw [sof_cut, decide_eq_false hno] at HO
    have HE := Lib.hid (show TR.tNo s 15 from ⟨fun _ => rfl, fun h => by rw [hr] at h; cases h⟩)
    clear SC hr h hno
    as_aux_lemma =>
      go_enter Tryz.func10, Tryz.ntmps10
      go_wp2_with fail
      refine HSC.out.mono ?_; rintro _ w1 ⟨u, rfl, hv, _, hb1⟩
      have HB1 := Lib.hid hb1
      have T1 := Lib.hid (TC.out w1 hb1)
      have HV := Lib.hid (TxOut.of (hv (by first | rfl | trivial)))
      clear hv hb1
      go_wp2_with fail
      refine T1.out.mono ?_; rintro _ w2 ⟨b, F', rfl, hn2, _, _, hb2⟩
      have HB2 := Lib.hid (bnext HB1.out hb2)
      have H2 := Lib.hid (HO.out w2 b F' hn2 u (HV.out.below hb2))
      clear hn2 hb2
      go_wp2_with fail
      refine H2.out.mono ?_; rintro _ w3 ⟨rfl, rfl⟩
      go_wp2
      go_ret
      exact ⟨15, rfl, HE.out, HB2.out⟩
  · rw [tPErr_wrong hr] at SC
    have HSC := Lib.hid SC
    have HE := Lib.hid (show TR.tNo s 13 from ⟨fun h => absurd h hr, fun _ => rfl⟩)
    clear SC hr h hno
    as_aux_lemma =>
      go_enter Tryz.func10, Tryz.ntmps10
      go_wp2_with fail
      refine HSC.out.mono ?_; rintro _ w1 ⟨u, rfl, _, _, hb1⟩
      have HB1 := Lib.hid hb1
      have T1 := Lib.hid (TC.out w1 hb1)
      clear hb1
      go_wp2_with fail
      refine T1.out.mono ?_; rintro _ w2 ⟨b, F', rfl, _, _, _, hb2⟩
      have HB2 := Lib.hid (bnext HB1.out hb2)
      clear hb2
      go_wp2
      go_ret
      exact ⟨13, rfl, HE.out, HB2.out⟩
end IP
end Go.Proofs.YtbfbjalnahngjaaGreatDoor
namespace Go.Proofs.YtbfbjalnahngjaaGreatDoor
open Go.RowKit GR IP
def aB : List Nat := [97, 46, 98]
def aC : List Nat := [97, 46, 99]
def aCD : List Nat := [97, 46, 99, 46, 100]
def aStar : List Nat := [97, 46, 42]
theorem alive_right : tRight aB = true ∧ tRight aC = true ∧ tRight aCD = true := by decide
theorem alive_bld : tBld [] [aB, aCD, aC] = ([aB, aC, aCD], 0) := by decide
theorem star_all : gErr [42] = 0 ∧ gMatch [42] [98] = true ∧ gMatch [42] [99] = true := by
  have h := fun n => ofA_match (e := [.star]) (fun a ha => by
    obtain rfl := List.mem_singleton.1 ha
    exact trivial) (by simp) (by decide) n
  exact ⟨(h [98]).1, (h [98]).2.trans (by decide), (h [99]).2.trans (by decide)⟩
theorem star_cut : tCut aStar 8 = [[97], [42]] := by decide
theorem star_err : tErr aStar = 0 := by
  unfold tErr
  rw [star_cut]
  refine (if_neg (by decide)).trans (tFirst_zero.2 fun p hp => ?_)
  rcases List.mem_cons.1 hp with rfl | hp
  · exact (plain_fit (p := [97]) (by decide) (by decide) []).1
  · obtain rfl := List.mem_singleton.1 hp
    exact star_all.1
theorem star_two (c : Nat) (hr : tRight [97, 46, c] = true) (hc : tCut [97, 46, c] 8 = [[97], [c]]) (hm : gMatch [42] [c] = true) : tMatch aStar [97, 46, c] = true := by
  unfold tMatch
  rw [star_err, hr, star_cut, hc]
  show (true && true && (true && tTo _ _ 2)) = true
  rw [tTo_succ, tTo_succ]
  show (true && true && (true && ((true && gMatch [97] [97]) && gMatch [42] [c]))) = true
  rw [hm, (plain_fit (p := [97]) (by decide) (by decide) [97]).2]
  rfl
theorem star_len {x : List Nat} (h : (tCut x 8).length ≠ 2) : tMatch aStar x = false := by
  unfold tMatch tFit
  rw [star_cut, decide_eq_false (show ¬ ([[97], [42]] : List (List Nat)).length = (tCut x 8).length from fun e => h e.symm), Bool.false_and, Bool.and_false]
theorem alive_found : tFound [aB, aC, aCD] aStar = [aB, aC] := by
  unfold tFound
  rw [List.filter_cons, show tMatch aStar aB = true from star_two 98 (by decide) (by decide) star_all.2.1, if_pos rfl, List.filter_cons, show tMatch aStar aC = true from star_two 99 (by decide) (by decide) star_all.2.2, if_pos rfl, List.filter_cons, star_len (x := aCD) (by decide), if_neg (by decide)]
  rfl
theorem longer_ab {x y : List Nat} (h : aB = x ++ 46 :: y) : x = [97] := by
  unfold aB at h
  match x, h with
  | [], h => simp at h
  | [a], h => simp at h; rw [h.1]
  | [a, b], h => simp at h
  | a :: b :: c :: r, h => simp at h
theorem longer_ac {x y : List Nat} (h : aC = x ++ 46 :: y) : x = [97] := by
  unfold aC at h
  match x, h with
  | [], h => simp at h
  | [a], h => simp at h; rw [h.1]
  | [a, b], h => simp at h
  | a :: b :: c :: r, h => simp at h
theorem longer_acd {x y : List Nat} (h : aCD = x ++ 46 :: y) : x = [97] ∨ x = aC := by
  unfold aCD at h
  match x, h with
  | [], h => simp at h
  | [a], h => simp at h; left; rw [h.1]
  | [a, b], h => simp at h
  | [a, b, c], h => simp at h; right; rw [← h.1, ← h.2.1, ← h.2.2.1]; rfl
  | [a, b, c, d], h => simp at h
  | a :: b :: c :: d :: e :: r, h => simp at h
theorem longer_iff (x : List Nat) : Longer [aB, aC, aCD] x ↔ x = [97] ∨ x = aC := by
  constructor
  · rintro ⟨t, ht, y, e⟩
    rcases List.mem_cons.1 ht with rfl | ht
    · exact .inl (longer_ab e)
    · rcases List.mem_cons.1 ht with rfl | ht
      · exact .inl (longer_ac e)
      · obtain rfl := List.mem_singleton.1 ht
        exact longer_acd e
  · rintro (rfl | rfl)
    · exact ⟨aB, by simp, [98], rfl⟩
    · exact ⟨aCD, by simp, [100], rfl⟩
theorem alive_hits : HitsOf [aB, aC, aCD] aStar [(aB, true, false), (aC, true, true)] := by
  have m1 : tMatch aStar aB = true := star_two 98 (by decide) (by decide) star_all.2.1
  have m2 : tMatch aStar aC = true := star_two 99 (by decide) (by decide) star_all.2.2
  refine ⟨?_, fun x => ?_, fun h hh => ?_⟩
  · show Up [aB, aC]
    exact List.Pairwise.cons (fun t ht => by obtain rfl := List.mem_singleton.1 ht; decide) (List.pairwise_singleton _ _)
  · show x ∈ [aB, aC] ↔ _
    rw [longer_iff]
    constructor
    · intro hx
      rcases List.mem_cons.1 hx with rfl | hx
      · exact ⟨m1, .inl (by simp)⟩
      · obtain rfl := List.mem_singleton.1 hx
        exact ⟨m2, .inl (by simp)⟩
    · rintro ⟨hm, hx⟩
      rcases hx with hx | hx
      · rcases List.mem_cons.1 hx with rfl | hx
        · simp
        · rcases List.mem_cons.1 hx with rfl | hx
          · simp
          · obtain rfl := List.mem_singleton.1 hx
            rw [star_len (x := aCD) (by decide)] at hm
            cases hm
      · rcases hx with rfl | rfl
        · rw [star_len (x := [97]) (by decide)] at hm
          cases hm
        · simp
  · rcases List.mem_cons.1 hh with rfl | hh
    · refine ⟨by decide, ?_⟩
      show false = true ↔ Longer _ aB
      rw [longer_iff]
      decide
    · obtain rfl := List.mem_singleton.1 hh
      refine ⟨by decide, ?_⟩
      show true = true ↔ Longer _ aC
      rw [longer_iff]
      decide
end Go.Proofs.YtbfbjalnahngjaaGreatDoor
