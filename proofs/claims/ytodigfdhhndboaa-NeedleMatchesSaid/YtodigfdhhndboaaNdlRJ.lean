/-
  Contracts of the document's own functions of layer 9: Compile, all.
-/
import Derived.Test.YtodigfdhhndboaaNdlRJa
import Derived.Test.YtodigfdhhndboaaNdlRJb
set_option linter.unusedSimpArgs false
set_option linter.unusedVariables false
namespace Go.Proofs.Ytodigfdhhndboaa.NR
open Go.RowKit
theorem compile_c (p : ByteArray) (hp : p.size ≤ 9223372036854775807) (w : World) :
    Calls Try.prog 11 #[.string p] w fun e w' => ∃ v, e = .returned (.tuple #[v, .int .i64 (ndComp (bs p)).2]) ∧ NnOut w' v (ndComp (bs p)).1 ∧ (ndComp (bs p)).1.ok ∧ (ndComp (bs p)).1.items.length ≤ 64 ∧ Below w.heap.size w w' := by
  by_cases hl : 64 < p.size
  · obtain ⟨N, E, hN⟩ : ∃ N E, ndComp (bs p) = (N, E) := ⟨_, _, rfl⟩
    rw [hN]
    rw [ndComp_long (by rw [bs_length]; exact hl)] at hN
    injection hN with h1 h2
    subst h1 h2
    go_enter Try.func11, Try.ntmps11
    go_wp2_with (refine wpList_put rfl 29 _ _ rfl w.heap.size [.bool false, .bool false, .slice none 0 0] rfl rfl (dvar_first _ _ _ _) (by kernel_rfl) (by simp [Value.oneCell']) ?_; intro y9 hq9; obtain ⟨s0, s1, s2⟩ := hq9.at_.three)
    exact bodyPost_ret (v := .tuple #[.agg #[.bool false, .bool false, .slice none 0 0], .int .i64 12]) (by simp [results, Try.results11, go_sem, s0, s1, s2]) rfl ⟨_, rfl, ⟨_, rfl, ItOut.nil _⟩, (fun i h => by cases h), Nat.zero_le _, hq9.below (Nat.le_refl _) (alloc2_below _ _ _)⟩
  · by_cases h0 : 0 < p.size
    · obtain ⟨c, hd, e0, hc⟩ := bs_at h0
      rw [List.drop_zero] at hd
      by_cases h94 : c = 94
      · subst h94
        exact comp_y p hl h0 (by rw [hd]; rfl) (by rw [hd]; rfl) e0 w
      · exact comp_n p hl h0 c h94 (by rw [hd]; exact if_neg (fun e => h94 (eq_of_beq e))) (by rw [hd]; exact beq_false_of_ne h94) e0 w
    · have hz : p.size = 0 := by omega
      have hb : bs p = [] := List.eq_nil_of_length_eq_zero (by rw [bs_length]; exact hz)
      exact comp_e p hl hz (by rw [hb]; rfl) (by rw [hb]; rfl) w
end Go.Proofs.Ytodigfdhhndboaa.NR
