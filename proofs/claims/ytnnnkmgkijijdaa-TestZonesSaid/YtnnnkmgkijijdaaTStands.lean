/-
  The contract of package test's stands.
-/
import Derived.Test.YtnnnkmgkijijdaaTMay
namespace Go.Proofs.Ytnnnkmgkijijdaa
open Go.RowKit

/-- Cells that are the same, or differ. -/
theorem same_cases (a b : Cl) : (a = b ∧ cmpC a b = 0) ∨ (cmpC a b ≠ 0 ∧ ((a.k == b.k) = false ∨ (a.k = b.k ∧ (a.n == b.n) = false) ∨ (a.k = b.k ∧ a.n = b.n ∧ (a.s.toList == b.s.toList) = false))) := by
  by_cases h : a = b
  · exact .inl ⟨h, (cmpC_zero a b).2 h⟩
  · refine .inr ⟨fun e => h ((cmpC_zero a b).1 e), ?_⟩
    by_cases h1 : a.k = b.k
    · by_cases h2 : a.n = b.n
      · exact .inr (.inr ⟨h1, h2, by simpa using fun h3 => h (cl_ext h1 h2 h3)⟩)
      · exact .inr (.inl ⟨h1, by simpa using h2⟩)
    · exact .inl (by simpa using h1)

set_option maxRecDepth 4000 in
set_option maxHeartbeats 8000000 in
theorem stands_any (c : Cl) (t : Ts) (w : World) :
    Calls Try.prog 27 #[cv c, tv t] w fun e w' => e = .returned (.bool (standB t.op (cmpC c t.v))) ∧ Below w.heap.size w w' := by
  obtain ⟨op, v⟩ := t
  have hc : ∀ w, Calls Try.prog 31 #[cv c, cv v] w fun e w' => e = .returned (.int .i64 (cmpC c v)) ∧ Below w.heap.size w w' := fun w => compare_any c v w
  have hb3 := cmpC_bd c v
  rcases same_cases c v with ⟨rfl, h0⟩ | ⟨h0, hd⟩
  · obtain ⟨ck, cn, cs⟩ := c
    simp only [cv] at hc ⊢
    rw [h0] at hc ⊢
    clear hb3 h0
    rcases op_cases op with rfl | rfl | rfl | rfl | rfl | rfl | rfl | rfl | ⟨o1, o2, o3, o4, o5, o6, o7, o8⟩
    iterate 8
      · go_enter Try.func27, Try.ntmps27
        go_wp2_with (go_at_call 31; refine (hc _).mono ?_; rintro e w1 ⟨rfl, hb1⟩; obtain ⟨b0, b1, hB⟩ := two_box hb1; clear hb1)
        go_ret
        first
          | exact ⟨retB (by decide), hB⟩
          | exact ⟨retB (by decide), below2 _ _ _⟩
    · have HE : Hid (standB op 0 = false) := by
        simp only [beq_eq_false_iff_ne] at *
        unfold Hid standB
        simp [*]
      go_enter Try.func27, Try.ntmps27
      go_wp2_with fail
      go_ret
      exact ⟨retB HE.out, below2 _ _ _⟩
  · obtain ⟨ck, cn, cs⟩ := c
    obtain ⟨vk, vn, vs⟩ := v
    simp only [cv] at hc ⊢
    obtain ⟨x, hx⟩ : ∃ x, x = cmpC ⟨ck, cn, cs⟩ ⟨vk, vn, vs⟩ := ⟨_, rfl⟩
    rw [← hx] at hc h0 hb3 ⊢
    clear hx
    have hx2 : x = -1 ∨ x = 1 := by omega
    clear hb3 h0
    simp only at hd
    rcases hd with hd | ⟨hk, hd⟩ | ⟨hk, hn, hd⟩ <;> rcases hx2 with rfl | rfl
    all_goals
      try subst hk
      try subst hn
      rcases op_cases op with rfl | rfl | rfl | rfl | rfl | rfl | rfl | rfl | ⟨o1, o2, o3, o4, o5, o6, o7, o8⟩
      iterate 8
        · go_enter Try.func27, Try.ntmps27
          go_wp2_with (go_at_call 31; refine (hc _).mono ?_; rintro e w1 ⟨rfl, hb1⟩; obtain ⟨b0, b1, hB⟩ := two_box hb1; clear hb1)
          go_ret
          first
            | exact ⟨retB (by decide), hB⟩
            | exact ⟨retB (by decide), below2 _ _ _⟩
      · have HE : ∀ x, standB op x = false := by
          intro x
          simp only [beq_eq_false_iff_ne] at *
          unfold standB
          simp [*]
        have HE : Hid (∀ x, standB op x = false) := HE
        go_enter Try.func27, Try.ntmps27
        go_wp2_with fail
        go_ret
        exact ⟨retB (HE.out _), below2 _ _ _⟩
end Go.Proofs.Ytnnnkmgkijijdaa
