/-
  The contract of package runs' end: where runs end.
-/
import Derived.Test.YtlohljefhcidkaaUMem
namespace Go.Proofs.Ytlohljefhcidkaa
open Go.RowKit

set_option maxRecDepth 4000 in
set_option maxHeartbeats 1000000 in
theorem end_any {w : World} {v : Value} {rs : List Rn} (h : RunsIs w v rs) (hc : Chain rs) :
    Calls Try.prog 21 #[v] w fun e w' => e = .returned (.int .i64 (endR rs)) ∧ Below w.heap.size w w' := by
  obtain ⟨a, n, cap, rfl, hl, hcap⟩ := h.slice
  cases n with
  | zero =>
    obtain rfl := List.eq_nil_of_length_eq_zero hl
    clear h hc hl
    go_enter Try.func21, Try.ntmps21
    go_wp2
    go_ret
    exact ⟨rfl, Below.refl _ _⟩
  | succ m =>
    obtain ⟨p, r, rfl, hp⟩ := list_snoc hl
    obtain ⟨b, off, rfl, hall⟩ := h.some (by simp)
    have hr := hall m r (by rw [← hp]; simp)
    have hbd := run_bd hc (k := m) (r := r) (by rw [← hp]; simp)
    have hlt := hr.lt
    have q0 := hr.c0
    have q1 := hr.c1
    have q2 := hr.c2
    have HE : Hid (endR (p ++ [r]) = r.f + r.c) := endR_snoc p r
    obtain ⟨f, hf⟩ : ∃ f, f = r.f := ⟨_, rfl⟩
    obtain ⟨c, hcc⟩ : ∃ c, c = r.c := ⟨_, rfl⟩
    obtain ⟨z, hz⟩ : ∃ z, z = r.v.toInt := ⟨_, rfl⟩
    rw [← hf] at q1 hbd HE
    rw [← hcc] at q2 hbd HE
    rw [← hz] at q0
    have hm : (m : Int) ≤ 65536 := by have := chain_len hc; omega
    have hf0 : 0 ≤ f ∧ 0 ≤ c ∧ f + c ≤ 65536 := by omega
    have hw : IntKind.i64.wrap (f + c) = f + c := by rw [IntKind.wrap_i64]; omega
    clear h hc hl hall hr hbd hf hcc hz hp
    go_enter Try.func21, Try.ntmps21
    go_wp2
    rw [HE.out]
    go_ret
    exact ⟨rfl, below1 _ _⟩
end Go.Proofs.Ytlohljefhcidkaa
