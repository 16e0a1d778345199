/-
  The contract of package span's edge: the edge with a number.
-/
import Derived.Test.YteijhnfciiblmaaSMem
import Derived.Test.YteijhnfciiblmaaSMerge
namespace Go.Proofs.Yteijhnfciiblmaa
open Go.RowKit

theorem edge_even {l : List Sn} {m : Nat} {s : Sn} (h : l[m]? = some s) {k : Nat} (hk : k = 2 * m) : edgeA l k = s.lo := by
  subst hk
  have h1 : 2 * m / 2 = m := by omega
  have h2 : 2 * m % 2 = 0 := by omega
  simp [edgeA, h1, h2, h]
theorem edge_odd {l : List Sn} {m : Nat} {s : Sn} (h : l[m]? = some s) {k : Nat} (hk : k = 2 * m + 1) : edgeA l k = s.hi := by
  subst hk
  have h1 : (2 * m + 1) / 2 = m := by omega
  have h2 : (2 * m + 1) % 2 = 1 := by omega
  simp [edgeA, h1, h2, h]

set_option maxRecDepth 4000 in
set_option maxHeartbeats 4000000 in
theorem edge_any {w : World} {v : Value} {rs : List Sn} (h : SpansIs w v rs) (hl : rs.length ≤ 65537) (k : Nat) (hk : k ≤ 1000000) :
    Calls Try.prog 49 #[v, .int .i64 k] w fun e w' => e = .returned (.int .i64 (edgeA rs k)) ∧ w' = w := by
  obtain ⟨a, n, cap, rfl, hn, hcap⟩ := h.slice
  have hn1 : (n : Int) ≤ 65537 := by omega
  have hk1 : (k : Int) ≤ 1000000 := by omega
  by_cases hc : 2 * n ≤ k
  · have hcI : 2 * (n : Int) ≤ (k : Int) := by omega
    have HE : Hid (edgeA rs k = 65537) := edge_end (by omega)
    clear h hl hn hk hc
    go_enter Try.func49, Try.ntmps49
    go_wp2_with fail
    go_ret
    exact ⟨ret_int HE.out.symm, rfl⟩
  · have hcI : ¬ 2 * (n : Int) ≤ (k : Int) := by omega
    obtain ⟨m, hm⟩ : ∃ m, m = k / 2 := ⟨_, rfl⟩
    obtain ⟨s, b, off, hs, rfl, hat⟩ := h.at (k := m) (by omega)
    have hq : (k : Int) / 2 = (m : Int) := by omega
    have hmI : (m : Int) < (n : Int) := by omega
    have c0 := hat.c0
    have c1 := hat.c1
    by_cases hp : k % 2 = 0
    · have hr : (k : Int) % 2 = 0 := by omega
      have HE : Hid (edgeA rs k = s.lo) := edge_even hs (by omega)
      clear h hl hn hk hc hat hp hm hs
      go_enter Try.func49, Try.ntmps49
      go_wp2_with fail
      go_ret
      exact ⟨ret_int HE.out.symm, rfl⟩
    · have hr : (k : Int) % 2 = 1 := by omega
      have HE : Hid (edgeA rs k = s.hi) := edge_odd hs (by omega)
      clear h hl hn hk hc hat hp hm hs
      go_enter Try.func49, Try.ntmps49
      go_wp2_with fail
      go_ret
      exact ⟨ret_int HE.out.symm, rfl⟩
end Go.Proofs.Yteijhnfciiblmaa
