/-
  The contracts of package bits' Width and Ones.
-/
import Derived.Test.YtlohljefhcidkaaBitsA
import Derived.Deep.LoopGhost
namespace Go.Proofs.Ytlohljefhcidkaa
open Go.RowKit

/-- n is how many bits x needs. -/
def IsWidth (x : BitVec 64) (n : Nat) : Prop := n ≤ 64 ∧ x >>> n = 0#64 ∧ ∀ j, j < n → x >>> j ≠ 0#64
theorem IsWidth.unique {x : BitVec 64} {n m : Nat} (h : IsWidth x n) (k : IsWidth x m) : n = m := by
  rcases Nat.lt_trichotomy n m with a | a | a
  · exact absurd h.2.1 (k.2.2 n a)
  · exact a
  · exact absurd k.2.1 (h.2.2 m a)
theorem shr_beq (x : BitVec 64) (k : Nat) : ((x.toNat : Int) / 2 ^ k == 0) = (x >>> k == 0#64) := by
  have e : (0 : Int) = ((0#64).toNat : Int) := rfl
  rw [Wd.u64_shr, e, Bool.eq_iff_iff]
  rw [beq_iff_eq, beq_iff_eq, Wd.u64_inj]
set_option maxHeartbeats 400000 in
theorem width_any (x : BitVec 64) (w : World) :
    Calls Try.prog 41 #[.int .i64 x.toInt] w fun e w' => (∃ n : Nat, IsWidth x n ∧ e = .returned (.int .i64 n)) ∧ w' = w := by
  have r1 : IntKind.u64.wrap x.toInt = (x.toNat : Int) := Wd.u64_toInt x
  go_enter Try.func41, Try.ntmps41
  go_wp2
  go_loopg [3, 4] 64 (fun g s3 s4 wx => ∃ k : Nat, k + g = 64 ∧ s4 = .int .i64 k ∧ (∀ j, j < k → x >>> j ≠ 0#64) ∧ wx = w)
  case atStart => exact ⟨0, by omega, rfl, fun j hj => by omega, rfl⟩
  case round =>
    obtain ⟨k, hkg, rfl, hlow, rfl⟩ := hrel
    cases gk with
    | zero =>
      obtain rfl : k = 64 := by omega
      have HL : Hid (∀ j, j < 64 → x >>> j ≠ 0#64) := hlow
      clear hlow
      go_wp2
      go_ret
      exact ⟨⟨64, ⟨by omega, BitVec.ushiftRight_eq_zero (by omega), HL.out⟩, rfl⟩, rfl⟩
    | succ g =>
      have hk : (k : Int) < 64 := by omega
      have m1 : min k 64 = k := by omega
      have HL : Hid (∀ j, j < k → x >>> j ≠ 0#64) := hlow
      clear hlow
      by_cases hz : x >>> k = 0#64
      · have r4 : ((x.toNat : Int) / 2 ^ k == 0) = true := by rw [shr_beq]; simpa using hz
        have HZ : Hid (x >>> k = 0#64) := hz
        clear hz
        go_wp2
        go_ret
        exact ⟨⟨k, ⟨by omega, HZ.out, HL.out⟩, rfl⟩, rfl⟩
      · have r4 : ((x.toNat : Int) / 2 ^ k == 0) = false := by rw [shr_beq]; simpa using hz
        have HZ : Hid (x >>> k ≠ 0#64) := hz
        clear hz
        go_wp2
        go_roundg g
        case measure => omega
        case rel =>
          refine ⟨k + 1, by omega, by go_num, fun j hj => ?_, rfl⟩
          by_cases h : j = k
          · rw [h]; exact HZ.out
          · exact HL.out j (by omega)
end Go.Proofs.Ytlohljefhcidkaa
