/-
  The contracts of package check's tail, Seal and Open.
-/
import Derived.Test.YtmmmfeafoefdpaaCMore
import Derived.Test.YtmmmfeafoefdpaaBRow
import Derived.Test.YtmmmfeafoefdpaaCalm
import Derived.Deep.RegionWith
namespace Go.Proofs.Ytmmmfeafoefdpaa
open Go.RowKit

/-- The bytes of a sum that are laid already, k of them. -/
def part (n : BitVec 32) (k : Nat) : List UInt8 := (List.range 4).map fun i => if i < k then UInt8.ofNat (n.toNat / 2 ^ (8 * i)) else 0
theorem part_len (n : BitVec 32) (k : Nat) : (part n k).length = 4 := by simp [part]
theorem part_four (n : BitVec 32) : part n 4 = Crc.four n := by
  unfold part Crc.four
  rw [show List.range 4 = [0, 1, 2, 3] from rfl]
  simp
theorem part_step (n : BitVec 32) (k : Nat) (hk : k < 4) : (part n k).set k (UInt8.ofNat (n.toNat / 2 ^ (8 * k))) = part n (k + 1) := by
  have : k = 0 ∨ k = 1 ∨ k = 2 ∨ k = 3 := by omega
  unfold part
  rw [show List.range 4 = [0, 1, 2, 3] from rfl]
  rcases this with rfl | rfl | rfl | rfl <;> simp
theorem part_byte (m : BitVec 32) : IntKind.u8.wrap (m.toNat : Int) = ((UInt8.ofNat m.toNat).toNat : Int) := by
  rw [IntKind.wrap_u8, UInt8.toNat_ofNat']
  omega
theorem sum_back (n : BitVec 32) : IntKind.u32.wrap (n.toNat : Int) = (n.toNat : Int) := Wt.u32_toNat n

set_option maxRecDepth 4000 in
set_option maxHeartbeats 1000000 in
theorem tail_any (s : ByteArray) (hs : s.size ≤ maxLen) (w : World) :
    Calls Try.prog 17 #[.string s] w fun e w' => e = .returned (.string (strB (Crc.four (Crc.sum s.data.toList)))) ∧ Below w.heap.size w w' := by
  obtain ⟨n, hn⟩ : ∃ n, n = Crc.sum s.data.toList := ⟨_, rfl⟩
  have c : ∀ w, Calls Try.prog 9 #[.string s] w fun e w' => e = .returned (.int .i64 n.toNat) ∧ w' = w := fun w => hn ▸ sum_any s hs w
  rw [← hn]
  have r1 := sum_back n
  clear hn
  go_enter Try.func17, Try.ntmps17
  go_wp2_with (go_at_call 9; refine (c _).mono ?_; rintro e w1 ⟨rfl, rfl⟩)
  go_loopg [4, 9] 4 (fun g s4 s9 wx => ∃ (k : Nat) (m : BitVec 32), k + g = 4 ∧ s9 = .int .i64 k ∧ s4 = .int .u32 m.toNat ∧ m.toNat = n.toNat / 2 ^ (8 * k) ∧ RowB wx w.heap.size (part n k) ∧ Below w.heap.size w wx)
  case atStart =>
    refine ⟨0, n, rfl, rfl, rfl, by simp, rowB_new _ _ _ _ ?_, (Below.refl _ _).alloc (Nat.le_refl _) _⟩
    intro i hi
    rw [part_len] at hi
    have : i = 0 ∨ i = 1 ∨ i = 2 ∨ i = 3 := by omega
    rcases this with rfl | rfl | rfl | rfl <;> rfl
  case round =>
    obtain ⟨k, m, hkg, rfl, rfl, hm, hrow, hb⟩ := hrel
    by_cases hk : k < 4
    · have hkI : (k : Int) < 4 := by omega
      have hcell := hrow.cell k (by rw [part_len]; exact hk)
      have hfr := hrow.frozen k (by rw [part_len]; exact hk)
      have r2 := part_byte m
      have hset := hrow.set k (by rw [part_len]; exact hk) (UInt8.ofNat m.toNat)
      have e2 : UInt8.ofNat m.toNat = UInt8.ofNat (n.toNat / 2 ^ (8 * k)) := by rw [hm]
      have HS : Hid (UInt8.ofNat m.toNat = UInt8.ofNat (n.toNat / 2 ^ (8 * k))) := e2
      have HM : Hid (m.toNat = n.toNat / 2 ^ (8 * k)) := hm
      obtain ⟨x, hx⟩ : ∃ x, x = UInt8.ofNat m.toNat := ⟨_, rfl⟩
      rw [← hx] at r2 hset
      have HX : Hid (x = UInt8.ofNat (n.toNat / 2 ^ (8 * k))) := by show _ = _; rw [hx, hm]
      obtain ⟨m2, hm2⟩ : ∃ m2, m2 = m >>> 8 := ⟨_, rfl⟩
      have r3 : (m.toNat : Int) / 256 = (m2.toNat : Int) := by have := Wt.shr m 8; rw [hm2]; simpa using this
      have HM2 : Hid (m2.toNat = n.toNat / 2 ^ (8 * (k + 1))) := by
        show _ = _
        rw [hm2, BitVec.toNat_ushiftRight, Nat.shiftRight_eq_div_pow, hm, Nat.div_div_eq_div_mul, ← Nat.pow_add, Nat.mul_add]
      clear hm hx e2 hm2 HM HS
      go_wp2
      go_roundg (4 - (k + 1))
      case measure => omega
      case rel =>
        refine ⟨k + 1, m2, by omega, by go_num, rfl, HM2.out, ?_, hb.setCell (by simp) _⟩
        rw [← part_step n k hk, ← HX.out]
        exact hset
    · have hkI : ¬ (k : Int) < 4 := by omega
      obtain rfl : k = 4 := by omega
      rw [part_four] at hrow
      have ht := hrow.text 4
      rw [Crc.four_len] at ht
      clear hrow
      go_wp2
      go_ret
      exact ⟨rfl, hb⟩
end Go.Proofs.Ytmmmfeafoefdpaa
