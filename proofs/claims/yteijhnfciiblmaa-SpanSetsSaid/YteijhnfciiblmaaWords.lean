/-
  Words of 64 bits as BitVec 64: how the walk's integers (wraps, shifts, bits) read as operations on them. No program is spoken of.
-/
import Derived.Laws.Entries
import Derived.RowKit
import Derived.IntWalk
import Derived.Laws.Bits64
namespace Go.Proofs.Yteijhnfciiblmaa.Wd
open Go.RowKit

theorem u64_toInt (x : BitVec 64) : IntKind.u64.wrap x.toInt = (x.toNat : Int) := by
  rw [IntKind.wrap_u64, BitVec.toInt_eq_toNat_bmod, Int.bmod_def]
  have := x.isLt
  omega
theorem u64_toNat (x : BitVec 64) : IntKind.u64.wrap (x.toNat : Int) = (x.toNat : Int) := by
  rw [IntKind.wrap_u64]
  have := x.isLt
  omega
theorem i64_toNat (x : BitVec 64) : wrap64 (x.toNat : Int) = x.toInt := by
  rw [BitVec.toInt_eq_toNat_bmod, Int.bmod_def]
  unfold wrap64
  have := x.isLt
  omega
theorem i64_toInt (x : BitVec 64) : wrap64 x.toInt = x.toInt := by
  have h1 := BitVec.toInt_lt (x := x)
  have h2 := BitVec.le_toInt (x := x)
  unfold wrap64
  omega
theorem i64_wf (x : BitVec 64) : (Lit.int .i64 x.toInt).wf = true := by
  rw [← i64_toInt]; exact wrap64_wf _
/-- A number that fits is a word's. -/
theorem word_of (n : Int) (h : (Lit.int .i64 n).wf = true) : ∃ x : BitVec 64, n = x.toInt := by
  refine ⟨BitVec.ofInt 64 n, ?_⟩
  simp [Lit.wf, IntKind.min, IntKind.max, IntKind.signed, IntKind.bits] at h
  rw [BitVec.toInt_ofInt, Int.bmod_def]
  omega
theorem word_of_le (n : Int) (h1 : -9223372036854775808 ≤ n) (h2 : n ≤ 9223372036854775807) : n = (BitVec.ofInt 64 n).toInt := by
  rw [BitVec.toInt_ofInt, Int.bmod_def]
  omega
theorem ofInt_toInt (x : BitVec 64) : BitVec.ofInt 64 x.toInt = x := by simp
theorem ofInt_toNat (x : BitVec 64) : BitVec.ofInt 64 (x.toNat : Int) = x := by simp

theorem i64_ofNat (n : Nat) : IntKind.i64.wrap (n : Int) = (BitVec.ofNat 64 n).toInt := by
  rw [IntWalk.i64_left, BitVec.toInt_eq_toNat_bmod, Int.bmod_def]
  unfold wrap64
  simp only [BitVec.toNat_ofNat]
  omega

theorem u64_and (x y : BitVec 64) : bits .and .u64 (x.toNat : Int) (y.toNat : Int) = ((x &&& y).toNat : Int) := by
  show IntKind.u64.wrap ((BitVec.ofInt 64 (x.toNat : Int) &&& BitVec.ofInt 64 (y.toNat : Int)).toNat : Int) = _
  rw [ofInt_toNat, ofInt_toNat, u64_toNat]
theorem u64_or (x y : BitVec 64) : bits .or .u64 (x.toNat : Int) (y.toNat : Int) = ((x ||| y).toNat : Int) := by
  show IntKind.u64.wrap ((BitVec.ofInt 64 (x.toNat : Int) ||| BitVec.ofInt 64 (y.toNat : Int)).toNat : Int) = _
  rw [ofInt_toNat, ofInt_toNat, u64_toNat]
theorem u64_xor (x y : BitVec 64) : bits .xor .u64 (x.toNat : Int) (y.toNat : Int) = ((x ^^^ y).toNat : Int) := by
  show IntKind.u64.wrap ((BitVec.ofInt 64 (x.toNat : Int) ^^^ BitVec.ofInt 64 (y.toNat : Int)).toNat : Int) = _
  rw [ofInt_toNat, ofInt_toNat, u64_toNat]
theorem u64_andNot (x y : BitVec 64) : bits .andNot .u64 (x.toNat : Int) (y.toNat : Int) = ((x &&& ~~~y).toNat : Int) := by
  show IntKind.u64.wrap ((BitVec.ofInt 64 (x.toNat : Int) &&& ~~~BitVec.ofInt 64 (y.toNat : Int)).toNat : Int) = _
  rw [ofInt_toNat, ofInt_toNat, u64_toNat]
theorem u64_not (x : BitVec 64) : bits .xor .u64 IntKind.u64.max (x.toNat : Int) = ((~~~x).toNat : Int) := by
  have e : IntKind.u64.max = ((BitVec.allOnes 64).toNat : Int) := by decide
  rw [e, u64_xor, BitVec.allOnes_xor]
theorem i64_and (x y : BitVec 64) : bits .and .i64 x.toInt y.toInt = (x &&& y).toInt := by
  show IntKind.i64.wrap ((BitVec.ofInt 64 x.toInt &&& BitVec.ofInt 64 y.toInt).toNat : Int) = _
  rw [ofInt_toInt, ofInt_toInt, IntWalk.i64_left, i64_toNat]
theorem i64_or (x y : BitVec 64) : bits .or .i64 x.toInt y.toInt = (x ||| y).toInt := by
  show IntKind.i64.wrap ((BitVec.ofInt 64 x.toInt ||| BitVec.ofInt 64 y.toInt).toNat : Int) = _
  rw [ofInt_toInt, ofInt_toInt, IntWalk.i64_left, i64_toNat]
theorem i64_xor (x y : BitVec 64) : bits .xor .i64 x.toInt y.toInt = (x ^^^ y).toInt := by
  show IntKind.i64.wrap ((BitVec.ofInt 64 x.toInt ^^^ BitVec.ofInt 64 y.toInt).toNat : Int) = _
  rw [ofInt_toInt, ofInt_toInt, IntWalk.i64_left, i64_toNat]

theorem u64_shl (x : BitVec 64) (n : Nat) : IntKind.u64.wrap ((x.toNat : Int) * 2 ^ n) = ((x <<< n).toNat : Int) := by
  rw [IntKind.wrap_u64, BitVec.toNat_shiftLeft, Nat.shiftLeft_eq]
  have : (x.toNat : Int) * 2 ^ n = ((x.toNat * 2 ^ n : Nat) : Int) := by simp
  rw [this]
  omega
theorem i64_shl (x : BitVec 64) (n : Nat) : wrap64 (x.toInt * 2 ^ n) = (x <<< n).toInt := by
  have h : BitVec.ofInt 64 (x.toInt * 2 ^ n) = x <<< n := by
    apply BitVec.eq_of_toNat_eq
    apply Int.natCast_inj.mp
    rw [← u64_shl, ← u64_toInt x, BitVec.toNat_ofInt, IntKind.wrap_u64, IntKind.wrap_u64]
    rw [Int.toNat_of_nonneg (Int.emod_nonneg _ (by decide)), Int.mul_emod (x.toInt % 18446744073709551616), Int.emod_emod, ← Int.mul_emod]
    rfl
  rw [← h, BitVec.toInt_ofInt, Int.bmod_def]
  unfold wrap64
  omega
theorem u64_shr (x : BitVec 64) (n : Nat) : (x.toNat : Int) / 2 ^ n = ((x >>> n).toNat : Int) := by
  rw [BitVec.toNat_ushiftRight, Nat.shiftRight_eq_div_pow]; simp
theorem i64_shr (x : BitVec 64) (n : Nat) : x.toInt / 2 ^ n = (x.sshiftRight n).toInt := by
  rw [BitVec.toInt_sshiftRight, Int.shiftRight_eq_div_pow]; simp
theorem u64_sub (x y : BitVec 64) : IntKind.u64.wrap ((x.toNat : Int) - (y.toNat : Int)) = ((x - y).toNat : Int) := by
  rw [IntKind.wrap_u64, BitVec.toNat_sub]
  have := x.isLt; have := y.isLt
  omega
theorem u64_add (x y : BitVec 64) : IntKind.u64.wrap ((x.toNat : Int) + (y.toNat : Int)) = ((x + y).toNat : Int) := by
  rw [IntKind.wrap_u64, BitVec.toNat_add]
  omega
theorem u64_neg (x : BitVec 64) : IntKind.u64.wrap (-(x.toNat : Int)) = ((-x).toNat : Int) := by
  rw [IntKind.wrap_u64, BitVec.toNat_neg]
  have := x.isLt
  omega
theorem i64_inj {x y : BitVec 64} : x.toInt = y.toInt ↔ x = y := BitVec.toInt_inj
theorem u64_inj {x y : BitVec 64} : (x.toNat : Int) = (y.toNat : Int) ↔ x = y := by
  rw [Int.natCast_inj]; exact BitVec.toNat_inj
theorem i64_beq (x y : BitVec 64) : (x.toInt == y.toInt) = (x == y) := by
  rw [Bool.eq_iff_iff]; simp [i64_inj]
theorem toInt_of_small (n : Nat) (h : n < 9223372036854775808) : (BitVec.ofNat 64 n).toInt = (n : Int) := by
  rw [BitVec.toInt_eq_toNat_bmod, Int.bmod_def]; simp only [BitVec.toNat_ofNat]; omega
theorem neg_iff (x : BitVec 64) : x.toInt < 0 ↔ x.msb = true := by
  rw [BitVec.msb_eq_toInt]; simp
theorem and_one (x : BitVec 64) : x &&& 1#64 = if x.getLsbD 0 then 1#64 else 0#64 := by
  apply BitVec.eq_of_getLsbD_eq
  intro i hi
  by_cases h0 : i = 0
  · subst h0; rw [BitVec.getLsbD_and]; cases h : x.getLsbD 0 <;> simp
  · cases h : x.getLsbD 0 <;> simp [h0, BitVec.getLsbD_one]
theorem bit_is (x : BitVec 64) : (bits .and .i64 x.toInt 1 == 1) = x.getLsbD 0 := by
  have e : (1 : Int) = (1#64).toInt := by decide
  rw [e, i64_and, i64_beq, and_one]
  cases h : x.getLsbD 0 <;> simp
theorem bit_at (x : BitVec 64) (k : Nat) (hk : k < 64) : (bits .and .i64 (x.toInt / 2 ^ k) 1 == 1) = x.getLsbD k := by
  rw [i64_shr, bit_is, BitVec.getLsbD_sshiftRight]
  simp [hk]
theorem and63_le (y : BitVec 64) : ((y &&& 63#64).toNat : Int) ≤ 63 := by
  rw [BitVec.toNat_and]
  have := Nat.and_le_right (n := y.toNat) (m := (63#64).toNat)
  have e : (63#64).toNat = 63 := rfl
  omega
theorem and63 (y : BitVec 64) : bits .and .i64 y.toInt 63 = ((y &&& 63#64).toNat : Int) := by
  have e : (63 : Int) = (63#64).toInt := by decide
  have := and63_le y
  rw [e, i64_and, BitVec.toInt_eq_toNat_bmod, Int.bmod_def]
  omega
theorem returned_int {k : IntKind} {a b : Int} (h : a = b) : Ending.returned (.int k a) = .returned (.int k b) := by rw [h]

end Go.Proofs.Yteijhnfciiblmaa.Wd
