/-
  Words of 32 bits as BitVec 32: how the walk's integers read as operations on them, as uint32 and as small ints. No program is spoken of.
-/
import Derived.Test.YtmmmfeafoefdpaaWords
namespace Go.Proofs.Ytmmmfeafoefdpaa.Wt
open Go.RowKit

theorem big (x : BitVec 32) : (x.toNat : Int) < 4294967296 := by
  have := x.isLt
  omega
theorem u32_toNat (x : BitVec 32) : IntKind.u32.wrap (x.toNat : Int) = (x.toNat : Int) := by
  rw [IntKind.wrap_u32]
  have := x.isLt
  omega
theorem u32_toInt (x : BitVec 64) : IntKind.u32.wrap x.toInt = ((x.setWidth 32).toNat : Int) := by
  rw [IntKind.wrap_u32, BitVec.toInt_eq_toNat_bmod, Int.bmod_def, BitVec.toNat_setWidth]
  have := x.isLt
  omega
theorem i64_small (x : BitVec 32) : wrap64 (x.toNat : Int) = (x.toNat : Int) := by
  have := x.isLt
  unfold wrap64
  omega
theorem ofInt_toNat (x : BitVec 32) : BitVec.ofInt 64 (x.toNat : Int) = x.setWidth 64 := by
  apply BitVec.eq_of_toNat_eq
  rw [BitVec.toNat_ofInt, BitVec.toNat_setWidth]
  omega
theorem ofInt32 (x : BitVec 32) : BitVec.ofInt 32 (x.toNat : Int) = x := by simp
theorem and_w (x y : BitVec 32) : (x.setWidth 64 &&& y.setWidth 64).toNat = (x &&& y).toNat := by
  have h1 := x.isLt
  have h2 := y.isLt
  rw [BitVec.toNat_and, BitVec.toNat_and, BitVec.toNat_setWidth, BitVec.toNat_setWidth, Nat.mod_eq_of_lt (by omega), Nat.mod_eq_of_lt (by omega)]
theorem xor_w (x y : BitVec 32) : (x.setWidth 64 ^^^ y.setWidth 64).toNat = (x ^^^ y).toNat := by
  have h1 := x.isLt
  have h2 := y.isLt
  rw [BitVec.toNat_xor, BitVec.toNat_xor, BitVec.toNat_setWidth, BitVec.toNat_setWidth, Nat.mod_eq_of_lt (by omega), Nat.mod_eq_of_lt (by omega)]
theorem u32_and (x y : BitVec 32) : bits .and .u32 (x.toNat : Int) (y.toNat : Int) = ((x &&& y).toNat : Int) := by
  show IntKind.u32.wrap ((BitVec.ofInt 32 (x.toNat : Int) &&& BitVec.ofInt 32 (y.toNat : Int)).toNat : Int) = _
  rw [ofInt32, ofInt32, u32_toNat]
theorem u32_xor (x y : BitVec 32) : bits .xor .u32 (x.toNat : Int) (y.toNat : Int) = ((x ^^^ y).toNat : Int) := by
  show IntKind.u32.wrap ((BitVec.ofInt 32 (x.toNat : Int) ^^^ BitVec.ofInt 32 (y.toNat : Int)).toNat : Int) = _
  rw [ofInt32, ofInt32, u32_toNat]
theorem i64_xor (x y : BitVec 32) : bits .xor .i64 (x.toNat : Int) (y.toNat : Int) = ((x ^^^ y).toNat : Int) := by
  show IntKind.i64.wrap ((BitVec.ofInt 64 (x.toNat : Int) ^^^ BitVec.ofInt 64 (y.toNat : Int)).toNat : Int) = _
  rw [ofInt_toNat, ofInt_toNat, xor_w, IntWalk.i64_left, i64_small]
theorem i64_and (x y : BitVec 32) : bits .and .i64 (x.toNat : Int) (y.toNat : Int) = ((x &&& y).toNat : Int) := by
  show IntKind.i64.wrap ((BitVec.ofInt 64 (x.toNat : Int) &&& BitVec.ofInt 64 (y.toNat : Int)).toNat : Int) = _
  rw [ofInt_toNat, ofInt_toNat, and_w, IntWalk.i64_left, i64_small]
theorem u32_not (x : BitVec 32) : bits .xor .u32 IntKind.u32.max (x.toNat : Int) = ((~~~x).toNat : Int) := by
  have e : IntKind.u32.max = ((BitVec.allOnes 32).toNat : Int) := by decide
  rw [e, u32_xor, BitVec.allOnes_xor]
theorem i64_not (x : BitVec 32) : bits .xor .i64 (x.toNat : Int) 4294967295 = ((~~~x).toNat : Int) := by
  have e : (4294967295 : Int) = ((BitVec.allOnes 32).toNat : Int) := by decide
  rw [e, i64_xor, BitVec.xor_allOnes]
theorem shr (x : BitVec 32) (n : Nat) : (x.toNat : Int) / 2 ^ n = ((x >>> n).toNat : Int) := by
  rw [BitVec.toNat_ushiftRight, Nat.shiftRight_eq_div_pow]; simp
theorem u32_neg (x : BitVec 32) : IntKind.u32.wrap (-(x.toNat : Int)) = ((-x).toNat : Int) := by
  rw [IntKind.wrap_u32, BitVec.toNat_neg]
  have := x.isLt
  omega
theorem and_one (x : BitVec 32) : x &&& 1#32 = if x.getLsbD 0 then 1#32 else 0#32 := by
  apply BitVec.eq_of_getLsbD_eq
  intro i hi
  by_cases h0 : i = 0
  · subst h0; rw [BitVec.getLsbD_and]; cases h : x.getLsbD 0 <;> simp
  · cases h : x.getLsbD 0 <;> simp [h0, BitVec.getLsbD_one]
theorem low_mod (x : BitVec 32) : (x.toNat : Int) % 2 = if x.getLsbD 0 then 1 else 0 := by
  unfold BitVec.getLsbD
  rw [Nat.testBit_zero]
  by_cases h : x.toNat % 2 = 1
  · simp [h]; omega
  · simp [h]; omega
theorem inj {x y : BitVec 32} : (x.toNat : Int) = (y.toNat : Int) ↔ x = y := by
  rw [Int.natCast_inj]; exact BitVec.toNat_inj
theorem beq (x y : BitVec 32) : ((x.toNat : Int) == (y.toNat : Int)) = (x == y) := by
  rw [Bool.eq_iff_iff]; simp [inj]
/-- An int's lowest 32 bits. -/
theorem and_all (x : BitVec 64) : bits .and .i64 x.toInt 4294967295 = ((x.setWidth 32).toNat : Int) := by
  have e : (4294967295 : Int) = (4294967295#64).toInt := by decide
  rw [e, Wd.i64_and]
  have h : (x &&& 4294967295#64).toNat = (x.setWidth 32).toNat := by
    rw [BitVec.toNat_and, BitVec.toNat_setWidth]
    exact Nat.and_two_pow_sub_one_eq_mod x.toNat 32
  have hb := (x.setWidth 32).isLt
  rw [BitVec.toInt_eq_toNat_bmod, h, Int.bmod_def]
  omega
theorem toInt_small (x : BitVec 32) : (x.setWidth 64).toInt = (x.toNat : Int) := by
  have hb := x.isLt
  rw [BitVec.toInt_eq_toNat_bmod, BitVec.toNat_setWidth, Int.bmod_def]
  omega
theorem back (x : BitVec 32) : (x.setWidth 64).setWidth 32 = x := by
  apply BitVec.eq_of_toNat_eq
  have hb := x.isLt
  rw [BitVec.toNat_setWidth, BitVec.toNat_setWidth]
  omega
end Go.Proofs.Ytmmmfeafoefdpaa.Wt
