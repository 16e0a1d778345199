/-
  What the document's Zig and Zag (bit by bit) are, as words; Zag goes back. Pure mathematics over the definitions of BitsA and RefZig.
-/
import Derived.Test.YtlohljefhcidkaaBitsA
import Derived.Test.YtlohljefhcidkaaRefZig
namespace Go.Proofs.Ytlohljefhcidkaa
open Arr

theorem zig_eq (x : BitVec 64) : wordW (zigP x 64) = zigW x := by
  apply BitVec.eq_of_getLsbD_eq
  intro i hi
  rw [wordW_bit _ i hi]
  unfold zigP zigW bitsOf
  have hm : x.msb = x.getLsbD 63 := by rw [BitVec.msb_eq_getLsbD_last]
  rw [hm]
  by_cases h : i = 0
  · subst h
    cases h63 : x.getLsbD 63 <;> simp
  · have h1 : ¬ i < 1 := by omega
    rw [if_neg h]
    cases h63 : x.getLsbD 63
    · rw [if_neg (by simp), BitVec.getLsbD_shiftLeft]; simp [hi, h]
    · rw [if_pos rfl, BitVec.getLsbD_not, BitVec.getLsbD_shiftLeft]; simp [hi, h]
theorem zag_eq (x : BitVec 64) : wordW (zagF x) = zagW x := by
  apply BitVec.eq_of_getLsbD_eq
  intro i hi
  rw [wordW_bit _ i hi]
  unfold zagF zagP zagW bitsOf
  by_cases h : i = 63
  · subst h
    rw [if_pos rfl]
    cases h0 : x.getLsbD 0
    · rw [if_neg (by simp), BitVec.getLsbD_ushiftRight]; simp
    · rw [if_pos rfl, BitVec.getLsbD_not, BitVec.getLsbD_ushiftRight]; simp
  · have h1 : i < 63 := by omega
    rw [if_neg h]
    cases h0 : x.getLsbD 0
    · rw [if_neg (by simp), BitVec.getLsbD_ushiftRight]; simp [h1, Nat.add_comm]
    · rw [if_pos rfl, BitVec.getLsbD_not, BitVec.getLsbD_ushiftRight]; simp [h1, hi, Nat.add_comm]
theorem zag_zig (x : BitVec 64) : zagW (zigW x) = x := by
  apply BitVec.eq_of_getLsbD_eq
  intro i hi
  unfold zagW zigW
  have hm : x.msb = x.getLsbD 63 := by rw [BitVec.msb_eq_getLsbD_last]
  rw [hm]
  cases h63 : x.getLsbD 63
  · rw [if_neg (by simp)]
    rw [if_neg (by simp), BitVec.getLsbD_ushiftRight, BitVec.getLsbD_shiftLeft]
    by_cases h : i = 63
    · subst h; simpa using h63
    · have : 1 + i < 64 := by omega
      simp [this]
  · rw [if_pos rfl]
    rw [if_pos (by simp), BitVec.getLsbD_not, BitVec.getLsbD_ushiftRight, BitVec.getLsbD_not, BitVec.getLsbD_shiftLeft]
    by_cases h : i = 63
    · subst h; simp [h63]
    · have : 1 + i < 64 := by omega
      simp [this, hi]
theorem zig_zag (x : BitVec 64) : zigW (zagW x) = x := by
  apply BitVec.eq_of_getLsbD_eq
  intro i hi
  unfold zagW zigW
  cases h0 : x.getLsbD 0
  · rw [if_neg (by simp)]
    rw [if_neg (by simp), BitVec.getLsbD_shiftLeft, BitVec.getLsbD_ushiftRight]
    by_cases h : i = 0
    · subst h; simpa using h0
    · have h1 : ¬ i < 1 := by omega
      have h2 : 1 + (i - 1) = i := by omega
      simp [hi, h, h2]
  · rw [if_pos rfl]
    rw [if_pos (by simp [BitVec.msb_eq_getLsbD_last]), BitVec.getLsbD_not, BitVec.getLsbD_shiftLeft, BitVec.getLsbD_not, BitVec.getLsbD_ushiftRight]
    by_cases h : i = 0
    · subst h; simpa using h0
    · have h1 : ¬ i < 1 := by omega
      have h2 : 1 + (i - 1) = i := by omega
      have h3 : i - 1 < 64 := by omega
      simp [hi, h, h2, h3]
end Go.Proofs.Ytlohljefhcidkaa
