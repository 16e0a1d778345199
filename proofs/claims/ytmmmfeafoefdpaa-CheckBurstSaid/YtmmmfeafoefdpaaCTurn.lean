/-
  Bits of bytes that are turned one by one: pure.
-/
import Derived.Test.YtmmmfeafoefdpaaBRow
import Derived.Test.YtmmmfeafoefdpaaCrc
namespace Go.Proofs.Ytmmmfeafoefdpaa
open Go.RowKit

/-- A word's bit. -/
def bt (y : BitVec 64) (j : Nat) : Bool := y.getLsbD j
def anyTo (f : Nat → Bool) : Nat → Bool
  | 0 => false
  | i + 1 => anyTo f i || f i
theorem anyTo_false (f : Nat → Bool) (m : Nat) : anyTo f m = false ↔ ∀ i, i < m → f i = false := by
  induction m with
  | zero => simp [anyTo]
  | succ m ih =>
    rw [anyTo, Bool.or_eq_false_iff, ih]
    constructor
    · rintro ⟨h1, h2⟩ i hi
      by_cases e : i = m
      · rw [e]; exact h2
      · exact h1 i (by omega)
    · intro h
      exact ⟨fun i hi => h i (by omega), h m (by omega)⟩
/-- The bits of f, from the place a on, i of them. -/
def win (f : Nat → Bool) (a i k : Nat) : Bool := decide (a ≤ k) && decide (k < a + i) && f (k - a)
theorem win_zero (f : Nat → Bool) (a k : Nat) : win f a 0 k = false := by
  unfold win
  by_cases h : a ≤ k
  · have : decide (k < a + 0) = false := by rw [decide_eq_false_iff_not]; omega
    rw [this]; simp
  · simp [h]
theorem win_low (f : Nat → Bool) (a i k : Nat) (h : k < a) : win f a i k = false := by
  unfold win
  have : ¬ a ≤ k := by omega
  simp [this]
theorem win_high (f : Nat → Bool) (a i k : Nat) (h : a + i ≤ k) : win f a i k = false := by
  unfold win
  have : ¬ k < a + i := by omega
  simp [this]
theorem win_in (f : Nat → Bool) (a i j : Nat) (h : j < i) : win f a i (a + j) = f j := by
  unfold win
  simp [h]
theorem win_next (f : Nat → Bool) (a i k : Nat) : win f a (i + 1) k = (win f a i k ^^ (decide (k = a + i) && f i)) := by
  unfold win
  by_cases e : k = a + i
  · subst e
    simp
  · have : decide (k < a + (i + 1)) = decide (k < a + i) := by rw [decide_eq_decide]; omega
    simp [e, this]
theorem bitAt_set (l : List UInt8) (p k : Nat) (x : UInt8) (hp : p < l.length) : Crc.bitAt (l.set p x) k = if k / 8 = p then x.toNat.testBit (k % 8) else Crc.bitAt l k := by
  unfold Crc.bitAt
  rw [List.getD_eq_getElem?_getD, List.getD_eq_getElem?_getD, List.getElem?_set]
  by_cases e : k / 8 = p
  · rw [if_pos e, if_pos e.symm, if_pos hp]; rfl
  · rw [if_neg e, if_neg (fun h => e h.symm)]
theorem u8_xor (x y : UInt8) : bits .xor .u8 (x.toNat : Int) (y.toNat : Int) = ((x ^^^ y).toNat : Int) := by
  show IntKind.u8.wrap ((BitVec.ofInt 8 (x.toNat : Int) ^^^ BitVec.ofInt 8 (y.toNat : Int)).toNat : Int) = _
  have h (z : UInt8) : BitVec.ofInt 8 (z.toNat : Int) = z.toBitVec := by
    apply BitVec.eq_of_toNat_eq
    have := z.toNat_lt
    rw [BitVec.toNat_ofInt]
    show _ = z.toNat
    omega
  rw [h, h, ← UInt8.toBitVec_xor, IntKind.wrap_u8]
  have := (x ^^^ y).toNat_lt
  show ((x ^^^ y).toNat : Int) % 256 = _
  omega
theorem xor_bit (x y : UInt8) (j : Nat) : (x ^^^ y).toNat.testBit j = (x.toNat.testBit j ^^ y.toNat.testBit j) := by
  rw [UInt8.toNat_xor, Nat.testBit_xor]
/-- The byte of one bit. -/
theorem one_bit (q : Nat) (hq : q < 8) : ∃ y : UInt8, (2 : Int) ^ q % 256 = (y.toNat : Int) ∧ ∀ j, y.toNat.testBit j = decide (j = q) := by
  refine ⟨UInt8.ofNat (2 ^ q), ?_, ?_⟩
  · rw [UInt8.toNat_ofNat']
    have : ((2 : Int) ^ q) = ((2 ^ q : Nat) : Int) := by simp
    rw [this]
    omega
  · intro j
    have h2 : (2 : Nat) ^ q < 256 := Nat.pow_lt_pow_right (n := 8) (by decide) hq
    rw [UInt8.toNat_ofNat', Nat.mod_eq_of_lt h2, Nat.testBit_two_pow]
    rw [decide_eq_decide]; exact eq_comm
/-- One bit more is turned. -/
theorem turn_one (l l0 : List UInt8) (f : Nat → Bool) (a i : Nat) (h : ∀ k, Crc.bitAt l k = (Crc.bitAt l0 k ^^ win f a i k)) (hl : a + i < 8 * l.length) (hf : f i = true) (y : UInt8) (hy : ∀ j, y.toNat.testBit j = decide (j = (a + i) % 8)) :
    ∀ k, Crc.bitAt (l.set ((a + i) / 8) (l.getD ((a + i) / 8) 0 ^^^ y)) k = (Crc.bitAt l0 k ^^ win f a (i + 1) k) := by
  intro k
  rw [bitAt_set _ _ _ _ (by omega), win_next, hf, ← Bool.xor_assoc, ← h]
  by_cases e : k / 8 = (a + i) / 8
  · rw [if_pos e, xor_bit, hy, ← e]
    show (Crc.bitAt l k ^^ _) = _
    congr 1
    rw [Bool.and_true, decide_eq_decide]
    omega
  · rw [if_neg e]
    have : ¬ k = a + i := fun h => e (by rw [h])
    simp [this]
theorem turn_none (l l0 : List UInt8) (f : Nat → Bool) (a i : Nat) (h : ∀ k, Crc.bitAt l k = (Crc.bitAt l0 k ^^ win f a i k)) (hf : f i = false) : ∀ k, Crc.bitAt l k = (Crc.bitAt l0 k ^^ win f a (i + 1) k) := by
  intro k
  rw [win_next, hf, h]; simp
end Go.Proofs.Ytmmmfeafoefdpaa
