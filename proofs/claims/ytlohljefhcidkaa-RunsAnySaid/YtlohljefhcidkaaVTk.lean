/-
  What bytes begin with, as a plain function: the number's word, how many bytes it has, and whether there is one (0, or 20). Pure mathematics.
-/
import Derived.Test.YtlohljefhcidkaaVLen
import Derived.Test.YtlohljefhcidkaaRefField
namespace Go.Proofs.Ytlohljefhcidkaa
open Leb

/-- The bytes up to and with k are a number's. -/
def isAt (s : List UInt8) (k : Nat) : Bool := decide (k < s.length) && (leb (val (s.take (k + 1))) == s.take (k + 1)) && decide (val (s.take (k + 1)) < 18446744073709551616)
def tk (s : List UInt8) : BitVec 64 × Nat × Nat :=
  match (List.range 10).find? (isAt s) with
  | some k => (BitVec.ofNat 64 (val (s.take (k + 1))), k + 1, 0)
  | none => (0#64, 0, 20)
theorem isAt_iff (s : List UInt8) (k : Nat) : isAt s k = true ↔ k < s.length ∧ leb (val (s.take (k + 1))) = s.take (k + 1) ∧ val (s.take (k + 1)) < 18446744073709551616 := by
  simp [isAt, and_assoc]
theorem isAt_pre {s : List UInt8} {k : Nat} (h : isAt s k = true) : leb (BitVec.ofNat 64 (val (s.take (k + 1)))).toNat = s.take (k + 1) := by
  obtain ⟨_, h2, h3⟩ := (isAt_iff s k).1 h
  rw [BitVec.toNat_ofNat, Nat.mod_eq_of_lt (by omega), h2]
theorem tk_ok {z : BitVec 64} {s : List UInt8} (h : leb z.toNat <+: s) : tk s = (z, lenW z, 0) := by
  have hb := lenW_bd z
  have hlen : lenW z ≤ s.length := h.length_le
  have ht : s.take (lenW z - 1 + 1) = leb z.toNat := by
    rw [show lenW z - 1 + 1 = lenW z by omega]
    exact (List.prefix_iff_eq_take.1 h).symm
  have hat : isAt s (lenW z - 1) = true := by
    rw [isAt_iff, ht, val_leb]
    have := z.isLt
    exact ⟨by omega, rfl, by omega⟩
  unfold tk
  cases hf : (List.range 10).find? (isAt s) with
  | none =>
    have := List.find?_eq_none.1 hf (lenW z - 1) (by simp; omega)
    exact absurd hat this
  | some k =>
    have h1 := List.find?_some hf
    have h2 := isAt_pre h1
    have h3 : (BitVec.ofNat 64 (val (s.take (k + 1)))) = z := BitVec.eq_of_toNat_eq (leb_prefix (by rw [h2]; exact List.take_prefix _ _) h)
    have h4 := congrArg List.length h2
    have h5 := ((isAt_iff s k).1 h1).1
    rw [h3, List.length_take, Nat.min_eq_left (by omega)] at h4
    simp only
    rw [h3, ← h4, lenW]
theorem tk_no {s : List UInt8} (h : ∀ z : BitVec 64, ¬ leb z.toNat <+: s) : tk s = (0#64, 0, 20) := by
  unfold tk
  cases hf : (List.range 10).find? (isAt s) with
  | none => rfl
  | some k =>
    have h1 := List.find?_some hf
    exact absurd (by rw [isAt_pre h1]; exact List.take_prefix _ _) (h (BitVec.ofNat 64 (val (s.take (k + 1)))))
theorem tk_cases (s : List UInt8) : (∃ z : BitVec 64, leb z.toNat <+: s ∧ tk s = (z, lenW z, 0)) ∨ ((∀ z : BitVec 64, ¬ leb z.toNat <+: s) ∧ tk s = (0#64, 0, 20)) := by
  by_cases h : ∃ z : BitVec 64, leb z.toNat <+: s
  · obtain ⟨z, hz⟩ := h; exact .inl ⟨z, hz, tk_ok hz⟩
  · exact .inr ⟨fun z hz => h ⟨z, hz⟩, tk_no fun z hz => h ⟨z, hz⟩⟩
theorem tk_used_le (s : List UInt8) : (tk s).2.1 ≤ s.length ∧ (tk s).2.1 ≤ 10 := by
  rcases tk_cases s with ⟨z, hz, e⟩ | ⟨_, e⟩
  · rw [e]; exact ⟨hz.length_le, (lenW_bd z).2⟩
  · rw [e]; exact ⟨Nat.zero_le _, Nat.zero_le _⟩
theorem zag_zero : zagW 0#64 = 0#64 := by decide

/-- The word of the first k groups. -/
def gotW (s : List UInt8) (k : Nat) : BitVec 64 := BitVec.ofNat 64 (val (s.take k))
theorem got_nat (s : List UInt8) (k : Nat) : (gotW s k).toNat = val (s.take k) % 2 ^ 64 := by rw [gotW, BitVec.toNat_ofNat]
theorem val_take_lt (s : List UInt8) (k : Nat) : val (s.take k) < 2 ^ (7 * k) := by
  rw [← pow128]
  exact Nat.lt_of_lt_of_le (val_lt _) (Nat.pow_le_pow_right (by decide) (by rw [List.length_take]; omega))
theorem got_lt (s : List UInt8) (k : Nat) (hk : k ≤ 9) : (gotW s k).toNat = val (s.take k) ∧ (gotW s k).toNat < 2 ^ (7 * k) := by
  have h1 := val_take_lt s k
  have h2 : 2 ^ (7 * k) ≤ 2 ^ 63 := Nat.pow_le_pow_right (by decide) (by omega)
  have e : (gotW s k).toNat = val (s.take k) := by rw [got_nat, Nat.mod_eq_of_lt (by omega)]
  exact ⟨e, by rw [e]; exact h1⟩
/-- Setting bits above those of x is adding. -/
theorem or_shl (x : BitVec 64) (g m : Nat) (hx : x.toNat < 2 ^ m) : x ||| (BitVec.ofNat 64 g <<< m) = BitVec.ofNat 64 (x.toNat + 2 ^ m * g) := by
  have hx' : ∀ i, m ≤ i → x.getLsbD i = false := fun i hi => by
    rw [BitVec.getLsbD, Nat.testBit_lt_two_pow (Nat.lt_of_lt_of_le hx (Nat.pow_le_pow_right (by decide) hi))]
  apply BitVec.eq_of_getLsbD_eq
  intro i hi
  rw [BitVec.getLsbD_or, BitVec.getLsbD_shiftLeft, BitVec.getLsbD_ofNat, BitVec.getLsbD_ofNat, Nat.add_comm x.toNat, Nat.testBit_two_pow_mul_add _ hx]
  by_cases h : i < m
  · simp [h, hi, BitVec.getLsbD]
  · have h1 : i - m < 64 := by omega
    rw [hx' i (by omega)]
    simp [h, hi, h1]
theorem got_succ (s : List UInt8) (k : Nat) (hk : k ≤ 9) (hs : k < s.length) : gotW s k ||| (BitVec.ofNat 64 ((s.getD k 0).toNat % 128) <<< (7 * k)) = gotW s (k + 1) := by
  have h := got_lt s k hk
  rw [or_shl _ _ _ h.2, h.1, gotW, val_take_succ s k hs, pow128]
theorem with_shl (x y : BitVec 64) (a : Nat) (hx : x.toNat < 2 ^ a) (hy : y.toNat < 128) : wordW (withF x a 7 y) = x ||| (y <<< a) := by
  have hx' : ∀ i, a ≤ i → x.getLsbD i = false := fun i hi => by
    rw [BitVec.getLsbD, Nat.testBit_lt_two_pow (Nat.lt_of_lt_of_le hx (Nat.pow_le_pow_right (by decide) hi))]
  have hy' : ∀ i, 7 ≤ i → y.getLsbD i = false := fun i hi => by
    rw [BitVec.getLsbD, Nat.testBit_lt_two_pow (Nat.lt_of_lt_of_le hy (Nat.pow_le_pow_right (n := 2) (i := 7) (by decide) hi))]
  apply BitVec.eq_of_getLsbD_eq
  intro i hi
  rw [wordW_bit _ i hi, BitVec.getLsbD_or, BitVec.getLsbD_shiftLeft]
  unfold withF bitsOf
  by_cases h : a ≤ i
  · by_cases h2 : i - a < 7
    · rw [if_pos ⟨h, by omega⟩, hx' i h]
      have : ¬ i < a := by omega
      simp [this, hi]
    · rw [if_neg (by omega), hy' _ (by omega)]; simp
  · rw [if_neg (by omega)]
    have : i < a := by omega
    simp [this]
/-- What was met: the last group at k. -/
theorem tk_stop {s : List UInt8} {k : Nat} (hall : ∀ i, i < k → 128 ≤ (s.getD i 0).toNat) (hs : (s.getD k 0).toNat < 128) (hk : k < s.length) (hz : k = 0 ∨ (s.getD k 0).toNat ≠ 0) (hw : val (s.take (k + 1)) < 2 ^ 64) :
    tk s = (gotW s (k + 1), k + 1, 0) := by
  have hg := stop_good k hall hs hk hz
  have e : (gotW s (k + 1)).toNat = val (s.take (k + 1)) := by rw [got_nat, Nat.mod_eq_of_lt hw]
  have hl : leb (gotW s (k + 1)).toNat = s.take (k + 1) := by rw [e, leb_val hg]
  have := tk_ok (z := gotW s (k + 1)) (s := s) (by rw [hl]; exact List.take_prefix _ _)
  rw [this, lenW, hl, List.length_take, Nat.min_eq_left (by omega)]
theorem tk_stop_no {s : List UInt8} {k : Nat} (hall : ∀ i, i < k → 128 ≤ (s.getD i 0).toNat) (hs : (s.getD k 0).toNat < 128) (hk : k < s.length) (hz : (0 < k ∧ (s.getD k 0).toNat = 0) ∨ 2 ^ 64 ≤ val (s.take (k + 1))) :
    tk s = (0#64, 0, 20) := by
  apply tk_no
  intro z hp
  have e := stop_eq k (good_leb z.toNat) hp hall hs hk
  rcases hz with ⟨h0, h1⟩ | h1
  · exact needless (e ▸ good_leb z.toNat) hall hk h0 h1
  · rw [← e, val_leb] at h1
    have := z.isLt
    omega
theorem tk_long {s : List UInt8} {k : Nat} (hall : ∀ i, i < k → 128 ≤ (s.getD i 0).toNat) (hk : s.length ≤ k ∨ 10 ≤ k) : tk s = (0#64, 0, 20) := by
  apply tk_no
  intro z hp
  have h1 := stop_none k (good_leb z.toNat) hp hall
  have h2 := hp.length_le
  have h3 := leb_len_ten z
  omega
/-- The word that the groups make has these bytes, or they are no number's. -/
theorem tk_again {s : List UInt8} {k : Nat} (hall : ∀ i, i < k → 128 ≤ (s.getD i 0).toNat) (hs : (s.getD k 0).toNat < 128) (hk : k < s.length) :
    (leb (gotW s (k + 1)).toNat = s.take (k + 1) ∧ tk s = (gotW s (k + 1), k + 1, 0)) ∨ (leb (gotW s (k + 1)).toNat ≠ s.take (k + 1) ∧ tk s = (0#64, 0, 20)) := by
  by_cases h : leb (gotW s (k + 1)).toNat = s.take (k + 1)
  · refine .inl ⟨h, ?_⟩
    have := tk_ok (z := gotW s (k + 1)) (s := s) (by rw [h]; exact List.take_prefix _ _)
    rw [this, lenW, h, List.length_take, Nat.min_eq_left (by omega)]
  · refine .inr ⟨h, tk_no fun z hp => h ?_⟩
    have e := stop_eq k (good_leb z.toNat) hp hall hs hk
    have ez : (gotW s (k + 1)).toNat = z.toNat := by
      rw [got_nat, ← e, val_leb, Nat.mod_eq_of_lt z.isLt]
    rw [ez, e]
end Go.Proofs.Ytlohljefhcidkaa
