/-
  The sum of bits, over words of 32 bits: linear, and no burst within 32 bits vanishes. No program is spoken of.
-/
import Derived.RowKit
namespace Go.Proofs.Ytmmmfeafoefdpaa.Crc

def poly : BitVec 32 := 0x82f63b78#32
/-- The register shifted down by one; turned, if a bit fell out. -/
def Z (n : BitVec 32) : BitVec 32 := if n.getLsbD 0 then (n >>> 1) ^^^ poly else n >>> 1
def step (n : BitVec 32) (b : Bool) : BitVec 32 := if n.getLsbD 0 != b then (n >>> 1) ^^^ poly else n >>> 1
/-- The bits 0 to m - 1 of f, one behind the other. -/
def run (n : BitVec 32) (f : Nat → Bool) : Nat → BitVec 32
  | 0 => n
  | k + 1 => step (run n f k) (f k)
def Zs (n : BitVec 32) : Nat → BitVec 32
  | 0 => n
  | k + 1 => Z (Zs n k)

theorem poly_top : poly.getLsbD 31 = true := by decide
theorem xor_zero_iff (a b : BitVec 32) : a ^^^ b = 0#32 ↔ a = b := by
  constructor
  · intro h
    apply BitVec.eq_of_getLsbD_eq
    intro i hi
    have := congrArg (fun x => x.getLsbD i) h
    simp only [BitVec.getLsbD_xor, BitVec.getLsbD_zero] at this
    cases ha : a.getLsbD i <;> cases hb : b.getLsbD i <;> simp_all
  · rintro rfl; exact BitVec.xor_self
theorem shr_xor (a b : BitVec 32) : (a ^^^ b) >>> 1 = (a >>> 1) ^^^ (b >>> 1) := by
  apply BitVec.eq_of_getLsbD_eq
  intro i hi
  simp [BitVec.getLsbD_ushiftRight, BitVec.getLsbD_xor]
theorem step_xor (n m : BitVec 32) (b c : Bool) : step (n ^^^ m) (b ^^ c) = step n b ^^^ step m c := by
  unfold step
  rw [shr_xor, BitVec.getLsbD_xor]
  generalize n >>> 1 = x
  generalize m >>> 1 = y
  cases n.getLsbD 0 <;> cases m.getLsbD 0 <;> cases b <;> cases c <;>
    (apply BitVec.eq_of_getLsbD_eq; intro i hi; simp [BitVec.getLsbD_xor]; try (cases x.getLsbD i <;> cases y.getLsbD i <;> cases poly.getLsbD i <;> rfl))
theorem step_false (n : BitVec 32) : step n false = Z n := by
  unfold step Z; cases n.getLsbD 0 <;> rfl
theorem Z_xor (n m : BitVec 32) : Z (n ^^^ m) = Z n ^^^ Z m := by
  rw [← step_false, ← step_false, ← step_false, ← step_xor]; rfl
theorem Z_zero : Z 0#32 = 0#32 := by decide
theorem Z_inj0 (n : BitVec 32) (h : Z n = 0#32) : n = 0#32 := by
  unfold Z at h
  by_cases h0 : n.getLsbD 0 = true
  · rw [if_pos h0, xor_zero_iff] at h
    have := congrArg (fun x => x.getLsbD 31) h
    simp only [poly_top, BitVec.getLsbD_ushiftRight] at this
    rw [BitVec.getLsbD_of_ge n _ (by omega)] at this
    cases this
  · rw [if_neg h0] at h
    apply BitVec.eq_of_getLsbD_eq
    intro i hi
    cases i with
    | zero => simpa using h0
    | succ j =>
      have := congrArg (fun x => x.getLsbD j) h
      simp only [BitVec.getLsbD_ushiftRight, BitVec.getLsbD_zero] at this
      rw [Nat.add_comm] at this
      simpa using this
theorem Zs_xor (n m : BitVec 32) (k : Nat) : Zs (n ^^^ m) k = Zs n k ^^^ Zs m k := by
  induction k with
  | zero => rfl
  | succ k ih => simp only [Zs, ih, Z_xor]
theorem Zs_zero (k : Nat) : Zs 0#32 k = 0#32 := by
  induction k with
  | zero => rfl
  | succ k ih => rw [Zs, ih, Z_zero]
theorem Zs_inj0 (n : BitVec 32) (k : Nat) (h : Zs n k = 0#32) : n = 0#32 := by
  induction k with
  | zero => exact h
  | succ k ih => exact ih (Z_inj0 _ h)
theorem Zs_inj (n m : BitVec 32) (k : Nat) : Zs n k = Zs m k ↔ n = m := by
  constructor
  · intro h
    rw [← xor_zero_iff] at h ⊢
    rw [← Zs_xor] at h
    exact Zs_inj0 _ _ h
  · rintro rfl; rfl
theorem Zs_succ (n : BitVec 32) (k : Nat) : Zs n (k + 1) = Zs (Z n) k := by
  induction k with
  | zero => rfl
  | succ k ih => rw [Zs, ih]; rfl

theorem run_congr (n : BitVec 32) {f g : Nat → Bool} {m : Nat} (h : ∀ i, i < m → f i = g i) : run n f m = run n g m := by
  induction m with
  | zero => rfl
  | succ k ih => rw [run, run, ih fun i hi => h i (by omega), h k (by omega)]
theorem run_xor (n m : BitVec 32) (f g : Nat → Bool) (k : Nat) : run (n ^^^ m) (fun i => f i ^^ g i) k = run n f k ^^^ run m g k := by
  induction k with
  | zero => rfl
  | succ k ih => rw [run, run, run, ih, step_xor]
theorem run_add (n : BitVec 32) (f : Nat → Bool) (a b : Nat) : run n f (a + b) = run (run n f a) (fun i => f (a + i)) b := by
  induction b with
  | zero => rfl
  | succ k ih => rw [← Nat.add_assoc, run, run, ih]
theorem run_false (n : BitVec 32) (k : Nat) : run n (fun _ => false) k = Zs n k := by
  induction k with
  | zero => rfl
  | succ k ih => rw [run, ih, step_false]; rfl
/-- The word of the bits 0 to m - 1. -/
def word (f : Nat → Bool) : Nat → BitVec 32
  | 0 => 0#32
  | m + 1 => word f m ||| (if f m then 1#32 <<< m else 0#32)
theorem word_bit (f : Nat → Bool) (m i : Nat) (hi : i < 32) : (word f m).getLsbD i = (decide (i < m) && f i) := by
  induction m with
  | zero => simp [word]
  | succ m ih =>
    rw [word, BitVec.getLsbD_or, ih]
    have e : (if f m = true then 1#32 <<< m else 0#32).getLsbD i = (decide (i = m) && f m) := by
      cases f m
      · simp
      · simp [hi]
        by_cases h : i = m
        · subst h; simp
        · simp [h]; omega
    rw [e]
    by_cases h : i = m
    · subst h; simp
    · have h1 : decide (i < m) = decide (i < m + 1) := by rw [decide_eq_decide]; omega
      simp [h, h1]
/-- Up to 32 bits, one behind the other, are as the word of them, turned in ahead. -/
theorem run_word (n : BitVec 32) (f : Nat → Bool) (m : Nat) (hm : m ≤ 32) : run n f m = Zs (n ^^^ word f m) m := by
  induction m generalizing n f with
  | zero =>
    have : word f 0 = 0#32 := by
      apply BitVec.eq_of_getLsbD_eq; intro i hi; rw [word_bit _ _ _ hi]; simp
    rw [run, Zs, this, BitVec.xor_zero]
  | succ k ih =>
    rw [Nat.add_comm k 1, run_add, ih _ _ (by omega), Nat.add_comm 1 k, Zs_succ]
    congr 1
    have h1 : run n f 1 = Z (n ^^^ (if f 0 then 1#32 else 0#32)) := by
      rw [← step_false]
      show step n (f 0) = _
      have : step (n ^^^ if f 0 = true then 1#32 else 0#32) (f 0 ^^ f 0) = step n (f 0) ^^^ step (if f 0 = true then 1#32 else 0#32) (f 0) := step_xor _ _ _ _
      rw [Bool.xor_self] at this
      rw [this]
      have : step (if f 0 = true then 1#32 else 0#32) (f 0) = 0#32 := by cases f 0 <;> decide
      rw [this, BitVec.xor_zero]
    have h2 : word f (k + 1) = (if f 0 then 1#32 else 0#32) ^^^ (word (fun i => f (1 + i)) k <<< 1) := by
      apply BitVec.eq_of_getLsbD_eq
      intro i hi
      rw [word_bit _ _ _ hi, BitVec.getLsbD_xor, BitVec.getLsbD_shiftLeft]
      cases i with
      | zero => cases f 0 <;> simp
      | succ j =>
        have h0 : (if f 0 = true then 1#32 else 0#32).getLsbD (j + 1) = false := by cases f 0 <;> simp [BitVec.getLsbD_one]
        rw [h0, Nat.add_sub_cancel, word_bit _ _ _ (by omega), Nat.add_comm 1 j]
        simp; omega
    have h3 : Z (word (fun i => f (1 + i)) k <<< 1) = word (fun i => f (1 + i)) k := by
      unfold Z
      rw [if_neg (by simp)]
      apply BitVec.eq_of_getLsbD_eq
      intro i hi
      rw [BitVec.getLsbD_ushiftRight, BitVec.getLsbD_shiftLeft, Nat.add_sub_cancel_left]
      by_cases h : 1 + i < 32
      · simp [h]
      · rw [word_bit _ _ _ hi]
        have : ¬ i < k := by omega
        simp [h, this]
    rw [h1, h2, ← BitVec.xor_assoc, Z_xor (n ^^^ (if f 0 = true then 1#32 else 0#32)) (word (fun i => f (1 + i)) k <<< 1), h3]

/-- Bits that are turned within 32 in a row, and only there: what is left of them, at the end, is nothing if and only if none is turned. -/
theorem burst (d : Nat → Bool) (a m c : Nat) (hm : m ≤ 32) (hlo : ∀ i, i < a → d i = false) (hhi : ∀ i, a + m ≤ i → d i = false) :
    run 0#32 d (a + m + c) = 0#32 ↔ ∀ i, i < m → d (a + i) = false := by
  rw [run_add, run_add, run_congr 0#32 (g := fun _ => false) hlo, run_false, Zs_zero, run_word _ _ _ hm, BitVec.zero_xor,
    run_congr _ (g := fun _ => false) (fun i _ => hhi _ (by omega)), run_false]
  constructor
  · intro h i hi
    have h1 := Zs_inj0 _ _ (Zs_inj0 _ _ h)
    have h2 := congrArg (fun x => x.getLsbD i) h1
    simp only [BitVec.getLsbD_zero] at h2
    rw [word_bit _ _ _ (by omega)] at h2
    simpa [hi] using h2
  · intro h
    have : word (fun i => d (a + i)) m = 0#32 := by
      apply BitVec.eq_of_getLsbD_eq
      intro i hi
      rw [word_bit _ _ _ hi]
      by_cases h' : i < m
      · simp [h', h i h']
      · simp [h']
    rw [this, Zs_zero, Zs_zero]

/-- The bits of bytes, each byte's lowest first. -/
def bitAt (l : List UInt8) (k : Nat) : Bool := (l.getD (k / 8) 0).toNat.testBit (k % 8)
/-- The register behind the bytes. -/
def reg (n : BitVec 32) (l : List UInt8) : BitVec 32 := run n (bitAt l) (8 * l.length)
theorem bitAt_append_left (a b : List UInt8) (k : Nat) (h : k < 8 * a.length) : bitAt (a ++ b) k = bitAt a k := by
  unfold bitAt
  congr 2
  rw [List.getD_eq_getElem?_getD, List.getD_eq_getElem?_getD, List.getElem?_append_left (by omega)]
theorem bitAt_append_right (a b : List UInt8) (k : Nat) : bitAt (a ++ b) (8 * a.length + k) = bitAt b k := by
  unfold bitAt
  have h1 : (8 * a.length + k) / 8 = a.length + k / 8 := by omega
  have h2 : (8 * a.length + k) % 8 = k % 8 := by omega
  rw [h1, h2, List.getD_eq_getElem?_getD, List.getD_eq_getElem?_getD, List.getElem?_append_right (by omega), Nat.add_sub_cancel_left]
theorem reg_append (n : BitVec 32) (a b : List UInt8) : reg n (a ++ b) = reg (reg n a) b := by
  unfold reg
  rw [List.length_append, Nat.mul_add, run_add, run_congr _ fun i hi => bitAt_append_left a b i hi]
  congr 1
  funext i
  exact bitAt_append_right a b i
theorem reg_nil (n : BitVec 32) : reg n [] = n := rfl
theorem reg_three (a b c x : List UInt8) (n : BitVec 32) (h1 : a.length = x.length) (h2 : b.length = x.length) (h3 : c.length = x.length)
    (h : ∀ k, k < 8 * x.length → bitAt x k = (bitAt a k ^^ bitAt b k ^^ bitAt c k)) : reg n x = reg n a ^^^ reg n b ^^^ reg n c := by
  unfold reg
  rw [h1, h2, h3, ← run_xor, ← run_xor, run_congr _ h]
  congr 1
  rw [BitVec.xor_self, BitVec.zero_xor]
/-- The sum of l behind others of which the sum is n. -/
def more (n : BitVec 32) (l : List UInt8) : BitVec 32 := ~~~ (reg (~~~ n) l)
def sum (l : List UInt8) : BitVec 32 := more 0#32 l
theorem more_append (n : BitVec 32) (a b : List UInt8) : more n (a ++ b) = more (more n a) b := by
  unfold more
  rw [reg_append, BitVec.not_not]
theorem more_nil (n : BitVec 32) : more n [] = n := by
  unfold more; rw [reg_nil, BitVec.not_not]
theorem not_three (x y z : BitVec 32) : ~~~ (x ^^^ y ^^^ z) = ~~~ x ^^^ ~~~ y ^^^ ~~~ z := by
  apply BitVec.eq_of_getLsbD_eq
  intro i hi
  simp only [BitVec.getLsbD_not, BitVec.getLsbD_xor, hi, decide_true, Bool.true_and]
  cases x.getLsbD i <;> cases y.getLsbD i <;> cases z.getLsbD i <;> rfl
theorem sum_three (a b c x : List UInt8) (h1 : a.length = x.length) (h2 : b.length = x.length) (h3 : c.length = x.length)
    (h : ∀ k, k < 8 * x.length → bitAt x k = (bitAt a k ^^ bitAt b k ^^ bitAt c k)) : sum x = sum a ^^^ sum b ^^^ sum c := by
  unfold sum more
  rw [reg_three a b c x _ h1 h2 h3 h, not_three]
/-- The four bytes of a sum, the lowest one first. -/
def four (n : BitVec 32) : List UInt8 := [UInt8.ofNat n.toNat, UInt8.ofNat (n.toNat / 2 ^ 8), UInt8.ofNat (n.toNat / 2 ^ 16), UInt8.ofNat (n.toNat / 2 ^ 24)]
theorem four_len (n : BitVec 32) : (four n).length = 4 := rfl
theorem ofNat_bit (n i : Nat) (h : i < 8) : (UInt8.ofNat n).toNat.testBit i = n.testBit i := by
  rw [UInt8.toNat_ofNat', Nat.testBit_mod_two_pow]
  simp [h]
theorem four_bit (n : BitVec 32) (k : Nat) (h : k < 32) : bitAt (four n) k = n.getLsbD k := by
  have h3 : k / 8 = 0 ∨ k / 8 = 1 ∨ k / 8 = 2 ∨ k / 8 = 3 := by omega
  have h4 : k % 8 < 8 := by omega
  have hd := Nat.div_add_mod k 8
  unfold bitAt four BitVec.getLsbD
  rcases h3 with e | e | e | e <;> rw [e] <;>
    simp only [List.getD_cons_zero, List.getD_cons_succ] <;> rw [ofNat_bit _ _ h4] <;> (try rw [Nat.testBit_div_two_pow]) <;> congr 1 <;> omega
theorem bits_ext {a b : List UInt8} (hl : a.length = b.length) (h : ∀ k, k < 8 * a.length → bitAt a k = bitAt b k) : a = b := by
  apply List.ext_getElem hl
  intro i h1 h2
  apply UInt8.toNat_inj.mp
  apply Nat.eq_of_testBit_eq
  intro j
  by_cases hj : j < 8
  · have := h (8 * i + j) (by omega)
    unfold bitAt at this
    rw [show (8 * i + j) / 8 = i by omega, show (8 * i + j) % 8 = j by omega] at this
    simpa [h1, h2] using this
  · have hp : 256 ≤ 2 ^ j := by
      have : 2 ^ 8 ≤ 2 ^ j := Nat.pow_le_pow_right (by decide) (by omega)
      simpa using this
    rw [Nat.testBit_lt_two_pow (Nat.lt_of_lt_of_le (UInt8.toNat_lt _) hp), Nat.testBit_lt_two_pow (Nat.lt_of_lt_of_le (UInt8.toNat_lt _) hp)]
/-- Bytes t with u, four, behind are sealed if and only if the register behind all of them is one and the same word. -/
theorem sealed_iff (t u : List UInt8) (hu : u.length = 4) : u = four (sum t) ↔ reg (BitVec.allOnes 32) (t ++ u) = Zs (BitVec.allOnes 32) 32 := by
  have hw : reg (BitVec.allOnes 32) (t ++ u) = Zs (reg (BitVec.allOnes 32) t ^^^ word (bitAt u) 32) 32 := by
    rw [reg_append]
    show run _ _ (8 * u.length) = _
    rw [hu, run_word _ _ _ (by decide)]
  rw [hw, Zs_inj]
  have hs : sum t = ~~~ reg (BitVec.allOnes 32) t := by
    unfold sum more; rfl
  constructor
  · intro h
    apply BitVec.eq_of_getLsbD_eq
    intro i hi
    rw [BitVec.getLsbD_xor, word_bit _ _ _ hi, h, four_bit _ _ hi, hs, BitVec.getLsbD_not, BitVec.getLsbD_allOnes]
    simp only [hi, decide_true, Bool.true_and]
    cases (reg (BitVec.allOnes 32) t).getLsbD i <;> rfl
  · intro h
    apply bits_ext (by rw [hu, four_len])
    intro k hk
    have hk2 : k < 32 := by omega
    have := congrArg (fun x => x.getLsbD k) h
    rw [BitVec.getLsbD_xor, word_bit _ _ _ hk2, BitVec.getLsbD_allOnes] at this
    rw [four_bit _ _ hk2, hs, BitVec.getLsbD_not]
    simp only [hk2, decide_true, Bool.true_and] at this ⊢
    revert this
    cases (reg (BitVec.allOnes 32) t).getLsbD k <;> cases bitAt u k <;> simp
/-- Sealed bytes of which some are turned within 32 bits in a row are sealed if and only if none is turned. -/
theorem sealed_burst (t u t' u' : List UInt8) (hu : u = four (sum t)) (ht' : t'.length = t.length) (hu' : u'.length = 4) (d : Nat → Bool) (a m c : Nat) (hm : m ≤ 32) (hall : a + m + c = 8 * (t.length + 4))
    (hlo : ∀ i, i < a → d i = false) (hhi : ∀ i, a + m ≤ i → d i = false) (h : ∀ k, k < 8 * (t.length + 4) → bitAt (t' ++ u') k = (bitAt (t ++ u) k ^^ d k)) :
    u' = four (sum t') ↔ ∀ i, i < m → d (a + i) = false := by
  have hul : u.length = 4 := by rw [hu]; rfl
  have h1 := (sealed_iff t u hul).1 hu
  rw [sealed_iff t' u' hu', ← burst d a m c hm hlo hhi, ← h1]
  unfold reg
  rw [List.length_append, List.length_append, ht', hu', hul, run_congr _ h, hall]
  have e := run_xor (BitVec.allOnes 32) 0#32 (bitAt (t ++ u)) d (8 * (t.length + 4))
  rw [BitVec.xor_zero] at e
  rw [e]
  generalize run (BitVec.allOnes 32) (bitAt (t ++ u)) (8 * (t.length + 4)) = x
  generalize run 0#32 d (8 * (t.length + 4)) = y
  constructor
  · intro h
    have : x ^^^ (x ^^^ y) = x ^^^ x := by rw [h]
    rwa [← BitVec.xor_assoc, BitVec.xor_self, BitVec.zero_xor] at this
  · rintro rfl; rw [BitVec.xor_zero]
end Go.Proofs.Ytmmmfeafoefdpaa.Crc
