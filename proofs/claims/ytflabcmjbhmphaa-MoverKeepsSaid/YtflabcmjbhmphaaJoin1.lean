/-
  16 texts, one behind the other: Words, BitsA, BitsB, Leb, VLen, Arr, RefOf, RefField, VTk, VTake, Rowy, VPut, RefZig, ZigEq, VRefPut, VRefTake.
-/
import Derived.Laws.Entries
import Derived.RowKit
import Derived.IntWalk
import Derived.Laws.Bits64
import Derived.Test.YtflabcmjbhmphaaRows
import Derived.WalkKit
import Derived.WalkSpells
import Derived.WalkLawsBesides
import Derived.Deep.QuietTactic
import Derived.BigQuiet
import Derived.Deep.LoopGhost
import Derived.Deep.WholeRow
import Derived.WalkSmall
import Derived.Laws.BytesString
import Derived.Laws.Cells
import Derived.Lib.Strings
import Derived.Deep.RegionWith
/-
  Words of 64 bits as BitVec 64: how the walk's integers (wraps, shifts, bits) read as operations on them. No program is spoken of.
-/
namespace Go.Proofs.Ytflabcmjbhmphaa.Wd
open Go.RowKit

theorem u64_toInt (x : BitVec 64) : IntKind.u64.wrap x.toInt = (x.toNat : Int) := by
  rw [IntKind.wrap_u64, BitVec.toInt_eq_toNat_bmod, Int.bmod_def]
  have := x.isLt
  omega
theorem u64_toNat (x : BitVec 64) : IntKind.u64.wrap (x.toNat : Int) = (x.toNat : Int) := by
  rw [IntKind.wrap_u64]
  have := x.isLt
  omega
theorem i64_toNat (x : BitVec 64) : wrap64 (x.toNat : Int) = x.toInt := by
  rw [BitVec.toInt_eq_toNat_bmod, Int.bmod_def]
  unfold wrap64
  have := x.isLt
  omega
theorem i64_toInt (x : BitVec 64) : wrap64 x.toInt = x.toInt := by
  have h1 := BitVec.toInt_lt (x := x)
  have h2 := BitVec.le_toInt (x := x)
  unfold wrap64
  omega
theorem i64_wf (x : BitVec 64) : (Lit.int .i64 x.toInt).wf = true := by
  rw [← i64_toInt]; exact wrap64_wf _
/-- A number that fits is a word's. -/
theorem word_of (n : Int) (h : (Lit.int .i64 n).wf = true) : ∃ x : BitVec 64, n = x.toInt := by
  refine ⟨BitVec.ofInt 64 n, ?_⟩
  simp [Lit.wf, IntKind.min, IntKind.max, IntKind.signed, IntKind.bits] at h
  rw [BitVec.toInt_ofInt, Int.bmod_def]
  omega
theorem word_of_le (n : Int) (h1 : -9223372036854775808 ≤ n) (h2 : n ≤ 9223372036854775807) : n = (BitVec.ofInt 64 n).toInt := by
  rw [BitVec.toInt_ofInt, Int.bmod_def]
  omega
theorem ofInt_toInt (x : BitVec 64) : BitVec.ofInt 64 x.toInt = x := by simp
theorem ofInt_toNat (x : BitVec 64) : BitVec.ofInt 64 (x.toNat : Int) = x := by simp

theorem i64_ofNat (n : Nat) : IntKind.i64.wrap (n : Int) = (BitVec.ofNat 64 n).toInt := by
  rw [IntWalk.i64_left, BitVec.toInt_eq_toNat_bmod, Int.bmod_def]
  unfold wrap64
  simp only [BitVec.toNat_ofNat]
  omega

theorem u64_and (x y : BitVec 64) : bits .and .u64 (x.toNat : Int) (y.toNat : Int) = ((x &&& y).toNat : Int) := by
  show IntKind.u64.wrap ((BitVec.ofInt 64 (x.toNat : Int) &&& BitVec.ofInt 64 (y.toNat : Int)).toNat : Int) = _
  rw [ofInt_toNat, ofInt_toNat, u64_toNat]
theorem u64_or (x y : BitVec 64) : bits .or .u64 (x.toNat : Int) (y.toNat : Int) = ((x ||| y).toNat : Int) := by
  show IntKind.u64.wrap ((BitVec.ofInt 64 (x.toNat : Int) ||| BitVec.ofInt 64 (y.toNat : Int)).toNat : Int) = _
  rw [ofInt_toNat, ofInt_toNat, u64_toNat]
theorem u64_xor (x y : BitVec 64) : bits .xor .u64 (x.toNat : Int) (y.toNat : Int) = ((x ^^^ y).toNat : Int) := by
  show IntKind.u64.wrap ((BitVec.ofInt 64 (x.toNat : Int) ^^^ BitVec.ofInt 64 (y.toNat : Int)).toNat : Int) = _
  rw [ofInt_toNat, ofInt_toNat, u64_toNat]
theorem u64_andNot (x y : BitVec 64) : bits .andNot .u64 (x.toNat : Int) (y.toNat : Int) = ((x &&& ~~~y).toNat : Int) := by
  show IntKind.u64.wrap ((BitVec.ofInt 64 (x.toNat : Int) &&& ~~~BitVec.ofInt 64 (y.toNat : Int)).toNat : Int) = _
  rw [ofInt_toNat, ofInt_toNat, u64_toNat]
theorem u64_not (x : BitVec 64) : bits .xor .u64 IntKind.u64.max (x.toNat : Int) = ((~~~x).toNat : Int) := by
  have e : IntKind.u64.max = ((BitVec.allOnes 64).toNat : Int) := by decide
  rw [e, u64_xor, BitVec.allOnes_xor]
theorem i64_and (x y : BitVec 64) : bits .and .i64 x.toInt y.toInt = (x &&& y).toInt := by
  show IntKind.i64.wrap ((BitVec.ofInt 64 x.toInt &&& BitVec.ofInt 64 y.toInt).toNat : Int) = _
  rw [ofInt_toInt, ofInt_toInt, IntWalk.i64_left, i64_toNat]
theorem i64_or (x y : BitVec 64) : bits .or .i64 x.toInt y.toInt = (x ||| y).toInt := by
  show IntKind.i64.wrap ((BitVec.ofInt 64 x.toInt ||| BitVec.ofInt 64 y.toInt).toNat : Int) = _
  rw [ofInt_toInt, ofInt_toInt, IntWalk.i64_left, i64_toNat]
theorem i64_xor (x y : BitVec 64) : bits .xor .i64 x.toInt y.toInt = (x ^^^ y).toInt := by
  show IntKind.i64.wrap ((BitVec.ofInt 64 x.toInt ^^^ BitVec.ofInt 64 y.toInt).toNat : Int) = _
  rw [ofInt_toInt, ofInt_toInt, IntWalk.i64_left, i64_toNat]

theorem u64_shl (x : BitVec 64) (n : Nat) : IntKind.u64.wrap ((x.toNat : Int) * 2 ^ n) = ((x <<< n).toNat : Int) := by
  rw [IntKind.wrap_u64, BitVec.toNat_shiftLeft, Nat.shiftLeft_eq]
  have : (x.toNat : Int) * 2 ^ n = ((x.toNat * 2 ^ n : Nat) : Int) := by simp
  rw [this]
  omega
theorem i64_shl (x : BitVec 64) (n : Nat) : wrap64 (x.toInt * 2 ^ n) = (x <<< n).toInt := by
  have h : BitVec.ofInt 64 (x.toInt * 2 ^ n) = x <<< n := by
    apply BitVec.eq_of_toNat_eq
    apply Int.natCast_inj.mp
    rw [← u64_shl, ← u64_toInt x, BitVec.toNat_ofInt, IntKind.wrap_u64, IntKind.wrap_u64]
    rw [Int.toNat_of_nonneg (Int.emod_nonneg _ (by decide)), Int.mul_emod (x.toInt % 18446744073709551616), Int.emod_emod, ← Int.mul_emod]
    rfl
  rw [← h, BitVec.toInt_ofInt, Int.bmod_def]
  unfold wrap64
  omega
theorem u64_shr (x : BitVec 64) (n : Nat) : (x.toNat : Int) / 2 ^ n = ((x >>> n).toNat : Int) := by
  rw [BitVec.toNat_ushiftRight, Nat.shiftRight_eq_div_pow]; simp
theorem i64_shr (x : BitVec 64) (n : Nat) : x.toInt / 2 ^ n = (x.sshiftRight n).toInt := by
  rw [BitVec.toInt_sshiftRight, Int.shiftRight_eq_div_pow]; simp
theorem u64_sub (x y : BitVec 64) : IntKind.u64.wrap ((x.toNat : Int) - (y.toNat : Int)) = ((x - y).toNat : Int) := by
  rw [IntKind.wrap_u64, BitVec.toNat_sub]
  have := x.isLt; have := y.isLt
  omega
theorem u64_add (x y : BitVec 64) : IntKind.u64.wrap ((x.toNat : Int) + (y.toNat : Int)) = ((x + y).toNat : Int) := by
  rw [IntKind.wrap_u64, BitVec.toNat_add]
  omega
theorem u64_neg (x : BitVec 64) : IntKind.u64.wrap (-(x.toNat : Int)) = ((-x).toNat : Int) := by
  rw [IntKind.wrap_u64, BitVec.toNat_neg]
  have := x.isLt
  omega
theorem i64_inj {x y : BitVec 64} : x.toInt = y.toInt ↔ x = y := BitVec.toInt_inj
theorem u64_inj {x y : BitVec 64} : (x.toNat : Int) = (y.toNat : Int) ↔ x = y := by
  rw [Int.natCast_inj]; exact BitVec.toNat_inj
theorem i64_beq (x y : BitVec 64) : (x.toInt == y.toInt) = (x == y) := by
  rw [Bool.eq_iff_iff]; simp [i64_inj]
theorem toInt_of_small (n : Nat) (h : n < 9223372036854775808) : (BitVec.ofNat 64 n).toInt = (n : Int) := by
  rw [BitVec.toInt_eq_toNat_bmod, Int.bmod_def]; simp only [BitVec.toNat_ofNat]; omega
theorem neg_iff (x : BitVec 64) : x.toInt < 0 ↔ x.msb = true := by
  rw [BitVec.msb_eq_toInt]; simp
theorem and_one (x : BitVec 64) : x &&& 1#64 = if x.getLsbD 0 then 1#64 else 0#64 := by
  apply BitVec.eq_of_getLsbD_eq
  intro i hi
  by_cases h0 : i = 0
  · subst h0; rw [BitVec.getLsbD_and]; cases h : x.getLsbD 0 <;> simp
  · cases h : x.getLsbD 0 <;> simp [h0, BitVec.getLsbD_one]
theorem bit_is (x : BitVec 64) : (bits .and .i64 x.toInt 1 == 1) = x.getLsbD 0 := by
  have e : (1 : Int) = (1#64).toInt := by decide
  rw [e, i64_and, i64_beq, and_one]
  cases h : x.getLsbD 0 <;> simp
theorem bit_at (x : BitVec 64) (k : Nat) (hk : k < 64) : (bits .and .i64 (x.toInt / 2 ^ k) 1 == 1) = x.getLsbD k := by
  rw [i64_shr, bit_is, BitVec.getLsbD_sshiftRight]
  simp [hk]
theorem and63_le (y : BitVec 64) : ((y &&& 63#64).toNat : Int) ≤ 63 := by
  rw [BitVec.toNat_and]
  have := Nat.and_le_right (n := y.toNat) (m := (63#64).toNat)
  have e : (63#64).toNat = 63 := rfl
  omega
theorem and63 (y : BitVec 64) : bits .and .i64 y.toInt 63 = ((y &&& 63#64).toNat : Int) := by
  have e : (63 : Int) = (63#64).toInt := by decide
  have := and63_le y
  rw [e, i64_and, BitVec.toInt_eq_toNat_bmod, Int.bmod_def]
  omega
theorem returned_int {k : IntKind} {a b : Int} (h : a = b) : Ending.returned (.int k a) = .returned (.int k b) := by rw [h]

end Go.Proofs.Ytflabcmjbhmphaa.Wd
/-
  The contracts of package bits' Zig and Zag, over words as BitVec 64.
-/
namespace Go.Proofs.Ytflabcmjbhmphaa
open Go.RowKit

def zigW (x : BitVec 64) : BitVec 64 := if x.msb then ~~~(x <<< 1) else x <<< 1
def zagW (x : BitVec 64) : BitVec 64 := if x.getLsbD 0 then ~~~(x >>> 1) else x >>> 1

theorem zig_neg (x : BitVec 64) (h : x.toInt < 0) : wrap64 (bits .xor .u64 IntKind.u64.max (IntKind.u64.wrap (IntKind.u64.wrap x.toInt * 2))) = (zigW x).toInt := by
  rw [Wd.u64_toInt, show ((x.toNat : Int) * 2) = (x.toNat : Int) * 2 ^ 1 by simp, Wd.u64_shl, Wd.u64_not, Wd.i64_toNat]
  rw [zigW, if_pos ((Wd.neg_iff x).1 h)]
theorem zig_pos (x : BitVec 64) (h : 0 ≤ x.toInt) : wrap64 (IntKind.u64.wrap (IntKind.u64.wrap x.toInt * 2)) = (zigW x).toInt := by
  rw [Wd.u64_toInt, show ((x.toNat : Int) * 2) = (x.toNat : Int) * 2 ^ 1 by simp, Wd.u64_shl, Wd.i64_toNat]
  rw [zigW, if_neg (by rw [← Wd.neg_iff]; omega)]

theorem zag_odd (x : BitVec 64) (h : (bits .and .i64 x.toInt 1 == 1) = true) : wrap64 (bits .xor .u64 IntKind.u64.max (IntKind.u64.wrap x.toInt / 2)) = (zagW x).toInt := by
  rw [Wd.u64_toInt, show ((x.toNat : Int) / 2) = (x.toNat : Int) / 2 ^ 1 by simp, Wd.u64_shr, Wd.u64_not, Wd.i64_toNat]
  rw [zagW, if_pos (by rw [← Wd.bit_is]; exact h)]
theorem zag_even (x : BitVec 64) (h : (bits .and .i64 x.toInt 1 == 1) = false) : wrap64 (IntKind.u64.wrap x.toInt / 2) = (zagW x).toInt := by
  rw [Wd.u64_toInt, show ((x.toNat : Int) / 2) = (x.toNat : Int) / 2 ^ 1 by simp, Wd.u64_shr, Wd.i64_toNat]
  rw [zagW, if_neg (by rw [← Wd.bit_is]; simp [h])]

set_option maxHeartbeats 400000 in
theorem zig_any (x : BitVec 64) (w : World) :
    Calls Try.prog 68 #[.int .i64 x.toInt] w fun e w' => e = .returned (.int .i64 (zigW x).toInt) ∧ w' = w := by
  go_enter Try.func68, Try.ntmps68
  go_wp2
  · go_ret
    exact ⟨Wd.returned_int (zig_neg x ‹_›), rfl⟩
  · go_ret
    exact ⟨Wd.returned_int (zig_pos x ‹_›), rfl⟩

end Go.Proofs.Ytflabcmjbhmphaa
/-
  The contracts of package bits' Width and Ones.
-/
namespace Go.Proofs.Ytflabcmjbhmphaa
open Go.RowKit

/-- n is how many bits x needs. -/
def IsWidth (x : BitVec 64) (n : Nat) : Prop := n ≤ 64 ∧ x >>> n = 0#64 ∧ ∀ j, j < n → x >>> j ≠ 0#64
theorem IsWidth.unique {x : BitVec 64} {n m : Nat} (h : IsWidth x n) (k : IsWidth x m) : n = m := by
  rcases Nat.lt_trichotomy n m with a | a | a
  · exact absurd h.2.1 (k.2.2 n a)
  · exact a
  · exact absurd k.2.1 (h.2.2 m a)
theorem shr_beq (x : BitVec 64) (k : Nat) : ((x.toNat : Int) / 2 ^ k == 0) = (x >>> k == 0#64) := by
  have e : (0 : Int) = ((0#64).toNat : Int) := rfl
  rw [Wd.u64_shr, e, Bool.eq_iff_iff]
  rw [beq_iff_eq, beq_iff_eq, Wd.u64_inj]
set_option maxHeartbeats 400000 in
theorem width_any (x : BitVec 64) (w : World) :
    Calls Try.prog 72 #[.int .i64 x.toInt] w fun e w' => (∃ n : Nat, IsWidth x n ∧ e = .returned (.int .i64 n)) ∧ w' = w := by
  have r1 : IntKind.u64.wrap x.toInt = (x.toNat : Int) := Wd.u64_toInt x
  go_enter Try.func72, Try.ntmps72
  go_wp2
  go_loopg [3, 4] 64 (fun g s3 s4 wx => ∃ k : Nat, k + g = 64 ∧ s4 = .int .i64 k ∧ (∀ j, j < k → x >>> j ≠ 0#64) ∧ wx = w)
  case atStart => exact ⟨0, by omega, rfl, fun j hj => by omega, rfl⟩
  case round =>
    obtain ⟨k, hkg, rfl, hlow, rfl⟩ := hrel
    cases gk with
    | zero =>
      obtain rfl : k = 64 := by omega
      have HL : Hid (∀ j, j < 64 → x >>> j ≠ 0#64) := hlow
      clear hlow
      go_wp2
      go_ret
      exact ⟨⟨64, ⟨by omega, BitVec.ushiftRight_eq_zero (by omega), HL.out⟩, rfl⟩, rfl⟩
    | succ g =>
      have hk : (k : Int) < 64 := by omega
      have m1 : min k 64 = k := by omega
      have HL : Hid (∀ j, j < k → x >>> j ≠ 0#64) := hlow
      clear hlow
      by_cases hz : x >>> k = 0#64
      · have r4 : ((x.toNat : Int) / 2 ^ k == 0) = true := by rw [shr_beq]; simpa using hz
        have HZ : Hid (x >>> k = 0#64) := hz
        clear hz
        go_wp2
        go_ret
        exact ⟨⟨k, ⟨by omega, HZ.out, HL.out⟩, rfl⟩, rfl⟩
      · have r4 : ((x.toNat : Int) / 2 ^ k == 0) = false := by rw [shr_beq]; simpa using hz
        have HZ : Hid (x >>> k ≠ 0#64) := hz
        clear hz
        go_wp2
        go_roundg g
        case measure => omega
        case rel =>
          refine ⟨k + 1, by omega, by go_num, fun j hj => ?_, rfl⟩
          by_cases h : j = k
          · rw [h]; exact HZ.out
          · exact HL.out j (by omega)
end Go.Proofs.Ytflabcmjbhmphaa
/-
  Numbers as groups of seven bits, the lowest first, the highest bit of a byte set in all but the last: pure mathematics over lists of bytes. No program is spoken of.
-/
namespace Go.Proofs.Ytflabcmjbhmphaa.Leb

def lebF : Nat → Nat → List UInt8
  | 0, z => [UInt8.ofNat z]
  | f + 1, z => if z < 128 then [UInt8.ofNat z] else UInt8.ofNat (z % 128 + 128) :: lebF f (z / 128)
/-- A number's bytes. -/
def leb (z : Nat) : List UInt8 := lebF z z
theorem lebF_eq : ∀ (f g z : Nat), z ≤ f → z ≤ g → lebF f z = lebF g z := by
  intro f
  induction f with
  | zero =>
    intro g z h _
    cases g with
    | zero => rfl
    | succ g =>
      have hz : z < 128 := by omega
      simp [lebF, hz]
  | succ f ih =>
    intro g z h1 h2
    cases g with
    | zero =>
      have hz : z < 128 := by omega
      simp [lebF, hz]
    | succ g =>
      by_cases hz : z < 128
      · simp [lebF, hz]
      · simp only [lebF, if_neg hz]
        rw [ih g (z / 128) (by omega) (by omega)]

def val : List UInt8 → Nat
  | [] => 0
  | b :: r => b.toNat % 128 + 128 * val r

/-- Bytes that are a number's. -/
def good : List UInt8 → Prop
  | [] => False
  | b :: r => (b.toNat < 128 ∧ r = []) ∨ (128 ≤ b.toNat ∧ good r ∧ r ≠ [0])

theorem leb_small {z : Nat} (h : z < 128) : leb z = [UInt8.ofNat z] := by
  unfold leb
  cases z with
  | zero => rfl
  | succ f => simp only [lebF, if_pos h]
theorem leb_big {z : Nat} (h : 128 ≤ z) : leb z = UInt8.ofNat (z % 128 + 128) :: leb (z / 128) := by
  have e : ¬ z < 128 := by omega
  unfold leb
  cases z with
  | zero => omega
  | succ f =>
    simp only [lebF, if_neg e]
    rw [lebF_eq f ((f + 1) / 128) ((f + 1) / 128) (by omega) (Nat.le_refl _)]
theorem leb_pos (z : Nat) : 1 ≤ (leb z).length := by
  by_cases h : z < 128
  · rw [leb_small h]; simp
  · rw [leb_big (by omega)]; simp
theorem byte_small {n : Nat} (h : n < 256) : (UInt8.ofNat n).toNat = n := by
  rw [UInt8.toNat_ofNat']; omega
theorem leb_ne {z : Nat} (h : 1 ≤ z) : leb z ≠ [0] := by
  by_cases hz : z < 128
  · rw [leb_small hz]
    intro e
    have e2 : UInt8.ofNat z = 0 := by simpa using e
    have : (UInt8.ofNat z).toNat = 0 := by rw [e2]; rfl
    rw [byte_small (by omega)] at this
    omega
  · rw [leb_big (by omega)]
    intro e
    have := leb_pos (z / 128)
    have e2 : leb (z / 128) = [] := by simpa using (List.cons.inj e).2
    rw [e2] at this
    simp at this
theorem good_leb (z : Nat) : good (leb z) := by
  induction z using Nat.strongRecOn with
  | ind z ih =>
    by_cases h : z < 128
    · rw [leb_small h]; exact .inl ⟨by rw [byte_small (by omega)]; omega, rfl⟩
    · rw [leb_big (by omega)]
      exact .inr ⟨by rw [byte_small (by omega)]; omega, ih _ (by omega), leb_ne (by omega)⟩
theorem val_leb (z : Nat) : val (leb z) = z := by
  induction z using Nat.strongRecOn with
  | ind z ih =>
    by_cases h : z < 128
    · rw [leb_small h]; simp only [val]; rw [byte_small (by omega)]; omega
    · rw [leb_big (by omega)]; simp only [val]; rw [byte_small (by omega), ih _ (by omega)]; omega
theorem leb_inj {z y : Nat} (h : leb z = leb y) : z = y := by rw [← val_leb z, h, val_leb]
theorem val_zero : ∀ {l : List UInt8}, good l → val l = 0 → l = [0] := by
  intro l
  induction l with
  | nil => intro h; exact h.elim
  | cons b r ih =>
    intro h e
    simp only [val] at e
    rcases h with ⟨hb, rfl⟩ | ⟨hb, hr, hne⟩
    · have : b.toNat = 0 := by omega
      have : b = 0 := UInt8.toNat_inj.1 (by simpa using this)
      rw [this]
    · exact absurd (ih hr (by omega)) hne
theorem leb_val : ∀ {l : List UInt8}, good l → leb (val l) = l := by
  intro l
  induction l with
  | nil => intro h; exact h.elim
  | cons b r ih =>
    intro h
    have hb256 := b.toNat_lt
    rcases h with ⟨hb, rfl⟩ | ⟨hb, hr, hne⟩
    · simp only [val]
      have e : b.toNat % 128 + 128 * 0 = b.toNat := by omega
      rw [e, leb_small hb]
      simp
    · have hv : val r ≠ 0 := fun e => hne (val_zero hr e)
      simp only [val]
      rw [leb_big (by omega)]
      have e1 : (b.toNat % 128 + 128 * val r) % 128 + 128 = b.toNat := by omega
      have e2 : (b.toNat % 128 + 128 * val r) / 128 = val r := by omega
      rw [e1, e2, ih hr]
      simp
/-- Two numbers' bytes ahead of the same bytes are the same. -/
theorem good_prefix : ∀ {a b s : List UInt8}, good a → good b → a <+: s → b <+: s → a = b := by
  intro a
  induction a with
  | nil => intro b s h; exact h.elim
  | cons x r ih =>
    intro b s ha hb pa pb
    cases b with
    | nil => exact hb.elim
    | cons y q =>
      cases s with
      | nil => simp at pa
      | cons c t =>
        rw [List.cons_prefix_cons] at pa pb
        obtain ⟨rfl, pa⟩ := pa
        obtain ⟨rfl, pb⟩ := pb
        rcases ha with ⟨h1, rfl⟩ | ⟨h1, hr, _⟩
        · rcases hb with ⟨_, rfl⟩ | ⟨h2, _, _⟩
          · rfl
          · omega
        · rcases hb with ⟨h2, _⟩ | ⟨_, hq, _⟩
          · omega
          · rw [ih hr hq pa pb]
theorem leb_prefix {z y : Nat} {s : List UInt8} (h : leb z <+: s) (k : leb y <+: s) : z = y :=
  leb_inj (good_prefix (good_leb z) (good_leb y) h k)

theorem leb_len_le : ∀ (L : Nat) {z : Nat}, z < 128 ^ (L + 1) → (leb z).length ≤ L + 1 := by
  intro L
  induction L with
  | zero => intro z h; rw [leb_small (by simpa using h)]; simp
  | succ L ih =>
    intro z h
    by_cases hz : z < 128
    · rw [leb_small hz]; simp
    · rw [leb_big (by omega)]
      have : z / 128 < 128 ^ (L + 1) := by
        rw [Nat.div_lt_iff_lt_mul (by decide)]
        rw [Nat.pow_succ] at h; exact h
      have := ih this
      simp; omega
theorem leb_len_ge : ∀ (L : Nat) {z : Nat}, 128 ^ L ≤ z → L + 1 ≤ (leb z).length := by
  intro L
  induction L with
  | zero => intro z _; exact leb_pos z
  | succ L ih =>
    intro z h
    have h1 : 128 ^ L ≤ z / 128 := by
      rw [Nat.le_div_iff_mul_le (by decide)]
      rw [Nat.pow_succ] at h; exact h
    have h2 : 1 ≤ 128 ^ L := Nat.pow_pos (by decide)
    rw [leb_big (by omega)]
    have := ih h1
    simp; omega
theorem leb_len_mono {z y : Nat} (h : z ≤ y) : (leb z).length ≤ (leb y).length := by
  induction y using Nat.strongRecOn generalizing z with
  | ind y ih =>
    by_cases hz : z < 128
    · rw [leb_small hz]; exact leb_pos y
    · rw [leb_big (z := z) (by omega), leb_big (z := y) (by omega)]
      have := ih (y / 128) (by omega) (z := z / 128) (by omega)
      simpa using this

theorem val_append (a b : List UInt8) : val (a ++ b) = val a + 128 ^ a.length * val b := by
  induction a with
  | nil => simp [val]
  | cons x r ih =>
    simp only [List.cons_append, val, List.length_cons, ih, Nat.pow_succ]
    rw [Nat.mul_add, Nat.mul_comm (128 ^ r.length) 128, Nat.mul_assoc]
    omega
theorem val_lt (l : List UInt8) : val l < 128 ^ l.length := by
  induction l with
  | nil => simp [val]
  | cons b r ih => simp only [val, List.length_cons, Nat.pow_succ]; omega
theorem val_take_succ (s : List UInt8) (k : Nat) (h : k < s.length) : val (s.take (k + 1)) = val (s.take k) + 128 ^ k * ((s.getD k 0).toNat % 128) := by
  rw [List.take_succ_eq_append_getElem h, val_append, List.length_take, Nat.min_eq_left (by omega)]
  simp [val, h]

/-- The first byte without the highest bit ends the number. -/
theorem stop_eq : ∀ (k : Nat) {s l : List UInt8}, good l → l <+: s → (∀ i, i < k → 128 ≤ (s.getD i 0).toNat) → (s.getD k 0).toNat < 128 → k < s.length → l = s.take (k + 1) := by
  intro k
  induction k with
  | zero =>
    intro s l hl hp _ hs hk
    cases s with
    | nil => simp at hk
    | cons c t =>
      cases l with
      | nil => exact hl.elim
      | cons b r =>
        rw [List.cons_prefix_cons] at hp
        obtain ⟨rfl, hp⟩ := hp
        rcases hl with ⟨_, rfl⟩ | ⟨h1, _, _⟩
        · simp
        · simp at hs; omega
  | succ k ih =>
    intro s l hl hp hall hs hk
    cases s with
    | nil => simp at hk
    | cons c t =>
      cases l with
      | nil => exact hl.elim
      | cons b r =>
        rw [List.cons_prefix_cons] at hp
        obtain ⟨rfl, hp⟩ := hp
        have h0 := hall 0 (by omega)
        simp only [List.getD_cons_zero] at h0
        rcases hl with ⟨h1, _⟩ | ⟨_, hr, _⟩
        · omega
        · rw [List.take_succ_cons, ← ih hr hp (fun i hi => by simpa using hall (i + 1) (by omega)) (by simpa using hs) (by simpa using hk)]
theorem stop_none : ∀ (k : Nat) {s l : List UInt8}, good l → l <+: s → (∀ i, i < k → 128 ≤ (s.getD i 0).toNat) → k < l.length := by
  intro k
  induction k with
  | zero => intro s l hl _ _; cases l with | nil => exact hl.elim | cons b r => simp
  | succ k ih =>
    intro s l hl hp hall
    cases s with
    | nil =>
      have : l = [] := by simpa using hp
      subst this; exact hl.elim
    | cons c t =>
      cases l with
      | nil => exact hl.elim
      | cons b r =>
        rw [List.cons_prefix_cons] at hp
        obtain ⟨rfl, hp⟩ := hp
        have h0 := hall 0 (by omega)
        simp only [List.getD_cons_zero] at h0
        rcases hl with ⟨h1, _⟩ | ⟨_, hr, _⟩
        · omega
        · have := ih hr hp (fun i hi => by simpa using hall (i + 1) (by omega))
          simpa using this
theorem stop_good : ∀ (k : Nat) {s : List UInt8}, (∀ i, i < k → 128 ≤ (s.getD i 0).toNat) → (s.getD k 0).toNat < 128 → k < s.length → (k = 0 ∨ (s.getD k 0).toNat ≠ 0) → good (s.take (k + 1)) := by
  intro k
  induction k with
  | zero =>
    intro s _ hs hk _
    cases s with
    | nil => simp at hk
    | cons c t => exact .inl ⟨by simpa using hs, by simp⟩
  | succ k ih =>
    intro s hall hs hk hz
    cases s with
    | nil => simp at hk
    | cons c t =>
      have h0 := hall 0 (by omega)
      simp only [List.getD_cons_zero] at h0
      have hz' : (t.getD k 0).toNat ≠ 0 := by
        rcases hz with h | h
        · omega
        · simpa using h
      rw [List.take_succ_cons]
      refine .inr ⟨h0, ih (fun i hi => by simpa using hall (i + 1) (by omega)) (by simpa using hs) (by simpa using hk) (.inr hz'), fun e => ?_⟩
      have hkt : k < t.length := by simpa using hk
      cases k with
      | zero =>
        cases t with
        | nil => simp at hkt
        | cons d u =>
          simp at e
          subst e
          exact hz' rfl
      | succ k =>
        have := congrArg List.length e
        simp at this
        omega
/-- A needless last group. -/
theorem needless {k : Nat} {s : List UInt8} (h : good (s.take (k + 1))) (hall : ∀ i, i < k → 128 ≤ (s.getD i 0).toNat) (hk : k < s.length) (h0 : 0 < k) : (s.getD k 0).toNat ≠ 0 := by
  induction k generalizing s with
  | zero => omega
  | succ k ih =>
    cases s with
    | nil => simp at hk
    | cons c t =>
      have h1 := hall 0 (by omega)
      simp only [List.getD_cons_zero] at h1
      have hkt : k < t.length := by simpa using hk
      rw [List.take_succ_cons] at h
      rcases h with ⟨h2, _⟩ | ⟨_, hr, hne⟩
      · omega
      · cases k with
        | zero =>
          cases t with
          | nil => simp at hkt
          | cons d u =>
            intro e
            apply hne
            have : d = 0 := UInt8.toNat_inj.1 (by simpa using e)
            simp [this]
        | succ k =>
          have := ih hr (fun i hi => by simpa using hall (i + 1) (by omega)) hkt (by omega)
          simpa using this
end Go.Proofs.Ytflabcmjbhmphaa.Leb
/-
  The contract of package vint's Len: as many as the number's bytes.
-/
namespace Go.Proofs.Ytflabcmjbhmphaa
open Go.RowKit Leb

theorem pow128 (L : Nat) : 128 ^ L = 2 ^ (7 * L) := by rw [Nat.pow_mul]
theorem shr_zero_iff (x : BitVec 64) (n : Nat) : x >>> n = 0#64 ↔ x.toNat < 2 ^ n := by
  rw [← BitVec.toNat_inj, BitVec.toNat_ushiftRight, Nat.shiftRight_eq_div_pow]
  have h := Nat.div_eq_zero_iff (a := x.toNat) (b := 2 ^ n)
  have hp : 2 ^ n ≠ 0 := by have := Nat.two_pow_pos n; omega
  simp only [BitVec.toNat_ofNat, Nat.zero_mod]
  rw [h]
  simp
theorem len_of_width {x : BitVec 64} {n : Nat} (h : IsWidth x n) (L : Nat) (hL : L = 1 ∧ (n + 6) / 7 ≤ 1 ∨ 1 ≤ L ∧ L = (n + 6) / 7) : (leb x.toNat).length = L := by
  have h1 : x.toNat < 2 ^ n := (shr_zero_iff x n).1 h.2.1
  obtain ⟨K, rfl⟩ : ∃ K, L = K + 1 := ⟨L - 1, by omega⟩
  have up : (leb x.toNat).length ≤ K + 1 := by
    apply leb_len_le
    rw [pow128]
    exact Nat.lt_of_lt_of_le h1 (Nat.pow_le_pow_right (by decide) (by omega))
  have dn : K + 1 ≤ (leb x.toNat).length := by
    by_cases hK : K = 0
    · subst hK; exact leb_pos _
    · apply leb_len_ge
      rw [pow128]
      have h2 := h.2.2 (n - 1) (by omega)
      rw [Ne, shr_zero_iff] at h2
      exact Nat.le_trans (Nat.pow_le_pow_right (by decide) (by omega)) (Nat.le_of_not_lt h2)
  omega
theorem leb_len_ten (x : BitVec 64) : (leb x.toNat).length ≤ 10 := by
  apply leb_len_le 9
  have := x.isLt
  omega
def lenW (z : BitVec 64) : Nat := (leb z.toNat).length
theorem lenW_bd (z : BitVec 64) : 1 ≤ lenW z ∧ lenW z ≤ 10 := ⟨leb_pos _, leb_len_ten z⟩
theorem width_of (x : BitVec 64) (w : World) (n : Nat) (hn : IsWidth x n) :
    Calls Try.prog 72 #[.int .i64 x.toInt] w fun e w' => e = .returned (.int .i64 n) ∧ w' = w :=
  (width_any x w).mono (by rintro e w' ⟨⟨m, hm, rfl⟩, rfl⟩; exact ⟨by rw [hm.unique hn], rfl⟩)
theorem isWidth_some (x : BitVec 64) : ∃ n, IsWidth x n := by
  have key : ∀ m, x >>> m = 0#64 → m ≤ 64 → ∃ n, IsWidth x n := by
    intro m
    induction m with
    | zero => intro h _; exact ⟨0, by omega, h, fun j hj => by omega⟩
    | succ m ih =>
      intro h hm
      by_cases hx : x >>> m = 0#64
      · exact ih hx (by omega)
      · refine ⟨m + 1, hm, h, fun j hj e => hx ?_⟩
        rw [shr_zero_iff] at e ⊢
        exact Nat.lt_of_lt_of_le e (Nat.pow_le_pow_right (by decide) (by omega))
  exact key 64 (BitVec.ushiftRight_eq_zero (by omega)) (by omega)

set_option maxHeartbeats 400000 in
theorem len_any (x : BitVec 64) (w : World) :
    Calls Try.prog 69 #[.int .i64 x.toInt] w fun e w' => e = .returned (.int .i64 (lenW (zigW x))) ∧ w' = w := by
  obtain ⟨n, hn⟩ := isWidth_some (zigW x)
  have hn64 : (n : Int) ≤ 64 := by have := hn.1; omega
  have HN : Hid (IsWidth (zigW x) n) := hn
  clear hn
  go_enter Try.func69, Try.ntmps69
  go_wp2_with (first
    | (go_at_call 68; refine (zig_any _ _).mono ?_; rintro e w1 ⟨rfl, rfl⟩)
    | (go_at_call 72; refine (width_of _ _ n HN.out).mono ?_; rintro e w1 ⟨rfl, rfl⟩))
  · go_ret
    exact ⟨Wd.returned_int (by rw [lenW, len_of_width HN.out ((n + 6) / 7) (by omega)]; omega), rfl⟩
  · go_ret
    exact ⟨Wd.returned_int (by rw [lenW, len_of_width HN.out 1 (by omega)]; omega), rfl⟩
end Go.Proofs.Ytflabcmjbhmphaa
/-
  Whole arrays by value (any number of cells of one cell each): laws for the walk's operations alloc, build, box, load and store on them; and rows of 64 bools. No program is spoken of.
-/
namespace Go.Proofs.Ytflabcmjbhmphaa.Arr
open Go.RowKit

structure IsArr (P : Program) (t : TypeId) (n : Nat) (e : TypeId) (z : Array Value) : Prop where
  hu : P.underlying t = some (.array n e)
  hz : ∀ w, (zeroValue t).run P w = .ok (.agg z) w
  hi : (P.info? t).map (·.size) = some n
  hb : P.built t [] = some z
  hs : z.size = n

section
variable {P : Program} {t e : TypeId} {n : Nat} {z : Array Value} {ops : Array Oper} {rest : List Oper} {o : Oper} {a : Act} {w : World} {Q : Exit → Act → World → Prop}

theorem alloc_arr (A : IsArr P t n e z) (hgd : o.guard = none) (ho : o.op = .alloc t)
    (h : wpList P ops Q rest (a.put o.dst (.pointer (some ⟨w.heap.size, 0, none⟩))) (w.alloc (.cells z t))) : wpList P ops Q (o :: rest) a w := by
  refine wpList_plain hgd fun K hK => ?_
  unfold Oper.wp execOp
  simp only [ho, Instr.alloc, Sem.run_bind, A.hz, Result.andThen_ok]
  exact hK _ _ h
theorem box_arr (x : Operand) (c : Array Value) (hgd : o.guard = none) (ho : o.op = .box t x) (hx : a.eval x = .agg c)
    (h : wpList P ops Q rest (a.put o.dst (.pointer (some ⟨w.heap.size, 0, none⟩))) (w.alloc (.cells c t))) : wpList P ops Q (o :: rest) a w := by
  refine wpList_plain hgd fun K hK => ?_
  unfold Oper.wp execOp
  simp only [ho, hx, Instr.box, Sem.run_bind]
  exact hK _ _ h
theorem build_arr (A : IsArr P t n e z) (hgd : o.guard = none) (ho : o.op = .build t #[])
    (h : wpList P ops Q rest (a.put o.dst (.agg z)) w) : wpList P ops Q (o :: rest) a w := by
  refine wpList_build hgd t #[] ho ?_ ?_
  · simp [A.hb]
  · simpa [A.hb] using h
/-- A whole array into a block: the last one. -/
theorem store_new (A : IsArr P t n e z) (x y : Operand) (b : Nat) (c c' : Array Value) (W : World) (hW : w = W.alloc (.cells c t)) (hgd : o.guard = none) (ho : o.op = .store t x y) (hx : a.eval x = .pointer (some ⟨b, 0, none⟩)) (hb : b = W.heap.size) (hy : a.eval y = .agg c')
    (hc : c.size = n) (hc' : c'.size = n) (h1 : c'.all (·.oneCell') = true)
    (h : wpList P ops Q rest (a.put o.dst undef) (W.alloc (.cells c' t))) : wpList P ops Q (o :: rest) a w := by
  subst hb hW
  refine wpList_store_row hgd t x y ho W.heap.size c' hx hy t c (heap_alloc_last W _) (by rw [hc']; exact A.hi) (by omega) h1 ?_
  rw [World.setRow_alloc_new]
  exact h
theorem load_new (A : IsArr P t n e z) (x : Operand) (b : Nat) (c : Array Value) (W : World) (hW : w = W.alloc (.cells c t)) (hgd : o.guard = none) (ho : o.op = .load t x) (hx : a.eval x = .pointer (some ⟨b, 0, none⟩)) (hb : b = W.heap.size)
    (hc : c.size = n)
    (h : wpList P ops Q rest (a.put o.dst (.agg c)) w) : wpList P ops Q (o :: rest) a w := by
  subst hb hW
  exact wpList_load_row hgd t x ho W.heap.size hx t c (0, 0) _ (heap_alloc_last W _) A.hu rfl (by rw [hc]; exact A.hi) h
theorem _root_.Go.World.setRow_alloc2_first (w : World) (c c' : Array Value) (t : TypeId) (B : Obj) : ((w.alloc (.cells c t)).alloc B).setRow w.heap.size c' = (w.alloc (.cells c' t)).alloc B := by
  simp only [World.setRow, World.alloc]
  congr 1
  apply Array.ext_getElem?
  intro i
  rw [Array.getElem?_modify]
  by_cases h : w.heap.size = i
  · subst h
    simp [Array.getElem?_push]
  · have h' : ¬ i = w.heap.size := fun e => h e.symm
    simp [h, h', Array.getElem?_push]
/-- A whole array into the block ahead of the last one. -/
theorem store_first (A : IsArr P t n e z) (x y : Operand) (b : Nat) (c c' : Array Value) (W : World) (B : Obj) (hW : w = (W.alloc (.cells c t)).alloc B) (hgd : o.guard = none) (ho : o.op = .store t x y) (hx : a.eval x = .pointer (some ⟨b, 0, none⟩)) (hb : b = W.heap.size) (hy : a.eval y = .agg c')
    (hc : c.size = n) (hc' : c'.size = n) (h1 : c'.all (·.oneCell') = true)
    (h : wpList P ops Q rest (a.put o.dst undef) ((W.alloc (.cells c' t)).alloc B)) : wpList P ops Q (o :: rest) a w := by
  subst hb hW
  refine wpList_store_row hgd t x y ho W.heap.size c' hx hy t c (heap_alloc2_old W _ _) (by rw [hc']; exact A.hi) (by omega) h1 ?_
  rw [World.setRow_alloc2_first]
  exact h
end

/-- Sixty-four bools as cells. -/
def brow (f : Nat → Bool) : Array Value := Array.ofFn (n := 64) fun i => .bool (f i.val)
theorem brow_size (f : Nat → Bool) : (brow f).size = 64 := by unfold brow; exact Array.size_ofFn
theorem brow_one (f : Nat → Bool) : (brow f).all (·.oneCell') = true := by
  rw [Array.all_eq_true_iff_forall_mem]
  intro v hv
  unfold brow at hv
  obtain ⟨i, hi⟩ := Array.mem_ofFn.1 hv
  rw [← hi]; rfl
theorem brow_at (f : Nat → Bool) (k : Nat) (hk : k < 64) : (brow f)[k]? = some (.bool (f k)) := by
  unfold brow
  rw [Array.getElem?_ofFn]
  simp [hk]
theorem brow_set (f : Nat → Bool) (k : Nat) (v : Bool) : (brow f).setIfInBounds k (.bool v) = brow (fun i => if i = k then v else f i) := by
  apply Array.ext_getElem?
  intro i
  by_cases hi : i < 64
  · rw [brow_at _ i hi, Array.getElem?_setIfInBounds]
    by_cases h : k = i
    · subst h; simp [brow_size, hi]
    · have h' : ¬ i = k := fun e => h e.symm
      simp [h, h', brow_at _ i hi]
  · rw [Array.getElem?_eq_none (by rw [Array.size_setIfInBounds, brow_size]; omega), Array.getElem?_eq_none (by rw [brow_size]; omega)]
theorem brow_congr {f g : Nat → Bool} (h : ∀ i, i < 64 → f i = g i) : brow f = brow g := by
  unfold brow
  congr 1
  funext i
  rw [h i.val i.isLt]

/-- In the world w the block b holds the 64 bools f. -/
def Has (t : TypeId) (w : World) (b : Nat) (f : Nat → Bool) : Prop := w.heap[b]? = some (.cells (brow f) t (0, 0))
section
variable {t : TypeId} {w : World} {b : Nat} {f : Nat → Bool}
theorem Has.cell (h : Has t w b f) (k : Nat) (hk : k < 64) : w.cell? ⟨b, k, none⟩ = some (.bool (f k)) := by
  rw [cell_of_row w b k _ t (0, 0) h]; exact brow_at f k hk
theorem Has.frozen (h : Has t w b f) (k : Nat) : w.frozen? ⟨b, k, none⟩ = false := frozen_of_row w b k _ t h
theorem Has.set (h : Has t w b f) (k : Nat) (v : Bool) : Has t (w.setCell ⟨b, k, none⟩ (.bool v)) b (fun i => if i = k then v else f i) := by
  unfold Has
  rw [← brow_set]
  exact heap_setCell_same w b k _ t (.bool v) h
theorem Has.other (h : Has t w b f) (a : Addr) (v : Value) (hb : b ≠ a.block) : Has t (w.setCell a v) b f := by
  unfold Has; rw [heap_setCell_other w a b v hb]; exact h
theorem Has.drewN (h : Has t w b f) (n : Nat) : Has t (w.drewN n) b f := h
theorem Has.drew (h : Has t w b f) : Has t w.drew b f := h
theorem Has.below {w' : World} {B : Nat} (h : Has t w b f) (hb : Below B w w') (hB : b < B) : Has t w' b f := by
  unfold Has; rw [hb.block b hB]; exact h
theorem Has.lt (h : Has t w b f) : b < w.heap.size := (Array.getElem?_eq_some_iff.1 h).1
theorem Has.congr {g : Nat → Bool} (h : Has t w b f) (e : ∀ i, i < 64 → f i = g i) : Has t w b g := by
  unfold Has; rw [← brow_congr e]; exact h
theorem has_new (W : World) (f : Nat → Bool) : Has t (W.alloc (.cells (brow f) t)) W.heap.size f := heap_alloc_last W _
theorem has_alloc (h : Has t w b f) (o : Obj) : Has t (w.alloc o) b f := by
  unfold Has; rw [Below.heap_alloc w o b h.lt]; exact h
end
section
variable {P : Program} {t e : TypeId} {ops : Array Oper} {rest : List Oper} {o : Oper} {a : Act} {w : World} {Q : Exit → Act → World → Prop} {z : Array Value}
theorem load_has (A : IsArr P t 64 e z) (x : Operand) (b : Nat) (f : Nat → Bool) (hgd : o.guard = none) (ho : o.op = .load t x) (hx : a.eval x = .pointer (some ⟨b, 0, none⟩)) (hh : Has t w b f)
    (h : wpList P ops Q rest (a.put o.dst (.agg (brow f))) w) : wpList P ops Q (o :: rest) a w :=
  wpList_load_row hgd t x ho b hx t (brow f) (0, 0) _ hh A.hu rfl (by rw [brow_size]; exact A.hi) h
end
end Go.Proofs.Ytflabcmjbhmphaa.Arr
/-
  The contracts of package peristyleref01's Of and Word.
-/
namespace Go.Proofs.Ytflabcmjbhmphaa
open Go.RowKit Arr

theorem isBits : IsArr Try.prog 107 64 4 (brow fun _ => false) where
  hu := by kernel_rfl
  hz := (zero_of_info (n := 64) (by kernel_rfl)).1
  hi := by kernel_rfl
  hb := by kernel_rfl
  hs := brow_size _

def bitsOf (x : BitVec 64) (i : Nat) : Bool := x.getLsbD i
theorem of_step (x : BitVec 64) (k : Nat) : (brow fun i => decide (i < k) && x.getLsbD i).setIfInBounds k (.bool (x.getLsbD k)) = brow fun i => decide (i < k + 1) && x.getLsbD i := by
  rw [brow_set]
  apply brow_congr
  intro i hi
  by_cases h : i = k
  · subst h; simp
  · by_cases h2 : i < k
    · have : i < k + 1 := by omega
      simp [h, h2, this]
    · have : ¬ i < k + 1 := by omega
      simp [h, h2, this]
set_option maxHeartbeats 400000 in
theorem of_any (x : BitVec 64) (w : World) :
    Calls Try.prog 70 #[.int .i64 x.toInt] w fun e w' => e = .returned (.agg (brow (bitsOf x))) ∧ Below w.heap.size w w' := by
  go_enter Try.func70, Try.ntmps70
  go_wp2_with (first
    | (refine alloc_arr isBits rfl rfl ?_)
    | (refine build_arr isBits rfl rfl ?_)
    | (refine store_new isBits _ _ _ _ _ _ rfl rfl rfl rfl ?hb rfl (brow_size _) (brow_size _) (brow_one _) ?_; case hb => simp))
  go_loopg [4] 64 (fun g s4 wx => ∃ k : Nat, k + g = 64 ∧ s4 = .int .i64 k ∧ wx = (w.alloc (.cells (brow fun _ => false) 107)).alloc (.cells (brow fun i => decide (i < k) && x.getLsbD i) 107))
  case atStart => exact ⟨0, by omega, rfl, by rw [brow_congr (f := fun _ => false) (g := fun i => decide (i < 0) && x.getLsbD i) (fun i _ => by simp)]⟩
  case round =>
    obtain ⟨k, hkg, rfl, rfl⟩ := hrel
    cases gk with
    | zero =>
      obtain rfl : k = 64 := by omega
      rw [brow_congr (f := fun i => decide (i < 64) && x.getLsbD i) (g := bitsOf x) (fun i hi => by simp [hi, bitsOf])]
      go_wp2_with (first
        | (refine load_new isBits _ _ _ _ rfl rfl rfl rfl (by simp) (brow_size _) ?_)
        | (refine store_first isBits _ _ _ _ _ _ _ rfl rfl rfl rfl ?hb rfl (brow_size _) (brow_size _) (brow_one _) ?_; case hb => simp))
      exact bodyPost_ret (v := .agg (brow (bitsOf x))) (results_cell_row rfl _ _ w.heap.size 107 _ (0, 0) _ rfl (heap_alloc2_old w _ _) isBits.hu rfl (by rw [brow_size]; exact isBits.hi)) rfl ⟨rfl, ((Below.refl _ _).alloc (Nat.le_refl _) _).alloc (by simp) _⟩
    | succ g =>
      have hk : (k : Int) < 64 := by omega
      have m1 : min k 64 = k := by omega
      have hsz := brow_size (fun i => decide (i < k) && x.getLsbD i)
      have hc := brow_at (fun i => decide (i < k) && x.getLsbD i) k (by omega)
      go_wp2
      go_roundg g
      case measure => omega
      case rel => exact ⟨k + 1, by omega, by go_num, by rw [← of_step, ← Wd.bit_at x k (by omega)]⟩

def accW (f : Nat → Bool) : Nat → BitVec 64
  | 0 => 0#64
  | k + 1 => if f k then accW f k ||| 1#64 <<< k else accW f k
theorem accW_bit (f : Nat → Bool) (i : Nat) : ∀ k, (accW f k).getLsbD i = (decide (i < k) && decide (i < 64) && f i)
  | 0 => by simp [accW]
  | k + 1 => by
    have ih := accW_bit f i k
    rw [accW]
    by_cases h : f k
    · rw [if_pos h, BitVec.getLsbD_or, ih, BitVec.getLsbD_shiftLeft, BitVec.getLsbD_one]
      by_cases e : i = k
      · subst e; by_cases h64 : i < 64 <;> simp [h, h64]
      · by_cases h1 : i < k
        · have : i < k + 1 := by omega
          simp [h1, this]
        · have : ¬ i < k + 1 := by omega
          have h2 : ¬ (i - k = 0) := by omega
          simp [h1, this, h2]
    · rw [if_neg h, ih]
      by_cases e : i = k
      · subst e; simp [h]
      · by_cases h1 : i < k
        · have : i < k + 1 := by omega
          simp [h1, this]
        · have : ¬ i < k + 1 := by omega
          simp [h1, this]
def wordW (f : Nat → Bool) : BitVec 64 := accW f 64
theorem wordW_bit (f : Nat → Bool) (i : Nat) (hi : i < 64) : (wordW f).getLsbD i = f i := by
  unfold wordW; rw [accW_bit]; simp [hi]
theorem acc_step (f : Nat → Bool) (k : Nat) (hf : f k = true) : bits .or .i64 (accW f k).toInt (wrap64 (2 ^ k)) = (accW f (k + 1)).toInt := by
  have e : (1 : Int) = (1#64).toInt := by decide
  rw [← Int.one_mul (2 ^ k), e, Wd.i64_shl, Wd.i64_or, accW, if_pos hf]
set_option maxHeartbeats 400000 in
theorem word_any (f : Nat → Bool) (w : World) :
    Calls Try.prog 71 #[.agg (brow f)] w fun e w' => e = .returned (.int .i64 (wordW f).toInt) ∧ Below w.heap.size w w' := by
  go_enter Try.func71, Try.ntmps71
  go_wp2_with (first
    | (refine box_arr _ _ rfl rfl rfl ?_))
  go_loopg [3, 4] 64 (fun g s3 s4 wx => ∃ k : Nat, k + g = 64 ∧ s4 = .int .i64 k ∧ s3 = .int .i64 (accW f k).toInt ∧ wx = w.alloc (.cells (brow f) 107))
  case atStart => exact ⟨0, by omega, rfl, rfl, rfl⟩
  case round =>
    obtain ⟨k, hkg, rfl, rfl, rfl⟩ := hrel
    cases gk with
    | zero =>
      obtain rfl : k = 64 := by omega
      go_wp2
      go_ret
      exact ⟨rfl, (Below.refl _ _).alloc (Nat.le_refl _) _⟩
    | succ g =>
      have hk : (k : Int) < 64 := by omega
      have m1 : min k 64 = k := by omega
      have hc := brow_at f k (by omega)
      by_cases hf : f k
      · go_wp2
        go_roundg g
        case measure => omega
        case rel => exact ⟨k + 1, by omega, by go_num, by rw [← acc_step f k hf], rfl⟩
      · have hf' : f k = false := by simpa using hf
        go_wp2
        go_roundg g
        case measure => omega
        case rel => exact ⟨k + 1, by omega, by go_num, by rw [accW, if_neg hf], rfl⟩
end Go.Proofs.Ytflabcmjbhmphaa
/-
  The contracts of package peristyleref01's Field and With.
-/
namespace Go.Proofs.Ytflabcmjbhmphaa
open Go.RowKit Arr

/-- The bits that Field takes: from a on, w of them. -/
def fieldF (x : BitVec 64) (a : Nat) (w : Int) (i : Nat) : Bool := decide ((i : Int) < w ∧ a + i < 64) && bitsOf x (a + i)
theorem field_step (x : BitVec 64) (a : Nat) (w : Int) (k i : Nat) (h1 : (k : Int) < w) (h2 : a + k < 64) :
    (if i = k then bitsOf x (a + k) else decide (i < k) && fieldF x a w i) = (decide (i < k + 1) && fieldF x a w i) := by
  by_cases h : i = k
  · subst h; simp [fieldF, h1, h2]
  · by_cases h3 : i < k
    · have : i < k + 1 := by omega
      simp [h, h3, this]
    · have : ¬ i < k + 1 := by omega
      simp [h, h3, this]
theorem field_end (x : BitVec 64) (a : Nat) (w : Int) (k i : Nat) (h : ¬ (k : Int) < w ∨ ¬ a + k < 64) :
    (decide (i < k) && fieldF x a w i) = fieldF x a w i := by
  by_cases h3 : i < k
  · simp [h3]
  · have : ¬ ((i : Int) < w ∧ a + i < 64) := by omega
    simp [fieldF, this]

set_option maxHeartbeats 1000000 in
theorem refField_in (x : BitVec 64) (a : Nat) (ha : a < 64) (v : Int) (w : World) :
    Calls Try.prog 66 #[.int .i64 x.toInt, .int .i64 a, .int .i64 v] w fun e w' => e = .returned (.int .i64 (wordW (fieldF x a v)).toInt) ∧ Below w.heap.size w w' := by
  go_enter Try.func66, Try.ntmps66
  go_wp2_with (first
    | (go_at_call 70; refine (of_any _ _).mono ?_; rintro e w1 ⟨rfl, hb1⟩)
    | (refine alloc_arr isBits rfl rfl ?_)
    | (refine build_arr isBits rfl rfl ?_)
    | (refine store_new isBits _ _ _ _ _ _ rfl rfl rfl rfl ?hb rfl (brow_size _) (brow_size _) (brow_one _) ?_; case hb => simp))
  go_loopg [9] 64 (fun g s9 wx => ∃ k : Nat, k + g = 64 ∧ s9 = .int .i64 k ∧ Has 107 wx w1.heap.size (bitsOf x) ∧ Has 107 wx (w1.heap.size + 1) (fun i => decide (i < k) && fieldF x a v i) ∧ Below w1.heap.size w1 wx)
  case atStart => exact ⟨0, by omega, rfl, has_alloc (has_new _ _) _, (by simpa using has_new (w1.alloc (.cells (brow (bitsOf x)) _)) _ : Has _ _ _ _).congr (fun i _ => by simp), ((Below.refl _ _).alloc (Nat.le_refl _) _).alloc (by simp) _⟩
  case round =>
    obtain ⟨k, hkg, rfl, h0, h1, hb⟩ := hrel
    have ha0 : (0 : Int) ≤ (a : Int) := by omega
    have ha1 : (a : Int) < 64 := by omega
    by_cases hlt : (k : Int) < v ∧ a + k < 64
    · obtain ⟨hv, hak⟩ := hlt
      cases gk with
      | zero => omega
      | succ g =>
        have hk : (k : Int) < 64 := by omega
        have hk2 : (k : Int) < 64 - (a : Int) := by omega
        have hk3 : (a : Int) + (k : Int) < 64 := by omega
        have ck := h0.cell (a + k) (by omega)
        have co := h1.cell k (by omega)
        have cf := h1.frozen k
        go_wp2
        go_roundg g
        case measure => omega
        case rel =>
          refine ⟨k + 1, by omega, by go_num, ?_, ?_, ?_⟩
          · exact h0.other _ _ (by simp)
          · exact (h1.set k _).congr (fun i _ => field_step x a v k i hv hak)
          · exact hb.setCell (by simp) _
    · have hend : ¬ (k : Int) < v ∨ ¬ a + k < 64 := by omega
      have h2 : Has 107 _ (w1.heap.size + 1) (fieldF x a v) := h1.congr (fun i _ => field_end x a v k i hend)
      clear h1 hlt
      by_cases hk : (k : Int) < 64
      · by_cases hv : (k : Int) < v
        · have hk2 : ¬ (k : Int) < 64 - (a : Int) := by omega
          go_wp2_with (first
            | (refine load_has isBits _ _ _ rfl rfl rfl h2 ?_)
            | (go_at_call 71; refine (word_any _ _).mono ?_; rintro e w2 ⟨rfl, hb2⟩))
          go_ret
          exact ⟨rfl, (hb1.trans (hb.mono hb1.size)).trans (hb2.mono (Nat.le_trans hb1.size hb.size))⟩
        · go_wp2_with (first
            | (refine load_has isBits _ _ _ rfl rfl rfl h2 ?_)
            | (go_at_call 71; refine (word_any _ _).mono ?_; rintro e w2 ⟨rfl, hb2⟩))
          go_ret
          exact ⟨rfl, (hb1.trans (hb.mono hb1.size)).trans (hb2.mono (Nat.le_trans hb1.size hb.size))⟩
      · go_wp2_with (first
          | (refine load_has isBits _ _ _ rfl rfl rfl h2 ?_)
          | (go_at_call 71; refine (word_any _ _).mono ?_; rintro e w2 ⟨rfl, hb2⟩))
        go_ret
        exact ⟨rfl, (hb1.trans (hb.mono hb1.size)).trans (hb2.mono (Nat.le_trans hb1.size hb.size))⟩

set_option maxHeartbeats 1000000 in
theorem refField_out (x : BitVec 64) (a : Int) (ha : a < 0 ∨ 64 ≤ a) (v : Int) (w : World) :
    Calls Try.prog 66 #[.int .i64 x.toInt, .int .i64 a, .int .i64 v] w fun e w' => e = .returned (.int .i64 (wordW (fun _ => false)).toInt) ∧ Below w.heap.size w w' := by
  go_enter Try.func66, Try.ntmps66
  go_wp2_with (first
    | (go_at_call 70; refine (of_any _ _).mono ?_; rintro e w1 ⟨rfl, hb1⟩)
    | (refine alloc_arr isBits rfl rfl ?_)
    | (refine build_arr isBits rfl rfl ?_)
    | (refine store_new isBits _ _ _ _ _ _ rfl rfl rfl rfl ?hb rfl (brow_size _) (brow_size _) (brow_one _) ?_; case hb => simp))
  go_loopg [9] 64 (fun g s9 wx => g = 64 ∧ s9 = .int .i64 0 ∧ Has 107 wx (w1.heap.size + 1) (fun _ => false) ∧ Below w1.heap.size w1 wx)
  case atStart => exact ⟨rfl, rfl, (by simpa using has_new (w1.alloc (.cells (brow (bitsOf x)) _)) _ : Has _ _ _ _), ((Below.refl _ _).alloc (Nat.le_refl _) _).alloc (by simp) _⟩
  case round =>
    obtain ⟨hg, rfl, h2, hb⟩ := hrel
    clear hg
    by_cases hv : (0 : Int) < v
    · rcases ha with ha | ha
      · have ha' : ¬ (0 : Int) ≤ a := by omega
        go_wp2_with (first
          | (refine load_has isBits _ _ _ rfl rfl rfl h2 ?_)
          | (go_at_call 71; refine (word_any _ _).mono ?_; rintro e w2 ⟨rfl, hb2⟩))
        go_ret
        exact ⟨rfl, (hb1.trans (hb.mono hb1.size)).trans (hb2.mono (Nat.le_trans hb1.size hb.size))⟩
      · have ha0 : (0 : Int) ≤ a := by omega
        have ha' : ¬ a < 64 := by omega
        go_wp2_with (first
          | (refine load_has isBits _ _ _ rfl rfl rfl h2 ?_)
          | (go_at_call 71; refine (word_any _ _).mono ?_; rintro e w2 ⟨rfl, hb2⟩))
        go_ret
        exact ⟨rfl, (hb1.trans (hb.mono hb1.size)).trans (hb2.mono (Nat.le_trans hb1.size hb.size))⟩
    · go_wp2_with (first
        | (refine load_has isBits _ _ _ rfl rfl rfl h2 ?_)
        | (go_at_call 71; refine (word_any _ _).mono ?_; rintro e w2 ⟨rfl, hb2⟩))
      go_ret
      exact ⟨rfl, (hb1.trans (hb.mono hb1.size)).trans (hb2.mono (Nat.le_trans hb1.size hb.size))⟩

/-- The bits of x, those from a on, w of them, from y. -/
def withF (x : BitVec 64) (a : Nat) (w : Int) (y : BitVec 64) (i : Nat) : Bool := if a ≤ i ∧ ((i - a : Nat) : Int) < w then bitsOf y (i - a) else bitsOf x i
def withP (x : BitVec 64) (a : Nat) (y : BitVec 64) (k i : Nat) : Bool := if a ≤ i ∧ i < a + k then bitsOf y (i - a) else bitsOf x i
theorem with_step (x : BitVec 64) (a : Nat) (y : BitVec 64) (k i : Nat) :
    (if i = a + k then bitsOf y k else withP x a y k i) = withP x a y (k + 1) i := by
  unfold withP
  by_cases h : i = a + k
  · subst h
    have e : a + k - a = k := by omega
    simp [e]
  · by_cases h3 : a ≤ i ∧ i < a + k
    · have : a ≤ i ∧ i < a + (k + 1) := by omega
      simp only [h, if_false, if_pos h3, if_pos this]
    · have : ¬ (a ≤ i ∧ i < a + (k + 1)) := by omega
      simp only [h, if_false, if_neg h3, if_neg this]
theorem with_end (x : BitVec 64) (a : Nat) (w : Int) (y : BitVec 64) (k i : Nat) (hi : i < 64) (hk : (k : Int) ≤ w ∨ k = 0) (h : ¬ (k : Int) < w ∨ ¬ a + k < 64) :
    withP x a y k i = withF x a w y i := by
  unfold withP withF
  by_cases h3 : a ≤ i ∧ i < a + k
  · have : a ≤ i ∧ ((i - a : Nat) : Int) < w := by omega
    rw [if_pos h3, if_pos this]
  · have : ¬ (a ≤ i ∧ ((i - a : Nat) : Int) < w) := by omega
    rw [if_neg h3, if_neg this]

end Go.Proofs.Ytflabcmjbhmphaa
/-
  What bytes begin with, as a plain function: the number's word, how many bytes it has, and whether there is one (0, or 20). Pure mathematics.
-/
namespace Go.Proofs.Ytflabcmjbhmphaa
open Leb

/-- The bytes up to and with k are a number's. -/
def isAt (s : List UInt8) (k : Nat) : Bool := decide (k < s.length) && (leb (val (s.take (k + 1))) == s.take (k + 1)) && decide (val (s.take (k + 1)) < 18446744073709551616)
def tk (s : List UInt8) : BitVec 64 × Nat × Nat :=
  match (List.range 10).find? (isAt s) with
  | some k => (BitVec.ofNat 64 (val (s.take (k + 1))), k + 1, 0)
  | none => (0#64, 0, 20)
theorem isAt_iff (s : List UInt8) (k : Nat) : isAt s k = true ↔ k < s.length ∧ leb (val (s.take (k + 1))) = s.take (k + 1) ∧ val (s.take (k + 1)) < 18446744073709551616 := by
  simp [isAt, and_assoc]
theorem isAt_pre {s : List UInt8} {k : Nat} (h : isAt s k = true) : leb (BitVec.ofNat 64 (val (s.take (k + 1)))).toNat = s.take (k + 1) := by
  obtain ⟨_, h2, h3⟩ := (isAt_iff s k).1 h
  rw [BitVec.toNat_ofNat, Nat.mod_eq_of_lt (by omega), h2]
theorem tk_ok {z : BitVec 64} {s : List UInt8} (h : leb z.toNat <+: s) : tk s = (z, lenW z, 0) := by
  have hb := lenW_bd z
  have hlen : lenW z ≤ s.length := h.length_le
  have ht : s.take (lenW z - 1 + 1) = leb z.toNat := by
    rw [show lenW z - 1 + 1 = lenW z by omega]
    exact (List.prefix_iff_eq_take.1 h).symm
  have hat : isAt s (lenW z - 1) = true := by
    rw [isAt_iff, ht, val_leb]
    have := z.isLt
    exact ⟨by omega, rfl, by omega⟩
  unfold tk
  cases hf : (List.range 10).find? (isAt s) with
  | none =>
    have := List.find?_eq_none.1 hf (lenW z - 1) (by simp; omega)
    exact absurd hat this
  | some k =>
    have h1 := List.find?_some hf
    have h2 := isAt_pre h1
    have h3 : (BitVec.ofNat 64 (val (s.take (k + 1)))) = z := BitVec.eq_of_toNat_eq (leb_prefix (by rw [h2]; exact List.take_prefix _ _) h)
    have h4 := congrArg List.length h2
    have h5 := ((isAt_iff s k).1 h1).1
    rw [h3, List.length_take, Nat.min_eq_left (by omega)] at h4
    simp only
    rw [h3, ← h4, lenW]
theorem tk_no {s : List UInt8} (h : ∀ z : BitVec 64, ¬ leb z.toNat <+: s) : tk s = (0#64, 0, 20) := by
  unfold tk
  cases hf : (List.range 10).find? (isAt s) with
  | none => rfl
  | some k =>
    have h1 := List.find?_some hf
    exact absurd (by rw [isAt_pre h1]; exact List.take_prefix _ _) (h (BitVec.ofNat 64 (val (s.take (k + 1)))))
theorem tk_cases (s : List UInt8) : (∃ z : BitVec 64, leb z.toNat <+: s ∧ tk s = (z, lenW z, 0)) ∨ ((∀ z : BitVec 64, ¬ leb z.toNat <+: s) ∧ tk s = (0#64, 0, 20)) := by
  by_cases h : ∃ z : BitVec 64, leb z.toNat <+: s
  · obtain ⟨z, hz⟩ := h; exact .inl ⟨z, hz, tk_ok hz⟩
  · exact .inr ⟨fun z hz => h ⟨z, hz⟩, tk_no fun z hz => h ⟨z, hz⟩⟩
theorem tk_used_le (s : List UInt8) : (tk s).2.1 ≤ s.length ∧ (tk s).2.1 ≤ 10 := by
  rcases tk_cases s with ⟨z, hz, e⟩ | ⟨_, e⟩
  · rw [e]; exact ⟨hz.length_le, (lenW_bd z).2⟩
  · rw [e]; exact ⟨Nat.zero_le _, Nat.zero_le _⟩
theorem zag_zero : zagW 0#64 = 0#64 := by decide

/-- The word of the first k groups. -/
def gotW (s : List UInt8) (k : Nat) : BitVec 64 := BitVec.ofNat 64 (val (s.take k))
theorem got_nat (s : List UInt8) (k : Nat) : (gotW s k).toNat = val (s.take k) % 2 ^ 64 := by rw [gotW, BitVec.toNat_ofNat]
theorem val_take_lt (s : List UInt8) (k : Nat) : val (s.take k) < 2 ^ (7 * k) := by
  rw [← pow128]
  exact Nat.lt_of_lt_of_le (val_lt _) (Nat.pow_le_pow_right (by decide) (by rw [List.length_take]; omega))
theorem got_lt (s : List UInt8) (k : Nat) (hk : k ≤ 9) : (gotW s k).toNat = val (s.take k) ∧ (gotW s k).toNat < 2 ^ (7 * k) := by
  have h1 := val_take_lt s k
  have h2 : 2 ^ (7 * k) ≤ 2 ^ 63 := Nat.pow_le_pow_right (by decide) (by omega)
  have e : (gotW s k).toNat = val (s.take k) := by rw [got_nat, Nat.mod_eq_of_lt (by omega)]
  exact ⟨e, by rw [e]; exact h1⟩
/-- Setting bits above those of x is adding. -/
theorem or_shl (x : BitVec 64) (g m : Nat) (hx : x.toNat < 2 ^ m) : x ||| (BitVec.ofNat 64 g <<< m) = BitVec.ofNat 64 (x.toNat + 2 ^ m * g) := by
  have hx' : ∀ i, m ≤ i → x.getLsbD i = false := fun i hi => by
    rw [BitVec.getLsbD, Nat.testBit_lt_two_pow (Nat.lt_of_lt_of_le hx (Nat.pow_le_pow_right (by decide) hi))]
  apply BitVec.eq_of_getLsbD_eq
  intro i hi
  rw [BitVec.getLsbD_or, BitVec.getLsbD_shiftLeft, BitVec.getLsbD_ofNat, BitVec.getLsbD_ofNat, Nat.add_comm x.toNat, Nat.testBit_two_pow_mul_add _ hx]
  by_cases h : i < m
  · simp [h, hi, BitVec.getLsbD]
  · have h1 : i - m < 64 := by omega
    rw [hx' i (by omega)]
    simp [h, hi, h1]
theorem got_succ (s : List UInt8) (k : Nat) (hk : k ≤ 9) (hs : k < s.length) : gotW s k ||| (BitVec.ofNat 64 ((s.getD k 0).toNat % 128) <<< (7 * k)) = gotW s (k + 1) := by
  have h := got_lt s k hk
  rw [or_shl _ _ _ h.2, h.1, gotW, val_take_succ s k hs, pow128]
theorem with_shl (x y : BitVec 64) (a : Nat) (hx : x.toNat < 2 ^ a) (hy : y.toNat < 128) : wordW (withF x a 7 y) = x ||| (y <<< a) := by
  have hx' : ∀ i, a ≤ i → x.getLsbD i = false := fun i hi => by
    rw [BitVec.getLsbD, Nat.testBit_lt_two_pow (Nat.lt_of_lt_of_le hx (Nat.pow_le_pow_right (by decide) hi))]
  have hy' : ∀ i, 7 ≤ i → y.getLsbD i = false := fun i hi => by
    rw [BitVec.getLsbD, Nat.testBit_lt_two_pow (Nat.lt_of_lt_of_le hy (Nat.pow_le_pow_right (n := 2) (i := 7) (by decide) hi))]
  apply BitVec.eq_of_getLsbD_eq
  intro i hi
  rw [wordW_bit _ i hi, BitVec.getLsbD_or, BitVec.getLsbD_shiftLeft]
  unfold withF bitsOf
  by_cases h : a ≤ i
  · by_cases h2 : i - a < 7
    · rw [if_pos ⟨h, by omega⟩, hx' i h]
      have : ¬ i < a := by omega
      simp [this, hi]
    · rw [if_neg (by omega), hy' _ (by omega)]; simp
  · rw [if_neg (by omega)]
    have : i < a := by omega
    simp [this]
/-- What was met: the last group at k. -/
theorem tk_stop {s : List UInt8} {k : Nat} (hall : ∀ i, i < k → 128 ≤ (s.getD i 0).toNat) (hs : (s.getD k 0).toNat < 128) (hk : k < s.length) (hz : k = 0 ∨ (s.getD k 0).toNat ≠ 0) (hw : val (s.take (k + 1)) < 2 ^ 64) :
    tk s = (gotW s (k + 1), k + 1, 0) := by
  have hg := stop_good k hall hs hk hz
  have e : (gotW s (k + 1)).toNat = val (s.take (k + 1)) := by rw [got_nat, Nat.mod_eq_of_lt hw]
  have hl : leb (gotW s (k + 1)).toNat = s.take (k + 1) := by rw [e, leb_val hg]
  have := tk_ok (z := gotW s (k + 1)) (s := s) (by rw [hl]; exact List.take_prefix _ _)
  rw [this, lenW, hl, List.length_take, Nat.min_eq_left (by omega)]
theorem tk_stop_no {s : List UInt8} {k : Nat} (hall : ∀ i, i < k → 128 ≤ (s.getD i 0).toNat) (hs : (s.getD k 0).toNat < 128) (hk : k < s.length) (hz : (0 < k ∧ (s.getD k 0).toNat = 0) ∨ 2 ^ 64 ≤ val (s.take (k + 1))) :
    tk s = (0#64, 0, 20) := by
  apply tk_no
  intro z hp
  have e := stop_eq k (good_leb z.toNat) hp hall hs hk
  rcases hz with ⟨h0, h1⟩ | h1
  · exact needless (e ▸ good_leb z.toNat) hall hk h0 h1
  · rw [← e, val_leb] at h1
    have := z.isLt
    omega
theorem tk_long {s : List UInt8} {k : Nat} (hall : ∀ i, i < k → 128 ≤ (s.getD i 0).toNat) (hk : s.length ≤ k ∨ 10 ≤ k) : tk s = (0#64, 0, 20) := by
  apply tk_no
  intro z hp
  have h1 := stop_none k (good_leb z.toNat) hp hall
  have h2 := hp.length_le
  have h3 := leb_len_ten z
  omega
/-- The word that the groups make has these bytes, or they are no number's. -/
theorem tk_again {s : List UInt8} {k : Nat} (hall : ∀ i, i < k → 128 ≤ (s.getD i 0).toNat) (hs : (s.getD k 0).toNat < 128) (hk : k < s.length) :
    (leb (gotW s (k + 1)).toNat = s.take (k + 1) ∧ tk s = (gotW s (k + 1), k + 1, 0)) ∨ (leb (gotW s (k + 1)).toNat ≠ s.take (k + 1) ∧ tk s = (0#64, 0, 20)) := by
  by_cases h : leb (gotW s (k + 1)).toNat = s.take (k + 1)
  · refine .inl ⟨h, ?_⟩
    have := tk_ok (z := gotW s (k + 1)) (s := s) (by rw [h]; exact List.take_prefix _ _)
    rw [this, lenW, h, List.length_take, Nat.min_eq_left (by omega)]
  · refine .inr ⟨h, tk_no fun z hp => h ?_⟩
    have e := stop_eq k (good_leb z.toNat) hp hall hs hk
    have ez : (gotW s (k + 1)).toNat = z.toNat := by
      rw [got_nat, ← e, val_leb, Nat.mod_eq_of_lt z.isLt]
    rw [ez, e]
end Go.Proofs.Ytflabcmjbhmphaa
/-
  The contract of package vint's Take.
-/
namespace Go.Proofs.Ytflabcmjbhmphaa
open Go.RowKit Leb

theorem u8_andNot_all : ∀ n : Fin 256, bits .andNot .u8 ((n.val : Nat) : Int) 128 = ((n.val % 128 : Nat) : Int) := by decide +kernel
theorem u8_and_all : ∀ n : Fin 256, (bits .and .u8 ((n.val : Nat) : Int) 128 != 0) = decide (128 ≤ n.val) := by decide +kernel
theorem u8_and127_all : ∀ n : Fin 256, bits .and .u8 ((n.val : Nat) : Int) 127 = ((n.val % 128 : Nat) : Int) := by decide +kernel
theorem u8_or_all : ∀ n : Fin 256, bits .or .u8 ((n.val : Nat) : Int) 128 = ((n.val % 128 + 128 : Nat) : Int) := by decide +kernel
theorem u8_andNot (c : UInt8) : bits .andNot .u8 (c.toNat : Int) 128 = ((c.toNat % 128 : Nat) : Int) := u8_andNot_all ⟨c.toNat, c.toNat_lt⟩
theorem u8_and (c : UInt8) : (bits .and .u8 (c.toNat : Int) 128 != 0) = decide (128 ≤ c.toNat) := u8_and_all ⟨c.toNat, c.toNat_lt⟩
theorem u8_and127 (c : UInt8) : bits .and .u8 (c.toNat : Int) 127 = ((c.toNat % 128 : Nat) : Int) := u8_and127_all ⟨c.toNat, c.toNat_lt⟩
theorem getD_data (s : ByteArray) (k : Nat) (h : k < s.size) : s.data.toList.getD k 0 = s[k] := by
  have h2 : k < s.data.size := h
  have e : s[k] = s.data[k] := rfl
  rw [e, List.getD_eq_getElem?_getD, Array.getElem?_toList, Array.getElem?_eq_getElem h2]
  rfl
/-- A group that is shifted too far does not come back. -/
theorem shl_back (g m : Nat) (hg : g < 2 ^ 64) : ((BitVec.ofNat 64 g <<< m).toNat : Int) / 2 ^ m = g ↔ 2 ^ m * g < 2 ^ 64 := by
  have hp := Nat.two_pow_pos m
  have e : ((BitVec.ofNat 64 g <<< m).toNat) = (g * 2 ^ m) % 2 ^ 64 := by
    rw [BitVec.toNat_shiftLeft, BitVec.toNat_ofNat, Nat.mod_eq_of_lt hg, Nat.shiftLeft_eq]
  have e2 : (((BitVec.ofNat 64 g <<< m).toNat : Int) / 2 ^ m = g) ↔ ((g * 2 ^ m) % 2 ^ 64) / 2 ^ m = g := by
    rw [e]
    have : (((g * 2 ^ m) % 2 ^ 64 : Nat) : Int) / 2 ^ m = (((g * 2 ^ m) % 2 ^ 64 / 2 ^ m : Nat) : Int) := by simp
    rw [this]; omega
  rw [e2]
  constructor
  · intro h
    have h1 : 2 ^ m * ((g * 2 ^ m) % 2 ^ 64 / 2 ^ m) ≤ (g * 2 ^ m) % 2 ^ 64 := Nat.mul_div_le _ _
    rw [h] at h1
    omega
  · intro h
    rw [Nat.mod_eq_of_lt (by rw [Nat.mul_comm]; exact h), Nat.mul_div_cancel _ hp]
theorem u64_shl_g (g m : Nat) (hg : g < 2 ^ 64) : IntKind.u64.wrap ((g : Int) * 2 ^ m) = ((BitVec.ofNat 64 g <<< m).toNat : Int) := by
  have e : (g : Int) = ((BitVec.ofNat 64 g).toNat : Int) := by rw [BitVec.toNat_ofNat, Nat.mod_eq_of_lt (by omega)]
  rw [← Wd.u64_shl, ← e]
theorem got_succ7 (s : List UInt8) (k : Nat) (hk : k ≤ 9) (hs : k < s.length) : gotW s k ||| (BitVec.ofNat 64 ((s.getD k 0).toNat % 128) <<< (k * 7)) = gotW s (k + 1) := by
  rw [Nat.mul_comm k 7]; exact got_succ s k hk hs

/-- What a round of Take knows of its byte. -/
structure At (s : ByteArray) (k : Nat) (h : k < s.size) (g : Nat) (sh : BitVec 64) : Prop where
  group : bits .andNot .u8 (s[k].toNat : Int) 128 = (g : Int)
  lt : (g : Int) < 128
  shifted : IntKind.u64.wrap ((g : Int) * 2 ^ (k * 7)) = (sh.toNat : Int)
  word : bits .or .u64 ((gotW s.data.toList k).toNat : Int) (sh.toNat : Int) = ((gotW s.data.toList (k + 1)).toNat : Int)
  byte : (s.data.toList.getD k 0).toNat = s[k].toNat
  isg : g = s[k].toNat % 128
  back : ((sh.toNat : Int) / 2 ^ (k * 7) = g ↔ 2 ^ (7 * k) * g < 2 ^ 64)
theorem at_some (s : ByteArray) (k : Nat) (h : k < s.size) (hk : k ≤ 9) : ∃ g sh, At s k h g sh := by
  refine ⟨s[k].toNat % 128, BitVec.ofNat 64 (s[k].toNat % 128) <<< (k * 7), u8_andNot _, by omega, u64_shl_g _ _ (by omega), ?_, ?_, rfl, ?_⟩
  · rw [Wd.u64_or, ← got_succ7 s.data.toList k hk (by simpa using h), getD_data s k h]
  · rw [getD_data s k h]
  · rw [shl_back _ _ (by omega), Nat.mul_comm k 7]
theorem At.small {s : ByteArray} {k : Nat} {h : k < s.size} {g : Nat} {sh : BitVec 64} (a : At s k h g sh) (hc : s[k].toNat < 128) : (s.data.toList.getD k 0).toNat = g := by
  rw [a.byte, a.isg]; omega
theorem At.wide {s : ByteArray} {k : Nat} {h : k < s.size} {g : Nat} {sh : BitVec 64} (a : At s k h g sh) (hk : k ≤ 9) (hc : s[k].toNat < 128) : (val (s.data.toList.take (k + 1)) < 2 ^ 64) ↔ 2 ^ (7 * k) * g < 2 ^ 64 := by
  have e := val_take_succ s.data.toList k (by simpa using h)
  rw [a.small hc, pow128] at e
  have hg := a.lt
  have e2 : g % 128 = g := by omega
  rw [e2] at e
  have hl := val_take_lt s.data.toList k
  have hp : 2 ^ (7 * k) * 2 ^ (64 - 7 * k) = 2 ^ 64 := by rw [← Nat.pow_add]; congr 1; omega
  rw [e]
  constructor
  · intro h1; omega
  · intro h1
    have : g < 2 ^ (64 - 7 * k) := by
      rw [← hp] at h1
      exact Nat.lt_of_mul_lt_mul_left h1
    have h2 : 2 ^ (7 * k) * (g + 1) ≤ 2 ^ 64 := by
      rw [← hp]; exact Nat.mul_le_mul_left _ this
    rw [Nat.mul_add, Nat.mul_one] at h2
    omega
theorem At.stop {s : ByteArray} {k : Nat} {h : k < s.size} {g : Nat} {sh : BitVec 64} (a : At s k h g sh) (hk : k ≤ 9) (hc : s[k].toNat < 128) (hall : ∀ i, i < k → 128 ≤ (s.data.toList.getD i 0).toNat)
    (hz : k = 0 ∨ g ≠ 0) (hw : (sh.toNat : Int) / 2 ^ (k * 7) = g) : tk s.data.toList = (gotW s.data.toList (k + 1), k + 1, 0) := by
  refine tk_stop hall ?_ (by simpa using h) ?_ ((a.wide hk hc).2 (a.back.1 hw))
  · rw [a.byte]; exact hc
  · rw [a.small hc]; exact hz
theorem At.no {s : ByteArray} {k : Nat} {h : k < s.size} {g : Nat} {sh : BitVec 64} (a : At s k h g sh) (hk : k ≤ 9) (hc : s[k].toNat < 128) (hall : ∀ i, i < k → 128 ≤ (s.data.toList.getD i 0).toNat)
    (hz : (0 < k ∧ g = 0) ∨ ¬ (sh.toNat : Int) / 2 ^ (k * 7) = g) : tk s.data.toList = (0#64, 0, 20) := by
  refine tk_stop_no hall ?_ (by simpa using h) ?_
  · rw [a.byte]; exact hc
  · rw [a.small hc]
    rcases hz with hz | hz
    · exact .inl hz
    · refine .inr (Nat.le_of_not_lt fun e => hz (a.back.2 ((a.wide hk hc).1 e)))
theorem At.next {s : ByteArray} {k : Nat} {h : k < s.size} {g : Nat} {sh : BitVec 64} (a : At s k h g sh) (hc : 128 ≤ s[k].toNat) (hall : ∀ i, i < k → 128 ≤ (s.data.toList.getD i 0).toNat) : ∀ i, i < k + 1 → 128 ≤ (s.data.toList.getD i 0).toNat := by
  intro i hi
  by_cases e : i = k
  · rw [e, a.byte]; exact hc
  · exact hall i (by omega)
theorem take_no {s : List UInt8} (h : tk s = (0#64, 0, 20)) :
    Ending.returned (.tuple #[.int .i64 0, .int .i64 0, .int .i64 20]) = .returned (.tuple #[.int .i64 (zagW (tk s).1).toInt, .int .i64 (tk s).2.1, .int .i64 (tk s).2.2]) := by
  rw [h, zag_zero]; rfl
theorem take_yes {s : List UInt8} {z : BitVec 64} {k : Nat} (h : tk s = (z, k + 1, 0)) :
    Ending.returned (.tuple #[.int .i64 (zagW z).toInt, .int .i64 ((k : Int) + 1), .int .i64 0]) = .returned (.tuple #[.int .i64 (zagW (tk s).1).toInt, .int .i64 (tk s).2.1, .int .i64 (tk s).2.2]) := by
  rw [h]; rfl

end Go.Proofs.Ytflabcmjbhmphaa
/-
  Slices of bytes and of ints that a call makes by append: what they own, as lists of bytes and of words; the laws for append of one element and for the string of bytes.
-/
namespace Go.Proofs.Ytflabcmjbhmphaa
open Go.RowKit

def bv (l : List UInt8) : List Value := l.map fun b => .int .u8 (b.toNat : Int)
def iv (l : List (BitVec 64)) : List Value := l.map fun x => .int .i64 x.toInt
def OwnsB (w : World) (B : Nat) (v : Value) (l : List UInt8) : Prop := w.ownsRow B 5 1 v l.length (bv l)
def OwnsI (w : World) (B : Nat) (v : Value) (l : List (BitVec 64)) : Prop := w.ownsRow B 3 1 v l.length (iv l)

theorem ownsRow_below {w w' : World} {B : Nat} {e : TypeId} {size : Nat} {v : Value} {n : Nat} {xs : List Value} (h : w.ownsRow B e size v n xs) (hb : Below w.heap.size w w') : w'.ownsRow B e size v n xs := by
  refine ⟨h.1, ?_⟩
  rcases h.2 with hn | ⟨g, cap, cur, rfl, hbg, hg, rest⟩
  · exact .inl hn
  · refine .inr ⟨g, cap, cur, rfl, hbg, ?_, rest⟩
    rw [hb.block g (Array.getElem?_eq_some_iff.1 hg).1]
    exact hg
theorem ownsRow_base {w : World} {B B' : Nat} {e : TypeId} {size : Nat} {v : Value} {n : Nat} {xs : List Value} (h : w.ownsRow B e size v n xs) (hb : B' ≤ B) : w.ownsRow B' e size v n xs := by
  refine ⟨h.1, ?_⟩
  rcases h.2 with hn | ⟨g, cap, cur, rfl, hbg, rest⟩
  · exact .inl hn
  · exact .inr ⟨g, cap, cur, rfl, Nat.le_trans hb hbg, rest⟩
theorem OwnsB.below {w w' : World} {B : Nat} {v : Value} {l : List UInt8} (h : OwnsB w B v l) (hb : Below w.heap.size w w') : OwnsB w' B v l := ownsRow_below h hb
theorem OwnsI.below {w w' : World} {B : Nat} {v : Value} {l : List (BitVec 64)} (h : OwnsI w B v l) (hb : Below w.heap.size w w') : OwnsI w' B v l := ownsRow_below h hb
theorem OwnsB.base {w : World} {B B' : Nat} {v : Value} {l : List UInt8} (h : OwnsB w B v l) (hb : B' ≤ B) : OwnsB w B' v l := ownsRow_base h hb
theorem OwnsI.base {w : World} {B B' : Nat} {v : Value} {l : List (BitVec 64)} (h : OwnsI w B v l) (hb : B' ≤ B) : OwnsI w B' v l := ownsRow_base h hb
theorem ownsB_nil (w : World) (B : Nat) : OwnsB w B (.slice none 0 0) [] := World.ownsRow_nil w B _ _
theorem ownsI_nil (w : World) (B : Nat) : OwnsI w B (.slice none 0 0) [] := World.ownsRow_nil w B _ _

theorem info_u8 : (Try.prog.info? 5).map (fun i => (i.zero, i.size, i.bytes)) = some (some (.int .u8 0), 1, 1) := by kernel_rfl
theorem info_i64 : (Try.prog.info? 3).map (fun i => (i.zero, i.size, i.bytes)) = some (some (.int .i64 0), 1, 8) := by kernel_rfl

/-- 's = append(s, c)', s the call's own, of bytes. -/
theorem append_u8 {ops : Array Oper} {rest : List Oper} {o : Oper} {a : Act} {Q : Exit → Act → World → Prop} (hgd : o.guard = none) (s x : Operand)
    (ho : o.op = .call { callee := .builtin .append, args := #[s, x], argTypes := #[93, 93] })
    {w : World} {B : Nat} {v : Value} {l : List UInt8} {n : Int} {c : UInt8} (hs : a.eval s = v) (hx : a.eval x = .slice (some ⟨w.heap.size, 0, none⟩) 1 1)
    (hn : n = (c.toNat : Int)) (hown : OwnsB w B v l) (hB : B ≤ w.heap.size) (hl : l.length + 1 ≤ 1000000)
    (h : ∀ v' w', OwnsB w' B v' (l ++ [c]) → Below B w w' → wpList Try.prog ops Q rest (a.put o.dst v') w') :
    wpList Try.prog ops Q (o :: rest) a (w.alloc (.cells #[.int .u8 n] 5)) := by
  obtain ⟨i0, hi, hz0, hz1, hz2⟩ := info_parts info_u8
  refine wpList_append_own _ hgd s x 93 ho B 5 i0 (.int .u8 0) 1 1 Try.underlying93 hi hz0 hz1 hz2 rfl (by decide) v l.length (bv l) hs (World.ownsRow.alloc hown _) ⟨w.heap.size, 0, none⟩ 1 1 [.int .u8 n] hx rfl (cell_one_new _ _ _) ?_ ?_ ?_ ?_ ?_
  · intro u hu; simp at hu; subst hu; rfl
  · simp only [maxLen]; omega
  · omega
  · simp; omega
  · intro v' w' hown' hgrow _
    refine h v' w' ?_ ?_
    · subst hn
      simpa [OwnsB, bv] using hown'
    · refine ((Below.refl B w).alloc hB _).grown hgrow (by simp; omega) fun k hk => (hown.lt k hk).1
/-- 's = append(s, n)', s the call's own, of ints. -/
theorem append_i64 {ops : Array Oper} {rest : List Oper} {o : Oper} {a : Act} {Q : Exit → Act → World → Prop} (hgd : o.guard = none) (s x : Operand)
    (ho : o.op = .call { callee := .builtin .append, args := #[s, x], argTypes := #[45, 45] })
    {w : World} {B : Nat} {v : Value} {l : List (BitVec 64)} {n : Int} {c : BitVec 64} (hs : a.eval s = v) (hx : a.eval x = .slice (some ⟨w.heap.size, 0, none⟩) 1 1)
    (hn : n = c.toInt) (hown : OwnsI w B v l) (hB : B ≤ w.heap.size) (hl : l.length + 1 ≤ 1000000)
    (h : ∀ v' w', OwnsI w' B v' (l ++ [c]) → Below B w w' → wpList Try.prog ops Q rest (a.put o.dst v') w') :
    wpList Try.prog ops Q (o :: rest) a (w.alloc (.cells #[.int .i64 n] 3)) := by
  obtain ⟨i0, hi, hz0, hz1, hz2⟩ := info_parts info_i64
  refine wpList_append_own _ hgd s x 45 ho B 3 i0 (.int .i64 0) 1 8 Try.underlying45 hi hz0 hz1 hz2 rfl (by decide) v l.length (iv l) hs (World.ownsRow.alloc hown _) ⟨w.heap.size, 0, none⟩ 1 1 [.int .i64 n] hx rfl (cell_one_new _ _ _) ?_ ?_ ?_ ?_ ?_
  · intro u hu; simp at hu; subst hu; rfl
  · simp only [maxLen]; omega
  · omega
  · simp; omega
  · intro v' w' hown' hgrow _
    refine h v' w' ?_ ?_
    · subst hn
      simpa [OwnsI, iv] using hown'
    · refine ((Below.refl B w).alloc hB _).grown hgrow (by simp; omega) fun k hk => (hown.lt k hk).1

theorem foldl_push : ∀ (l : List UInt8) (s : ByteArray), (l.map fun b => (b.toNat : Int)).foldl (fun r n => r.push (UInt8.ofNat n.toNat)) s = ⟨s.data ++ l.toArray⟩ := by
  intro l
  induction l with
  | nil => intro s; simp
  | cons b r ih =>
    intro s
    simp only [List.map_cons, List.foldl_cons]
    rw [ih]
    apply ByteArray.ext
    simp [ByteArray.push]
/-- 'string(s)', s the call's own, of bytes. -/
theorem convert_own {w : World} {B : Nat} {v : Value} {l : List UInt8} (hown : OwnsB w B v l) (hl : 1 ≤ l.length) :
    (convert 93 9 v).run Try.prog w = .ok (.string ⟨l.toArray⟩) w := by
  have hc := @World.ownsRow.cells _ _ _ _ _ _ _ hown
  rcases hown.2 with ⟨_, h0⟩ | ⟨g, cap, cur, rfl, _, _, _⟩
  · omega
  · have hc := hc rfl
    rw [run_convert_bytes_string w _ _ 5 _ _ _ Try.underlying93 Try.underlying5 Try.underlying9]
    have e : ((l.map fun b => (b.toNat : Int)).map (Value.int .u8)) = bv l := by simp [bv]
    have hload : (loadCells ⟨g, 0, none⟩ l.length).run Try.prog w = .ok ((l.map fun b => (b.toNat : Int)).map (Value.int .u8)).toArray w := by
      rw [e]
      have := run_loadCells_list (P := Try.prog) w ⟨g, 0, none⟩ (bv l) hc
      simpa [bv] using this
    rw [run_bytesToString w _ _ cap _ hload, foldl_push]
    simp
theorem OwnsI.cell {w : World} {B : Nat} {v : Value} {l : List (BitVec 64)} (h : OwnsI w B v l) : (∃ g cap, v = .slice (some ⟨g, 0, none⟩) l.length cap ∧ B ≤ g ∧ g < w.heap.size ∧ l.length ≤ cap ∧ ∀ i, i < l.length → w.cell? ⟨g, i, none⟩ = some (.int .i64 (l.getD i 0#64).toInt)) ∨ (v = .slice none 0 0 ∧ l = []) := by
  have hc := @World.ownsRow.cells _ _ _ _ _ _ _ h
  have hlt := h.lt
  rcases h.2 with ⟨rfl, h0⟩ | ⟨g, cap, cur, rfl, hb, hg, hcap, _⟩
  · exact .inr ⟨rfl, List.eq_nil_of_length_eq_zero h0⟩
  · refine .inl ⟨g, cap, rfl, hb, (hlt g rfl).2, hcap, fun i hi => ?_⟩
    have hx := hc rfl i (.int .i64 (l.getD i 0#64).toInt) (by simp [iv, hi])
    have hadd : (⟨g, 0, none⟩ : Addr).add i = ⟨g, i, none⟩ := by unfold Addr.add; split <;> simp_all
    rw [hadd] at hx
    exact hx
end Go.Proofs.Ytflabcmjbhmphaa
/-
  The contracts of package vint's put and Put.
-/
namespace Go.Proofs.Ytflabcmjbhmphaa
open Go.RowKit Leb

/-- The bytes of a number, and of numbers one behind the other. -/
def enc1 (x : BitVec 64) : List UInt8 := leb (zigW x).toNat
def encs (zs : List (BitVec 64)) : List UInt8 := zs.flatMap enc1
theorem enc1_len (x : BitVec 64) : (enc1 x).length = lenW (zigW x) := rfl
theorem encs_len (zs : List (BitVec 64)) : (encs zs).length ≤ 10 * zs.length := by
  induction zs with
  | nil => simp [encs]
  | cons z r ih =>
    have h1 := (lenW_bd (zigW z)).2
    have h2 : (encs (z :: r)).length = (enc1 z).length + (encs r).length := by simp [encs]
    rw [h2, enc1_len, List.length_cons]; omega
theorem encs_snoc (zs : List (BitVec 64)) (k : Nat) (h : k < zs.length) : encs (zs.take (k + 1)) = encs (zs.take k) ++ enc1 (zs.getD k 0#64) := by
  rw [List.take_succ_eq_append_getElem h]
  simp only [encs, List.flatMap_append, List.flatMap_cons, List.flatMap_nil, List.append_nil]
  simp [h]
theorem leb_two {r : Nat} (h : 2 ≤ (leb r).length) : 128 ≤ r := by
  apply Nat.le_of_not_lt
  intro e
  rw [leb_small e] at h
  simp at h
theorem leb_one {r : Nat} (h : (leb r).length ≤ 1) : r < 128 := by
  apply Nat.lt_of_not_le
  intro e
  rw [leb_big e] at h
  have := leb_pos (r / 128)
  simp at h
  rw [h] at this
  simp at this
theorem put_or (r : BitVec 64) : bits .or .u8 ((r.toNat : Int) % 256) 128 = ((UInt8.ofNat (r.toNat % 128 + 128)).toNat : Int) := by
  have e : (r.toNat : Int) % 256 = ((r.toNat % 256 : Nat) : Int) := by omega
  rw [e, byte_small (by omega)]
  have := u8_or_all ⟨r.toNat % 256, by omega⟩
  simp only at this
  rw [this]
  omega
theorem put_shr (r : BitVec 64) : (r.toNat : Int) / 128 = ((r >>> 7).toNat : Int) := by
  have := Wd.u64_shr r 7
  simpa using this
theorem shr7 (r : BitVec 64) : (r >>> 7).toNat = r.toNat / 128 := by
  rw [BitVec.toNat_ushiftRight, Nat.shiftRight_eq_div_pow]
theorem put_last (r : BitVec 64) (h : r.toNat < 128) : (r.toNat : Int) = ((UInt8.ofNat r.toNat).toNat : Int) := by
  rw [byte_small (by omega)]
set_option maxRecDepth 4000 in
set_option maxHeartbeats 1000000 in
theorem put_some (B : Nat) (v : Value) (l : List UInt8) (b off c : Nat) (zs : List (BitVec 64)) (w : World) (hown : OwnsB w B v l) (hB : B ≤ w.heap.size) (hb : b < B)
    (hz : ∀ i, i < zs.length → w.cell? ⟨b, off + i, none⟩ = some (.int .i64 (zs.getD i 0#64).toInt)) (hl : l.length + 10 * zs.length ≤ 900000) :
    Calls Try.prog 64 #[v, .slice (some ⟨b, off, none⟩) zs.length c] w fun e w' => (∃ v', e = .returned v' ∧ OwnsB w' B v' (l ++ encs zs)) ∧ Below B w w' := by
  obtain ⟨m, hm⟩ : ∃ m, m = zs.length := ⟨_, rfl⟩
  rw [← hm]
  have hm9 : (m : Int) ≤ 900000 := by omega
  have hmz : (m : Int) ≤ zs.length := by omega
  have HM : Hid (m = zs.length) := hm
  clear hm
  go_enter Try.func64, Try.ntmps64
  go_wp2
  go_loopg [0, 10] m (fun g s0 s10 wx => ∃ k : Nat, k + g = m ∧ s10 = .int .i64 k ∧ OwnsB wx B s0 (l ++ encs (zs.take k)) ∧ Below B w wx)
  case atStart => exact ⟨0, by omega, rfl, by simpa [encs] using hown, Below.refl _ _⟩
  case round =>
    obtain ⟨k, hkg, rfl, hown1, hb1⟩ := hrel
    by_cases hk : k < m
    · have hkI : (k : Int) < (m : Int) := by omega
      have hcell := (hb1.cell (p := ⟨b, off + k, none⟩) hb).trans (hz k (by rw [← HM.out]; exact hk))
      have hl2 : (l ++ encs (zs.take k)).length ≤ l.length + 10 * k := by
        have := encs_len (zs.take k)
        rw [List.length_take] at this
        rw [List.length_append]; omega
      have hsn := encs_snoc zs k (by rw [← HM.out]; exact hk)
      obtain ⟨L, hL⟩ : ∃ L, L = l ++ encs (zs.take k) := ⟨_, rfl⟩
      rw [← hL] at hown1 hl2
      obtain ⟨x, hx⟩ : ∃ x, x = zs.getD k 0#64 := ⟨_, rfl⟩
      rw [← hx] at hcell hsn
      have HX : Hid (encs (zs.take (k + 1)) = encs (zs.take k) ++ enc1 x) := hsn
      have HL : Hid (L = l ++ encs (zs.take k)) := hL
      have hlen := lenW_bd (zigW x)
      obtain ⟨N, hN⟩ : ∃ N, lenW (zigW x) = N + 1 := ⟨lenW (zigW x) - 1, by omega⟩
      have hN9 : (N : Int) ≤ 9 := by omega
      have r1 : IntKind.u64.wrap (zigW x).toInt = ((zigW x).toNat : Int) := Wd.u64_toInt _
      clear hsn hL hx hlen
      have hNI : ((lenW (zigW x) : Nat) : Int) = (N : Int) + 1 := by omega
      clear hN
      go_wp2_with (first
        | (go_at_call 68; refine (zig_any _ _).mono ?_; rintro e w1 ⟨rfl, rfl⟩)
        | (go_at_call 69; refine (len_any _ _).mono ?_; rintro e w1 ⟨rfl, rfl⟩))
      go_loopg [0, 7, 20] N (fun g s0 s7 s20 wx => ∃ (j : Nat) (done : List UInt8) (r : BitVec 64), j + g = N ∧ s20 = .int .i64 j ∧ s7 = .int .u64 r.toNat ∧ enc1 x = done ++ leb r.toNat ∧ (leb r.toNat).length = g + 1 ∧ OwnsB wx B s0 (L ++ done) ∧ Below B w wx)
      case atStart => exact ⟨0, [], zigW x, by omega, rfl, rfl, rfl, by have : (leb (zigW x).toNat).length = lenW (zigW x) := rfl; omega, by simpa using hown1, hb1⟩
      case round =>
        obtain ⟨j, done, r, hjg, rfl, rfl, henc, hrl, hown2, hb2⟩ := hrel
        have HE : Hid (enc1 x = done ++ leb r.toNat) := henc
        have HR : Hid ((leb r.toNat).length = gk + 1) := hrl
        have hdl : (L ++ done).length ≤ l.length + 10 * k + 10 := by
          have e := congrArg List.length henc
          rw [enc1_len, List.length_append] at e
          have := (lenW_bd (zigW x)).2
          rw [List.length_append]; omega
        have hsz := hb2.size
        clear henc hrl hown1 hb1
        by_cases hj : j < N
        · have hr := leb_two (r := r.toNat) (by rw [HR.out]; omega)
          have hjI : (j : Int) < (N : Int) := by omega
          have r2 : Hid (bits .or .u8 ((r.toNat : Int) % 256) 128 = ((UInt8.ofNat (r.toNat % 128 + 128)).toNat : Int)) := put_or r
          have r3 := put_shr r
          go_wp2_with (at_builtin; (refine append_u8 rfl (.tmp 22) (.tmp 26) rfl rfl rfl r2.out hown2 ?hB ?hl ?_; (case hB => omega); (case hl => omega); intro v3 w3 hown3 hb3))
          go_roundg (N - (j + 1))
          case measure => omega
          case rel =>
            refine ⟨j + 1, done ++ [UInt8.ofNat (r.toNat % 128 + 128)], r >>> 7, by omega, by go_num, ?_, ?_, ?_, by simpa using hown3, hb2.trans hb3⟩
            · first | rfl | go_num
            · rw [HE.out, leb_big hr, shr7]; simp
            · have h1 := HR.out
              rw [leb_big hr, List.length_cons] at h1
              rw [shr7]; omega
        · have hr := leb_one (r := r.toNat) (by rw [HR.out]; omega)
          have hjI : ¬ (j : Int) < (N : Int) := by omega
          have r2 : Hid ((r.toNat : Int) = ((UInt8.ofNat r.toNat).toNat : Int)) := put_last r hr
          go_wp2_with (at_builtin; refine append_u8 rfl (.tmp 31) (.tmp 34) rfl rfl rfl r2.out hown2 ?hB ?hl ?_; (case hB => omega); (case hl => omega); intro v3 w3 hown3 hb3)
          go_roundg (m - (k + 1))
          case measure => omega
          case rel =>
            refine ⟨k + 1, by omega, by go_num, ?_, hb2.trans hb3⟩
            have e1 := HE.out
            rw [leb_small hr] at e1
            have e2 := HL.out
            rw [HX.out, e1, ← List.append_assoc, ← e2, ← List.append_assoc]
            exact hown3
    · have hkI : ¬ (k : Int) < (m : Int) := by omega
      have e : zs.take k = zs := List.take_of_length_le (by rw [← HM.out]; omega)
      rw [e] at hown1
      clear e
      go_wp2
      go_ret
      exact ⟨⟨_, rfl, hown1⟩, hb1⟩

set_option maxHeartbeats 400000 in
theorem put_none (v : Value) (a : Option Addr) (c : Nat) (w : World) :
    Calls Try.prog 64 #[v, .slice a 0 c] w fun e w' => e = .returned v ∧ w' = w := by
  go_enter Try.func64, Try.ntmps64
  go_wp2
  go_loopg [0, 10] 0 (fun g s0 s10 wx => g = 0 ∧ s0 = v ∧ s10 = .int .i64 0 ∧ wx = w)
  case atStart => exact ⟨rfl, rfl, rfl, rfl⟩
  case round =>
    obtain ⟨hg, rfl, rfl, rfl⟩ := hrel
    clear hg
    go_wp2
    go_ret
    exact ⟨rfl, rfl⟩

/-- The text of a list of bytes. -/
def str (l : List UInt8) : ByteArray := ⟨l.toArray⟩
theorem str_size (l : List UInt8) : (str l).size = l.length := rfl
theorem str_list (l : List UInt8) : (str l).data.toList = l := by simp [str]
theorem toList_str (l : List UInt8) : (str l).toList = l := by
  rw [ByteArray.toList_eq]; exact str_list l

set_option maxHeartbeats 400000 in
theorem put_any (x : BitVec 64) (w : World) :
    Calls Try.prog 59 #[.int .i64 x.toInt] w fun e w' => e = .returned (.string (str (enc1 x))) ∧ Below w.heap.size w w' := by
  have hp := leb_pos (zigW x).toNat
  go_enter Try.func59, Try.ntmps59
  go_wp2_with (go_at_call 64; refine (put_some (w.heap.size + 1) _ [] w.heap.size 0 1 [x] _ (ownsB_nil _ _) ?h1 ?h2 ?h3 ?h4).mono ?_; (case h1 => simp); (case h2 => simp); (case h3 => intro i hi; obtain rfl : i = 0 := (by simpa using hi); simp); (case h4 => simp); rintro e w1 ⟨⟨v1, rfl, hown⟩, hb⟩; have hcv := convert_own hown (by simp [encs]; exact hp))
  go_ret
  refine ⟨by simp [encs, str], ((Below.refl _ _).alloc (Nat.le_refl _) _).trans (hb.mono (by omega))⟩
end Go.Proofs.Ytflabcmjbhmphaa
/-
  The contracts of package peristyleref01's Zig and Zag.
-/
namespace Go.Proofs.Ytflabcmjbhmphaa
open Go.RowKit Arr

def zigP (x : BitVec 64) (k i : Nat) : Bool := if i = 0 then bitsOf x 63 else decide (i < k) && (bitsOf x (i - 1) != bitsOf x 63)
theorem zigP_one (x : BitVec 64) (i : Nat) : (if i = 0 then bitsOf x 63 else false) = zigP x 1 i := by
  unfold zigP
  by_cases h : i = 0
  · simp [h]
  · have : ¬ i < 1 := by omega
    simp [h]
theorem zigP_step (x : BitVec 64) (k i : Nat) (hk : 1 ≤ k) : (if i = k then (bitsOf x (k - 1) != bitsOf x 63) else zigP x k i) = zigP x (k + 1) i := by
  unfold zigP
  by_cases h : i = k
  · subst h
    have h0 : ¬ i = 0 := by omega
    simp [h0]
  · by_cases h0 : i = 0
    · have : ¬ 0 = k := by omega
      simp [h0, this]
    · by_cases h1 : i < k
      · have : i < k + 1 := by omega
        simp [h, h0, h1, this]
      · have : ¬ i < k + 1 := by omega
        simp [h, h0, h1, this]

set_option maxHeartbeats 400000 in
theorem refZig_any (x : BitVec 64) (w : World) :
    Calls Try.prog 65 #[.int .i64 x.toInt] w fun e w' => e = .returned (.int .i64 (wordW (zigP x 64)).toInt) ∧ Below w.heap.size w w' := by
  have b63 := brow_at (bitsOf x) 63 (by omega)
  have b0 := brow_at (fun _ => false) 0 (by omega)
  go_enter Try.func65, Try.ntmps65
  go_wp2_with (first
    | (go_at_call 70; refine (of_any _ _).mono ?_; rintro e w1 ⟨rfl, hb1⟩)
    | (refine alloc_arr isBits rfl rfl ?_)
    | (refine build_arr isBits rfl rfl ?_)
    | (refine store_new isBits _ _ _ _ _ _ rfl rfl rfl rfl ?hb rfl (brow_size _) (brow_size _) (brow_one _) ?_; case hb => simp))
  clear b63 b0
  rw [brow_set]
  go_loopg [5] 63 (fun g s5 wx => ∃ k : Nat, 1 ≤ k ∧ k + g = 64 ∧ s5 = .int .i64 k ∧ Has 107 wx w1.heap.size (bitsOf x) ∧ Has 107 wx (w1.heap.size + 1) (zigP x k) ∧ Below w1.heap.size w1 wx)
  case atStart => exact ⟨1, by omega, by omega, rfl, has_alloc (has_new _ _) _, (by simpa using has_new (w1.alloc (.cells (brow (bitsOf x)) _)) _ : Has _ _ _ _).congr (fun i _ => zigP_one x i), ((Below.refl _ _).alloc (Nat.le_refl _) _).alloc (by simp) _⟩
  case round =>
    obtain ⟨k, hk1, hkg, rfl, h0, h1, hb⟩ := hrel
    cases gk with
    | zero =>
      obtain rfl : k = 64 := by omega
      go_wp2_with (first
        | (refine load_has isBits _ _ _ rfl rfl rfl h1 ?_)
        | (go_at_call 71; refine (word_any _ _).mono ?_; rintro e w2 ⟨rfl, hb2⟩))
      go_ret
      exact ⟨rfl, (hb1.trans (hb.mono hb1.size)).trans (hb2.mono (Nat.le_trans hb1.size hb.size))⟩
    | succ g =>
      have hk : (k : Int) < 64 := by omega
      have c63 := h0.cell 63 (by omega)
      have ck := h0.cell (k - 1) (by omega)
      have co := h1.cell k (by omega)
      have cf := h1.frozen k
      have ek : ((k : Int) - 1).toNat = k - 1 := by omega
      go_wp2
      go_region
      go_wp2
      go_roundg g
      case measure => omega
      case rel =>
        refine ⟨k + 1, by omega, by omega, by go_num, ?_, ?_, ?_⟩
        · exact h0.other _ _ (by simp)
        · exact (h1.set k _).congr (fun i _ => zigP_step x k i hk1)
        · exact (hb.setCell (by simp) _).drew

def zagP (x : BitVec 64) (k i : Nat) : Bool := decide (i < k) && (bitsOf x (i + 1) != bitsOf x 0)
theorem zagP_step (x : BitVec 64) (k i : Nat) : (if i = k then (bitsOf x (k + 1) != bitsOf x 0) else zagP x k i) = zagP x (k + 1) i := by
  unfold zagP
  by_cases h : i = k
  · subst h; simp
  · by_cases h1 : i < k
    · have : i < k + 1 := by omega
      simp [h, h1, this]
    · have : ¬ i < k + 1 := by omega
      simp [h, h1, this]
def zagF (x : BitVec 64) (i : Nat) : Bool := if i = 63 then bitsOf x 0 else zagP x 63 i

end Go.Proofs.Ytflabcmjbhmphaa
/-
  What the document's Zig and Zag (bit by bit) are, as words; Zag goes back. Pure mathematics over the definitions of BitsA and RefZig.
-/
namespace Go.Proofs.Ytflabcmjbhmphaa
open Arr

theorem zig_eq (x : BitVec 64) : wordW (zigP x 64) = zigW x := by
  apply BitVec.eq_of_getLsbD_eq
  intro i hi
  rw [wordW_bit _ i hi]
  unfold zigP zigW bitsOf
  have hm : x.msb = x.getLsbD 63 := by rw [BitVec.msb_eq_getLsbD_last]
  rw [hm]
  by_cases h : i = 0
  · subst h
    cases h63 : x.getLsbD 63 <;> simp
  · have h1 : ¬ i < 1 := by omega
    rw [if_neg h]
    cases h63 : x.getLsbD 63
    · rw [if_neg (by simp), BitVec.getLsbD_shiftLeft]; simp [hi, h]
    · rw [if_pos rfl, BitVec.getLsbD_not, BitVec.getLsbD_shiftLeft]; simp [hi, h]
theorem zag_eq (x : BitVec 64) : wordW (zagF x) = zagW x := by
  apply BitVec.eq_of_getLsbD_eq
  intro i hi
  rw [wordW_bit _ i hi]
  unfold zagF zagP zagW bitsOf
  by_cases h : i = 63
  · subst h
    rw [if_pos rfl]
    cases h0 : x.getLsbD 0
    · rw [if_neg (by simp), BitVec.getLsbD_ushiftRight]; simp
    · rw [if_pos rfl, BitVec.getLsbD_not, BitVec.getLsbD_ushiftRight]; simp
  · have h1 : i < 63 := by omega
    rw [if_neg h]
    cases h0 : x.getLsbD 0
    · rw [if_neg (by simp), BitVec.getLsbD_ushiftRight]; simp [h1, Nat.add_comm]
    · rw [if_pos rfl, BitVec.getLsbD_not, BitVec.getLsbD_ushiftRight]; simp [h1, hi, Nat.add_comm]
theorem zag_zig (x : BitVec 64) : zagW (zigW x) = x := by
  apply BitVec.eq_of_getLsbD_eq
  intro i hi
  unfold zagW zigW
  have hm : x.msb = x.getLsbD 63 := by rw [BitVec.msb_eq_getLsbD_last]
  rw [hm]
  cases h63 : x.getLsbD 63
  · rw [if_neg (by simp)]
    rw [if_neg (by simp), BitVec.getLsbD_ushiftRight, BitVec.getLsbD_shiftLeft]
    by_cases h : i = 63
    · subst h; simpa using h63
    · have : 1 + i < 64 := by omega
      simp [this]
  · rw [if_pos rfl]
    rw [if_pos (by simp), BitVec.getLsbD_not, BitVec.getLsbD_ushiftRight, BitVec.getLsbD_not, BitVec.getLsbD_shiftLeft]
    by_cases h : i = 63
    · subst h; simp [h63]
    · have : 1 + i < 64 := by omega
      simp [this, hi]
theorem zig_zag (x : BitVec 64) : zigW (zagW x) = x := by
  apply BitVec.eq_of_getLsbD_eq
  intro i hi
  unfold zagW zigW
  cases h0 : x.getLsbD 0
  · rw [if_neg (by simp)]
    rw [if_neg (by simp), BitVec.getLsbD_shiftLeft, BitVec.getLsbD_ushiftRight]
    by_cases h : i = 0
    · subst h; simpa using h0
    · have h1 : ¬ i < 1 := by omega
      have h2 : 1 + (i - 1) = i := by omega
      simp [hi, h, h2]
  · rw [if_pos rfl]
    rw [if_pos (by simp [BitVec.msb_eq_getLsbD_last]), BitVec.getLsbD_not, BitVec.getLsbD_shiftLeft, BitVec.getLsbD_not, BitVec.getLsbD_ushiftRight]
    by_cases h : i = 0
    · subst h; simpa using h0
    · have h1 : ¬ i < 1 := by omega
      have h2 : 1 + (i - 1) = i := by omega
      have h3 : i - 1 < 64 := by omega
      simp [hi, h, h2, h3]
end Go.Proofs.Ytflabcmjbhmphaa
/-
  The contract of package peristyleref02's Put.
-/
namespace Go.Proofs.Ytflabcmjbhmphaa
open Go.RowKit Leb

theorem field_low (x : BitVec 64) : wordW (fieldF x 0 7) = BitVec.ofNat 64 (x.toNat % 128) := by
  apply BitVec.eq_of_getLsbD_eq
  intro i hi
  rw [wordW_bit _ i hi, BitVec.getLsbD_ofNat]
  unfold fieldF bitsOf
  rw [show (128 : Nat) = 2 ^ 7 from rfl, Nat.testBit_mod_two_pow]
  by_cases h : i < 7
  · have h2 : (i : Int) < 7 := by omega
    simp [h, h2, hi, BitVec.getLsbD]
  · have h2 : ¬ (i : Int) < 7 := by omega
    simp [h, h2]
theorem field_high (x : BitVec 64) : wordW (fieldF x 7 64) = x >>> 7 := by
  apply BitVec.eq_of_getLsbD_eq
  intro i hi
  rw [wordW_bit _ i hi, BitVec.getLsbD_ushiftRight]
  unfold fieldF bitsOf
  by_cases h : 7 + i < 64
  · have h2 : (i : Int) < 64 := by omega
    simp [h, h2]
  · rw [BitVec.getLsbD_of_ge x (7 + i) (by omega)]; simp
theorem refLow (x : BitVec 64) (w : World) (c : Nat) (hc : c = x.toNat % 128) :
    Calls Try.prog 66 #[.int .i64 x.toInt, .int .i64 0, .int .i64 7] w fun e w' => e = .returned (.int .i64 (c : Int)) ∧ Below w.heap.size w w' := by
  refine (refField_in x 0 (by decide) 7 w).mono ?_
  rintro e w' ⟨rfl, hb⟩
  rw [field_low, Wd.toInt_of_small _ (by omega), hc]
  exact ⟨rfl, hb⟩
theorem refHigh (x : BitVec 64) (w : World) (q : BitVec 64) (hq : q = x >>> 7) :
    Calls Try.prog 66 #[.int .i64 x.toInt, .int .i64 7, .int .i64 64] w fun e w' => e = .returned (.int .i64 q.toInt) ∧ Below w.heap.size w w' := by
  refine (refField_in x 7 (by decide) 64 w).mono ?_
  rintro e w' ⟨rfl, hb⟩
  rw [field_high, hq]
  exact ⟨rfl, hb⟩
theorem refZig_eq (x : BitVec 64) (w : World) :
    Calls Try.prog 65 #[.int .i64 x.toInt] w fun e w' => e = .returned (.int .i64 (zigW x).toInt) ∧ Below w.heap.size w w' := by
  refine (refZig_any x w).mono ?_
  rintro e w' ⟨rfl, hb⟩
  rw [zig_eq]
  exact ⟨rfl, hb⟩
theorem toInt_zero_iff (x : BitVec 64) : (x.toInt == 0) = decide (x.toNat = 0) := by
  rw [Bool.eq_iff_iff, beq_iff_eq, decide_eq_true_iff, BitVec.toInt_eq_toNat_bmod, Int.bmod_def]
  have := x.isLt
  omega

set_option maxRecDepth 4000 in
set_option maxHeartbeats 1000000 in
theorem refPut_any (x : BitVec 64) (w : World) :
    Calls Try.prog 62 #[.int .i64 x.toInt] w fun e w' => e = .returned (.string (str (enc1 x))) ∧ Below w.heap.size w w' := by
  go_enter Try.func62, Try.ntmps62
  go_wp2_with (go_at_call 65; refine (refZig_eq _ _).mono ?_; rintro e w1 ⟨rfl, hb1⟩)
  go_loopg [3, 4] (leb (zigW x).toNat).length (fun g s3 s4 wx => ∃ (done : List UInt8) (r : BitVec 64), (leb r.toNat).length = g ∧ s3 = .int .i64 r.toInt ∧ enc1 x = done ++ leb r.toNat ∧ OwnsB wx w.heap.size s4 done ∧ Below w.heap.size w wx)
  case atStart => exact ⟨[], zigW x, rfl, rfl, rfl, ownsB_nil _ _, hb1⟩
  case round =>
    obtain ⟨done, r, hrg, rfl, henc, hown, hb2⟩ := hrel
    have HE : Hid (enc1 x = done ++ leb r.toNat) := henc
    have HR : Hid ((leb r.toNat).length = gk) := hrg
    have hdl : done.length ≤ 10 := by
      have e := congrArg List.length henc
      rw [enc1_len, List.length_append] at e
      have := (lenW_bd (zigW x)).2
      omega
    have hsz := hb2.size
    clear henc hrg
    obtain ⟨c, hc⟩ : ∃ c, c = r.toNat % 128 := ⟨_, rfl⟩
    have HC : Hid (c = r.toNat % 128) := hc
    have hc2 : (c : Int) < 128 := by omega
    obtain ⟨q, hq⟩ : ∃ q, q = r >>> 7 := ⟨_, rfl⟩
    have HQ : Hid (q = r >>> 7) := hq
    by_cases hr : r.toNat < 128
    · have hz : (q.toInt == 0) = true := by rw [hq, toInt_zero_iff, shr7, decide_eq_true_iff]; omega
      have r2 : Hid ((c : Int) = ((UInt8.ofNat r.toNat).toNat : Int)) := by show _ = _; rw [byte_small (by omega), hc]; omega
      clear hc hq
      go_wp2_with fail
      refine (refLow _ _ c HC.out).mono ?_
      rintro e w3 ⟨rfl, hb3⟩
      replace hown := hown.below hb3
      replace hb2 := hb2.trans (hb3.mono hsz)
      clear hb3
      replace hsz := hb2.size
      go_wp2_with fail
      refine (refHigh _ _ q HQ.out).mono ?_
      rintro e w4 ⟨rfl, hb3⟩
      replace hown := hown.below hb3
      replace hb2 := hb2.trans (hb3.mono hsz)
      clear hb3
      replace hsz := hb2.size
      go_wp2_with ((at_builtin; refine append_u8 rfl (.tmp 14) (.tmp 17) rfl rfl rfl r2.out hown ?hB ?hl ?_; (case hB => omega); (case hl => omega); intro v3 w3 hown3 hb3; have hcv := convert_own hown3 (by simp)))
      go_ret
      have e1 := HE.out
      rw [leb_small hr] at e1
      refine ⟨?_, hb2.trans hb3⟩
      rw [e1]; rfl
    · have hr' : 128 ≤ r.toNat := by omega
      have hz : (q.toInt == 0) = false := by rw [hq, toInt_zero_iff, shr7, decide_eq_false_iff_not]; omega
      have r2 : Hid ((128 : Int) + (c : Int) = ((UInt8.ofNat (r.toNat % 128 + 128)).toNat : Int)) := by show _ = _; rw [byte_small (by omega), hc]; omega
      clear hc hq
      go_wp2_with fail
      refine (refLow _ _ c HC.out).mono ?_
      rintro e w3 ⟨rfl, hb3⟩
      replace hown := hown.below hb3
      replace hb2 := hb2.trans (hb3.mono hsz)
      clear hb3
      replace hsz := hb2.size
      go_wp2_with fail
      refine (refHigh _ _ q HQ.out).mono ?_
      rintro e w4 ⟨rfl, hb3⟩
      replace hown := hown.below hb3
      replace hb2 := hb2.trans (hb3.mono hsz)
      clear hb3
      replace hsz := hb2.size
      go_wp2_with ((at_builtin; refine append_u8 rfl (.tmp 20) (.tmp 24) rfl rfl rfl r2.out hown ?hB ?hl ?_; (case hB => omega); (case hl => omega); intro v3 w3 hown3 hb3))
      go_roundg ((leb r.toNat).length - 1)
      case measure => have := HR.out; have := leb_pos r.toNat; omega
      case rel =>
        have e1 := HE.out
        rw [leb_big hr'] at e1
        refine ⟨done ++ [UInt8.ofNat (r.toNat % 128 + 128)], q, ?_, rfl, ?_, hown3, hb2.trans hb3⟩
        · rw [leb_big hr', HQ.out, shr7]; simp
        · rw [e1, HQ.out, shr7]; simp
end Go.Proofs.Ytflabcmjbhmphaa
/-
  The contract of package peristyleref02's Take.
-/
namespace Go.Proofs.Ytflabcmjbhmphaa
open Go.RowKit Leb

theorem enc1_zag (z : BitVec 64) : enc1 (zagW z) = leb z.toNat := by rw [enc1, zig_zag]
theorem extract_list (s : ByteArray) (k : Nat) : (s.extract 0 k).toList = s.data.toList.take k := by
  rw [Lib.extract_toList]; simp

end Go.Proofs.Ytflabcmjbhmphaa
