/-
  The contracts of package plain's number and first.
-/
import Derived.Test.YtmhbpijefohopaaPMem
import Derived.Test.YtmhbpijefohopaaPPure
namespace Go.Proofs.Ytmhbpijefohopaa
open Go.RowKit

theorem num_step (l : List UInt8) (b : UInt8) (hl : l.length < 8) :
    BitVec.ofNat 64 (Pl.val l) ||| (BitVec.ofNat 64 b.toNat <<< (8 * l.length)) = BitVec.ofNat 64 (Pl.val (l ++ [b])) := by
  have h1 := Pl.val_lt l
  have h2 := b.toNat_lt
  have h3 := Pl.val_lt (l ++ [b])
  have hp : 2 ^ (8 * l.length) ≤ 2 ^ 56 := Nat.pow_le_pow_right (by omega) (by omega)
  have hp2 : 2 ^ (8 * (l ++ [b]).length) ≤ 2 ^ 64 := Nat.pow_le_pow_right (by omega) (by rw [List.length_append, List.length_singleton]; omega)
  have e3 : 2 ^ (8 * (l ++ [b]).length) = 2 ^ (8 * l.length) * 256 := by rw [List.length_append, List.length_singleton, Nat.mul_add, Nat.pow_add]
  apply BitVec.eq_of_toNat_eq
  rw [BitVec.toNat_or, BitVec.toNat_shiftLeft, BitVec.toNat_ofNat, BitVec.toNat_ofNat, BitVec.toNat_ofNat, Nat.mod_eq_of_lt (a := Pl.val l) (by omega), Nat.mod_eq_of_lt (a := b.toNat) (by omega), Nat.mod_eq_of_lt (a := Pl.val (l ++ [b])) (by omega), Pl.val_snoc, Nat.shiftLeft_eq]
  have hlt : b.toNat * 2 ^ (8 * l.length) < 2 ^ 64 := by
    have : b.toNat * 2 ^ (8 * l.length) ≤ 255 * 2 ^ (8 * l.length) := Nat.mul_le_mul_right _ (by omega)
    omega
  rw [Nat.mod_eq_of_lt hlt, Nat.or_comm, ← Nat.shiftLeft_eq, ← Nat.shiftLeft_add_eq_or_of_lt h1, Nat.shiftLeft_eq, Nat.mul_comm, Nat.add_comm]
theorem take_snocB (s : ByteArray) (k : Nat) (h : k < s.size) : s.data.toList.take (k + 1) = s.data.toList.take k ++ [s[k]] := by
  rw [List.take_succ_eq_append_getElem (by simpa using h)]; rfl

theorem num_word (x : BitVec 64) (b : UInt8) (k : Nat) :
    bits BinOp.or IntKind.u64 (x.toNat : Int) (IntKind.u64.wrap (IntKind.u64.wrap (b.toNat : Int) * 2 ^ (k * 8))) = ((x ||| (BitVec.ofNat 64 b.toNat <<< (8 * k))).toNat : Int) := by
  have h2 := b.toNat_lt
  have e : IntKind.u64.wrap (b.toNat : Int) = ((BitVec.ofNat 64 b.toNat).toNat : Int) := by
    rw [BitVec.toNat_ofNat, IntKind.wrap_u64]
    omega
  rw [e, Wd.u64_shl, Wd.u64_or, Nat.mul_comm k 8]
set_option maxRecDepth 4000 in
set_option maxHeartbeats 1000000 in
theorem number_any (s : ByteArray) (h8 : 8 ≤ s.size) (w : World) :
    Calls Try.prog 18 #[.string s] w fun e w' => e = .returned (.int .i64 (Pl.num s.data.toList).toInt) ∧ w' = w := by
  go_enter Try.func18, Try.ntmps18
  go_wp2
  go_loopg [3, 5] 8 (fun g s3 s5 wx => ∃ (k : Nat) (x : BitVec 64), k + g = 8 ∧ s5 = .int .i64 k ∧ s3 = .int .u64 x.toNat ∧ x = BitVec.ofNat 64 (Pl.val (s.data.toList.take k)) ∧ wx = w)
  case atStart => exact ⟨0, 0#64, by omega, rfl, rfl, rfl, rfl⟩
  case round =>
    obtain ⟨k, x, hkg, rfl, rfl, hx, rfl⟩ := hrel
    have HX : Hid (x = BitVec.ofNat 64 (Pl.val (s.data.toList.take k))) := hx
    clear hx
    by_cases hk : k < 8
    · have hkI : (k : Int) < 8 := by omega
      have hks : (k : Int) < (s.size : Int) := by omega
      have HS : Hid (x ||| (BitVec.ofNat 64 s[k].toNat <<< (8 * k)) = BitVec.ofNat 64 (Pl.val (s.data.toList.take (k + 1)))) := by
        show _ = _
        have hlen : (s.data.toList.take k).length = k := by rw [List.length_take]; simp; omega
        have := num_step (s.data.toList.take k) s[k] (by omega)
        rw [hlen] at this
        rw [take_snocB s k (by omega), ← this, HX.out]
      go_wp2
      go_roundg (8 - (k + 1))
      case measure => omega
      case rel => exact ⟨k + 1, _, by omega, by go_num, by rw [num_word], HS.out, rfl⟩
    · have hkI : ¬ (k : Int) < 8 := by omega
      obtain rfl : k = 8 := by omega
      have r1 := Wd.i64_toNat x
      go_wp2
      go_ret
      exact ⟨Wd.returned_int (by rw [HX.out]; rfl), rfl⟩

/-- What first answers. -/
def fstA (s : ByteArray) : ByteArray × Nat := if h : 0 < s.size then (if s[0].toNat ≤ 32 ∧ 1 + s[0].toNat ≤ s.size then (s.extract 1 (1 + s[0].toNat), 1 + s[0].toNat) else (ByteArray.empty, 0)) else (ByteArray.empty, 0)
set_option maxHeartbeats 1000000 in
theorem first_any (s : ByteArray) (hs : s.size ≤ 1000000) (w : World) :
    Calls Try.prog 19 #[.string s] w fun e w' => e = .returned (.tuple #[.string (fstA s).1, .int .i64 (fstA s).2]) ∧ w' = w := by
  by_cases h0 : 0 < s.size
  · have hne : (s.toList == []) = false := by
      rw [beq_eq_false_iff_ne]
      intro e
      have h2 := congrArg List.length e
      rw [ByteArray.toList_eq, Array.length_toList] at h2
      have h3 : s.data.size = s.size := rfl
      rw [h3, List.length_nil] at h2
      omega
    have h0I : (0 : Int) < (s.size : Int) := by omega
    have hsI : (s.size : Int) ≤ 1000000 := by omega
    obtain ⟨b, hb⟩ : ∃ b, b = s[0].toNat := ⟨_, rfl⟩
    have hb2 : b < 256 := by rw [hb]; exact s[0].toNat_lt
    by_cases hc : b ≤ 32 ∧ 1 + b ≤ s.size
    · have e : fstA s = (s.extract 1 (1 + b), 1 + b) := by rw [fstA, dif_pos h0, ← hb, if_pos hc]
      rw [e]
      clear e
      by_cases hmin : (33 : Int) < (s.size : Int)
      all_goals
        go_enter Try.func19, Try.ntmps19
        go_wp2
        go_ret2
        refine ⟨?_, rfl⟩
        simp [hb]
    · have e : fstA s = (ByteArray.empty, 0) := by rw [fstA, dif_pos h0, ← hb, if_neg hc]
      rw [e]
      clear e
      by_cases hmin : (33 : Int) < (s.size : Int)
      all_goals
        go_enter Try.func19, Try.ntmps19
        go_wp2
        go_ret2
        exact ⟨rfl, rfl⟩
  · have e : fstA s = (ByteArray.empty, 0) := by rw [fstA, dif_neg h0]
    have hnil : (s.toList == []) = true := by
      rw [beq_iff_eq, ByteArray.toList_eq]
      apply List.eq_nil_of_length_eq_zero
      have h3 : s.data.size = s.size := rfl
      rw [Array.length_toList, h3]
      omega
    rw [e]
    clear e
    go_enter Try.func19, Try.ntmps19
    go_wp2
    go_ret2
    exact ⟨rfl, rfl⟩
end Go.Proofs.Ytmhbpijefohopaa
