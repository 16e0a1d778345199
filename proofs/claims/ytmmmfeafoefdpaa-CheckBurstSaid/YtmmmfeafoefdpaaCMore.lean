/-
  The contracts of More and Sum, of package check and of package peristyleref03.
-/
import Derived.Test.YtmmmfeafoefdpaaRows
import Derived.Test.YtmmmfeafoefdpaaWords32
import Derived.Test.YtmmmfeafoefdpaaCrc
import Derived.WalkKit
import Derived.WalkSpells
import Derived.WalkLawsBesides
import Derived.Deep.LoopGhost
namespace Go.Proofs.Ytmmmfeafoefdpaa
open Go.RowKit

theorem run_byte (n : BitVec 32) (l : List UInt8) (k : Nat) : Crc.run n (Crc.bitAt l) (8 * (k + 1)) = Crc.Zs (Crc.run n (Crc.bitAt l) (8 * k) ^^^ BitVec.ofNat 32 (l.getD k 0).toNat) 8 := by
  rw [Nat.mul_add, Crc.run_add, Crc.run_word _ _ _ (by decide)]
  congr 2
  apply BitVec.eq_of_getLsbD_eq
  intro i hi
  rw [Crc.word_bit _ _ _ hi, BitVec.getLsbD_ofNat]
  by_cases h : i < 8
  · unfold Crc.bitAt
    rw [show (8 * k + i) / 8 = k by omega, show (8 * k + i) % 8 = i by omega]
    simp [h, hi]
  · have hp : (2 : Nat) ^ 8 ≤ 2 ^ i := Nat.pow_le_pow_right (by decide) (by omega)
    have hlt := UInt8.toNat_lt (l.getD k 0)
    have h2 : (l.getD k 0).toNat.testBit i = false := Nat.testBit_lt_two_pow (by omega)
    rw [h2]
    simp [h]
theorem getD_at (s : ByteArray) (k : Nat) (h : k < s.size) : s.data.toList.getD k 0 = s[k] := by
  have h2 : k < s.data.toList.length := h
  rw [List.getD_eq_getElem?_getD, List.getElem?_eq_getElem h2]
  rfl
theorem Z_neg (n : BitVec 32) : (n >>> 1) ^^^ (Crc.poly &&& -(n &&& 1#32)) = Crc.Z n := by
  unfold Crc.Z
  rw [Wt.and_one]
  cases n.getLsbD 0
  · simp
  · have : -(1#32) = BitVec.allOnes 32 := by decide
    simp only [if_true, this, BitVec.and_allOnes]
theorem step_same {n : BitVec 32} {b : Bool} (h : n.getLsbD 0 = b) : Crc.step n b = n >>> 1 := by
  unfold Crc.step; rw [h]; simp
theorem step_other {n : BitVec 32} {b : Bool} (h : ¬ n.getLsbD 0 = b) : Crc.step n b = (n >>> 1) ^^^ Crc.poly := by
  unfold Crc.step; rw [if_pos]; revert h; cases n.getLsbD 0 <;> cases b <;> simp
theorem byte64 (c : UInt8) : wrap64 (c.toNat : Int) = (c.toNat : Int) := by
  have := UInt8.toNat_lt c
  unfold wrap64
  omega
theorem byteW (c : UInt8) : IntKind.u32.wrap (c.toNat : Int) = ((BitVec.ofNat 32 c.toNat).toNat : Int) := by
  have := UInt8.toNat_lt c
  rw [IntKind.wrap_u32, BitVec.toNat_ofNat]
  omega

set_option maxRecDepth 4000 in
set_option maxHeartbeats 1000000 in
theorem more_any (x : BitVec 64) (s : ByteArray) (hs : s.size ≤ maxLen) (w : World) :
    Calls Try.prog 11 #[.int .i64 x.toInt, .string s] w fun e w' => e = .returned (.int .i64 (Crc.more (x.setWidth 32) s.data.toList).toNat) ∧ w' = w := by
  unfold maxLen at hs
  obtain ⟨y, hy⟩ : ∃ y, y = x.setWidth 32 := ⟨_, rfl⟩
  obtain ⟨n0, hn0⟩ : ∃ n0, n0 = ~~~ y := ⟨_, rfl⟩
  have r1 : IntKind.u32.wrap x.toInt = (y.toNat : Int) := hy ▸ Wt.u32_toInt x
  have r2 : bits .xor .u32 IntKind.u32.max (y.toNat : Int) = (n0.toNat : Int) := hn0 ▸ Wt.u32_not _
  have HN : Hid (Crc.more (x.setWidth 32) s.data.toList = ~~~ Crc.run n0 (Crc.bitAt s.data.toList) (8 * s.size)) := by
    show _ = _
    rw [← hy, hn0]; rfl
  clear hy hn0
  go_enter Try.func11, Try.ntmps11
  go_wp2
  go_loopg [5, 13] s.size (fun g s5 s13 wx => ∃ k : Nat, k + g = s.size ∧ s13 = .int .i64 k ∧ s5 = .int .u32 (Crc.run n0 (Crc.bitAt s.data.toList) (8 * k)).toNat ∧ wx = w)
  case atStart => exact ⟨0, by omega, rfl, rfl, rfl⟩
  case round =>
    obtain ⟨k, hkg, rfl, rfl, hw⟩ := hrel
    replace hw := hw.symm
    subst hw
    by_cases hk : k < s.size
    · have hkI : (k : Int) < (s.size : Int) := by omega
      have hst := run_byte n0 s.data.toList k
      rw [getD_at s k hk] at hst
      obtain ⟨n1, hn1⟩ : ∃ n1, n1 = Crc.run n0 (Crc.bitAt s.data.toList) (8 * k) := ⟨_, rfl⟩
      rw [← hn1] at hst ⊢
      obtain ⟨c, hc⟩ : ∃ c, c = BitVec.ofNat 32 s[k].toNat := ⟨_, rfl⟩
      rw [← hc] at hst
      obtain ⟨n2, hn2⟩ : ∃ n2, n2 = n1 ^^^ c := ⟨_, rfl⟩
      rw [← hn2] at hst
      have r3 : IntKind.u32.wrap (s[k].toNat : Int) = (c.toNat : Int) := hc ▸ byteW s[k]
      have r4 : bits .xor .u32 (n1.toNat : Int) (c.toNat : Int) = (n2.toNat : Int) := hn2 ▸ Wt.u32_xor n1 c
      have HS : Hid (Crc.run n0 (Crc.bitAt s.data.toList) (8 * (k + 1)) = Crc.Zs n2 8) := hst
      clear hst hn1 hc hn2
      go_wp2
      go_loopg [5, 22] 8 (fun g s5 s22 wx => ∃ j : Nat, j + g = 8 ∧ s22 = .int .i64 j ∧ s5 = .int .u32 (Crc.Zs n2 j).toNat ∧ wx = w)
      case atStart => exact ⟨0, by omega, rfl, rfl, rfl⟩
      case round =>
        obtain ⟨j, hjg, rfl, rfl, hw⟩ := hrel
        replace hw := hw.symm
        subst hw
        by_cases hj : j < 8
        · have hjI : (j : Int) < 8 := by omega
          obtain ⟨m1, hm1⟩ : ∃ m1, m1 = Crc.Zs n2 j := ⟨_, rfl⟩
          rw [← hm1]
          obtain ⟨f, hf⟩ : ∃ f, f = m1 &&& 1#32 := ⟨_, rfl⟩
          obtain ⟨m2, hm2⟩ : ∃ m2, m2 = m1 >>> 1 := ⟨_, rfl⟩
          obtain ⟨f2, hf2⟩ : ∃ f2, f2 = -f := ⟨_, rfl⟩
          obtain ⟨f3, hf3⟩ : ∃ f3, f3 = Crc.poly &&& f2 := ⟨_, rfl⟩
          have r5 : bits .and .u32 (m1.toNat : Int) 1 = (f.toNat : Int) := hf ▸ Wt.u32_and m1 1#32
          have r6 : (m1.toNat : Int) / 2 = (m2.toNat : Int) := by have := Wt.shr m1 1; rw [hm2]; simpa using this
          have r7 : IntKind.u32.wrap (-(f.toNat : Int)) = (f2.toNat : Int) := hf2 ▸ Wt.u32_neg f
          have r8 : bits .and .u32 2197175160 (f2.toNat : Int) = (f3.toNat : Int) := hf3 ▸ Wt.u32_and Crc.poly f2
          have hz : Hid (m2 ^^^ f3 = Crc.Zs n2 (j + 1)) := by
            show _ = _
            rw [hf3, hf2, hf, hm2, Z_neg, hm1]; rfl
          obtain ⟨m3, hm3⟩ : ∃ m3, m3 = m2 ^^^ f3 := ⟨_, rfl⟩
          have r9 : bits .xor .u32 (m2.toNat : Int) (f3.toNat : Int) = (m3.toNat : Int) := hm3 ▸ Wt.u32_xor m2 f3
          have HM : Hid (m3 = m2 ^^^ f3) := hm3
          clear hf3 hf2 hf hm2 hm1 hm3
          go_wp2
          go_roundg (8 - (j + 1))
          case measure => omega
          case rel => exact ⟨j + 1, by omega, by go_num, by rw [← hz.out, ← HM.out], rfl⟩
        · have hjI : ¬ (j : Int) < 8 := by omega
          obtain rfl : j = 8 := by omega
          go_wp2
          go_roundg (s.size - (k + 1))
          case measure => omega
          case rel => exact ⟨k + 1, by omega, by go_num, by rw [HS.out], rfl⟩
    · have hkI : ¬ (k : Int) < (s.size : Int) := by omega
      obtain rfl : k = s.size := by omega
      obtain ⟨n1, hn1⟩ : ∃ n1, n1 = Crc.run n0 (Crc.bitAt s.data.toList) (8 * s.size) := ⟨_, rfl⟩
      rw [← hn1]
      obtain ⟨n2, hn2⟩ : ∃ n2, n2 = ~~~ n1 := ⟨_, rfl⟩
      have HE : Hid (n2 = Crc.more (x.setWidth 32) s.data.toList) := by show _ = _; rw [HN.out, hn2, hn1]
      have r3 : bits .xor .u32 IntKind.u32.max (n1.toNat : Int) = (n2.toNat : Int) := hn2 ▸ Wt.u32_not n1
      have r4 : wrap64 (n2.toNat : Int) = (n2.toNat : Int) := Wt.i64_small n2
      clear hn1 hn2
      go_wp2
      go_ret
      exact ⟨congrArg (fun n : BitVec 32 => Ending.returned (.int .i64 (n.toNat : Int))) HE.out, rfl⟩

set_option maxHeartbeats 400000 in
theorem sum_any (s : ByteArray) (hs : s.size ≤ maxLen) (w : World) :
    Calls Try.prog 9 #[.string s] w fun e w' => e = .returned (.int .i64 (Crc.sum s.data.toList).toNat) ∧ w' = w := by
  have c : ∀ w, Calls Try.prog 11 #[.int .i64 0, .string s] w fun e w' => e = .returned (.int .i64 (Crc.sum s.data.toList).toNat) ∧ w' = w := fun w => more_any 0#64 s hs w
  go_enter Try.func9, Try.ntmps9
  go_wp2_with (go_at_call 11; refine (c _).mono ?_; rintro e w1 ⟨rfl, rfl⟩)
  go_ret
  exact ⟨rfl, rfl⟩

/-- A bit of a byte, as the plain text reads it. -/
theorem byte_bit (c : UInt8) (k : Nat) : bits .and .i64 ((c.toNat : Int) / 2 ^ k) 1 = if c.toNat.testBit k then 1 else 0 := by
  have h := UInt8.toNat_lt c
  have e1 : (c.toNat : Int) / 2 ^ k = ((BitVec.ofNat 32 (c.toNat / 2 ^ k)).toNat : Int) := by
    have h2 : c.toNat / 2 ^ k ≤ c.toNat := Nat.div_le_self _ _
    rw [BitVec.toNat_ofNat, Nat.mod_eq_of_lt (by omega)]; simp
  have e2 : (1 : Int) = ((1#32).toNat : Int) := by decide
  have h2 : c.toNat / 2 ^ k ≤ c.toNat := Nat.div_le_self _ _
  rw [e1]
  conv => lhs; rw [e2]
  rw [Wt.i64_and, Wt.and_one, BitVec.getLsbD_ofNat, Nat.testBit_div_two_pow]
  cases h3 : c.toNat.testBit k <;> simp [h3]
theorem low_bit (n : BitVec 32) : bits .and .i64 (n.toNat : Int) 1 = if n.getLsbD 0 then 1 else 0 := by
  have e2 : (1 : Int) = ((1#32).toNat : Int) := by decide
  conv => lhs; rw [e2]
  rw [Wt.i64_and, Wt.and_one]
  cases n.getLsbD 0 <;> rfl

set_option maxRecDepth 4000 in
set_option maxHeartbeats 1000000 in
theorem refMore_any (x : BitVec 64) (s : ByteArray) (hs : s.size ≤ maxLen) (w : World) :
    Calls Try.prog 12 #[.int .i64 x.toInt, .string s] w fun e w' => e = .returned (.int .i64 (Crc.more (x.setWidth 32) s.data.toList).toNat) ∧ w' = w := by
  unfold maxLen at hs
  obtain ⟨y, hy⟩ : ∃ y, y = x.setWidth 32 := ⟨_, rfl⟩
  obtain ⟨n0, hn0⟩ : ∃ n0, n0 = ~~~ y := ⟨_, rfl⟩
  have r1 : bits .and .i64 x.toInt 4294967295 = (y.toNat : Int) := hy ▸ Wt.and_all x
  have r2 : bits .xor .i64 (y.toNat : Int) 4294967295 = (n0.toNat : Int) := hn0 ▸ Wt.i64_not _
  have HN : Hid (Crc.more (x.setWidth 32) s.data.toList = ~~~ Crc.run n0 (Crc.bitAt s.data.toList) (8 * s.size)) := by
    show _ = _
    rw [← hy, hn0]; rfl
  clear hy hn0
  go_enter Try.func12, Try.ntmps12
  go_wp2
  go_loopg [5, 6] s.size (fun g s5 s6 wx => ∃ k : Nat, k + g = s.size ∧ s6 = .int .i64 k ∧ s5 = .int .i64 (Crc.run n0 (Crc.bitAt s.data.toList) (8 * k)).toNat ∧ wx = w)
  case atStart => exact ⟨0, by omega, rfl, rfl, rfl⟩
  case round =>
    obtain ⟨k, hkg, rfl, rfl, hw⟩ := hrel
    replace hw := hw.symm
    subst hw
    by_cases hk : k < s.size
    · have hkI : (k : Int) < (s.size : Int) := by omega
      obtain ⟨F, hF⟩ : ∃ F : Nat → BitVec 32, F = fun i => Crc.run n0 (Crc.bitAt s.data.toList) i := ⟨_, rfl⟩
      have hst : ∀ j, j < 8 → F (8 * k + j + 1) = Crc.step (F (8 * k + j)) (s[k].toNat.testBit j) := by
        intro j hj
        rw [hF, ← getD_at s k hk]
        show Crc.step _ _ = _
        congr 1
        unfold Crc.bitAt
        rw [show (8 * k + j) / 8 = k by omega, show (8 * k + j) % 8 = j by omega]
      have HF : Hid (F = fun i => Crc.run n0 (Crc.bitAt s.data.toList) i) := hF
      have e0 : Crc.run n0 (Crc.bitAt s.data.toList) (8 * k) = F (8 * k) := by rw [hF]
      rw [e0]
      have HS : Hid (∀ j, j < 8 → F (8 * k + j + 1) = Crc.step (F (8 * k + j)) (s[k].toNat.testBit j)) := hst
      clear hst hF e0
      go_wp2
      go_loopg [5, 7] 8 (fun g s5 s7 wx => ∃ j : Nat, j + g = 8 ∧ s7 = .int .i64 j ∧ s5 = .int .i64 (F (8 * k + j)).toNat ∧ wx = w)
      case atStart => exact ⟨0, by omega, rfl, rfl, rfl⟩
      case round =>
        obtain ⟨j, hjg, rfl, rfl, hw⟩ := hrel
        replace hw := hw.symm
        subst hw
        by_cases hj : j < 8
        · have hjI : (j : Int) < 8 := by omega
          have hst := HS.out j hj
          obtain ⟨m1, hm1⟩ : ∃ m1, m1 = F (8 * k + j) := ⟨_, rfl⟩
          rw [← hm1] at hst ⊢
          obtain ⟨m2, hm2⟩ : ∃ m2, m2 = m1 >>> 1 := ⟨_, rfl⟩
          have r6 : (m1.toNat : Int) / 2 = (m2.toNat : Int) := by have := Wt.shr m1 1; rw [hm2]; simpa using this
          obtain ⟨m3, hm3⟩ : ∃ m3, m3 = m2 ^^^ Crc.poly := ⟨_, rfl⟩
          have r7 : bits .xor .i64 (m2.toNat : Int) 2197175160 = (m3.toNat : Int) := hm3 ▸ Wt.i64_xor m2 Crc.poly
          have r4 := byte_bit s[k] j
          have r5 := low_bit m1
          have r8 : wrap64 (s[k].toNat : Int) = (s[k].toNat : Int) := byte64 s[k]
          by_cases hb : m1.getLsbD 0 = s[k].toNat.testBit j
          · have HE : Hid (F (8 * k + j + 1) = m2) := by
              show _ = _
              rw [hst, hm2, step_same hb]
            rw [hb] at r5
            obtain ⟨z, hz⟩ : ∃ z : Int, z = if s[k].toNat.testBit j then 1 else 0 := ⟨_, rfl⟩
            rw [← hz] at r4 r5
            clear hst hm1 hm2 hm3 hb hz
            go_wp2
            go_roundg (8 - (j + 1))
            case measure => omega
            case rel => exact ⟨j + 1, by omega, by go_num, by rw [← Nat.add_assoc, HE.out], rfl⟩
          · have HE : Hid (F (8 * k + j + 1) = m3) := by
              show _ = _
              rw [hst, hm3, hm2, step_other hb]
            obtain ⟨z1, hz1⟩ : ∃ z : Int, z = if s[k].toNat.testBit j then 1 else 0 := ⟨_, rfl⟩
            obtain ⟨z2, hz2⟩ : ∃ z : Int, z = if m1.getLsbD 0 then 1 else 0 := ⟨_, rfl⟩
            have hz : (z2 == z1) = false := by
              rw [beq_eq_false_iff_ne, hz1, hz2]
              revert hb
              cases m1.getLsbD 0 <;> cases s[k].toNat.testBit j <;> simp
            rw [← hz1] at r4
            rw [← hz2] at r5
            clear hst hm1 hm2 hm3 hb hz1 hz2
            go_wp2
            go_roundg (8 - (j + 1))
            case measure => omega
            case rel => exact ⟨j + 1, by omega, by go_num, by rw [← Nat.add_assoc, HE.out], rfl⟩
        · have hjI : ¬ (j : Int) < 8 := by omega
          obtain rfl : j = 8 := by omega
          go_wp2
          go_roundg (s.size - (k + 1))
          case measure => omega
          case rel => exact ⟨k + 1, by omega, by go_num, by rw [HF.out, Nat.mul_add], rfl⟩
    · have hkI : ¬ (k : Int) < (s.size : Int) := by omega
      obtain rfl : k = s.size := by omega
      obtain ⟨n1, hn1⟩ : ∃ n1, n1 = Crc.run n0 (Crc.bitAt s.data.toList) (8 * s.size) := ⟨_, rfl⟩
      rw [← hn1]
      obtain ⟨n2, hn2⟩ : ∃ n2, n2 = ~~~ n1 := ⟨_, rfl⟩
      have HE : Hid (n2 = Crc.more (x.setWidth 32) s.data.toList) := by show _ = _; rw [HN.out, hn2, hn1]
      have r3 : bits .xor .i64 (n1.toNat : Int) 4294967295 = (n2.toNat : Int) := hn2 ▸ Wt.i64_not n1
      clear hn1 hn2
      go_wp2
      go_ret
      exact ⟨congrArg (fun n : BitVec 32 => Ending.returned (.int .i64 (n.toNat : Int))) HE.out, rfl⟩

set_option maxHeartbeats 400000 in
theorem refSum_any (s : ByteArray) (hs : s.size ≤ maxLen) (w : World) :
    Calls Try.prog 10 #[.string s] w fun e w' => e = .returned (.int .i64 (Crc.sum s.data.toList).toNat) ∧ w' = w := by
  have c : ∀ w, Calls Try.prog 12 #[.int .i64 0, .string s] w fun e w' => e = .returned (.int .i64 (Crc.sum s.data.toList).toNat) ∧ w' = w := fun w => refMore_any 0#64 s hs w
  go_enter Try.func10, Try.ntmps10
  go_wp2_with (go_at_call 12; refine (c _).mono ?_; rintro e w1 ⟨rfl, rfl⟩)
  go_ret
  exact ⟨rfl, rfl⟩
end Go.Proofs.Ytmmmfeafoefdpaa
