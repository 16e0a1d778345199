/-
  The contracts of Seal and Open of package peristyleref03.
-/
import Derived.Test.YtmmmfeafoefdpaaCSeal
namespace Go.Proofs.Ytmmmfeafoefdpaa
open Go.RowKit

/-- A byte of a sum, as the plain text takes it. -/
theorem ref_byte (m : BitVec 32) : IntKind.u8.wrap (bits .and .i64 (m.toNat : Int) 255) = ((UInt8.ofNat m.toNat).toNat : Int) := by
  have e : (255 : Int) = ((255#32).toNat : Int) := by decide
  rw [e, Wt.i64_and, IntKind.wrap_u8, UInt8.toNat_ofNat', BitVec.toNat_and]
  have := Nat.and_two_pow_sub_one_eq_mod m.toNat 8
  have e2 : (255#32).toNat = 2 ^ 8 - 1 := by decide
  rw [e2, this]
  omega
theorem refSeal_byte (n : BitVec 32) (k : Nat) : ∃ x : UInt8, IntKind.u8.wrap (bits .and .i64 ((n.toNat : Int) / 2 ^ k) 255) = (x.toNat : Int) ∧ x = UInt8.ofNat (n.toNat / 2 ^ k) := by
  refine ⟨_, ?_, rfl⟩
  rw [Wt.shr, ref_byte, BitVec.toNat_ushiftRight, Nat.shiftRight_eq_div_pow]
set_option maxRecDepth 4000 in
set_option maxHeartbeats 1000000 in
theorem refSeal_any (s : ByteArray) (hs : s.size ≤ 1000000) (w : World) :
    Calls Try.prog 16 #[.string s] w fun e w' => e = .returned (.string (sealS s)) ∧ Below w.heap.size w w' := by
  have hs0 : s.size ≤ maxLen := by unfold maxLen; omega
  obtain ⟨n, hn⟩ : ∃ n, n = Crc.sum s.data.toList := ⟨_, rfl⟩
  have c : ∀ w, Calls Try.prog 10 #[.string s] w fun e w' => e = .returned (.int .i64 n.toNat) ∧ w' = w := fun w => hn ▸ refSum_any s hs0 w
  obtain ⟨x0, r0, h0⟩ := refSeal_byte n 0
  obtain ⟨x1, r1, h1⟩ := refSeal_byte n 8
  obtain ⟨x2, r2, h2⟩ := refSeal_byte n 16
  obtain ⟨x3, r3, h3⟩ := refSeal_byte n 24
  have hx : Crc.four (Crc.sum s.data.toList) = [x0, x1, x2, x3] := by
    rw [← hn, h0, h1, h2, h3]; simp [Crc.four]
  have HX : Hid (s ++ strB [x0, x1, x2, x3] = sealS s) := by show _ = _; rw [sealS, hx]
  have hrow := rowB_new w #[.int .u8 (x0.toNat : Int), .int .u8 (x1.toNat : Int), .int .u8 (x2.toNat : Int), .int .u8 (x3.toNat : Int)] 5 [x0, x1, x2, x3] (by
    intro i hi
    have : i = 0 ∨ i = 1 ∨ i = 2 ∨ i = 3 := by simp at hi; omega
    rcases this with rfl | rfl | rfl | rfl <;> rfl)
  have ht := hrow.text 4
  have hsz : (strB [x0, x1, x2, x3]).size = 4 := rfl
  obtain ⟨T, hT⟩ : ∃ T, T = strB [x0, x1, x2, x3] := ⟨_, rfl⟩
  rw [← hT] at ht hsz HX
  simp at ht r0 r1 r2 r3
  clear h0 h1 h2 h3 hx hn hrow hT
  go_enter Try.func16, Try.ntmps16
  go_wp2_with (go_at_call 10; refine (c _).mono ?_; rintro e w1 ⟨rfl, hw1⟩; replace hw1 := hw1.symm; subst hw1)
  go_ret
  exact ⟨congrArg (fun x => Ending.returned (.string x)) HX.out, (Below.refl _ _).alloc (Nat.le_refl _) _⟩

set_option maxRecDepth 4000 in
set_option maxHeartbeats 1000000 in
theorem refOpen_yes (s : ByteArray) (hs : s.size ≤ 1000000) (t : List UInt8) (h : s.data.toList = sealL t) (w : World) :
    Calls Try.prog 15 #[.string s] w fun e w' => e = .returned (.tuple #[.string (strB t), .int .i64 0]) ∧ Below w.heap.size w w' := by
  have hl := congrArg List.length h
  rw [sealL_len] at hl
  have hl2 : s.size = t.length + 4 := by simpa using hl
  obtain ⟨n, hn⟩ : ∃ n, n = t.length := ⟨_, rfl⟩
  have hn2 : s.size = n + 4 := by omega
  have hcut := sealed_is (e := n) (l := s.data.toList) (t := t) (by simpa using hn2.symm) h
  have he : s.extract 0 n = strB t := by
    rw [← strB_of (s.extract 0 n), extract_head, hcut.1]
  have c := refSeal_any (s.extract 0 n) (by rw [ByteArray.size_extract]; omega)
  have hq : ((sealS (s.extract 0 n)).toList == s.toList) = true := by
    rw [beq_iff_eq, toList_data, toList_data, sealS_list, extract_head, hcut.1, h]
  obtain ⟨T, hT⟩ : ∃ T, T = sealS (s.extract 0 n) := ⟨_, rfl⟩
  rw [← hT] at c hq
  have HE : Hid (s.extract 0 n = strB t) := he
  have hsI : (s.size : Int) = (n : Int) + 4 := by omega
  have hsm : (n : Int) + 4 ≤ 1000000 := by omega
  have r1 : wrap64 ((n : Int) + 4 - 4) = (n : Int) := by unfold wrap64; omega
  have hg : decide ((n : Int) + 4 < 4) = false := by simp; omega
  have hbd : 0 ≤ (n : Int) ∧ (n : Int) ≤ (s.size : Int) := by omega
  clear hT he hcut h hl hl2 hn hn2
  go_enter Try.func15, Try.ntmps15
  go_wp2_with (go_at_call 16; refine (c _).mono ?_; rintro e w1 ⟨rfl, hb⟩)
  go_ret2
  exact ⟨congrArg (fun x => Ending.returned (.tuple #[.string x, .int .i64 0])) HE.out, hb⟩

set_option maxRecDepth 4000 in
set_option maxHeartbeats 1000000 in
theorem refOpen_no (s : ByteArray) (hs : s.size ≤ 1000000) (h : ¬ ∃ t, s.data.toList = sealL t) (w : World) :
    Calls Try.prog 15 #[.string s] w fun e w' => e = .returned (.tuple #[.string { data := #[] }, .int .i64 5]) ∧ Below w.heap.size w w' := by
  by_cases h4 : s.size < 4
  · have hg : decide ((s.size : Int) < 4) = true := by simp; omega
    clear h
    go_enter Try.func15, Try.ntmps15
    go_wp2
    go_ret2
    exact ⟨rfl, Below.refl _ _⟩
  · obtain ⟨n, hn⟩ : ∃ n, s.size = n + 4 := ⟨s.size - 4, by omega⟩
    have c := refSeal_any (s.extract 0 n) (by rw [ByteArray.size_extract]; omega)
    have hq : ((sealS (s.extract 0 n)).toList == s.toList) = false := by
      rw [beq_eq_false_iff_ne, toList_data, toList_data, sealS_list]
      exact fun e => h ⟨_, e.symm⟩
    obtain ⟨T, hT⟩ : ∃ T, T = sealS (s.extract 0 n) := ⟨_, rfl⟩
    rw [← hT] at c hq
    have hsI : (s.size : Int) = (n : Int) + 4 := by omega
    have hsm : (n : Int) + 4 ≤ 1000000 := by omega
    have r1 : wrap64 ((n : Int) + 4 - 4) = (n : Int) := by unfold wrap64; omega
    have hg : decide ((n : Int) + 4 < 4) = false := by simp; omega
    have hbd : 0 ≤ (n : Int) ∧ (n : Int) ≤ (s.size : Int) := by omega
    clear hT h hn h4
    go_enter Try.func15, Try.ntmps15
    go_wp2_with (go_at_call 16; refine (c _).mono ?_; rintro e w1 ⟨rfl, hb⟩)
    go_ret2
    exact ⟨rfl, hb⟩
end Go.Proofs.Ytmmmfeafoefdpaa
