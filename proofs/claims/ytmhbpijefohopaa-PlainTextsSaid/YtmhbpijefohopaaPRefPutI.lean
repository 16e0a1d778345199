/-
  The contract of package peristyleref07's PutInts.
-/
import Derived.Test.YtmhbpijefohopaaPPutI
namespace Go.Proofs.Ytmhbpijefohopaa
open Go.RowKit

theorem and255 (x : BitVec 64) (n : Nat) (hn : n + 8 ≤ 64) : x.sshiftRight n &&& 255#64 = (x >>> n) &&& 255#64 := by
  apply BitVec.eq_of_getLsbD_eq
  intro i hi
  rw [BitVec.getLsbD_and, BitVec.getLsbD_and]
  by_cases h8 : i < 8
  · rw [BitVec.getLsbD_sshiftRight, BitVec.getLsbD_ushiftRight]
    have : n + i < 64 := by omega
    have h64 : ¬ 64 ≤ i := by omega
    simp [this, h64]
  · have e : (255#64).getLsbD i = false := by
      rw [BitVec.getLsbD_ofNat, show (255 : Nat) = 2 ^ 8 - 1 from rfl, Nat.testBit_two_pow_sub_one]
      simp [h8]
    rw [e, Bool.and_false, Bool.and_false]
theorem ref_byte (x : BitVec 64) (j : Nat) (hj : j < 8) : bits BinOp.and IntKind.i64 (x.toInt / 2 ^ (8 * j)) 255 % 256 = ((UInt8.ofNat (x.toNat / 2 ^ (8 * j))).toNat : Int) := by
  have e : (255 : Int) = (255#64).toInt := by decide
  rw [Wd.i64_shr, e, Wd.i64_and, and255 x _ (by omega)]
  have h1 : ((x >>> (8 * j)) &&& 255#64).toNat = x.toNat / 2 ^ (8 * j) % 256 := by
    rw [BitVec.toNat_and, BitVec.toNat_ushiftRight, Nat.shiftRight_eq_div_pow, show (255#64).toNat = 2 ^ 8 - 1 from rfl, Nat.and_two_pow_sub_one_eq_mod]
  have h2 : ((x >>> (8 * j)) &&& 255#64).toInt = ((x.toNat / 2 ^ (8 * j) % 256 : Nat) : Int) := by
    rw [BitVec.toInt_eq_toNat_bmod, h1, Int.bmod_def]
    omega
  rw [h2]
  simp
theorem oct_snoc (x : BitVec 64) (j : Nat) (hj : j < 8) : (Pl.oct x).take (j + 1) = (Pl.oct x).take j ++ [UInt8.ofNat (x.toNat / 2 ^ (8 * j))] := by
  have h := Pl.oc_at 8 x.toNat j hj
  obtain ⟨hl, he⟩ := List.getElem?_eq_some_iff.1 h
  have : (Pl.oct x).take (j + 1) = (Pl.oct x).take j ++ [(Pl.oct x)[j]'hl] := List.take_succ_eq_append_getElem hl
  rw [this]
  congr 2

set_option maxRecDepth 4000 in
set_option maxHeartbeats 1000000 in
theorem refPutInts_row (b off c : Nat) (zs : List (BitVec 64)) (w : World) (hb : b < w.heap.size)
    (hz : ∀ i, i < zs.length → w.cell? ⟨b, off + i, none⟩ = some (.int .i64 (zs.getD i 0#64).toInt)) (hl : zs.length ≤ 1000) :
    Calls Try.prog 10 #[.slice (some ⟨b, off, none⟩) zs.length c] w fun e w' => e = .returned (.string (Pl.txt (Pl.encI zs))) ∧ Below w.heap.size w w' := by
  obtain ⟨m, hm⟩ : ∃ m, m = zs.length := ⟨_, rfl⟩
  rw [← hm]
  have hm9 : (m : Int) ≤ 1000 := by omega
  have HM : Hid (m = zs.length) := hm
  clear hm
  go_enter Try.func10, Try.ntmps10
  go_wp2
  go_loopg [3, 4] m (fun g s3 s4 wx => ∃ k : Nat, k + g = m ∧ s4 = .int .i64 k ∧ OwnsB wx w.heap.size s3 (Pl.encI (zs.take k)) ∧ Below w.heap.size w wx)
  case atStart => exact ⟨0, by omega, rfl, ownsB_nil _ _, Below.refl _ _⟩
  case round =>
    obtain ⟨k, hkg, rfl, hown1, hb1⟩ := hrel
    by_cases hk : k < m
    · have hkI : (k : Int) < (m : Int) := by omega
      have hl2 : (Pl.encI (zs.take k)).length ≤ 8 * k := by rw [Pl.encI_len, List.length_take]; omega
      have hsn := Pl.encI_snoc zs k (by rw [← HM.out]; exact hk)
      have hz0 := hz k (by rw [← HM.out]; exact hk)
      obtain ⟨L, hL⟩ : ∃ L, L = Pl.encI (zs.take k) := ⟨_, rfl⟩
      rw [← hL] at hown1 hl2 hsn
      obtain ⟨x, hx⟩ : ∃ x, x = zs.getD k 0#64 := ⟨_, rfl⟩
      rw [← hx] at hz0 hsn
      have HX : Hid (Pl.encI (zs.take (k + 1)) = L ++ Pl.oct x) := hsn
      have HZ : Hid (w.cell? ⟨b, off + k, none⟩ = some (.int .i64 x.toInt)) := hz0
      clear hsn hL hx hz0
      go_wp2
      go_loopg [3, 5] 8 (fun g s3 s5 wx => ∃ (j : Nat), j + g = 8 ∧ s5 = .int .i64 j ∧ OwnsB wx w.heap.size s3 (L ++ (Pl.oct x).take j) ∧ Below w.heap.size w wx)
      case atStart => exact ⟨0, by omega, rfl, by simpa using hown1, hb1⟩
      case round =>
        obtain ⟨j, hjg, rfl, hown2, hb2⟩ := hrel
        have hcell := (hb2.cell (p := ⟨b, off + k, none⟩) hb).trans HZ.out
        have hdl2 : (L ++ (Pl.oct x).take j).length + 1 ≤ 1000000 := by rw [List.length_append, List.length_take, Pl.oct_len]; omega
        have hsz := hb2.size
        clear hown1 hb1
        by_cases hj : j < 8
        · have hjI : (j : Int) < 8 := by omega
          have r2 : Hid (bits BinOp.and IntKind.i64 (x.toInt / 2 ^ (8 * j)) 255 % 256 = ((UInt8.ofNat (x.toNat / 2 ^ (8 * j))).toNat : Int)) := ref_byte x j hj
          go_wp2_with (at_builtin; (refine append_u8 rfl (.tmp 16) (.tmp 26) rfl rfl rfl r2.out hown2 hsz hdl2 ?_; intro v3 w3 hown3 hb3))
          go_roundg (8 - (j + 1))
          case measure => omega
          case rel =>
            refine ⟨j + 1, by omega, by go_num, ?_, hb2.trans hb3⟩
            rw [oct_snoc x j hj, ← List.append_assoc]
            exact hown3
        · have hjI : ¬ (j : Int) < 8 := by omega
          have e : (Pl.oct x).take j = Pl.oct x := List.take_of_length_le (by rw [Pl.oct_len]; omega)
          rw [e] at hown2
          clear e
          go_wp2
          go_roundg (m - (k + 1))
          case measure => omega
          case rel =>
            refine ⟨k + 1, by omega, by go_num, ?_, hb2⟩
            rw [HX.out]
            exact hown2
    · have hkI : ¬ (k : Int) < (m : Int) := by omega
      have e : zs.take k = zs := List.take_of_length_le (by rw [← HM.out]; omega)
      rw [e] at hown1
      have hcv := convert_all hown1
      clear e
      go_wp2
      go_ret
      exact ⟨rfl, hb1⟩
set_option maxHeartbeats 400000 in
theorem refPutInts_none (a : Option Addr) (c : Nat) (w : World) :
    Calls Try.prog 10 #[.slice a 0 c] w fun e w' => e = .returned (.string (Pl.txt (Pl.encI []))) ∧ Below w.heap.size w w' := by
  have hcv := convert_all (ownsB_nil w w.heap.size)
  go_enter Try.func10, Try.ntmps10
  go_wp2
  go_loopg [3, 4] 0 (fun g s3 s4 wx => g = 0 ∧ s3 = .slice none 0 0 ∧ s4 = .int .i64 0 ∧ wx = w)
  case atStart => exact ⟨rfl, rfl, rfl, rfl⟩
  case round =>
    obtain ⟨hg, rfl, rfl, rfl⟩ := hrel
    clear hg
    go_wp2
    go_ret
    exact ⟨rfl, Below.refl _ _⟩
theorem refPutInts_any (v : Value) (l : List (BitVec 64)) (w : World) (hl : l.length ≤ 1000) (hr : ReadsI w v l) :
    Calls Try.prog 10 #[v] w fun e w' => e = .returned (.string (Pl.txt (Pl.encI l))) ∧ Below w.heap.size w w' := by
  rcases hr with ⟨rfl, a, c, rfl⟩ | ⟨b, off, c, rfl, _, hb, hc⟩
  · exact refPutInts_none a c w
  · exact refPutInts_row b off c l w hb hc hl
end Go.Proofs.Ytmhbpijefohopaa
