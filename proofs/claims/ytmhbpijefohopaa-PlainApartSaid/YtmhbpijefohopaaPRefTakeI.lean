/-
  The contract of package peristyleref07's TakeInts.
-/
import Derived.Test.YtmhbpijefohopaaPTakeI
namespace Go.Proofs.Ytmhbpijefohopaa
open Go.RowKit

theorem ref_step (l : List UInt8) (b : UInt8) (hl : l.length < 8) : (BitVec.ofNat 64 (Pl.val l) <<< 8) ||| BitVec.ofNat 64 b.toNat = BitVec.ofNat 64 (Pl.val (b :: l)) := by
  have h1 := Pl.val_lt l
  have h2 := b.toNat_lt
  have h3 := Pl.val_lt (b :: l)
  have hp : 2 ^ (8 * l.length) ≤ 2 ^ 56 := Nat.pow_le_pow_right (by omega) (by omega)
  have hp2 : 2 ^ (8 * (b :: l).length) ≤ 2 ^ 64 := Nat.pow_le_pow_right (by omega) (by rw [List.length_cons]; omega)
  apply BitVec.eq_of_toNat_eq
  rw [BitVec.toNat_or, BitVec.toNat_shiftLeft, BitVec.toNat_ofNat, BitVec.toNat_ofNat, BitVec.toNat_ofNat, Nat.mod_eq_of_lt (a := Pl.val l) (by omega), Nat.mod_eq_of_lt (a := b.toNat) (by omega), Nat.mod_eq_of_lt (a := Pl.val (b :: l)) (by omega), Nat.shiftLeft_eq, Pl.val]
  rw [Nat.mod_eq_of_lt (by omega), ← Nat.shiftLeft_eq, ← Nat.shiftLeft_add_eq_or_of_lt (by omega), Nat.shiftLeft_eq]
  omega
theorem ref_word (x : BitVec 64) (b : UInt8) : bits BinOp.or IntKind.i64 (wrap64 (x.toInt * 256)) (wrap64 (b.toNat : Int)) = ((x <<< 8) ||| BitVec.ofNat 64 b.toNat).toInt := by
  have h2 := b.toNat_lt
  have e : wrap64 (b.toNat : Int) = (BitVec.ofNat 64 b.toNat).toInt := by rw [Wd.toInt_of_small _ (by omega)]; unfold wrap64; omega
  have e2 := Wd.i64_shl x 8
  rw [show (2 : Int) ^ 8 = 256 from rfl] at e2
  rw [e2, e, Wd.i64_or]
theorem eight_cons (s : ByteArray) (i j : Nat) (hj : j < 8) (h : 8 * i + 8 ≤ s.size) : ((s.data.toList.drop (8 * i)).take 8).drop j = s[8 * i + j] :: ((s.data.toList.drop (8 * i)).take 8).drop (j + 1) := by
  have hl : ((s.data.toList.drop (8 * i)).take 8).length = 8 := by rw [List.length_take, List.length_drop]; simp; omega
  rw [List.drop_eq_getElem_cons (by omega)]
  congr 1
  simp
  rfl

set_option maxRecDepth 4000 in
set_option maxHeartbeats 1000000 in
theorem refTakeInts_any (s : ByteArray) (hs : s.size ≤ 100000) (n : BitVec 64) (w : World) :
    Calls Try.prog 9 #[.string s, .int .i64 n.toInt] w (TookI s.data.toList n.toInt w) := by
  have hsl : s.data.toList.length = s.size := by simp
  have hsI : (s.size : Int) ≤ 100000 := by omega
  by_cases hn : (s.size : Int) = 8 * n.toInt
  · obtain ⟨m, hm⟩ : ∃ m : Nat, m = s.size / 8 := ⟨_, rfl⟩
    have hms : s.size = 8 * m := by omega
    have hnm : n.toInt = (m : Int) := by omega
    have HT : Hid (tiA s.data.toList (m : Int) = (Pl.decI m s.data.toList, 0)) := tiA_ok (by omega)
    have HS : Hid (s.size = 8 * m) := hms
    have hmI : (m : Int) ≤ 100000 := by omega
    have hm2 : (m : Int) ≤ (s.size : Int) := by omega
    have hmN : m ≤ 100000 := by omega
    rw [hnm]
    clear hnm hn hm hms hsl
    have hq : ((s.size : Int) != 8 * (m : Int)) = false := by rw [bne_eq_false_iff_eq]; have := HS.out; omega
    have hq1 : decide ((m : Int) < 0) = false := by rw [decide_eq_false_iff_not]; omega
    have hq2 : decide (s.size < m) = false := by rw [decide_eq_false_iff_not]; have := HS.out; omega
    go_enter Try.func9, Try.ntmps9
    go_wp2
    go_loopg [6, 7] m (fun g s6 s7 wx => ∃ k : Nat, k + g = m ∧ s7 = .int .i64 k ∧ OwnsI wx w.heap.size s6 (Pl.decI k s.data.toList) ∧ Below w.heap.size w wx)
    case atStart => exact ⟨0, by omega, rfl, by simpa [Pl.decI] using ownsI_nil _ _, Below.refl _ _⟩
    case round =>
      obtain ⟨k, hkg, rfl, hown, hb⟩ := hrel
      cases gk with
      | zero =>
        have hkI : ¬ (k : Int) < (m : Int) := by omega
        obtain rfl : k = m := by omega
        go_wp2
        go_ret2
        exact tookI_yes HT.out hown hb
      | succ g =>
        have hkI : (k : Int) < (m : Int) := by omega
        have hk8 : 8 * k + 8 ≤ s.size := by have := HS.out; omega
        have hdl : (Pl.decI k s.data.toList).length + 1 ≤ 1000000 := by rw [Pl.decI_len]; omega
        have hsz := hb.size
        go_wp2
        go_loopg [8, 9] 8 (fun j s8 s9 wx => ∃ (x : BitVec 64), j ≤ 8 ∧ s9 = .int .i64 ((j : Int) - 1) ∧ s8 = .int .i64 x.toInt ∧ x = BitVec.ofNat 64 (Pl.val (((s.data.toList.drop (8 * k)).take 8).drop j)) ∧ wx = wr)
        case atStart => 
          refine ⟨0#64, by omega, rfl, rfl, ?_, rfl⟩
          rw [List.drop_of_length_le (by rw [List.length_take]; omega)]
          rfl
        case round =>
          obtain ⟨x, hj, rfl, rfl, hx, rfl⟩ := hrel
          have HX : Hid (x = BitVec.ofNat 64 (Pl.val (((s.data.toList.drop (8 * k)).take 8).drop gk))) := hx
          clear hx
          cases gk with
          | zero =>
            have HE : Hid (Pl.decI (k + 1) s.data.toList = Pl.decI k s.data.toList ++ [x]) := by
              show _ = _
              rw [Pl.decI_snoc, HX.out, List.drop_zero]
              rfl
            go_wp2_with (at_builtin; refine append_i64 rfl (.tmp 44) (.tmp 46) rfl rfl rfl rfl hown hsz hdl ?_; intro v3 w3 hown3 hb3)
            go_roundg g
            case measure => omega
            case rel => exact ⟨k + 1, by omega, by go_num, by rw [HE.out]; exact hown3, hb.trans hb3⟩
          | succ j =>
            have hk9 : 8 * k + j < s.size := by omega
            have HE : Hid (BitVec.ofNat 64 (Pl.val (((s.data.toList.drop (8 * k)).take 8).drop j)) = (x <<< 8) ||| BitVec.ofNat 64 s[8 * k + j].toNat) := by
              show _ = _
              rw [eight_cons s k j (by omega) hk8, ← ref_step _ _ (by rw [List.length_drop, List.length_take]; omega), HX.out]
            go_wp2
            go_roundg j
            case measure => omega
            case rel => exact ⟨_, by omega, rfl, by rw [ref_word], HE.out.symm, rfl⟩
  · have HT : Hid (tiA s.data.toList n.toInt = ([], 20)) := tiA_no (by rw [hsl]; omega)
    obtain ⟨z, hz⟩ : ∃ z, z = n.toInt := ⟨_, rfl⟩
    rw [← hz] at HT hn ⊢
    clear hz hsl
    by_cases h0 : z < 0
    · clear hn
      go_enter Try.func9, Try.ntmps9
      go_wp2
      go_ret2
      exact tookI_no HT.out (Below.refl _ _)
    · by_cases h1 : (s.size : Int) < z
      · clear hn
        have h2 : 0 ≤ z := by omega
        go_enter Try.func9, Try.ntmps9
        go_wp2
        go_ret2
        exact tookI_no HT.out (Below.refl _ _)
      · have h2 : 0 ≤ z := by omega
        have h3 : z ≤ (s.size : Int) := by omega
        have hq : ((s.size : Int) != 8 * z) = true := by rw [bne_iff_ne]; exact hn
        clear hn
        go_enter Try.func9, Try.ntmps9
        go_wp2
        go_ret2
        exact tookI_no HT.out (Below.refl _ _)
end Go.Proofs.Ytmhbpijefohopaa
