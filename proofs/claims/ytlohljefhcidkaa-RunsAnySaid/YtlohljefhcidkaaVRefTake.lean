/-
  The contract of package peristyleref02's Take.
-/
import Derived.Test.YtlohljefhcidkaaVRefPut
import Derived.Deep.QuietTactic
import Derived.BigQuiet
import Derived.Deep.RegionWith
import Derived.Lib.Strings
namespace Go.Proofs.Ytlohljefhcidkaa
open Go.RowKit Leb

theorem refWith_at (s : ByteArray) (k : Nat) (hk : k ≤ 9) (hks : k < s.size) (c : Nat) (hc : c = s[k].toNat % 128) (w : World) :
    Calls Try.prog 34 #[.int .i64 (gotW s.data.toList k).toInt, .int .i64 (7 * (k : Int)), .int .i64 7, .int .i64 (c : Int)] w fun e w' => e = .returned (.int .i64 (gotW s.data.toList (k + 1)).toInt) ∧ Below w.heap.size w w' := by
  have e1 : (7 * (k : Int)) = ((7 * k : Nat) : Int) := by omega
  have e2 : (c : Int) = (BitVec.ofNat 64 c).toInt := by rw [Wd.toInt_of_small _ (by omega)]
  rw [e1, e2]
  refine (refWith_in (gotW s.data.toList k) (7 * k) (by omega) 7 (BitVec.ofNat 64 c) w).mono ?_
  rintro e w' ⟨rfl, hb⟩
  have hn : (BitVec.ofNat 64 c).toNat = c := by rw [BitVec.toNat_ofNat]; omega
  rw [with_shl _ _ _ (got_lt _ k hk).2 (by rw [hn]; omega), hc, ← getD_data s k hks, got_succ _ k hk (by simpa using hks)]
  exact ⟨rfl, hb⟩
theorem refZag_eq (x : BitVec 64) (w : World) :
    Calls Try.prog 35 #[.int .i64 x.toInt] w fun e w' => e = .returned (.int .i64 (zagW x).toInt) ∧ Below w.heap.size w w' := by
  refine (refZag_any x w).mono ?_
  rintro e w' ⟨rfl, hb⟩
  rw [zag_eq]
  exact ⟨rfl, hb⟩
theorem enc1_zag (z : BitVec 64) : enc1 (zagW z) = leb z.toNat := by rw [enc1, zig_zag]
theorem extract_list (s : ByteArray) (k : Nat) : (s.extract 0 k).toList = s.data.toList.take k := by
  rw [Lib.extract_toList]; simp

set_option maxRecDepth 4000 in
set_option maxHeartbeats 1000000 in
theorem refTake_any (s : ByteArray) (w : World) :
    Calls Try.prog 29 #[.string s] w fun e w' => e = .returned (.tuple #[.int .i64 (zagW (tk s.data.toList).1).toInt, .int .i64 (tk s.data.toList).2.1, .int .i64 (tk s.data.toList).2.2]) ∧ Below w.heap.size w w' := by
  go_enter Try.func29, Try.ntmps29
  go_wp2
  go_loopg [5, 6] 10 (fun g s5 s6 wx => ∃ k : Nat, k + g = 10 ∧ s6 = .int .i64 k ∧ s5 = .int .i64 (gotW s.data.toList k).toInt ∧ (∀ i, i < k → 128 ≤ (s.data.toList.getD i 0).toNat) ∧ Below w.heap.size w wx)
  case atStart => exact ⟨0, by omega, rfl, rfl, fun i hi => by omega, Below.refl _ _⟩
  case round =>
    obtain ⟨k, hkg, rfl, rfl, hall, hb⟩ := hrel
    have HA : Hid (∀ i, i < k → 128 ≤ (s.data.toList.getD i 0).toNat) := hall
    clear hall
    by_cases hk : k < 10 ∧ k < s.size
    · obtain ⟨hk, hks⟩ := hk
      have hkI : (k : Int) < 10 := by omega
      have hksI : (k : Int) < (s.size : Int) := by omega
      obtain ⟨c, hc⟩ : ∃ c, c = s[k].toNat % 128 := ⟨_, rfl⟩
      have HC : Hid (c = s[k].toNat % 128) := hc
      have r1 : bits .and .u8 (s[k].toNat : Int) 127 = (c : Int) := by rw [hc]; exact u8_and127 s[k]
      have hc2 : (c : Int) < 128 := by omega
      clear hc
      by_cases h128 : 128 ≤ s[k].toNat
      · have h128I : ¬ (s[k].toNat : Int) < 128 := by omega
        go_wp2_with fail
        refine (refWith_at s k (by omega) hks c HC.out _).mono ?_
        rintro e w1 ⟨rfl, hb1⟩
        go_wp2
        go_roundg (10 - (k + 1))
        case measure => omega
        case rel =>
          refine ⟨k + 1, by omega, by go_num, rfl, fun i hi => ?_, hb.trans (hb1.mono hb.size)⟩
          by_cases e : i = k
          · rw [e, getD_data s k hks]; exact h128
          · exact HA.out i (by omega)
      · have h128I : (s[k].toNat : Int) < 128 := by omega
        have hle1 : ((k : Int) + 1) ≤ (s.size : Int) := by omega
        have hwr : wrap64 ((k : Int) + 1) = (k : Int) + 1 := by unfold wrap64; omega
        have hwr2 : IntKind.i64.wrap ((k : Int) + 1) = (k : Int) + 1 := by rw [IntWalk.i64_left]; exact hwr
        have hle2 : 0 ≤ (k : Int) + 1 ∧ ((k : Int) + 1) ≤ (s.size : Int) := ⟨by omega, hle1⟩
        rcases tk_again HA.out (k := k) (by rw [getD_data s k hks]; omega) (by simpa using hks) with ⟨h1, h2⟩ | ⟨h1, h2⟩
        case' inl =>
          have HT : Hid (tk s.data.toList = (gotW s.data.toList (k + 1), k + 1, 0)) := h2
          have hq : ((str (enc1 (zagW (gotW s.data.toList (k + 1))))).toList == (s.extract 0 (k + 1)).toList) = true := by rw [beq_iff_eq, toList_str, enc1_zag, extract_list, h1]
        case' inr =>
          have HT : Hid (tk s.data.toList = (0#64, 0, 20)) := h2
          have hq : ((str (enc1 (zagW (gotW s.data.toList (k + 1))))).toList == (s.extract 0 (k + 1)).toList) = false := by rw [beq_eq_false_iff_ne, toList_str, enc1_zag, extract_list]; exact h1
        all_goals
          clear h1 h2
          go_wp2_with fail
          refine (refWith_at s k (by omega) hks c HC.out _).mono ?_
          rintro e w1 ⟨rfl, hb1⟩
          have hb2 := hb.trans (hb1.mono hb.size)
          clear hb1 hb
          go_wp2_with fail
          refine (refZag_eq _ _).mono ?_
          rintro e w2 ⟨rfl, hb3⟩
          have hb4 := hb2.trans (hb3.mono hb2.size)
          clear hb2 hb3
          go_wp2_with fail
          go_region_with (go_at_call 26; refine (refPut_any _ _).mono ?_; rintro e w3 ⟨rfl, hb5⟩)
          all_goals
            go_wp2
            go_ret3
            first | exact ⟨take_no HT.out, hb4.drew.trans (hb5.mono hb4.size)⟩ | exact ⟨take_yes HT.out, hb4.drew.trans (hb5.mono hb4.size)⟩
    · have HT : Hid (tk s.data.toList = (0#64, 0, 20)) := tk_long HA.out (k := k) (by simp; omega)
      by_cases hks : (k : Int) < (s.size : Int)
      · have hkI : ¬ (k : Int) < 10 := by omega
        go_wp2
        go_ret3
        exact ⟨take_no HT.out, hb⟩
      · go_wp2
        go_ret3
        exact ⟨take_no HT.out, hb⟩
end Go.Proofs.Ytlohljefhcidkaa
