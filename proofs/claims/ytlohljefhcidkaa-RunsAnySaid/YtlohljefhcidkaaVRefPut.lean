/-
  The contract of package peristyleref02's Put.
-/
import Derived.Test.YtlohljefhcidkaaVPut
import Derived.Test.YtlohljefhcidkaaZigEq
import Derived.Test.YtlohljefhcidkaaRefField
namespace Go.Proofs.Ytlohljefhcidkaa
open Go.RowKit Leb

theorem field_low (x : BitVec 64) : wordW (fieldF x 0 7) = BitVec.ofNat 64 (x.toNat % 128) := by
  apply BitVec.eq_of_getLsbD_eq
  intro i hi
  rw [wordW_bit _ i hi, BitVec.getLsbD_ofNat]
  unfold fieldF bitsOf
  rw [show (128 : Nat) = 2 ^ 7 from rfl, Nat.testBit_mod_two_pow]
  by_cases h : i < 7
  · have h2 : (i : Int) < 7 := by omega
    simp [h, h2, hi, BitVec.getLsbD]
  · have h2 : ¬ (i : Int) < 7 := by omega
    simp [h, h2]
theorem field_high (x : BitVec 64) : wordW (fieldF x 7 64) = x >>> 7 := by
  apply BitVec.eq_of_getLsbD_eq
  intro i hi
  rw [wordW_bit _ i hi, BitVec.getLsbD_ushiftRight]
  unfold fieldF bitsOf
  by_cases h : 7 + i < 64
  · have h2 : (i : Int) < 64 := by omega
    simp [h, h2]
  · rw [BitVec.getLsbD_of_ge x (7 + i) (by omega)]; simp
theorem refLow (x : BitVec 64) (w : World) (c : Nat) (hc : c = x.toNat % 128) :
    Calls Try.prog 32 #[.int .i64 x.toInt, .int .i64 0, .int .i64 7] w fun e w' => e = .returned (.int .i64 (c : Int)) ∧ Below w.heap.size w w' := by
  refine (refField_in x 0 (by decide) 7 w).mono ?_
  rintro e w' ⟨rfl, hb⟩
  rw [field_low, Wd.toInt_of_small _ (by omega), hc]
  exact ⟨rfl, hb⟩
theorem refHigh (x : BitVec 64) (w : World) (q : BitVec 64) (hq : q = x >>> 7) :
    Calls Try.prog 32 #[.int .i64 x.toInt, .int .i64 7, .int .i64 64] w fun e w' => e = .returned (.int .i64 q.toInt) ∧ Below w.heap.size w w' := by
  refine (refField_in x 7 (by decide) 64 w).mono ?_
  rintro e w' ⟨rfl, hb⟩
  rw [field_high, hq]
  exact ⟨rfl, hb⟩
theorem refZig_eq (x : BitVec 64) (w : World) :
    Calls Try.prog 31 #[.int .i64 x.toInt] w fun e w' => e = .returned (.int .i64 (zigW x).toInt) ∧ Below w.heap.size w w' := by
  refine (refZig_any x w).mono ?_
  rintro e w' ⟨rfl, hb⟩
  rw [zig_eq]
  exact ⟨rfl, hb⟩
theorem toInt_zero_iff (x : BitVec 64) : (x.toInt == 0) = decide (x.toNat = 0) := by
  rw [Bool.eq_iff_iff, beq_iff_eq, decide_eq_true_iff, BitVec.toInt_eq_toNat_bmod, Int.bmod_def]
  have := x.isLt
  omega

set_option maxRecDepth 4000 in
set_option maxHeartbeats 1000000 in
theorem refPut_any (x : BitVec 64) (w : World) :
    Calls Try.prog 26 #[.int .i64 x.toInt] w fun e w' => e = .returned (.string (str (enc1 x))) ∧ Below w.heap.size w w' := by
  go_enter Try.func26, Try.ntmps26
  go_wp2_with (go_at_call 31; refine (refZig_eq _ _).mono ?_; rintro e w1 ⟨rfl, hb1⟩)
  go_loopg [3, 4] (leb (zigW x).toNat).length (fun g s3 s4 wx => ∃ (done : List UInt8) (r : BitVec 64), (leb r.toNat).length = g ∧ s3 = .int .i64 r.toInt ∧ enc1 x = done ++ leb r.toNat ∧ OwnsB wx w.heap.size s4 done ∧ Below w.heap.size w wx)
  case atStart => exact ⟨[], zigW x, rfl, rfl, rfl, ownsB_nil _ _, hb1⟩
  case round =>
    obtain ⟨done, r, hrg, rfl, henc, hown, hb2⟩ := hrel
    have HE : Hid (enc1 x = done ++ leb r.toNat) := henc
    have HR : Hid ((leb r.toNat).length = gk) := hrg
    have hdl : done.length ≤ 10 := by
      have e := congrArg List.length henc
      rw [enc1_len, List.length_append] at e
      have := (lenW_bd (zigW x)).2
      omega
    have hsz := hb2.size
    clear henc hrg
    obtain ⟨c, hc⟩ : ∃ c, c = r.toNat % 128 := ⟨_, rfl⟩
    have HC : Hid (c = r.toNat % 128) := hc
    have hc2 : (c : Int) < 128 := by omega
    obtain ⟨q, hq⟩ : ∃ q, q = r >>> 7 := ⟨_, rfl⟩
    have HQ : Hid (q = r >>> 7) := hq
    by_cases hr : r.toNat < 128
    · have hz : (q.toInt == 0) = true := by rw [hq, toInt_zero_iff, shr7, decide_eq_true_iff]; omega
      have r2 : Hid ((c : Int) = ((UInt8.ofNat r.toNat).toNat : Int)) := by show _ = _; rw [byte_small (by omega), hc]; omega
      clear hc hq
      go_wp2_with fail
      refine (refLow _ _ c HC.out).mono ?_
      rintro e w3 ⟨rfl, hb3⟩
      replace hown := hown.below hb3
      replace hb2 := hb2.trans (hb3.mono hsz)
      clear hb3
      replace hsz := hb2.size
      go_wp2_with fail
      refine (refHigh _ _ q HQ.out).mono ?_
      rintro e w4 ⟨rfl, hb3⟩
      replace hown := hown.below hb3
      replace hb2 := hb2.trans (hb3.mono hsz)
      clear hb3
      replace hsz := hb2.size
      go_wp2_with ((at_builtin; refine append_u8 rfl (.tmp 14) (.tmp 17) rfl rfl rfl r2.out hown ?hB ?hl ?_; (case hB => omega); (case hl => omega); intro v3 w3 hown3 hb3; have hcv := convert_own hown3 (by simp)))
      go_ret
      have e1 := HE.out
      rw [leb_small hr] at e1
      refine ⟨?_, hb2.trans hb3⟩
      rw [e1]; rfl
    · have hr' : 128 ≤ r.toNat := by omega
      have hz : (q.toInt == 0) = false := by rw [hq, toInt_zero_iff, shr7, decide_eq_false_iff_not]; omega
      have r2 : Hid ((128 : Int) + (c : Int) = ((UInt8.ofNat (r.toNat % 128 + 128)).toNat : Int)) := by show _ = _; rw [byte_small (by omega), hc]; omega
      clear hc hq
      go_wp2_with fail
      refine (refLow _ _ c HC.out).mono ?_
      rintro e w3 ⟨rfl, hb3⟩
      replace hown := hown.below hb3
      replace hb2 := hb2.trans (hb3.mono hsz)
      clear hb3
      replace hsz := hb2.size
      go_wp2_with fail
      refine (refHigh _ _ q HQ.out).mono ?_
      rintro e w4 ⟨rfl, hb3⟩
      replace hown := hown.below hb3
      replace hb2 := hb2.trans (hb3.mono hsz)
      clear hb3
      replace hsz := hb2.size
      go_wp2_with ((at_builtin; refine append_u8 rfl (.tmp 20) (.tmp 24) rfl rfl rfl r2.out hown ?hB ?hl ?_; (case hB => omega); (case hl => omega); intro v3 w3 hown3 hb3))
      go_roundg ((leb r.toNat).length - 1)
      case measure => have := HR.out; have := leb_pos r.toNat; omega
      case rel =>
        have e1 := HE.out
        rw [leb_big hr'] at e1
        refine ⟨done ++ [UInt8.ofNat (r.toNat % 128 + 128)], q, ?_, rfl, ?_, hown3, hb2.trans hb3⟩
        · rw [leb_big hr', HQ.out, shr7]; simp
        · rw [e1, HQ.out, shr7]; simp
end Go.Proofs.Ytlohljefhcidkaa
