/-
  The contracts of package bits' Zig and Zag, over words as BitVec 64.
-/
import Derived.Test.YtlohljefhcidkaaRows
import Derived.Test.YtlohljefhcidkaaWords
import Derived.WalkKit
import Derived.WalkSpells
import Derived.WalkLawsBesides
import Derived.Deep.QuietTactic
import Derived.BigQuiet
namespace Go.Proofs.Ytlohljefhcidkaa
open Go.RowKit

def zigW (x : BitVec 64) : BitVec 64 := if x.msb then ~~~(x <<< 1) else x <<< 1
def zagW (x : BitVec 64) : BitVec 64 := if x.getLsbD 0 then ~~~(x >>> 1) else x >>> 1

theorem zig_neg (x : BitVec 64) (h : x.toInt < 0) : wrap64 (bits .xor .u64 IntKind.u64.max (IntKind.u64.wrap (IntKind.u64.wrap x.toInt * 2))) = (zigW x).toInt := by
  rw [Wd.u64_toInt, show ((x.toNat : Int) * 2) = (x.toNat : Int) * 2 ^ 1 by simp, Wd.u64_shl, Wd.u64_not, Wd.i64_toNat]
  rw [zigW, if_pos ((Wd.neg_iff x).1 h)]
theorem zig_pos (x : BitVec 64) (h : 0 ≤ x.toInt) : wrap64 (IntKind.u64.wrap (IntKind.u64.wrap x.toInt * 2)) = (zigW x).toInt := by
  rw [Wd.u64_toInt, show ((x.toNat : Int) * 2) = (x.toNat : Int) * 2 ^ 1 by simp, Wd.u64_shl, Wd.i64_toNat]
  rw [zigW, if_neg (by rw [← Wd.neg_iff]; omega)]

theorem zag_odd (x : BitVec 64) (h : (bits .and .i64 x.toInt 1 == 1) = true) : wrap64 (bits .xor .u64 IntKind.u64.max (IntKind.u64.wrap x.toInt / 2)) = (zagW x).toInt := by
  rw [Wd.u64_toInt, show ((x.toNat : Int) / 2) = (x.toNat : Int) / 2 ^ 1 by simp, Wd.u64_shr, Wd.u64_not, Wd.i64_toNat]
  rw [zagW, if_pos (by rw [← Wd.bit_is]; exact h)]
theorem zag_even (x : BitVec 64) (h : (bits .and .i64 x.toInt 1 == 1) = false) : wrap64 (IntKind.u64.wrap x.toInt / 2) = (zagW x).toInt := by
  rw [Wd.u64_toInt, show ((x.toNat : Int) / 2) = (x.toNat : Int) / 2 ^ 1 by simp, Wd.u64_shr, Wd.i64_toNat]
  rw [zagW, if_neg (by rw [← Wd.bit_is]; simp [h])]

set_option maxHeartbeats 400000 in
theorem zig_any (x : BitVec 64) (w : World) :
    Calls Try.prog 36 #[.int .i64 x.toInt] w fun e w' => e = .returned (.int .i64 (zigW x).toInt) ∧ w' = w := by
  go_enter Try.func36, Try.ntmps36
  go_wp2
  · go_ret
    exact ⟨Wd.returned_int (zig_neg x ‹_›), rfl⟩
  · go_ret
    exact ⟨Wd.returned_int (zig_pos x ‹_›), rfl⟩

set_option maxHeartbeats 400000 in
theorem zag_any (x : BitVec 64) (w : World) :
    Calls Try.prog 40 #[.int .i64 x.toInt] w fun e w' => e = .returned (.int .i64 (zagW x).toInt) ∧ w' = w := by
  go_enter Try.func40, Try.ntmps40
  go_wp2
  · go_ret
    exact ⟨Wd.returned_int (zag_odd x ‹_›), rfl⟩
  · go_ret
    exact ⟨Wd.returned_int (zag_even x ‹_›), rfl⟩

end Go.Proofs.Ytlohljefhcidkaa
