/-
  The contracts of cmp.Compare at ints and texts, of package cell's Compare, meant and Check, and of the document's Compare and May.
-/
import Derived.Test.YtnnnkmgkijijdaaRows
import Derived.Test.YtnnnkmgkijijdaaKOrd
import Derived.Test.YtnnnkmgkijijdaaCalm
import Derived.WalkKit
import Derived.WalkSpells
import Derived.WalkLawsBesides
namespace Go.Proofs.Ytnnnkmgkijijdaa
open Go.RowKit

theorem retI {a b : Int} (h : b = a) : Ending.returned (.int .i64 a) = .returned (.int .i64 b) := by rw [h]
theorem retB {a b : Bool} (h : b = a) : Ending.returned (.bool a) = .returned (.bool b) := by rw [h]

set_option maxHeartbeats 1000000 in
theorem cmpInt_any (a b : Int) (w : World) :
    Calls Try.prog 36 #[.int .i64 a, .int .i64 b] w fun e w' => e = .returned (.int .i64 (cmpI a b)) ∧ w' = w := by
  rcases Int.lt_trichotomy a b with h | h | h
  · have HE : Hid (cmpI a b = -1) := by unfold Hid cmpI; rw [if_pos h]
    go_enter Try.func36, Try.ntmps36
    go_wp2
    go_ret
    exact ⟨retI HE.out, rfl⟩
  · have HE : Hid (cmpI a b = 0) := by unfold Hid cmpI; rw [if_neg (by omega), if_neg (by omega)]
    have h1 : ¬ a < b := by omega
    have h2 : ¬ b < a := by omega
    clear h
    go_enter Try.func36, Try.ntmps36
    go_wp2
    go_ret
    exact ⟨retI HE.out, rfl⟩
  · have HE : Hid (cmpI a b = 1) := by unfold Hid cmpI; rw [if_neg (by omega), if_pos h]
    have h1 : ¬ a < b := by omega
    go_enter Try.func36, Try.ntmps36
    go_wp2
    go_ret
    exact ⟨retI HE.out, rfl⟩

set_option maxHeartbeats 1000000 in
theorem cmpStr_any (a b : ByteArray) (w : World) :
    Calls Try.prog 37 #[.string a, .string b] w fun e w' => e = .returned (.int .i64 (cmpS a b)) ∧ w' = w := by
  cases h : Op.bytesLess a.toList b.toList with
  | true =>
    have HE : Hid (cmpS a b = -1) := by unfold Hid cmpS; rw [if_pos h]
    go_enter Try.func37, Try.ntmps37
    go_wp2
    go_ret
    exact ⟨retI HE.out, rfl⟩
  | false =>
    by_cases e : a.toList = b.toList
    · have HE : Hid (cmpS a b = 0) := (cmpS_zero a b).2 e
      have h2 : (a.toList == b.toList) = true := by simpa using e
      clear e
      go_enter Try.func37, Try.ntmps37
      go_wp2
      go_ret
      exact ⟨retI HE.out, rfl⟩
    · have HE : Hid (cmpS a b = 1) := by unfold Hid cmpS; rw [if_neg (by simp [h]), if_neg e]
      have h2 : (a.toList == b.toList) = false := by simpa using e
      clear e
      go_enter Try.func37, Try.ntmps37
      go_wp2
      go_ret
      exact ⟨retI HE.out, rfl⟩

theorem belowTwo (w : World) (A B : Obj) : Below w.heap.size w ((w.alloc A).alloc B) := ((Below.refl _ w).alloc (Nat.le_refl _) _).alloc (by simp) _

set_option maxHeartbeats 2000000 in
theorem compare_any (a b : Cl) (w : World) :
    Calls Try.prog 31 #[cv a, cv b] w fun e w' => e = .returned (.int .i64 (cmpC a b)) ∧ Below w.heap.size w w' := by
  obtain ⟨ak, an, sa⟩ := a
  obtain ⟨bk, bn, sb⟩ := b
  simp only [cv]
  by_cases hk : ak = bk
  · by_cases hn : an = bn
    · by_cases hs : sa.toList = sb.toList
      · have HE : Hid (cmpC ⟨ak, an, sa⟩ ⟨bk, bn, sb⟩ = 0) := (cmpC_zero _ _).2 (cl_ext hk hn hs)
        subst hk hn
        have h2 : (sa.toList == sb.toList) = true := by simpa using hs
        clear hs
        go_enter Try.func31, Try.ntmps31
        go_wp2_with fail
        go_ret
        exact ⟨retI HE.out, belowTwo _ _ _⟩
      · have HE : Hid (cmpC ⟨ak, an, sa⟩ ⟨bk, bn, sb⟩ = cmpS sa sb) := by unfold Hid cmpC; rw [if_pos hk, if_pos hn]
        subst hk hn
        have h2 : (sa.toList == sb.toList) = false := by simpa using hs
        go_enter Try.func31, Try.ntmps31
        go_wp2_with (go_at_call 37; refine (cmpStr_any _ _ _).mono ?_; rintro e w1 ⟨rfl, rfl⟩)
        go_ret
        exact ⟨retI HE.out, belowTwo _ _ _⟩
    · have HE : Hid (cmpC ⟨ak, an, sa⟩ ⟨bk, bn, sb⟩ = cmpI an bn) := by unfold Hid cmpC; rw [if_pos hk, if_neg hn]
      subst hk
      have h1 : (an == bn) = false := by simpa using hn
      have h2 : (an != bn) = true := by simpa using hn
      clear hn
      go_enter Try.func31, Try.ntmps31
      go_wp2_with (go_at_call 36; refine (cmpInt_any _ _ _).mono ?_; rintro e w1 ⟨rfl, rfl⟩)
      go_ret
      exact ⟨retI HE.out, belowTwo _ _ _⟩
  · have HE : Hid (cmpC ⟨ak, an, sa⟩ ⟨bk, bn, sb⟩ = cmpI ak bk) := by unfold Hid cmpC; rw [if_neg hk]
    have h1 : (ak == bk) = false := by simpa using hk
    have h2 : (ak != bk) = true := by simpa using hk
    clear hk
    go_enter Try.func31, Try.ntmps31
    go_wp2_with (go_at_call 36; refine (cmpInt_any _ _ _).mono ?_; rintro e w1 ⟨rfl, rfl⟩)
    go_ret
    exact ⟨retI HE.out, belowTwo _ _ _⟩
end Go.Proofs.Ytnnnkmgkijijdaa
