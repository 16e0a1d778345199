/-
  What law 3's awake answers: true.
-/
import Derived.Test.YtmmmfeafoefdpaaCSeal
namespace Go.Proofs.Ytmmmfeafoefdpaa
open Go.RowKit

theorem sum_nine : (Crc.sum [49, 50, 51, 52, 53, 54, 55, 56, 57]).toNat = 3808858755 := by decide +kernel
theorem sum_column : sealS { data := #[99, 111, 108, 117, 109, 110] } = strB (sealL [99, 111, 108, 117, 109, 110]) := by
  rw [← strB_of (sealS _), sealS_list]
theorem sum_awake (w : World) : Calls Try.prog 9 #[.string { data := #[49, 50, 51, 52, 53, 54, 55, 56, 57] }] w fun e w' => e = .returned (.int .i64 3808858755) ∧ w' = w := by
  refine (sum_any _ (by decide) w).mono ?_
  rintro e w' ⟨rfl, rfl⟩
  exact ⟨Wd.returned_int (congrArg Int.ofNat sum_nine), rfl⟩
theorem more_awake (w : World) : Calls Try.prog 11 #[.int .i64 (Crc.sum [49, 50, 51, 52]).toNat, .string { data := #[53, 54, 55, 56, 57] }] w fun e w' => e = .returned (.int .i64 3808858755) ∧ w' = w := by
  have h := more_any ((Crc.sum [49, 50, 51, 52]).setWidth 64) { data := #[53, 54, 55, 56, 57] } (by decide) w
  rw [Wt.toInt_small, Wt.back] at h
  refine h.mono ?_
  rintro e w' ⟨rfl, rfl⟩
  refine ⟨Wd.returned_int (congrArg Int.ofNat (?_ : _ = 3808858755)), rfl⟩
  rw [← sum_nine]
  exact congrArg BitVec.toNat (Crc.more_append 0#32 [49, 50, 51, 52] [53, 54, 55, 56, 57]).symm

set_option maxRecDepth 4000 in
set_option maxHeartbeats 1000000 in
theorem awake_any (w : World) :
    Calls Try.prog 8 #[] w fun e w' => e = .returned (.bool true) ∧ Below w.heap.size w w' := by
  have cs : ∀ w, Calls Try.prog 14 #[.string { data := #[99, 111, 108, 117, 109, 110] }] w fun e w' => e = .returned (.string (sealS { data := #[99, 111, 108, 117, 109, 110] })) ∧ Below w.heap.size w w' := fun w => seal_any _ (by decide) w
  have co : ∀ w, Calls Try.prog 13 #[.string (sealS { data := #[99, 111, 108, 117, 109, 110] })] w fun e w' => e = .returned (.tuple #[.string { data := #[99, 111, 108, 117, 109, 110] }, .int .i64 0]) ∧ Below w.heap.size w w' := fun w =>
    open_yes _ (by rw [sealS_size]; decide) [99, 111, 108, 117, 109, 110] (sealS_list _) w
  have c1 : ∀ w, Calls Try.prog 9 #[.string { data := #[49, 50, 51, 52] }] w fun e w' => e = .returned (.int .i64 (Crc.sum [49, 50, 51, 52]).toNat) ∧ w' = w := fun w => sum_any _ (by decide) w
  have c2 := more_awake
  obtain ⟨n, hn⟩ : ∃ n, n = Crc.sum [49, 50, 51, 52] := ⟨_, rfl⟩
  rw [← hn] at c1 c2
  obtain ⟨S, hS⟩ : ∃ S, S = sealS { data := #[99, 111, 108, 117, 109, 110] } := ⟨_, rfl⟩
  rw [← hS] at cs co
  clear hn hS
  have hacc := Below.refl w.heap.size w
  go_enter Try.func8, Try.ntmps8
  go_wp2_with (first
    | (go_at_call 14; refine (cs _).mono ?_; rintro e w2 ⟨rfl, hb2⟩; replace hacc := hacc.trans (hb2.mono hacc.size); clear hb2)
    | (go_at_call 13; refine (co _).mono ?_; rintro e w2 ⟨rfl, hb2⟩; replace hacc := hacc.trans (hb2.mono hacc.size); clear hb2)
    | (go_at_call 11; refine (c2 _).mono ?_; rintro e w2 ⟨rfl, rfl⟩)
    | (go_at_call 9; first | (refine (sum_awake _).mono ?_; rintro e w2 ⟨rfl, rfl⟩) | (refine (c1 _).mono ?_; rintro e w2 ⟨rfl, rfl⟩)))
  go_ret
  exact ⟨rfl, hacc⟩
end Go.Proofs.Ytmmmfeafoefdpaa
