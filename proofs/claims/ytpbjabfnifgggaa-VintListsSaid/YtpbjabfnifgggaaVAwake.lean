/-
  What law 2's awake answers: true.
-/
import Derived.Test.YtpbjabfnifgggaaVPut
namespace Go.Proofs.Ytpbjabfnifgggaa
open Go.RowKit Leb

theorem enc_m1 : enc1 (-1#64) = [1] := by
  have e : (zigW (-1#64)).toNat = 1 := by decide
  rw [enc1, e, leb_small (by decide)]; rfl
theorem leb128 : leb 128 = [128, 1] := by
  rw [leb_big (by decide), show 128 / 128 = 1 from rfl, leb_small (by decide)]; rfl
theorem len_64 : lenW (zigW 64#64) = 2 := by
  have e : (zigW (64#64)).toNat = 128 := by decide
  rw [lenW, e, leb128]; rfl
theorem tk_awake : tk [128, 1, 122] = (128#64, 2, 0) := by
  have h : leb (128#64).toNat <+: [128, 1, 122] := by
    rw [show (128#64).toNat = 128 from rfl, leb128]
    exact ⟨[122], rfl⟩
  rw [tk_ok h, lenW, show (128#64).toNat = 128 from rfl, leb128]; rfl
theorem zag_128 : (zagW 128#64).toInt = 64 := by decide
theorem take_awake (w : World) : Calls Try.prog 9 #[.string { data := #[128, 1, 122] }] w fun e w' => e = .returned (.tuple #[.int .i64 64, .int .i64 2, .int .i64 0]) ∧ w' = w := by
  refine (take_any _ (by decide) w).mono ?_
  rintro e w' ⟨rfl, rfl⟩
  refine ⟨?_, rfl⟩
  show _ = _
  rw [tk_awake, zag_128]; rfl
theorem len_awake (w : World) : Calls Try.prog 11 #[.int .i64 64] w fun e w' => e = .returned (.int .i64 2) ∧ w' = w := by
  refine (len_any 64#64 w).mono ?_
  rintro e w' ⟨rfl, rfl⟩
  rw [len_64]
  exact ⟨rfl, rfl⟩
theorem put_awake (w : World) : Calls Try.prog 8 #[.int .i64 (-1)] w fun e w' => e = .returned (.string { data := #[1] }) ∧ Below w.heap.size w w' := by
  refine (put_any (-1#64) w).mono ?_
  rintro e w' ⟨rfl, hb⟩
  rw [enc_m1]
  exact ⟨rfl, hb⟩

set_option maxHeartbeats 400000 in
theorem awake_any (w : World) :
    Calls Try.prog 7 #[] w fun e w' => e = .returned (.bool true) ∧ Below w.heap.size w w' := by
  go_enter Try.func7, Try.ntmps7
  go_wp2_with (first
    | (go_at_call 9; refine (take_awake _).mono ?_; rintro e w1 ⟨rfl, rfl⟩)
    | (go_at_call 8; refine (put_awake _).mono ?_; rintro e w2 ⟨rfl, hb⟩)
    | (go_at_call 11; refine (len_awake _).mono ?_; rintro e w3 ⟨rfl, rfl⟩))
  go_ret
  exact ⟨rfl, hb⟩
end Go.Proofs.Ytpbjabfnifgggaa
