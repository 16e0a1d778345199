/-
  The walk of law 2's VintTakes: the number of any bytes, or that they are none.
-/
import Derived.Test.YtpbjabfnifgggaaVAwake
import Derived.Test.YtpbjabfnifgggaaVRefTake
import Derived.Test.YtpbjabfnifgggaaCalm
namespace Go.Proofs.Ytpbjabfnifgggaa
open Go.RowKit Leb

set_option maxRecDepth 4000 in
set_option maxHeartbeats 1000000 in
theorem walkVintTakes (s : ByteArray) (hs : s.size ≤ maxLen) (w : World) :
    Calls Try.prog 4 #[.string s] w fun e w' => e = .returned (.bool true) ∧ Below w.heap.size w w' := by
  by_cases hlen : (512 : Int) < (s.size : Int)
  · go_enter Try.func4, Try.ntmps4
    go_wp2_with (go_at_call 7; refine (awake_any _).mono ?_; rintro e w2 ⟨rfl, hb2⟩)
    go_ret
    exact ⟨rfl, hb2⟩
  · have hs512 : s.size ≤ 512 := by omega
    rcases tk_cases s.data.toList with ⟨z, hz, e0⟩ | ⟨_, e0⟩
    · have tx : ∀ w, Calls Try.prog 9 #[.string s] w fun e w' => e = .returned (.tuple #[.int .i64 (zagW z).toInt, .int .i64 (lenW z), .int .i64 0]) ∧ w' = w := fun w => by
        have := take_any s hs w; rw [e0] at this; exact this
      have ux : ∀ w, Calls Try.prog 12 #[.string s] w fun e w' => e = .returned (.tuple #[.int .i64 (zagW z).toInt, .int .i64 (lenW z), .int .i64 0]) ∧ Below w.heap.size w w' := fun w => by
        have := refTake_any s w; rw [e0] at this; exact this
      obtain ⟨L, hL⟩ : ∃ L, L = lenW z := ⟨_, rfl⟩
      have hLs : L ≤ s.size := by rw [hL]; have := hz.length_le; simpa [lenW] using this
      have hle : 0 ≤ (L : Int) ∧ (L : Int) ≤ (s.size : Int) := by omega
      have hle1 : (L : Int) ≤ (s.size : Int) := by omega
      obtain ⟨n, hn⟩ : ∃ n, n = zagW z := ⟨_, rfl⟩
      have hq : ((str (enc1 n)).toList == (s.extract 0 L).toList) = true := by
        rw [beq_iff_eq, toList_str, hn, enc1_zag, extract_list, hL]
        exact List.prefix_iff_eq_take.1 hz
      rw [← hL, ← hn] at tx ux
      clear e0 hz hL hn
      have hacc := Below.refl w.heap.size w
      go_enter Try.func4, Try.ntmps4
      go_wp2_with (first
        | (go_at_call 9; refine (tx _).mono ?_; rintro e w2 ⟨rfl, rfl⟩)
        | (go_at_call 12; refine (ux _).mono ?_; rintro e w2 ⟨rfl, hb2⟩; replace hacc := hacc.trans (hb2.mono hacc.size); clear hb2))
      refine wp_region_above (by kernel_rfl) (by kernel_rfl) ?_
      intro hne
      repeat (go_big_quiet_step (first | (go_at_call 8; exact above_of (put_any _ _)) | (go_at_call 7; exact above_of (awake_any _))))
      refine wpQuiet_nil ?_
      rintro _ ⟨kq, rfl⟩
      have hbq := kq.is
      go_wp2
      go_ret
      exact ⟨rfl, hacc.trans (hbq.mono hacc.size)⟩
    · have tx : ∀ w, Calls Try.prog 9 #[.string s] w fun e w' => e = .returned (.tuple #[.int .i64 0, .int .i64 0, .int .i64 20]) ∧ w' = w := fun w => by
        have := take_any s hs w; rw [← take_no e0] at this; exact this
      have ux : ∀ w, Calls Try.prog 12 #[.string s] w fun e w' => e = .returned (.tuple #[.int .i64 0, .int .i64 0, .int .i64 20]) ∧ Below w.heap.size w w' := fun w => by
        have := refTake_any s w; rw [← take_no e0] at this; exact this
      clear e0
      have hacc := Below.refl w.heap.size w
      go_enter Try.func4, Try.ntmps4
      go_wp2_with (first
        | (go_at_call 9; refine (tx _).mono ?_; rintro e w2 ⟨rfl, rfl⟩)
        | (go_at_call 12; refine (ux _).mono ?_; rintro e w2 ⟨rfl, hb2⟩; replace hacc := hacc.trans (hb2.mono hacc.size); clear hb2))
      refine wp_region_above (by kernel_rfl) (by kernel_rfl) ?_
      intro hne
      repeat (go_big_quiet_step (first | (go_at_call 8; exact above_of (put_any _ _)) | (go_at_call 7; exact above_of (awake_any _))))
      refine wpQuiet_nil ?_
      rintro _ ⟨kq, rfl⟩
      have hbq := kq.is
      go_wp2
      go_ret
      exact ⟨rfl, hacc.trans (hbq.mono hacc.size)⟩
end Go.Proofs.Ytpbjabfnifgggaa
