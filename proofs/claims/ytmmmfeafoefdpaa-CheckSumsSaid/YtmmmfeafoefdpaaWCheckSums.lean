/-
  The walk of law 3's CheckSums: the sum of any bytes, and of any behind others.
-/
import Derived.Test.YtmmmfeafoefdpaaCAwake
namespace Go.Proofs.Ytmmmfeafoefdpaa
open Go.RowKit

set_option maxRecDepth 4000 in
set_option maxHeartbeats 1000000 in
theorem walkCheckSums (a0 : Int) (w0 : (Lit.int .i64 a0).wf = true) (s : ByteArray) (_ : s.size ≤ maxLen) (w : World) :
    Calls Try.prog 3 #[.int .i64 a0, .string s] w fun e w' => e = .returned (.bool true) ∧ Below w.heap.size w w' := by
  obtain ⟨x, rfl⟩ := Wd.word_of a0 w0
  by_cases hlen : (2048 : Int) < (s.size : Int)
  · go_enter Try.func3, Try.ntmps3
    go_wp2_with (go_at_call 8; refine (awake_any _).mono ?_; rintro e w2 ⟨rfl, hb2⟩)
    go_ret
    exact ⟨rfl, hb2⟩
  · have hs : s.size ≤ maxLen := by unfold maxLen; omega
    have c1 := sum_any s hs
    have c2 := refSum_any s hs
    have c3 := more_any x s hs
    have c4 := refMore_any x s hs
    obtain ⟨n, hn⟩ : ∃ n, n = Crc.sum s.data.toList := ⟨_, rfl⟩
    obtain ⟨m, hm⟩ : ∃ m, m = Crc.more (x.setWidth 32) s.data.toList := ⟨_, rfl⟩
    rw [← hn] at c1 c2
    rw [← hm] at c3 c4
    clear hn hm
    go_enter Try.func3, Try.ntmps3
    go_wp2_with (first
      | (go_at_call 9; refine (c1 _).mono ?_; rintro e w2 ⟨rfl, rfl⟩)
      | (go_at_call 10; refine (c2 _).mono ?_; rintro e w2 ⟨rfl, rfl⟩)
      | (go_at_call 11; refine (c3 _).mono ?_; rintro e w2 ⟨rfl, rfl⟩)
      | (go_at_call 12; refine (c4 _).mono ?_; rintro e w2 ⟨rfl, rfl⟩)
      | (go_at_call 8; refine (awake_any _).mono ?_; rintro e w2 ⟨rfl, hb2⟩))
    go_ret
    exact ⟨rfl, hb2⟩
end Go.Proofs.Ytmmmfeafoefdpaa
