/-
  The walk of law 3's CheckParts: however a text is parted.
-/
import Derived.Test.YtmmmfeafoefdpaaCAwake
namespace Go.Proofs.Ytmmmfeafoefdpaa
open Go.RowKit

/-- More of a sum: an int's lowest 32 bits are the sum again. -/
theorem more_of (n : BitVec 32) (s : ByteArray) (hs : s.size ≤ maxLen) (w : World) :
    Calls Try.prog 11 #[.int .i64 n.toNat, .string s] w fun e w' => e = .returned (.int .i64 (Crc.more n s.data.toList).toNat) ∧ w' = w := by
  have h := more_any (n.setWidth 64) s hs w
  rw [Wt.toInt_small, Wt.back] at h
  exact h

set_option maxRecDepth 4000 in
set_option maxHeartbeats 1000000 in
theorem walkCheckParts (a : ByteArray) (_ : a.size ≤ maxLen) (b : ByteArray) (_ : b.size ≤ maxLen) (w : World) :
    Calls Try.prog 4 #[.string a, .string b] w fun e w' => e = .returned (.bool true) ∧ Below w.heap.size w w' := by
  by_cases ha : (1024 : Int) < (a.size : Int)
  · go_enter Try.func4, Try.ntmps4
    go_wp2_with (go_at_call 8; refine (awake_any _).mono ?_; rintro e w2 ⟨rfl, hb2⟩)
    go_ret
    exact ⟨rfl, hb2⟩
  · by_cases hb : (1024 : Int) < (b.size : Int)
    · go_enter Try.func4, Try.ntmps4
      go_wp2_with (go_at_call 8; refine (awake_any _).mono ?_; rintro e w2 ⟨rfl, hb2⟩)
      go_ret
      exact ⟨rfl, hb2⟩
    · have hm : ((a.size + b.size : Nat) : Int) ≤ 2048 := by omega
      have h1 := sum_any a (by unfold maxLen; omega)
      have h2 := sum_any (a ++ b) (by rw [ByteArray.size_append]; unfold maxLen; omega)
      have h3 := more_of (Crc.sum a.data.toList) b (by unfold maxLen; omega)
      have h4 := more_of (Crc.sum a.data.toList) { data := #[] } (by unfold maxLen; decide)
      rw [ByteArray.toList_data_append] at h2
      have e1 : Crc.sum (a.data.toList ++ b.data.toList) = Crc.more (Crc.sum a.data.toList) b.data.toList := Crc.more_append _ _ _
      have e2 : Crc.more (Crc.sum a.data.toList) ({ data := #[] } : ByteArray).data.toList = Crc.sum a.data.toList := Crc.more_nil _
      rw [← e1] at h3
      rw [e2] at h4
      obtain ⟨n, hn⟩ : ∃ n, n = Crc.sum a.data.toList := ⟨_, rfl⟩
      obtain ⟨m, hm⟩ : ∃ m, m = Crc.sum (a.data.toList ++ b.data.toList) := ⟨_, rfl⟩
      rw [← hn] at h1 h3 h4
      rw [← hm] at h2 h3
      clear hn hm e1 e2
      go_enter Try.func4, Try.ntmps4
      go_wp2_with (first
        | (go_at_call 9; first | (with_reducible refine (h1 _).mono ?_; rintro e w2 ⟨rfl, rfl⟩) | (with_reducible refine (h2 _).mono ?_; rintro e w2 ⟨rfl, rfl⟩))
        | (go_at_call 11; first | (with_reducible refine (h3 _).mono ?_; rintro e w2 ⟨rfl, rfl⟩) | (with_reducible refine (h4 _).mono ?_; rintro e w2 ⟨rfl, rfl⟩))
        | (go_at_call 8; refine (awake_any _).mono ?_; rintro e w2 ⟨rfl, hb2⟩))
      go_ret
      exact ⟨rfl, hb2⟩
end Go.Proofs.Ytmmmfeafoefdpaa
