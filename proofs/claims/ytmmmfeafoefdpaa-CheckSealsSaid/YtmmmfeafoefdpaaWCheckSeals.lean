/-
  The walk of law 3's CheckSeals: any bytes with their sum behind, and whether any bytes are such.
-/
import Derived.Test.YtmmmfeafoefdpaaCAwake
import Derived.Test.YtmmmfeafoefdpaaCRefSeal
namespace Go.Proofs.Ytmmmfeafoefdpaa
open Go.RowKit

set_option maxRecDepth 4000 in
set_option maxHeartbeats 2000000 in
theorem walkCheckSeals (s : ByteArray) (_ : s.size ≤ maxLen) (t : ByteArray) (_ : t.size ≤ maxLen) (w : World) :
    Calls Try.prog 5 #[.string s, .string t] w fun e w' => e = .returned (.bool true) ∧ Below w.heap.size w w' := by
  by_cases ha : (1024 : Int) < (s.size : Int)
  · go_enter Try.func5, Try.ntmps5
    go_wp2_with (go_at_call 8; refine (awake_any _).mono ?_; rintro e w2 ⟨rfl, hb2⟩)
    go_ret
    exact ⟨rfl, hb2⟩
  · by_cases hb : (1024 : Int) < (t.size : Int)
    · go_enter Try.func5, Try.ntmps5
      go_wp2_with (go_at_call 8; refine (awake_any _).mono ?_; rintro e w2 ⟨rfl, hb2⟩)
      go_ret
      exact ⟨rfl, hb2⟩
    · have hs : s.size ≤ 1000000 := by omega
      have ht : t.size ≤ 1000000 := by omega
      have h1 := seal_any s hs
      have h2 := refSeal_any s hs
      have h3 := open_yes (sealS s) (by rw [sealS_size]; unfold maxLen; omega) s.data.toList (sealS_list s)
      rw [strB_of] at h3
      obtain ⟨S, hS⟩ : ∃ S, S = sealS s := ⟨_, rfl⟩
      rw [← hS] at h1 h2 h3
      clear hS
      obtain ⟨U, f, h4, h5⟩ : ∃ (U : ByteArray) (f : Int), (∀ w, Calls Try.prog 13 #[.string t] w fun e w' => e = .returned (.tuple #[.string U, .int .i64 f]) ∧ Below w.heap.size w w') ∧ (∀ w, Calls Try.prog 15 #[.string t] w fun e w' => e = .returned (.tuple #[.string U, .int .i64 f]) ∧ Below w.heap.size w w') := by
        by_cases h : ∃ u, t.data.toList = sealL u
        · obtain ⟨u, hu⟩ := h
          exact ⟨_, _, open_yes t (by unfold maxLen; omega) u hu, refOpen_yes t ht u hu⟩
        · exact ⟨_, _, open_no t (by unfold maxLen; omega) h, refOpen_no t ht h⟩
      have hacc := Below.refl w.heap.size w
      go_enter Try.func5, Try.ntmps5
      go_wp2_with (first
        | (go_at_call 14; refine (h1 _).mono ?_; rintro e w2 ⟨rfl, hb2⟩; replace hacc := hacc.trans (hb2.mono hacc.size); clear hb2)
        | (go_at_call 16; refine (h2 _).mono ?_; rintro e w2 ⟨rfl, hb2⟩; replace hacc := hacc.trans (hb2.mono hacc.size); clear hb2)
        | (go_at_call 13; first | (with_reducible refine (h3 _).mono ?_; rintro e w2 ⟨rfl, hb2⟩; replace hacc := hacc.trans (hb2.mono hacc.size); clear hb2) | (with_reducible refine (h4 _).mono ?_; rintro e w2 ⟨rfl, hb2⟩; replace hacc := hacc.trans (hb2.mono hacc.size); clear hb2))
        | (go_at_call 15; refine (h5 _).mono ?_; rintro e w2 ⟨rfl, hb2⟩; replace hacc := hacc.trans (hb2.mono hacc.size); clear hb2)
        | (go_at_call 8; refine (awake_any _).mono ?_; rintro e w2 ⟨rfl, hb2⟩; replace hacc := hacc.trans (hb2.mono hacc.size); clear hb2))
      go_ret
      exact ⟨rfl, hacc⟩
end Go.Proofs.Ytmmmfeafoefdpaa
