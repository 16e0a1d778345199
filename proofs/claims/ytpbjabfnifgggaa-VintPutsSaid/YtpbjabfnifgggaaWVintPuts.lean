/-
  The walk of law 2's VintPuts: any number as bytes, and back, whatever stands behind.
-/
import Derived.Test.YtpbjabfnifgggaaVAwake
import Derived.Test.YtpbjabfnifgggaaVRefPut
namespace Go.Proofs.Ytpbjabfnifgggaa
open Go.RowKit Leb

theorem take_enc (x : BitVec 64) (b : ByteArray) (hb : b.size ≤ 100000) (w : World) :
    Calls Try.prog 9 #[.string (str (enc1 x) ++ b)] w fun e w' => e = .returned (.tuple #[.int .i64 x.toInt, .int .i64 (lenW (zigW x)), .int .i64 0]) ∧ w' = w := by
  have hl := (lenW_bd (zigW x)).2
  have hsz : (str (enc1 x) ++ b).size ≤ maxLen := by
    have h1 : (str (enc1 x)).size = lenW (zigW x) := rfl
    rw [ByteArray.size_append, h1]; unfold maxLen; omega
  refine (take_any _ hsz w).mono ?_
  rintro e w' ⟨rfl, rfl⟩
  have ht : tk (str (enc1 x) ++ b).data.toList = (zigW x, lenW (zigW x), 0) := by
    apply tk_ok
    rw [ByteArray.toList_data_append, str_list]
    exact List.prefix_append _ _
  rw [ht, zag_zig]
  exact ⟨rfl, rfl⟩

set_option maxRecDepth 4000 in
set_option maxHeartbeats 1000000 in
theorem walkVintPuts (a0 : Int) (w0 : (Lit.int .i64 a0).wf = true) (b : ByteArray) (_ : b.size ≤ maxLen) (w : World) :
    Calls Try.prog 3 #[.int .i64 a0, .string b] w fun e w' => e = .returned (.bool true) ∧ Below w.heap.size w w' := by
  obtain ⟨x, rfl⟩ := Wd.word_of a0 w0
  have hacc := Below.refl w.heap.size w
  by_cases hlen : (512 : Int) < (b.size : Int)
  · go_enter Try.func3, Try.ntmps3
    go_wp2_with (go_at_call 7; refine (awake_any _).mono ?_; rintro e w2 ⟨rfl, hb2⟩)
    go_ret
    exact ⟨rfl, hb2⟩
  · have hb512 : b.size ≤ 512 := by omega
    obtain ⟨S, hS⟩ : ∃ S, S = str (enc1 x) := ⟨_, rfl⟩
    obtain ⟨L, hL⟩ : ∃ L, L = lenW (zigW x) := ⟨_, rfl⟩
    have cx : ∀ w, Calls Try.prog 8 #[.int .i64 x.toInt] w fun e w' => e = .returned (.string S) ∧ Below w.heap.size w w' := fun w => hS ▸ put_any x w
    have rx : ∀ w, Calls Try.prog 10 #[.int .i64 x.toInt] w fun e w' => e = .returned (.string S) ∧ Below w.heap.size w w' := fun w => hS ▸ refPut_any x w
    have lx : ∀ w, Calls Try.prog 11 #[.int .i64 x.toInt] w fun e w' => e = .returned (.int .i64 L) ∧ w' = w := fun w => hL ▸ len_any x w
    have tx : ∀ w, Calls Try.prog 9 #[.string (S ++ b)] w fun e w' => e = .returned (.tuple #[.int .i64 x.toInt, .int .i64 L, .int .i64 0]) ∧ w' = w := fun w => by rw [hS, hL]; exact take_enc x b (by omega) w
    have hsz : S.size = L := by rw [hS, hL]; rfl
    have hL10 : L ≤ 10 := by rw [hL]; exact (lenW_bd (zigW x)).2
    clear hS hL
    go_enter Try.func3, Try.ntmps3
    go_wp2_with (first
      | (go_at_call 8; refine (cx _).mono ?_; rintro e w2 ⟨rfl, hb2⟩; replace hacc := hacc.trans (hb2.mono hacc.size); clear hb2)
      | (go_at_call 10; refine (rx _).mono ?_; rintro e w2 ⟨rfl, hb2⟩; replace hacc := hacc.trans (hb2.mono hacc.size); clear hb2)
      | (go_at_call 11; refine (lx _).mono ?_; rintro e w2 ⟨rfl, rfl⟩)
      | (go_at_call 9; refine (tx _).mono ?_; rintro e w2 ⟨rfl, rfl⟩)
      | (go_at_call 7; refine (awake_any _).mono ?_; rintro e w2 ⟨rfl, hb2⟩; replace hacc := hacc.trans (hb2.mono hacc.size); clear hb2))
    go_ret
    exact ⟨rfl, hacc⟩
end Go.Proofs.Ytpbjabfnifgggaa
