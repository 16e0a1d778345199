/-
  The contract of package runs' take: the run that bytes begin with.
-/
import Derived.Test.YtlohljefhcidkaaUMay
import Derived.Test.YtlohljefhcidkaaVTake
namespace Go.Proofs.Ytlohljefhcidkaa
open Go.RowKit Leb

theorem extract_end (s : ByteArray) (u : Nat) : (s.extract u s.size).data.toList = s.data.toList.drop u := by
  have h := Lib.extract_toList s u s.size
  rw [ByteArray.toList_eq] at h
  rw [h, List.take_of_length_le]
  simp
theorem extract_le (s : ByteArray) (u : Nat) : (s.extract u s.size).size ≤ s.size := by
  simp
theorem take_at (s : ByteArray) (hs : s.size ≤ 1000000) (u : Nat) {z : BitVec 64} {k e : Nat} (h : tk (s.data.toList.drop u) = (z, k, e)) (w : World) :
    Calls Try.prog 33 #[.string (s.extract u s.size)] w fun r w' => r = .returned (.tuple #[.int .i64 (zagW z).toInt, .int .i64 k, .int .i64 e]) ∧ w' = w := by
  have := take_any (s.extract u s.size) (by have := extract_le s u; unfold maxLen; omega) w
  rw [extract_end, h] at this
  exact this
theorem take_of (s : ByteArray) (hs : s.size ≤ 1000000) {z : BitVec 64} {k e : Nat} (h : tk s.data.toList = (z, k, e)) (w : World) :
    Calls Try.prog 33 #[.string s] w fun r w' => r = .returned (.tuple #[.int .i64 (zagW z).toInt, .int .i64 k, .int .i64 e]) ∧ w' = w := by
  have := take_any s (by unfold maxLen; omega) w
  rw [h] at this
  exact this

set_option maxRecDepth 4000 in
set_option maxHeartbeats 4000000 in
theorem takeRun_yes (s : ByteArray) (hs : s.size ≤ 1000000) {x y : BitVec 64} {q : List UInt8} (h : s.data.toList = enc1 x ++ (enc1 y ++ q)) (w : World) :
    Calls Try.prog 27 #[.string s] w fun r w' => r = .returned (.tuple #[.agg #[.int .i64 x.toInt, .int .i64 0, .int .i64 y.toInt], .int .i64 (((enc1 x).length + (enc1 y).length : Nat) : Int), .int .i64 0]) ∧ Below w.heap.size w w' := by
  have k1 : tk s.data.toList = (zigW x, (enc1 x).length, 0) := by rw [h]; exact tk_enc x _
  have k2 : tk (s.data.toList.drop (enc1 x).length) = (zigW y, (enc1 y).length, 0) := by rw [h, List.drop_left]; exact tk_enc y _
  have t1 := take_of s hs k1
  have t2 := take_at s hs (enc1 x).length k2
  rw [zag_zig] at t1 t2
  have b1 := enc1_bd x
  have b2 := enc1_bd y
  have hsl : s.size = s.data.toList.length := Lib.size_eq s
  rw [h, List.length_append, List.length_append] at hsl
  generalize (enc1 x).length = L1 at *
  generalize (enc1 y).length = L2 at *
  have hu1 : (0 : Int) ≤ (L1 : Int) ∧ (L1 : Int) ≤ (s.size : Int) := by omega
  have hu2 : (L1 : Int) ≤ (s.size : Int) := by omega
  have hL : (L1 : Int) ≤ 10 ∧ (L2 : Int) ≤ 10 := by omega
  generalize x.toInt = a at *
  generalize y.toInt = c at *
  have hr : IntKind.i64.wrap ((L1 : Int) + (L2 : Int)) = (L1 : Int) + (L2 : Int) := by rw [IntKind.wrap_i64]; omega
  clear h hsl b1 b2 hs k1 k2
  go_enter Try.func27, Try.ntmps27
  go_wp2_with fail
  refine (t1 _).mono ?_
  rintro e w1 ⟨rfl, rfl⟩
  go_wp2_with fail
  refine (t2 _).mono ?_
  rintro e w1 ⟨rfl, rfl⟩
  go_wp2_with fail
  exact bodyPost_ret (v := .tuple #[.agg #[.int .i64 a, .int .i64 0, .int .i64 c], .int .i64 ((L1 : Int) + (L2 : Int)), .int .i64 0]) (by simp [results, Try.results27, go_sem]) rfl ⟨rfl, below1 _ _⟩
/-- What take answers where bytes begin with no run. -/
def NoRun (w : World) (e : Ending) (w' : World) : Prop := (∃ a b c k : Int, e = .returned (.tuple #[.agg #[.int .i64 a, .int .i64 b, .int .i64 c], .int .i64 k, .int .i64 20])) ∧ Below w.heap.size w w'

set_option maxRecDepth 4000 in
set_option maxHeartbeats 4000000 in
theorem takeRun_no (s : ByteArray) (hs : s.size ≤ 1000000) (h : ¬ Two s.data.toList) (w : World) :
    Calls Try.prog 27 #[.string s] w (NoRun w) := by
  rcases two_no h with k1 | ⟨x, k1, hle, k2⟩
  · have t1 := take_of s hs k1
    rw [zag_zero] at t1
    clear h k1
    go_enter Try.func27, Try.ntmps27
    go_wp2_with fail
    refine (t1 _).mono ?_
    rintro e w1 ⟨rfl, rfl⟩
    go_wp2_with fail
    exact bodyPost_ret (v := .tuple #[.agg #[.int .i64 0, .int .i64 0, .int .i64 0], .int .i64 0, .int .i64 20]) (by simp [results, Try.results27, go_sem]) rfl ⟨⟨0, 0, 0, 0, rfl⟩, below1 _ _⟩
  · have t1 := take_of s hs k1
    have t2 := take_at s hs (enc1 x).length k2
    rw [zag_zig] at t1
    rw [zag_zero] at t2
    have b1 := enc1_bd x
    have hsl : s.size = s.data.toList.length := Lib.size_eq s
    rw [← hsl] at hle
    generalize (enc1 x).length = L1 at *
    have hu1 : (0 : Int) ≤ (L1 : Int) ∧ (L1 : Int) ≤ (s.size : Int) := by omega
    have hu2 : (L1 : Int) ≤ (s.size : Int) := by omega
    have hL : (L1 : Int) ≤ 10 := by omega
    generalize x.toInt = a at *
    have hr : IntKind.i64.wrap ((L1 : Int) + 0) = (L1 : Int) + 0 := by rw [IntKind.wrap_i64]; omega
    clear h hsl b1 hs k1 k2
    go_enter Try.func27, Try.ntmps27
    go_wp2_with fail
    refine (t1 _).mono ?_
    rintro e w1 ⟨rfl, rfl⟩
    go_wp2_with fail
    refine (t2 _).mono ?_
    rintro e w1 ⟨rfl, rfl⟩
    go_wp2_with fail
    exact bodyPost_ret (v := .tuple #[.agg #[.int .i64 a, .int .i64 0, .int .i64 0], .int .i64 (L1 : Int), .int .i64 20]) (by simp [results, Try.results27, go_sem]) rfl ⟨⟨a, 0, 0, L1, rfl⟩, below1 _ _⟩
end Go.Proofs.Ytlohljefhcidkaa
